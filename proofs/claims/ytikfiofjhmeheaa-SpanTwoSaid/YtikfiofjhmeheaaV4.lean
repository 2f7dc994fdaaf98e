/- The walk of SpanTwo. -/
import Derived.Test.YtikfiofjhmeheaaN14
import Derived.Test.YtikfiofjhmeheaaV3
namespace Go.Proofs.Ytikfiofjhmeheaa
open Go.RowKit Go.Sort

set_option maxHeartbeats 8000000 in
set_option maxRecDepth 100000 in
theorem two_law (A A' : Option Addr) (n cap m cap' : Nat) (xs ys : List Sp) (w : World) (hx : SpansAt w.heap.size w A n xs) (hy : SpansAt w.heap.size w A' m ys) :
    Calls Try.prog 4 #[.slice A n cap, .slice A' m cap'] w (LawPost w) := by
  have HX := hide hx
  have HY := hide hy
  clear hx hy
  have HDONE : Hid (∀ W, Below w.heap.size w W → Calls Try.prog 16 #[] W fun e w' => e = .returned (.bool true) ∧ Below w.heap.size w w') := fun W hb => (alive_any W).mono fun _ _ ⟨he, h⟩ => ⟨he, hb.trans (h.mono hb.size)⟩
  by_cases hn : (n : Int) ≤ 140
  · have hn' : n ≤ 1000000 := by omega
    by_cases hm : (m : Int) ≤ 140
    · have hm' : m ≤ 1000000 := by omega
      have hd : decide ((n : Int) ≤ 140) = true := decide_eq_true hn
      have hd2 : decide ((m : Int) ≤ 140) = true := decide_eq_true hm
      go_enter Try.func4, Try.ntmps4
      go_wp2_with fail
      refine (few_any A n cap w).mono ?_
      rintro e w2 ⟨rfl, rfl⟩
      go_wp2_with fail
      refine (few_any A' m cap' w).mono ?_
      rintro e w2 ⟨rfl, rfl⟩
      go_wp2_with fail
      refine (own_any A n cap xs w HX.out hn').mono ?_
      rintro e w2 ⟨rfl, hm2, hb2⟩
      have HL2 : Hid (LawI w w2 A n w.heap.size xs) := ⟨hm2, HX.out.now hb2 (Nat.le_refl _), hb2⟩
      have HY2 := hide (HY.out.now hb2 (Nat.le_refl _))
      clear hm2 hb2 HX HY
      go_wp2_with fail
      refine (own_any A' m cap' ys w2 HY2.out hm').mono ?_
      rintro e w3 ⟨rfl, hm3, hb3⟩
      have HL3 := hide (HL2.out.now hb3)
      have HM3 : Hid (LawI w w3 A' m w2.heap.size ys) := ⟨hm3, HY2.out.now hb3 (Nat.le_refl _), HL3.out.below⟩
      clear hm3 hb3 HL2 HY2
      obtain ⟨g1, hg1⟩ : ∃ g, g = w.heap.size := ⟨_, rfl⟩
      rw [← hg1] at HL3 ⊢
      clear hg1
      generalize w2.heap.size = g2 at HM3 ⊢
      go_wp2
      go_loopw [7] (fun vt wr => ∃ t : Nat, t ≤ 2 ∧ vt = .int .i64 t ∧ Hid (LawI w wr A n g1 xs) ∧ Hid (LawI w wr A' m g2 ys)) (fun vt _ => 2 - (intOf vt).toNat)
      case atStart => exact ⟨0, by omega, rfl, HL3, HM3⟩
      case round =>
        clear HL3 HM3
        obtain ⟨t, ht, rfl, HL0, HM0⟩ := hrel
        by_cases hlt : t < 2
        · as_aux_lemma =>
          have hlt' : (t : Int) < 2 := by omega
          -- 1
          have hq1 := com_two (kind := 0) (keep := (fun p q => p || q)) (xs := xs) (ys := ys) (fun p q => by cases p <;> cases q <;> rfl)
          have hl1 := comV_length (fun p q => p || q) xs ys
          obtain ⟨zs1, hz1⟩ : ∃ zs, zs = comV (fun p q => p || q) xs ys := ⟨_, rfl⟩
          obtain ⟨ce1, hc1⟩ : ∃ ce, ce = comE (fun p q => p || q) xs ys := ⟨_, rfl⟩
          rw [← hz1, ← hc1] at hq1
          rw [← hz1] at hl1
          have HQ1 := hide hq1
          have HZ1 := hide hz1
          have HC1 := hide hc1
          clear hq1 hz1 hc1
          go_wp2_with fail
          refine (Union_any (some ⟨g1, 0, none⟩) (some ⟨g2, 0, none⟩) n (n + 1) m (m + 1) xs ys _ HL0.out.copy HM0.out.copy).mono ?_
          rintro e w6 ⟨a6, c6, rfl, ho6, hb6⟩
          rw [← HC1.out, ← HZ1.out]
          rw [← HZ1.out] at ho6
          have HO6 := hide ho6
          have HB6 := hide hb6
          clear ho6 hb6
          go_wp2_with fail
          refine (refTwo_any 0 (.inl rfl) A A' n cap m cap' xs ys w6 (HL0.out.now HB6.out).arg (HM0.out.now HB6.out).arg).mono ?_
          rintro e w7 ⟨a7, c7, rfl, ho7, hb7⟩
          rw [← HQ1.out.1, ← HQ1.out.2]
          rw [← HQ1.out.1] at ho7
          have hsa := same_any a6 a7 zs1.length c6 zs1.length c7 zs1 zs1 w7 (spans_of_own (own_below HO6.out hb7) rfl) (spans_of_own ho7 rfl) (by omega) (by omega)
          rw [decide_eq_true rfl] at hsa
          have HSA := hide hsa
          have HO7 := hide (own_below HO6.out hb7)
          have HB7 := hide (HB6.out.trans (hb7.mono HB6.out.size))
          clear ho7 hb7 hsa HO6 HB6
          go_wp2_with fail
          refine HSA.out.mono ?_
          rintro e w8 ⟨rfl, q8, rfl⟩
          have hb8 := drewN_below w7 q8
          have HO8 := hide (own_below HO7.out hb8)
          have HB8 := hide (HB7.out.trans (hb8.mono HB7.out.size))
          clear hb8 HSA HO7 HB7 HQ1 HZ1 HC1
          generalize w7.drewN q8 = w8 at HO8 HB8 ⊢
          go_wp2_with fail
          refine (spoil_any _ a6 zs1.length c6 _ w8 (by omega) HO8.out).mono ?_
          rintro e wn1 ⟨rfl, hg9⟩
          have hb9 := spoiled HO8.out HB8.out hg9
          have HL1 := hide (HL0.out.now hb9)
          have HM1 := hide (HM0.out.now hb9)
          clear HO8 HB8 hg9 hb9 HL0 HM0 hl1
          -- 2
          have hq2 := com_two (kind := 1) (keep := (fun p q => p && q)) (xs := xs) (ys := ys) (fun p q => by cases p <;> cases q <;> rfl)
          have hl2 := comV_length (fun p q => p && q) xs ys
          obtain ⟨zs2, hz2⟩ : ∃ zs, zs = comV (fun p q => p && q) xs ys := ⟨_, rfl⟩
          obtain ⟨ce2, hc2⟩ : ∃ ce, ce = comE (fun p q => p && q) xs ys := ⟨_, rfl⟩
          rw [← hz2, ← hc2] at hq2
          rw [← hz2] at hl2
          have HQ2 := hide hq2
          have HZ2 := hide hz2
          have HC2 := hide hc2
          clear hq2 hz2 hc2
          go_wp2_with fail
          refine (Intersect_any (some ⟨g1, 0, none⟩) (some ⟨g2, 0, none⟩) n (n + 1) m (m + 1) xs ys _ HL1.out.copy HM1.out.copy).mono ?_
          rintro e w6 ⟨a6, c6, rfl, ho6, hb6⟩
          rw [← HC2.out, ← HZ2.out]
          rw [← HZ2.out] at ho6
          have HO6 := hide ho6
          have HB6 := hide hb6
          clear ho6 hb6
          go_wp2_with fail
          refine (refTwo_any 1 (.inr (.inl rfl)) A A' n cap m cap' xs ys w6 (HL1.out.now HB6.out).arg (HM1.out.now HB6.out).arg).mono ?_
          rintro e w7 ⟨a7, c7, rfl, ho7, hb7⟩
          rw [← HQ2.out.1, ← HQ2.out.2]
          rw [← HQ2.out.1] at ho7
          have hsa := same_any a6 a7 zs2.length c6 zs2.length c7 zs2 zs2 w7 (spans_of_own (own_below HO6.out hb7) rfl) (spans_of_own ho7 rfl) (by omega) (by omega)
          rw [decide_eq_true rfl] at hsa
          have HSA := hide hsa
          have HO7 := hide (own_below HO6.out hb7)
          have HB7 := hide (HB6.out.trans (hb7.mono HB6.out.size))
          clear ho7 hb7 hsa HO6 HB6
          go_wp2_with fail
          refine HSA.out.mono ?_
          rintro e w8 ⟨rfl, q8, rfl⟩
          have hb8 := drewN_below w7 q8
          have HO8 := hide (own_below HO7.out hb8)
          have HB8 := hide (HB7.out.trans (hb8.mono HB7.out.size))
          clear hb8 HSA HO7 HB7 HQ2 HZ2 HC2
          generalize w7.drewN q8 = w8 at HO8 HB8 ⊢
          go_wp2_with fail
          refine (spoil_any _ a6 zs2.length c6 _ w8 (by omega) HO8.out).mono ?_
          rintro e wn2 ⟨rfl, hg9⟩
          have hb9 := spoiled HO8.out HB8.out hg9
          have HL2 := hide (HL1.out.now hb9)
          have HM2 := hide (HM1.out.now hb9)
          clear HO8 HB8 hg9 hb9 HL1 HM1 hl2
          -- 3
          have hq3 := com_two (kind := 2) (keep := (fun p q => p && !q)) (xs := xs) (ys := ys) (fun p q => by cases p <;> cases q <;> rfl)
          have hl3 := comV_length (fun p q => p && !q) xs ys
          obtain ⟨zs3, hz3⟩ : ∃ zs, zs = comV (fun p q => p && !q) xs ys := ⟨_, rfl⟩
          obtain ⟨ce3, hc3⟩ : ∃ ce, ce = comE (fun p q => p && !q) xs ys := ⟨_, rfl⟩
          rw [← hz3, ← hc3] at hq3
          rw [← hz3] at hl3
          have HQ3 := hide hq3
          have HZ3 := hide hz3
          have HC3 := hide hc3
          clear hq3 hz3 hc3
          go_wp2_with fail
          refine (Subtract_any (some ⟨g1, 0, none⟩) (some ⟨g2, 0, none⟩) n (n + 1) m (m + 1) xs ys _ HL2.out.copy HM2.out.copy).mono ?_
          rintro e w6 ⟨a6, c6, rfl, ho6, hb6⟩
          rw [← HC3.out, ← HZ3.out]
          rw [← HZ3.out] at ho6
          have HO6 := hide ho6
          have HB6 := hide hb6
          clear ho6 hb6
          go_wp2_with fail
          refine (refTwo_any 2 (.inr (.inr rfl)) A A' n cap m cap' xs ys w6 (HL2.out.now HB6.out).arg (HM2.out.now HB6.out).arg).mono ?_
          rintro e w7 ⟨a7, c7, rfl, ho7, hb7⟩
          rw [← HQ3.out.1, ← HQ3.out.2]
          rw [← HQ3.out.1] at ho7
          have hsa := same_any a6 a7 zs3.length c6 zs3.length c7 zs3 zs3 w7 (spans_of_own (own_below HO6.out hb7) rfl) (spans_of_own ho7 rfl) (by omega) (by omega)
          rw [decide_eq_true rfl] at hsa
          have HSA := hide hsa
          have HO7 := hide (own_below HO6.out hb7)
          have HB7 := hide (HB6.out.trans (hb7.mono HB6.out.size))
          clear ho7 hb7 hsa HO6 HB6
          go_wp2_with fail
          refine HSA.out.mono ?_
          rintro e w8 ⟨rfl, q8, rfl⟩
          have hb8 := drewN_below w7 q8
          have HO8 := hide (own_below HO7.out hb8)
          have HB8 := hide (HB7.out.trans (hb8.mono HB7.out.size))
          clear hb8 HSA HO7 HB7 HQ3 HZ3 HC3
          generalize w7.drewN q8 = w8 at HO8 HB8 ⊢
          go_wp2_with fail
          refine (spoil_any _ a6 zs3.length c6 _ w8 (by omega) HO8.out).mono ?_
          rintro e wn3 ⟨rfl, hg9⟩
          have hb9 := spoiled HO8.out HB8.out hg9
          have HL3 := hide (HL2.out.now hb9)
          have HM3 := hide (HM2.out.now hb9)
          clear HO8 HB8 hg9 hb9 HL2 HM2 hl3
          -- 4
          have hq4 := com_not (xs := xs)
          have hl4 := comV_length (fun p _ => !p) xs []
          obtain ⟨zs4, hz4⟩ : ∃ zs, zs = comV (fun p _ => !p) xs [] := ⟨_, rfl⟩
          obtain ⟨ce4, hc4⟩ : ∃ ce, ce = comE (fun p _ => !p) xs [] := ⟨_, rfl⟩
          rw [← hz4, ← hc4] at hq4
          rw [← hz4] at hl4
          have HQ4 := hide hq4
          have HZ4 := hide hz4
          have HC4 := hide hc4
          clear hq4 hz4 hc4
          go_wp2_with fail
          refine (Not_any (some ⟨g1, 0, none⟩) n (n + 1) xs _ HL3.out.copy).mono ?_
          rintro e w6 ⟨a6, c6, rfl, ho6, hb6⟩
          rw [← HC4.out, ← HZ4.out]
          rw [← HZ4.out] at ho6
          have HO6 := hide ho6
          have HB6 := hide hb6
          clear ho6 hb6
          go_wp2_with fail
          refine (refNot_any A n cap xs w6 (HL3.out.now HB6.out).arg).mono ?_
          rintro e w7 ⟨a7, c7, rfl, ho7, hb7⟩
          rw [← HQ4.out.1, ← HQ4.out.2]
          rw [← HQ4.out.1] at ho7
          have hsa := same_any a6 a7 zs4.length c6 zs4.length c7 zs4 zs4 w7 (spans_of_own (own_below HO6.out hb7) rfl) (spans_of_own ho7 rfl) (by omega) (by omega)
          rw [decide_eq_true rfl] at hsa
          have HSA := hide hsa
          have HO7 := hide (own_below HO6.out hb7)
          have HB7 := hide (HB6.out.trans (hb7.mono HB6.out.size))
          clear ho7 hb7 hsa HO6 HB6
          go_wp2_with fail
          refine HSA.out.mono ?_
          rintro e w8 ⟨rfl, q8, rfl⟩
          have hb8 := drewN_below w7 q8
          have HO8 := hide (own_below HO7.out hb8)
          have HB8 := hide (HB7.out.trans (hb8.mono HB7.out.size))
          clear hb8 HSA HO7 HB7 HQ4 HZ4 HC4
          generalize w7.drewN q8 = w8 at HO8 HB8 ⊢
          go_wp2_with fail
          refine (spoil_any _ a6 zs4.length c6 _ w8 (by omega) HO8.out).mono ?_
          rintro e wn4 ⟨rfl, hg9⟩
          have hb9 := spoiled HO8.out HB8.out hg9
          have HL4 := hide (HL3.out.now hb9)
          have HM4 := hide (HM3.out.now hb9)
          clear HO8 HB8 hg9 hb9 HL3 HM3 hl4
          go_wp2
          go_roundw
          case rel => exact ⟨t + 1, by omega, by go_num, HL4, HM4⟩
          case measure => simp [intOf]; omega
        · have hlt' : ¬ (t : Int) < 2 := by omega
          go_wp2_with fail
          refine (HL0.out.kept cap hn').mono ?_
          rintro e w8 ⟨rfl, hb8⟩
          have HM8 := hide (HM0.out.now hb8)
          clear hb8 HL0 HM0
          go_wp2_with fail
          refine (HM8.out.kept cap' hm').mono ?_
          rintro e w9 ⟨rfl, hb9⟩
          have HB9 := hide (HM8.out.now hb9).below
          clear hb9 HM8
          go_wp2_with fail
          refine (HDONE.out _ HB9.out).mono ?_
          rintro e w8 ⟨rfl, hb⟩
          have HB := hide hb
          clear hb HB9 HDONE
          go_wp2
          go_ret
          exact ⟨rfl, HB.out⟩
    · have hd : decide ((n : Int) ≤ 140) = true := decide_eq_true hn
      have hd2 : decide ((m : Int) ≤ 140) = false := decide_eq_false hm
      go_enter Try.func4, Try.ntmps4
      go_wp2_with fail
      refine (few_any A n cap w).mono ?_
      rintro e w2 ⟨rfl, rfl⟩
      go_wp2_with fail
      refine (few_any A' m cap' w).mono ?_
      rintro e w2 ⟨rfl, rfl⟩
      go_wp2_with fail
      refine (HDONE.out _ (Below.refl _ _)).mono ?_
      rintro e w8 ⟨rfl, hb⟩
      have HB := hide hb
      clear hb HDONE HX HY
      go_wp2
      go_ret
      exact ⟨rfl, HB.out⟩
  · have hd : decide ((n : Int) ≤ 140) = false := decide_eq_false hn
    go_enter Try.func4, Try.ntmps4
    go_wp2_with fail
    refine (few_any A n cap w).mono ?_
    rintro e w2 ⟨rfl, rfl⟩
    go_wp2_with fail
    refine (HDONE.out _ (Below.refl _ _)).mono ?_
    rintro e w8 ⟨rfl, hb⟩
    have HB := hide hb
    clear hb HDONE HX HY
    go_wp2
    go_ret
    exact ⟨rfl, HB.out⟩

end Go.Proofs.Ytikfiofjhmeheaa
