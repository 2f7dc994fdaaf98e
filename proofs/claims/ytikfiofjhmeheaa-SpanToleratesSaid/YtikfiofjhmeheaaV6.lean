/- The walk of SpanTolerates. -/
import Derived.Test.YtikfiofjhmeheaaN9
import Derived.Test.YtikfiofjhmeheaaN15
import Derived.Test.YtikfiofjhmeheaaV3
namespace Go.Proofs.Ytikfiofjhmeheaa
open Go.RowKit Go.Sort

theorem tolV_length (f : Sp → Sp) (xs : List Sp) (r : Int) : (tolV f xs r).length ≤ 1000000 := by
  unfold tolV
  split
  · rename_i h
    have := resTo_length f xs
    have := (tol_set h).2.1
    omega
  · simp

set_option maxHeartbeats 4000000 in
set_option maxRecDepth 100000 in
theorem tolerates_law (A : Option Addr) (n cap : Nat) (r : Int) (xs : List Sp) (w : World) (hx : SpansAt w.heap.size w A n xs) :
    Calls Try.prog 6 #[.slice A n cap, .int .i64 r] w (LawPost w) := by
  have HX := hide hx
  clear hx
  have HDONE : Hid (∀ W, Below w.heap.size w W → Calls Try.prog 16 #[] W fun e w' => e = .returned (.bool true) ∧ Below w.heap.size w w') := fun W hb => (alive_any W).mono fun _ _ ⟨he, h⟩ => ⟨he, hb.trans (h.mono hb.size)⟩
  go_enter Try.func6, Try.ntmps6
  go_wp2_with fail
  refine (few_any A n cap w).mono ?_
  rintro e w2 ⟨rfl, rfl⟩
  by_cases hn : (n : Int) ≤ 140
  · have hd : decide ((n : Int) ≤ 140) = true := decide_eq_true hn
    have hn' : n ≤ 1000000 := by omega
    go_wp2_with fail
    refine (own_any A n cap xs w HX.out hn').mono ?_
    rintro e w2 ⟨rfl, hm2, hb2⟩
    have HL0 : Hid (LawI w w2 A n w.heap.size xs) := ⟨hm2, HX.out.now hb2 (Nat.le_refl _), hb2⟩
    obtain ⟨g1, hg1⟩ : ∃ g, g = w.heap.size := ⟨_, rfl⟩
    rw [← hg1] at HL0 ⊢
    clear hm2 hb2 HX hg1
    -- 1
    have hl1 : (tolV (growF r) xs r).length ≤ 1000000 := tolV_length _ xs r
    obtain ⟨zs1, hz1⟩ : ∃ zs, zs = tolV (growF r) xs r := ⟨_, rfl⟩
    obtain ⟨ce1, hc1⟩ : ∃ ce, ce = tolE xs r := ⟨_, rfl⟩
    rw [← hz1] at hl1
    have HZ1 := hide hz1
    have HC1 := hide hc1
    clear hz1 hc1
    go_wp2_with fail
    refine (Grow_any (some ⟨g1, 0, none⟩) n (n + 1) r xs _ HL0.out.copy).mono ?_
    rintro e w6 ⟨a6, c6, rfl, ho6, hb6⟩
    rw [← HC1.out, ← HZ1.out]
    rw [← HZ1.out] at ho6
    have HO6 := hide ho6
    have HB6 := hide hb6
    clear ho6 hb6
    go_wp2_with fail
    refine (refGrow_any A n cap r xs w6 (HL0.out.now HB6.out).arg).mono ?_
    rintro e w7 ⟨a7, c7, rfl, ho7, hb7⟩
    rw [← HC1.out, ← HZ1.out]
    rw [← HZ1.out] at ho7
    have hsa := same_any a6 a7 zs1.length c6 zs1.length c7 zs1 zs1 w7 (spans_of_own (own_below HO6.out hb7) rfl) (spans_of_own ho7 rfl) (by omega) (by omega)
    rw [decide_eq_true rfl] at hsa
    have HSA := hide hsa
    have HO7 := hide (own_below HO6.out hb7)
    have HB7 := hide (HB6.out.trans (hb7.mono HB6.out.size))
    clear ho7 hb7 hsa HO6 HB6
    go_wp2_with fail
    refine HSA.out.mono ?_
    rintro e w8 ⟨rfl, q8, rfl⟩
    have hb8 := drewN_below w7 q8
    have HO8 := hide (own_below HO7.out hb8)
    have HB8 := hide (HB7.out.trans (hb8.mono HB7.out.size))
    clear hb8 HSA HO7 HB7 HZ1 HC1
    generalize w7.drewN q8 = w8 at HO8 HB8 ⊢
    go_wp2_with fail
    refine (spoil_any _ a6 zs1.length c6 _ w8 (by omega) HO8.out).mono ?_
    rintro e wn1 ⟨rfl, hg9⟩
    have hb9 := spoiled HO8.out HB8.out hg9
    have HL1 := hide (HL0.out.now hb9)
    clear HO8 HB8 hg9 hb9 HL0 hl1
    -- 2
    have hl2 : (tolV (shrinkF r) xs r).length ≤ 1000000 := tolV_length _ xs r
    obtain ⟨zs2, hz2⟩ : ∃ zs, zs = tolV (shrinkF r) xs r := ⟨_, rfl⟩
    obtain ⟨ce2, hc2⟩ : ∃ ce, ce = tolE xs r := ⟨_, rfl⟩
    rw [← hz2] at hl2
    have HZ2 := hide hz2
    have HC2 := hide hc2
    clear hz2 hc2
    go_wp2_with fail
    refine (Shrink_any (some ⟨g1, 0, none⟩) n (n + 1) r xs _ HL1.out.copy).mono ?_
    rintro e w6 ⟨a6, c6, rfl, ho6, hb6⟩
    rw [← HC2.out, ← HZ2.out]
    rw [← HZ2.out] at ho6
    have HO6 := hide ho6
    have HB6 := hide hb6
    clear ho6 hb6
    go_wp2_with fail
    refine (refShrink_any A n cap r xs w6 (HL1.out.now HB6.out).arg).mono ?_
    rintro e w7 ⟨a7, c7, rfl, ho7, hb7⟩
    rw [← HC2.out, ← HZ2.out]
    rw [← HZ2.out] at ho7
    have hsa := same_any a6 a7 zs2.length c6 zs2.length c7 zs2 zs2 w7 (spans_of_own (own_below HO6.out hb7) rfl) (spans_of_own ho7 rfl) (by omega) (by omega)
    rw [decide_eq_true rfl] at hsa
    have HSA := hide hsa
    have HO7 := hide (own_below HO6.out hb7)
    have HB7 := hide (HB6.out.trans (hb7.mono HB6.out.size))
    clear ho7 hb7 hsa HO6 HB6
    go_wp2_with fail
    refine HSA.out.mono ?_
    rintro e w8 ⟨rfl, q8, rfl⟩
    have hb8 := drewN_below w7 q8
    have HO8 := hide (own_below HO7.out hb8)
    have HB8 := hide (HB7.out.trans (hb8.mono HB7.out.size))
    clear hb8 HSA HO7 HB7 HZ2 HC2
    generalize w7.drewN q8 = w8 at HO8 HB8 ⊢
    go_wp2_with fail
    refine (spoil_any _ a6 zs2.length c6 _ w8 (by omega) HO8.out).mono ?_
    rintro e wn2 ⟨rfl, hg9⟩
    have hb9 := spoiled HO8.out HB8.out hg9
    have HL2 := hide (HL1.out.now hb9)
    clear HO8 HB8 hg9 hb9 HL1 hl2
    go_wp2_with fail
    refine (HL2.out.kept cap hn').mono ?_
    rintro e w8 ⟨rfl, hb8⟩
    have HB8 := hide (HL2.out.now hb8).below
    clear hb8 HL2
    go_wp2_with fail
    refine (HDONE.out _ HB8.out).mono ?_
    rintro e w9 ⟨rfl, hb⟩
    have HB := hide hb
    clear hb HB8 HDONE
    go_wp2
    go_ret
    exact ⟨rfl, HB.out⟩
  · have hd : decide ((n : Int) ≤ 140) = false := decide_eq_false hn
    go_wp2_with fail
    refine (HDONE.out _ (Below.refl _ _)).mono ?_
    rintro e w8 ⟨rfl, hb⟩
    have HB := hide hb
    clear hb HDONE HX
    go_wp2
    go_ret
    exact ⟨rfl, HB.out⟩

end Go.Proofs.Ytikfiofjhmeheaa
