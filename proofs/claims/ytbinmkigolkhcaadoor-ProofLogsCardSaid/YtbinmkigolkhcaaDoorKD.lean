/- Accuse. -/
import Derived.Test.YtbinmkigolkhcaaDoorKC
set_option linter.unusedSimpArgs false
set_option linter.unusedVariables false
namespace Go.Proofs.YtbinmkigolkhcaaDoor
open Go.RowKit Go.Sort
attribute [local go_sem] Oper.semAt_some

set_option maxHeartbeats 4000000 in
set_option maxRecDepth 100000 in
theorem Accuse_any (i n : Int) (A : Option Addr) (n1 c1 : Nat) (l1 : List UInt8) (S : Option Addr) (m1 d1 : Nat) (s1 : List St) (B : Option Addr) (n2 c2 : Nat) (l2 : List UInt8) (T : Option Addr) (m2 d2 : Nat) (s2 : List St) (w : World)
    (hx : BytesAt w.heap.size w A n1 l1) (hs : StepsAt w.heap.size w S m1 s1) (hm1 : m1 ≤ 1000000) (hy : BytesAt w.heap.size w B n2 l2) (ht : StepsAt w.heap.size w T m2 s2) (hm2 : m2 ≤ 1000000) :
    Calls Tryd.prog 38 #[.int .i64 i, .int .i64 n, .slice A n1 c1, .slice S m1 d1, .slice B n2 c2, .slice T m2 d2] w (AccPost (accE i n l1 s1 l2 s2) l1 s1 l2 s2 w) := by
  have mixed := mixedOrders
  have hal : Below w.heap.size w (w.alloc (.cells #[.slice none 0 0, .slice none 0 0] 52)) := (Below.refl _ w).alloc (Nat.le_refl _) _
  have hz0 : BoxB (w.alloc (.cells #[.slice none 0 0, .slice none 0 0] 52)) w.heap.size (.slice none 0 0) (.slice none 0 0) := heap_alloc_new w _
  obtain ⟨W, hW⟩ : ∃ W, w.alloc (.cells #[.slice none 0 0, .slice none 0 0] 52) = W := ⟨_, rfl⟩
  rw [hW] at hal hz0
  have xW := hx.now hal (Nat.le_refl _)
  have yW := hy.now hal (Nat.le_refl _)
  have sW := hs.now hal (Nat.le_refl _)
  have tW := ht.now hal (Nat.le_refl _)
  have hl1 := hx.1
  have hl2 := hy.1
  have ls1 := hs.1
  have ls2 := ht.1
  obtain ⟨p, hp⟩ : ∃ p, w.heap.size = p := ⟨_, rfl⟩
  rw [hp] at hal hz0
  have HP := hide (isPlace_any i n W)
  have HT1 := hide (isTooLong_any A n1 c1 W)
  have HT2 := hide (isTooLong_any B n2 c2 W)
  have HE := hide (bytesEq_any A n1 c1 B n2 c2 l1 l2 W xW yW)
  obtain ⟨eb, heb⟩ : ∃ b, decide (l1 = l2) = b := ⟨_, rfl⟩
  obtain ⟨t1, ht1⟩ : ∃ b, decide ((256 : Int) < (n1 : Int)) = b := ⟨_, rfl⟩
  obtain ⟨t2, ht2⟩ : ∃ b, decide ((256 : Int) < (n2 : Int)) = b := ⟨_, rfl⟩
  rw [ht1] at HT1
  rw [ht2] at HT2
  rw [heb] at HE
  have HX := hide xW
  have HY := hide yW
  have HS := hide sW
  have HTT := hide tW
  have HW := hide (And.intro hW hp)
  have HAL := hide hal
  have HZ0 := hide hz0
  have HL := hide (show l1.length = n1 ∧ l2.length = n2 ∧ s1.length = m1 ∧ s2.length = m2 ∧ m1 ≤ 1000000 ∧ m2 ≤ 1000000 from ⟨hl1, hl2, ls1, ls2, hm1, hm2⟩)
  have HB := hide heb
  have HU1 := hide ht1
  have HU2 := hide ht2
  clear hx hs hy ht xW yW sW tW hl1 hl2 ls1 ls2 hm1 hm2 hW hp hal hz0 heb ht1 ht2
  cases hpl : placeB i n
  · have hE : accE i n l1 s1 l2 s2 = 2 := by unfold accE; rw [if_pos hpl]
    rw [hE]
    rw [hpl] at HP
    clear hpl hE
    go_enter Tryd.func38, Tryd.ntmps38
    go_wp2_with fail
    rw [HW.out.1, HW.out.2]
    refine HP.out.mono ?_
    rintro e w1 ⟨rfl, rfl⟩
    obtain ⟨u0, u1, uf0, uf1⟩ := HZ0.out.facts
    go_wp2_with fail
    refine bodyPost_ret (v := .tuple #[.agg #[.slice none 0 0, .slice none 0 0], .int .i64 2]) (by simp [results, Tryd.results38, go_sem, u0, u1, uf0, uf1]) rfl ?_
    exact acc_err HW.out.2 HZ0.out HAL.out (by decide)
  · rw [hpl] at HP
    have hpl2 := hpl
    unfold placeB at hpl2
    have hpp := of_decide_eq_true hpl2
    obtain ⟨i', rfl⟩ : ∃ k : Nat, i = k := ⟨i.toNat, by omega⟩
    obtain ⟨n', rfl⟩ : ∃ k : Nat, n = k := ⟨n.toNat, by omega⟩
    have HL1 := hide (leadFrom_any i' n' S m1 d1 s1 W (by omega) (by omega) HS.out HL.out.2.2.2.2.1)
    have HL2 : Hid (∀ w2, Below W.heap.size W w2 → Calls Tryd.prog 68 #[.int .i64 i', .int .i64 n', .slice T m2 d2] w2 fun e w' => e = .returned (.bool (leadB s2 (sidesV i' n'))) ∧ Below w2.heap.size w2 w') :=
      fun w2 hb => leadFrom_any i' n' T m2 d2 s2 w2 (by omega) (by omega) (HTT.out.now hb (Nat.le_refl _)) HL.out.2.2.2.2.2
    obtain ⟨L, hL⟩ : ∃ L, sidesV i' n' = L := ⟨_, rfl⟩
    rw [hL] at HL1 HL2
    obtain ⟨g1, hg1⟩ : ∃ b, leadB s1 L = b := ⟨_, rfl⟩
    obtain ⟨g2, hg2⟩ : ∃ b, leadB s2 L = b := ⟨_, rfl⟩
    rw [hg1] at HL1
    rw [hg2] at HL2
    have HPL := hide (And.intro hpl hL)
    have HG := hide (And.intro hg1 hg2)
    clear hpl hpl2 hpp hL hg1 hg2
    have HER : Hid (accE i' n' l1 s1 l2 s2 = if t1 = true then 3 else if t2 = true then 3 else if eb = true then 11 else if g1 = false then 11 else if g2 = false then 11 else if followV l1 s1 = followV l2 s2 then 0 else 11) := by
      have q1 : t1 = true ↔ 256 < l1.length := by rw [← HU1.out, decide_eq_true_iff, HL.out.1]; omega
      have q2 : t2 = true ↔ 256 < l2.length := by rw [← HU2.out, decide_eq_true_iff, HL.out.2.1]; omega
      have q3 : eb = true ↔ l1 = l2 := by rw [← HB.out, decide_eq_true_iff]
      unfold accE
      rw [if_neg (by rw [HPL.out.1]; decide), Int.toNat_natCast, Int.toNat_natCast, HPL.out.2, HG.out.1, HG.out.2]
      simp only [q1, q2, q3]
      exact trivial
    obtain ⟨E, hE⟩ : ∃ E, accE i' n' l1 s1 l2 s2 = E := ⟨_, rfl⟩
    rw [hE] at HER
    rw [hE]
    clear hE
    go_enter Tryd.func38, Tryd.ntmps38
    go_wp2_with fail
    rw [HW.out.1, HW.out.2]
    refine HP.out.mono ?_
    rintro e w1 ⟨rfl, rfl⟩
    go_wp2_with fail
    refine HT1.out.mono ?_
    rintro e w1 ⟨rfl, rfl⟩
    cases t1
    rotate_left
    · obtain rfl : E = 3 := HER.out
      obtain ⟨u0, u1, uf0, uf1⟩ := HZ0.out.facts
      go_wp2_with fail
      refine bodyPost_ret (v := .tuple #[.agg #[.slice none 0 0, .slice none 0 0], .int .i64 3]) (by simp [results, Tryd.results38, go_sem, u0, u1, uf0, uf1]) rfl ?_
      exact acc_err HW.out.2 HZ0.out HAL.out (by decide)
    go_wp2_with fail
    refine HT2.out.mono ?_
    rintro e w1 ⟨rfl, rfl⟩
    cases t2
    rotate_left
    · obtain rfl : E = 3 := HER.out
      obtain ⟨u0, u1, uf0, uf1⟩ := HZ0.out.facts
      go_wp2_with fail
      refine bodyPost_ret (v := .tuple #[.agg #[.slice none 0 0, .slice none 0 0], .int .i64 3]) (by simp [results, Tryd.results38, go_sem, u0, u1, uf0, uf1]) rfl ?_
      exact acc_err HW.out.2 HZ0.out HAL.out (by decide)
    go_wp2_with fail
    refine HE.out.mono ?_
    rintro e w1 ⟨rfl, rfl⟩
    cases eb
    rotate_left
    · obtain rfl : E = 11 := HER.out
      obtain ⟨u0, u1, uf0, uf1⟩ := HZ0.out.facts
      go_wp2_with fail
      refine bodyPost_ret (v := .tuple #[.agg #[.slice none 0 0, .slice none 0 0], .int .i64 11]) (by simp [results, Tryd.results38, go_sem, u0, u1, uf0, uf1]) rfl ?_
      exact acc_err HW.out.2 HZ0.out HAL.out (by decide)
    go_wp2_with fail
    refine HL1.out.mono ?_
    rintro e w2 ⟨rfl, hb2⟩
    have HB2 := hide hb2
    have HZ2 := hide (HZ0.out.below hb2)
    have HA2 := hide (HAL.out.trans (hb2.mono (Nat.le_of_lt HZ0.out.lt)))
    clear hb2
    cases g1
    · obtain rfl : E = 11 := HER.out
      obtain ⟨u0, u1, uf0, uf1⟩ := HZ2.out.facts
      go_wp2_with fail
      refine bodyPost_ret (v := .tuple #[.agg #[.slice none 0 0, .slice none 0 0], .int .i64 11]) (by simp [results, Tryd.results38, go_sem, u0, u1, uf0, uf1]) rfl ?_
      exact acc_err HW.out.2 HZ2.out HA2.out (by decide)
    go_wp2_with fail
    refine (HL2.out w2 HB2.out).mono ?_
    rintro e w3 ⟨rfl, hb3⟩
    have HB3 := hide (HB2.out.trans (hb3.mono HB2.out.size))
    have HZ3 := hide (HZ2.out.below hb3)
    have HA3 := hide (HA2.out.trans (hb3.mono (Nat.le_of_lt HZ2.out.lt)))
    clear hb3 HB2 HZ2 HA2
    cases g2
    · obtain rfl : E = 11 := HER.out
      obtain ⟨u0, u1, uf0, uf1⟩ := HZ3.out.facts
      go_wp2_with fail
      refine bodyPost_ret (v := .tuple #[.agg #[.slice none 0 0, .slice none 0 0], .int .i64 11]) (by simp [results, Tryd.results38, go_sem, u0, u1, uf0, uf1]) rfl ?_
      exact acc_err HW.out.2 HZ3.out HA3.out (by decide)
    have HLN := hide (lead_same HG.out.1 HG.out.2)
    have hmm : m1 = m2 := by rw [← HL.out.2.2.1, ← HL.out.2.2.2.1]; exact HLN.out
    subst hmm
    have hn1 : n1 ≤ 256 := by have := of_decide_eq_false HU1.out; omega
    have hn2 : n2 ≤ 256 := by have := of_decide_eq_false HU2.out; omega
    have HF1 := hide (Follow_any A n1 c1 l1 S m1 d1 s1 w3 (HX.out.now HB3.out (Nat.le_refl _)) (by omega) (HS.out.now HB3.out (Nat.le_refl _)) HL.out.2.2.2.2.1)
    have HF2 : Hid (∀ w4, Below w3.heap.size w3 w4 → Calls Tryd.prog 34 #[.slice B n2 c2, .slice T m1 d2] w4 fun e w' => e = .returned (.int .u64 (followV l2 s2 : Nat)) ∧ Below w4.heap.size w4 w') :=
      fun w4 hb => Follow_any B n2 c2 l2 T m1 d2 s2 w4 ((HY.out.now HB3.out (Nat.le_refl _)).now hb (Nat.le_refl _)) (by omega) ((HTT.out.now HB3.out (Nat.le_refl _)).now hb (Nat.le_refl _)) HL.out.2.2.2.2.1
    have HC : Hid (∀ w4, Below w3.heap.size w3 w4 → Calls Tryd.prog 75 #[.slice A n1 c1, .slice S m1 d1, .slice B n2 c2, .slice T m1 d2] w4 (CollPost l1 s1 l2 s2 m1 w4)) :=
      fun w4 hb => collision_any A n1 c1 l1 S m1 d1 s1 B n2 c2 l2 T d2 s2 w4 ((HX.out.now HB3.out (Nat.le_refl _)).now hb (Nat.le_refl _)) (by omega) ((HS.out.now HB3.out (Nat.le_refl _)).now hb (Nat.le_refl _)) ((HY.out.now HB3.out (Nat.le_refl _)).now hb (Nat.le_refl _)) (by omega) ((HTT.out.now HB3.out (Nat.le_refl _)).now hb (Nat.le_refl _)) HL.out.2.2.2.2.1
    have HK : Hid (followV l1 s1 = followV l2 s2 → mixV (levF l1 s1 m1) = mixV (levF l2 s2 m1)) := by
      intro h
      have a1 := mix_lev l1 s1 m1 (by rw [HL.out.2.2.1]; exact Nat.le_refl _)
      have a2 := mix_lev l2 s2 m1 (by rw [HL.out.2.2.2.1]; exact Nat.le_refl _)
      rw [List.take_of_length_le (by rw [HL.out.2.2.1]; exact Nat.le_refl _)] at a1
      rw [List.take_of_length_le (by rw [HL.out.2.2.2.1]; exact Nat.le_refl _)] at a2
      rw [a1, a2, h]
    obtain ⟨f1, hf1⟩ : ∃ f, followV l1 s1 = f := ⟨_, rfl⟩
    obtain ⟨f2, hf2⟩ : ∃ f, followV l2 s2 = f := ⟨_, rfl⟩
    rw [hf1] at HF1 HER HK
    rw [hf2] at HF2 HER HK
    clear hf1 hf2 hn1 hn2 HX HY HS HTT HP HT1 HT2 HE HL1 HL2
    go_wp2_with fail
    refine HF1.out.mono ?_
    rintro e w4 ⟨rfl, hb4⟩
    have HB4 := hide hb4
    clear hb4
    go_wp2_with fail
    refine (HF2.out w4 HB4.out).mono ?_
    rintro e w5 ⟨rfl, hb5⟩
    have HB5 := hide (HB4.out.trans (hb5.mono HB4.out.size))
    clear hb5 HB4
    have HZ5 := hide (HZ3.out.below HB5.out)
    have HA5 := hide (HA3.out.trans (HB5.out.mono (Nat.le_of_lt HZ3.out.lt)))
    by_cases hff : f1 = f2
    · have zz : ((f1 : Int) == (f2 : Int)) = true := beq_iff_eq.2 (by omega)
      obtain rfl : E = 0 := by rw [HER.out]; simp [hff]
      have HKK := hide (HK.out hff)
      clear hff
      go_wp2_with fail
      refine (HC.out w5 HB5.out).mono ?_
      rintro e w6 ⟨k, a1, k1, e1, a2, k2, e2, rfl, hx1, hx2, hk1, hk2, hkm, hno, hyes, hb6⟩
      have HX1 := hide hx1
      have HX2 := hide hx2
      have HFK : Hid (FirstK l1 s1 l2 s2 k) := by
        refine ⟨hno, ?_⟩
        rcases Nat.lt_or_ge k m1 with h | h
        · exact hyes h
        · obtain rfl : k = m1 := by omega
          exact HKK.out
      have HZ6 := hide (HZ5.out.below hb6)
      have HA6 := hide (HA5.out.trans (hb6.mono (Nat.le_of_lt HZ5.out.lt)))
      clear hx1 hx2 hk1 hk2 hkm hno hyes hb6
      obtain ⟨u0, u1, uf0, uf1⟩ := HZ6.out.facts
      go_wp2_with fail
      refine bodyPost_ret (v := .tuple #[.agg #[.slice a1 k1 e1, .slice a2 k2 e2], .int .i64 0]) (by simp [results, Tryd.results38, go_sem, u0, u1, uf0, uf1]) rfl ?_
      exact acc_ok HW.out.2 HZ6.out HA6.out HX1.out HX2.out HFK.out
    · have zz : ((f1 : Int) == (f2 : Int)) = false := beq_eq_false_iff_ne.2 (by omega)
      obtain rfl : E = 11 := by rw [HER.out]; simp [hff]
      clear hff
      obtain ⟨u0, u1, uf0, uf1⟩ := HZ5.out.facts
      go_wp2_with fail
      refine bodyPost_ret (v := .tuple #[.agg #[.slice none 0 0, .slice none 0 0], .int .i64 11]) (by simp [results, Tryd.results38, go_sem, u0, u1, uf0, uf1]) rfl ?_
      exact acc_err HW.out.2 HZ5.out HA5.out (by decide)
end Go.Proofs.YtbinmkigolkhcaaDoor
