/- ProofBlames. -/
import Derived.Test.YtbinmkigolkhcaaDoorKF
import Derived.Test.YtbinmkigolkhcaaDoorKG
import Derived.Deep.RegionHeld3
set_option linter.unusedSimpArgs false
set_option linter.unusedVariables false
namespace Go.Proofs.YtbinmkigolkhcaaDoor
open Go.RowKit Go.Sort
attribute [local go_sem] Oper.semAt_some

theorem inc_true {l : List UInt8} {i n : Int} {r : Nat} {s : List St} (h : (includedV l i n r s).1 = true) : placeB i n = true ∧ ¬ 256 < l.length ∧ leadB s (sidesV i.toNat n.toNat) = true ∧ followV l s = r ∧ (includedV l i n r s).2 = 0 := by
  unfold includedV at h ⊢
  by_cases h1 : placeB i n = false
  · rw [if_pos h1] at h; cases h
  rw [if_neg h1] at h ⊢
  by_cases h2 : 256 < l.length
  · rw [if_pos h2] at h; cases h
  rw [if_neg h2] at h ⊢
  simp only [Bool.and_eq_true, decide_eq_true_iff] at h
  exact ⟨by cases hp : placeB i n <;> simp_all, h2, h.1, h.2, rfl⟩
theorem accE_zero {i n : Int} {l1 l2 : List UInt8} {s1 s2 : List St} (h : accE i n l1 s1 l2 s2 = 0) : placeB i n = true ∧ ¬ 256 < l1.length ∧ ¬ 256 < l2.length ∧ l1 ≠ l2 ∧ leadB s1 (sidesV i.toNat n.toNat) = true ∧ leadB s2 (sidesV i.toNat n.toNat) = true ∧ followV l1 s1 = followV l2 s2 := by
  unfold accE at h
  by_cases h1 : placeB i n = false
  · rw [if_pos h1] at h; cases h
  rw [if_neg h1] at h
  by_cases h2 : 256 < l1.length
  · rw [if_pos h2] at h; cases h
  rw [if_neg h2] at h
  by_cases h3 : 256 < l2.length
  · rw [if_pos h3] at h; cases h
  rw [if_neg h3] at h
  by_cases h4 : l1 = l2
  · rw [if_pos h4] at h; cases h
  rw [if_neg h4] at h
  by_cases h5 : leadB s1 (sidesV i.toNat n.toNat) = false
  · rw [if_pos h5] at h; cases h
  rw [if_neg h5] at h
  by_cases h6 : leadB s2 (sidesV i.toNat n.toNat) = false
  · rw [if_pos h6] at h; cases h
  rw [if_neg h6] at h
  by_cases h7 : followV l1 s1 = followV l2 s2
  · exact ⟨by simpa using h1, h2, h3, h4, by simpa using h5, by simpa using h6, h7⟩
  · rw [if_neg h7] at h; cases h
/-- both accepted and different: no error -/
theorem acc_good {i n : Int} {l1 l2 : List UInt8} {s1 s2 : List St} (h1 : (includedV l1 i n (followV l1 s1) s1).1 = true) (h2 : (includedV l2 i n (followV l1 s1) s2).1 = true) (hne : l1 ≠ l2) : accE i n l1 s1 l2 s2 = 0 := by
  obtain ⟨a1, a2, a3, a4, _⟩ := inc_true h1
  obtain ⟨b1, b2, b3, b4, _⟩ := inc_true h2
  unfold accE
  rw [if_neg (by rw [a1]; decide), if_neg a2, if_neg b2, if_neg hne, if_neg (by rw [a3]; decide), if_neg (by rw [b3]; decide), if_pos b4.symm]
theorem acc_bad {i n : Int} {l1 l2 : List UInt8} {s1 s2 : List St} (h : accE i n l1 s1 l2 s2 = 0) : (includedV l1 i n (followV l1 s1) s1).1 = true ∧ (includedV l2 i n (followV l1 s1) s2).1 = true ∧ l1 ≠ l2 := by
  obtain ⟨a, b1, b2, hne, c1, c2, hf⟩ := accE_zero h
  refine ⟨?_, ?_, hne⟩
  · unfold includedV
    rw [if_neg (by rw [a]; decide), if_neg b1, c1]
    simp
  · unfold includedV
    rw [if_neg (by rw [a]; decide), if_neg b2, c2, hf]
    simp
theorem firstK_le {l1 l2 : List UInt8} {s1 s2 : List St} {k : Nat} (hk : FirstK l1 s1 l2 s2 k) (hl : s1.length = s2.length) (hf : followV l1 s1 = followV l2 s2) : k ≤ s1.length := by
  rcases Nat.lt_or_ge s1.length k with h | h
  · refine absurd ?_ (hk.1 s1.length h)
    have a1 := mix_lev l1 s1 s1.length (Nat.le_refl _)
    have a2 := mix_lev l2 s2 s1.length (by omega)
    rw [List.take_length] at a1
    rw [hl, List.take_length] at a2
    rw [a1, hl, a2, hf]
  · exact h

set_option maxHeartbeats 2560000 in
set_option maxRecDepth 100000 in
theorem blames_law (i n : Int) (A1 : Option Addr) (n1 c1 : Nat) (l1 : List UInt8) (S1 : Option Addr) (m1 d1 : Nat) (s1 : List St) (A2 : Option Addr) (n2 c2 : Nat) (l2 : List UInt8) (S2 : Option Addr) (m2 d2 : Nat) (s2 : List St) (w : World) (hE : Env w)
    (hx : BytesAt w.heap.size w A1 n1 l1) (hs : StepsAt w.heap.size w S1 m1 s1) (hy : BytesAt w.heap.size w A2 n2 l2) (ht : StepsAt w.heap.size w S2 m2 s2) :
    Calls Tryd.prog 11 #[.int .i64 i, .int .i64 n, .agg #[.slice A1 n1 c1, .slice S1 m1 d1], .agg #[.slice A2 n2 c2, .slice S2 m2 d2]] w (TrueP w) := by
  have mixed := mixedOrders
  have hb1 : Below w.heap.size w (w.alloc (.cells #[.slice A1 n1 c1, .slice S1 m1 d1] 50)) := (Below.refl _ w).alloc (Nat.le_refl _) _
  have hw1 : WayB (w.alloc (.cells #[.slice A1 n1 c1, .slice S1 m1 d1] 50)) w.heap.size (.slice A1 n1 c1) (.slice S1 m1 d1) := heap_alloc_new w _
  obtain ⟨W1, hW1⟩ : ∃ W1, w.alloc (.cells #[.slice A1 n1 c1, .slice S1 m1 d1] 50) = W1 := ⟨_, rfl⟩
  have hsz1 : W1.heap.size = w.heap.size + 1 := by rw [← hW1]; simp
  rw [hW1] at hb1 hw1
  have hb2 : Below W1.heap.size W1 (W1.alloc (.cells #[.slice A2 n2 c2, .slice S2 m2 d2] 50)) := (Below.refl _ W1).alloc (Nat.le_refl _) _
  have hw2 : WayB (W1.alloc (.cells #[.slice A2 n2 c2, .slice S2 m2 d2] 50)) W1.heap.size (.slice A2 n2 c2) (.slice S2 m2 d2) := heap_alloc_new W1 _
  obtain ⟨W, hW⟩ : ∃ W, W1.alloc (.cells #[.slice A2 n2 c2, .slice S2 m2 d2] 50) = W := ⟨_, rfl⟩
  rw [hW] at hb2 hw2
  have hw1' := hw1.below hb2
  have hbW := hb1.trans (hb2.mono hb1.size)
  have hEW := hE.after hbW
  have hxW := hx.now hbW (Nat.le_refl _)
  have hyW := hy.now hbW (Nat.le_refl _)
  have hsW := hs.now hbW (Nat.le_refl _)
  have htW := ht.now hbW (Nat.le_refl _)
  obtain ⟨p, hp⟩ : ∃ p, w.heap.size = p := ⟨_, rfl⟩
  obtain ⟨q, hq⟩ : ∃ q, w.heap.size + 1 = q := ⟨_, rfl⟩
  rw [hp] at hw1'
  rw [hsz1, hq] at hw2
  have HW := hide (And.intro hW1 (And.intro hW (And.intro hp hq)))
  have HP := hide (And.intro hw1' hw2)
  have HBW := hide hbW
  have HA := hide (alive_env hEW)
  have HEW := hide hEW
  obtain ⟨f0, f1⟩ := hw1'.facts
  obtain ⟨f2, f3⟩ := hw2.facts
  clear hb1 hw1 hb2 hw2 hw1' hW1 hW hbW hEW hx hy hs ht hp hq hE hsz1
  by_cases b1 : 256 < n1
  · have g : (256 : Int) < (n1 : Int) := by omega
    clear b1 hxW hyW hsW htW
    go_enter Tryd.func11, Tryd.ntmps11
    go_upto_region 1 with (fail)
    rw [HW.out.1, HW.out.2.1, HW.out.2.2.2, HW.out.2.2.1]
    go_wp2_with fail
    refine HA.out.mono ?_
    rintro e w1 ⟨rfl, hb⟩
    go_wp2_with fail
    go_ret
    exact ⟨rfl, HBW.out.trans (hb.mono HBW.out.size)⟩
  have g1 : ¬ (256 : Int) < (n1 : Int) := by omega
  by_cases b2 : 256 < n2
  · have g : (256 : Int) < (n2 : Int) := by omega
    clear b1 b2 hxW hyW hsW htW
    go_enter Tryd.func11, Tryd.ntmps11
    go_upto_region 1 with (fail)
    rw [HW.out.1, HW.out.2.1, HW.out.2.2.2, HW.out.2.2.1]
    go_wp2_with fail
    refine HA.out.mono ?_
    rintro e w1 ⟨rfl, hb⟩
    go_wp2_with fail
    go_ret
    exact ⟨rfl, HBW.out.trans (hb.mono HBW.out.size)⟩
  have g2 : ¬ (256 : Int) < (n2 : Int) := by omega
  by_cases b3 : 100 < m1
  · have g : (100 : Int) < (m1 : Int) := by omega
    clear b1 b2 b3 hxW hyW hsW htW
    go_enter Tryd.func11, Tryd.ntmps11
    go_upto_region 1 with (fail)
    rw [HW.out.1, HW.out.2.1, HW.out.2.2.2, HW.out.2.2.1]
    go_wp2_with fail
    refine HA.out.mono ?_
    rintro e w1 ⟨rfl, hb⟩
    go_wp2_with fail
    go_ret
    exact ⟨rfl, HBW.out.trans (hb.mono HBW.out.size)⟩
  have g3 : ¬ (100 : Int) < (m1 : Int) := by omega
  by_cases b4 : 100 < m2
  · have g : (100 : Int) < (m2 : Int) := by omega
    clear b1 b2 b3 b4 hxW hyW hsW htW
    go_enter Tryd.func11, Tryd.ntmps11
    go_upto_region 1 with (fail)
    rw [HW.out.1, HW.out.2.1, HW.out.2.2.2, HW.out.2.2.1]
    go_wp2_with fail
    refine HA.out.mono ?_
    rintro e w1 ⟨rfl, hb⟩
    go_wp2_with fail
    go_ret
    exact ⟨rfl, HBW.out.trans (hb.mono HBW.out.size)⟩
  have g4 : ¬ (100 : Int) < (m2 : Int) := by omega
  have F0 := hide (Follow_any A1 n1 c1 l1 S1 m1 d1 s1 W hxW (by omega) hsW (by omega))
  have I1 : Hid (∀ w2, Below W.heap.size W w2 → Calls Tryd.prog 32 #[.slice A1 n1 c1, .int .i64 i, .int .i64 n, .int .u64 (followV l1 s1 : Nat), .slice S1 m1 d1] w2 (TwoPost (includedV l1 i n (followV l1 s1) s1) w2)) :=
    fun w2 hb => Included_any A1 n1 c1 l1 i n (followV l1 s1) S1 m1 d1 s1 w2 (hxW.now hb (Nat.le_refl _)) (hsW.now hb (Nat.le_refl _)) (by omega)
  have I2 : Hid (∀ w2, Below W.heap.size W w2 → Calls Tryd.prog 32 #[.slice A2 n2 c2, .int .i64 i, .int .i64 n, .int .u64 (followV l1 s1 : Nat), .slice S2 m2 d2] w2 (TwoPost (includedV l2 i n (followV l1 s1) s2) w2)) :=
    fun w2 hb => Included_any A2 n2 c2 l2 i n (followV l1 s1) S2 m2 d2 s2 w2 (hyW.now hb (Nat.le_refl _)) (htW.now hb (Nat.le_refl _)) (by omega)
  have C1 : Hid (∀ w2, Below W.heap.size W w2 → Calls Tryd.prog 38 #[.int .i64 i, .int .i64 n, .slice A1 n1 c1, .slice S1 m1 d1, .slice A2 n2 c2, .slice S2 m2 d2] w2 (AccPost (accE i n l1 s1 l2 s2) l1 s1 l2 s2 w2)) :=
    fun w2 hb => Accuse_any i n A1 n1 c1 l1 S1 m1 d1 s1 A2 n2 c2 l2 S2 m2 d2 s2 w2 (hxW.now hb (Nat.le_refl _)) (hsW.now hb (Nat.le_refl _)) (by omega) (hyW.now hb (Nat.le_refl _)) (htW.now hb (Nat.le_refl _)) (by omega)
  have L1 : Hid (∀ w2, Below W.heap.size W w2 → Calls Tryd.prog 53 #[.slice A1 n1 c1, .slice S1 m1 d1] w2 (LevelsPost l1 s1 m1 w2)) :=
    fun w2 hb => Levels_any A1 n1 c1 l1 S1 m1 d1 s1 w2 (hxW.now hb (Nat.le_refl _)) (by omega) (hsW.now hb (Nat.le_refl _)) (by omega)
  have L2 : Hid (∀ w2, Below W.heap.size W w2 → Calls Tryd.prog 53 #[.slice A2 n2 c2, .slice S2 m2 d2] w2 (LevelsPost l2 s2 m2 w2)) :=
    fun w2 hb => Levels_any A2 n2 c2 l2 S2 m2 d2 s2 w2 (hyW.now hb (Nat.le_refl _)) (by omega) (htW.now hb (Nat.le_refl _)) (by omega)
  have HX := hide hxW
  have HY := hide hyW
  have HM := hide (show m1 ≤ 100 ∧ m2 ≤ 100 ∧ s1.length = m1 ∧ s2.length = m2 ∧ n1 ≤ 256 ∧ n2 ≤ 256 from ⟨by omega, by omega, hsW.1, htW.1, by omega, by omega⟩)
  have hgood := @acc_good i n l1 l2 s1 s2
  have hbad := @acc_bad i n l1 l2 s1 s2
  have hi1 := @inc_true l1 i n (followV l1 s1) s1
  have hi2 := @inc_true l2 i n (followV l1 s1) s2
  obtain ⟨P, hP⟩ : ∃ P, includedV l1 i n (followV l1 s1) s1 = P := ⟨_, rfl⟩
  obtain ⟨Q, hQ⟩ : ∃ P, includedV l2 i n (followV l1 s1) s2 = P := ⟨_, rfl⟩
  rw [hP] at I1 hgood hbad hi1
  rw [hQ] at I2 hgood hbad hi2
  obtain ⟨E, hEe⟩ : ∃ E, accE i n l1 s1 l2 s2 = E := ⟨_, rfl⟩
  rw [hEe] at C1 hgood hbad
  obtain ⟨P1, P2⟩ := P
  obtain ⟨Q1, Q2⟩ := Q
  unfold TwoPost at I1 I2
  dsimp only at I1 I2 hgood hbad hi1 hi2
  obtain ⟨f, hf⟩ : ∃ f, followV l1 s1 = f := ⟨_, rfl⟩
  rw [hf] at F0 I1 I2 hi1 hi2
  have HMATH := hide (And.intro hgood (And.intro hbad (And.intro hi1 (And.intro hi2 hf))))
  clear b1 b2 b3 b4 hxW hyW hsW htW hEe HA hP hQ hf hgood hbad hi1 hi2
  go_enter Tryd.func11, Tryd.ntmps11
  go_upto_region 1 with (fail)
  rw [HW.out.1, HW.out.2.1, HW.out.2.2.2, HW.out.2.2.1]
  go_wp2_with fail
  refine F0.out.mono ?_
  rintro e w1 ⟨rfl, hb1⟩
  have HB1 := hide hb1
  clear f0 f1 f2 f3 g1 g2 g3 g4 hb1
  obtain ⟨f0, f1⟩ := (HP.out.1.below HB1.out).facts
  obtain ⟨f2, f3⟩ := (HP.out.2.below HB1.out).facts
  go_wp2_with fail
  refine (I1.out w1 HB1.out).mono ?_
  rintro e w2 ⟨rfl, hb2⟩
  have HB2 := hide (HB1.out.trans (hb2.mono HB1.out.size))
  clear f0 f1 f2 f3 hb2
  obtain ⟨f0, f1⟩ := (HP.out.1.below HB2.out).facts
  obtain ⟨f2, f3⟩ := (HP.out.2.below HB2.out).facts
  go_wp2_with fail
  refine (I2.out w2 HB2.out).mono ?_
  rintro e w3 ⟨rfl, hb3⟩
  have HB3 := hide (HB2.out.trans (hb3.mono HB2.out.size))
  clear f0 f1 f2 f3 hb3
  obtain ⟨f0, f1⟩ := (HP.out.1.below HB3.out).facts
  obtain ⟨f2, f3⟩ := (HP.out.2.below HB3.out).facts
  go_wp2_with fail
  refine (C1.out w3 HB3.out).mono ?_
  rintro e w4 ⟨a1, k1, e1, a2, k2, e2, x1, x2, rfl, hx1, hx2, hac, hb4⟩
  have hb4' := HB3.out.trans (hb4.mono HB3.out.size)
  have hb5 : Below w4.heap.size w4 (w4.alloc (.cells #[.slice a1 k1 e1, .slice a2 k2 e2] 52)) := (Below.refl _ w4).alloc (Nat.le_refl _) _
  have hz5 : BoxB (w4.alloc (.cells #[.slice a1 k1 e1, .slice a2 k2 e2] 52)) w4.heap.size (.slice a1 k1 e1) (.slice a2 k2 e2) := heap_alloc_new w4 _
  clear f0 f1 f2 f3 hb4
  go_upto_region 7 with (fail)
  obtain ⟨W5, hW5⟩ : ∃ W5, w4.alloc (.cells #[.slice a1 k1 e1, .slice a2 k2 e2] 52) = W5 := ⟨_, rfl⟩
  obtain ⟨g, hg⟩ : ∃ g, w4.heap.size = g := ⟨_, rfl⟩
  rw [hW5] at hb5 hz5 ⊢
  rw [hg] at hz5
  (try rw [hg])
  have hbW5 := hb4'.trans (hb5.mono hb4'.size)
  have HX1 := hide (hx1.now hb5 (Nat.le_refl _))
  have HX2 := hide (hx2.now hb5 (Nat.le_refl _))
  have HAC := hide hac
  have HB5 := hide hbW5
  have HZ5 := hide hz5
  obtain ⟨f0, f1⟩ := (HP.out.1.below hbW5).facts
  obtain ⟨f2, f3⟩ := (HP.out.2.below hbW5).facts
  obtain ⟨u0, u1, -, -⟩ := hz5.facts
  have HA := hide (alive_env (HEW.out.after hbW5))
  have hc1 := conv_any (HX.out.now hbW5 (Nat.le_refl _)) c1
  have hc2 := conv_any (HY.out.now hbW5 (Nat.le_refl _)) c2
  have hsb := strB_beq l1 l2
  unfold strB at hsb
  obtain ⟨t1, ht1⟩ : ∃ s, strOfNums (numsB l1) = s := ⟨_, rfl⟩
  obtain ⟨t2, ht2⟩ : ∃ s, strOfNums (numsB l2) = s := ⟨_, rfl⟩
  rw [ht1] at hc1 hsb
  rw [ht2] at hc2 hsb
  clear hx1 hx2 hac hb4' hb5 hz5 hW5 hg hbW5 C1 I1 I2 F0 HB1 HB2 HB3 ht1 ht2
  by_cases hgd : P1 = true ∧ Q1 = true ∧ l1 ≠ l2
  · obtain ⟨rfl, rfl, hne⟩ := hgd
    have y0 : (t1.toList == t2.toList) = false := by rw [hsb]; exact decide_eq_false hne
    obtain rfl : E = 0 := HMATH.out.1 rfl rfl hne
    have q1 := HMATH.out.2.2.1 rfl
    have q2 := HMATH.out.2.2.2.1 rfl
    obtain rfl : P2 = 0 := q1.2.2.2.2
    obtain rfl : Q2 = 0 := q2.2.2.2.2
    obtain ⟨k, hk, hxe1, hxe2⟩ := HAC.out.2 rfl
    have hkm : k ≤ s1.length := firstK_le hk (lead_same q1.2.2.1 q2.2.2.1) (HMATH.out.2.2.2.2.trans q2.2.2.2.1.symm)
    have hxne : x1 ≠ x2 := by rw [hxe1, hxe2]; exact lev_ne hne (lead_map q1.2.2.1 q2.2.2.1) k hkm (by rw [← lead_same q1.2.2.1 q2.2.2.1]; exact hkm) hk.1
    have hmx : mixV x1 = mixV x2 := by rw [hxe1, hxe2]; exact hk.2
    have hin1 : x1 ∈ levsV l1 s1 (m1 + 1) := by
      have := mem_getD (ls := levsV l1 s1 (m1 + 1)) (i := k) (by rw [levs_length]; have := HM.out.2.2.1; omega)
      rw [levs_get _ _ _ _ (by have := HM.out.2.2.1; omega), ← hxe1] at this
      exact this
    have hin2 : x2 ∈ levsV l2 s2 (m2 + 1) := by
      have hl := lead_same q1.2.2.1 q2.2.2.1
      have := mem_getD (ls := levsV l2 s2 (m2 + 1)) (i := k) (by rw [levs_length]; have := HM.out.2.2.2.1; omega)
      rw [levs_get _ _ _ _ (by have := HM.out.2.2.2.1; omega), ← hxe2] at this
      exact this
    have hlen1 : x1.length ≤ 100000 := by
      rw [hxe1]
      have := levF_length (l := l1) (ss := s1) (k := 256) (by have := HX.out.1; have := HM.out.2.2.2.2.1; omega) (by decide) k
      omega
    have hlen2 : x2.length ≤ 100000 := by
      rw [hxe2]
      have := levF_length (l := l2) (ss := s2) (k := 256) (by have := HY.out.1; have := HM.out.2.2.2.2.2; omega) (by decide) k
      omega
    have hkl1 := HX1.out.1
    have hkl2 := HX2.out.1
    have hsx := strB_beq x1 x2
    unfold strB at hsx
    have HD := hide ((Gr.refl W5).drew).below
    have cvA : ∀ w', Below W5.heap.size W5 w' → (convert 23 9 (.slice a1 k1 e1)).run Tryd.prog w' = .ok (.string (strOfNums (numsB x1))) w' := fun w' hb => conv_any (HX1.out.now hb (Nat.le_refl _)) e1
    have cvB : ∀ w', Below W5.heap.size W5 w' → (convert 23 9 (.slice a2 k2 e2)).run Tryd.prog w' = .ok (.string (strOfNums (numsB x2))) w' := fun w' hb => conv_any (HX2.out.now hb (Nat.le_refl _)) e2
    obtain ⟨t3, ht3⟩ : ∃ s, strOfNums (numsB x1) = s := ⟨_, rfl⟩
    obtain ⟨t4, ht4⟩ : ∃ s, strOfNums (numsB x2) = s := ⟨_, rfl⟩
    rw [ht3] at hsx
    rw [ht4] at hsx
    simp only [ht3] at cvA
    simp only [ht4] at cvB
    have CV := hide (And.intro cvA cvB)
    clear cvA cvB
    have y1 : (t3.toList == t4.toList) = false := by rw [hsx]; exact decide_eq_false hxne
    obtain ⟨h, hh⟩ : ∃ h, mixV x1 = h := ⟨_, rfl⟩
    have hh2 : mixV x2 = h := by rw [← hmx]; exact hh
    have y2 : ((h : Int) == (h : Int)) = true := by simp
    have M1 : Hid (∀ w', Below W5.heap.size W5 w' → Calls Tryd.prog 20 #[.slice a1 k1 e1] w' fun e w'' => e = .returned (.int .u64 (h : Nat)) ∧ w' = w'') := fun w' hb => by
      have := Mix_any a1 k1 e1 x1 w' (HX1.out.now hb (Nat.le_refl _)) (by omega)
      rw [hh] at this
      exact this
    have M2 : Hid (∀ w', Below W5.heap.size W5 w' → Calls Tryd.prog 20 #[.slice a2 k2 e2] w' fun e w'' => e = .returned (.int .u64 (h : Nat)) ∧ w' = w'') := fun w' hb => by
      have := Mix_any a2 k2 e2 x2 w' (HX2.out.now hb (Nat.le_refl _)) (by omega)
      rw [hh2] at this
      exact this
    have V1 : Hid (∀ w', Below W5.heap.size W5 w' → Calls Tryd.prog 53 #[.slice A1 n1 c1, .slice S1 m1 d1] w' (LevelsPost l1 s1 m1 w')) := fun w' hb => L1.out w' (HB5.out.trans (hb.mono HB5.out.size))
    have V2 : Hid (∀ w', Below W5.heap.size W5 w' → Calls Tryd.prog 53 #[.slice A2 n2 c2, .slice S2 m2 d2] w' (LevelsPost l2 s2 m2 w')) := fun w' hb => L2.out w' (HB5.out.trans (hb.mono HB5.out.size))
    have N1 : Hid (∀ w' base a c, Below W5.heap.size W5 w' → OwnLists base w' a (m1 + 1) c (levsV l1 s1 (m1 + 1)) → Calls Tryd.prog 52 #[.slice a (m1 + 1) c, .slice a1 k1 e1] w' fun e w'' => e = .returned (.bool true) ∧ Below w'.heap.size w' w'') := fun w' base a c hb ho => by
      have := among_any a (m1 + 1) c (levsV l1 s1 (m1 + 1)) base a1 k1 e1 x1 w' ho (by have := HM.out.1; omega) (HX1.out.now hb (Nat.le_refl _))
      rw [decide_eq_true hin1] at this
      exact this
    have N2 : Hid (∀ w' base a c, Below W5.heap.size W5 w' → OwnLists base w' a (m2 + 1) c (levsV l2 s2 (m2 + 1)) → Calls Tryd.prog 52 #[.slice a (m2 + 1) c, .slice a2 k2 e2] w' fun e w'' => e = .returned (.bool true) ∧ Below w'.heap.size w' w'') := fun w' base a c hb ho => by
      have := among_any a (m2 + 1) c (levsV l2 s2 (m2 + 1)) base a2 k2 e2 x2 w' ho (by have := HM.out.2.1; omega) (HX2.out.now hb (Nat.le_refl _))
      rw [decide_eq_true hin2] at this
      exact this
    have AL : Hid (∀ w', Below W5.heap.size W5 w' → Calls Tryd.prog 17 #[] w' (TrueP w')) := fun w' hb => alive_env (HEW.out.after (HB5.out.trans (hb.mono HB5.out.size)))
    unfold LevelsPost at V1 V2
    obtain ⟨P1, hP1⟩ : ∃ P, m1 + 1 = P := ⟨_, rfl⟩
    obtain ⟨P2, hP2⟩ : ∃ P, m2 + 1 = P := ⟨_, rfl⟩
    rw [hP1] at V1 N1
    rw [hP2] at V2 N2
    have KK : Hid (∀ w', Below W5.heap.size W5 w' → w'.cell? ⟨g, 0, none⟩ = some (.slice a1 k1 e1) ∧ w'.cell? ⟨g, 1, none⟩ = some (.slice a2 k2 e2) ∧ w'.cell? ⟨p, 0, none⟩ = some (.slice A1 n1 c1) ∧ w'.cell? ⟨p, 1, none⟩ = some (.slice S1 m1 d1) ∧ w'.cell? ⟨q, 0, none⟩ = some (.slice A2 n2 c2) ∧ w'.cell? ⟨q, 1, none⟩ = some (.slice S2 m2 d2) ∧ (convert 23 9 (.slice a1 k1 e1)).run Tryd.prog w' = .ok (.string t3) w' ∧ (convert 23 9 (.slice a2 k2 e2)).run Tryd.prog w' = .ok (.string t4) w') := fun w' hb => by
      have a := (HZ5.out.below hb).facts
      have b := ((HP.out.1.below HB5.out).below hb).facts
      have c := ((HP.out.2.below HB5.out).below hb).facts
      exact ⟨a.1, a.2.1, b.1, b.2, c.1, c.2, CV.out.1 w' hb, CV.out.2 w' hb⟩
    clear hne hsb q1 q2 hk hxe1 hxe2 hkm hxne hmx hin1 hin2 hlen1 hlen2 hkl1 hkl2 hsx ht3 ht4 hh hh2 hP1 hP2 HA L1 L2
    go_wp2_with fail
    go_region_held3 (fun w' => w'.cell? ⟨g, 0, none⟩ = some (.slice a1 k1 e1) ∧ w'.cell? ⟨g, 1, none⟩ = some (.slice a2 k2 e2) ∧ w'.cell? ⟨p, 0, none⟩ = some (.slice A1 n1 c1) ∧ w'.cell? ⟨p, 1, none⟩ = some (.slice S1 m1 d1) ∧ w'.cell? ⟨q, 0, none⟩ = some (.slice A2 n2 c2) ∧ w'.cell? ⟨q, 1, none⟩ = some (.slice S2 m2 d2) ∧ (convert 23 9 (.slice a1 k1 e1)).run Tryd.prog w' = .ok (.string t3) w' ∧ (convert 23 9 (.slice a2 k2 e2)).run Tryd.prog w' = .ok (.string t4) w')
      (first | exact KK.out _ HD.out | exact KK.out _ HB7.out | exact KK.out _ HB8.out | exact KK.out _ HB9.out | exact KK.out _ HB10.out | exact KK.out _ HB11.out | exact KK.out _ (Below.refl _ _))
      (first | (go_at_call 20; (with_reducible refine (M1.out _ HD.out).mono ?_); rintro e w6 ⟨rfl, rfl⟩) | (go_at_call 20; (with_reducible refine (M2.out _ HD.out).mono ?_); rintro e w6 ⟨rfl, rfl⟩) | (go_at_call 53; (with_reducible refine (V1.out _ HD.out).mono ?_); rintro e w7 ⟨o1, j1, rfl, ho1, hb7⟩; have HO7 := hide ho1; have HB7 := hide (HD.out.trans (hb7.mono HD.out.size)); clear ho1 hb7) | (go_at_call 52; (with_reducible refine (N1.out _ _ _ _ HB7.out HO7.out).mono ?_); rintro e w8 ⟨rfl, hb8⟩; have HB8 := hide (HB7.out.trans (hb8.mono HB7.out.size)); clear hb8) | (go_at_call 53; (with_reducible refine (V2.out _ HB8.out).mono ?_); rintro e w9 ⟨o2, j2, rfl, ho2, hb9⟩; have HO9 := hide ho2; have HB9 := hide (HB8.out.trans (hb9.mono HB8.out.size)); clear ho2 hb9) | (go_at_call 52; (with_reducible refine (N2.out _ _ _ _ HB9.out HO9.out).mono ?_); rintro e w10 ⟨rfl, hb10⟩; have HB10 := hide (HB9.out.trans (hb10.mono HB9.out.size)); clear hb10) | (go_at_call 17; (with_reducible refine (AL.out _ HB10.out).mono ?_); rintro e w11 ⟨rfl, hb11⟩; have HB11 := hide (HB10.out.trans (hb11.mono HB10.out.size)); clear hb11))
    go_wp2_with fail
    go_ret
    exact ⟨rfl, (HBW.out.trans (HB5.out.mono HBW.out.size)).trans (HB11.out.mono (HBW.out.trans (HB5.out.mono HBW.out.size)).size)⟩
  · have hE0 : E ≠ 0 := fun h => hgd (HMATH.out.2.1 h)
    have zE : (E == 0) = false := beq_eq_false_iff_ne.2 hE0
    have zE2 : (E != 0) = true := by simp [hE0]
    obtain ⟨rfl, rfl⟩ := HAC.out.1 hE0
    obtain rfl : k1 = 0 := HX1.out.1.symm
    obtain rfl : k2 = 0 := HX2.out.1.symm
    have HE0 := hide hE0
    clear hE0 L1 L2
    have HGD := hide hgd
    clear hgd
    cases P1
    · clear hsb
      go_wp2_with fail
      refine HA.out.mono ?_
      rintro e w7 ⟨rfl, hb⟩
      go_wp2_with fail
      go_ret
      exact ⟨rfl, (HBW.out.trans (HB5.out.mono HBW.out.size)).trans (hb.mono (HBW.out.trans (HB5.out.mono HBW.out.size)).size)⟩
    cases Q1
    · clear hsb
      go_wp2_with fail
      refine HA.out.mono ?_
      rintro e w7 ⟨rfl, hb⟩
      go_wp2_with fail
      go_ret
      exact ⟨rfl, (HBW.out.trans (HB5.out.mono HBW.out.size)).trans (hb.mono (HBW.out.trans (HB5.out.mono HBW.out.size)).size)⟩
    have y0 : (t1.toList == t2.toList) = true := by
      rw [hsb]
      by_cases h : l1 = l2
      · exact decide_eq_true h
      · exact absurd ⟨rfl, rfl, h⟩ HGD.out
    clear hsb
    go_wp2_with fail
    refine HA.out.mono ?_
    rintro e w7 ⟨rfl, hb⟩
    go_wp2_with fail
    go_ret
    exact ⟨rfl, (HBW.out.trans (HB5.out.mono HBW.out.size)).trans (hb.mono (HBW.out.trans (HB5.out.mono HBW.out.size)).size)⟩
end Go.Proofs.YtbinmkigolkhcaaDoor
