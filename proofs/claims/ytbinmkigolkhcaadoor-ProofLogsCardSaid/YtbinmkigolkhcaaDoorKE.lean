/- The specification's Accuse. -/
import Derived.Test.YtbinmkigolkhcaaDoorKC
import Derived.Test.YtbinmkigolkhcaaDoorHZ
import Derived.StillTailTactics
set_option linter.unusedSimpArgs false
set_option linter.unusedVariables false
namespace Go.Proofs.YtbinmkigolkhcaaDoor
open Go.RowKit Go.Sort
attribute [local go_sem] Oper.semAt_some

/-- where the loop over the levels stands -/
structure AccI (p : Nat) (w wr : World) (l1 : List UInt8) (s1 : List St) (l2 : List UInt8) (s2 : List St) (i P : Nat) (a1 : Option Addr) (c1 : Nat) (a2 : Option Addr) (c2 : Nat) : Prop where
  bl : Below p w wr
  zp : BoxB wr p (.slice none 0 0) (.slice none 0 0)
  o1 : OwnLists (p + 1) wr a1 P c1 (levsV l1 s1 P)
  o2 : OwnLists (p + 1) wr a2 P c2 (levsV l2 s2 P)
  no : ∀ j, j < i → mixV (levF l1 s1 j) ≠ mixV (levF l2 s2 j)
theorem AccI.later {p : Nat} {w wr w' : World} {l1 : List UInt8} {s1 : List St} {l2 : List UInt8} {s2 : List St} {i P : Nat} {a1 : Option Addr} {c1 : Nat} {a2 : Option Addr} {c2 : Nat} (h : AccI p w wr l1 s1 l2 s2 i P a1 c1 a2 c2) (hb : Below wr.heap.size wr w') : AccI p w w' l1 s1 l2 s2 i P a1 c1 a2 c2 :=
  ⟨h.bl.trans (hb.mono (Nat.le_of_lt h.zp.lt)), h.zp.below hb, h.o1.later hb, h.o2.later hb, h.no⟩
theorem OwnLists.lower {base b2 : Nat} {w : World} {a : Option Addr} {n c : Nat} {ls : List (List UInt8)} (h : OwnLists base w a n c ls) (hb : b2 ≤ base) : OwnLists b2 w a n c ls := by
  obtain ⟨h1, vs, h2, h3⟩ := h
  exact ⟨h1, vs, own_keep h2 (Below.refl _ _) hb, h3⟩

set_option maxHeartbeats 4000000 in
set_option maxRecDepth 100000 in
theorem refAccuse_any (i n : Int) (A : Option Addr) (n1 c1 : Nat) (l1 : List UInt8) (S : Option Addr) (m1 d1 : Nat) (s1 : List St) (B : Option Addr) (n2 c2 : Nat) (l2 : List UInt8) (T : Option Addr) (m2 d2 : Nat) (s2 : List St) (w : World)
    (hx : BytesAt w.heap.size w A n1 l1) (hs : StepsAt w.heap.size w S m1 s1) (hm1 : m1 ≤ 1000000) (hy : BytesAt w.heap.size w B n2 l2) (ht : StepsAt w.heap.size w T m2 s2) (hm2 : m2 ≤ 1000000) :
    Calls Tryd.prog 39 #[.int .i64 i, .int .i64 n, .slice A n1 c1, .slice S m1 d1, .slice B n2 c2, .slice T m2 d2] w (AccPost (accE i n l1 s1 l2 s2) l1 s1 l2 s2 w) := by
  have mixed := mixedOrders
  have hal : Below w.heap.size w (w.alloc (.cells #[.slice none 0 0, .slice none 0 0] 52)) := (Below.refl _ w).alloc (Nat.le_refl _) _
  have hz0 : BoxB (w.alloc (.cells #[.slice none 0 0, .slice none 0 0] 52)) w.heap.size (.slice none 0 0) (.slice none 0 0) := heap_alloc_new w _
  have hsz : (w.alloc (.cells #[.slice none 0 0, .slice none 0 0] 52)).heap.size = w.heap.size + 1 := by simp
  obtain ⟨W, hW⟩ : ∃ W, w.alloc (.cells #[.slice none 0 0, .slice none 0 0] 52) = W := ⟨_, rfl⟩
  rw [hW] at hal hz0 hsz
  have xW := hx.now hal (Nat.le_refl _)
  have yW := hy.now hal (Nat.le_refl _)
  have sW := hs.now hal (Nat.le_refl _)
  have tW := ht.now hal (Nat.le_refl _)
  have hl1 := hx.1
  have hl2 := hy.1
  have ls1 := hs.1
  have ls2 := ht.1
  obtain ⟨p, hp⟩ : ∃ p, w.heap.size = p := ⟨_, rfl⟩
  rw [hp] at hal hz0 hsz
  have HSZ := hide hsz
  have HP := hide (place_any i n W)
  have HE := hide (same_any A n1 c1 B n2 c2 l1 l2 W xW yW)
  obtain ⟨eb, heb⟩ : ∃ b, decide (l1 = l2) = b := ⟨_, rfl⟩
  rw [heb] at HE
  have HX := hide xW
  have HY := hide yW
  have HS := hide sW
  have HTT := hide tW
  have HW := hide (And.intro hW hp)
  have HAL := hide hal
  have HZ0 := hide hz0
  have HL := hide (show l1.length = n1 ∧ l2.length = n2 ∧ s1.length = m1 ∧ s2.length = m2 ∧ m1 ≤ 1000000 ∧ m2 ≤ 1000000 from ⟨hl1, hl2, ls1, ls2, hm1, hm2⟩)
  have HB := hide heb
  clear hx hs hy ht xW yW sW tW hl1 hl2 ls1 ls2 hm1 hm2 hW hp hal hz0 heb hsz
  cases hpl : placeB i n
  · have hE : accE i n l1 s1 l2 s2 = 2 := by unfold accE; rw [if_pos hpl]
    rw [hE]
    rw [hpl] at HP
    clear hpl hE
    go_enter Tryd.func39, Tryd.ntmps39
    go_wp2_with fail
    rw [HW.out.1, HW.out.2]
    refine HP.out.mono ?_
    rintro e w1 ⟨rfl, rfl⟩
    obtain ⟨u0, u1, uf0, uf1⟩ := HZ0.out.facts
    go_wp2_with fail
    refine bodyPost_ret (v := .tuple #[.agg #[.slice none 0 0, .slice none 0 0], .int .i64 2]) (by simp [results, Tryd.results39, go_sem, u0, u1, uf0, uf1]) rfl ?_
    exact acc_err HW.out.2 HZ0.out HAL.out (by decide)
  · rw [hpl] at HP
    have hpl2 := hpl
    unfold placeB at hpl2
    have hpp := of_decide_eq_true hpl2
    obtain ⟨i', rfl⟩ : ∃ k : Nat, i = k := ⟨i.toNat, by omega⟩
    obtain ⟨n', rfl⟩ : ∃ k : Nat, n = k := ⟨n.toNat, by omega⟩
    have HL1 := hide (refSides_any i' n' S m1 d1 s1 W (by omega) (by omega) HS.out HL.out.2.2.2.2.1)
    have HL2 : Hid (∀ w2, Below W.heap.size W w2 → Calls Tryd.prog 70 #[.int .i64 i', .int .i64 n', .slice T m2 d2] w2 fun e w' => e = .returned (.bool (leadB s2 (sidesV i' n'))) ∧ Below w2.heap.size w2 w') :=
      fun w2 hb => refSides_any i' n' T m2 d2 s2 w2 (by omega) (by omega) (HTT.out.now hb (Nat.le_refl _)) HL.out.2.2.2.2.2
    obtain ⟨L, hL⟩ : ∃ L, sidesV i' n' = L := ⟨_, rfl⟩
    rw [hL] at HL1 HL2
    obtain ⟨g1, hg1⟩ : ∃ b, leadB s1 L = b := ⟨_, rfl⟩
    obtain ⟨g2, hg2⟩ : ∃ b, leadB s2 L = b := ⟨_, rfl⟩
    rw [hg1] at HL1
    rw [hg2] at HL2
    have HPL := hide (And.intro hpl hL)
    have HG := hide (And.intro hg1 hg2)
    clear hpl hpl2 hpp hL hg1 hg2
    have HER : Hid (accE i' n' l1 s1 l2 s2 = if 256 < n1 then 3 else if 256 < n2 then 3 else if eb = true then 11 else if g1 = false then 11 else if g2 = false then 11 else if followV l1 s1 = followV l2 s2 then 0 else 11) := by
      have q3 : eb = true ↔ l1 = l2 := by rw [← HB.out, decide_eq_true_iff]
      unfold accE
      rw [if_neg (by rw [HPL.out.1]; decide), Int.toNat_natCast, Int.toNat_natCast, HPL.out.2, HG.out.1, HG.out.2, HL.out.1, HL.out.2.1]
      simp only [q3]
      exact trivial
    obtain ⟨E, hE⟩ : ∃ E, accE i' n' l1 s1 l2 s2 = E := ⟨_, rfl⟩
    rw [hE] at HER
    rw [hE]
    clear hE
    by_cases hq1 : 256 < n1
    · obtain rfl : E = 3 := by rw [HER.out, if_pos hq1]
      have z1 : (256 : Int) < (n1 : Int) := by omega
      have z1d : decide ((256 : Int) < (n1 : Int)) = true := decide_eq_true z1
      clear hq1 HER
      go_enter Tryd.func39, Tryd.ntmps39
      go_wp2_with fail
      rw [HW.out.1, HW.out.2]
      refine HP.out.mono ?_
      rintro e w1 ⟨rfl, rfl⟩
      obtain ⟨u0, u1, uf0, uf1⟩ := HZ0.out.facts
      go_wp2_with fail
      refine bodyPost_ret (v := .tuple #[.agg #[.slice none 0 0, .slice none 0 0], .int .i64 3]) (by simp [results, Tryd.results39, go_sem, u0, u1, uf0, uf1]) rfl ?_
      exact acc_err HW.out.2 HZ0.out HAL.out (by decide)
    by_cases hq2 : 256 < n2
    · obtain rfl : E = 3 := by rw [HER.out, if_neg hq1, if_pos hq2]
      have z1 : ¬ (256 : Int) < (n1 : Int) := by omega
      have z1d : decide ((256 : Int) < (n1 : Int)) = false := decide_eq_false z1
      have z2 : (256 : Int) < (n2 : Int) := by omega
      have z2d : decide ((256 : Int) < (n2 : Int)) = true := decide_eq_true z2
      clear hq1 hq2 HER
      go_enter Tryd.func39, Tryd.ntmps39
      go_wp2_with fail
      rw [HW.out.1, HW.out.2]
      refine HP.out.mono ?_
      rintro e w1 ⟨rfl, rfl⟩
      obtain ⟨u0, u1, uf0, uf1⟩ := HZ0.out.facts
      go_wp2_with fail
      refine bodyPost_ret (v := .tuple #[.agg #[.slice none 0 0, .slice none 0 0], .int .i64 3]) (by simp [results, Tryd.results39, go_sem, u0, u1, uf0, uf1]) rfl ?_
      exact acc_err HW.out.2 HZ0.out HAL.out (by decide)
    rw [if_neg hq1, if_neg hq2] at HER
    have z1 : ¬ (256 : Int) < (n1 : Int) := by omega
    have z1d : decide ((256 : Int) < (n1 : Int)) = false := decide_eq_false z1
    have z2 : ¬ (256 : Int) < (n2 : Int) := by omega
    have z2d : decide ((256 : Int) < (n2 : Int)) = false := decide_eq_false z2
    have HQ := hide (And.intro hq1 hq2)
    clear hq1 hq2
    go_enter Tryd.func39, Tryd.ntmps39
    go_wp2_with fail
    rw [HW.out.1, HW.out.2]
    refine HP.out.mono ?_
    rintro e w1 ⟨rfl, rfl⟩
    go_wp2_with fail
    refine HE.out.mono ?_
    rintro e w1 ⟨rfl, rfl⟩
    cases eb
    rotate_left
    · obtain rfl : E = 11 := HER.out
      obtain ⟨u0, u1, uf0, uf1⟩ := HZ0.out.facts
      go_wp2_with fail
      refine bodyPost_ret (v := .tuple #[.agg #[.slice none 0 0, .slice none 0 0], .int .i64 11]) (by simp [results, Tryd.results39, go_sem, u0, u1, uf0, uf1]) rfl ?_
      exact acc_err HW.out.2 HZ0.out HAL.out (by decide)
    go_wp2_with fail
    refine HL1.out.mono ?_
    rintro e w2 ⟨rfl, hb2⟩
    have HB2 := hide hb2
    have HZ2 := hide (HZ0.out.below hb2)
    have HA2 := hide (HAL.out.trans (hb2.mono (Nat.le_of_lt HZ0.out.lt)))
    clear hb2
    cases g1
    · obtain rfl : E = 11 := HER.out
      obtain ⟨u0, u1, uf0, uf1⟩ := HZ2.out.facts
      go_wp2_with fail
      refine bodyPost_ret (v := .tuple #[.agg #[.slice none 0 0, .slice none 0 0], .int .i64 11]) (by simp [results, Tryd.results39, go_sem, u0, u1, uf0, uf1]) rfl ?_
      exact acc_err HW.out.2 HZ2.out HA2.out (by decide)
    go_wp2_with fail
    refine (HL2.out w2 HB2.out).mono ?_
    rintro e w3 ⟨rfl, hb3⟩
    have HB3 := hide (HB2.out.trans (hb3.mono HB2.out.size))
    have HZ3 := hide (HZ2.out.below hb3)
    have HA3 := hide (HA2.out.trans (hb3.mono (Nat.le_of_lt HZ2.out.lt)))
    clear hb3 HB2 HZ2 HA2
    cases g2
    · obtain rfl : E = 11 := HER.out
      obtain ⟨u0, u1, uf0, uf1⟩ := HZ3.out.facts
      go_wp2_with fail
      refine bodyPost_ret (v := .tuple #[.agg #[.slice none 0 0, .slice none 0 0], .int .i64 11]) (by simp [results, Tryd.results39, go_sem, u0, u1, uf0, uf1]) rfl ?_
      exact acc_err HW.out.2 HZ3.out HA3.out (by decide)
    have HLN := hide (lead_same HG.out.1 HG.out.2)
    have HMP := hide (lead_map HG.out.1 HG.out.2)
    have HNE : Hid (l1 ≠ l2) := of_decide_eq_false HB.out
    have hmm : m1 = m2 := by rw [← HL.out.2.2.1, ← HL.out.2.2.2.1]; exact HLN.out
    subst hmm
    have hn1 : n1 ≤ 256 := by have := HQ.out; omega
    have hn2 : n2 ≤ 256 := by have := HQ.out; omega
    have HF1 := hide (refFollow_any A n1 c1 l1 S m1 d1 s1 w3 (HX.out.now HB3.out (Nat.le_refl _)) (by omega) (HS.out.now HB3.out (Nat.le_refl _)) HL.out.2.2.2.2.1)
    have HF2 : Hid (∀ w4, Below w3.heap.size w3 w4 → Calls Tryd.prog 35 #[.slice B n2 c2, .slice T m1 d2] w4 fun e w' => e = .returned (.int .u64 (followV l2 s2 : Nat)) ∧ Below w4.heap.size w4 w') :=
      fun w4 hb => refFollow_any B n2 c2 l2 T m1 d2 s2 w4 ((HY.out.now HB3.out (Nat.le_refl _)).now hb (Nat.le_refl _)) (by omega) ((HTT.out.now HB3.out (Nat.le_refl _)).now hb (Nat.le_refl _)) HL.out.2.2.2.2.1
    have HC1 : Hid (∀ w4, Below w3.heap.size w3 w4 → Calls Tryd.prog 53 #[.slice A n1 c1, .slice S m1 d1] w4 (LevelsPost l1 s1 m1 w4)) :=
      fun w4 hb => Levels_any A n1 c1 l1 S m1 d1 s1 w4 ((HX.out.now HB3.out (Nat.le_refl _)).now hb (Nat.le_refl _)) (by omega) ((HS.out.now HB3.out (Nat.le_refl _)).now hb (Nat.le_refl _)) HL.out.2.2.2.2.1
    have HC2 : Hid (∀ w4, Below w3.heap.size w3 w4 → Calls Tryd.prog 53 #[.slice B n2 c2, .slice T m1 d2] w4 (LevelsPost l2 s2 m1 w4)) :=
      fun w4 hb => Levels_any B n2 c2 l2 T m1 d2 s2 w4 ((HY.out.now HB3.out (Nat.le_refl _)).now hb (Nat.le_refl _)) (by omega) ((HTT.out.now HB3.out (Nat.le_refl _)).now hb (Nat.le_refl _)) HL.out.2.2.2.2.1
    have HK : Hid (followV l1 s1 = followV l2 s2 → mixV (levF l1 s1 m1) = mixV (levF l2 s2 m1)) := by
      intro h
      have a1 := mix_lev l1 s1 m1 (by rw [HL.out.2.2.1]; exact Nat.le_refl _)
      have a2 := mix_lev l2 s2 m1 (by rw [HL.out.2.2.2.1]; exact Nat.le_refl _)
      rw [List.take_of_length_le (by rw [HL.out.2.2.1]; exact Nat.le_refl _)] at a1
      rw [List.take_of_length_le (by rw [HL.out.2.2.2.1]; exact Nat.le_refl _)] at a2
      rw [a1, a2, h]
    unfold LevelsPost at HC1 HC2
    obtain ⟨P, hP⟩ : ∃ P, m1 + 1 = P := ⟨_, rfl⟩
    rw [hP] at HC1 HC2
    have HPP := hide hP
    obtain ⟨f1, hf1⟩ : ∃ f, followV l1 s1 = f := ⟨_, rfl⟩
    obtain ⟨f2, hf2⟩ : ∃ f, followV l2 s2 = f := ⟨_, rfl⟩
    rw [hf1] at HF1 HER HK
    rw [hf2] at HF2 HER HK
    clear hf1 hf2 hn1 hn2 HX HY HS HTT HP HE HL1 HL2 hP
    go_wp2_with fail
    refine HF1.out.mono ?_
    rintro e w4 ⟨rfl, hb4⟩
    have HB4 := hide hb4
    clear hb4
    go_wp2_with fail
    refine (HF2.out w4 HB4.out).mono ?_
    rintro e w5 ⟨rfl, hb5⟩
    have HB5 := hide (HB4.out.trans (hb5.mono HB4.out.size))
    clear hb5 HB4
    have HZ5 := hide (HZ3.out.below HB5.out)
    have HA5 := hide (HA3.out.trans (HB5.out.mono (Nat.le_of_lt HZ3.out.lt)))
    by_cases hff : f1 = f2
    rotate_left
    · have zz : ((f1 : Int) == (f2 : Int)) = false := beq_eq_false_iff_ne.2 (by omega)
      obtain rfl : E = 11 := by rw [HER.out]; simp [hff]
      clear hff
      obtain ⟨u0, u1, uf0, uf1⟩ := HZ5.out.facts
      go_wp2_with fail
      refine bodyPost_ret (v := .tuple #[.agg #[.slice none 0 0, .slice none 0 0], .int .i64 11]) (by simp [results, Tryd.results39, go_sem, u0, u1, uf0, uf1]) rfl ?_
      exact acc_err HW.out.2 HZ5.out HA5.out (by decide)
    have zz : ((f1 : Int) == (f2 : Int)) = true := beq_iff_eq.2 (by omega)
    obtain rfl : E = 0 := by rw [HER.out]; simp [hff]
    have HKK := hide (HK.out hff)
    clear hff
    go_wp2_with fail
    refine (HC1.out w5 HB5.out).mono ?_
    rintro e w6 ⟨a1, e1, rfl, ho1, hb6⟩
    have HO1 := hide ho1
    have HB6 := hide (HB5.out.trans (hb6.mono HB5.out.size))
    have HZ6 := hide (HZ5.out.below hb6)
    have HA6 := hide (HA5.out.trans (hb6.mono (Nat.le_of_lt HZ5.out.lt)))
    clear ho1 hb6
    go_wp2_with fail
    refine (HC2.out w6 HB6.out).mono ?_
    rintro e w7 ⟨a2, e2, rfl, ho2, hb7⟩
    have HI0 : Hid (AccI p w w7 l1 s1 l2 s2 0 P a1 e1 a2 e2) :=
      ⟨HA6.out.trans (hb7.mono (Nat.le_of_lt HZ6.out.lt)), HZ6.out.below hb7, (HO1.out.later hb7).lower HZ5.out.lt, ho2.lower HZ6.out.lt, fun j hj => absurd hj (Nat.not_lt_zero _)⟩
    clear ho2 hb7 HO1 HB6 HZ6 HA6 HZ5 HA5 HB5 HC1 HC2 HF1 HF2 HK HER zz z1 z1d z2 z2d
    go_wp2_with fail
    go_loopw [16] (fun vi wr => ∃ i : Nat, i < P ∧ vi = .int .i64 i ∧ Hid (AccI p w wr l1 s1 l2 s2 i P a1 e1 a2 e2)) (fun vi _ => P - (intOf vi).toNat)
    case atStart => exact ⟨0, by have := HPP.out; omega, rfl, HI0.out⟩
    case round =>
      obtain ⟨i, hi, rfl, HI⟩ := hrel
      clear HI0
      have hlt' : (i : Int) < (P : Int) := by omega
      have hne := lev_ne HNE.out HMP.out i (by have := HPP.out; have := HL.out.2.2.1; omega) (by have := HPP.out; have := HL.out.2.2.2.1; omega) HI.out.no
      obtain ⟨b1, A1, k1, rfl, hb1, hs1, cg1, hB1, hL1⟩ := HI.out.o1.at_ hi
      obtain ⟨b2, A2, k2, rfl, hb2, hs2, cg2, hB2, hL2⟩ := HI.out.o2.at_ hi
      rw [levs_get _ _ _ _ hi] at cg1 hB1 hL1 cg2 hB2 hL2
      have hbq1 : b1 ≠ p := by omega
      have hbq2 : b2 ≠ p := by omega
      obtain ⟨x1, hx1⟩ : ∃ x, levF l1 s1 i = x := ⟨_, rfl⟩
      obtain ⟨x2, hx2⟩ : ∃ x, levF l2 s2 i = x := ⟨_, rfl⟩
      have HXX := hide (And.intro hx1 hx2)
      rw [hx1] at cg1 hB1 hL1 hne
      rw [hx2] at cg2 hB2 hL2 hne
      obtain ⟨q1, hq1⟩ : ∃ q, x1.length = q := ⟨_, rfl⟩
      obtain ⟨q2, hq2⟩ : ∃ q, x2.length = q := ⟨_, rfl⟩
      rw [hq1] at cg1 hB1 hL1
      rw [hq2] at cg2 hB2 hL2
      have r1 : ∀ nq, (wr.drewN nq).cell? ⟨b1, i, none⟩ = some (.slice A1 q1 k1) := fun _ => cg1
      have r2 : ∀ nq, (wr.drewN nq).cell? ⟨b2, i, none⟩ = some (.slice A2 q2 k2) := fun _ => cg2
      obtain ⟨y1, hy1⟩ : ∃ y, mixV x1 = y := ⟨_, rfl⟩
      obtain ⟨y2, hy2⟩ : ∃ y, mixV x2 = y := ⟨_, rfl⟩
      have M0 : Hid (∀ nq, Calls Tryd.prog 76 #[.slice A1 q1 k1, .slice A2 q2 k2] (wr.drewN nq) fun e w' => e = .returned (.bool false) ∧ w' = wr.drewN nq) := by
        intro nq
        have := same_any A1 q1 k1 A2 q2 k2 x1 x2 (wr.drewN nq) (hB1.now ((Gr.refl wr).drewN nq).below (Nat.le_refl _)) (hB2.now ((Gr.refl wr).drewN nq).below (Nat.le_refl _))
        rw [decide_eq_false hne] at this
        exact this.mono fun e w' h => ⟨h.1, h.2.symm⟩
      have M1 : Hid (∀ nq, Calls Tryd.prog 21 #[.slice A1 q1 k1] (wr.drewN nq) fun e w' => e = .returned (.int .u64 (y1 : Nat)) ∧ w' = wr.drewN nq) := by
        intro nq
        have := refMix_any A1 q1 k1 x1 (wr.drewN nq) (hB1.now ((Gr.refl wr).drewN nq).below (Nat.le_refl _)) (by omega)
        rw [hy1] at this
        exact this.mono fun e w' h => ⟨h.1, h.2.symm⟩
      have M2 : Hid (∀ nq, Calls Tryd.prog 21 #[.slice A2 q2 k2] (wr.drewN nq) fun e w' => e = .returned (.int .u64 (y2 : Nat)) ∧ w' = wr.drewN nq) := by
        intro nq
        have := refMix_any A2 q2 k2 x2 (wr.drewN nq) (hB2.now ((Gr.refl wr).drewN nq).below (Nat.le_refl _)) (by omega)
        rw [hy2] at this
        exact this.mono fun e w' h => ⟨h.1, h.2.symm⟩
      have HYY := hide (And.intro hy1 hy2)
      have HBB := hide (And.intro hB1 hB2)
      have HQI := hide hi
      have HBP := hide (And.intro hbq1 hbq2)
      clear hne hb1 hs1 cg1 hB1 hL1 hb2 hs2 cg2 hB2 hL2 hbq1 hbq2 hx1 hx2 hq1 hq2 hy1 hy2 hi
      go_wp2_with fail
      go_quiet ((first | (go_at_call 76; exact Calls.quiet_of_same (M0.out _)) | (go_at_call 21; (with_reducible refine Calls.quiet_of_same (M1.out _))) | (go_at_call 21; (with_reducible refine Calls.quiet_of_same (M2.out _)))))
      have HI6 := hide (HI.out.later ((Gr.refl wr).drewN nq).below)
      have G6 := hide (And.intro (r1 nq) (r2 nq))
      have HB6 := hide (And.intro (HBB.out.1.now ((Gr.refl wr).drewN nq).below (Nat.le_refl _)) (HBB.out.2.now ((Gr.refl wr).drewN nq).below (Nat.le_refl _)))
      obtain ⟨W6, hW6⟩ : ∃ W6, wr.drewN nq = W6 := ⟨_, rfl⟩
      rw [hW6] at HI6 G6 HB6 ⊢
      clear hW6 r1 r2 M0 M1 M2 HI HBB
      by_cases hff : y1 = y2
      · have zz : ((y1 : Int) == (y2 : Int)) = true := beq_iff_eq.2 (by omega)
        have HEQ := hide hff
        clear hff
        have HFK : Hid (FirstK l1 s1 l2 s2 i) := ⟨HI6.out.no, by rw [HXX.out.1, HXX.out.2, HYY.out.1, HYY.out.2, HEQ.out]⟩
        have HD := ((Gr.refl W6).drew).below
        have HZ7 : Hid (BoxB W6.drew p (.slice none 0 0) (.slice none 0 0)) := HI6.out.zp
        have HX7 : Hid (BytesAt W6.drew.heap.size W6.drew A1 q1 (levF l1 s1 i) ∧ BytesAt W6.drew.heap.size W6.drew A2 q2 (levF l2 s2 i)) := by
          rw [HXX.out.1, HXX.out.2]
          exact ⟨HB6.out.1.now HD (Nat.le_refl _), HB6.out.2.now HD (Nat.le_refl _)⟩
        have HA7 := hide (HI6.out.bl.trans (HD.mono (Nat.le_of_lt HI6.out.zp.lt)))
        have e1c : W6.cell? ⟨b1, i, none⟩ = some (.slice A1 q1 k1) := G6.out.1
        have e2c : W6.cell? ⟨b2, i, none⟩ = some (.slice A2 q2 k2) := G6.out.2
        obtain ⟨u0, u1, uf0, uf1⟩ := HI6.out.zp.facts
        clear HD
        go_wp2_with fail
        go_still_tail 9, (by kernel_rfl)
        change wpList _ _ _ _ _ W6.drew
        generalize W6.drew = W7 at HZ7 HX7 HA7 ⊢
        clear u0 u1 uf0 uf1 e1c e2c
        obtain ⟨u0, u1, uf0, uf1⟩ := HZ7.out.facts
        go_wp2_with fail
        refine bodyPost_ret (v := .tuple #[.agg #[.slice A1 q1 k1, .slice A2 q2 k2], .int .i64 0]) (by simp [results, Tryd.results39, go_sem, u0, u1, uf0, uf1]) rfl ?_
        exact acc_ok HW.out.2 HZ7.out HA7.out HX7.out.1 HX7.out.2 HFK.out
      · have zz : ((y1 : Int) == (y2 : Int)) = false := beq_eq_false_iff_ne.2 (by omega)
        have HNF := hide hff
        clear hff
        have hi32 : (i : Int) ≤ 1000000 := by have := HPP.out; have := HL.out.2.2.2.2.1; have := HQI.out; omega
        go_wp2_with fail
        go_roundw
        case measure => have := HQI.out; simp [intOf]; omega
        have hno : ∀ j, j < i + 1 → mixV (levF l1 s1 j) ≠ mixV (levF l2 s2 j) := by
          intro j hj
          rcases Nat.lt_or_ge j i with h | h
          · exact HI6.out.no j h
          · obtain rfl : j = i := by omega
            rw [HXX.out.1, HXX.out.2, HYY.out.1, HYY.out.2]
            exact HNF.out
        have hlast : i + 1 < P := by
          have h1 := HPP.out
          have h2 := HQI.out
          rcases Nat.lt_or_ge i m1 with h | h
          · omega
          · obtain rfl : i = m1 := by omega
            exact absurd HKK.out (hno i (Nat.lt_succ_self i))
        exact ⟨i + 1, hlast, by go_num, ⟨HI6.out.bl, HI6.out.zp, HI6.out.o1, HI6.out.o2, hno⟩⟩
end Go.Proofs.YtbinmkigolkhcaaDoor
