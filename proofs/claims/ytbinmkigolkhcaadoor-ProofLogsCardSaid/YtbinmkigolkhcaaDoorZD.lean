/- ProofAccuses. -/
import Derived.Test.YtbinmkigolkhcaaDoorKD
import Derived.Test.YtbinmkigolkhcaaDoorKE
import Derived.Test.YtbinmkigolkhcaaDoorHS
import Derived.Test.YtbinmkigolkhcaaDoorFO
import Derived.Deep.DeepCutAuto
import Derived.Test.YtbinmkigolkhcaaDoorHT
import Derived.Test.YtbinmkigolkhcaaDoorMC
import Derived.Test.YtbinmkigolkhcaaDoorLA
import Derived.Test.YtbinmkigolkhcaaDoorHR
set_option linter.unusedSimpArgs false
set_option linter.unusedVariables false
namespace Go.Proofs.YtbinmkigolkhcaaDoor
open Go.RowKit Go.Sort
attribute [local go_sem] Oper.semAt_some

/-- a block that holds a way -/
def WayB (W : World) (g : Nat) (x y : Value) : Prop := W.heap[g]? = some (.cells #[x, y] 50 (0, 0))
theorem WayB.lt {W : World} {g : Nat} {x y : Value} (h : WayB W g x y) : g < W.heap.size := (Array.getElem?_eq_some_iff.1 h).1
theorem WayB.below {W W' : World} {g : Nat} {x y : Value} (h : WayB W g x y) (hb : Below W.heap.size W W') : WayB W' g x y := (hb.block g h.lt).trans h
theorem WayB.facts {W : World} {g : Nat} {x y : Value} (h : WayB W g x y) : W.cell? ⟨g, 0, none⟩ = some x ∧ W.cell? ⟨g, 1, none⟩ = some y := by
  unfold WayB at h
  refine ⟨?_, ?_⟩
  · unfold World.cell?; simp [h]
  · unfold World.cell?; simp [h]
set_option maxHeartbeats 4000000 in
set_option maxRecDepth 100000 in
theorem accuses_law (i n : Int) (A1 : Option Addr) (n1 c1 : Nat) (l1 : List UInt8) (S1 : Option Addr) (m1 d1 : Nat) (s1 : List St) (A2 : Option Addr) (n2 c2 : Nat) (l2 : List UInt8) (S2 : Option Addr) (m2 d2 : Nat) (s2 : List St) (w : World) (hE : Env w)
    (hx : BytesAt w.heap.size w A1 n1 l1) (hs : StepsAt w.heap.size w S1 m1 s1) (hy : BytesAt w.heap.size w A2 n2 l2) (ht : StepsAt w.heap.size w S2 m2 s2) :
    Calls Tryd.prog 6 #[.int .i64 i, .int .i64 n, .agg #[.slice A1 n1 c1, .slice S1 m1 d1], .agg #[.slice A2 n2 c2, .slice S2 m2 d2]] w (TrueP w) := by
  have mixed := mixedOrders
  have hb1 : Below w.heap.size w (w.alloc (.cells #[.slice A1 n1 c1, .slice S1 m1 d1] 50)) := (Below.refl _ w).alloc (Nat.le_refl _) _
  have hw1 : WayB (w.alloc (.cells #[.slice A1 n1 c1, .slice S1 m1 d1] 50)) w.heap.size (.slice A1 n1 c1) (.slice S1 m1 d1) := heap_alloc_new w _
  obtain ⟨W1, hW1⟩ : ∃ W1, w.alloc (.cells #[.slice A1 n1 c1, .slice S1 m1 d1] 50) = W1 := ⟨_, rfl⟩
  have hsz1 : W1.heap.size = w.heap.size + 1 := by rw [← hW1]; simp
  rw [hW1] at hb1 hw1
  have hb2 : Below W1.heap.size W1 (W1.alloc (.cells #[.slice A2 n2 c2, .slice S2 m2 d2] 50)) := (Below.refl _ W1).alloc (Nat.le_refl _) _
  have hw2 : WayB (W1.alloc (.cells #[.slice A2 n2 c2, .slice S2 m2 d2] 50)) W1.heap.size (.slice A2 n2 c2) (.slice S2 m2 d2) := heap_alloc_new W1 _
  obtain ⟨W, hW⟩ : ∃ W, W1.alloc (.cells #[.slice A2 n2 c2, .slice S2 m2 d2] 50) = W := ⟨_, rfl⟩
  rw [hW] at hb2 hw2
  have hw1' := hw1.below hb2
  have hbW := hb1.trans (hb2.mono hb1.size)
  have hEW := hE.after hbW
  have hxW := hx.now hbW (Nat.le_refl _)
  have hyW := hy.now hbW (Nat.le_refl _)
  have hsW := hs.now hbW (Nat.le_refl _)
  have htW := ht.now hbW (Nat.le_refl _)
  obtain ⟨p, hp⟩ : ∃ p, w.heap.size = p := ⟨_, rfl⟩
  obtain ⟨q, hq⟩ : ∃ q, w.heap.size + 1 = q := ⟨_, rfl⟩
  rw [hp] at hw1'
  rw [hsz1, hq] at hw2
  have HW := hide (And.intro hW1 (And.intro hW (And.intro hp hq)))
  have HP := hide (And.intro hw1' hw2)
  have HBW := hide hbW
  have HA := hide (alive_env hEW)
  have HEW := hide hEW
  obtain ⟨f0, f1⟩ := hw1'.facts
  obtain ⟨f2, f3⟩ := hw2.facts
  clear hb1 hw1 hb2 hw2 hw1' hW1 hW hbW hEW hx hy hs ht hp hq hE hsz1
  by_cases b1 : 400 < n1
  · have g : (400 : Int) < (n1 : Int) := by omega
    clear b1 hxW hyW hsW htW
    go_enter Tryd.func6, Tryd.ntmps6
    go_upto_region 1 with (fail)
    rw [HW.out.1, HW.out.2.1, HW.out.2.2.2, HW.out.2.2.1]
    go_wp2_with fail
    refine HA.out.mono ?_
    rintro e w1 ⟨rfl, hb⟩
    go_wp2_with fail
    go_ret
    exact ⟨rfl, HBW.out.trans (hb.mono HBW.out.size)⟩
  have g1 : ¬ (400 : Int) < (n1 : Int) := by omega
  by_cases b2 : 400 < n2
  · have g : (400 : Int) < (n2 : Int) := by omega
    clear b1 b2 hxW hyW hsW htW
    go_enter Tryd.func6, Tryd.ntmps6
    go_upto_region 1 with (fail)
    rw [HW.out.1, HW.out.2.1, HW.out.2.2.2, HW.out.2.2.1]
    go_wp2_with fail
    refine HA.out.mono ?_
    rintro e w1 ⟨rfl, hb⟩
    go_wp2_with fail
    go_ret
    exact ⟨rfl, HBW.out.trans (hb.mono HBW.out.size)⟩
  have g2 : ¬ (400 : Int) < (n2 : Int) := by omega
  by_cases b3 : 100 < m1
  · have g : (100 : Int) < (m1 : Int) := by omega
    clear b1 b2 b3 hxW hyW hsW htW
    go_enter Tryd.func6, Tryd.ntmps6
    go_upto_region 1 with (fail)
    rw [HW.out.1, HW.out.2.1, HW.out.2.2.2, HW.out.2.2.1]
    go_wp2_with fail
    refine HA.out.mono ?_
    rintro e w1 ⟨rfl, hb⟩
    go_wp2_with fail
    go_ret
    exact ⟨rfl, HBW.out.trans (hb.mono HBW.out.size)⟩
  have g3 : ¬ (100 : Int) < (m1 : Int) := by omega
  by_cases b4 : 100 < m2
  · have g : (100 : Int) < (m2 : Int) := by omega
    clear b1 b2 b3 b4 hxW hyW hsW htW
    go_enter Tryd.func6, Tryd.ntmps6
    go_upto_region 1 with (fail)
    rw [HW.out.1, HW.out.2.1, HW.out.2.2.2, HW.out.2.2.1]
    go_wp2_with fail
    refine HA.out.mono ?_
    rintro e w1 ⟨rfl, hb⟩
    go_wp2_with fail
    go_ret
    exact ⟨rfl, HBW.out.trans (hb.mono HBW.out.size)⟩
  have g4 : ¬ (100 : Int) < (m2 : Int) := by omega
  have C1 := hide (Accuse_any i n A1 n1 c1 l1 S1 m1 d1 s1 A2 n2 c2 l2 S2 m2 d2 s2 W hxW hsW (by omega) hyW htW (by omega))
  have C2 : Hid (∀ w2, Below W.heap.size W w2 → Calls Tryd.prog 39 #[.int .i64 i, .int .i64 n, .slice A1 n1 c1, .slice S1 m1 d1, .slice A2 n2 c2, .slice S2 m2 d2] w2 (AccPost (accE i n l1 s1 l2 s2) l1 s1 l2 s2 w2)) :=
    fun w2 hb => refAccuse_any i n A1 n1 c1 l1 S1 m1 d1 s1 A2 n2 c2 l2 S2 m2 d2 s2 w2 (hxW.now hb (Nat.le_refl _)) (hsW.now hb (Nat.le_refl _)) (by omega) (hyW.now hb (Nat.le_refl _)) (htW.now hb (Nat.le_refl _)) (by omega)
  obtain ⟨E, hEe⟩ : ∃ E, accE i n l1 s1 l2 s2 = E := ⟨_, rfl⟩
  rw [hEe] at C1 C2
  have zE : (E == E) = true := by simp
  clear b1 b2 b3 b4 hxW hyW hsW htW hEe HA
  go_enter Tryd.func6, Tryd.ntmps6
  go_upto_region 1 with (fail)
  rw [HW.out.1, HW.out.2.1, HW.out.2.2.2, HW.out.2.2.1]
  go_wp2_with fail
  refine C1.out.mono ?_
  rintro e w3 ⟨a1, k1, e1, a2, k2, e2, x1, x2, rfl, hx1, hx2, hac, hb3⟩
  have hb4 : Below w3.heap.size w3 (w3.alloc (.cells #[.slice a1 k1 e1, .slice a2 k2 e2] 52)) := (Below.refl _ w3).alloc (Nat.le_refl _) _
  have hz4 : BoxB (w3.alloc (.cells #[.slice a1 k1 e1, .slice a2 k2 e2] 52)) w3.heap.size (.slice a1 k1 e1) (.slice a2 k2 e2) := heap_alloc_new w3 _
  clear f0 f1 f2 f3 g1 g2 g3 g4
  go_upto_region 4 with (fail)
  obtain ⟨W4, hW4⟩ : ∃ W4, w3.alloc (.cells #[.slice a1 k1 e1, .slice a2 k2 e2] 52) = W4 := ⟨_, rfl⟩
  obtain ⟨g, hg⟩ : ∃ g, w3.heap.size = g := ⟨_, rfl⟩
  rw [hW4] at hb4 hz4 ⊢
  rw [hg] at hz4
  (try rw [hg])
  have hbW4 := hb3.trans (hb4.mono hb3.size)
  have HX1 := hide (hx1.now hb4 (Nat.le_refl _))
  have HX2 := hide (hx2.now hb4 (Nat.le_refl _))
  have HAC := hide hac
  have HB4 := hide hbW4
  have HZ4 := hide hz4
  obtain ⟨f0, f1⟩ := (HP.out.1.below hbW4).facts
  obtain ⟨f2, f3⟩ := (HP.out.2.below hbW4).facts
  clear hx1 hx2 hac hb3 hb4 hz4 hW4 hg hbW4 C1
  go_wp2_with fail
  refine (C2.out W4 HB4.out).mono ?_
  rintro e w5 ⟨a3, k3, e3, a4, k4, e4, x3, x4, rfl, hx3, hx4, hac, hb5⟩
  obtain ⟨rfl, rfl⟩ := HAC.out.uniq hac
  have hb6 : Below w5.heap.size w5 (w5.alloc (.cells #[.slice a3 k3 e3, .slice a4 k4 e4] 52)) := (Below.refl _ w5).alloc (Nat.le_refl _) _
  have hz6 : BoxB (w5.alloc (.cells #[.slice a3 k3 e3, .slice a4 k4 e4] 52)) w5.heap.size (.slice a3 k3 e3) (.slice a4 k4 e4) := heap_alloc_new w5 _
  clear f0 f1 f2 f3
  go_upto_region 5 with (fail)
  obtain ⟨W6, hW6⟩ : ∃ W6, w5.alloc (.cells #[.slice a3 k3 e3, .slice a4 k4 e4] 52) = W6 := ⟨_, rfl⟩
  obtain ⟨g', hg'⟩ : ∃ g, w5.heap.size = g := ⟨_, rfl⟩
  rw [hW6] at hb6 hz6 ⊢
  rw [hg'] at hz6
  (try rw [hg'])
  have hbW6 := hb5.trans (hb6.mono hb5.size)
  have hZ := HZ4.out.below hbW6
  have k1 := conv_any (HX1.out.now hbW6 (Nat.le_refl _)) e1
  have k2 := conv_any (HX2.out.now hbW6 (Nat.le_refl _)) e2
  have k3 := conv_any (hx3.now hb6 (Nat.le_refl _)) e3
  have k4 := conv_any (hx4.now hb6 (Nat.le_refl _)) e4
  obtain ⟨t1, ht1⟩ : ∃ s, strOfNums (numsB x1) = s := ⟨_, rfl⟩
  obtain ⟨t2, ht2⟩ : ∃ s, strOfNums (numsB x2) = s := ⟨_, rfl⟩
  rw [ht1] at k1 k3
  rw [ht2] at k2 k4
  have y1 : (t1.toList == t1.toList) = true := by simp
  have y2 : (t2.toList == t2.toList) = true := by simp
  obtain ⟨v0, v1, -, -⟩ := hZ.facts
  obtain ⟨v2, v3, -, -⟩ := hz6.facts
  have HB6 := hide (HB4.out.trans (hbW6.mono HB4.out.size))
  have HA := hide (alive_env (HEW.out.after HB6.out))
  clear hx3 hx4 hac hb5 hb6 hz6 hZ hW6 hg' hbW6 C2 ht1 ht2
  go_wp2_with fail
  refine HA.out.mono ?_
  rintro e w7 ⟨rfl, hb⟩
  go_wp2_with fail
  go_ret
  exact ⟨rfl, (HBW.out.trans (HB6.out.mono HBW.out.size)).trans (hb.mono (HBW.out.trans (HB6.out.mono HBW.out.size)).size)⟩
end Go.Proofs.YtbinmkigolkhcaaDoor
/- among, blamed. -/
set_option linter.unusedSimpArgs false
set_option linter.unusedVariables false
namespace Go.Proofs.YtbinmkigolkhcaaDoor
open Go.RowKit Go.Sort
attribute [local go_sem] Oper.semAt_some

theorem mem_getD {ls : List (List UInt8)} {i : Nat} (h : i < ls.length) : ls.getD i [] ∈ ls := by
  rw [List.getD_eq_getElem?_getD, List.getElem?_eq_getElem h]
  exact List.getElem_mem h
theorem not_mem_getD {ls : List (List UInt8)} {b : List UInt8} (h : ∀ j, j < ls.length → ls.getD j [] ≠ b) : b ∉ ls := by
  intro hm
  obtain ⟨j, hj, rfl⟩ := List.getElem_of_mem hm
  refine h j hj ?_
  rw [List.getD_eq_getElem?_getD, List.getElem?_eq_getElem hj]
  rfl
set_option maxHeartbeats 4000000 in
set_option maxRecDepth 100000 in
theorem among_any (a : Option Addr) (n c : Nat) (ls : List (List UInt8)) (base : Nat) (B : Option Addr) (m d : Nat) (b : List UInt8) (w : World) (ho : OwnLists base w a n c ls) (hn : n ≤ 2000000) (hb : BytesAt w.heap.size w B m b) :
    Calls Tryd.prog 52 #[.slice a n c, .slice B m d] w fun e w' => e = .returned (.bool (decide (b ∈ ls))) ∧ Below w.heap.size w w' := by
  have mixed := mixedOrders
  have HO := hide ho
  have HB := hide hb
  have HN := hide (And.intro hn ho.1)
  obtain ⟨r, hr⟩ : ∃ r, decide (b ∈ ls) = r := ⟨_, rfl⟩
  have HR := hide hr
  rw [hr]
  clear ho hn hb hr
  go_enter Tryd.func52, Tryd.ntmps52
  go_wp2_with fail
  go_loopw [5] (fun vi wr => ∃ i : Nat, i ≤ n ∧ vi = .int .i64 i ∧ Hid (Below w.heap.size w wr ∧ ∀ j, j < i → ls.getD j [] ≠ b)) (fun vi _ => n - (intOf vi).toNat)
  case atStart => exact ⟨0, Nat.zero_le _, rfl, Below.refl _ _, fun j hj => absurd hj (Nat.not_lt_zero _)⟩
  case round =>
    obtain ⟨i, hi, rfl, HI⟩ := hrel
    by_cases hlt : i < n
    · have hlt' : (i : Int) < (n : Int) := by omega
      obtain ⟨g, A, k, rfl, hb1, hs1, cg, hB, hL⟩ := (HO.out.later HI.out.1).at_ hlt
      have hBB := HB.out.now HI.out.1 (Nat.le_refl _)
      obtain ⟨x, hx⟩ : ∃ x, ls.getD i [] = x := ⟨_, rfl⟩
      rw [hx] at cg hB hL
      obtain ⟨q, hq⟩ : ∃ q, x.length = q := ⟨_, rfl⟩
      rw [hq] at cg hB hL
      have hsb := strB_beq x b
      unfold strB at hsb
      have k1 : ∀ nq, (convert 23 9 (.slice A q k)).run Tryd.prog (wr.drewN nq) = .ok (.string (strOfNums (numsB x))) (wr.drewN nq) := fun nq => conv_any (hB.now ((Gr.refl wr).drewN nq).below (Nat.le_refl _)) k
      have k2 : ∀ nq, (convert 23 9 (.slice B m d)).run Tryd.prog (wr.drewN nq) = .ok (.string (strOfNums (numsB b))) (wr.drewN nq) := fun nq => conv_any (hBB.now ((Gr.refl wr).drewN nq).below (Nat.le_refl _)) d
      have r1 : ∀ nq, (wr.drewN nq).cell? ⟨g, i, none⟩ = some (.slice A q k) := fun _ => cg
      obtain ⟨t1, ht1⟩ : ∃ s, strOfNums (numsB x) = s := ⟨_, rfl⟩
      obtain ⟨t2, ht2⟩ : ∃ s, strOfNums (numsB b) = s := ⟨_, rfl⟩
      simp only [ht1] at k1
      simp only [ht2] at k2
      rw [ht1, ht2] at hsb
      have HX := hide (And.intro hx (And.intro hi hlt))
      have HSB := hide hsb
      clear hb1 hs1 cg hB hL hBB hx hq ht1 ht2 hsb hi hlt
      by_cases hxb : x = b
      · have y : (t1.toList == t2.toList) = true := by rw [HSB.out]; exact decide_eq_true hxb
        have hr1 : r = true := by rw [← HR.out]; exact decide_eq_true (by rw [← hxb, ← HX.out.1]; exact mem_getD (by rw [HN.out.2]; exact HX.out.2.2))
        subst hr1
        clear hxb
        go_wp2_with fail
        go_quiet (fail)
        go_wp2_with fail
        go_ret
        exact ⟨rfl, HI.out.1.trans (((Gr.refl wr).drewN nq).below.mono HI.out.1.size)⟩
      · have y : (t1.toList == t2.toList) = false := by rw [HSB.out]; exact decide_eq_false hxb
        have HXB := hide hxb
        clear hxb
        go_wp2_with fail
        go_quiet (fail)
        have hi32 : (i : Int) ≤ 2000000 := by have := HN.out.1; have := HX.out.2.2; omega
        go_wp2_with fail
        go_roundw
        case measure => have := HX.out.2.2; simp [intOf]; omega
        refine ⟨i + 1, HX.out.2.2, by go_num, HI.out.1.trans (((Gr.refl wr).drewN nq).below.mono HI.out.1.size), fun j hj => ?_⟩
        rcases Nat.lt_or_ge j i with h | h
        · exact HI.out.2 j h
        · obtain rfl : j = i := by omega
          rw [HX.out.1]
          exact HXB.out
    · obtain rfl : i = n := by omega
      have hr1 : r = false := by rw [← HR.out]; exact decide_eq_false (not_mem_getD (by rw [HN.out.2]; exact HI.out.2))
      subst hr1
      clear hlt hi
      go_wp2_with fail
      go_ret
      exact ⟨rfl, HI.out.1⟩
end Go.Proofs.YtbinmkigolkhcaaDoor
/- ProofBlames: what Included and Accuse say of two ways. -/
set_option linter.unusedSimpArgs false
set_option linter.unusedVariables false
namespace Go.Proofs.YtbinmkigolkhcaaDoor
open Go.RowKit Go.Sort
attribute [local go_sem] Oper.semAt_some

theorem inc_true {l : List UInt8} {i n : Int} {r : Nat} {s : List St} (h : (includedV l i n r s).1 = true) : placeB i n = true ∧ ¬ 256 < l.length ∧ leadB s (sidesV i.toNat n.toNat) = true ∧ followV l s = r ∧ (includedV l i n r s).2 = 0 := by
  unfold includedV at h ⊢
  by_cases h1 : placeB i n = false
  · rw [if_pos h1] at h; cases h
  rw [if_neg h1] at h ⊢
  by_cases h2 : 256 < l.length
  · rw [if_pos h2] at h; cases h
  rw [if_neg h2] at h ⊢
  simp only [Bool.and_eq_true, decide_eq_true_iff] at h
  exact ⟨by cases hp : placeB i n <;> simp_all, h2, h.1, h.2, rfl⟩
theorem accE_zero {i n : Int} {l1 l2 : List UInt8} {s1 s2 : List St} (h : accE i n l1 s1 l2 s2 = 0) : placeB i n = true ∧ ¬ 256 < l1.length ∧ ¬ 256 < l2.length ∧ l1 ≠ l2 ∧ leadB s1 (sidesV i.toNat n.toNat) = true ∧ leadB s2 (sidesV i.toNat n.toNat) = true ∧ followV l1 s1 = followV l2 s2 := by
  unfold accE at h
  by_cases h1 : placeB i n = false
  · rw [if_pos h1] at h; cases h
  rw [if_neg h1] at h
  by_cases h2 : 256 < l1.length
  · rw [if_pos h2] at h; cases h
  rw [if_neg h2] at h
  by_cases h3 : 256 < l2.length
  · rw [if_pos h3] at h; cases h
  rw [if_neg h3] at h
  by_cases h4 : l1 = l2
  · rw [if_pos h4] at h; cases h
  rw [if_neg h4] at h
  by_cases h5 : leadB s1 (sidesV i.toNat n.toNat) = false
  · rw [if_pos h5] at h; cases h
  rw [if_neg h5] at h
  by_cases h6 : leadB s2 (sidesV i.toNat n.toNat) = false
  · rw [if_pos h6] at h; cases h
  rw [if_neg h6] at h
  by_cases h7 : followV l1 s1 = followV l2 s2
  · exact ⟨by simpa using h1, h2, h3, h4, by simpa using h5, by simpa using h6, h7⟩
  · rw [if_neg h7] at h; cases h
/-- both accepted and different: no error -/
theorem acc_good {i n : Int} {l1 l2 : List UInt8} {s1 s2 : List St} (h1 : (includedV l1 i n (followV l1 s1) s1).1 = true) (h2 : (includedV l2 i n (followV l1 s1) s2).1 = true) (hne : l1 ≠ l2) : accE i n l1 s1 l2 s2 = 0 := by
  obtain ⟨a1, a2, a3, a4, _⟩ := inc_true h1
  obtain ⟨b1, b2, b3, b4, _⟩ := inc_true h2
  unfold accE
  rw [if_neg (by rw [a1]; decide), if_neg a2, if_neg b2, if_neg hne, if_neg (by rw [a3]; decide), if_neg (by rw [b3]; decide), if_pos b4.symm]
theorem acc_bad {i n : Int} {l1 l2 : List UInt8} {s1 s2 : List St} (h : accE i n l1 s1 l2 s2 = 0) : (includedV l1 i n (followV l1 s1) s1).1 = true ∧ (includedV l2 i n (followV l1 s1) s2).1 = true ∧ l1 ≠ l2 := by
  obtain ⟨a, b1, b2, hne, c1, c2, hf⟩ := accE_zero h
  refine ⟨?_, ?_, hne⟩
  · unfold includedV
    rw [if_neg (by rw [a]; decide), if_neg b1, c1]
    simp
  · unfold includedV
    rw [if_neg (by rw [a]; decide), if_neg b2, c2, hf]
    simp
theorem firstK_le {l1 l2 : List UInt8} {s1 s2 : List St} {k : Nat} (hk : FirstK l1 s1 l2 s2 k) (hl : s1.length = s2.length) (hf : followV l1 s1 = followV l2 s2) : k ≤ s1.length := by
  rcases Nat.lt_or_ge s1.length k with h | h
  · refine absurd ?_ (hk.1 s1.length h)
    have a1 := mix_lev l1 s1 s1.length (Nat.le_refl _)
    have a2 := mix_lev l2 s2 s1.length (by omega)
    rw [List.take_length] at a1
    rw [hl, List.take_length] at a2
    rw [a1, hl, a2, hf]
  · exact h

end Go.Proofs.YtbinmkigolkhcaaDoor
/- blamed: Accuse names two byte strings that collide, whenever it names any. -/
set_option linter.unusedSimpArgs false
set_option linter.unusedVariables false
namespace Go.Proofs.YtbinmkigolkhcaaDoor
open Go.RowKit Go.Sort
attribute [local go_sem] Oper.semAt_some

set_option maxHeartbeats 4000000 in
set_option maxRecDepth 100000 in
theorem blamed_any (i n : Int) (A : Option Addr) (n1 c1 : Nat) (l1 : List UInt8) (S : Option Addr) (m1 d1 : Nat) (s1 : List St) (B : Option Addr) (n2 c2 : Nat) (l2 : List UInt8) (T : Option Addr) (m2 d2 : Nat) (s2 : List St) (w : World)
    (hx : BytesAt w.heap.size w A n1 l1) (hs : StepsAt w.heap.size w S m1 s1) (hm1 : m1 ≤ 1000000) (hy : BytesAt w.heap.size w B n2 l2) (ht : StepsAt w.heap.size w T m2 s2) (hm2 : m2 ≤ 1000000) :
    Calls Tryd.prog 51 #[.int .i64 i, .int .i64 n, .slice A n1 c1, .slice S m1 d1, .slice B n2 c2, .slice T m2 d2] w fun e w' => e = .returned (.bool (decide (accE i n l1 s1 l2 s2 = 0))) ∧ Below w.heap.size w w' := by
  have mixed := mixedOrders
  have C1 := hide (Accuse_any i n A n1 c1 l1 S m1 d1 s1 B n2 c2 l2 T m2 d2 s2 w hx hs hm1 hy ht hm2)
  have hz := @accE_zero i n l1 l2 s1 s2
  obtain ⟨E, hE⟩ : ∃ E, accE i n l1 s1 l2 s2 = E := ⟨_, rfl⟩
  rw [hE] at C1 hz
  rw [hE]
  have HZ := hide hz
  clear hx hs hm1 hy ht hm2 hE hz
  go_enter Tryd.func51, Tryd.ntmps51
  go_wp2_with fail
  refine C1.out.mono ?_
  rintro e w4 ⟨a1, k1, e1, a2, k2, e2, x1, x2, rfl, hx1, hx2, hac, hb4⟩
  have hb5 : Below w4.heap.size w4 (w4.alloc (.cells #[.slice a1 k1 e1, .slice a2 k2 e2] 52)) := (Below.refl _ w4).alloc (Nat.le_refl _) _
  have hz5 : BoxB (w4.alloc (.cells #[.slice a1 k1 e1, .slice a2 k2 e2] 52)) w4.heap.size (.slice a1 k1 e1) (.slice a2 k2 e2) := heap_alloc_new w4 _
  go_upto_region 2 with (fail)
  obtain ⟨W5, hW5⟩ : ∃ W5, w4.alloc (.cells #[.slice a1 k1 e1, .slice a2 k2 e2] 52) = W5 := ⟨_, rfl⟩
  obtain ⟨g, hg⟩ : ∃ g, w4.heap.size = g := ⟨_, rfl⟩
  rw [hW5] at hb5 hz5 ⊢
  rw [hg] at hz5
  (try rw [hg])
  have HB5 := hide (hb4.trans (hb5.mono hb4.size))
  have HX1 := hide (hx1.now hb5 (Nat.le_refl _))
  have HX2 := hide (hx2.now hb5 (Nat.le_refl _))
  have u0 : ∀ nq, (W5.drewN nq).cell? ⟨g, 0, none⟩ = some (.slice a1 k1 e1) := fun _ => hz5.facts.1
  have u1 : ∀ nq, (W5.drewN nq).cell? ⟨g, 1, none⟩ = some (.slice a2 k2 e2) := fun _ => hz5.facts.2.1
  have HAC := hide hac
  clear hx1 hx2 hb4 hb5 hz5 hW5 hg hac C1
  by_cases hE0 : E = 0
  · subst hE0
    obtain ⟨p0, p1, p2, hne, p3, p4, hf⟩ := HZ.out rfl
    obtain ⟨k, hk, hxe1, hxe2⟩ := HAC.out.2 rfl
    have hls := lead_same p3 p4
    have hkm : k ≤ s1.length := firstK_le hk hls hf
    have hxne : x1 ≠ x2 := by rw [hxe1, hxe2]; exact lev_ne hne (lead_map p3 p4) k hkm (by omega) hk.1
    have hmx : mixV x1 = mixV x2 := by rw [hxe1, hxe2]; exact hk.2
    have hlen1 : x1.length ≤ 257 := by rw [hxe1]; exact levF_length (k := 256) (by omega) (by decide) k
    have hlen2 : x2.length ≤ 257 := by rw [hxe2]; exact levF_length (k := 256) (by omega) (by decide) k
    have hkl1 := HX1.out.1
    have hkl2 := HX2.out.1
    have hsx := strB_beq x1 x2
    unfold strB at hsx
    have cvA : ∀ nq, (convert 23 9 (.slice a1 k1 e1)).run Tryd.prog (W5.drewN nq) = .ok (.string (strOfNums (numsB x1))) (W5.drewN nq) := fun nq => conv_any (HX1.out.now ((Gr.refl W5).drewN nq).below (Nat.le_refl _)) e1
    have cvB : ∀ nq, (convert 23 9 (.slice a2 k2 e2)).run Tryd.prog (W5.drewN nq) = .ok (.string (strOfNums (numsB x2))) (W5.drewN nq) := fun nq => conv_any (HX2.out.now ((Gr.refl W5).drewN nq).below (Nat.le_refl _)) e2
    obtain ⟨t3, ht3⟩ : ∃ s, strOfNums (numsB x1) = s := ⟨_, rfl⟩
    obtain ⟨t4, ht4⟩ : ∃ s, strOfNums (numsB x2) = s := ⟨_, rfl⟩
    simp only [ht3] at cvA
    simp only [ht4] at cvB
    rw [ht3, ht4] at hsx
    have y1 : (t3.toList == t4.toList) = false := by rw [hsx]; exact decide_eq_false hxne
    obtain ⟨h, hh⟩ : ∃ h, mixV x1 = h := ⟨_, rfl⟩
    have hh2 : mixV x2 = h := by rw [← hmx]; exact hh
    have y2 : ((h : Int) == (h : Int)) = true := by simp
    have M1 : Hid (∀ nq, Calls Tryd.prog 20 #[.slice a1 k1 e1] (W5.drewN nq) fun e w' => e = .returned (.int .u64 (h : Nat)) ∧ w' = W5.drewN nq) := fun nq => by
      have := Mix_any a1 k1 e1 x1 (W5.drewN nq) (HX1.out.now ((Gr.refl W5).drewN nq).below (Nat.le_refl _)) (by omega)
      rw [hh] at this
      exact this.mono fun e w' h => ⟨h.1, h.2.symm⟩
    have M2 : Hid (∀ nq, Calls Tryd.prog 20 #[.slice a2 k2 e2] (W5.drewN nq) fun e w' => e = .returned (.int .u64 (h : Nat)) ∧ w' = W5.drewN nq) := fun nq => by
      have := Mix_any a2 k2 e2 x2 (W5.drewN nq) (HX2.out.now ((Gr.refl W5).drewN nq).below (Nat.le_refl _)) (by omega)
      rw [hh2] at this
      exact this.mono fun e w' h => ⟨h.1, h.2.symm⟩
    have R1 : Hid (∀ nq, Calls Tryd.prog 21 #[.slice a1 k1 e1] (W5.drewN nq) fun e w' => e = .returned (.int .u64 (h : Nat)) ∧ w' = W5.drewN nq) := fun nq => by
      have := refMix_any a1 k1 e1 x1 (W5.drewN nq) (HX1.out.now ((Gr.refl W5).drewN nq).below (Nat.le_refl _)) (by omega)
      rw [hh] at this
      exact this.mono fun e w' h => ⟨h.1, h.2.symm⟩
    have R2 : Hid (∀ nq, Calls Tryd.prog 21 #[.slice a2 k2 e2] (W5.drewN nq) fun e w' => e = .returned (.int .u64 (h : Nat)) ∧ w' = W5.drewN nq) := fun nq => by
      have := refMix_any a2 k2 e2 x2 (W5.drewN nq) (HX2.out.now ((Gr.refl W5).drewN nq).below (Nat.le_refl _)) (by omega)
      rw [hh2] at this
      exact this.mono fun e w' h => ⟨h.1, h.2.symm⟩
    clear p0 p1 p2 hne p3 p4 hf hk hxe1 hxe2 hls hkm hxne hmx hlen1 hlen2 hkl1 hkl2 hsx ht3 ht4 hh hh2 HZ HAC
    go_wp2_with fail
    go_quiet ((first | (go_at_call 20; (with_reducible refine Calls.quiet_of_same (M1.out _))) | (go_at_call 20; (with_reducible refine Calls.quiet_of_same (M2.out _))) | (go_at_call 21; (with_reducible refine Calls.quiet_of_same (R1.out _))) | (go_at_call 21; (with_reducible refine Calls.quiet_of_same (R2.out _)))))
    go_wp2_with fail
    go_ret
    exact ⟨rfl, HB5.out.trans (((Gr.refl W5).drewN nq).below.mono HB5.out.size)⟩
  · have zE : (E == 0) = false := beq_eq_false_iff_ne.2 hE0
    have zD : decide (E = 0) = false := decide_eq_false hE0
    clear HZ HAC
    go_wp2_with fail
    go_quiet (fail)
    go_wp2_with fail
    go_ret
    exact ⟨by simp [hE0], HB5.out.trans (((Gr.refl W5).drewN nq).below.mono HB5.out.size)⟩
end Go.Proofs.YtbinmkigolkhcaaDoor
/- Extended; ProofComplete. -/
set_option linter.unusedSimpArgs false
set_option linter.unusedVariables false
namespace Go.Proofs.YtbinmkigolkhcaaDoor
open Go.RowKit Go.Sort
attribute [local go_sem] Oper.semAt_some

def extendedV (m n : Int) (old root : Nat) (hs : List Nat) : Bool × Int := if m < 1 ∨ n < m ∨ 4096 < n then (false, 2) else (extB m.toNat n.toNat old root hs, 0)
theorem ext_of {m n old root : Nat} {hs : List Nat} {T : Nat × Nat × Bool} (h : twoV m n true old hs = T) : extB m n old root hs = (T.2.2 && decide (T.1 = old) && decide (T.2.1 = root)) := by
  unfold extB
  rw [h]

set_option maxHeartbeats 2000000 in
set_option maxRecDepth 100000 in
theorem Extended_any (m n : Int) (old root : Nat) (A : Option Addr) (k c : Nat) (hs : List Nat) (w : World) (hx : HashesAt w.heap.size w A k hs) (hc : k ≤ c) (hk : k ≤ 1000000) (ho : old < 18446744073709551616) :
    Calls Tryd.prog 36 #[.int .i64 m, .int .i64 n, .int .u64 old, .int .u64 root, .slice A k c] w (TwoPost (extendedV m n old root hs) w) := by
  have mixed := mixedOrders
  unfold extendedV
  by_cases c1 : m < 1
  · rw [if_pos (.inl c1)]
    clear hx hc hk ho
    go_enter Tryd.func36, Tryd.ntmps36
    go_wp2_with fail
    go_ret2
    exact ⟨rfl, Below.refl _ _⟩
  by_cases c2 : n < m
  · rw [if_pos (.inr (.inl c2))]
    clear hx hc hk ho
    go_enter Tryd.func36, Tryd.ntmps36
    go_wp2_with fail
    go_ret2
    exact ⟨rfl, Below.refl _ _⟩
  by_cases c3 : 4096 < n
  · rw [if_pos (.inr (.inr c3))]
    clear hx hc hk ho
    go_enter Tryd.func36, Tryd.ntmps36
    go_wp2_with fail
    go_ret2
    exact ⟨rfl, Below.refl _ _⟩
  rw [if_neg (by omega)]
  obtain ⟨m', rfl⟩ : ∃ k : Nat, m = k := ⟨m.toNat, by omega⟩
  obtain ⟨n', rfl⟩ : ∃ k : Nat, n = k := ⟨n.toNat, by omega⟩
  rw [Int.toNat_natCast, Int.toNat_natCast]
  have HC := hide (twoRoots_any n' n' m' true old A k c hs w (Nat.le_refl _) (by omega) (by omega) (by omega) hx hc hk ho)
  obtain ⟨T, hT⟩ : ∃ T, twoV m' n' true old hs = T := ⟨_, rfl⟩
  rw [ext_of hT]
  rw [hT] at HC
  obtain ⟨T1, T2, T3⟩ := T
  have HC1 : Hid (Calls Tryd.prog 72 #[.int .i64 m', .int .i64 n', .bool true, .int .u64 old, .slice A k c] w fun e w' => e = .returned (.tuple #[.int .u64 (T1 : Nat), .int .u64 (T2 : Nat), .bool T3]) ∧ Below w.heap.size w w') := HC.out
  clear hT hx hc hk ho HC
  show Calls _ _ _ _ (TwoPost (T3 && decide (T1 = old) && decide (T2 = root), 0) w)
  cases T3
  · go_enter Tryd.func36, Tryd.ntmps36
    go_wp2_with fail
    refine HC1.out.mono ?_
    rintro e w1 ⟨rfl, hb⟩
    have HB := hide hb
    clear hb
    go_wp2_with fail
    go_ret2
    exact ⟨rfl, HB.out⟩
  · by_cases h1 : T1 = old
    · rw [decide_eq_true h1]
      have z1 : ((T1 : Int) == (old : Int)) = true := beq_iff_eq.2 (by omega)
      clear h1
      by_cases h2 : T2 = root
      · rw [decide_eq_true h2]
        have z2 : ((T2 : Int) == (root : Int)) = true := beq_iff_eq.2 (by omega)
        clear h2
        go_enter Tryd.func36, Tryd.ntmps36
        go_wp2_with fail
        refine HC1.out.mono ?_
        rintro e w1 ⟨rfl, hb⟩
        have HB := hide hb
        clear hb
        go_wp2_with fail
        go_ret2
        exact ⟨rfl, HB.out⟩
      · rw [decide_eq_false h2]
        have z2 : ((T2 : Int) == (root : Int)) = false := beq_eq_false_iff_ne.2 (by omega)
        clear h2
        go_enter Tryd.func36, Tryd.ntmps36
        go_wp2_with fail
        refine HC1.out.mono ?_
        rintro e w1 ⟨rfl, hb⟩
        have HB := hide hb
        clear hb
        go_wp2_with fail
        go_ret2
        exact ⟨rfl, HB.out⟩
    · rw [decide_eq_false h1]
      have z1 : ((T1 : Int) == (old : Int)) = false := beq_eq_false_iff_ne.2 (by omega)
      clear h1
      go_enter Tryd.func36, Tryd.ntmps36
      go_wp2_with fail
      refine HC1.out.mono ?_
      rintro e w1 ⟨rfl, hb⟩
      have HB := hide hb
      clear hb
      go_wp2_with fail
      go_ret2
      exact ⟨rfl, HB.out⟩

theorem lead_self {ss : List St} {l : List Bool} (h : ss.map (·.2) = l) : leadB ss l = true := decide_eq_true h
/-- the proof that Include gives is taken -/
theorem include_taken {ls : List (List UInt8)} {i : Nat} (hi : i < ls.length) (hl : ∀ l ∈ ls, l.length ≤ 256) (hn : ls.length ≤ 4096) : includedV (ls.getD i []) i ls.length (rootV ls) (stepsV ls i) = (true, 0) := by
  unfold includedV
  have hp : placeB i ls.length = true := decide_eq_true (by omega)
  have hm : (ls.getD i []).length ≤ 256 := by
    rw [List.getD_eq_getElem?_getD, List.getElem?_eq_getElem hi]
    exact hl _ (List.getElem_mem hi)
  rw [if_neg (by rw [hp]; decide), if_neg (by omega), Int.toNat_natCast, Int.toNat_natCast, lead_self (steps_sides ls.length ls i (Nat.le_refl _) hi), follow_steps ls.length ls i (Nat.le_refl _) hi, decide_eq_true rfl]
  rfl
theorem extend_taken {ls : List (List UInt8)} {m : Nat} (h1 : 1 ≤ m) (h2 : m ≤ ls.length) (hn : ls.length ≤ 4096) : extendedV m ls.length (rootV (ls.take m)) (rootV ls) (growthV ls m true) = (true, 0) := by
  unfold extendedV
  rw [if_neg (by omega), Int.toNat_natCast, Int.toNat_natCast, ext_of (two_growth ls.length ls m true (rootV (ls.take m)) (Nat.le_refl _) h1 h2 (fun _ => rfl))]
  simp
end Go.Proofs.YtbinmkigolkhcaaDoor
/- ProofGrows. -/
set_option linter.unusedSimpArgs false
set_option linter.unusedVariables false
namespace Go.Proofs.YtbinmkigolkhcaaDoor
open Go.RowKit Go.Sort
attribute [local go_sem] Oper.semAt_some

/-- the entries of a log behind the Adds of the first i entries of a list -/
def logN (ls0 es : List (List UInt8)) : Nat → List (List UInt8)
  | 0 => ls0
  | i + 1 => (addV (logN ls0 es i) (es.getD i [])).2
theorem addV_more (ls : List (List UInt8)) (l : List UInt8) : ∃ m, (addV ls l).2 = ls ++ m ∧ m.length ≤ 1 ∧ (∀ x ∈ m, x.length ≤ 256) := by
  unfold addV
  split
  · exact ⟨[], by simp, by simp, fun x hx => by simp at hx⟩
  · split
    · exact ⟨[], by simp, by simp, fun x hx => by simp at hx⟩
    · exact ⟨[l], rfl, by simp, fun x hx => by simp at hx; rw [hx]; omega⟩
theorem logN_more (ls0 es : List (List UInt8)) : ∀ i, ∃ m, logN ls0 es i = ls0 ++ m ∧ m.length ≤ i ∧ (∀ x ∈ m, x.length ≤ 256)
  | 0 => ⟨[], by simp [logN], by simp, fun x hx => by simp at hx⟩
  | i + 1 => by
    obtain ⟨m, h1, h2, h3⟩ := logN_more ls0 es i
    obtain ⟨m2, k1, k2, k3⟩ := addV_more (logN ls0 es i) (es.getD i [])
    refine ⟨m ++ m2, by rw [logN, k1, h1, List.append_assoc], by rw [List.length_append]; omega, fun x hx => ?_⟩
    rcases List.mem_append.1 hx with h | h
    · exact h3 x h
    · exact k3 x h
theorem lex_taken {ls : List (List UInt8)} {m : Nat} (h1 : 1 ≤ m) (h2 : m ≤ ls.length) : lextV ls m ls.length = (growthV ls m true, 0) := by
  unfold lextV
  rw [if_neg (by omega), if_neg (by omega), Int.toNat_natCast, Int.toNat_natCast, List.take_of_length_le (Nat.le_refl _)]
theorem ext_root {ls : List (List UInt8)} {m r : Nat} (h1 : 1 ≤ m) (h2 : m ≤ ls.length) (hn : ls.length ≤ 4096) (hr : r ≠ rootV ls) : extendedV m ls.length (rootV (ls.take m)) r (growthV ls m true) = (false, 0) := by
  unfold extendedV
  rw [if_neg (by omega), Int.toNat_natCast, Int.toNat_natCast, ext_of (two_growth ls.length ls m true (rootV (ls.take m)) (Nat.le_refl _) h1 h2 (fun _ => rfl))]
  have : decide (rootV ls = r) = false := decide_eq_false (fun e => hr e.symm)
  simp [this]
theorem ext_more {ls : List (List UInt8)} {m r x : Nat} (h1 : 1 ≤ m) (h2 : m ≤ ls.length) (hn : ls.length ≤ 4096) : extendedV m ls.length (rootV (ls.take m)) r (growthV ls m true ++ [x]) = (false, 0) := by
  unfold extendedV
  rw [if_neg (by omega), Int.toNat_natCast, Int.toNat_natCast]
  have e1 := two_fit ls.length m ls.length true (rootV (ls.take m)) (growthV ls m true) (Nat.le_refl _) h1 h2
  rw [two_growth ls.length ls m true (rootV (ls.take m)) (Nat.le_refl _) h1 h2 (fun _ => rfl)] at e1
  have e2 : (growthV ls m true).length = cntV m ls.length true := of_decide_eq_true e1.symm
  have e3 := two_fit ls.length m ls.length true (rootV (ls.take m)) (growthV ls m true ++ [x]) (Nat.le_refl _) h1 h2
  rw [decide_eq_false (by rw [List.length_append, List.length_singleton]; omega)] at e3
  unfold extB
  rw [e3]
  rfl
theorem flip_val (bit : Nat) : ∃ v : Nat, IntKind.u64.wrap (2 ^ (bit % 64) : Int) = (v : Int) ∧ 0 < v ∧ v < 18446744073709551616 := by
  have h1 : bit % 64 < 64 := Nat.mod_lt _ (by decide)
  have h2 : (2 : Nat) ^ (bit % 64) < 2 ^ 64 := Nat.pow_lt_pow_right (by decide) h1
  have h3 : (2 : Nat) ^ 64 = 18446744073709551616 := by decide
  have h4 : (2 : Int) ^ (bit % 64) = ((2 ^ (bit % 64) : Nat) : Int) := by simp
  have h5 : 0 < (2 : Nat) ^ (bit % 64) := Nat.two_pow_pos _
  obtain ⟨v, hv⟩ : ∃ v, (2 : Nat) ^ (bit % 64) = v := ⟨_, rfl⟩
  rw [hv] at h2 h4 h5
  refine ⟨v, ?_, h5, by omega⟩
  rw [h4, IntKind.wrap_u64]
  omega
theorem xor_ne {a v : Nat} (h : 0 < v) : a ^^^ v ≠ a := by
  intro e
  have : a ^^^ (a ^^^ v) = a ^^^ a := by rw [e]
  rw [← Nat.xor_assoc, Nat.xor_self, Nat.zero_xor] at this
  omega
/-- all the Adds of a list -/
def LogInv (p : Nat) (w wr : World) (ls : List (List UInt8)) : Prop := GoodLog p wr p ls ∧ Below p w wr ∧ p + 1 ≤ wr.heap.size
theorem LogInv.later {p : Nat} {w wr w' : World} {ls : List (List UInt8)} (h : LogInv p w wr ls) (hb : Below wr.heap.size wr w') : LogInv p w w' ls :=
  ⟨h.1.stays hb, h.2.1.trans (hb.mono (by have := h.2.2; omega)), Nat.le_trans h.2.2 hb.size⟩
theorem LogInv.step {p : Nat} {w wr : World} {ls : List (List UInt8)} (h : LogInv p w wr ls) (hl : ls.length ≤ 4096) (hE : Env w) (hp : w.heap.size = p) {A : Option Addr} {n c : Nat} {l : List UInt8} (hx : BytesAt p w A n l) :
    Calls Tryd.prog 44 #[.pointer (some ⟨p, 0, none⟩), .slice A n c] wr fun e w' => (∃ v, e = .returned v) ∧ LogInv p w w' (addV ls l).2 := by
  obtain ⟨h1, h2, h3⟩ := h
  have hEr : Env wr := hE.after (by rw [hp]; exact h2)
  have hxr : BytesAt wr.heap.size wr A n l := (hx.below h2).mono (by omega)
  refine (Add_good p wr wr p ls h1 (Below.refl _ _) hl A n c l hxr (fun h0 a ha => .inl ?_) (by rw [← hp]; exact hE.1) (by omega) hEr.2).mono ?_
  · rcases hx.2 with h4 | ⟨b, off, e, hb, _⟩
    · omega
    · rw [ha] at e
      injection e with e
      rw [e]
      exact hb
  · rintro e w' ⟨rfl, hb, hg, hs⟩
    exact ⟨⟨_, rfl⟩, hg, h2.trans hb, by omega⟩
end Go.Proofs.YtbinmkigolkhcaaDoor
