/- ProofAccuses. -/
import Derived.Test.YtbinmkigolkhcaaDoorKD
import Derived.Test.YtbinmkigolkhcaaDoorKE
import Derived.Test.YtbinmkigolkhcaaDoorHS
import Derived.Test.YtbinmkigolkhcaaDoorFO
import Derived.Deep.DeepCutAuto
set_option linter.unusedSimpArgs false
set_option linter.unusedVariables false
namespace Go.Proofs.YtbinmkigolkhcaaDoor
open Go.RowKit Go.Sort
attribute [local go_sem] Oper.semAt_some

/-- a block that holds a way -/
def WayB (W : World) (g : Nat) (x y : Value) : Prop := W.heap[g]? = some (.cells #[x, y] 50 (0, 0))
theorem WayB.lt {W : World} {g : Nat} {x y : Value} (h : WayB W g x y) : g < W.heap.size := (Array.getElem?_eq_some_iff.1 h).1
theorem WayB.below {W W' : World} {g : Nat} {x y : Value} (h : WayB W g x y) (hb : Below W.heap.size W W') : WayB W' g x y := (hb.block g h.lt).trans h
theorem WayB.facts {W : World} {g : Nat} {x y : Value} (h : WayB W g x y) : W.cell? ⟨g, 0, none⟩ = some x ∧ W.cell? ⟨g, 1, none⟩ = some y := by
  unfold WayB at h
  refine ⟨?_, ?_⟩
  · unfold World.cell?; simp [h]
  · unfold World.cell?; simp [h]
set_option maxHeartbeats 4000000 in
set_option maxRecDepth 100000 in
theorem accuses_law (i n : Int) (A1 : Option Addr) (n1 c1 : Nat) (l1 : List UInt8) (S1 : Option Addr) (m1 d1 : Nat) (s1 : List St) (A2 : Option Addr) (n2 c2 : Nat) (l2 : List UInt8) (S2 : Option Addr) (m2 d2 : Nat) (s2 : List St) (w : World) (hE : Env w)
    (hx : BytesAt w.heap.size w A1 n1 l1) (hs : StepsAt w.heap.size w S1 m1 s1) (hy : BytesAt w.heap.size w A2 n2 l2) (ht : StepsAt w.heap.size w S2 m2 s2) :
    Calls Tryd.prog 6 #[.int .i64 i, .int .i64 n, .agg #[.slice A1 n1 c1, .slice S1 m1 d1], .agg #[.slice A2 n2 c2, .slice S2 m2 d2]] w (TrueP w) := by
  have mixed := mixedOrders
  have hb1 : Below w.heap.size w (w.alloc (.cells #[.slice A1 n1 c1, .slice S1 m1 d1] 50)) := (Below.refl _ w).alloc (Nat.le_refl _) _
  have hw1 : WayB (w.alloc (.cells #[.slice A1 n1 c1, .slice S1 m1 d1] 50)) w.heap.size (.slice A1 n1 c1) (.slice S1 m1 d1) := heap_alloc_new w _
  obtain ⟨W1, hW1⟩ : ∃ W1, w.alloc (.cells #[.slice A1 n1 c1, .slice S1 m1 d1] 50) = W1 := ⟨_, rfl⟩
  have hsz1 : W1.heap.size = w.heap.size + 1 := by rw [← hW1]; simp
  rw [hW1] at hb1 hw1
  have hb2 : Below W1.heap.size W1 (W1.alloc (.cells #[.slice A2 n2 c2, .slice S2 m2 d2] 50)) := (Below.refl _ W1).alloc (Nat.le_refl _) _
  have hw2 : WayB (W1.alloc (.cells #[.slice A2 n2 c2, .slice S2 m2 d2] 50)) W1.heap.size (.slice A2 n2 c2) (.slice S2 m2 d2) := heap_alloc_new W1 _
  obtain ⟨W, hW⟩ : ∃ W, W1.alloc (.cells #[.slice A2 n2 c2, .slice S2 m2 d2] 50) = W := ⟨_, rfl⟩
  rw [hW] at hb2 hw2
  have hw1' := hw1.below hb2
  have hbW := hb1.trans (hb2.mono hb1.size)
  have hEW := hE.after hbW
  have hxW := hx.now hbW (Nat.le_refl _)
  have hyW := hy.now hbW (Nat.le_refl _)
  have hsW := hs.now hbW (Nat.le_refl _)
  have htW := ht.now hbW (Nat.le_refl _)
  obtain ⟨p, hp⟩ : ∃ p, w.heap.size = p := ⟨_, rfl⟩
  obtain ⟨q, hq⟩ : ∃ q, w.heap.size + 1 = q := ⟨_, rfl⟩
  rw [hp] at hw1'
  rw [hsz1, hq] at hw2
  have HW := hide (And.intro hW1 (And.intro hW (And.intro hp hq)))
  have HP := hide (And.intro hw1' hw2)
  have HBW := hide hbW
  have HA := hide (alive_env hEW)
  have HEW := hide hEW
  obtain ⟨f0, f1⟩ := hw1'.facts
  obtain ⟨f2, f3⟩ := hw2.facts
  clear hb1 hw1 hb2 hw2 hw1' hW1 hW hbW hEW hx hy hs ht hp hq hE hsz1
  by_cases b1 : 400 < n1
  · have g : (400 : Int) < (n1 : Int) := by omega
    clear b1 hxW hyW hsW htW
    go_enter Tryd.func6, Tryd.ntmps6
    go_upto_region 1 with (fail)
    rw [HW.out.1, HW.out.2.1, HW.out.2.2.2, HW.out.2.2.1]
    go_wp2_with fail
    refine HA.out.mono ?_
    rintro e w1 ⟨rfl, hb⟩
    go_wp2_with fail
    go_ret
    exact ⟨rfl, HBW.out.trans (hb.mono HBW.out.size)⟩
  have g1 : ¬ (400 : Int) < (n1 : Int) := by omega
  by_cases b2 : 400 < n2
  · have g : (400 : Int) < (n2 : Int) := by omega
    clear b1 b2 hxW hyW hsW htW
    go_enter Tryd.func6, Tryd.ntmps6
    go_upto_region 1 with (fail)
    rw [HW.out.1, HW.out.2.1, HW.out.2.2.2, HW.out.2.2.1]
    go_wp2_with fail
    refine HA.out.mono ?_
    rintro e w1 ⟨rfl, hb⟩
    go_wp2_with fail
    go_ret
    exact ⟨rfl, HBW.out.trans (hb.mono HBW.out.size)⟩
  have g2 : ¬ (400 : Int) < (n2 : Int) := by omega
  by_cases b3 : 100 < m1
  · have g : (100 : Int) < (m1 : Int) := by omega
    clear b1 b2 b3 hxW hyW hsW htW
    go_enter Tryd.func6, Tryd.ntmps6
    go_upto_region 1 with (fail)
    rw [HW.out.1, HW.out.2.1, HW.out.2.2.2, HW.out.2.2.1]
    go_wp2_with fail
    refine HA.out.mono ?_
    rintro e w1 ⟨rfl, hb⟩
    go_wp2_with fail
    go_ret
    exact ⟨rfl, HBW.out.trans (hb.mono HBW.out.size)⟩
  have g3 : ¬ (100 : Int) < (m1 : Int) := by omega
  by_cases b4 : 100 < m2
  · have g : (100 : Int) < (m2 : Int) := by omega
    clear b1 b2 b3 b4 hxW hyW hsW htW
    go_enter Tryd.func6, Tryd.ntmps6
    go_upto_region 1 with (fail)
    rw [HW.out.1, HW.out.2.1, HW.out.2.2.2, HW.out.2.2.1]
    go_wp2_with fail
    refine HA.out.mono ?_
    rintro e w1 ⟨rfl, hb⟩
    go_wp2_with fail
    go_ret
    exact ⟨rfl, HBW.out.trans (hb.mono HBW.out.size)⟩
  have g4 : ¬ (100 : Int) < (m2 : Int) := by omega
  have C1 := hide (Accuse_any i n A1 n1 c1 l1 S1 m1 d1 s1 A2 n2 c2 l2 S2 m2 d2 s2 W hxW hsW (by omega) hyW htW (by omega))
  have C2 : Hid (∀ w2, Below W.heap.size W w2 → Calls Tryd.prog 39 #[.int .i64 i, .int .i64 n, .slice A1 n1 c1, .slice S1 m1 d1, .slice A2 n2 c2, .slice S2 m2 d2] w2 (AccPost (accE i n l1 s1 l2 s2) l1 s1 l2 s2 w2)) :=
    fun w2 hb => refAccuse_any i n A1 n1 c1 l1 S1 m1 d1 s1 A2 n2 c2 l2 S2 m2 d2 s2 w2 (hxW.now hb (Nat.le_refl _)) (hsW.now hb (Nat.le_refl _)) (by omega) (hyW.now hb (Nat.le_refl _)) (htW.now hb (Nat.le_refl _)) (by omega)
  obtain ⟨E, hEe⟩ : ∃ E, accE i n l1 s1 l2 s2 = E := ⟨_, rfl⟩
  rw [hEe] at C1 C2
  have zE : (E == E) = true := by simp
  clear b1 b2 b3 b4 hxW hyW hsW htW hEe HA
  go_enter Tryd.func6, Tryd.ntmps6
  go_upto_region 1 with (fail)
  rw [HW.out.1, HW.out.2.1, HW.out.2.2.2, HW.out.2.2.1]
  go_wp2_with fail
  refine C1.out.mono ?_
  rintro e w3 ⟨a1, k1, e1, a2, k2, e2, x1, x2, rfl, hx1, hx2, hac, hb3⟩
  have hb4 : Below w3.heap.size w3 (w3.alloc (.cells #[.slice a1 k1 e1, .slice a2 k2 e2] 52)) := (Below.refl _ w3).alloc (Nat.le_refl _) _
  have hz4 : BoxB (w3.alloc (.cells #[.slice a1 k1 e1, .slice a2 k2 e2] 52)) w3.heap.size (.slice a1 k1 e1) (.slice a2 k2 e2) := heap_alloc_new w3 _
  clear f0 f1 f2 f3 g1 g2 g3 g4
  go_upto_region 4 with (fail)
  obtain ⟨W4, hW4⟩ : ∃ W4, w3.alloc (.cells #[.slice a1 k1 e1, .slice a2 k2 e2] 52) = W4 := ⟨_, rfl⟩
  obtain ⟨g, hg⟩ : ∃ g, w3.heap.size = g := ⟨_, rfl⟩
  rw [hW4] at hb4 hz4 ⊢
  rw [hg] at hz4
  (try rw [hg])
  have hbW4 := hb3.trans (hb4.mono hb3.size)
  have HX1 := hide (hx1.now hb4 (Nat.le_refl _))
  have HX2 := hide (hx2.now hb4 (Nat.le_refl _))
  have HAC := hide hac
  have HB4 := hide hbW4
  have HZ4 := hide hz4
  obtain ⟨f0, f1⟩ := (HP.out.1.below hbW4).facts
  obtain ⟨f2, f3⟩ := (HP.out.2.below hbW4).facts
  clear hx1 hx2 hac hb3 hb4 hz4 hW4 hg hbW4 C1
  go_wp2_with fail
  refine (C2.out W4 HB4.out).mono ?_
  rintro e w5 ⟨a3, k3, e3, a4, k4, e4, x3, x4, rfl, hx3, hx4, hac, hb5⟩
  obtain ⟨rfl, rfl⟩ := HAC.out.uniq hac
  have hb6 : Below w5.heap.size w5 (w5.alloc (.cells #[.slice a3 k3 e3, .slice a4 k4 e4] 52)) := (Below.refl _ w5).alloc (Nat.le_refl _) _
  have hz6 : BoxB (w5.alloc (.cells #[.slice a3 k3 e3, .slice a4 k4 e4] 52)) w5.heap.size (.slice a3 k3 e3) (.slice a4 k4 e4) := heap_alloc_new w5 _
  clear f0 f1 f2 f3
  go_upto_region 5 with (fail)
  obtain ⟨W6, hW6⟩ : ∃ W6, w5.alloc (.cells #[.slice a3 k3 e3, .slice a4 k4 e4] 52) = W6 := ⟨_, rfl⟩
  obtain ⟨g', hg'⟩ : ∃ g, w5.heap.size = g := ⟨_, rfl⟩
  rw [hW6] at hb6 hz6 ⊢
  rw [hg'] at hz6
  (try rw [hg'])
  have hbW6 := hb5.trans (hb6.mono hb5.size)
  have hZ := HZ4.out.below hbW6
  have k1 := conv_any (HX1.out.now hbW6 (Nat.le_refl _)) e1
  have k2 := conv_any (HX2.out.now hbW6 (Nat.le_refl _)) e2
  have k3 := conv_any (hx3.now hb6 (Nat.le_refl _)) e3
  have k4 := conv_any (hx4.now hb6 (Nat.le_refl _)) e4
  obtain ⟨t1, ht1⟩ : ∃ s, strOfNums (numsB x1) = s := ⟨_, rfl⟩
  obtain ⟨t2, ht2⟩ : ∃ s, strOfNums (numsB x2) = s := ⟨_, rfl⟩
  rw [ht1] at k1 k3
  rw [ht2] at k2 k4
  have y1 : (t1.toList == t1.toList) = true := by simp
  have y2 : (t2.toList == t2.toList) = true := by simp
  obtain ⟨v0, v1, -, -⟩ := hZ.facts
  obtain ⟨v2, v3, -, -⟩ := hz6.facts
  have HB6 := hide (HB4.out.trans (hbW6.mono HB4.out.size))
  have HA := hide (alive_env (HEW.out.after HB6.out))
  clear hx3 hx4 hac hb5 hb6 hz6 hZ hW6 hg' hbW6 C2 ht1 ht2
  go_wp2_with fail
  refine HA.out.mono ?_
  rintro e w7 ⟨rfl, hb⟩
  go_wp2_with fail
  go_ret
  exact ⟨rfl, (HBW.out.trans (HB6.out.mono HBW.out.size)).trans (hb.mono (HBW.out.trans (HB6.out.mono HBW.out.size)).size)⟩
end Go.Proofs.YtbinmkigolkhcaaDoor
