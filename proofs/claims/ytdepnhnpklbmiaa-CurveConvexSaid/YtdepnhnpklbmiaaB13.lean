/- Contracts of same and of alive: alive returns true. -/
import Derived.Test.YtdepnhnpklbmiaaB12
namespace Go.Proofs.Ytdepnhnpklbmiaa
open Go.RowKit Go.Sort

theorem differ_ints {xs ys : List Int} {k : Nat} (h : iA xs k ≠ iA ys k) : decide (xs = ys) = false :=
  decide_eq_false fun e => h (by rw [e])
theorem ints_ext {xs ys : List Int} (hl : xs.length = ys.length) (h : ∀ k, k < xs.length → iA xs k = iA ys k) : xs = ys := by
  refine List.ext_getElem hl fun i h1 h2 => ?_
  have := h i h1
  simpa only [iA, List.getD_eq_getElem?_getD, List.getElem?_eq_getElem h1, List.getElem?_eq_getElem h2, Option.getD_some] using this

set_option maxHeartbeats 400000 in
set_option maxRecDepth 100000 in
theorem same_any (A A' : Option Addr) (n cap m cap' : Nat) (xs ys : List Int) (w : World) (hx : IntsAt w.heap.size w A n xs) (hy : IntsAt w.heap.size w A' m ys) (hn : n ≤ 9223372036854775807) (hm : m ≤ 9223372036854775807) :
    Calls Try.prog 24 #[.slice A n cap, .slice A' m cap'] w fun e w' => e = .returned (.bool (decide (xs = ys))) ∧ ∃ q, w' = w.drewN q := by
  have mixed := mixedOrders
  by_cases hnm : n = m
  · subst hnm
    have HX := hide hx
    have HY := hide hy
    clear hx hy
    go_enter Try.func24, Try.ntmps24
    go_wp2
    go_loopw [5] (fun i wr => ∃ k : Nat, k ≤ n ∧ i = .int .i64 k ∧ Hid (∀ j, j < k → iA xs j = iA ys j) ∧ Hid (∃ q, wr = w.drewN q)) (fun i _ => n - (intOf i).toNat)
    case atStart => exact ⟨0, Nat.zero_le _, rfl, fun j hj => absurd hj (Nat.not_lt_zero _), ⟨0, rfl⟩⟩
    case round =>
      obtain ⟨k, hk, rfl, HN, HW⟩ := hrel
      by_cases hlt : k < n
      · obtain ⟨b, off, rfl, hb, c0⟩ := HX.out.at_ hlt
        obtain ⟨b', off', rfl, hb', c0'⟩ := HY.out.at_ hlt
        have hlt' : (k : Int) < (n : Int) := by omega
        have E0 : ∀ nq, (wr.drewN nq).cell? ⟨b, off + k, none⟩ = some (.int .i64 (iA xs k)) := fun nq => by obtain ⟨q, rfl⟩ := HW.out; exact c0
        have E2 : ∀ nq, (wr.drewN nq).cell? ⟨b', off' + k, none⟩ = some (.int .i64 (iA ys k)) := fun nq => by obtain ⟨q, rfl⟩ := HW.out; exact c0'
        clear c0 c0'
        by_cases h1 : iA xs k = iA ys k
        · have b1 : (iA xs k == iA ys k) = true := beq_iff_eq.2 h1
          have b2 : (iA xs k != iA ys k) = false := by rw [h1]; simp
          have HS : Hid (∀ j, j < k + 1 → iA xs j = iA ys j) := by
            intro j hj
            rcases Nat.lt_or_ge j k with h | h
            · exact HN.out j h
            · obtain rfl : j = k := by omega
              exact h1
          clear h1
          go_wp2_with fail
          go_quiet (fail)
          go_wp2
          go_roundw
          case rel => exact ⟨k + 1, by omega, by go_num, HS, by obtain ⟨q, rfl⟩ := HW.out; exact ⟨q + nq, World.drewN_drewN _ _ _⟩⟩
          case measure => simp [intOf]; omega
        · have b1 : (iA xs k == iA ys k) = false := beq_eq_false_iff_ne.2 h1
          have b2 : (iA xs k != iA ys k) = true := by rw [bne_iff_ne]; exact h1
          have HD := hide (differ_ints (xs := xs) (ys := ys) (k := k) h1)
          clear h1
          go_wp2_with fail
          go_quiet (fail)
          go_wp2
          go_ret
          exact ⟨ret_bool HD.out.symm, by obtain ⟨q, rfl⟩ := HW.out; exact ⟨q + nq, World.drewN_drewN _ _ _⟩⟩
      · have HD := hide (ints_ext (xs := xs) (ys := ys) (by rw [HX.out.1, HY.out.1]) (fun j hj => HN.out j (by have := HX.out.1; omega)))
        go_wp2
        go_ret
        exact ⟨ret_bool (decide_eq_true HD.out).symm, HW.out⟩
  · have HD : Hid (xs ≠ ys) := by
      intro e
      exact hnm (by rw [← hx.1, ← hy.1, e])
    clear hx hy
    have hb : ((n : Int) == (m : Int)) = false := beq_eq_false_iff_ne.2 (by omega)
    have hb' : ((n : Int) != (m : Int)) = true := by rw [bne_iff_ne]; omega
    go_enter Try.func24, Try.ntmps24
    go_wp2
    go_ret
    exact ⟨ret_bool (decide_eq_false HD.out).symm, 0, rfl⟩

def ca : Cu := ⟨0, 0, [1, 3]⟩
def cb : Cu := ⟨0, 0, [2, 2]⟩
theorem sort_val : sortI [1, 3, 2, 2] = [1, 2, 2, 3] := by
  have hp : (sortI [1, 3, 2, 2]).Perm [1, 2, 2, 3] := (List.mergeSort_perm _ _).trans (by decide)
  have hs : (sortI [1, 3, 2, 2]).Pairwise (fun x y => x ≤ y) := by
    have := List.pairwise_mergeSort (le := fun x y : Int => decide (x ≤ y)) (fun a b c h1 h2 => by simp at *; omega) (fun a b => by simp; omega) [1, 3, 2, 2]
    exact this.imp (fun h => by simpa using h)
  exact List.Perm.eq_of_pairwise (le := fun x y => x ≤ y) (fun a b _ _ h1 h2 => by omega) hs (by decide) hp
theorem join_val : joinV ca cb = (⟨0, 0, [1, 2, 2, 3]⟩, 0) := by
  unfold joinV
  rw [if_pos ⟨by decide, by decide⟩]
  show res2 ⟨0, 0, sortI [1, 3, 2, 2]⟩ = _
  rw [sort_val]
  unfold res2
  rw [if_pos (by decide)]
def csA (i : Nat) : Cu := if i = 0 then ca else cb
theorem cat_val : catL csA 2 = [1, 3, 2, 2] := rfl
theorem price_val : priceV csA 2 3 = 2 := by
  unfold priceV
  rw [cat_val, sort_val]
  rfl
theorem split_val : splitE csA 2 3 = 0 ∧ splitX csA 2 3 = [1, 2] ∧ splitC csA 2 3 = 5 ∧ splitP csA 2 3 = 2 := by
  have h0 : splitE csA 2 3 = 0 := by decide
  have hl : leftV csA 2 3 = 2 := by unfold leftV; rw [price_val]; rfl
  have hk : kV csA 2 3 = kD csA 2 2 2 := by unfold kV; rw [price_val, hl]
  refine ⟨h0, ?_, ?_, ?_⟩
  · unfold splitX; rw [if_pos h0, hk]; rfl
  · unfold splitC; rw [if_pos h0, hk]; rfl
  · unfold splitP; rw [if_pos h0, price_val]

theorem ints_lit {W : World} {b : Nat} {cs : Array Value} {t : TypeId} (xs : List Int) (h : W.heap[b]? = some (.cells cs t (0, 0))) (hcs : cs = (xs.map (Value.int .i64)).toArray) : IntsAt W.heap.size W (some ⟨b, 0, none⟩) xs.length xs := by
  subst hcs
  refine ⟨rfl, .inr ⟨b, 0, rfl, (Array.getElem?_eq_some_iff.1 h).1, fun i hi => ?_⟩⟩
  rw [cell_of_heap' h]
  simp [iA, List.getD_eq_getElem?_getD, hi]

set_option maxHeartbeats 4000000 in
set_option maxRecDepth 100000 in
theorem alive_any (w : World) : Calls Try.prog 15 #[] w fun e w' => e = .returned (.bool true) ∧ Below w.heap.size w w' := by
  have mixed := mixedOrders
  obtain ⟨p, hp⟩ : ∃ p, w.heap.size = p := ⟨_, rfl⟩
  obtain ⟨W1, hW1⟩ : ∃ W1, (((w.alloc (.cells #[.int .i64 1, .int .i64 3] 3)).alloc (.cells #[.int .i64 2, .int .i64 2] 3)).alloc (.cells #[.int .i64 0, .int .i64 0, .slice (some ⟨p, 0, none⟩) 2 2] 24)).alloc (.cells #[.int .i64 0, .int .i64 0, .slice (some ⟨p + 1, 0, none⟩) 2 2] 24) = W1 := ⟨_, rfl⟩
  have hG1 : Gr w W1 := by rw [← hW1]; exact ((((Gr.refl w).alloc _).alloc _).alloc _).alloc _
  have hs1 : W1.heap.size = p + 4 := by rw [← hW1, ← hp]; simp
  have ua : W1.heap[p]? = some (.cells #[.int .i64 1, .int .i64 3] 3 (0, 0)) := by
    rw [← hW1, ← hp]
    exact (Below.heap_alloc _ _ _ (by first | (simp; done) | (simp; omega))).trans ((Below.heap_alloc _ _ _ (by first | (simp; done) | (simp; omega))).trans ((Below.heap_alloc _ _ _ (by simp)).trans (heap_alloc_new w _)))
  have ub : W1.heap[p + 1]? = some (.cells #[.int .i64 2, .int .i64 2] 3 (0, 0)) := by
    rw [← hW1, ← hp]
    refine (Below.heap_alloc _ _ _ (by first | (simp; done) | (simp; omega))).trans ((Below.heap_alloc _ _ _ (by simp)).trans ?_)
    simpa using heap_alloc_new (w.alloc (.cells #[.int .i64 1, .int .i64 3] 3)) (.cells #[.int .i64 2, .int .i64 2] 3)
  have va : W1.heap[p + 1 + 1]? = some (.cells #[.int .i64 0, .int .i64 0, .slice (some ⟨p, 0, none⟩) 2 2] 24 (0, 0)) := by
    rw [← hW1, ← hp]
    refine (Below.heap_alloc _ _ _ (by simp)).trans ?_
    simpa using heap_alloc_new ((w.alloc (.cells #[.int .i64 1, .int .i64 3] 3)).alloc (.cells #[.int .i64 2, .int .i64 2] 3)) (.cells #[.int .i64 0, .int .i64 0, .slice (some ⟨w.heap.size, 0, none⟩) 2 2] 24)
  have vb : W1.heap[p + 1 + 1 + 1]? = some (.cells #[.int .i64 0, .int .i64 0, .slice (some ⟨p + 1, 0, none⟩) 2 2] 24 (0, 0)) := by
    rw [← hW1, ← hp]
    simpa using heap_alloc_new (((w.alloc (.cells #[.int .i64 1, .int .i64 3] 3)).alloc (.cells #[.int .i64 2, .int .i64 2] 3)).alloc (.cells #[.int .i64 0, .int .i64 0, .slice (some ⟨w.heap.size, 0, none⟩) 2 2] 24)) (.cells #[.int .i64 0, .int .i64 0, .slice (some ⟨w.heap.size + 1, 0, none⟩) 2 2] 24)
  have HCA : Hid (CuAt W1.heap.size W1 ca (some ⟨p, 0, none⟩) 2 2) := ⟨ints_lit [1, 3] ua rfl, fun _ ad e => by injection e with e; subst e; show p < _; omega, fun e => by cases e⟩
  have HCB : Hid (CuAt W1.heap.size W1 cb (some ⟨p + 1, 0, none⟩) 2 2) := ⟨ints_lit [2, 2] ub rfl, fun _ ad e => by injection e with e; subst e; show p + 1 < _; omega, fun e => by cases e⟩
  have HJ := hide (Join_any ca cb (some ⟨p, 0, none⟩) 2 2 (some ⟨p + 1, 0, none⟩) 2 2 W1 HCA.out HCB.out (by decide) (by decide))
  rw [join_val] at HJ
  have HJ : Hid (Calls Try.prog 28 #[.agg #[.int .i64 0, .int .i64 0, .slice (some ⟨p, 0, none⟩) 2 2], .agg #[.int .i64 0, .int .i64 0, .slice (some ⟨p + 1, 0, none⟩) 2 2]] W1 (CuPost (⟨0, 0, [1, 2, 2, 3]⟩, 0) W1)) := HJ
  have HG1 := hide hG1
  have ya := cell_of_heap' va
  have yb := cell_of_heap' vb
  have y0 := ya 0
  have y1 := ya 1
  have y2 := ya 2
  have y3 := yb 0
  have y4 := yb 1
  have y5 := yb 2
  simp at y0 y1 y2 y3 y4 y5
  have HVA := hide va
  have HVB := hide vb
  clear ua ub va vb hG1 ya yb
  go_enter Try.func15, Try.ntmps15
  go_wp2_with fail
  try rw [hW1]
  refine HJ.out.mono ?_
  rintro e w2 ⟨A, n, cap, rfl, ho2, hb2⟩
  have hn : n = 4 := by have := ho2.1; simp at this; omega
  subst hn
  have hs2 : p + 4 ≤ w2.heap.size := by have := hb2.size; omega
  have ga := cell_of_heap' ((hb2.block (p + 1 + 1) (by omega)).trans HVA.out)
  have gb := cell_of_heap' ((hb2.block (p + 1 + 1 + 1) (by omega)).trans HVB.out)
  have a0 := ga 0
  have a1 := ga 1
  have a2 := ga 2
  have b0 := gb 0
  have b1 := gb 1
  have b2 := gb 2
  simp at a0 a1 a2 b0 b1 b2
  have HO2 := hide ho2
  have HB2 := hide hb2
  have l1 : p + 1 + 1 < w2.heap.size := by omega
  have l2 : p + 1 + 1 + 1 < w2.heap.size := by omega
  clear ga gb ho2 hb2 HJ hW1 y0 y1 y2 y3 y4 y5
  obtain ⟨bj, hbj⟩ : ∃ bj, w2.heap.size = bj := ⟨_, rfl⟩
  have l3 : p + 1 + 1 < bj := by omega
  have l4 : p + 1 + 1 + 1 < bj := by omega
  have l5 : ∀ j v, w2.cell? ⟨p + 1 + 1, j, none⟩ = some v → (w2.alloc (.cells #[.int .i64 0, .int .i64 0, .slice A 4 cap] 24)).cell? ⟨p + 1 + 1, j, none⟩ = some v := fun j v h => (World.cell?_alloc_lt _ _ _ (by show p + 1 + 1 < _; omega)).trans h
  have l6 : ∀ j v, w2.cell? ⟨p + 1 + 1 + 1, j, none⟩ = some v → (w2.alloc (.cells #[.int .i64 0, .int .i64 0, .slice A 4 cap] 24)).cell? ⟨p + 1 + 1 + 1, j, none⟩ = some v := fun j v h => (World.cell?_alloc_lt _ _ _ (by show p + 1 + 1 + 1 < _; omega)).trans h
  have k0 := l5 _ _ a0
  have k1 := l5 _ _ a1
  have k2 := l5 _ _ a2
  have k3 := l6 _ _ b0
  have k4 := l6 _ _ b1
  have k5 := l6 _ _ b2
  clear l5 l6
  obtain ⟨W3, hW3⟩ : ∃ W3, (w2.alloc (.cells #[.int .i64 0, .int .i64 0, .slice A 4 cap] 24)).alloc (.cells #[.int .i64 0, .int .i64 0, .slice (some ⟨p, 0, none⟩) 2 2, .int .i64 0, .int .i64 0, .slice (some ⟨p + 1, 0, none⟩) 2 2] 24) = W3 := ⟨_, rfl⟩
  have hG3 : Gr w2 W3 := by rw [← hW3]; exact ((Gr.refl w2).alloc _).alloc _
  have hs3 : W3.heap.size = bj + 2 := by rw [← hW3, ← hbj]; simp
  have uj : W3.heap[bj]? = some (.cells #[.int .i64 0, .int .i64 0, .slice A 4 cap] 24 (0, 0)) := by
    rw [← hW3, ← hbj]
    exact (Below.heap_alloc _ _ _ (by simp)).trans (heap_alloc_new w2 _)
  have ul : W3.heap[bj + 1]? = some (.cells #[.int .i64 0, .int .i64 0, .slice (some ⟨p, 0, none⟩) 2 2, .int .i64 0, .int .i64 0, .slice (some ⟨p + 1, 0, none⟩) 2 2] 24 (0, 0)) := by
    rw [← hW3, ← hbj]
    simpa using heap_alloc_new (w2.alloc (.cells #[.int .i64 0, .int .i64 0, .slice A 4 cap] 24)) (.cells #[.int .i64 0, .int .i64 0, .slice (some ⟨p, 0, none⟩) 2 2, .int .i64 0, .int .i64 0, .slice (some ⟨p + 1, 0, none⟩) 2 2] 24)
  have hb13 : Below W1.heap.size W1 W3 := HB2.out.trans (hG3.below.mono HB2.out.size)
  have hcv : CurvesAt W3.heap.size W3 (some ⟨bj + 1, 0, none⟩) 2 csA (fun i => if i = 0 then (some ⟨p, 0, none⟩, 2, 2) else (some ⟨p + 1, 0, none⟩, 2, 2)) := by
    have z := fun i => cell_of_heap' ul i
    have z0 := z 0
    have z1 := z 1
    have z2 := z 2
    have z3 := z 3
    have z4 := z 4
    have z5 := z 5
    simp at z0 z1 z2 z3 z4 z5
    refine ⟨.inr ⟨bj + 1, 0, rfl, by omega, fun i hi => ?_⟩, fun i hi => ?_⟩
    · rcases (show i = 0 ∨ i = 1 by omega) with rfl | rfl
      · exact ⟨z0, z1, z2⟩
      · exact ⟨z3, z4, z5⟩
    · rcases (show i = 0 ∨ i = 1 by omega) with rfl | rfl
      · exact HCA.out.now hb13 (Nat.le_refl _)
      · exact HCB.out.now hb13 (Nat.le_refl _)
  have HSP := hide (Split_any (some ⟨bj + 1, 0, none⟩) 2 2 csA _ 3 W3 hcv (Nat.le_refl _) (fun i hi => by
    rcases (show i = 0 ∨ i = 1 by omega) with rfl | rfl
    · show 2 ≤ _
      decide
    · show 2 ≤ _
      decide))
  have HB13 := hide hb13
  have HUJ := hide uj
  have HIJ : Hid (IntsAt W3.heap.size W3 A 4 [1, 2, 2, 3]) := (ints_of_own HO2.out).gr hG3
  clear hcv uj ul hb13 hG3 HCA HCB HVA HVB
  go_wp2_with fail
  try rw [hW3]
  refine HSP.out.mono ?_
  rintro e w4 ⟨A4, m4, c4, rfl, hi4, hb4⟩
  rw [split_val.2.1] at hi4
  rw [split_val.1, split_val.2.2.1, split_val.2.2.2]
  have hm4 : m4 = 2 := hi4.1.symm
  subst hm4
  have HB4 : Hid (Below w.heap.size w w4) := HG1.out.below.trans ((HB13.out.trans (hb4.mono HB13.out.size)).mono HG1.out.size)
  have hj4 := cell_of_heap' ((hb4.block bj (by omega)).trans HUJ.out) 2
  simp at hj4
  have HIJ4 := hide (HIJ.out.now hb4 (Nat.le_refl _))
  have HI4 := hide hi4
  clear hb4 hi4 HSP HUJ HIJ k0 k1 k2 k3 k4 k5 a0 a1 a2 b0 b1 b2 HB13 HO2 HB2 hW3
  have HS1 := hide (fun (cs : Array Value) (hcs : cs = #[.int .i64 1, .int .i64 2, .int .i64 2, .int .i64 3]) => same_any A (some ⟨w4.heap.size, 0, none⟩) 4 cap 4 4 [1, 2, 2, 3] [1, 2, 2, 3] (w4.alloc (.cells cs 3)) (HIJ4.out.gr ((Gr.refl w4).alloc _)) (ints_lit [1, 2, 2, 3] (heap_alloc_new w4 _) (by rw [hcs]; rfl)) (by decide) (by decide))
  have HS1' := hide (HS1.out _ rfl)
  rw [decide_eq_true rfl] at HS1'
  go_wp2_with fail
  refine HS1'.out.mono ?_
  rintro e w5 ⟨rfl, q, rfl⟩
  obtain ⟨w6, hw6⟩ : ∃ w6, (w4.alloc (.cells #[.int .i64 1, .int .i64 2, .int .i64 2, .int .i64 3] 3)).drewN q = w6 := ⟨_, rfl⟩
  have hG6 : Gr w4 w6 := by rw [← hw6]; exact ((Gr.refl w4).alloc _).drewN q
  rw [hw6]
  have HS2 := hide (same_any A4 (some ⟨w6.heap.size, 0, none⟩) 2 c4 2 2 [1, 2] [1, 2] (w6.alloc (.cells #[.int .i64 1, .int .i64 2] 3)) ((HI4.out.gr hG6).gr ((Gr.refl w6).alloc _)) (ints_lit [1, 2] (heap_alloc_new w6 _) rfl) (by decide) (by decide))
  rw [decide_eq_true rfl] at HS2
  have HB6 : Hid (Below w.heap.size w w6) := HB4.out.trans (hG6.below.mono HB4.out.size)
  clear hG6 hw6 HS1 HS1' hj4
  go_wp2_with fail
  refine HS2.out.mono ?_
  rintro e w7 ⟨rfl, q2, rfl⟩
  have HB7 : Hid (Below w.heap.size w ((w6.alloc (.cells #[.int .i64 1, .int .i64 2] 3)).drewN q2)) := HB6.out.trans ((((Gr.refl w6).alloc _).drewN q2).below.mono HB6.out.size)
  clear HS2
  go_wp2
  go_ret
  exact ⟨rfl, HB7.out⟩

end Go.Proofs.Ytdepnhnpklbmiaa
