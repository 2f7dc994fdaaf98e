/- Contract of Join. -/
import Derived.Test.YtdepnhnpklbmiaaB7
import Derived.Deep.AppendLies
namespace Go.Proofs.Ytdepnhnpklbmiaa
open Go.RowKit Go.Sort

/-- a curve and an error, as a result in memory of its own -/
def CuPost (v : Cu × Int) (w : World) (e : Ending) (w' : World) : Prop :=
  ∃ A n cap, e = .returned (.tuple #[.agg #[.int .i64 v.1.fr, .int .i64 v.1.fst, .slice A n cap], .int .i64 v.2]) ∧ w'.ownsRow w.heap.size 3 1 (.slice A n cap) n (v.1.sl.map (Value.int .i64)) ∧ Below w.heap.size w w'
def res2 (c : Cu) : Cu × Int := if okC c = true then (c, 0) else (Cu.zero, 4)
def joinV (a b : Cu) : Cu × Int := if okC a = true ∧ okC b = true then res2 ⟨a.fr + b.fr, a.fst + b.fst, sortI (a.sl ++ b.sl)⟩ else (Cu.zero, 2)

theorem results28 {W : World} {g : Nat} {a b c : Value} {t : TypeId} (h : W.heap[g]? = some (.cells #[a, b, c] t (0, 0))) (x0 x1 x2 x3 y : Value) (rest : List Value) :
    (results Try.f28 (x0 :: x1 :: x2 :: x3 :: .pointer (some ⟨g, 0, none⟩) :: y :: rest).toArray).run Try.prog W = .ok (.tuple #[.agg #[a, b, c], y]) W := by
  have h0 := cell_of_heap' h 0
  have h1 := cell_of_heap' h 1
  have h2 := cell_of_heap' h 2
  simp at h0 h1 h2
  simp [results, Try.results28, go_sem, h0, h1, h2]
theorem own_base {W : World} {b b' : Nat} {e : TypeId} {size n : Nat} {v : Value} {xs : List Value} (h : W.ownsRow b' e size v n xs) (hb : b ≤ b') : W.ownsRow b e size v n xs :=
  ⟨h.1, h.2.imp id fun ⟨g, cap, cur, h1, h2, h3⟩ => ⟨g, cap, cur, h1, Nat.le_trans hb h2, h3⟩⟩
theorem own_below {W W' : World} {b : Nat} {e : TypeId} {size n : Nat} {v : Value} {xs : List Value} (h : W.ownsRow b e size v n xs) (hb : Below W.heap.size W W') : W'.ownsRow b e size v n xs :=
  World.ownsRow.kept h (row := none) ⟨hb.os, hb.tape, hb.output, hb.size, fun k hk _ => hb.block k hk⟩ (by cases hv : v.ownBlock with | none => exact .inl rfl | some g => exact .inr (by simp))
theorem own_set3 {W : World} {b g : Nat} {e : TypeId} {size n : Nat} {v : Value} {xs : List Value} (h : W.ownsRow b e size v n xs) (hg : g < b) (x y z : Value) : (set3 W g x y z).ownsRow b e size v n xs :=
  RowKit.ownsRow_setCell_below (RowKit.ownsRow_setCell_below (RowKit.ownsRow_setCell_below h (a := ⟨g, 0, none⟩) hg x) (a := ⟨g, 1, none⟩) hg y) (a := ⟨g, 2, none⟩) hg z
theorem ints_of_own {W : World} {base k c : Nat} {a : Option Addr} {xs : List Int} (h : W.ownsRow base 3 1 (.slice a k c) k (xs.map (Value.int .i64))) : IntsAt W.heap.size W a k xs := by
  refine ⟨by simpa using h.1, ?_⟩
  rcases h.2 with ⟨_, h0⟩ | ⟨g, cap, cur, hv, hb, hg, hr⟩
  · exact .inl h0
  · injection hv with h1 h2 h3
    subst h1
    have hl : xs.length = k := by simpa using h.1
    refine .inr ⟨g, 0, rfl, (Array.getElem?_eq_some_iff.1 hg).1, fun i hi => ?_⟩
    rw [Nat.zero_add, h.cellAt i (by omega), List.getElem?_map, List.getElem?_eq_getElem (by omega), iA_get (by omega)]
    rfl

set_option maxHeartbeats 8000000 in
set_option maxRecDepth 100000 in
theorem Join_any (ca cb : Cu) (A1 : Option Addr) (n1 k1 : Nat) (A2 : Option Addr) (n2 k2 : Nat) (w : World) (ha : CuAt w.heap.size w ca A1 n1 k1) (hb : CuAt w.heap.size w cb A2 n2 k2) (h1 : n1 ≤ 9223372036854775807) (h2 : n2 ≤ 9223372036854775807) :
    Calls Try.prog 28 #[.agg #[.int .i64 ca.fr, .int .i64 ca.fst, .slice A1 n1 k1], .agg #[.int .i64 cb.fr, .int .i64 cb.fst, .slice A2 n2 k2]] w (CuPost (joinV ca cb) w) := by
  have mixed := mixedOrders
  obtain ⟨W1, hW1⟩ : ∃ W1, ((w.alloc (.cells #[.int .i64 ca.fr, .int .i64 ca.fst, .slice A1 n1 k1] 24)).alloc (.cells #[.int .i64 cb.fr, .int .i64 cb.fst, .slice A2 n2 k2] 24)).alloc (.cells #[.int .i64 0, .int .i64 0, .slice none 0 0] 24) = W1 := ⟨_, rfl⟩
  obtain ⟨p, hp⟩ : ∃ p, w.heap.size = p := ⟨_, rfl⟩
  have hG1 : Gr w W1 := by rw [← hW1]; exact (((Gr.refl w).alloc _).alloc _).alloc _
  have hs1 : W1.heap.size = p + 3 := by rw [← hW1, ← hp]; simp
  have ua : W1.heap[p]? = some (.cells #[.int .i64 ca.fr, .int .i64 ca.fst, .slice A1 n1 k1] 24 (0, 0)) := by
    rw [← hW1, ← hp]
    exact (Below.heap_alloc _ _ _ (by simp; omega)).trans ((Below.heap_alloc _ _ _ (by simp)).trans (heap_alloc_new w _))
  have ub : W1.heap[p + 1]? = some (.cells #[.int .i64 cb.fr, .int .i64 cb.fst, .slice A2 n2 k2] 24 (0, 0)) := by
    rw [← hW1, ← hp]
    refine (Below.heap_alloc _ _ _ (by simp)).trans ?_
    simpa using heap_alloc_new (w.alloc (.cells #[.int .i64 ca.fr, .int .i64 ca.fst, .slice A1 n1 k1] 24)) (.cells #[.int .i64 cb.fr, .int .i64 cb.fst, .slice A2 n2 k2] 24)
  have ur : W1.heap[p + 1 + 1]? = some (.cells #[.int .i64 0, .int .i64 0, .slice none 0 0] 24 (0, 0)) := by
    rw [← hW1, ← hp]
    simpa using heap_alloc_new ((w.alloc (.cells #[.int .i64 ca.fr, .int .i64 ca.fst, .slice A1 n1 k1] 24)).alloc (.cells #[.int .i64 cb.fr, .int .i64 cb.fst, .slice A2 n2 k2] 24)) (.cells #[.int .i64 0, .int .i64 0, .slice none 0 0] 24)
  have HA := hide ha
  have HBB := hide hb
  have HG1 := hide hG1
  have HVA := hide (Valid_any ca A1 n1 k1 W1 (ha.sl.gr hG1) (by omega))
  have HVB := hide (fun W2 (hg : Gr W1 W2) => Valid_any cb A2 n2 k2 W2 ((hb.sl.gr hG1).gr hg) (by omega))
  have HUA := hide ua
  have HUB := hide ub
  have HUR := hide ur
  have a0 := cell_of_heap' ua 0
  have a1 := cell_of_heap' ua 1
  have a2 := cell_of_heap' ua 2
  simp at a0 a1 a2
  clear ha hb hG1 ua ub ur
  go_enter Try.func28, Try.ntmps28
  go_wp2_with fail
  try rw [hp]
  refine HVA.out.mono ?_
  rintro e w2 ⟨rfl, hG2⟩
  have HG2 := hide hG2
  have hb2 := (hG2.block (k := p + 1) (by omega)).trans HUB.out
  have b0 := cell_of_heap' hb2 0
  have b1 := cell_of_heap' hb2 1
  have b2 := cell_of_heap' hb2 2
  simp at b0 b1 b2
  have hr2 := (hG2.block (k := p + 1 + 1) (by omega)).trans HUR.out
  have hs2 : p + 3 ≤ w2.heap.size := by have := hG2.size; omega
  have HVB2 := hide (HVB.out w2 hG2)
  have hz2 := hide hr2
  cases hva : okC ca
  · have HJ : Hid (joinV ca cb = (Cu.zero, 2)) := if_neg (by rw [hva]; simp)
    have r0 := cell_of_heap' hr2 0
    have r1 := cell_of_heap' hr2 1
    have r2 := cell_of_heap' hr2 2
    have y0 := frozen_of_heap' hr2 0
    have y1 := frozen_of_heap' hr2 1
    have y2 := frozen_of_heap' hr2 2
    simp at r0 r1 r2
    have HB2 : Hid (Below w.heap.size w w2) := HG1.out.below.trans (hG2.below.mono HG1.out.size)
    clear hr2 hb2 hG2 HVB2 HVB HVA hva
    go_wp2
    refine bodyPost_ret (results28 (set3_heap hz2.out _ _ _) _ _ _ _ _ _) rfl ?_
    refine ⟨none, 0, 0, by rw [HJ.out] <;> rfl, ?_, set3_below HB2.out (by omega) _ _ _⟩
    rw [HJ.out]
    exact World.ownsRow_nil _ _ _ _
  · clear hb2 hG2 a0 a1 a2
    go_wp2_with fail
    refine HVB2.out.mono ?_
    rintro e w3 ⟨rfl, hG3⟩
    cases hvb : okC cb
    · have HJ : Hid (joinV ca cb = (Cu.zero, 2)) := if_neg (by rw [hvb]; simp)
      have hr3 := (hG3.block (k := p + 1 + 1) (by omega)).trans hr2
      have HZ3 := hide hr3
      have r0 := cell_of_heap' hr3 0
      have r1 := cell_of_heap' hr3 1
      have r2 := cell_of_heap' hr3 2
      have y0 := frozen_of_heap' hr3 0
      have y1 := frozen_of_heap' hr3 1
      have y2 := frozen_of_heap' hr3 2
      simp at r0 r1 r2
      have HB3 : Hid (Below w.heap.size w w3) := HG1.out.below.trans ((HG2.out.trans hG3).below.mono HG1.out.size)
      clear hr2 hr3 hG3 HVB2 HVB HVA hva hvb
      go_wp2
      refine bodyPost_ret (results28 (set3_heap HZ3.out _ _ _) _ _ _ _ _ _) rfl ?_
      refine ⟨none, 0, 0, by rw [HJ.out] <;> rfl, ?_, set3_below HB3.out (by omega) _ _ _⟩
      rw [HJ.out]
      exact World.ownsRow_nil _ _ _ _
    · have hG23 := HG2.out.trans hG3
      have hza := (hG23.block (k := p) (by omega)).trans HUA.out
      have hzb := (hG23.block (k := p + 1) (by omega)).trans HUB.out
      have hzr := (hG23.block (k := p + 1 + 1) (by omega)).trans HUR.out
      have hs3 : p + 3 ≤ w3.heap.size := by have := hG3.size; omega
      have a0 := cell_of_heap' hza 0
      have a1 := cell_of_heap' hza 1
      have a2 := cell_of_heap' hza 2
      have d0 := cell_of_heap' hzb 0
      have d1 := cell_of_heap' hzb 1
      have d2 := cell_of_heap' hzb 2
      simp at a0 a1 a2 d0 d1 d2
      have HZR := hide hzr
      have hfa := okC_fr hva
      have hfb := okC_fr hvb
      have hga := inB_true (okC_true hva).2.1
      have hgb := inB_true (okC_true hvb).2.1
      have hw1 : IntKind.i64.wrap (ca.fr + cb.fr) = ca.fr + cb.fr := by rw [IntKind.wrap_i64]; omega
      have hw2 : IntKind.i64.wrap (ca.fst + cb.fst) = ca.fst + cb.fst := by rw [IntKind.wrap_i64]; omega
      have HALL : Hid (∀ W2 blk, Below w3.heap.size w3 W2 → blk < W2.heap.size → W2.heap[blk]? = some (.cells #[.int .i64 ca.fr, .int .i64 ca.fst, .slice A1 n1 k1, .int .i64 cb.fr, .int .i64 cb.fst, .slice A2 n2 k2] 24 (0, 0)) → Calls Try.prog 66 #[.slice (some ⟨blk, 0, none⟩) 2 2] W2 (AllPost (sortI (ca.sl ++ cb.sl)) W2)) := fun W2 blk hb2 hlt hh => by
        have hbw : Below w.heap.size w W2 := (HG1.out.below.trans (hG23.below.mono HG1.out.size)).trans (hb2.mono (by have := HG1.out.size; have := hG23.size; omega))
        have z := fun i => cell_of_heap' hh i
        have z0 := z 0
        have z1 := z 1
        have z2 := z 2
        have z3 := z 3
        have z4 := z 4
        have z5 := z 5
        simp at z0 z1 z2 z3 z4 z5
        have hcv : CurvesAt W2.heap.size W2 (some ⟨blk, 0, none⟩) 2 (fun i => if i = 0 then ca else cb) (fun i => if i = 0 then (A1, n1, k1) else (A2, n2, k2)) := by
          refine ⟨.inr ⟨blk, 0, rfl, hlt, fun i hi => ?_⟩, fun i hi => ?_⟩
          · rcases (show i = 0 ∨ i = 1 by omega) with rfl | rfl
            · exact ⟨z0, z1, z2⟩
            · exact ⟨z3, z4, z5⟩
          · rcases (show i = 0 ∨ i = 1 by omega) with rfl | rfl
            · exact HA.out.now hbw (Nat.le_refl _)
            · exact HBB.out.now hbw (Nat.le_refl _)
        have h := allSlopes_any (some ⟨blk, 0, none⟩) 2 2 _ _ W2 hcv (by omega) (fun i hi => by
          rcases (show i = 0 ∨ i = 1 by omega) with rfl | rfl
          · exact (okC_true hva).2.2.1
          · exact (okC_true hvb).2.2.1)
        exact h
      have HRES : Hid (∀ W2 W3 a c, Below w3.heap.size w3 W2 → W3.ownsRow W2.heap.size 3 1 (.slice a (sortI (ca.sl ++ cb.sl)).length c) (sortI (ca.sl ++ cb.sl)).length ((sortI (ca.sl ++ cb.sl)).map (Value.int .i64)) → Below W2.heap.size W2 W3 → Calls Try.prog 60 #[.agg #[.int .i64 (ca.fr + cb.fr), .int .i64 (ca.fst + cb.fst), .slice a (sortI (ca.sl ++ cb.sl)).length c]] W3 fun e w' => e = .returned (resV ⟨ca.fr + cb.fr, ca.fst + cb.fst, sortI (ca.sl ++ cb.sl)⟩ a (sortI (ca.sl ++ cb.sl)).length c) ∧ Below W3.heap.size W3 w') := fun W2 W3 a c hb2 ho hb3 =>
        result_any ⟨ca.fr + cb.fr, ca.fst + cb.fst, sortI (ca.sl ++ cb.sl)⟩ a _ c W3 (ints_of_own ho) (by rw [sortI_length, List.length_append]; have := (okC_true hva).2.2.1; have := (okC_true hvb).2.2.1; omega)
      have HB3 : Hid (Below w.heap.size w w3) := HG1.out.below.trans (hG23.below.mono HG1.out.size)
      have HJ : Hid (joinV ca cb = res2 ⟨ca.fr + cb.fr, ca.fst + cb.fst, sortI (ca.sl ++ cb.sl)⟩) := if_pos ⟨hva, hvb⟩
      generalize sortI (ca.sl ++ cb.sl) = zs at HALL HRES HJ
      clear hza hzb hzr hG3 hG23 b0 b1 b2 hr2 HVA HVB HVB2 hfa hfb hga hgb hva hvb
      have SB : Hid (∀ w', Below w3.heap.size w3 w' → w'.cell? ⟨p, 0, none⟩ = some (.int .i64 ca.fr) ∧ w'.cell? ⟨p, 1, none⟩ = some (.int .i64 ca.fst) ∧ w'.cell? ⟨p, 2, none⟩ = some (.slice A1 n1 k1) ∧ w'.cell? ⟨p + 1, 0, none⟩ = some (.int .i64 cb.fr) ∧ w'.cell? ⟨p + 1, 1, none⟩ = some (.int .i64 cb.fst) ∧ w'.cell? ⟨p + 1, 2, none⟩ = some (.slice A2 n2 k2) ∧ (∃ v, w'.cell? ⟨p + 1 + 1, 0, none⟩ = some v) ∧ (∃ v, w'.cell? ⟨p + 1 + 1, 1, none⟩ = some v) ∧ (∃ v, w'.cell? ⟨p + 1 + 1, 2, none⟩ = some v) ∧ w'.frozen? ⟨p + 1 + 1, 0, none⟩ = false ∧ w'.frozen? ⟨p + 1 + 1, 1, none⟩ = false ∧ w'.frozen? ⟨p + 1 + 1, 2, none⟩ = false) := fun w' hb => by
        have hz := (hb.block (p + 1 + 1) (by omega)).trans HZR.out
        have x0 := cell_of_heap' hz 0
        have x1 := cell_of_heap' hz 1
        have x2 := cell_of_heap' hz 2
        simp at x0 x1 x2
        exact ⟨(hb.cell (p := ⟨p, 0, none⟩) (by show p < _; omega)).trans a0, (hb.cell (p := ⟨p, 1, none⟩) (by show p < _; omega)).trans a1, (hb.cell (p := ⟨p, 2, none⟩) (by show p < _; omega)).trans a2, (hb.cell (p := ⟨p + 1, 0, none⟩) (by show p + 1 < _; omega)).trans d0, (hb.cell (p := ⟨p + 1, 1, none⟩) (by show p + 1 < _; omega)).trans d1, (hb.cell (p := ⟨p + 1, 2, none⟩) (by show p + 1 < _; omega)).trans d2,
          ⟨_, x0⟩, ⟨_, x1⟩, ⟨_, x2⟩, frozen_of_heap' hz 0, frozen_of_heap' hz 1, frozen_of_heap' hz 2⟩
      have SS : Hid (∀ w' x y z, Below w3.heap.size w3 w' → (fun w' => w'.cell? ⟨p, 0, none⟩ = some (.int .i64 ca.fr) ∧ w'.cell? ⟨p, 1, none⟩ = some (.int .i64 ca.fst) ∧ w'.cell? ⟨p, 2, none⟩ = some (.slice A1 n1 k1) ∧ w'.cell? ⟨p + 1, 0, none⟩ = some (.int .i64 cb.fr) ∧ w'.cell? ⟨p + 1, 1, none⟩ = some (.int .i64 cb.fst) ∧ w'.cell? ⟨p + 1, 2, none⟩ = some (.slice A2 n2 k2) ∧ (∃ v, w'.cell? ⟨p + 1 + 1, 0, none⟩ = some v) ∧ (∃ v, w'.cell? ⟨p + 1 + 1, 1, none⟩ = some v) ∧ (∃ v, w'.cell? ⟨p + 1 + 1, 2, none⟩ = some v) ∧ w'.frozen? ⟨p + 1 + 1, 0, none⟩ = false ∧ w'.frozen? ⟨p + 1 + 1, 1, none⟩ = false ∧ w'.frozen? ⟨p + 1 + 1, 2, none⟩ = false) (((w'.setCell ⟨p + 1 + 1, 0, none⟩ x).setCell ⟨p + 1 + 1, 1, none⟩ y).setCell ⟨p + 1 + 1, 2, none⟩ z)) := fun w' x y z hb => by
        obtain ⟨h0, h1, h2, h3, h4, h5, ⟨v0, h6⟩, ⟨v1, h7⟩, ⟨v2, h8⟩, h9, h10, h11⟩ := SB.out w' hb
        have hz := (hb.block (p + 1 + 1) (by omega)).trans HZR.out
        have hz2 := set3_heap hz x y z
        unfold set3 at hz2
        have oth : ∀ q o, q ≠ p + 1 + 1 → (((w'.setCell ⟨p + 1 + 1, 0, none⟩ x).setCell ⟨p + 1 + 1, 1, none⟩ y).setCell ⟨p + 1 + 1, 2, none⟩ z).cell? ⟨q, o, none⟩ = w'.cell? ⟨q, o, none⟩ := fun q o hq => by
          rw [World.cell?_setCell_other _ _ _ _ (by intro e; simp only [Addr.mk.injEq] at e; omega), World.cell?_setCell_other _ _ _ _ (by intro e; simp only [Addr.mk.injEq] at e; omega), World.cell?_setCell_other _ _ _ _ (by intro e; simp only [Addr.mk.injEq] at e; omega)]
        have x0 := cell_of_heap' hz2 0
        have x1 := cell_of_heap' hz2 1
        have x2 := cell_of_heap' hz2 2
        simp at x0 x1 x2
        exact ⟨(oth p 0 (by omega)).trans h0, (oth p 1 (by omega)).trans h1, (oth p 2 (by omega)).trans h2, (oth (p + 1) 0 (by omega)).trans h3, (oth (p + 1) 1 (by omega)).trans h4, (oth (p + 1) 2 (by omega)).trans h5, ⟨_, x0⟩, ⟨_, x1⟩, ⟨_, x2⟩, frozen_of_heap' hz2 0, frozen_of_heap' hz2 1, frozen_of_heap' hz2 2⟩
      have HS3 := hide hs3
      clear hs2 HUA HUB HUR HG1 HG2
      by_cases hok : okC ⟨ca.fr + cb.fr, ca.fst + cb.fst, zs⟩ = true
      · have HV : Hid (∀ a c, resV ⟨ca.fr + cb.fr, ca.fst + cb.fst, zs⟩ a zs.length c = .tuple #[.agg #[.int .i64 (ca.fr + cb.fr), .int .i64 (ca.fst + cb.fst), .slice a zs.length c], .int .i64 0]) := fun a c => if_pos hok
        have HJ2 : Hid (joinV ca cb = (⟨ca.fr + cb.fr, ca.fst + cb.fst, zs⟩, 0)) := by show _ = _; rw [HJ.out, res2, if_pos hok]
        have HRES2 : Hid (∀ W2 W3 a c, Below w3.heap.size w3 W2 → W3.ownsRow W2.heap.size 3 1 (.slice a zs.length c) zs.length (zs.map (Value.int .i64)) → Below W2.heap.size W2 W3 → Calls Try.prog 60 #[.agg #[.int .i64 (ca.fr + cb.fr), .int .i64 (ca.fst + cb.fst), .slice a zs.length c]] W3 fun e w' => e = .returned (.tuple #[.agg #[.int .i64 (ca.fr + cb.fr), .int .i64 (ca.fst + cb.fst), .slice a zs.length c], .int .i64 0]) ∧ Below W3.heap.size W3 w') := fun W2 W3 a c h1 h2 h3 => by
          have := HRES.out W2 W3 a c h1 h2 h3
          rw [HV.out] at this
          exact this
        clear hok HRES HJ HV
        go_wp2_with fail
        obtain ⟨-, -, -, -, -, -, ⟨r0, e0⟩, ⟨r1, e1⟩, ⟨r2, e2⟩, y0, y1, y2⟩ := SB.out w3 (Below.refl _ _)
        have hbd : Below w3.heap.size w3 (w3.alloc (.cells #[.int .i64 ca.fr, .int .i64 ca.fst, .slice A1 n1 k1, .int .i64 cb.fr, .int .i64 cb.fst, .slice A2 n2 k2] 24)).drew := ((Below.refl w3.heap.size w3).alloc (Nat.le_refl _) _).drew
        have HSD := hide (SB.out _ hbd)
        have HBD := hide hbd
        obtain ⟨-, -, -, -, -, -, -, -, -, fz0, fz1, fz2⟩ := HSD.out
        have hsd : w3.heap.size ≤ (w3.alloc (.cells #[.int .i64 ca.fr, .int .i64 ca.fst, .slice A1 n1 k1, .int .i64 cb.fr, .int .i64 cb.fst, .slice A2 n2 k2] 24)).drew.heap.size := by show w3.heap.size ≤ (w3.alloc _).heap.size; rw [World.size_alloc]; exact Nat.le_succ _
        have HSZ := hide hsd
        have HAL := hide (HALL.out _ w3.heap.size hbd (by show w3.heap.size < (w3.alloc _).heap.size; rw [World.size_alloc]; exact Nat.lt_succ_self _) (heap_alloc_new w3 _))
        clear hbd hsd
        go_region_held3 (fun w' => w'.cell? ⟨p, 0, none⟩ = some (.int .i64 ca.fr) ∧ w'.cell? ⟨p, 1, none⟩ = some (.int .i64 ca.fst) ∧ w'.cell? ⟨p, 2, none⟩ = some (.slice A1 n1 k1) ∧ w'.cell? ⟨p + 1, 0, none⟩ = some (.int .i64 cb.fr) ∧ w'.cell? ⟨p + 1, 1, none⟩ = some (.int .i64 cb.fst) ∧ w'.cell? ⟨p + 1, 2, none⟩ = some (.slice A2 n2 k2) ∧ (∃ v, w'.cell? ⟨p + 1 + 1, 0, none⟩ = some v) ∧ (∃ v, w'.cell? ⟨p + 1 + 1, 1, none⟩ = some v) ∧ (∃ v, w'.cell? ⟨p + 1 + 1, 2, none⟩ = some v) ∧ w'.frozen? ⟨p + 1 + 1, 0, none⟩ = false ∧ w'.frozen? ⟨p + 1 + 1, 1, none⟩ = false ∧ w'.frozen? ⟨p + 1 + 1, 2, none⟩ = false)
          (first | go_keep | exact ⟨s0, s1, s2, s3, s4, s5, ⟨_, s6⟩, ⟨_, s7⟩, ⟨_, s8⟩, s9, s10, s11⟩ | exact SB.out _ hb4 | exact SB.out _ hb5 | exact SS.out _ _ _ _ hb5 | exact HSD.out)
          (first | (go_at_call 66; (with_reducible refine HAL.out.mono ?_); rintro e w4 ⟨a4, c4, rfl, ho4, hb4'⟩; have hb4 := HBD.out.trans (hb4'.mono HSZ.out); obtain ⟨m0, m1, m2, m3, m4, m5, ⟨v6, m6⟩, ⟨v7, m7⟩, ⟨v8, m8⟩, m9, m10, m11⟩ := SB.out _ hb4) | (go_at_call 60; (with_reducible refine (HRES2.out _ _ _ _ HBD.out ho4 hb4').mono ?_); rintro e w5 ⟨rfl, hb5'⟩; have hb5 := hb4.trans (hb5'.mono hb4.size); obtain ⟨l0, l1, l2, l3, l4, l5, ⟨v9, l6⟩, ⟨v10, l7⟩, ⟨v11, l8⟩, l9, l10, l11⟩ := SB.out _ hb5; obtain ⟨s0, s1, s2, s3, s4, s5, ⟨v12, s6⟩, ⟨v13, s7⟩, ⟨v14, s8⟩, s9, s10, s11⟩ := SS.out w5 (.int .i64 (ca.fr + cb.fr)) (.int .i64 (ca.fst + cb.fst)) (.slice a4 zs.length c4) hb5))
        have HB5 : Hid (Below w.heap.size w w5) := HB3.out.trans (hb5.mono HB3.out.size)
        have HO5 : Hid (w5.ownsRow w3.heap.size 3 1 (.slice a4 zs.length c4) zs.length (zs.map (Value.int .i64))) := own_below (own_base ho4 HSZ.out) hb5'
        have HZ5 := hide ((hb5.block (p + 1 + 1) (by have := HS3.out; omega)).trans HZR.out)
        clear hb5 hb5' hb4 hb4' ho4 m0 m1 m2 m3 m4 m5 m6 m7 m8 m9 m10 m11 l0 l1 l2 l3 l4 l5 l6 l7 l8 l9 l10 l11 s0 s1 s2 s3 s4 s5 s6 s7 s8 s9 s10 s11
        go_wp2
        refine bodyPost_ret (results28 (set3_heap HZ5.out _ _ _) _ _ _ _ _ _) rfl ?_
        refine ⟨a4, zs.length, c4, by rw [HJ2.out] <;> rfl, ?_, set3_below HB5.out (by omega) _ _ _⟩
        rw [HJ2.out]
        exact own_base (own_set3 HO5.out (by have := HS3.out; omega) _ _ _) (by have := HS3.out; omega)
      · have HV : Hid (∀ a c, resV ⟨ca.fr + cb.fr, ca.fst + cb.fst, zs⟩ a zs.length c = .tuple #[.agg #[.int .i64 0, .int .i64 0, .slice none 0 0], .int .i64 4]) := fun a c => if_neg hok
        have HJ2 : Hid (joinV ca cb = (Cu.zero, 4)) := by show _ = _; rw [HJ.out, res2, if_neg hok]
        have HRES2 : Hid (∀ W2 W3 a c, Below w3.heap.size w3 W2 → W3.ownsRow W2.heap.size 3 1 (.slice a zs.length c) zs.length (zs.map (Value.int .i64)) → Below W2.heap.size W2 W3 → Calls Try.prog 60 #[.agg #[.int .i64 (ca.fr + cb.fr), .int .i64 (ca.fst + cb.fst), .slice a zs.length c]] W3 fun e w' => e = .returned (.tuple #[.agg #[.int .i64 0, .int .i64 0, .slice none 0 0], .int .i64 4]) ∧ Below W3.heap.size W3 w') := fun W2 W3 a c h1 h2 h3 => by
          have := HRES.out W2 W3 a c h1 h2 h3
          rw [HV.out] at this
          exact this
        clear hok HRES HJ HV
        go_wp2_with fail
        obtain ⟨-, -, -, -, -, -, ⟨r0, e0⟩, ⟨r1, e1⟩, ⟨r2, e2⟩, y0, y1, y2⟩ := SB.out w3 (Below.refl _ _)
        have hbd : Below w3.heap.size w3 (w3.alloc (.cells #[.int .i64 ca.fr, .int .i64 ca.fst, .slice A1 n1 k1, .int .i64 cb.fr, .int .i64 cb.fst, .slice A2 n2 k2] 24)).drew := ((Below.refl w3.heap.size w3).alloc (Nat.le_refl _) _).drew
        have HSD := hide (SB.out _ hbd)
        have HBD := hide hbd
        obtain ⟨-, -, -, -, -, -, -, -, -, fz0, fz1, fz2⟩ := HSD.out
        have hsd : w3.heap.size ≤ (w3.alloc (.cells #[.int .i64 ca.fr, .int .i64 ca.fst, .slice A1 n1 k1, .int .i64 cb.fr, .int .i64 cb.fst, .slice A2 n2 k2] 24)).drew.heap.size := by show w3.heap.size ≤ (w3.alloc _).heap.size; rw [World.size_alloc]; exact Nat.le_succ _
        have HSZ := hide hsd
        have HAL := hide (HALL.out _ w3.heap.size hbd (by show w3.heap.size < (w3.alloc _).heap.size; rw [World.size_alloc]; exact Nat.lt_succ_self _) (heap_alloc_new w3 _))
        clear hbd hsd
        go_region_held3 (fun w' => w'.cell? ⟨p, 0, none⟩ = some (.int .i64 ca.fr) ∧ w'.cell? ⟨p, 1, none⟩ = some (.int .i64 ca.fst) ∧ w'.cell? ⟨p, 2, none⟩ = some (.slice A1 n1 k1) ∧ w'.cell? ⟨p + 1, 0, none⟩ = some (.int .i64 cb.fr) ∧ w'.cell? ⟨p + 1, 1, none⟩ = some (.int .i64 cb.fst) ∧ w'.cell? ⟨p + 1, 2, none⟩ = some (.slice A2 n2 k2) ∧ (∃ v, w'.cell? ⟨p + 1 + 1, 0, none⟩ = some v) ∧ (∃ v, w'.cell? ⟨p + 1 + 1, 1, none⟩ = some v) ∧ (∃ v, w'.cell? ⟨p + 1 + 1, 2, none⟩ = some v) ∧ w'.frozen? ⟨p + 1 + 1, 0, none⟩ = false ∧ w'.frozen? ⟨p + 1 + 1, 1, none⟩ = false ∧ w'.frozen? ⟨p + 1 + 1, 2, none⟩ = false)
          (first | go_keep | exact ⟨s0, s1, s2, s3, s4, s5, ⟨_, s6⟩, ⟨_, s7⟩, ⟨_, s8⟩, s9, s10, s11⟩ | exact SB.out _ hb4 | exact SB.out _ hb5 | exact SS.out _ _ _ _ hb5 | exact HSD.out)
          (first | (go_at_call 66; (with_reducible refine HAL.out.mono ?_); rintro e w4 ⟨a4, c4, rfl, ho4, hb4'⟩; have hb4 := HBD.out.trans (hb4'.mono HSZ.out); obtain ⟨m0, m1, m2, m3, m4, m5, ⟨v6, m6⟩, ⟨v7, m7⟩, ⟨v8, m8⟩, m9, m10, m11⟩ := SB.out _ hb4) | (go_at_call 60; (with_reducible refine (HRES2.out _ _ _ _ HBD.out ho4 hb4').mono ?_); rintro e w5 ⟨rfl, hb5'⟩; have hb5 := hb4.trans (hb5'.mono hb4.size); obtain ⟨l0, l1, l2, l3, l4, l5, ⟨v9, l6⟩, ⟨v10, l7⟩, ⟨v11, l8⟩, l9, l10, l11⟩ := SB.out _ hb5; obtain ⟨s0, s1, s2, s3, s4, s5, ⟨v12, s6⟩, ⟨v13, s7⟩, ⟨v14, s8⟩, s9, s10, s11⟩ := SS.out w5 (.int .i64 0) (.int .i64 0) (.slice none 0 0) hb5))
        have HB5 : Hid (Below w.heap.size w w5) := HB3.out.trans (hb5.mono HB3.out.size)
        have HO5 : Hid (w5.ownsRow w3.heap.size 3 1 (.slice a4 zs.length c4) zs.length (zs.map (Value.int .i64))) := own_below (own_base ho4 HSZ.out) hb5'
        have HZ5 := hide ((hb5.block (p + 1 + 1) (by have := HS3.out; omega)).trans HZR.out)
        clear hb5 hb5' hb4 hb4' ho4 m0 m1 m2 m3 m4 m5 m6 m7 m8 m9 m10 m11 l0 l1 l2 l3 l4 l5 l6 l7 l8 l9 l10 l11 s0 s1 s2 s3 s4 s5 s6 s7 s8 s9 s10 s11
        go_wp2
        refine bodyPost_ret (results28 (set3_heap HZ5.out _ _ _) _ _ _ _ _ _) rfl ?_
        refine ⟨none, 0, 0, by rw [HJ2.out] <;> rfl, ?_, set3_below HB5.out (by omega) _ _ _⟩
        rw [HJ2.out]
        exact World.ownsRow_nil _ _ _ _

end Go.Proofs.Ytdepnhnpklbmiaa
