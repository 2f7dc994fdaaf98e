/- Contracts of result, step, climb and at. -/
import Derived.Test.YtdepnhnpklbmiaaB2
import Derived.Test.YtdepnhnpklbmiaaB3
import Derived.Deep.AppendLies
namespace Go.Proofs.Ytdepnhnpklbmiaa
open Go.RowKit Go.Sort

theorem cell_of_heap' {W : World} {b : Nat} {cs : Array Value} {t : TypeId} {fz : Nat × Nat} (h : W.heap[b]? = some (.cells cs t fz)) (j : Nat) : W.cell? ⟨b, j, none⟩ = cs[j]? := by
  simp [World.cell?, h]
theorem frozen_of_heap' {W : World} {b : Nat} {cs : Array Value} {t : TypeId} (h : W.heap[b]? = some (.cells cs t (0, 0))) (j : Nat) : W.frozen? ⟨b, j, none⟩ = false := by
  simp [World.frozen?, h]
/-- a struct of three cells stored -/
def set3 (W : World) (g : Nat) (a b c : Value) : World := ((W.setCell ⟨g, 0, none⟩ a).setCell ⟨g, 1, none⟩ b).setCell ⟨g, 2, none⟩ c
theorem set3_heap {W : World} {g : Nat} {p q r : Value} {t : TypeId} (h : W.heap[g]? = some (.cells #[p, q, r] t (0, 0))) (a b c : Value) : (set3 W g a b c).heap[g]? = some (.cells #[a, b, c] t (0, 0)) := by
  have h1 := heap_setCell_same W g 0 _ t a h
  have h2 := heap_setCell_same _ g 1 _ t b h1
  have h3 := heap_setCell_same _ g 2 _ t c h2
  unfold set3
  simpa using h3
theorem set3_below {n : Nat} {w W : World} {g : Nat} (h : Below n w W) (hg : n ≤ g) (a b c : Value) : Below n w (set3 W g a b c) :=
  ((h.setCell (p := ⟨g, 0, none⟩) hg a).setCell (p := ⟨g, 1, none⟩) hg b).setCell (p := ⟨g, 2, none⟩) hg c
theorem results60 {W : World} {g : Nat} {a b c : Value} {t : TypeId} (h : W.heap[g]? = some (.cells #[a, b, c] t (0, 0))) (x0 x1 y : Value) (rest : List Value) :
    (results Try.f60 (x0 :: x1 :: .pointer (some ⟨g, 0, none⟩) :: y :: rest).toArray).run Try.prog W = .ok (.tuple #[.agg #[a, b, c], y]) W := by
  have h0 := cell_of_heap' h 0
  have h1 := cell_of_heap' h 1
  have h2 := cell_of_heap' h 2
  simp at h0 h1 h2
  simp [results, Try.results60, go_sem, h0, h1, h2]
/-- a curve that was made, or that it is outside the limits -/
def resV (c : Cu) (A : Option Addr) (n cap : Nat) : Value := if okC c = true then .tuple #[.agg #[.int .i64 c.fr, .int .i64 c.fst, .slice A n cap], .int .i64 0] else .tuple #[.agg #[.int .i64 0, .int .i64 0, .slice none 0 0], .int .i64 4]

set_option maxHeartbeats 1000000 in
set_option maxRecDepth 100000 in
theorem result_any (c : Cu) (A : Option Addr) (n cap : Nat) (w : World) (hx : IntsAt w.heap.size w A n c.sl) (hn : n ≤ 9223372036854775807) :
    Calls Try.prog 60 #[.agg #[.int .i64 c.fr, .int .i64 c.fst, .slice A n cap]] w fun e w' => e = .returned (resV c A n cap) ∧ Below w.heap.size w w' := by
  obtain ⟨W1, hW1⟩ : ∃ W1, (w.alloc (.cells #[.int .i64 c.fr, .int .i64 c.fst, .slice A n cap] 24)).alloc (.cells #[.int .i64 0, .int .i64 0, .slice none 0 0] 24) = W1 := ⟨_, rfl⟩
  have hG1 : Gr w W1 := by rw [← hW1]; exact ((Gr.refl w).alloc _).alloc _
  have t0 : W1.cell? ⟨w.heap.size, 0, none⟩ = some (.int .i64 c.fr) ∧ W1.cell? ⟨w.heap.size, 1, none⟩ = some (.int .i64 c.fst) ∧ W1.cell? ⟨w.heap.size, 2, none⟩ = some (.slice A n cap) := by
    rw [← hW1]
    exact ⟨(World.cell?_alloc_lt _ _ _ (by simp)).trans (by simp), (World.cell?_alloc_lt _ _ _ (by simp)).trans (by simp), (World.cell?_alloc_lt _ _ _ (by simp)).trans (by simp)⟩
  have hl1 : w.heap.size < W1.heap.size := by rw [← hW1]; simp; omega
  have u1 : W1.heap[w.heap.size + 1]? = some (.cells #[.int .i64 0, .int .i64 0, .slice none 0 0] 24 (0, 0)) := by rw [← hW1]; simpa using heap_alloc_new (w.alloc (.cells #[.int .i64 c.fr, .int .i64 c.fst, .slice A n cap] 24)) (.cells #[.int .i64 0, .int .i64 0, .slice none 0 0] 24)
  have hl2 : w.heap.size + 1 < W1.heap.size := by rw [← hW1]; simp
  obtain ⟨r0, r1, r2⟩ := t0
  have HV := hide (Valid_any c A n cap W1 (hx.gr hG1) hn)
  have HG1 := hide hG1
  clear hx hG1
  go_enter Try.func60, Try.ntmps60
  go_wp2_with fail
  refine HV.out.mono ?_
  rintro e w2 ⟨rfl, hG⟩
  have v0 := (hG.cell (p := ⟨w.heap.size, 0, none⟩) hl1).trans r0
  have v1 := (hG.cell (p := ⟨w.heap.size, 1, none⟩) hl1).trans r1
  have v2 := (hG.cell (p := ⟨w.heap.size, 2, none⟩) hl1).trans r2
  have hh := (hG.block hl2).trans u1
  cases hc : okC c
  · have HR : Hid (resV c A n cap = .tuple #[.agg #[.int .i64 0, .int .i64 0, .slice none 0 0], .int .i64 4]) := by show _ = _; unfold resV; rw [if_neg (by rw [hc]; decide)]
    have HB := hide ((HG1.out.below).trans (hG.below.mono HG1.out.size))
    have HH := hide hh
    have z0 := cell_of_heap' hh 0
    have z1 := cell_of_heap' hh 1
    have z2 := cell_of_heap' hh 2
    have y0 := frozen_of_heap' hh 0
    have y1 := frozen_of_heap' hh 1
    have y2 := frozen_of_heap' hh 2
    simp at z0 z1 z2
    clear hG hh hc r0 r1 r2 u1 hW1
    go_wp2
    refine bodyPost_ret (results60 (set3_heap HH.out _ _ _) _ _ _ _) rfl ?_
    exact ⟨by rw [HR.out], set3_below HB.out (by omega) _ _ _⟩
  · have HR : Hid (resV c A n cap = .tuple #[.agg #[.int .i64 c.fr, .int .i64 c.fst, .slice A n cap], .int .i64 0]) := by show _ = _; unfold resV; rw [if_pos hc]
    have HB := hide ((HG1.out.below).trans (hG.below.mono HG1.out.size))
    have HH := hide hh
    have z0 := cell_of_heap' hh 0
    have z1 := cell_of_heap' hh 1
    have z2 := cell_of_heap' hh 2
    have y0 := frozen_of_heap' hh 0
    have y1 := frozen_of_heap' hh 1
    have y2 := frozen_of_heap' hh 2
    simp at z0 z1 z2
    clear hG hh hc r0 r1 r2 u1 hW1
    go_wp2
    refine bodyPost_ret (results60 (set3_heap HH.out _ _ _) _ _ _ _) rfl ?_
    exact ⟨by rw [HR.out], set3_below HB.out (by omega) _ _ _⟩

set_option maxHeartbeats 2000000 in
set_option maxRecDepth 100000 in
theorem step_any (b off : Nat) (c : Cu) (A : Option Addr) (n cap k : Nat) (v : Int) (w : World) (hw : WkAt w b off c A n cap (c.fr + k) v) (hx : IntsAt w.heap.size w A n c.sl) (h0 : -1048576 ≤ c.fr) (h1 : c.fr ≤ 1048576) (hn : n ≤ 1000) (hk : k < n)
    (hv : -1125899906842624 ≤ v ∧ v ≤ 1125899906842624) (hs : -1048576 ≤ iA c.sl k ∧ iA c.sl k ≤ 1048576) :
    Calls Try.prog 64 #[.pointer (some ⟨b, off, none⟩)] w fun e w' => e = .returned (.tuple #[]) ∧ ∃ W1, Gr w W1 ∧ w' = (W1.setCell ⟨b, off + 4, none⟩ (.int .i64 (v + iA c.sl k))).setCell ⟨b, off + 3, none⟩ (.int .i64 (c.fr + k + 1)) := by
  have mixed := mixedOrders
  have HW := hide hw
  have HX := hide hx
  have hA : aftV c k = iA c.sl k := if_neg (by have := hx.1; omega)
  have HA := hide (fun w1 (hg : Gr w w1) => after_any b off c A n cap k v w1 (hw.gr hg) (hx.gr hg) h0 h1 hn (by omega))
  rw [hA] at HA
  generalize iA c.sl k = s at *
  obtain ⟨x, hxx⟩ : ∃ x, c.fr + (k : Int) = x := ⟨_, rfl⟩
  rw [hxx]
  rw [hxx] at HW
  have g3 := HW.out.c3
  have g4 := HW.out.c4
  have f3 := HW.out.f3
  have f4 := HW.out.f4
  have hlt := HW.out.lt
  obtain ⟨hv1, hv2⟩ := hv
  obtain ⟨hs1, hs2⟩ := hs
  have hx1 : -2000000 ≤ x := by omega
  have hx2 : x ≤ 2000000 := by omega
  clear hw hx hA
  go_enter Try.func64, Try.ntmps64
  go_wp2_with fail
  have hwr : IntKind.i64.wrap (v + s) = v + s := by rw [IntKind.wrap_i64]; omega
  go_region_law (first | (go_simp; go_at_call 63; refine (HA.out _ ((Gr.refl w).drew)).mono ?_; rintro e w2 ⟨rfl, hG1⟩; have g3' := (hG1.cell (p := ⟨b, off + 3, none⟩) hlt).trans g3; have g4' := (hG1.cell (p := ⟨b, off + 4, none⟩) hlt).trans g4; have f3' := (hG1.frozen (p := ⟨b, off + 3, none⟩) hlt).trans f3; have f4' := (hG1.frozen (p := ⟨b, off + 4, none⟩) hlt).trans f4))
  all_goals
    have hG2 := ((Gr.refl w).drew).trans hG1
    have k3 : (w2.setCell ⟨b, off + 4, none⟩ (.int .i64 (v + s))).cell? ⟨b, off + 3, none⟩ = some (.int .i64 x) := (World.cell?_setCell_other _ _ _ _ (by intro e; simp only [Addr.mk.injEq] at e; omega)).trans g3'
    have m3 : (w2.setCell ⟨b, off + 4, none⟩ (.int .i64 (v + s))).frozen? ⟨b, off + 3, none⟩ = false := by rw [World.frozen?_setCell]; exact f3'
    try rw [hwr]
    have HG2 := hide hG2
    clear hG1 hG2 g3' g4' f3' f4' g3 g4 f3 f4
    go_wp2
    go_end0
    exact ⟨rfl, w2, HG2.out, rfl⟩

end Go.Proofs.Ytdepnhnpklbmiaa
