/- Contract of at. -/
import Derived.Test.YtdepnhnpklbmiaaB5
namespace Go.Proofs.Ytdepnhnpklbmiaa
open Go.RowKit Go.Sort

/-- a walker as a value -/
def wkV (c : Cu) (A : Option Addr) (n cap : Nat) (x v : Int) : Value := .agg #[.int .i64 c.fr, .int .i64 c.fst, .slice A n cap, .int .i64 x, .int .i64 v]

/-- a struct of five cells stored -/
def set5 (W : World) (g : Nat) (a b c d e : Value) : World := ((((W.setCell ⟨g, 0, none⟩ a).setCell ⟨g, 1, none⟩ b).setCell ⟨g, 2, none⟩ c).setCell ⟨g, 3, none⟩ d).setCell ⟨g, 4, none⟩ e
theorem set5_heap {W : World} {g : Nat} {p q r s u : Value} {t : TypeId} (h : W.heap[g]? = some (.cells #[p, q, r, s, u] t (0, 0))) (a b c d e : Value) : (set5 W g a b c d e).heap[g]? = some (.cells #[a, b, c, d, e] t (0, 0)) := by
  have h1 := heap_setCell_same W g 0 _ t a h
  have h2 := heap_setCell_same _ g 1 _ t b h1
  have h3 := heap_setCell_same _ g 2 _ t c h2
  have h4 := heap_setCell_same _ g 3 _ t d h3
  have h5 := heap_setCell_same _ g 4 _ t e h4
  unfold set5
  simpa using h5
theorem set5_below {n : Nat} {w W : World} {g : Nat} (h : Below n w W) (hg : n ≤ g) (a b c d e : Value) : Below n w (set5 W g a b c d e) :=
  ((((h.setCell (p := ⟨g, 0, none⟩) hg a).setCell (p := ⟨g, 1, none⟩) hg b).setCell (p := ⟨g, 2, none⟩) hg c).setCell (p := ⟨g, 3, none⟩) hg d).setCell (p := ⟨g, 4, none⟩) hg e
theorem results51 {W : World} {g : Nat} {a b c d e : Value} {t : TypeId} (h : W.heap[g]? = some (.cells #[a, b, c, d, e] t (0, 0))) (x0 x1 x2 x3 : Value) (rest : List Value) :
    (results Try.f51 (x0 :: x1 :: x2 :: x3 :: .pointer (some ⟨g, 0, none⟩) :: rest).toArray).run Try.prog W = .ok (.agg #[a, b, c, d, e]) W := by
  have h0 := cell_of_heap' h 0
  have h1 := cell_of_heap' h 1
  have h2 := cell_of_heap' h 2
  have h3 := cell_of_heap' h 3
  have h4 := cell_of_heap' h 4
  simp at h0 h1 h2 h3 h4
  simp [results, Try.results51, go_sem, h0, h1, h2, h3, h4]

set_option maxHeartbeats 4000000 in
set_option maxRecDepth 100000 in
theorem at_any (c : Cu) (A : Option Addr) (n cap k : Nat) (w : World) (hc : okC c = true) (hx : IntsAt w.heap.size w A n c.sl) (hA : 0 < n → ∀ ad, A = some ad → ad.block < w.heap.size) (hk : k ≤ n) :
    Calls Try.prog 51 #[.agg #[.int .i64 c.fr, .int .i64 c.fst, .slice A n cap], .int .i64 (c.fr + k)] w fun e w' => e = .returned (wkV c A n cap (c.fr + k) (valK c k)) ∧ Below w.heap.size w w' := by
  have mixed := mixedOrders
  have HX := hide hx
  have HC := hide hc
  have hl := hx.1
  have h0 := okC_fr hc
  have hn : n ≤ 64 := by have := (okC_true hc).2.2.1; omega
  obtain ⟨x, hxx⟩ : ∃ x, c.fr + (k : Int) = x := ⟨_, rfl⟩
  rw [hxx]
  obtain ⟨W0, hW0⟩ : ∃ W0, ((w.alloc (.cells #[.int .i64 c.fr, .int .i64 c.fst, .slice A n cap] 24)).alloc (.cells #[.int .i64 0, .int .i64 0, .slice none 0 0, .int .i64 0, .int .i64 0] 61)).alloc (.cells #[.int .i64 c.fr, .int .i64 c.fst, .slice A n cap, .int .i64 c.fr, .int .i64 c.fst] 61) = W0 := ⟨_, rfl⟩
  obtain ⟨r, hr⟩ : ∃ r, w.heap.size + 1 = r := ⟨_, rfl⟩
  have hG0 : Gr w W0 := by rw [← hW0]; exact (((Gr.refl w).alloc _).alloc _).alloc _
  have hb0 : W0.heap[r + 1]? = some (.cells #[.int .i64 c.fr, .int .i64 c.fst, .slice A n cap, .int .i64 c.fr, .int .i64 c.fst] 61 (0, 0)) := by
    rw [← hW0, ← hr]
    simpa using heap_alloc_new ((w.alloc (.cells #[.int .i64 c.fr, .int .i64 c.fst, .slice A n cap] 24)).alloc (.cells #[.int .i64 0, .int .i64 0, .slice none 0 0, .int .i64 0, .int .i64 0] 61)) (.cells #[.int .i64 c.fr, .int .i64 c.fst, .slice A n cap, .int .i64 c.fr, .int .i64 c.fst] 61)
  have hr0 : W0.heap[r]? = some (.cells #[.int .i64 0, .int .i64 0, .slice none 0 0, .int .i64 0, .int .i64 0] 61 (0, 0)) := by
    rw [← hW0, ← hr]
    refine (Below.heap_alloc _ _ _ (by simp)).trans ?_
    simpa using heap_alloc_new (w.alloc (.cells #[.int .i64 c.fr, .int .i64 c.fst, .slice A n cap] 24)) (.cells #[.int .i64 0, .int .i64 0, .slice none 0 0, .int .i64 0, .int .i64 0] 61)
  have hs0 : W0.heap.size = r + 2 := by rw [← hW0, ← hr]; simp
  have c0 := fun j => cell_of_heap' hb0 j
  have f0 := fun j => frozen_of_heap' hb0 j
  have hO0 : OnWay W0 (r + 1) 0 c A n cap 0 := by
    refine ⟨⟨by omega, by simpa using c0 0, by simpa using c0 1, by simpa using c0 2, ?_, ?_, f0 _, f0 _⟩, HX.out.gr hG0, fun hz ad e => by have := hA hz ad e; omega, Nat.zero_le _⟩
    · have := c0 3
      simp at this
      simpa using this
    · have := c0 4
      simp at this
      simpa [valK] using this
  have HO0 := hide hO0
  have HG0 := hide hG0
  have HR0 := hide hr0
  clear hx hc c0 f0 hb0 hr0 hO0 hG0
  go_enter Try.func51, Try.ntmps51
  go_wp2
  try rw [hW0]
  try rw [hr]
  go_loopg [] k (fun f wr => ∃ j : Nat, j ≤ k ∧ f = k - j ∧ Hid (OnWay wr (r + 1) 0 c A n cap j) ∧ Hid (Wkd (r + 1) 0 W0 wr))
  case atStart => exact ⟨0, Nat.zero_le _, rfl, HO0, hide (Wkd.of_gr (by omega) (Gr.refl W0))⟩
  case round =>
    obtain ⟨j, hjk, rfl, HO, HK⟩ := hrel
    obtain ⟨y, hy⟩ : ∃ y, c.fr + (j : Int) = y := ⟨_, rfl⟩
    have g0 : wr.cell? ⟨r + 1, 0, none⟩ = some (.int .i64 c.fr) := by simpa using HO.out.wk.c0
    have g1 : wr.cell? ⟨r + 1, 1, none⟩ = some (.int .i64 c.fst) := by simpa using HO.out.wk.c1
    have g2 : wr.cell? ⟨r + 1, 2, none⟩ = some (.slice A n cap) := by simpa using HO.out.wk.c2
    have g3 : wr.cell? ⟨r + 1, 3, none⟩ = some (.int .i64 y) := by rw [← hy]; simpa using HO.out.wk.c3
    have g4 : wr.cell? ⟨r + 1, 4, none⟩ = some (.int .i64 (valK c j)) := by simpa using HO.out.wk.c4
    by_cases hj : j < k
    · have hd : decide (y < x) = true := decide_eq_true (by omega)
      have HST := hide (onway_step HC.out HO.out (by omega))
      clear g0 g1 g2 g4
      go_wp2_with fail
      refine HST.out.mono ?_
      rintro e w5 ⟨rfl, ho, hk5⟩
      have HO5 := hide ho
      have HK5 := hide (HK.out.trans hk5)
      clear ho hk5 HST
      go_wp2
      go_roundg (k - (j + 1))
      case measure => omega
      case rel => exact ⟨j + 1, by omega, rfl, HO5, HK5⟩
    · obtain rfl : j = k := by omega
      have hd : decide (y < x) = false := decide_eq_false (by omega)
      obtain rfl : y = x := by omega
      have hh := (HK.out.block r (by omega) (by omega)).trans HR0.out
      have HH := hide hh
      have z := fun i => cell_of_heap' hh i
      have z0 := z 0
      have z1 := z 1
      have z2 := z 2
      have z3 := z 3
      have z4 := z 4
      have y0 := frozen_of_heap' hh 0
      have y1 := frozen_of_heap' hh 1
      have y2 := frozen_of_heap' hh 2
      have y3 := frozen_of_heap' hh 3
      have y4 := frozen_of_heap' hh 4
      simp at z0 z1 z2 z3 z4
      have HB : Hid (Below w.heap.size w wr) := hide (HK.out.below HG0.out.below (by omega) (by omega))
      clear hh z hy hxx HO HK
      go_wp2
      refine bodyPost_ret (results51 (set5_heap HH.out _ _ _ _ _) _ _ _ _ _) rfl ?_
      exact ⟨rfl, set5_below HB.out (by omega) _ _ _ _ _⟩

end Go.Proofs.Ytdepnhnpklbmiaa
