/- What the loop of Add keeps. -/
import Derived.Test.YtdepnhnpklbmiaaB22
namespace Go.Proofs.Ytdepnhnpklbmiaa
open Go.RowKit Go.Sort

structure AddI (w W : World) (g8 g9 gc r : Nat) (a : Cu) (A1 : Option Addr) (n1 k1 : Nat) (b : Cu) (A2 : Option Addr) (n2 k2 : Nat) (lo f0 : Int) (L : List Int) (N : Nat) (x : Option Addr) (cp i j : Nat) : Prop where
  u : OnWay W g8 0 a A1 n1 k1 i
  v : OnWay W g9 0 b A2 n2 k2 j
  conj : W.heap[gc]? = some (.cells #[.int .i64 lo, .int .i64 f0, .slice x N cp] 24 (0, 0))
  row : W.ownsRow (gc + 1) 3 1 (.slice x N cp) N (L.map (Value.int .i64))
  res : W.heap[r]? = some (.cells #[.int .i64 0, .int .i64 0, .slice none 0 0] 24 (0, 0))
  below : Below w.heap.size w W
  size : gc + 1 ≤ W.heap.size
/-- where the blocks lie -/
structure AddS (w : World) (g8 g9 gc r : Nat) (a : Cu) (A1 : Option Addr) (n1 : Nat) (b : Cu) (A2 : Option Addr) (n2 : Nat) : Prop where
  xa : IntsAt w.heap.size w A1 n1 a.sl
  xb : IntsAt w.heap.size w A2 n2 b.sl
  l8 : g8 < gc
  l9 : g9 < gc
  lr : r < gc
  r8 : r ≠ g8
  r9 : r ≠ g9
  ne : g8 ≠ g9
  o8 : w.heap.size ≤ g8
  o9 : w.heap.size ≤ g9

section
variable {w W W' : World} {g8 g9 gc r : Nat} {a : Cu} {A1 : Option Addr} {n1 k1 : Nat} {b : Cu} {A2 : Option Addr} {n2 k2 : Nat} {lo f0 : Int} {L : List Int} {N : Nat} {x : Option Addr} {cp i j : Nat}

theorem AddI.stepU {i' : Nat} (h : AddI w W g8 g9 gc r a A1 n1 k1 b A2 n2 k2 lo f0 L N x cp i j) (s : AddS w g8 g9 gc r a A1 n1 b A2 n2) (ho : OnWay W' g8 0 a A1 n1 k1 i') (hk : Wkd g8 0 W W') : AddI w W' g8 g9 gc r a A1 n1 k1 b A2 n2 k2 lo f0 L N x cp i' j := by
  have hB := hk.below h.below s.o8 h.below.size
  have hs := h.size
  have := s.l8
  have := s.l9
  have := s.lr
  exact ⟨ho, h.v.shift (hk.block g9 (by omega) (Ne.symm s.ne)) hk.size (s.xb.now hB (Nat.le_refl _)), (hk.block gc (by omega) (by omega)).trans h.conj, own_wkd h.row hk (fun e => by have := (h.row.lt g8 e).1; omega), (hk.block r (by omega) s.r8).trans h.res, hB, Nat.le_trans hs hk.size⟩
theorem AddI.stepV {j' : Nat} (h : AddI w W g8 g9 gc r a A1 n1 k1 b A2 n2 k2 lo f0 L N x cp i j) (s : AddS w g8 g9 gc r a A1 n1 b A2 n2) (ho : OnWay W' g9 0 b A2 n2 k2 j') (hk : Wkd g9 0 W W') : AddI w W' g8 g9 gc r a A1 n1 k1 b A2 n2 k2 lo f0 L N x cp i j' := by
  have hB := hk.below h.below s.o9 h.below.size
  have hs := h.size
  have := s.l8
  have := s.l9
  have := s.lr
  exact ⟨h.u.shift (hk.block g8 (by omega) s.ne) hk.size (s.xa.now hB (Nat.le_refl _)), ho, (hk.block gc (by omega) (by omega)).trans h.conj, own_wkd h.row hk (fun e => by have := (h.row.lt g9 e).1; omega), (hk.block r (by omega) s.r9).trans h.res, hB, Nat.le_trans hs hk.size⟩
/-- a number is appended, and the slice stored -/
theorem AddI.push {w5 w6 : World} {z : Int} {gg c2 : Nat} {t : Obj} (h : AddI w W g8 g9 gc r a A1 n1 k1 b A2 n2 k2 lo f0 L N x cp i j) (s : AddS w g8 g9 gc r a A1 n1 b A2 n2) (hG : Gr W w5)
    (hown : w6.ownsRow (gc + 1) 3 1 (.slice (some ⟨gg, 0, none⟩) (N + 1) c2) (N + 1) (L.map (Value.int .i64) ++ [.int .i64 z])) (hgrow : (w5.alloc t).grownBy w6 (Value.slice x N cp).ownBlock) :
    AddI w (w6.setCell ⟨gc, 2, none⟩ (.slice (some ⟨gg, 0, none⟩) (N + 1) c2)) g8 g9 gc r a A1 n1 k1 b A2 n2 k2 lo f0 (L ++ [z]) (N + 1) (some ⟨gg, 0, none⟩) c2 i j ∧ w6.heap[gc]? = some (.cells #[.int .i64 lo, .int .i64 f0, .slice x N cp] 24 (0, 0)) := by
  have hs := h.size
  have h8 := s.l8
  have h9 := s.l9
  have hr := s.lr
  have hs5 := hG.size
  have hb6 : Below (gc + 1) W w6 := ((hG.below.mono hs).alloc (by omega) t).grown hgrow (by rw [World.size_alloc]; omega) (fun k e => (h.row.lt k e).1)
  have hsz : (w6.setCell ⟨gc, 2, none⟩ (.slice (some ⟨gg, 0, none⟩) (N + 1) c2)).heap.size = w6.heap.size := by simp [World.setCell]
  have hB6 : Below w.heap.size w w6 := h.below.trans (hb6.mono (by have := s.o8; omega))
  have hB7 := hB6.setCell (p := ⟨gc, 2, none⟩) (by show w.heap.size ≤ gc; have := s.o8; omega) (.slice (some ⟨gg, 0, none⟩) (N + 1) c2)
  have hc6 := (hb6.block gc (by omega)).trans h.conj
  refine ⟨⟨?_, ?_, ?_, ?_, ?_, hB7, by rw [hsz]; exact Nat.le_trans hs hb6.size⟩, hc6⟩
  · exact h.u.shift ((Below.heap_setCell _ _ _ _ (by show g8 ≠ gc; omega)).trans (hb6.block g8 (by omega))) (by rw [hsz]; exact hb6.size) (s.xa.now hB7 (Nat.le_refl _))
  · exact h.v.shift ((Below.heap_setCell _ _ _ _ (by show g9 ≠ gc; omega)).trans (hb6.block g9 (by omega))) (by rw [hsz]; exact hb6.size) (s.xb.now hB7 (Nat.le_refl _))
  · have := Joins.block_setCell hc6 (i := 2) (.slice (some ⟨gg, 0, none⟩) (N + 1) c2)
    simpa using this
  · rw [List.map_append]
    exact RowKit.ownsRow_setCell_below hown (a := ⟨gc, 2, none⟩) (by show gc < gc + 1; omega) _
  · exact (Below.heap_setCell _ _ _ _ (by show r ≠ gc; omega)).trans ((hb6.block r (by omega)).trans h.res)
end
end Go.Proofs.Ytdepnhnpklbmiaa
