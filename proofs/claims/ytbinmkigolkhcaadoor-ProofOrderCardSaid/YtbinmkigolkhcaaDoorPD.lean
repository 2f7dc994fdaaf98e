/- nodeBytes, Node. -/
import Derived.Test.YtbinmkigolkhcaaDoorPC
import Derived.Laws.MakeOwn
namespace Go.Proofs.YtbinmkigolkhcaaDoor
open Go.RowKit Go.Sort
attribute [local go_sem] Oper.semAt_some

theorem Below.of_grown {B : Nat} {w w' : World} (hg : w.grownBy w' none) (hB : B ≤ w.heap.size) : Below B w w' := ⟨hg.os, hg.tape, hg.output, hg.size, fun k hk => hg.block k (Nat.lt_of_lt_of_le hk hB) (by intro e; cases e)⟩
theorem bytes_of_own {W : World} {base k c : Nat} {a : Option Addr} {l : List UInt8} (h : W.ownsRow base 5 1 (.slice a k c) k (cellsB l)) : BytesAt W.heap.size W a k l := by
  have hl : l.length = k := by have := h.1; unfold cellsB at this; simpa using this
  refine ⟨hl, ?_⟩
  rcases h.2 with ⟨_, h0⟩ | ⟨g, cap, cur, hv, hb, hg, hr⟩
  · exact .inl h0
  · injection hv with h1 h2 h3
    subst h1
    refine .inr ⟨g, 0, rfl, (Array.getElem?_eq_some_iff.1 hg).1, fun i hi => ?_⟩
    rw [Nat.zero_add]
    have e : (⟨g, 0, none⟩ : Addr).add i = ⟨g, i, none⟩ := by
      by_cases h0 : i = 0
      · subst h0; rfl
      · simp [Addr.add, h0]
    have c0 := h.cells (g := g) rfl i (.int .u8 ((l.getD i 0).toNat : Nat)) (by
      unfold cellsB
      rw [List.getElem?_map, List.getElem?_eq_getElem (by omega), List.getD_eq_getElem?_getD, List.getElem?_eq_getElem (by omega)]
      rfl)
    rw [e] at c0
    exact c0

set_option maxHeartbeats 2000000 in
set_option maxRecDepth 100000 in
theorem nodeBytes_any (x y : Nat) (hx : x < 18446744073709551616) (hy : y < 18446744073709551616) (w : World) :
    Calls Tryd.prog 60 #[.int .u64 x, .int .u64 y] w fun e w' => ∃ a c, e = .returned (.slice a 17 c) ∧ w'.ownsRow w.heap.size 5 1 (.slice a 17 c) 17 (cellsB (nodeB x y)) ∧ Below w.heap.size w w' := by
  have mixed := mixedOrders
  obtain ⟨i0, hi0, hz0, hz1, hz2⟩ := info_parts info5
  obtain ⟨w1, hmk, hown, hg⟩ := run_make_own (P := Tryd.prog) (w := w) w.heap.size 23 5 i0 (.int .u8 0) 1 Tryd.underlying23 hi0 hz0 hz1 .i64 .i64 17 (by rw [hz2]; decide) (by decide) (Nat.le_refl _)
  have hmk2 : (Instr.makeSlice 23 (.int .i64 0) (.int .i64 17)).run Tryd.prog w = .ok (.slice (some ⟨w.heap.size, 0, none⟩) 0 17) w1 := hmk
  clear hmk
  have HO1 := hide hown
  have HB1 := hide (Below.of_grown hg (Nat.le_refl _))
  have hb4 : w.heap.size ≤ (w1.alloc (.cells #[.int .u8 1] 5)).heap.size := by have := HB1.out.size; simp; omega
  have HX := hide hx
  have HY := hide hy
  clear hown hg hx hy
  go_enter Tryd.func60, Tryd.ntmps60
  go_wp2_with (at_builtin; refine wpList_append_own_at _ rfl (.tmp 7) (.tmp 8) _ rfl w.heap.size 5 i0 (.int .u8 0) 1 1 Tryd.underlying23 hi0 hz0 hz1 hz2 rfl (by decide) _ _ _ rfl (HO1.out.alloc _) ⟨w1.heap.size, 0, none⟩ 1 1 [.int .u8 1] rfl rfl (cell_one_at _ _ rfl) (by simp [Value.oneCell']) (by decide) (by decide) hb4 ?_; intro v1 w5 hown1 hgrow1 hnil1 hat1; refine Hid.out ?_)
  refine Lib.hid ?_
  obtain ⟨a2, c2, rfl⟩ := own_slice hown1
  have HB5 : Hid (Below w.heap.size w w5) := by
    have h1 := HB1.out.alloc HB1.out.size (.cells #[.int .u8 1] 5)
    refine h1.trans ⟨hgrow1.os, hgrow1.tape, hgrow1.output, hgrow1.size, fun k hk => hgrow1.block k (Nat.lt_of_lt_of_le hk h1.size) fun e => ?_⟩
    have := (own_lt HO1.out k e.symm).1
    omega
  have HO5 : Hid (w5.ownsRow w.heap.size 5 1 (.slice a2 1 c2) 1 (cellsB [1])) := hown1
  clear hown1 hgrow1 hnil1 hat1 hmk2 HO1 HB1 hb4
  go_wp2_with fail
  refine (appendNumber_any w.heap.size a2 c2 1 _ x HX.out w5 (by omega) HB5.out.size HO5.out).mono ?_
  rintro e w6 ⟨a3, c3, rfl, ho6, hb6⟩
  have HO6 := hide ho6
  have HB6 := hide (HB5.out.trans hb6)
  clear ho6 hb6 HO5 HB5
  go_wp2_with fail
  refine (appendNumber_any w.heap.size a3 c3 9 _ y HY.out w6 (by omega) HB6.out.size HO6.out).mono ?_
  rintro e w7 ⟨a4, c4, rfl, ho7, hb7⟩
  have HO7 : Hid (w7.ownsRow w.heap.size 5 1 (.slice a4 17 c4) 17 (cellsB (nodeB x y))) := by
    have e : cellsB (nodeB x y) = cellsB [1] ++ cellsB (eight x) ++ cellsB (eight y) := by
      unfold nodeB cellsB
      rw [List.map_cons, List.map_append]
      rfl
    show w7.ownsRow _ _ _ _ _ _
    rw [e]
    exact ho7
  have HB7 := hide (HB6.out.trans hb7)
  clear ho7 hb7 HO6 HB6
  go_wp2
  go_ret
  exact ⟨a4, c4, rfl, HO7.out, HB7.out⟩

theorem Node_any (x y : Nat) (hx : x < 18446744073709551616) (hy : y < 18446744073709551616) (w : World) :
    Calls Tryd.prog 24 #[.int .u64 x, .int .u64 y] w fun e w' => e = .returned (.int .u64 (nodeV x y : Nat)) ∧ Below w.heap.size w w' := by
  have HN := hide (nodeBytes_any x y hx hy w)
  clear hx hy
  go_enter Tryd.func24, Tryd.ntmps24
  go_wp2_with fail
  refine HN.out.mono ?_
  rintro e w1 ⟨a, c, rfl, ho, hb⟩
  have HM := hide (Mix_any a 17 c (nodeB x y) w1 (bytes_of_own ho) (by omega))
  have HB := hide hb
  clear ho hb HN
  go_wp2_with fail
  refine HM.out.mono ?_
  rintro e w2 ⟨rfl, rfl⟩
  go_wp2
  go_ret
  exact ⟨rfl, HB.out⟩
end Go.Proofs.YtbinmkigolkhcaaDoor
