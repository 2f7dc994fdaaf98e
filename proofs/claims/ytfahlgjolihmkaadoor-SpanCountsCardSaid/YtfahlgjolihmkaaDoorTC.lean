/- parseSpan: a word's span. -/
import Derived.Test.YtfahlgjolihmkaaDoorTB
import Derived.Lib.AtoiTie
namespace Go.Proofs.YtfahlgjolihmkaaDoor
open Go.RowKit Go.Sort

/-- what Atoi hands back -/
def AtoiPost (s : ByteArray) (w : World) (e : Ending) (w' : World) : Prop :=
  ((∃ v, Lib.atoiAll s.data.toList = .ok v ∧ e = .returned (.tuple #[.int .i64 v, .nilIface])) ∨
    ((∀ v, Lib.atoiAll s.data.toList ≠ .ok v) ∧ ∃ x t N, e = .returned (.tuple #[.int .i64 x, .iface t (.pointer (some ⟨N, 0, none⟩))]))) ∧ Below w.heap.size w w'
theorem Atoi_any (s : ByteArray) (hs : s.size ≤ 281474976710656) (w : World) (he : Env w) : Calls Tryd.prog 47 #[.string s] w (AtoiPost s w) := by
  obtain ⟨te, pe, hsy⟩ := he.here.syn
  obtain ⟨tr, pr, hrg⟩ := he.here.rng
  cases h : Lib.atoiAll s.data.toList
  · rename_i v
    refine (Tryd.strconv_Atoi_ok s (by omega) v h w).mono ?_
    rintro e w' ⟨rfl, hw⟩
    refine ⟨.inl ⟨v, h, rfl⟩, ?_⟩
    rcases hw with rfl | ⟨t, rfl⟩
    · exact Below.refl _ _
    · exact Lib.bytesWorld_below _ _ _
  · refine (Any.strconv_Atoi_syntax Tryd.laysC172 s hs h _ w hsy (.inr ⟨_, _, rfl⟩)).mono ?_
    rintro e w' ⟨N, rfl, -, -, hb⟩
    exact ⟨.inr ⟨fun v hv => (by rw [h] at hv; cases hv), _, _, _, rfl⟩, hb⟩
  · refine (Any.strconv_Atoi_range Tryd.laysC172 s hs h _ w hrg (.inr ⟨_, _, rfl⟩)).mono ?_
    rintro e w' ⟨N, rfl, -, -, hb⟩
    exact ⟨.inr ⟨fun v hv => (by rw [h] at hv; cases hv), _, _, _, rfl⟩, hb⟩
theorem cut_len (l sep : List UInt8) : (Lib.cut l sep).1.length ≤ l.length ∧ (Lib.cut l sep).2.1.length ≤ l.length := by
  unfold Lib.cut
  split
  · exact ⟨List.length_take_le' _ _, by simp⟩
  · simp

/-- the span of a word, as the program reads it -/
def pSp (l : List UInt8) : Option Sp :=
  if (Lib.cut l [46, 46]).2.2 then
    match Lib.atoiAll (Lib.cut l [46, 46]).1, Lib.atoiAll (Lib.cut l [46, 46]).2.1 with
    | .ok a, .ok b => some (a, b)
    | _, _ => none
  else none
def pSv (l : List UInt8) : Value := match pSp l with
  | some s => .tuple #[.agg #[.int .i64 s.1, .int .i64 s.2], .bool true]
  | none => .tuple #[.agg #[.int .i64 0, .int .i64 0], .bool false]
theorem pSv_no {l : List UInt8} (h : pSp l = none) : pSv l = .tuple #[.agg #[.int .i64 0, .int .i64 0], .bool false] := by unfold pSv; rw [h]
theorem pSv_yes {l : List UInt8} {s : Sp} (h : pSp l = some s) : pSv l = .tuple #[.agg #[.int .i64 s.1, .int .i64 s.2], .bool true] := by unfold pSv; rw [h]
theorem pSp_cut {l : List UInt8} (h : (Lib.cut l [46, 46]).2.2 = false) : pSp l = none := by unfold pSp; rw [h]; rfl
theorem pSp_1 {l : List UInt8} (h : ∀ v, Lib.atoiAll (Lib.cut l [46, 46]).1 ≠ .ok v) : pSp l = none := by
  unfold pSp
  split
  · split
    · rename_i a b h1 h2
      exact absurd h1 (h a)
    · rfl
  · rfl
theorem pSp_2 {l : List UInt8} (h : ∀ v, Lib.atoiAll (Lib.cut l [46, 46]).2.1 ≠ .ok v) : pSp l = none := by
  unfold pSp
  split
  · split
    · rename_i a b h1 h2
      exact absurd h2 (h b)
    · rfl
  · rfl
theorem pSp_ok {l : List UInt8} {a b : Int} (h : (Lib.cut l [46, 46]).2.2 = true) (h1 : Lib.atoiAll (Lib.cut l [46, 46]).1 = .ok a) (h2 : Lib.atoiAll (Lib.cut l [46, 46]).2.1 = .ok b) : pSp l = some (a, b) := by
  unfold pSp
  rw [if_pos h, h1, h2]

theorem frozen_of_row {W : World} {b : Nat} {cs : Array Value} {t : TypeId} (h : W.heap[b]? = some (.cells cs t (0, 0))) (i : Nat) : W.frozen? ⟨b, i, none⟩ = false := by
  unfold World.frozen?
  rw [h]
  simp
theorem set_row {W : World} {g j : Nat} {cs : Array Value} {t : TypeId} (h : W.heap[g]? = some (.cells cs t (0, 0))) (v : Value) : (W.setCell ⟨g, j, none⟩ v).heap[g]? = some (.cells (cs.setIfInBounds j v) t (0, 0)) := heap_setCell_same W g j cs t v h
theorem set2_row {W : World} {g : Nat} {p q : Value} {t : TypeId} (h : W.heap[g]? = some (.cells #[p, q] t (0, 0))) (a b : Value) : ((W.setCell ⟨g, 0, none⟩ a).setCell ⟨g, 1, none⟩ b).heap[g]? = some (.cells #[a, b] t (0, 0)) := by
  have := set_row (j := 1) (set_row (j := 0) h a) b
  simpa using this
theorem results28 {W : World} {g : Nat} {a b : Value} {t : TypeId} (h : W.heap[g]? = some (.cells #[a, b] t (0, 0))) (x0 x1 y : Value) (rest : List Value) :
    (results Tryd.f28 (x0 :: x1 :: .pointer (some ⟨g, 0, none⟩) :: y :: rest).toArray).run Tryd.prog W = .ok (.tuple #[.agg #[a, b], y]) W := by
  have h0 := cell_of_heap h 0
  have h1 := cell_of_heap h 1
  simp at h0 h1
  simp [results, Tryd.results28, go_sem, h0, h1]

set_option maxHeartbeats 1000000 in
set_option maxRecDepth 100000 in
theorem parseSpan_any (s : ByteArray) (hs : s.size ≤ 1000000) (w : World) (he : Env w) :
    Calls Tryd.prog 28 #[.string s] w fun e w' => e = .returned (pSv s.data.toList) ∧ Below w.heap.size w w' := by
  have mixed := mixedOrders
  obtain ⟨m, hm⟩ := he.here.max
  have HE := hide he
  clear he
  have hw0 : 0 < w.heap.size := cell_lt hm
  have HC := hide (Tryd.strings_Cut s (bstr [46, 46]) m (w.alloc (.cells #[.int .i64 0, .int .i64 0] 41)) (by omega) ((World.cell?_alloc_lt w _ ⟨0, 0, none⟩ hw0).trans hm))
  obtain ⟨c1, c2⟩ := cut_len s.data.toList [46, 46]
  have hsz : s.data.toList.length = s.size := (Lib.size_eq s).symm
  have HA1 := hide (fun W (hW : Env W) => Atoi_any (bstr (Lib.cut s.data.toList [46, 46]).1) (by rw [bstr_size]; omega) W hW)
  have HA2 := hide (fun W (hW : Env W) => Atoi_any (bstr (Lib.cut s.data.toList [46, 46]).2.1) (by rw [bstr_size]; omega) W hW)
  clear hm c1 c2 hsz
  cases hc : (Lib.cut s.data.toList [46, 46]).2.2
  · go_enter Tryd.func28, Tryd.ntmps28
    go_wp2_with fail
    refine HC.out.mono ?_
    rintro e w1 ⟨rfl, k, rfl⟩
    rw [hc]
    go_wp2
    refine bodyPost_ret (results28 (set2_row (show ((w.alloc (.cells #[.int .i64 0, .int .i64 0] 41)).drewN k).heap[w.heap.size]? = some (.cells #[.int .i64 0, .int .i64 0] 41 (0, 0)) from World.alloc_heap_new w _) _ _) _ _ _ _) rfl ?_
    exact ⟨ret_val (pSv_no (pSp_cut hc)).symm, (((((Gr.refl w).alloc _).drewN k).below).setCell (Nat.le_refl _) _).setCell (Nat.le_refl _) _⟩
  · go_enter Tryd.func28, Tryd.ntmps28
    go_wp2_with fail
    refine HC.out.mono ?_
    rintro e w1 ⟨rfl, k, rfl⟩
    rw [hc]
    have hw1 : Below w.heap.size w ((w.alloc (.cells #[.int .i64 0, .int .i64 0] 41)).drewN k) := (((Gr.refl w).alloc _).drewN k).below
    have hcell : ((w.alloc (.cells #[.int .i64 0, .int .i64 0] 41)).drewN k).heap[w.heap.size]? = some (.cells #[.int .i64 0, .int .i64 0] 41 (0, 0)) := World.alloc_heap_new w _
    obtain ⟨w1, hw1e⟩ : ∃ w1, (w.alloc (.cells #[.int .i64 0, .int .i64 0] 41)).drewN k = w1 := ⟨_, rfl⟩
    rw [hw1e] at hw1 hcell ⊢
    have HW1 := hide hw1
    have HCE := hide hcell
    clear hw1 hcell hw1e HC
    go_wp2_with fail
    refine (HA1.out w1 (HE.out.on HW1.out)).mono ?_
    rintro e w2 ⟨h2, hb2⟩
    have HW2 := hide (HW1.out.trans (hb2.mono HW1.out.size))
    have HCE2 : Hid (w2.heap[w.heap.size]? = some (.cells #[.int .i64 0, .int .i64 0] 41 (0, 0))) := (hb2.block _ (Array.getElem?_eq_some_iff.1 HCE.out).1).trans HCE.out
    clear HW1 HCE hb2
    rcases h2 with ⟨a, ha, rfl⟩ | ⟨hno, x, t, N, rfl⟩
    · go_wp2_with fail
      refine (HA2.out w2 (HE.out.on HW2.out)).mono ?_
      rintro e w3 ⟨h3, hb3⟩
      have HW3 := hide (HW2.out.trans (hb3.mono HW2.out.size))
      have HCE3 : Hid (w3.heap[w.heap.size]? = some (.cells #[.int .i64 0, .int .i64 0] 41 (0, 0))) := (hb3.block _ (Array.getElem?_eq_some_iff.1 HCE2.out).1).trans HCE2.out
      clear HW2 HCE2 hb3
      rcases h3 with ⟨b, hb, rfl⟩ | ⟨hno, x, t, N, rfl⟩
      · have HP := hide (pSp_ok hc ha hb)
        clear ha hb
        have z0 := cell_of_heap HCE3.out 0
        have z1 := cell_of_heap HCE3.out 1
        have f0 := frozen_of_row HCE3.out 0
        have f1 := frozen_of_row HCE3.out 1
        simp only [List.getElem?_toArray, List.getElem?_cons_zero, List.getElem?_cons_succ] at z0 z1
        go_wp2
        refine bodyPost_ret (results28 (set2_row HCE3.out _ _) _ _ _ _) rfl ?_
        exact ⟨ret_val (pSv_yes HP.out).symm, (HW3.out.setCell (Nat.le_refl _) _).setCell (Nat.le_refl _) _⟩
      · have HP := hide (pSp_2 hno)
        clear hno ha
        have z0 := cell_of_heap HCE3.out 0
        have z1 := cell_of_heap HCE3.out 1
        have f0 := frozen_of_row HCE3.out 0
        have f1 := frozen_of_row HCE3.out 1
        simp only [List.getElem?_toArray, List.getElem?_cons_zero, List.getElem?_cons_succ] at z0 z1
        go_wp2
        refine bodyPost_ret (results28 (set2_row HCE3.out _ _) _ _ _ _) rfl ?_
        exact ⟨ret_val (pSv_no HP.out).symm, (HW3.out.setCell (Nat.le_refl _) _).setCell (Nat.le_refl _) _⟩
    · have HP := hide (pSp_1 hno)
      clear hno
      have z0 := cell_of_heap HCE2.out 0
      have z1 := cell_of_heap HCE2.out 1
      have f0 := frozen_of_row HCE2.out 0
      have f1 := frozen_of_row HCE2.out 1
      simp only [List.getElem?_toArray, List.getElem?_cons_zero, List.getElem?_cons_succ] at z0 z1
      go_wp2
      refine bodyPost_ret (results28 (set2_row HCE2.out _ _) _ _ _ _) rfl ?_
      exact ⟨ret_val (pSv_no HP.out).symm, (HW2.out.setCell (Nat.le_refl _) _).setCell (Nat.le_refl _) _⟩
end Go.Proofs.YtfahlgjolihmkaaDoor
