/- Contracts of the specification's rows: To, Value, Out. -/
import Derived.Test.YtdepnhnpklbmiaaB21
import Derived.Deep.AppendLies
import Derived.OneCell
namespace Go.Proofs.Ytdepnhnpklbmiaa
open Go.RowKit Go.Sort

set_option maxHeartbeats 400000 in
theorem To_any (fr : Int) (A : Option Addr) (n cap : Nat) (w : World) (h0 : -2097152 ≤ fr ∧ fr ≤ 2097152) (hn : n ≤ 1000000) :
    Calls Try.prog 65 #[.agg #[.int .i64 fr, .slice A n cap]] w fun e w' => e = .returned (.int .i64 (fr + n - 1)) ∧ Gr w w' := by
  obtain ⟨h1, h2⟩ := h0
  go_enter Try.func65, Try.ntmps65
  go_wp2
  go_ret
  exact ⟨rfl, (Gr.refl _).alloc _⟩

set_option maxHeartbeats 1000000 in
set_option maxRecDepth 100000 in
theorem Value_any (fr x : Int) (A : Option Addr) (n cap k : Nat) (xs : List Int) (w : World) (hx : IntsAt w.heap.size w A n xs) (_h0 : -2097152 ≤ fr ∧ fr ≤ 2097152) (hk : k < n) (hn : n ≤ 1000000) (hxk : x = fr + k) :
    Calls Try.prog 54 #[.agg #[.int .i64 fr, .slice A n cap], .int .i64 x] w fun e w' => e = .returned (.int .i64 (iA xs k)) ∧ Gr w w' := by
  obtain ⟨W1, hW1⟩ : ∃ W1, w.alloc (.cells #[.int .i64 fr, .slice A n cap] 64) = W1 := ⟨_, rfl⟩
  have hG1 : Gr w W1 := by rw [← hW1]; exact (Gr.refl w).alloc _
  obtain ⟨b, off, rfl, hb, c0⟩ := (hx.gr hG1).at_ hk
  have hw1 : IntKind.i64.wrap (x - fr) = (k : Int) := by rw [IntKind.wrap_i64]; omega
  have hk' : (k : Int) < (n : Int) := by omega
  have a0 := heap_alloc_new w (.cells #[.int .i64 fr, .slice (some ⟨b, off, none⟩) n cap] 64)
  rw [hW1] at a0
  have d0 := cell_of_heap' a0 0
  have d1 := cell_of_heap' a0 1
  simp at d0 d1
  have HG := hide hG1
  generalize iA xs k = v at c0 ⊢
  clear hx hG1 hb a0 _h0 hxk
  go_enter Try.func54, Try.ntmps54
  go_wp2
  go_ret
  exact ⟨rfl, HG.out⟩

theorem results52 {W : World} {g : Nat} {a b : Value} {t : TypeId} (h : W.heap[g]? = some (.cells #[a, b] t (0, 0))) (x0 x1 : Value) (rest : List Value) :
    (results Try.f52 (x0 :: x1 :: .pointer (some ⟨g, 0, none⟩) :: rest).toArray).run Try.prog W = .ok (.agg #[a, b]) W := by
  have h0 := cell_of_heap' h 0
  have h1 := cell_of_heap' h 1
  simp at h0 h1
  simp [results, Try.results52, go_sem, h0, h1]

/-- the values of a curve, one behind the other -/
def vals (c : Cu) (k : Nat) : List Int := (List.range k).map (fun i => valK c i)
theorem vals_len (c : Cu) (k : Nat) : (vals c k).length = k := by simp [vals]
theorem vals_at {c : Cu} {k i : Nat} (h : i < k) : iA (vals c k) i = valK c i := by
  rw [iA_get (by rw [vals_len]; exact h)]
  simp [vals]
theorem vals_succ (c : Cu) (k : Nat) : vals c (k + 1) = vals c k ++ [valK c k] := by
  unfold vals
  rw [List.range_succ, List.map_append]
  rfl

/-- what stands when i slopes have been gone through -/
structure OutI (w W : World) (p : Nat) (c : Cu) (A : Option Addr) (n cap : Nat) (g i cp : Nat) : Prop where
  arg : W.heap[p]? = some (.cells #[.int .i64 c.fr, .int .i64 c.fst, .slice A n cap] 24 (0, 0))
  res : W.heap[p + 1]? = some (.cells #[.int .i64 0, .slice none 0 0] 64 (0, 0))
  var : W.heap[p + 1 + 1 + 1]? = some (.cells #[.int .i64 c.fr, .slice (some ⟨g, 0, none⟩) (i + 1) cp] 64 (0, 0))
  row : W.ownsRow (p + 1 + 1) 3 1 (.slice (some ⟨g, 0, none⟩) (i + 1) cp) (i + 1) ((vals c (i + 1)).map (Value.int .i64))
  ne : g ≠ p + 1 + 1 + 1
  below : Below w.heap.size w W
  size : p + 1 + 1 + 1 < W.heap.size

def OutPost (c : Cu) (w : World) (e : Ending) (w' : World) : Prop :=
  ∃ A cap, e = .returned (.agg #[.int .i64 c.fr, .slice A (c.sl.length + 1) cap]) ∧ w'.ownsRow w.heap.size 3 1 (.slice A (c.sl.length + 1) cap) (c.sl.length + 1) ((vals c (c.sl.length + 1)).map (Value.int .i64)) ∧ Below w.heap.size w w'

theorem OutI.next {w W w1 : World} {p : Nat} {c : Cu} {A : Option Addr} {n cap g i cp gg c2 : Nat} {t : Obj} (h : OutI w W p c A n cap g i cp) (hp : w.heap.size = p)
    (hown : w1.ownsRow (p + 1 + 1) 3 1 (.slice (some ⟨gg, 0, none⟩) (i + 1 + 1) c2) (i + 1 + 1) ((vals c (i + 1)).map (Value.int .i64) ++ [.int .i64 (valK c (i + 1))])) (hgrow : (W.alloc t).drew.grownBy w1 (Value.slice (some ⟨g, 0, none⟩) (i + 1) cp).ownBlock)
    (hat : (Value.slice (some ⟨g, 0, none⟩) (i + 1) cp).ownBlock = some gg ∨ gg = W.heap.size + 1) :
    OutI w (w1.setCell ⟨p + 1 + 1 + 1, 1, none⟩ (.slice (some ⟨gg, 0, none⟩) (i + 1 + 1) c2)) p c A n cap gg (i + 1) c2 ∧ w1.heap[p + 1 + 1 + 1]? = some (.cells #[.int .i64 c.fr, .slice (some ⟨g, 0, none⟩) (i + 1) cp] 64 (0, 0)) := by
  have hg : g ≠ p + 1 + 1 + 1 := h.ne
  have hgb : p + 1 + 1 ≤ g := (h.row.lt g rfl).1
  have keep : ∀ k, k < W.heap.size → k ≠ g → w1.heap[k]? = W.heap[k]? := fun k hk hkg => (hgrow.block k (by show k < (W.alloc t).heap.size; rw [World.size_alloc]; omega) (by simp [Value.ownBlock]; omega)).trans (Below.heap_alloc _ _ _ hk)
  have hsz : W.heap.size + 1 ≤ w1.heap.size := by have h1 : (W.alloc t).heap.size ≤ w1.heap.size := hgrow.size; rw [World.size_alloc] at h1; exact h1
  have hv1 := (keep (p + 1 + 1 + 1) h.size (by omega)).trans h.var
  have hs2 : (w1.setCell ⟨p + 1 + 1 + 1, 1, none⟩ (.slice (some ⟨gg, 0, none⟩) (i + 1 + 1) c2)).heap.size = w1.heap.size := by simp [World.setCell]
  have hne : gg ≠ p + 1 + 1 + 1 := by
    have := h.size
    rcases hat with h1 | h1
    · simp only [Value.ownBlock] at h1
      injection h1
      omega
    · omega
  have hsz2 := h.size
  refine ⟨⟨?_, ?_, ?_, ?_, hne, ?_, by rw [hs2]; omega⟩, hv1⟩
  · exact (Below.heap_setCell _ _ _ _ (by show p ≠ p + 1 + 1 + 1; omega)).trans ((keep p (by omega) (by omega)).trans h.arg)
  · exact (Below.heap_setCell _ _ _ _ (by show p + 1 ≠ p + 1 + 1 + 1; omega)).trans ((keep (p + 1) (by omega) (by omega)).trans h.res)
  · have := Joins.block_setCell hv1 (i := 1) (.slice (some ⟨gg, 0, none⟩) (i + 1 + 1) c2)
    simpa using this
  · rw [vals_succ, List.map_append]
    refine ownsRow_setCell_other hown ?_ _
    simp [Value.ownBlock]
    omega
  · have hb1 : Below w.heap.size w w1 := ((h.below.alloc h.below.size t).drew).grown hgrow (by show w.heap.size ≤ (W.alloc t).heap.size; rw [World.size_alloc]; have := h.below.size; omega) (fun k e => by simp only [Value.ownBlock] at e; injection e; omega)
    exact hb1.setCell (p := ⟨p + 1 + 1 + 1, 1, none⟩) (by show w.heap.size ≤ p + 1 + 1 + 1; omega) _

set_option maxHeartbeats 8000000 in
set_option maxRecDepth 100000 in
theorem Out_any (c : Cu) (A : Option Addr) (n cap : Nat) (w : World) (hc : okC c = true) (hx : CuAt w.heap.size w c A n cap) :
    Calls Try.prog 52 #[.agg #[.int .i64 c.fr, .int .i64 c.fst, .slice A n cap]] w (OutPost c w) := by
  have mixed := mixedOrders
  obtain ⟨i0, hi0, hz0, hz1, hz2⟩ := info_parts info3
  have hl := hx.sl.1
  have hn64 : n ≤ 64 := by have := okC_len hc; omega
  obtain ⟨p, hp⟩ : ∃ p, w.heap.size = p := ⟨_, rfl⟩
  have HS0 : Hid (OutI w ((((w.alloc (.cells #[.int .i64 c.fr, .int .i64 c.fst, .slice A n cap] 24)).alloc (.cells #[.int .i64 0, .slice none 0 0] 64)).alloc (.cells #[.int .i64 c.fst] 3)).alloc (.cells #[.int .i64 c.fr, .slice (some ⟨p + 1 + 1, 0, none⟩) 1 1] 64)) p c A n cap (p + 1 + 1) 0 1) := by
    have e0 : (w.alloc (.cells #[.int .i64 c.fr, .int .i64 c.fst, .slice A n cap] 24)).heap.size = p + 1 := by rw [World.size_alloc, hp]
    have e1 : ((w.alloc (.cells #[.int .i64 c.fr, .int .i64 c.fst, .slice A n cap] 24)).alloc (.cells #[.int .i64 0, .slice none 0 0] 64)).heap.size = p + 1 + 1 := by rw [World.size_alloc, e0]
    have e2 : (((w.alloc (.cells #[.int .i64 c.fr, .int .i64 c.fst, .slice A n cap] 24)).alloc (.cells #[.int .i64 0, .slice none 0 0] 64)).alloc (.cells #[.int .i64 c.fst] 3)).heap.size = p + 1 + 1 + 1 := by rw [World.size_alloc, e1]
    have hrow : (((w.alloc (.cells #[.int .i64 c.fr, .int .i64 c.fst, .slice A n cap] 24)).alloc (.cells #[.int .i64 0, .slice none 0 0] 64)).alloc (.cells #[.int .i64 c.fst] 3)).ownsRow (p + 1 + 1) 3 1 (.slice (some ⟨p + 1 + 1, 0, none⟩) 1 1) 1 ((vals c 1).map (Value.int .i64)) := by
      have := heap_alloc_new ((w.alloc (.cells #[.int .i64 c.fr, .int .i64 c.fst, .slice A n cap] 24)).alloc (.cells #[.int .i64 0, .slice none 0 0] 64)) (.cells #[.int .i64 c.fst] 3)
      rw [e1] at this
      refine ⟨by simp [vals], .inr ⟨p + 1 + 1, 1, #[.int .i64 c.fst], rfl, Nat.le_refl _, this, ?_⟩⟩
      constructor <;> simp [vals, valK]
      unfold maxLen
      omega
    refine ⟨?_, ?_, ?_, hrow.alloc _, by omega, ?_, by rw [World.size_alloc, e2]; omega⟩
    · refine (Below.heap_alloc _ _ _ (by rw [e2]; omega)).trans ((Below.heap_alloc _ _ _ (by rw [e1]; omega)).trans ((Below.heap_alloc _ _ _ (by rw [e0]; omega)).trans ?_))
      rw [← hp]
      exact heap_alloc_new w _
    · refine (Below.heap_alloc _ _ _ (by rw [e2]; omega)).trans ((Below.heap_alloc _ _ _ (by rw [e1]; omega)).trans ?_)
      rw [← e0]
      exact heap_alloc_new _ _
    · rw [← e2]
      exact heap_alloc_new _ _
    · exact (((((Gr.refl w).alloc _).alloc _).alloc _).alloc _).below
  have HX := hide hx
  have HC := hide hc
  have HL := hide hl
  obtain ⟨f, hf⟩ : ∃ f, c.fr = f := ⟨_, rfl⟩
  obtain ⟨f1, hf1⟩ : ∃ f, c.fst = f := ⟨_, rfl⟩
  rw [hf, hf1] at HS0
  rw [hf, hf1]
  have HFF := hide hf
  have HF1 := hide hf1
  clear hx hc hl hf hf1
  go_enter Try.func52, Try.ntmps52
  go_wp2_with fail
  try rw [hp]
  go_loopw [4] (fun vi wr => ∃ (i g cp : Nat), i ≤ n ∧ vi = .int .i64 i ∧ Hid (OutI w wr p c A n cap g i cp)) (fun vi _ => n - (intOf vi).toNat)
  case atStart => exact ⟨0, p + 1 + 1, 1, Nat.zero_le _, rfl, HS0⟩
  case round =>
    obtain ⟨i, g, cp, hi, rfl, HI⟩ := hrel
    have ha := HI.out.arg
    have hv := HI.out.var
    have a2 := cell_of_heap' ha 2
    have v0 := cell_of_heap' hv 0
    have v1 := cell_of_heap' hv 1
    have y1 := frozen_of_heap' hv 1
    simp at a2 v0 v1
    by_cases hlt : i < n
    · have hlt' : (i : Int) < (n : Int) := by omega
      obtain ⟨b, off, rfl, hb, c0⟩ := HX.out.sl.at_ hlt
      have d0 := (HI.out.below.cell (p := ⟨b, off + i, none⟩) hb).trans c0
      have hrg := own_cell HI.out.row (t := i) (by omega)
      have r0 := hrg.1
      rw [vals_at (by omega)] at r0
      have hir : (i : Int) < (i : Int) + 1 := by omega
      clear hrg
      have hvr := okC_val HC.out (k := i) (by have := HL.out; omega)
      have hsr := okC_sl HC.out (k := i) (by have := HL.out; omega)
      have HVS : Hid (valK c (i + 1) = valK c i + iA c.sl i) := rfl
      obtain ⟨z, hz⟩ : ∃ z, valK c i = z := ⟨_, rfl⟩
      obtain ⟨s, hs⟩ : ∃ s, iA c.sl i = s := ⟨_, rfl⟩
      rw [hz] at r0 hvr HVS
      rw [hs] at d0 hsr HVS
      obtain ⟨u, hu⟩ : ∃ u, z + s = u := ⟨_, rfl⟩
      have hwu : IntKind.i64.wrap (z + s) = u := by rw [IntKind.wrap_i64]; omega
      have HU : Hid (valK c (i + 1) = u) := by show _ = _; rw [HVS.out, hu]
      have hsz := HI.out.size
      have hgb := (HI.out.row.lt g rfl)
      have hN1 : i + 1 + 1 ≤ maxLen := by unfold maxLen; omega
      have hN2 : (i + 1 + 1) * 8 ≤ 140737488355328 := by omega
      have hbs : b < wr.heap.size := by have := HI.out.below.size; omega
      have hgne : g ≠ p + 1 + 1 + 1 := HI.out.ne
      have L0 : ∀ o, (wr.alloc o).cell? ⟨b, off + i, none⟩ = some (.int .i64 s) := fun o => (World.cell?_alloc_lt _ _ _ hbs).trans d0
      have hbw : b < p := by omega
      have KW : Hid (∀ W1 : World, (∀ k, k < wr.heap.size → k ≠ g → W1.heap[k]? = wr.heap[k]?) → W1.cell? ⟨p, 2, none⟩ = some (.slice (some ⟨b, off, none⟩) n cap) ∧ W1.cell? ⟨b, off + i, none⟩ = some (.int .i64 s) ∧ (∃ v, W1.cell? ⟨p + 1 + 1 + 1, 1, none⟩ = some v) ∧ W1.frozen? ⟨p + 1 + 1 + 1, 1, none⟩ = false) := fun W1 hk =>
        ⟨(World.cell?_of_block (hk p (by omega) (by omega))).trans a2, (World.cell?_of_block (hk b hbs (by omega))).trans d0, ⟨_, (World.cell?_of_block (hk (p + 1 + 1 + 1) hsz (Ne.symm hgne))).trans v1⟩, (World.frozen?_of_block (hk (p + 1 + 1 + 1) hsz (Ne.symm hgne))).trans y1⟩
      have KS : Hid (∀ (W1 : World) (v : Value), (∀ k, k < wr.heap.size → k ≠ g → W1.heap[k]? = wr.heap[k]?) → (W1.setCell ⟨p + 1 + 1 + 1, 1, none⟩ v).cell? ⟨p, 2, none⟩ = some (.slice (some ⟨b, off, none⟩) n cap) ∧ (W1.setCell ⟨p + 1 + 1 + 1, 1, none⟩ v).cell? ⟨b, off + i, none⟩ = some (.int .i64 s) ∧ (∃ u, (W1.setCell ⟨p + 1 + 1 + 1, 1, none⟩ v).cell? ⟨p + 1 + 1 + 1, 1, none⟩ = some u) ∧ (W1.setCell ⟨p + 1 + 1 + 1, 1, none⟩ v).frozen? ⟨p + 1 + 1 + 1, 1, none⟩ = false) := fun W1 v hk => by
        obtain ⟨q1, q2, ⟨u, q3⟩, q4⟩ := KW.out W1 hk
        exact ⟨(World.cell?_setCell_other _ _ _ _ (by intro e; simp only [Addr.mk.injEq] at e; omega)).trans q1, (World.cell?_setCell_other _ _ _ _ (by intro e; simp only [Addr.mk.injEq] at e; omega)).trans q2, ⟨_, World.cell?_setCell_same _ _ _ q3⟩, by rw [World.frozen?_setCell]; exact q4⟩
      have KA := hide (fun o => KW.out (wr.alloc o) (fun k hk _ => Below.heap_alloc wr o k hk))
      have K0 := hide (KW.out wr (fun k _ _ => rfl))
      clear hz hs hu hvr hsr HVS c0
      go_wp2_with fail
      go_region_law (refine step_append_lies _ (by rfl) _ _ _ (by rfl) (p + 1 + 1) 3 i0 _ 1 8 Try.underlying22 hi0 hz0 hz1 hz2 rfl (by omega) (.slice (some ⟨g, 0, none⟩) (i + 1) cp) (i + 1) ((vals c (i + 1)).map (Value.int .i64)) (by rfl) ((HI.out.row.alloc _).drew) ⟨wr.heap.size, 0, none⟩ 1 1 [.int .i64 u] (by rfl) (by rfl) (World.news_of_block (cs := #[.int .i64 u]) (t := 3) (fr := (0, 0)) (heap_alloc_new wr _)) (by simp [Value.oneCell']) (by omega) hN1 hN2 (by simp; omega) (wr.heap.size + 1) (by simp) ?_; intro gg c2 w1 hown1 hgrow hat hlt1; have hk1 : ∀ k, k < wr.heap.size → k ≠ g → w1.heap[k]? = wr.heap[k]? := (fun k hk hkg => (hgrow.block k (by show k < (wr.alloc _).heap.size; rw [World.size_alloc]; omega) (by simp [Value.ownBlock]; omega)).trans (Below.heap_alloc wr _ k hk)); obtain ⟨-, -, ⟨vv, g1⟩, y1'⟩ := KW.out _ hk1)
      all_goals
        obtain ⟨hn8, hv8⟩ := HI.out.next (t := .cells #[.int .i64 u] 3) hp (by rw [HU.out]; exact hown1) hgrow hat
        have HN8 := hide hn8
        clear hn8 hv8 hown1 hgrow hat hk1
        go_wp2
        go_roundw
        case rel => exact ⟨i + 1, gg, c2, by omega, by go_num, HN8⟩
        case measure => simp [intOf]; omega
    · obtain rfl : i = n := by omega
      have hr := HI.out.res
      have x0 := cell_of_heap' hr 0
      have x1 := cell_of_heap' hr 1
      have z0 := frozen_of_heap' hr 0
      have z1 := frozen_of_heap' hr 1
      simp at x0 x1
      have hii : ¬ ((i : Int) < (i : Int)) := by omega
      have HP : Hid (((wr.setCell ⟨p + 1, 0, none⟩ (.int .i64 f)).setCell ⟨p + 1, 1, none⟩ (.slice (some ⟨g, 0, none⟩) (i + 1) cp)).heap[p + 1]? = some (.cells #[.int .i64 f, .slice (some ⟨g, 0, none⟩) (i + 1) cp] 64 (0, 0))) := by
        show _ = _
        have h1 := Joins.block_setCell hr (i := 0) (.int .i64 f)
        have h2 := Joins.block_setCell h1 (i := 1) (.slice (some ⟨g, 0, none⟩) (i + 1) cp)
        simpa using h2
      rw [HFF.out] at v0
      clear hr
      go_wp2_with fail
      refine bodyPost_ret (results52 HP.out _ _ _) rfl ?_
      have hln := HL.out
      refine ⟨some ⟨g, 0, none⟩, cp, by rw [hln, HFF.out], ?_, ?_⟩
      · rw [hln]
        exact RowKit.ownsRow_setCell_below (RowKit.ownsRow_setCell_below (own_base HI.out.row (by omega : w.heap.size ≤ p + 1 + 1) |> fun _ => HI.out.row) (a := ⟨p + 1, 0, none⟩) (by show p + 1 < p + 1 + 1; omega) _) (a := ⟨p + 1, 1, none⟩) (by show p + 1 < p + 1 + 1; omega) _ |> fun h => own_base h (by omega)
      · exact (HI.out.below.setCell (p := ⟨p + 1, 0, none⟩) (by show w.heap.size ≤ p + 1; omega) _).setCell (p := ⟨p + 1, 1, none⟩) (by show w.heap.size ≤ p + 1; omega) _

end Go.Proofs.Ytdepnhnpklbmiaa
