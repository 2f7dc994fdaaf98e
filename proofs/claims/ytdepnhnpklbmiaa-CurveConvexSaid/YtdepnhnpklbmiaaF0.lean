/- The frame of a law about curves: its arguments opened, and the promise shut from what the walk leaves. -/
import Derived.Test.YtdepnhnpklbmiaaRows
import Derived.Test.YtdepnhnpklbmiaaB15
import Derived.ProofKit
import Derived.Lib.SmallJoins
import Derived.DataShut
namespace Go.Proofs.Ytdepnhnpklbmiaa
open Go.ChangeShapes Go.WideShapes Go.ChangeAt Go.RowKit Go.Joins Go.Deep

theorem ownT : ownKnob Try.prog.godebug = none := by kernel_rfl
theorem laidT : laidOutB Try.prog = true := by kernel_rfl
theorem lit_range {a : Int} (h : (Lit.int .i64 a).wf = true) : -9223372036854775808 ≤ a ∧ a ≤ 9223372036854775807 := by
  obtain ⟨h3, h4⟩ := (Lit.wf_int_iff .i64 a).1 h
  have e1 : IntKind.i64.min = -9223372036854775808 := by decide
  have e2 : IntKind.i64.max = 9223372036854775807 := by decide
  rw [e1] at h3
  rw [e2] at h4
  exact ⟨h3, h4⟩

section
variable {H : Type} {enc : TypeId × Value → H} {W : World}

/-- a slice of ints that came in, wherever it lies -/
structure Came (W : World) (A : Option Addr) (n cap : Nat) (xs : List Int) : Prop where
  at_ : IntsAt W.heap.size W A n xs
  le : n ≤ cap
  big : cap ≤ 9223372036854775807
  old : 0 < n → ∀ ad, A = some ad → ad.block < W.heap.size
  nil : A = none → n = 0 ∧ cap = 0
  fits : ∀ i, i < n → -9223372036854775808 ≤ iA xs i ∧ iA xs i ≤ 9223372036854775807

set_option maxRecDepth 100000 in
theorem open_row22 {fuel : Nat} {v : Value} {x : DataW H × List MemPlace} (hf : DataW.trod enc Try.prog W 0 (fun _ => true) true fuel 22 [v] = some x) :
    ∃ (A : Option Addr) (n cap : Nat) (xs : List Int), v = .slice A n cap ∧ Came W A n cap xs := by
  rcases open_slice Try.underlying22 hf with ⟨h0, _⟩ | ⟨a', n, cap, m, k, D, Pl, h0, _, hl, hbig, hm, _, hx⟩
  · simp at h0
    subst h0
    exact ⟨none, 0, 0, [], rfl, ⟨⟨rfl, .inl rfl⟩, Nat.le_refl _, by omega, fun h => by omega, fun _ => ⟨rfl, rfl⟩, fun i hi => by omega⟩⟩
  · simp at h0
    subst h0
    simp only [if_true] at hm
    subst hm
    have c3 : Try.prog.cellsOf 3 = 1 := by kernel_rfl
    have each : ∀ i, i < n → ∃ q : Int, W.cell? (a'.add i) = some (.int .i64 q) ∧ (Lit.int .i64 q).wf = true := by
      intro i hi
      obtain ⟨cs', h1, h2⟩ := hx i (by omega)
      rw [c3, Nat.mul_one] at h1
      obtain ⟨_, hlen, hcell⟩ := World.cells?_some h1
      obtain ⟨q, hq, _, hwf⟩ := DataW.trod_int Try.underlying3 h2
      subst hq
      have := hcell 0 (by omega)
      exact ⟨q, by simpa [Addr.add] using this, hwf⟩
    obtain ⟨q, hq⟩ := choose_lt each
    have hml : maxLen = 9223372036854775807 := by decide
    refine ⟨some a', n, _, (List.range n).map q, rfl, ?_⟩
    rcases Nat.eq_zero_or_pos n with h0 | hpos
    · subst h0
      exact ⟨⟨by simp, .inl rfl⟩, hl, by omega, fun h => by omega, fun h => (by cases h), fun i hi => by omega⟩
    · obtain ⟨b, off, spot⟩ := a'
      have h00 := (hq 0 hpos).1
      have hs : spot = none := by
        cases spot with
        | none => rfl
        | some s =>
          exfalso
          simp only [Addr.add, if_true, World.cell?] at h00
          split at h00 <;> simp at h00
      subst hs
      have hlt : b < W.heap.size := by
        have := World.block_lt_of_cell? _ _ h00
        simpa [add_plain] using this
      refine ⟨⟨by simp, .inr ⟨b, off, rfl, hlt, fun i hi => ?_⟩⟩, hl, by omega, fun _ ad e => ?_, fun h => (by cases h), fun i hi => ?_⟩
      · have h1 := (hq i hi).1
        rw [add_plain] at h1
        simpa [iA, hi] using h1
      · injection e with e
        subst e
        exact hlt
      · have := lit_range (hq i hi).2
        simpa [iA, hi] using this

instance : Inhabited Cu := ⟨Cu.zero⟩

/-- a curve that came in -/
structure CuCame (W : World) (c : Cu) (A : Option Addr) (n cap : Nat) : Prop where
  at_ : CuAt W.heap.size W c A n cap
  big : n ≤ 9223372036854775807
  fr : -9223372036854775808 ≤ c.fr ∧ c.fr ≤ 9223372036854775807
  fst : -9223372036854775808 ≤ c.fst ∧ c.fst ≤ 9223372036854775807

set_option maxRecDepth 100000 in
theorem open_cu {base : Nat} {v : Value} {d : DataW H} {p : List MemPlace} (hv : Value.okWide Try.prog W .any base 24 v) (h : DataW.Trod enc Try.prog W 0 (fun _ => true) true 24 v d p) :
    ∃ (c : Cu) (A : Option Addr) (n cap : Nat), v = .agg #[.int .i64 c.fr, .int .i64 c.fst, .slice A n cap] ∧ CuCame W c A n cap := by
  obtain ⟨v0, v1, v2, y0, y1, y2, k, rfl, rfl, rfl, h0, h1, h2⟩ := open_agg3 Try.underlying24 (by kernel_rfl) (by kernel_rfl) hv h
  obtain ⟨a, ha, _, wa⟩ := DataW.trod_int Try.underlying3 h0
  obtain ⟨b, hb, _, wb⟩ := DataW.trod_int Try.underlying3 h1
  obtain ⟨A, n, cap, xs, rfl, hx⟩ := open_row22 h2
  injection ha with ha _
  injection hb with hb _
  exact ⟨⟨a, b, xs⟩, A, n, cap, by rw [ha, hb], ⟨⟨hx.at_, hx.old, hx.nil⟩, Nat.le_trans hx.le hx.big, lit_range wa, lit_range wb⟩⟩

set_option maxRecDepth 100000 in
theorem open_nums {base : Nat} {v : Value} {d : DataW H} {p : List MemPlace} (hv : Value.okWide Try.prog W .any base 22 v) (h : DataW.Trod enc Try.prog W 0 (fun _ => true) true 22 v d p) :
    ∃ (A : Option Addr) (n cap : Nat) (xs : List Int), v = .slice A n cap ∧ Came W A n cap xs := by
  obtain ⟨a, n, cap, rfl⟩ := okWide_slice Try.underlying22 hv
  obtain ⟨fuel, hf⟩ := h
  exact open_row22 (by simpa [Value.cells] using hf)

set_option maxRecDepth 100000 in
theorem open_curves {base : Nat} {v : Value} {d : DataW H} {p : List MemPlace} (hv : Value.okWide Try.prog W .any base 45 v) (h : DataW.Trod enc Try.prog W 0 (fun _ => true) true 45 v d p) :
    ∃ (A : Option Addr) (n cap : Nat) (cs : Nat → Cu) (ss : Nat → Option Addr × Nat × Nat), v = .slice A n cap ∧ CurvesAt W.heap.size W A n cs ss ∧ n ≤ cap ∧ n ≤ 9223372036854775807 ∧ ∀ i, i < n → (ss i).2.1 ≤ 9223372036854775807 := by
  obtain ⟨a, n, cap, rfl⟩ := okWide_slice Try.underlying45 hv
  obtain ⟨fuel, hf⟩ := h
  rcases open_slice Try.underlying45 hf with ⟨h0, _⟩ | ⟨a', len, cp, m, k, D, Pl, h0, _, hl, hbig, hm, _, hx⟩
  · simp [Value.cells] at h0
    obtain ⟨rfl, rfl, rfl⟩ := h0
    exact ⟨none, 0, 0, fun _ => Cu.zero, fun _ => (none, 0, 0), rfl, ⟨.inl rfl, fun i hi => by omega⟩, Nat.le_refl _, by omega, fun i hi => by omega⟩
  · simp [Value.cells] at h0
    obtain ⟨rfl, rfl, rfl⟩ := h0
    simp only [if_true] at hm
    subst hm
    have c3 : Try.prog.cellsOf 24 = 3 := by kernel_rfl
    have hml : maxLen = 9223372036854775807 := by decide
    have each : ∀ i, i < n → ∃ q : Cu × (Option Addr × Nat × Nat), W.cell? (a'.add (i * 3)) = some (.int .i64 q.1.fr) ∧ W.cell? (a'.add (i * 3 + 1)) = some (.int .i64 q.1.fst) ∧ W.cell? (a'.add (i * 3 + 2)) = some (.slice q.2.1 q.2.2.1 q.2.2.2) ∧ Came W q.2.1 q.2.2.1 q.2.2.2 q.1.sl := by
      intro i hi
      obtain ⟨cs', h1, h2⟩ := hx i (by omega)
      rw [c3] at h1
      obtain ⟨_, hlen, hcell⟩ := World.cells?_some h1
      obtain ⟨y0, y1, y2, n', _, _, t0, t1, t2⟩ := trod_struct3 Try.underlying24 h2
      match cs', hlen with
      | [v0, v1, v2], _ =>
        have t0 : DataW.trod enc Try.prog W 0 (fun _ => true) true n' 3 [v0] = some y0 := t0
        have t1 : DataW.trod enc Try.prog W 0 (fun _ => true) true n' 3 [v1] = some y1 := t1
        have t2 : DataW.trod enc Try.prog W 0 (fun _ => true) true n' 22 [v2] = some y2 := t2
        obtain ⟨x0, e0, _⟩ := DataW.trod_int Try.underlying3 t0
        obtain ⟨x1, e1, _⟩ := DataW.trod_int Try.underlying3 t1
        obtain ⟨A, n2, cap2, xs, rfl, hc⟩ := open_row22 t2
        injection e0 with e0 _
        injection e1 with e1 _
        subst e0 e1
        have g0 := hcell 0 (by omega)
        have g1 := hcell 1 (by omega)
        have g2 := hcell 2 (by omega)
        rw [add_add] at g0 g1 g2
        exact ⟨(⟨x0, x1, xs⟩, A, n2, cap2), by simpa using g0, by simpa using g1, by simpa using g2, hc⟩
    obtain ⟨q, hq⟩ := choose_lt each
    refine ⟨some a', n, _, fun i => (q i).1, fun i => (q i).2, rfl, ⟨?_, fun i hi => ⟨(hq i hi).2.2.2.at_, (hq i hi).2.2.2.old, (hq i hi).2.2.2.nil⟩⟩, hl, by omega, fun i hi => Nat.le_trans (hq i hi).2.2.2.le (hq i hi).2.2.2.big⟩
    rcases Nat.eq_zero_or_pos n with h0 | hpos
    · exact .inl h0
    · obtain ⟨b, off, spot⟩ := a'
      have h00 := (hq 0 hpos).1
      have hs : spot = none := by
        cases spot with
        | none => rfl
        | some s =>
          exfalso
          simp only [Addr.add, Nat.zero_mul, if_true, World.cell?] at h00
          split at h00 <;> simp at h00
      subst hs
      refine .inr ⟨b, off, rfl, ?_, fun i hi => ?_⟩
      · have := World.block_lt_of_cell? _ _ h00
        simpa [add_plain] using this
      · obtain ⟨g0, g1, g2, _⟩ := hq i hi
        rw [add_plain] at g0 g1 g2
        exact ⟨g0, by simpa [Nat.add_assoc] using g1, by simpa [Nat.add_assoc] using g2⟩

/-- arguments that read before read again where nothing old has turned -/
theorem all_stay {W' : World} (hb : Below W.heap.size W W') : ∀ (ts : List TypeId) (vs : List Value) (ds : List (DataW H)) (ps : List MemPlace), (∀ t ∈ ts, Try.prog.readableRec t = true ∧ t < Try.prog.types.size) →
    DataW.TrodAll enc Try.prog W 0 (fun _ => true) true ts vs ds ps → (∀ x ∈ ps, x.block < W.heap.size) → DataW.TrodAll enc Try.prog W' 0 (fun b => decide (b < W.heap.size)) true ts vs ds ps
  | [], [], [], _, _, h, _ => h
  | t :: ts, v :: vs, d :: ds, _, ht, ⟨p, q, h1, h2, e⟩, hl => by
    subst e
    exact ⟨p, q, Below.trod laidT (ht t (by simp)).1 (ht t (by simp)).2 h1 hb (fun x hx => hl x (by simp [hx])), all_stay hb ts vs ds q (fun t h => ht t (by simp [h])) h2 (fun x hx => hl x (by simp [hx])), rfl⟩

/-- THE PROMISE SHUT: it returned true, and nothing old has turned. -/
theorem law_shut {f : Func} {s : ChangeSpec} {apart fresh handsOn : Bool} {W' : World} {args : Array Value} {ds : List (DataW H)} {before : List MemPlace}
    (hV : s.vars = []) (hR : f.resultTypes = #[4]) (hT : ∀ t ∈ f.params.toList, Try.prog.readableRec t = true ∧ t < Try.prog.types.size)
    (hF : s.fn H (ds ++ []) = { results := [.lit (.bool true)], args := ds })
    (hW : DataW.Whole enc Try.prog f.params.toList s.vars apart W args.toList ds [] before) (hb : Below W.heap.size W W') :
    s.post enc Try.prog f apart fresh handsOn false W args (.bool true) W' := by
  have hlt : ∀ x ∈ before, x.block < W.heap.size := fun x hx => hW.lt x hx
  have hW2 := hW
  obtain ⟨p, q, hA, hv, rfl, _, _⟩ := hW2
  rw [hV] at hv
  obtain ⟨_, rfl⟩ := trodVars_none hv
  rw [List.append_nil] at hW hlt
  have hA' := all_stay hb _ _ _ _ hT hA hlt
  refine ⟨ds, [], p, [], p, [], hW, ?_, ?_, ?_, World.keptBut_mono (fun x hx => ⟨hx, .inr (.inl hx)⟩) (hb.frame (· ∈ p)), fun h => by cases h⟩
  · rw [hF, hR]
    exact trodAll_mk1 (shut_bool Try.underlying4 _)
  · rw [hF]
    exact hA'
  · rw [hF, hV]
    exact rfl
end
/-- what the walk of a law leaves -/
def LawPost (w : World) (e : Ending) (w' : World) : Prop := e = .returned (.bool true) ∧ Below w.heap.size w w'
end Go.Proofs.Ytdepnhnpklbmiaa
