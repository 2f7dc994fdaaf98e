/- Openers of the arguments of the laws: numbers within the machine's, rows of numbers. -/
import Derived.Test.YtfahlgjolihmkaaDoorW0
import Derived.DataShut
namespace Go.Proofs.YtfahlgjolihmkaaDoor
open Go.ChangeShapes Go.WideShapes Go.ChangeAt Go.RowKit Go.Joins Go.Deep

theorem lit_range {a : Int} (h : (Lit.int .i64 a).wf = true) : -9223372036854775808 ≤ a ∧ a ≤ 9223372036854775807 := by
  obtain ⟨h3, h4⟩ := (Lit.wf_int_iff .i64 a).1 h
  have e1 : IntKind.i64.min = -9223372036854775808 := by decide
  have e2 : IntKind.i64.max = 9223372036854775807 := by decide
  rw [e1] at h3
  rw [e2] at h4
  exact ⟨h3, h4⟩

set_option maxRecDepth 100000 in
theorem open_nums {H : Type} {enc : TypeId × Value → H} {W : World} {base : Nat} {v : Value} {d : DataW H} {p : List MemPlace} (hv : Value.okWide Tryd.prog W .any base 42 v) (h : DataW.Trod enc Tryd.prog W 0 (fun _ => true) true 42 v d p) :
    ∃ (A : Option Addr) (n cap : Nat) (xs : List Int), v = .slice A n cap ∧ IntsAt W.heap.size W A n xs := by
  obtain ⟨a, n, cap, rfl⟩ := okWide_slice Tryd.underlying42 hv
  obtain ⟨fuel, hf⟩ := h
  rcases open_slice Tryd.underlying42 hf with ⟨h0, _⟩ | ⟨a', len, cp, m, k, D, Pl, h0, _, hl, _, hm, _, hx⟩
  · simp [Value.cells] at h0
    obtain ⟨rfl, rfl, rfl⟩ := h0
    exact ⟨none, 0, 0, [], rfl, rfl, .inl rfl⟩
  · simp [Value.cells] at h0
    obtain ⟨rfl, rfl, rfl⟩ := h0
    simp only [if_true] at hm
    subst hm
    have c3 : Tryd.prog.cellsOf 3 = 1 := by kernel_rfl
    have each : ∀ i, i < n → ∃ q : Int, W.cell? (a'.add i) = some (.int .i64 q) := by
      intro i hi
      obtain ⟨cs', h1, h2⟩ := hx i (by omega)
      rw [c3, Nat.mul_one] at h1
      obtain ⟨_, hlen, hcell⟩ := World.cells?_some h1
      obtain ⟨q, hq, _⟩ := DataW.trod_int Tryd.underlying3 h2
      subst hq
      have := hcell 0 (by omega)
      exact ⟨q, by simpa [Addr.add] using this⟩
    obtain ⟨q, hq⟩ := choose_lt each
    refine ⟨some a', n, _, (List.range n).map q, rfl, by simp, ?_⟩
    rcases Nat.eq_zero_or_pos n with h0 | hpos
    · exact .inl h0
    · obtain ⟨b, off, spot⟩ := a'
      have h00 := hq 0 hpos
      have hs : spot = none := by
        cases spot with
        | none => rfl
        | some s =>
          exfalso
          simp only [Addr.add, if_true, World.cell?] at h00
          split at h00 <;> simp at h00
      subst hs
      refine .inr ⟨b, off, rfl, ?_, fun i hi => ?_⟩
      · have := World.block_lt_of_cell? _ _ h00
        simpa [add_plain] using this
      · have h1 := hq i hi
        rw [add_plain] at h1
        simpa [iA, hi] using h1

end Go.Proofs.YtfahlgjolihmkaaDoor

/- Opener of a list of spans with a bound on its length. -/
namespace Go.Proofs.YtfahlgjolihmkaaDoor
open Go.ChangeShapes Go.WideShapes Go.ChangeAt Go.RowKit Go.Joins Go.Deep

set_option maxRecDepth 100000 in
theorem open_spans_big {H : Type} {enc : TypeId × Value → H} {W : World} {base : Nat} {v : Value} {d : DataW H} {p : List MemPlace} (hv : Value.okWide Tryd.prog W .any base 22 v) (h : DataW.Trod enc Tryd.prog W 0 (fun _ => true) true 22 v d p) :
    ∃ (A : Option Addr) (n cap : Nat) (xs : List Sp), v = .slice A n cap ∧ SpansAt W.heap.size W A n xs ∧ n ≤ maxLen := by
  obtain ⟨A, n, cap, xs, rfl, hx⟩ := open_spans hv h
  refine ⟨A, n, cap, xs, rfl, hx, ?_⟩
  obtain ⟨fuel, hf⟩ := h
  rcases open_slice_pairs Tryd.underlying22 Tryd.underlying41 (by kernel_rfl) rfl rfl (by kernel_rfl) (by kernel_rfl) hf with ⟨h0, _⟩ | ⟨a', len, cp, m, k, V0, V1, D0, D1, P0, P1, h0, _, hl, hm, _⟩
  · simp [Value.cells] at h0
    obtain ⟨rfl, rfl, rfl⟩ := h0
    exact Nat.zero_le _
  · simp [Value.cells] at h0
    obtain ⟨rfl, rfl, rfl⟩ := h0
    omega

end Go.Proofs.YtfahlgjolihmkaaDoor
