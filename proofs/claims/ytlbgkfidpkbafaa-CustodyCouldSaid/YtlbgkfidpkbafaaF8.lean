/- A call that came in. -/
import Derived.Test.YtlbgkfidpkbafaaF2
namespace Go.Proofs.Ytlbgkfidpkbafaa
open Go.ChangeShapes Go.WideShapes Go.ChangeAt Go.RowKit Go.Joins Go.Deep

theorem array11 {α : Type} {cs : Array α} (h : cs.size = 11) : ∃ c0 c1 c2 c3 c4 c5 c6 c7 c8 c9 c10, cs = #[c0, c1, c2, c3, c4, c5, c6, c7, c8, c9, c10] := by
  obtain ⟨l⟩ := cs
  match l, h with
  | [c0, c1, c2, c3, c4, c5, c6, c7, c8, c9, c10], _ => exact ⟨c0, c1, c2, c3, c4, c5, c6, c7, c8, c9, c10, rfl⟩
section
variable {H : Type} {enc : TypeId × Value → H} {W : World}
set_option maxRecDepth 100000 in
theorem open_call {base : Nat} {v : Value} {d : DataW H} {p : List MemPlace} (hv : Value.okWide Try.prog W .any base 35 v) (h : DataW.Trod enc Try.prog W 0 (fun _ => true) true 35 v d p) :
    ∃ (k x1 x2 x3 x4 x5 x6 x7 x8 x9 x10 : Int), v = .agg #[.int .u8 k, .int .i64 x1, .int .i64 x2, .int .i64 x3, .int .i64 x4, .int .i64 x5, .int .i64 x6, .int .i64 x7, .int .i64 x8, .int .i64 x9, .int .i64 x10] := by
  have hC : Try.prog.cellsOf 35 = 11 := by kernel_rfl
  have c5 : Try.prog.cellsOf 5 = 1 := by kernel_rfl
  have c3 : Try.prog.cellsOf 3 = 1 := by kernel_rfl
  obtain ⟨cs, rfl, hsz⟩ := okWide_struct Try.underlying35 hv
  obtain ⟨v0, v1, v2, v3, v4, v5, v6, v7, v8, v9, v10, rfl⟩ := array11 (hsz.trans hC)
  obtain ⟨fuel, hf⟩ := h
  obtain ⟨xs, n, _, _, hl, hlen, hf⟩ := DataW.trod_struct Try.underlying35 hf
  match xs, hlen with
  | [y0, y1, y2, y3, y4, y5, y6, y7, y8, y9, y10], _ =>
    have h0 : DataW.trod enc Try.prog W 0 (fun _ => true) true n 5 [v0] = some y0 := by simpa [c5, Value.cells] using hf 0 _ rfl
    have h1 : DataW.trod enc Try.prog W 0 (fun _ => true) true n 3 [v1] = some y1 := by simpa [c3, Value.cells] using hf 1 _ rfl
    have h2 : DataW.trod enc Try.prog W 0 (fun _ => true) true n 3 [v2] = some y2 := by simpa [c3, Value.cells] using hf 2 _ rfl
    have h3 : DataW.trod enc Try.prog W 0 (fun _ => true) true n 3 [v3] = some y3 := by simpa [c3, Value.cells] using hf 3 _ rfl
    have h4 : DataW.trod enc Try.prog W 0 (fun _ => true) true n 3 [v4] = some y4 := by simpa [c3, Value.cells] using hf 4 _ rfl
    have h5 : DataW.trod enc Try.prog W 0 (fun _ => true) true n 3 [v5] = some y5 := by simpa [c3, Value.cells] using hf 5 _ rfl
    have h6 : DataW.trod enc Try.prog W 0 (fun _ => true) true n 3 [v6] = some y6 := by simpa [c3, Value.cells] using hf 6 _ rfl
    have h7 : DataW.trod enc Try.prog W 0 (fun _ => true) true n 3 [v7] = some y7 := by simpa [c3, Value.cells] using hf 7 _ rfl
    have h8 : DataW.trod enc Try.prog W 0 (fun _ => true) true n 3 [v8] = some y8 := by simpa [c3, Value.cells] using hf 8 _ rfl
    have h9 : DataW.trod enc Try.prog W 0 (fun _ => true) true n 3 [v9] = some y9 := by simpa [c3, Value.cells] using hf 9 _ rfl
    have h10 : DataW.trod enc Try.prog W 0 (fun _ => true) true n 3 [v10] = some y10 := by simpa [c3, Value.cells] using hf 10 _ rfl
    obtain ⟨k, e0, _⟩ := DataW.trod_int Try.underlying5 h0
    obtain ⟨x1, e1, _⟩ := DataW.trod_int Try.underlying3 h1
    obtain ⟨x2, e2, _⟩ := DataW.trod_int Try.underlying3 h2
    obtain ⟨x3, e3, _⟩ := DataW.trod_int Try.underlying3 h3
    obtain ⟨x4, e4, _⟩ := DataW.trod_int Try.underlying3 h4
    obtain ⟨x5, e5, _⟩ := DataW.trod_int Try.underlying3 h5
    obtain ⟨x6, e6, _⟩ := DataW.trod_int Try.underlying3 h6
    obtain ⟨x7, e7, _⟩ := DataW.trod_int Try.underlying3 h7
    obtain ⟨x8, e8, _⟩ := DataW.trod_int Try.underlying3 h8
    obtain ⟨x9, e9, _⟩ := DataW.trod_int Try.underlying3 h9
    obtain ⟨x10, e10, _⟩ := DataW.trod_int Try.underlying3 h10
    injection e0 with e0 _
    injection e1 with e1 _
    injection e2 with e2 _
    injection e3 with e3 _
    injection e4 with e4 _
    injection e5 with e5 _
    injection e6 with e6 _
    injection e7 with e7 _
    injection e8 with e8 _
    injection e9 with e9 _
    injection e10 with e10 _
    subst e0 e1 e2 e3 e4 e5 e6 e7 e8 e9 e10
    exact ⟨k, x1, x2, x3, x4, x5, x6, x7, x8, x9, x10, rfl⟩
end
end Go.Proofs.Ytlbgkfidpkbafaa
