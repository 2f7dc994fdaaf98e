/- An act that came in. -/
import Derived.Test.YtpobfdhmggkbaaaF2
namespace Go.Proofs.Ytpobfdhmggkbaaa
open Go.ChangeShapes Go.WideShapes Go.ChangeAt Go.RowKit Go.Joins Go.Deep

theorem array5 {α : Type} {cs : Array α} (h : cs.size = 5) : ∃ c0 c1 c2 c3 c4, cs = #[c0, c1, c2, c3, c4] := by
  obtain ⟨l⟩ := cs
  match l, h with
  | [c0, c1, c2, c3, c4], _ => exact ⟨c0, c1, c2, c3, c4, rfl⟩
section
variable {H : Type} {enc : TypeId × Value → H} {W : World}
set_option maxRecDepth 100000 in
theorem open_row72 {fuel : Nat} {v : Value} {x : DataW H × List MemPlace} (hf : DataW.trod enc Try.prog W 0 (fun _ => true) true fuel 22 [v] = some x) :
    ∃ (A : Option Addr) (n cap : Nat) (fl : List Int), v = .slice A n cap ∧ RIn.ok W ⟨72, 3, A, n, cap, fl⟩ := by
  obtain ⟨⟨ty, sz, A, m, q, fl⟩, h1, h2, h3, h4⟩ := open_row3 Try.underlying22 Try.underlying72 rfl rfl rfl Try.underlying3 (by kernel_rfl) (by kernel_rfl) ⟨rfl, rfl, rfl⟩ hf
  dsimp only at h1 h3 h4
  subst h3 h4
  exact ⟨A, m, q, fl, h1, h2⟩
set_option maxRecDepth 100000 in
theorem open_act {base : Nat} {v : Value} {d : DataW H} {p : List MemPlace} (hv : Value.okWide Try.prog W .any base 63 v) (h : DataW.Trod enc Try.prog W 0 (fun _ => true) true 63 v d p) :
    ∃ (k b s : Int) (raw : Bool) (A : Option Addr) (n cap : Nat) (fl : List Int), v = .agg #[.int .u8 k, .int .i64 b, .slice A n cap, .int .u64 s, .bool raw] ∧ RIn.ok W ⟨72, 3, A, n, cap, fl⟩ := by
  have hC : Try.prog.cellsOf 63 = 5 := by kernel_rfl
  have c5 : Try.prog.cellsOf 5 = 1 := by kernel_rfl
  have c3 : Try.prog.cellsOf 3 = 1 := by kernel_rfl
  have c22 : Try.prog.cellsOf 22 = 1 := by kernel_rfl
  have c45 : Try.prog.cellsOf 45 = 1 := by kernel_rfl
  have c4 : Try.prog.cellsOf 4 = 1 := by kernel_rfl
  obtain ⟨cs, rfl, hsz⟩ := okWide_struct Try.underlying63 hv
  obtain ⟨v0, v1, v2, v3, v4, rfl⟩ := array5 (hsz.trans hC)
  obtain ⟨fuel, hf⟩ := h
  obtain ⟨xs, n, _, _, hl, hlen, hf⟩ := DataW.trod_struct Try.underlying63 hf
  match xs, hlen with
  | [y0, y1, y2, y3, y4], _ =>
    have h0 : DataW.trod enc Try.prog W 0 (fun _ => true) true n 5 [v0] = some y0 := by simpa [c5, Value.cells] using hf 0 _ rfl
    have h1 : DataW.trod enc Try.prog W 0 (fun _ => true) true n 3 [v1] = some y1 := by simpa [c3, Value.cells] using hf 1 _ rfl
    have h2 : DataW.trod enc Try.prog W 0 (fun _ => true) true n 22 [v2] = some y2 := by simpa [c22, Value.cells] using hf 2 _ rfl
    have h3 : DataW.trod enc Try.prog W 0 (fun _ => true) true n 45 [v3] = some y3 := by simpa [c45, Value.cells] using hf 3 _ rfl
    have h4 : DataW.trod enc Try.prog W 0 (fun _ => true) true n 4 [v4] = some y4 := by simpa [c4, Value.cells] using hf 4 _ rfl
    obtain ⟨k, e0, _⟩ := DataW.trod_int Try.underlying5 h0
    obtain ⟨b, e1, _⟩ := DataW.trod_int Try.underlying3 h1
    obtain ⟨A, m, cap, fl, e2, hr⟩ := open_row72 h2
    obtain ⟨s, e3, _⟩ := DataW.trod_int Try.underlying45 h3
    obtain ⟨raw, e4, _⟩ := DataW.trod_bool Try.underlying4 h4
    injection e0 with e0 _
    injection e1 with e1 _
    injection e3 with e3 _
    injection e4 with e4 _
    subst e0 e1 e2 e3 e4
    exact ⟨k, b, s, raw, A, m, cap, fl, rfl, hr⟩
end
end Go.Proofs.Ytpobfdhmggkbaaa
