/- A way that came in. -/
import Derived.Test.YtbinmkigolkhcaaDoorFO
namespace Go.Proofs.YtbinmkigolkhcaaDoor
open Go.ChangeShapes Go.WideShapes Go.ChangeAt Go.RowKit Go.Joins Go.Deep

theorem array2 {α : Type} {cs : Array α} (h : cs.size = 2) : ∃ c0 c1, cs = #[c0, c1] := by
  obtain ⟨l⟩ := cs
  match l, h with
  | [c0, c1], _ => exact ⟨c0, c1, rfl⟩
section
variable {H : Type} {enc : TypeId × Value → H} {W : World}
set_option maxRecDepth 100000 in
theorem open_way {base : Nat} {v : Value} {d : DataW H} {p : List MemPlace} (hv : Value.okWide Tryd.prog W .any base 50 v) (h : DataW.Trod enc Tryd.prog W 0 (fun _ => true) true 50 v d p) :
    ∃ (A : Option Addr) (n cap : Nat) (l : List UInt8) (B : Option Addr) (m e : Nat) (ss : List St), v = .agg #[.slice A n cap, .slice B m e] ∧ BytesAt W.heap.size W A n l ∧ n ≤ cap ∧ cap ≤ 9223372036854775807 ∧ StepsAt W.heap.size W B m ss ∧ m ≤ e ∧ e ≤ 9223372036854775807 := by
  have hC : Tryd.prog.cellsOf 50 = 2 := by kernel_rfl
  have c23 : Tryd.prog.cellsOf 23 = 1 := by kernel_rfl
  have c33 : Tryd.prog.cellsOf 33 = 1 := by kernel_rfl
  obtain ⟨cs, rfl, hsz⟩ := okWide_struct Tryd.underlying50 hv
  obtain ⟨v0, v1, rfl⟩ := array2 (hsz.trans hC)
  obtain ⟨fuel, hf⟩ := h
  obtain ⟨xs, n, _, _, hl, hlen, hf⟩ := DataW.trod_struct Tryd.underlying50 hf
  match xs, hlen with
  | [y0, y1], _ =>
    have h0 : DataW.trod enc Tryd.prog W 0 (fun _ => true) true n 23 [v0] = some y0 := by simpa [c23, Value.cells] using hf 0 _ rfl
    have h1 : DataW.trod enc Tryd.prog W 0 (fun _ => true) true n 33 [v1] = some y1 := by simpa [c33, Value.cells] using hf 1 _ rfl
    obtain ⟨A, m, cap, l, rfl, hx, hn, hc⟩ := open_row23 h0
    obtain ⟨B, k, e, ss, rfl, hs, hm, he⟩ := open_row33 h1
    exact ⟨A, m, cap, l, B, k, e, ss, rfl, hx, hn, hc, hs, hm, he⟩
end
end Go.Proofs.YtbinmkigolkhcaaDoor
