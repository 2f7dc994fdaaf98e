/- A curve that came in, with its capacity. -/
import Derived.Test.YtdepnhnpklbmiaaF0
namespace Go.Proofs.Ytdepnhnpklbmiaa
open Go.ChangeShapes Go.WideShapes Go.ChangeAt Go.RowKit Go.Joins Go.Deep
section
variable {H : Type} {enc : TypeId × Value → H} {W : World}
set_option maxRecDepth 100000 in
theorem open_cuc {base : Nat} {v : Value} {d : DataW H} {p : List MemPlace} (hv : Value.okWide Try.prog W .any base 24 v) (h : DataW.Trod enc Try.prog W 0 (fun _ => true) true 24 v d p) :
    ∃ (c : Cu) (A : Option Addr) (n cap : Nat), v = .agg #[.int .i64 c.fr, .int .i64 c.fst, .slice A n cap] ∧ CuCame W c A n cap ∧ n ≤ cap := by
  obtain ⟨v0, v1, v2, y0, y1, y2, k, rfl, rfl, rfl, h0, h1, h2⟩ := open_agg3 Try.underlying24 (by kernel_rfl) (by kernel_rfl) hv h
  obtain ⟨a, ha, _, wa⟩ := DataW.trod_int Try.underlying3 h0
  obtain ⟨b, hb, _, wb⟩ := DataW.trod_int Try.underlying3 h1
  obtain ⟨A, n, cap, xs, rfl, hx⟩ := open_row22 h2
  injection ha with ha _
  injection hb with hb _
  exact ⟨⟨a, b, xs⟩, A, n, cap, by rw [ha, hb], ⟨⟨hx.at_, hx.old, hx.nil⟩, Nat.le_trans hx.le hx.big, lit_range wa, lit_range wb⟩, hx.le⟩
end
end Go.Proofs.Ytdepnhnpklbmiaa
