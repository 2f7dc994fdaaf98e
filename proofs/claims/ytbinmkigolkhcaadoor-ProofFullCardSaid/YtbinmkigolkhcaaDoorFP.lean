/- A 16-bit argument. -/
import Derived.Test.YtbinmkigolkhcaaDoorFO
namespace Go.Proofs.YtbinmkigolkhcaaDoor
open Go.ChangeShapes Go.WideShapes Go.ChangeAt Go.RowKit Go.Joins Go.Deep
theorem lit_u16 {a : Int} (h : (Lit.int .u16 a).wf = true) : 0 ≤ a ∧ a < 65536 := by
  obtain ⟨h3, h4⟩ := (Lit.wf_int_iff .u16 a).1 h
  have e1 : IntKind.u16.min = 0 := by decide
  have e2 : IntKind.u16.max = 65535 := by decide
  rw [e1] at h3
  rw [e2] at h4
  exact ⟨h3, by omega⟩
end Go.Proofs.YtbinmkigolkhcaaDoor
