/- The deferred closures of this program. -/
import Derived.Test.YtlbgkfidpkbafaaC2
import Derived.Test.YtlbgkfidpkbafaaR2
import Derived.Test.YtlbgkfidpkbafaaE16
namespace Go.Proofs.Ytlbgkfidpkbafaa
open Go.RowKit
theorem mixedO : Try.prog.follows .mixedOrders = true := by kernel_rfl
def isDf (g : Nat) : Bool := [50, 61, 64, 69, 75, 76, 77, 79, 83].contains g
def df : DF := ⟨39, 110, isDf⟩
theorem df_ok : DfOk Try.prog df := by
  intro g hg
  have h : g = 50 ∨ g = 61 ∨ g = 64 ∨ g = 69 ∨ g = 75 ∨ g = 76 ∨ g = 77 ∨ g = 79 ∨ g = 83 := by
    have hg : isDf g = true := hg
    simpa [isDf] using hg
  rcases h with rfl | rfl | rfl | rfl | rfl | rfl | rfl | rfl | rfl
  · exact ⟨enters_of Try.func50 rfl (by decide), fun hu hst => closer Try.func50 rfl rfl rfl hu hst⟩
  · exact ⟨enters_of Try.func61 rfl (by decide), fun hu hst => closer Try.func61 rfl rfl rfl hu hst⟩
  · exact ⟨enters_of Try.func64 rfl (by decide), fun hu hst => closer Try.func64 rfl rfl rfl hu hst⟩
  · exact ⟨enters_of Try.func69 rfl (by decide), fun hu hst => closer Try.func69 rfl rfl rfl hu hst⟩
  · exact ⟨enters_of Try.func75 rfl (by decide), fun hu hst => closer Try.func75 rfl rfl rfl hu hst⟩
  · exact ⟨enters_of Try.func76 rfl (by decide), fun hu hst => closer Try.func76 rfl rfl rfl hu hst⟩
  · exact ⟨enters_of Try.func77 rfl (by decide), fun hu hst => closer Try.func77 rfl rfl rfl hu hst⟩
  · exact ⟨enters_of Try.func79 rfl (by decide), fun hu hst => closer Try.func79 rfl rfl rfl hu hst⟩
  · exact ⟨enters_of Try.func83 rfl (by decide), fun hu hst => closer Try.func83 rfl rfl rfl hu hst⟩
end Go.Proofs.Ytlbgkfidpkbafaa
