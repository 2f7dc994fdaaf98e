/- What is made stays as it is. -/
import Derived.Test.YtlbgkfidpkbafaaC3
namespace Go.Proofs.Ytlbgkfidpkbafaa
open Go.RowKit
theorem alive_c : CallA Try.prog 15 [] [] (fun v H => v = .boo true ∧ H = []) :=
  call_runD TYok mixedO df_ok 60 20 (by kernel_rfl)
theorem alive_any (H : AH) : CallA Try.prog 15 [] H (fun v H' => v = .boo true ∧ H' = H) := call_any (pv := .bool true) alive_c rfl H
end Go.Proofs.Ytlbgkfidpkbafaa
