/- alive. -/
import Derived.Test.YtpobfdhmggkbaaaR2
import Derived.Test.YtpobfdhmggkbaaaU1
namespace Go.Proofs.Ytpobfdhmggkbaaa
open Go.RowKit
theorem alive_c : CallA Try.prog 16 [] [] (fun v H => v = .boo true ∧ H = []) := call_run TYok mixedO (L := 40) (n := 20) (by kernel_rfl)
end Go.Proofs.Ytpobfdhmggkbaaa
