/- alive. -/
import Derived.Test.YtpobfdhmggkbaaaR2
import Derived.Test.YtpobfdhmggkbaaaU1
namespace Go.Proofs.Ytpobfdhmggkbaaa
open Go.RowKit
theorem alive_c : CallA Try.prog 16 [] [] (fun v H => v = .boo true ∧ H = []) := call_run TYok mixedO 40 20 (by kernel_rfl)
theorem alive_any (H : AH) : CallA Try.prog 16 [] H (fun v H1 => v = .boo true ∧ H1 = H) := call_any alive_c rfl H
end Go.Proofs.Ytpobfdhmggkbaaa
