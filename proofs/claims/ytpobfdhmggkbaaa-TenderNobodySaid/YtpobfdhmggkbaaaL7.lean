/- The law of nobody's tender. -/
import Derived.Test.YtpobfdhmggkbaaaA1
namespace Go.Proofs.Ytpobfdhmggkbaaa
open Go.RowKit
theorem law7 (fl : List Int) (n : Nat) (k b s : Int) (raw plain : Bool) : CallA Try.prog 7 [.t (.agg [A.val (.int .u8 k), A.val (.int .i64 b), .s (.slc 0 0 n), A.val (.int .u64 s), A.val (.bool raw)]), .boo plain] [⟨false, false, 72, 3, .rows (.int .i64) fl⟩] (fun v H => v = .boo true ∧ H = [⟨false, false, 72, 3, .rows (.int .i64) fl⟩]) := by
  cases plain
  · exact callR_ok (z := true) TYok mixedO (oneK_ok alive_any) 40 20 7 _ _ _ _ (by kernel_rfl)
  · exact callR_ok (z := true) TYok mixedO (oneK_ok alive_any) 40 20 7 _ _ _ _ (by kernel_rfl)
end Go.Proofs.Ytpobfdhmggkbaaa
