/- The law of nobody's book. -/
import Derived.Test.YtlbgkfidpkbafaaC4
namespace Go.Proofs.Ytlbgkfidpkbafaa
open Go.RowKit
theorem law6 (k g h a b c v r u s n : Int) (plain : Bool) : CallA Try.prog 6 [.t (.agg [A.val (.int .u8 k), A.val (.int .i64 g), A.val (.int .i64 h), A.val (.int .i64 a), A.val (.int .i64 b), A.val (.int .i64 c), A.val (.int .i64 v), A.val (.int .i64 r), A.val (.int .i64 u), A.val (.int .i64 s), A.val (.int .i64 n)]), .boo plain] [] (fun v H => v = .boo true ∧ H = []) := by
  cases plain
  · exact callR_ok' (z := true) TYok mixedO df_ok (oneK_ok alive_any) 40 20 6 _ _ (.ret (.boo true)) _ (by kernel_rfl)
  · exact callR_ok' (z := true) TYok mixedO df_ok (oneK_ok alive_any) 40 20 6 _ _ (.ret (.boo true)) _ (by kernel_rfl)
end Go.Proofs.Ytlbgkfidpkbafaa
