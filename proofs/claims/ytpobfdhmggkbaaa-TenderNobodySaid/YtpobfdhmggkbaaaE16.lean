/- Closing of conditions. -/
import Derived.Test.YtpobfdhmggkbaaaT
import Derived.Test.YtpobfdhmggkbaaaR2
namespace Go.Proofs.Ytpobfdhmggkbaaa
open Go.RowKit
theorem natOk_u64 {x : Int} : natOk .u64 x = true ↔ 0 ≤ x ∧ x ≤ 18446744073709551615 := by
  unfold natOk
  rw [decide_eq_true_eq]
  have : IntKind.u64.max = 18446744073709551615 := by decide
  rw [this]
theorem i64_of {x : Int} (h : -9223372036854775808 ≤ x ∧ x ≤ 9223372036854775807) : i64ok x = true := decide_eq_true h
theorem natOk_i64 {x : Int} : natOk .i64 x = true ↔ 0 ≤ x ∧ x ≤ 9223372036854775807 := by
  unfold natOk
  rw [decide_eq_true_eq]
  have : IntKind.i64.max = 9223372036854775807 := by decide
  rw [this]
theorem one_t {x : A} (h : x.one = true) : x.one = true := h
theorem live_t {b : Body} (h : b.live = true) : b.live = true := h
theorem len_t {l : List A} {n : Nat} (h : l.length = n) : decide (l.length = n) = true := decide_eq_true h
theorem isz_t {l : List A} {i : TI} (h : l.length = i.size) : decide (l.length = i.size) = true := decide_eq_true h
end Go.Proofs.Ytpobfdhmggkbaaa
