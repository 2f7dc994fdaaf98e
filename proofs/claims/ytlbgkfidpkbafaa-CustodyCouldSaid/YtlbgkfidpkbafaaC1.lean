/- What a recovered value says. -/
import Derived.Test.YtlbgkfidpkbafaaProg
import Derived.WalkKit
import Derived.WalkSpells
import Derived.WalkLawsBesides
import Derived.Recover
namespace Go.Proofs.Ytlbgkfidpkbafaa
open Go.RowKit
theorem ending_nil (w : World) : Calls Try.prog 51 #[.nilIface] w fun e w' => e = .returned (.int .i64 0) ∧ w' = w := by
  go_enter Try.func51, Try.ntmps51
  go_wp2
  go_ret
  exact ⟨rfl, rfl⟩
set_option maxRecDepth 20000 in
theorem ending_stop (n : Int) (w : World) : Calls Try.prog 51 #[.iface 110 (.int .i64 n)] w fun e w' => e = .returned (.int .i64 n) ∧ w' = w := by
  have hta : ∀ w, (Instr.typeAssert (.iface 110 (.int .i64 n)) 20 110 true).run Try.prog w = .ok (.tuple #[.int .i64 n, .bool true]) w := fun w => by simp [Instr.typeAssert, run_underlying Try.underlying110]
  go_enter Try.func51, Try.ntmps51
  go_wp2
  go_ret
  exact ⟨rfl, rfl⟩
end Go.Proofs.Ytlbgkfidpkbafaa
