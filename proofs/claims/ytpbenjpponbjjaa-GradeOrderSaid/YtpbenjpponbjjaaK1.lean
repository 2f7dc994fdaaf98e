/- Repeat of one number, three times: a contract for runs. -/
import Derived.Test.YtpbenjpponbjjaaE16
set_option linter.unusedSimpArgs false
set_option linter.unusedVariables false
namespace Go.Proofs.Ytpbenjpponbjjaa.En
open Go.RowKit
theorem mixedO : Try.prog.follows .mixedOrders = true := by kernel_rfl
def one0 (b : Option Blk) : Option Int := match b with
  | some blk => match blk.body.get 0 with
    | some (true, .s (.v (.int .i64 v))) => some v
    | _ => none
  | none => none
def is3 : List AV → Option Nat
  | [.t (.a (.s (.slc b o n))), .t (.a (.s (.v (.int .i64 m))))] => match decide (o = 0 ∧ n = 1 ∧ m = 3) with
    | true => some b
    | false => none
  | _ => none
def repK : CallF := fun g args H => match g == 98 with
  | true => match is3 args with
    | some b => match one0 H[b]? with
      | some v => some (.ret (.t (.a (.s (.slc H.length 0 3)))), H ++ [⟨true, true, 3, 1, .rows (.int .i64) [v, v, v]⟩])
      | none => none
    | none => none
  | false => none
end Go.Proofs.Ytpbenjpponbjjaa.En
