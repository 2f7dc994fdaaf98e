/- The walk of SpanOf. -/
import Derived.Test.YtfahlgjolihmkaaDoorZ5
import Derived.Test.YtfahlgjolihmkaaDoorZ7
import Derived.Test.YtfahlgjolihmkaaDoorL0
namespace Go.Proofs.YtfahlgjolihmkaaDoor
open Go.RowKit Go.Sort

theorem ofAll_any (A : Option Addr) (n cap : Nat) (xs : List Sp) (w : World) (hx : SpansAt w.heap.size w A n xs) : Calls Tryd.prog 19 #[.slice A n cap] w (SetPost (checkE xs) (ofV xs) w) :=
  Of_any A n cap xs w hx (fun h => stable_any n (by omega))

theorem drewN_below (w : World) (q : Nat) : Below w.heap.size w (w.drewN q) := ((Gr.refl w).drewN q).below
/-- behind a call that made a set and another one that wrote over it nothing older has turned -/
theorem spoiled {W5 W6 W7 : World} {a : Option Addr} {k c : Nat} {xs : List Value} (ho : W6.ownsRow W5.heap.size 41 2 (.slice a k c) k xs) (hb : Below W5.heap.size W5 W6) (hg : W6.grownBy W7 (Value.slice a k c).ownBlock) : Below W5.heap.size W5 W7 :=
  hb.grown hg hb.size (fun j e => (ho.lt j e).1)
theorem own_belowV {W W' : World} {n₀ k : Nat} {v : Value} {xs : List Value} (ho : W.ownsRow n₀ 41 2 v k xs) (hb : Below W.heap.size W W') : W'.ownsRow n₀ 41 2 v k xs :=
  ho.kept (row := none) ⟨hb.os, hb.tape, hb.output, hb.size, fun k hk _ => hb.block k hk⟩ (by cases hv : v.ownBlock with | none => exact .inl rfl | some g => exact .inr (by simp))

end Go.Proofs.YtfahlgjolihmkaaDoor
