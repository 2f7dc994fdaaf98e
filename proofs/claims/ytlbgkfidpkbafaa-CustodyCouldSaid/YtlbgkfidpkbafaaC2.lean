/- The deferred closures. -/
import Derived.Test.YtlbgkfidpkbafaaC1
import Derived.Test.YtlbgkfidpkbafaaE13
namespace Go.Proofs.Ytlbgkfidpkbafaa
open Go.RowKit
set_option maxRecDepth 20000 in
theorem closer {g : FuncId} {fn : Func} {id t1 t2 t3 : Nat} {p1 p2 p3 : String} {a1 a2 a3 : Array Edge} (hf : Try.prog.funcs[g]? = some fn)
    (hb : fn.body = some (.region id #[⟨some 1, .call ⟨.builtin .recover, #[], #[]⟩, t1, p1, a1, none⟩, ⟨some 2, .call ⟨.value (.func 51), #[.tmp 1], #[20]⟩, t2, p2, a2, none⟩, ⟨none, .store 39 (.tmp 0) (.tmp 2), t3, p3, a3, none⟩] false))
    (hn : fn.ntmps = 3) (hr : fn.results = #[]) {u1 : Value} {w w' : World} {n : Int} {u : FrameMode} (hu : (u = .returning ∧ n = 0) ∨ u = .panicking [{ v := .iface 110 (.int .i64 n), recovered := false }])
    (hst : (Instr.storeAt 39 u1 (.int .i64 n)).run Try.prog w = .ok () w') :
    CallsD Try.prog g #[u1] u w fun e u' w'' => e = .returned (.tuple #[]) ∧ settle u' = .returning ∧ w'' = w' := by
  refine callsD_of_wpS hf hb fun c₀ cs hc => ?_
  refine wpS_region ?_
  show wpOpsS _ _ _ [0, 1, 2] _ _ _
  have hent := fun args w => (enters_of (P := Try.prog) Try.func51 rfl (by decide)) args w
  have ht : ({ tmps := #[u1] ++ Array.replicate (fn.ntmps - (#[u1] : Array Value).size) undef, defers := [] } : Act) = { tmps := #[u1, undef, undef], defers := [] } := by rw [hn]; rfl
  rw [ht]
  have hrec : ∀ w, (builtin Builtin.recover #[] t1 #[] #[]).run Try.prog w = .ok .recover w := fun _ => rfl
  have hres : ∀ (tm : Array Value) (w : World), (results fn tm).run Try.prog w = .ok (.tuple #[]) w := fun tm w => by
    rw [results_eq, hr]
    simp [resV]
  rcases hu with ⟨rfl, rfl⟩ | rfl
  · simp [wpOpsS, execOp, recoverD, hc, Region.wanted, Oper.upon, Act.put, Act.eval, resolve, Deferred.ofValue, invoke, hent, hrec]
    refine (ending_nil w).mono ?_
    rintro e w2 ⟨rfl, rfl⟩
    simp [hst, bodyPostS, hres, settle]
    exact ⟨.returning, by rw [← hc], rfl⟩
  · simp [wpOpsS, execOp, recoverD, hc, Region.wanted, Oper.upon, Act.put, Act.eval, resolve, Deferred.ofValue, invoke, hent, hrec]
    refine (ending_stop n w).mono ?_
    rintro e w2 ⟨rfl, rfl⟩
    simp [hst, bodyPostS, hres, settle]
end Go.Proofs.Ytlbgkfidpkbafaa
