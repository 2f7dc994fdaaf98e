/- Cuts between two pieces of code. -/
import Derived.Test.YtdepnhnpklbmiaaE16
namespace Go.Proofs.Ytdepnhnpklbmiaa
open Go.RowKit
/-- behind x, only what is still wanted is carried on -/
theorem sem_seq {P : Program} {T : TT} (hT : TOk P T) (hm : P.follows .mixedOrders = true) {N n0 : Nat} {x y : Code} {Q : Post} {E : Env} {H : AH} (E2 : Env) (H2 : AH) (h : vc P T N n0 x (thenQ (fun E H => ∃ σ, Weak n0 σ E H E2 H2) Q) E H) (k : ASem P N n0 y Q E2 H2) : ASem P N n0 (.seq x y) Q E H := by
  intro C D ρ0 ρ w a hI hE hX hn
  refine wp_seq (Code.wp_mono ?_ (vc_ok hT hm x _ E H h C D ρ0 ρ w a hI hE hX hn))
  intro e a' w' hq
  cases e with
  | normal =>
    obtain ⟨ρ', E', H', ⟨σ, hw⟩, hI', hE', hX', hn'⟩ := hq
    obtain ⟨ρ2, hI2, hE2, hX2, hn2⟩ := weak_ok hw hI' hE' hX'
    exact k C D ρ0 ρ2 w' a' hI2 hE2 hX2 hn2
  | exit id => exact hq
  | ret => exact hq
  | panic ch => exact hq.pan fun _ _ _ h => h
  | _ => exact hq.elim
/-- a contract from what has been shown of the text -/
theorem call_of_sem {P : Program} {T : TT} (hT : TOk P T) {f : FuncId} {fn : Func} {c : Code} {args : List AV} {H0 : AH} {R : AV → AH → Prop} (hf : P.funcs[f]? = some fn) (hb : fn.body = some c) (hn : (fn.name == "runtime.NumGoroutine") = false)
    (hN : args.length ≤ fn.ntmps) (h : ASem P fn.ntmps H0.length c (retQ T H0.length fn.results.toList R) (argEnv 0 args) H0) : CallA P f args H0 R := by
  refine ⟨enters_of hf hb hn, fun C ρ w ra hI hra => ?_⟩
  refine calls_of_wp hf hb ?_
  refine Code.wp_mono ?_ (h C [] ρ ρ w _ hI (arg_rel hra hN) (ExtN.refl _ _) (Nat.le_refl _))
  have fin : ∀ a' w', Left C H0.length ρ fn.ntmps [] (RetA T H0.length fn.results.toList R) a' w' → a'.defers = [] ∧ ∃ v, (results fn a'.tmps).run P w' = .ok v w' ∧ ∃ u v' H' ρ', Ending.returned v = .returned u ∧ R v' H' ∧ Inv C ρ' H' w' ∧ ExtN H0.length ρ ρ' ∧ H0.length ≤ H'.length ∧ VRel ρ' v' u := by
    rintro a' w' ⟨ρ', E', H', hR, hI', hE', hX', hn'⟩
    exact ⟨hE'.2.1, ret_fin hT hR hI' hE' hX'⟩
  intro e a' w' hq
  cases e with
  | normal => exact fin a' w' hq
  | ret => exact fin a' w' hq
  | exit id =>
    obtain ⟨_, _, _, h, _⟩ := hq
    exact h.elim
  | panic ch => exact (hq.nopan fun _ _ _ h => h).elim
  | _ => exact hq.elim
end Go.Proofs.Ytdepnhnpklbmiaa
