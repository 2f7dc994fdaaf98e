/- The closers of conditions, as what is taken for granted of two small lemmas. -/
import Derived.Test.YtdepnhnpklbmiaaE16
import Derived.Test.YtdepnhnpklbmiaaT
import Derived.Test.YtdepnhnpklbmiaaE18
namespace Go.Proofs.Ytdepnhnpklbmiaa
open Go.RowKit
set_option linter.unusedSimpArgs false
set_option linter.unusedVariables false
theorem aC {A B : Prop} (k : B) (h : A := by (first | with_reducible exact rfl | ((with_reducible refine bkP ?_); rfl) | (first | with_reducible exact rfl | with_reducible assumption | ((repeat' (with_reducible refine and_t ?_ ?_)) <;> (first | with_reducible exact rfl | decide | with_reducible assumption | ((with_reducible first | refine one_t ?_ | refine live_t ?_ | refine all_t ?_ | refine beq_t ?_ | refine isz_t ?_ | refine len_t ?_); rfl) | ((with_reducible refine bs_t ?_ ?_ ?_) <;> first | exact of_decide_eq_true rfl | rfl) | ((with_reducible first | refine mk_t ?_ | refine ap_t (y := 1) rfl ?_ | refine decide_eq_true ?_); (try simp only [List.getElem_toArray, List.getElem_cons_succ, List.getElem_cons_zero, lenOf, List.length_cons, List.length_nil, List.length_set, siz3, byt3, siz72, byt72, siz4, byt4, siz5, byt5, siz50, byt50, siz67, byt67, siz89, byt89]) <;> omega) | ((with_reducible first | refine i64_of ?_ | refine natOk_u64.2 ?_ | refine natOk_i64.2 ?_); omega)))))) : A ∧ B := ⟨h, k⟩
theorem aK {A B D : Prop} (k : B) (h : A := by ((with_reducible refine lexOk ?_); kernel_rfl)) : (A ∧ B) ∨ D := .inl ⟨h, k⟩
theorem wI {P : Prop} (h : P := by (refine ⟨⟨rfl, ⟨rfl, rfl⟩, Nat.le_of_ble_eq_true rfl⟩, ?_, ?_⟩; (· (repeat (first | exact trivial | refine ⟨⟨rfl, .inr rfl⟩, ?_⟩ | (refine ⟨⟨rfl, .inr ?_⟩, ?_⟩; · rfl)))); (· (repeat (first | exact trivial | (refine And.intro ?_ ?_; · (first | exact ⟨fun _ => rfl, rfl, rfl, fun _ => rfl, rfl, rfl⟩ | exact ⟨fun _ => rfl, rfl, rfl, fun h => (by cases h), rfl, rfl⟩ | exact ⟨fun h => (by cases h), rfl, rfl, fun _ => rfl, rfl, rfl⟩ | exact ⟨fun h => (by cases h), rfl, rfl, fun h => (by cases h), rfl, rfl⟩ | rfl | exact trivial))))))) : P := h
theorem hI {P : Prop} (h : P := by (repeat (first | exact trivial | (refine And.intro ?_ ?_; · (first | exact ⟨fun _ => rfl, rfl, rfl, fun _ => rfl, rfl, rfl⟩ | exact ⟨fun _ => rfl, rfl, rfl, fun h => (by cases h), rfl, rfl⟩ | exact ⟨fun h => (by cases h), rfl, rfl, fun _ => rfl, rfl, rfl⟩ | exact ⟨fun h => (by cases h), rfl, rfl, fun h => (by cases h), rfl, rfl⟩ | rfl | exact trivial))))) : P := h
end Go.Proofs.Ytdepnhnpklbmiaa
/- Cuts between two pieces of code. -/
namespace Go.Proofs.Ytdepnhnpklbmiaa
open Go.RowKit
/-- behind x, only what is still wanted is carried on -/
theorem sem_seq {P : Program} {T : TT} (hT : TOk P T) (hm : P.follows .mixedOrders = true) {N n0 : Nat} {x y : Code} {Q : Post} {E : Env} {H : AH} (E2 : Env) (H2 : AH) (h : vc P T N n0 x (thenQ (fun E H => ∃ σ, Weak n0 σ E H E2 H2) Q) E H) (k : ASem P N n0 y Q E2 H2) : ASem P N n0 (.seq x y) Q E H := by
  intro C D ρ0 ρ w a hI hE hX hn
  refine wp_seq (Code.wp_mono ?_ (vc_ok hT hm x _ E H h C D ρ0 ρ w a hI hE hX hn))
  intro e a' w' hq
  cases e with
  | normal =>
    obtain ⟨ρ', E', H', ⟨σ, hw⟩, hI', hE', hX', hn'⟩ := hq
    obtain ⟨ρ2, hI2, hE2, hX2, hn2⟩ := weak_ok hw hI' hE' hX'
    exact k C D ρ0 ρ2 w' a' hI2 hE2 hX2 hn2
  | exit id => exact hq
  | ret => exact hq
  | panic ch => exact hq.pan fun _ _ _ h => h
  | _ => exact hq.elim
/-- a contract from what has been shown of the text -/
theorem call_of_sem {P : Program} {T : TT} (hT : TOk P T) {f : FuncId} {fn : Func} {c : Code} {args : List AV} {H0 : AH} {R : AV → AH → Prop} (hf : P.funcs[f]? = some fn) (hb : fn.body = some c) (hn : (fn.name == "runtime.NumGoroutine") = false)
    (hN : args.length ≤ fn.ntmps) (h : ASem P fn.ntmps H0.length c (retQ T H0.length fn.results.toList R) (argEnv 0 args) H0) : CallA P f args H0 R := by
  refine ⟨enters_of hf hb hn, fun C ρ w ra hI hra => ?_⟩
  refine calls_of_wp hf hb ?_
  refine Code.wp_mono ?_ (h C [] ρ ρ w _ hI (arg_rel hra hN) (ExtN.refl _ _) (Nat.le_refl _))
  have fin : ∀ a' w', Left C H0.length ρ fn.ntmps [] (RetA T H0.length fn.results.toList R) a' w' → a'.defers = [] ∧ ∃ v, (results fn a'.tmps).run P w' = .ok v w' ∧ ∃ u v' H' ρ', Ending.returned v = .returned u ∧ R v' H' ∧ Inv C ρ' H' w' ∧ ExtN H0.length ρ ρ' ∧ H0.length ≤ H'.length ∧ VRel ρ' v' u := by
    rintro a' w' ⟨ρ', E', H', hR, hI', hE', hX', hn'⟩
    exact ⟨hE'.2.1, ret_fin hT hR hI' hE' hX'⟩
  intro e a' w' hq
  cases e with
  | normal => exact fin a' w' hq
  | ret => exact fin a' w' hq
  | exit id =>
    obtain ⟨_, _, _, h, _⟩ := hq
    exact h.elim
  | panic ch => exact (hq.nopan fun _ _ _ h => h).elim
  | _ => exact hq.elim
end Go.Proofs.Ytdepnhnpklbmiaa
/- Cuts between two pieces of code, where what is carried on depends on something found. -/
namespace Go.Proofs.Ytdepnhnpklbmiaa
open Go.RowKit
/-- behind x, what is still wanted is carried on: it may stand at one of several values -/
theorem sem_seqE {P : Program} {T : TT} (hT : TOk P T) (hm : P.follows .mixedOrders = true) {N n0 : Nat} {x y : Code} {Q : Post} {E : Env} {H : AH} {ι : Type} (st : ι → Env) (hp : ι → AH) (ok : ι → Prop)
    (h : vc P T N n0 x (thenQ (fun E H => ∃ i, ok i ∧ ∃ σ, Weak n0 σ E H (st i) (hp i)) Q) E H) (k : ∀ i, ok i → ASem P N n0 y Q (st i) (hp i)) : ASem P N n0 (.seq x y) Q E H := by
  intro C D ρ0 ρ w a hI hE hX hn
  refine wp_seq (Code.wp_mono ?_ (vc_ok hT hm x _ E H h C D ρ0 ρ w a hI hE hX hn))
  intro e a' w' hq
  cases e with
  | normal =>
    obtain ⟨ρ', E', H', ⟨i, hi, σ, hw⟩, hI', hE', hX', hn'⟩ := hq
    obtain ⟨ρ2, hI2, hE2, hX2, hn2⟩ := weak_ok hw hI' hE' hX'
    exact k i hi C D ρ0 ρ2 w' a' hI2 hE2 hX2 hn2
  | exit id => exact hq
  | ret => exact hq
  | panic ch => exact hq.pan fun _ _ _ h => h
  | _ => exact hq.elim
end Go.Proofs.Ytdepnhnpklbmiaa
