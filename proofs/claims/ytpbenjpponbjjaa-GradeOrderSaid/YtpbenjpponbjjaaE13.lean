/- A function's contract from its text; a contract at a call. -/
import Derived.Test.YtpbenjpponbjjaaE12
namespace Go.Proofs.Ytpbenjpponbjjaa.En
open Go.RowKit

def resA (T : TT) (E : Env) (H : AH) : List ResultVar → Option (Bool × List AT)
  | [] => some (true, [])
  | .tmp t :: r => match E.get t, resA T E H r with
    | .t x, some (c, l) => some (c, x :: l)
    | _, _ => none
  | .cell a t :: r => match aLoad T H t (E.get a), resA T E H r with
    | some (d, .t x), some (c, l) => some (d && c, x :: l)
    | _, _ => none
def tupOf : List AT → AV
  | [x] => .t x
  | l => .tup l
/-- what a function leaves: its results, and the memory, by their own numbers -/
def RetA (T : TT) (n0 : Nat) (rs : List ResultVar) (R : AV → AH → Prop) (E : Env) (H : AH) : Prop :=
  match resA T E H rs with
  | some (c, l) => c = true ∧ ∃ σ v H', Weak n0 σ [(0, tupOf l)] H [(0, v)] H' ∧ R v H'
  | none => False
def retQ (T : TT) (n0 : Nat) (rs : List ResultVar) (R : AV → AH → Prop) : Post
  | .normal => RetA T n0 rs R
  | .ret => RetA T n0 rs R
  | _ => fun _ _ => False
def argEnv : Nat → List AV → Env
  | _, [] => []
  | i, v :: l => (i, v) :: argEnv (i + 1) l

section
variable {C : Cx} {P : Program} {T : TT} {N : Nat} {D : List Deferred}
theorem argEnv_get {ρ : Pl} : ∀ {l : List AV} {us : List Value} (i : Nat), LRel (VRel ρ) l us → ∀ t, (argEnv i l).get t = .any ∨ ∃ u, us[t - i]? = some u ∧ i ≤ t ∧ VRel ρ ((argEnv i l).get t) u
  | [], _, _, _, _ => .inl rfl
  | v :: l, [], _, h, _ => h.elim
  | v :: l, u :: us, i, ⟨h1, h2⟩, t => by
    simp only [argEnv, Env.get]
    split
    · rename_i e
      have e := beq_iff_eq.1 e
      subst e
      exact .inr ⟨u, by simp, Nat.le_refl _, h1⟩
    · rename_i e
      have e : i ≠ t := by simpa using e
      rcases argEnv_get (i + 1) h2 t with h | ⟨u', h3, h4, h5⟩
      · exact .inl h
      · refine .inr ⟨u', ?_, by omega, h5⟩
        rw [show t - i = (t - (i + 1)) + 1 by omega, List.getElem?_cons_succ]
        exact h3

def resF (tmps : Array Value) : ResultVar → Sem Value
  | .tmp t => pure (tmps.getD t undef)
  | .cell a t => do loadVar t (← asAddr (tmps.getD a undef))
def resV (vs : Array Value) : Value := if h : vs.size = 1 then vs[0] else .tuple vs
theorem results_eq (fn : Func) (tmps : Array Value) : results fn tmps = (do let vs ← fn.results.mapM (resF tmps); pure (resV vs)) := rfl
theorem resA_ok (hT : TOk P T) {ρ : Pl} {E : Env} {H : AH} {a : Act} {w : World} (hI : Inv C ρ H w) (hE : ERel ρ N D E a) : ∀ {rs : List ResultVar} {l : List AT}, resA T E H rs = some (true, l) →
    ∃ vs : List Value, (rs.mapM (resF a.tmps)).run P w = .ok vs w ∧ LRel (ATRel ρ) l vs
  | [], l, h => by
    simp [resA] at h
    subst h
    exact ⟨[], rfl, trivial⟩
  | .tmp t :: r, l, h => by
    unfold resA at h
    split at h <;> try (cases h; done)
    rename_i x c l' hx hr
    injection h with h
    injection h with h h'
    subst h h'
    obtain ⟨vs, h1, h2⟩ := resA_ok hT hI hE hr
    have hv := hE.2.2 t
    rw [hx] at hv
    exact ⟨a.tmps.getD t undef :: vs, by simp only [List.mapM_cons, Sem.run_bind, resF, Sem.run_pure, Result.andThen_ok, h1], hv, h2⟩
  | .cell b t :: r, l, h => by
    unfold resA at h
    split at h <;> try (cases h; done)
    rename_i d x c l' hx hr
    injection h with h
    injection h with h h'
    subst h'
    simp only [Bool.and_eq_true] at h
    obtain ⟨rfl, rfl⟩ := h
    obtain ⟨vs, h1, h2⟩ := resA_ok hT hI hE hr
    obtain ⟨u, h3, h4⟩ := load_ok hT hI.blk (hE.2.2 b) hx rfl
    have h5 := h4 w (Agree.refl _ _ _)
    have h6 : ∃ ad, a.tmps.getD b undef = .pointer (some ad) := by
      have hp := hE.2.2 b
      unfold aLoad at hx
      split at hx <;> try (cases hx; done)
      rename_i q o hq
      rw [hq] at hp
      obtain ⟨_, ad, _, _, e⟩ := (show (ρ q).on = true ∧ ∃ a', (ρ q).addr = some a' ∧ a'.spot = none ∧ a.tmps.getD b undef = .pointer (some (a'.add o)) from hp)
      exact ⟨_, e⟩
    obtain ⟨ad, h6⟩ := h6
    rw [h6] at h5
    simp only [Instr.loadAt, Instr.sureAddr, Sem.run_bind, Sem.run_pure, Result.andThen_ok] at h5
    refine ⟨u :: vs, ?_, h3, h2⟩
    have h7 : (resF a.tmps (.cell b t)).run P w = .ok u w := by simp only [resF, Sem.run_bind, h6, asAddr, Sem.run_pure, Result.andThen_ok, h5]
    simp only [List.mapM_cons, Sem.run_bind, h7, Result.andThen_ok, h1, Sem.run_pure]

theorem enters_of {f : FuncId} {fn : Func} {c : Code} (hf : P.funcs[f]? = some fn) (hb : fn.body = some c) (hn : (fn.name == "runtime.NumGoroutine") = false) : Enters P f := by
  intro args w
  simp [callFunc, hf, hb]
  intro h
  rw [h] at hn
  exact absurd hn (by decide)

theorem arg_rel {ρ : Pl} {fn : Func} {args : List AV} {ra : Array Value} (hra : LRel (VRel ρ) args ra.toList) (hN : args.length ≤ fn.ntmps) : ERel ρ fn.ntmps [] (argEnv 0 args) { tmps := ra ++ Array.replicate (fn.ntmps - ra.size) undef, defers := [] } := by
  have hsz : ra.size = args.length := by rw [← hra.length]; simp
  refine ⟨by simp; omega, rfl, fun t => ?_⟩
  rcases argEnv_get 0 hra t with h | ⟨u, h1, _, h3⟩
  · rw [h]
    trivial
  · have h1 : ra[t]? = some u := by simpa using h1
    have hlt : t < ra.size := (Array.getElem?_eq_some_iff.1 h1).1
    have : (ra ++ Array.replicate (fn.ntmps - ra.size) undef).getD t undef = u := by
      rw [Array.getD_eq_getD_getElem?, Array.getElem?_append_left hlt, h1]
      rfl
    rw [this]
    exact h3
theorem ret_fin (hT : TOk P T) {fn : Func} {n0 : Nat} {R : AV → AH → Prop} {ρ ρ' : Pl} {E' : Env} {H' : AH} {a' : Act} {w' : World} (hR : RetA T n0 fn.results.toList R E' H') (hI' : Inv C ρ' H' w') (hE' : ERel ρ' N D E' a') (hX' : ExtN n0 ρ ρ') :
    ∃ v, (results fn a'.tmps).run P w' = .ok v w' ∧ ∃ u v' H' ρ', Ending.returned v = .returned u ∧ R v' H' ∧ Inv C ρ' H' w' ∧ ExtN n0 ρ ρ' ∧ n0 ≤ H'.length ∧ VRel ρ' v' u := by
  unfold RetA at hR
  split at hR <;> try (exact hR.elim)
  rename_i c l hr
  obtain ⟨rfl, σ, v, H2, hw, hR⟩ := hR
  obtain ⟨vs, h1, h2⟩ := resA_ok hT hI' hE' hr
  obtain ⟨v0, hv0, hrel⟩ : ∃ v0, (results fn a'.tmps).run P w' = .ok v0 w' ∧ VRel ρ' (tupOf l) v0 := by
    refine ⟨resV vs.toArray, ?_, ?_⟩
    · rw [results_eq]
      simp only [Array.mapM_eq_mapM_toList, Sem.run_bind, Sem.run_map, h1, Result.andThen_ok, Sem.run_pure]
    · match l, vs, h2 with
      | [], [], _ => exact ⟨#[], rfl, trivial⟩
      | [x], [u], h2 => exact h2.1
      | x :: y :: l, u :: u' :: vs, h2 =>
        unfold resV
        rw [dif_neg (by simp)]
        exact ⟨_, rfl, h2⟩
  -- the numbers changed
  have hE2 : ERel ρ' 1 [] [(0, tupOf l)] { tmps := #[v0], defers := [] } := by
    refine ⟨rfl, rfl, fun t => ?_⟩
    simp only [Env.get]
    split
    · rename_i e
      have e := beq_iff_eq.1 e
      subst e
      exact hrel
    · trivial
  obtain ⟨ρ2, k1, k2, k3, k4⟩ := weak_ok hw hI' hE2 hX'
  refine ⟨v0, hv0, v0, v, H2, ρ2, rfl, hR, k1, k3, k4, ?_⟩
  have := k2.2.2 0
  simpa [Env.get] using this
/-- A CONTRACT FROM THE TEXT -/
theorem call_of_vc (hT : TOk P T) (hm : P.follows .mixedOrders = true) {f : FuncId} {fn : Func} {c : Code} {args : List AV} {H0 : AH} {R : AV → AH → Prop} (hf : P.funcs[f]? = some fn) (hb : fn.body = some c) (hn : (fn.name == "runtime.NumGoroutine") = false)
    (hN : args.length ≤ fn.ntmps) (h : vc P T fn.ntmps H0.length c (retQ T H0.length fn.results.toList R) (argEnv 0 args) H0) : CallA P f args H0 R := by
  refine ⟨enters_of hf hb hn, fun C ρ w ra hI hra => ?_⟩
  refine calls_of_wp hf hb ?_
  refine Code.wp_mono ?_ (vc_ok hT hm c _ _ _ h C [] ρ ρ w _ hI (arg_rel hra hN) (ExtN.refl _ _) (Nat.le_refl _))
  have fin : ∀ a' w', Left C H0.length ρ fn.ntmps [] (RetA T H0.length fn.results.toList R) a' w' → a'.defers = [] ∧ ∃ v, (results fn a'.tmps).run P w' = .ok v w' ∧ ∃ u v' H' ρ', Ending.returned v = .returned u ∧ R v' H' ∧ Inv C ρ' H' w' ∧ ExtN H0.length ρ ρ' ∧ H0.length ≤ H'.length ∧ VRel ρ' v' u := by
    rintro a' w' ⟨ρ', E', H', hR, hI', hE', hX', hn'⟩
    exact ⟨hE'.2.1, ret_fin hT hR hI' hE' hX'⟩
  intro e a' w' hq
  cases e with
  | normal => exact fin a' w' hq
  | ret => exact fin a' w' hq
  | exit id =>
    obtain ⟨_, _, _, h, _⟩ := hq
    exact h.elim
  | panic ch => exact (hq.nopan fun _ _ _ h => h).elim
  | _ => exact hq.elim
/-- .. that may panic -/
def retQE (T : TT) (n0 : Nat) (rs : List ResultVar) (R : AV → AH → Prop) (RP : Value → AH → Prop) : Post
  | .normal => RetA T n0 rs R
  | .ret => RetA T n0 rs R
  | .pan pv => fun _ H => ∃ σ H', Weak n0 σ [] H [] H' ∧ RP pv H'
  | _ => fun _ _ => False
theorem call_of_vcE (hT : TOk P T) (hm : P.follows .mixedOrders = true) {f : FuncId} {fn : Func} {c : Code} {args : List AV} {H0 : AH} {R : AV → AH → Prop} {RP : Value → AH → Prop} (hf : P.funcs[f]? = some fn) (hb : fn.body = some c) (hn : (fn.name == "runtime.NumGoroutine") = false)
    (hN : args.length ≤ fn.ntmps) (h : vc P T fn.ntmps H0.length c (retQE T H0.length fn.results.toList R RP) (argEnv 0 args) H0) : CallE P f args H0 R RP := by
  refine ⟨enters_of hf hb hn, fun C ρ w ra hI hra => ?_⟩
  refine calls_of_wp hf hb ?_
  refine Code.wp_mono ?_ (vc_ok hT hm c _ _ _ h C [] ρ ρ w _ hI (arg_rel hra hN) (ExtN.refl _ _) (Nat.le_refl _))
  have fin : ∀ a' w', Left C H0.length ρ fn.ntmps [] (RetA T H0.length fn.results.toList R) a' w' → a'.defers = [] ∧ ∃ v, (results fn a'.tmps).run P w' = .ok v w' ∧ ((∃ u v' H' ρ', Ending.returned v = .returned u ∧ R v' H' ∧ Inv C ρ' H' w' ∧ ExtN H0.length ρ ρ' ∧ H0.length ≤ H'.length ∧ VRel ρ' v' u) ∨ ∃ pv H' ρ', Ending.returned v = .panicked [{ v := pv, recovered := false }] ∧ RP pv H' ∧ Inv C ρ' H' w' ∧ ExtN H0.length ρ ρ' ∧ H0.length ≤ H'.length) := by
    rintro a' w' ⟨ρ', E', H', hR, hI', hE', hX', hn'⟩
    obtain ⟨v, h1, h2⟩ := ret_fin hT hR hI' hE' hX'
    exact ⟨hE'.2.1, v, h1, .inl h2⟩
  intro e a' w' hq
  cases e with
  | normal => exact fin a' w' hq
  | ret => exact fin a' w' hq
  | exit id =>
    obtain ⟨_, _, _, h, _⟩ := hq
    exact h.elim
  | panic ch =>
    obtain ⟨pv, rfl, ρ', E', H', ⟨σ, H2, hw, hR⟩, hI', hE', hX', hn'⟩ := hq.pan_get
    obtain ⟨ρ2, k1, _, k3, k4⟩ := weak_ok (N := fn.ntmps) (D := []) (a := a') (E2 := []) (E := []) hw hI' ⟨hE'.1, hE'.2.1, fun _ => trivial⟩ hX'
    exact ⟨hE'.2.1, .inr ⟨pv, H2, ρ2, rfl, hR, k1, k3, k4⟩⟩
  | _ => exact hq.elim

/-! ### a contract at a call -/
def up (σ : Rn) (n m : Nat) : Rn := fun i => if i < n then σ i else some (m + (i - n))
def renB (σ : Rn) : AH → AH
  | [] => []
  | b :: r => b.ren σ :: renB σ r
theorem renB_get {σ : Rn} : ∀ {H : AH} {i : Nat}, (renB σ H)[i]? = (H[i]?).map (Blk.ren σ)
  | [], i => by simp [renB]
  | b :: r, 0 => by simp [renB]
  | b :: r, i + 1 => by simpa [renB] using renB_get (H := r) (i := i)
theorem renB_length {σ : Rn} (H : AH) : (renB σ H).length = H.length := by induction H <;> simp_all [renB]
def allNew : AH → Bool
  | [] => true
  | b :: r => (b.rw || !b.body.live) && allNew r
theorem allNew_get : ∀ {H : AH} {i : Nat} {b : Blk}, allNew H = true → H[i]? = some b → b.body.live = true → b.rw = true
  | [], _, _, _, h, _ => by simp at h
  | c :: r, 0, b, h, hb, hl => by
    simp only [allNew, Bool.and_eq_true] at h
    simp at hb
    subst hb
    simpa [hl] using h.1
  | c :: r, i + 1, b, h, hb, hl => by
    simp only [allNew, Bool.and_eq_true] at h
    simp at hb
    exact allNew_get h.2 hb hl
def renL (σ : Rn) : List AV → List AV
  | [] => []
  | x :: l => x.ren σ :: renL σ l
def okL (σ : Rn) (L : Nat) : List AV → Bool
  | [] => true
  | x :: l => x.ok σ L && okL σ L l
theorem renL_ok {σ : Rn} {L : Nat} {sz : Nat → Nat} {ρ : Pl} : ∀ {l : List AV} {us : List Value}, LRel (VRel ρ) (renL σ l) us → okL σ L l = true → LRel (VRel (repl2 σ L sz ρ)) l us
  | [], [], _, _ => trivial
  | [], _ :: _, h, _ => h.elim
  | _ :: _, [], h, _ => h.elim
  | x :: l, u :: us, h, hk => by
    simp only [okL, Bool.and_eq_true] at hk
    exact ⟨AV.ren_ok h.1 hk.1, renL_ok h.2 hk.2⟩
end
end Go.Proofs.Ytpbenjpponbjjaa.En
