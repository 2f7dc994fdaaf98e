/- A function's text gone through: what has to be shown of it. -/
import Derived.Test.YtpbenjpponbjjaaE9
import Derived.BigQuiet
set_option linter.unusedSimpArgs false
set_option linter.unusedVariables false
namespace Go.Proofs.Ytpbenjpponbjjaa.En
open Go.RowKit

theorem get_put (E : Env) (d : Nat) (v : AV) (t : Nat) : (E.put d v).get t = if t = d then v else E.get t := by
  induction E with
  | nil =>
    simp only [Env.put, Env.get, beq_iff_eq]
    by_cases h : t = d
    · rw [if_pos h, if_pos h.symm]
    · rw [if_neg h, if_neg (fun e => h e.symm)]
  | cons p E ih =>
    obtain ⟨i, x⟩ := p
    simp only [Env.put]
    by_cases hid : i = d
    · subst hid
      simp only [beq_self_eq_true, if_true, Env.get, beq_iff_eq]
      by_cases h : t = i
      · rw [if_pos h.symm, if_pos h]
      · rw [if_neg (fun e => h e.symm), if_neg h, if_neg (fun e => h e.symm)]
    · have : (i == d) = false := by simpa using hid
      simp only [this, if_false, Bool.false_eq_true, Env.get, beq_iff_eq]
      rw [ih]
      by_cases h : t = d
      · subst h
        rw [if_pos rfl, if_neg hid, if_pos rfl]
      · rw [if_neg h, if_neg h]

theorem ERel.mono {ρ ρ' : Pl} {N : Nat} {D : List Deferred} {E : Env} {a : Act} (h : ERel ρ N D E a) (he : Ext ρ ρ') : ERel ρ' N D E a := ⟨h.1, h.2.1, fun t => (h.2.2 t).mono he⟩
theorem ERel.put {ρ : Pl} {N : Nat} {D : List Deferred} {E : Env} {a : Act} (h : ERel ρ N D E a) {d : Nat} (hd : d < N) {v : AV} {u : Value} (hv : VRel ρ v u) : ERel ρ N D (E.put d v) (a.put (some d) u) := by
  refine ⟨by simp [Act.put, h.1], h.2.1, fun t => ?_⟩
  rw [get_put]
  by_cases ht : t = d
  · subst ht
    rw [if_pos rfl]
    have : t < a.tmps.size := by rw [h.1]; exact hd
    simp only [Act.put]
    rw [show (a.tmps.setIfInBounds t u).getD t undef = u by simp [this]]
    exact hv
  · rw [if_neg ht]
    have := h.2.2 t
    simp only [Act.put]
    rw [show (a.tmps.setIfInBounds d u).getD t undef = a.tmps.getD t undef by simp [Array.getElem?_setIfInBounds_ne (fun e => ht e.symm)]]
    exact this

/-- lists written out as they are made -/
def putK : Env → Nat → AV → (Env → Prop) → Prop
  | [], t, v, K => K [(t, v)]
  | (i, x) :: E, t, v, K => match i == t with
    | true => K ((i, v) :: E)
    | false => putK E t v (fun E' => K ((i, x) :: E'))
theorem putK_eq : ∀ (E : Env) (t : Nat) (v : AV) (K : Env → Prop), putK E t v K = K (E.put t v)
  | [], _, _, _ => rfl
  | (i, x) :: E, t, v, K => by
    simp only [putK, Env.put]
    cases h : i == t
    · simp only [Bool.false_eq_true, if_false]
      exact putK_eq E t v _
    · simp
def bodN : Body → (Body → Prop) → Prop
  | .dead, K => K .dead
  | .cells l, K => K (.cells l)
  | .rows k xs, K => K (.rows k xs)
  | .recs p xs, K => K (.recs p xs)
  | .ptrs b os, K => K (.ptrs b os)
theorem bodN_eq (b : Body) (K : Body → Prop) : bodN b K = K b := by cases b <;> rfl
def normK : AH → (AH → Prop) → Prop
  | [], K => K []
  | ⟨a, b, c, d, e⟩ :: r, K => bodN e fun e => normK r (fun r' => K (⟨a, b, c, d, e⟩ :: r'))
theorem normK_eq : ∀ (H : AH) (K : AH → Prop), normK H K = K H
  | [], _ => rfl
  | ⟨a, b, c, d, e⟩ :: r, K => by
    rw [normK, bodN_eq]
    exact normK_eq r _
def getK : Env → Nat → (AV → Prop) → Prop
  | [], _, K => K .any
  | (i, v) :: E, t, K => match i == t with
    | true => K v
    | false => getK E t K
theorem getK_eq : ∀ (E : Env) (t : Nat) (K : AV → Prop), getK E t K = K (E.get t)
  | [], _, _ => rfl
  | (i, v) :: E, t, K => by
    simp only [getK, Env.get]
    cases h : i == t
    · simp only [Bool.false_eq_true, if_false]
      exact getK_eq E t K
    · simp
def evK (E : Env) (x : Operand) (K : AV → Prop) : Prop :=
  match x with
  | .tmp t => getK E t K
  | .const v => K (AV.ofValue v)
  | .global _ => K .any
  | .func f => K (.t (.a (.fn (.func f) [] [])))
theorem evK_eq (E : Env) (x : Operand) (K : AV → Prop) : evK E x K = K (ev E x) := by
  cases x with
  | tmp t => exact getK_eq E t K
  | _ => rfl
/-- a result laid into its place -/
def vPut (N : Nat) (dst : Option Nat) (v : AV) (E : Env) (K : Env → Prop) : Prop :=
  match dst with
  | none => K E
  | some d => match decide (d < N) with
    | true => putK E d v K
    | false => False
theorem vPut_ok {ρ : Pl} {N : Nat} {D : List Deferred} {E : Env} {a : Act} {dst : Option Nat} {v : AV} {u : Value} {K : Env → Prop} (h : vPut N dst v E K) (hE : ERel ρ N D E a) (hv : VRel ρ v u) : ∃ E', K E' ∧ ERel ρ N D E' (a.put dst u) := by
  unfold vPut at h
  cases dst with
  | none => exact ⟨E, h, hE⟩
  | some d =>
    dsimp only at h
    split at h
    · rename_i hd
      rw [putK_eq] at h
      exact ⟨_, h, hE.put (of_decide_eq_true hd) hv⟩
    · exact h.elim

/-- what a guard says: a Bool, nothing, or it can't be seen -/
def guardVal (ops : List Oper) (E : Env) (j : Nat) : Option (Option (Bool × Nat)) :=
  match ops[j]? with
  | some o => match o.dst with
    | some t => match E.get t with
      | .t (.a (.s (.v (.bool b)))) => some (some (b, t))
      | .t (.a (.s (.v (.tuple _)))) => some none
      | _ => none
    | none => none
  | none => none
/-- the slot of which the Bool is known -/
theorem ERel.known {ρ : Pl} {N : Nat} {D : List Deferred} {E : Env} {a : Act} (hE : ERel ρ N D E a) {ops : List Oper} {j : Nat} {b : Bool} {t : Nat} (h : guardVal ops E j = some (some (b, t))) : ERel ρ N D (E.put t (.boo b)) a := by
  unfold guardVal at h
  split at h <;> try (cases h; done)
  split at h <;> try (cases h; done)
  rename_i t' ht
  split at h <;> try (cases h; done)
  rename_i b' hb
  injection h with h
  injection h with h
  injection h with h1 h2
  subst h1 h2
  refine ⟨hE.1, hE.2.1, fun q => ?_⟩
  rw [get_put]
  split
  · rename_i e
    subst e
    have := hE.2.2 q
    rwa [hb] at this
  · exact hE.2.2 q
theorem guard_ok {ρ : Pl} {N : Nat} {D : List Deferred} {E : Env} {a : Act} (hE : ERel ρ N D E a) {ops : List Oper} {j : Nat} {r : Option (Bool × Nat)} (h : guardVal ops E j = some r) : yielded ops.toArray a.tmps j = r.map (·.1) := by
  unfold guardVal at h
  split at h <;> try (cases h; done)
  rename_i o ho
  split at h <;> try (cases h; done)
  rename_i t ht
  have hr := hE.2.2 t
  have key : ∀ u, a.tmps.getD t undef = u → u ≠ undef → a.tmps[t]? = some u := fun u hu hn => by
    rw [Array.getD_eq_getD_getElem?] at hu
    cases hc : a.tmps[t]? with
    | none => rw [hc] at hu; exact absurd hu.symm hn
    | some x => rw [hc] at hu; simpa using hu
  split at h <;> try (cases h; done)
  · rename_i b hb
    injection h with h
    subst h
    rw [hb] at hr
    have h1 := key _ (show a.tmps.getD t undef = .bool b from hr) (by simp [undef])
    simp [yielded, ho, ht, h1]
  · rename_i vs hb
    injection h with h
    subst h
    rw [hb] at hr
    have h1 : a.tmps.getD t undef = .tuple vs := hr
    rw [Array.getD_eq_getD_getElem?] at h1
    unfold yielded
    simp only [List.getElem?_toArray, ho, Option.bind_some, ht]
    cases hc : a.tmps[t]? with
    | none => rfl
    | some x =>
      rw [hc] at h1
      simp at h1
      subst h1
      rfl

def ExtN (n : Nat) (ρ ρ' : Pl) : Prop := ∀ i, i < n → (ρ i).on = true → ρ' i = ρ i
theorem ExtN.refl (n : Nat) (ρ : Pl) : ExtN n ρ ρ := fun _ _ _ => rfl
theorem ExtN.trans {n : Nat} {a b c : Pl} (h : ExtN n a b) (k : ExtN n b c) : ExtN n a c := fun i hi ho => (k i hi (by rw [h i hi ho]; exact ho)).trans (h i hi ho)
theorem ExtN.of {n : Nat} {a b c : Pl} (h : ExtN n a b) (k : Ext b c) : ExtN n a c := fun i hi ho => (k i (by rw [h i hi ho]; exact ho)).trans (h i hi ho)
theorem ExtN.mono {n m : Nat} {a b : Pl} (h : ExtN m a b) (hn : n ≤ m) : ExtN n a b := fun i hi => h i (Nat.lt_of_lt_of_le hi hn)
theorem ExtN.ext {C : Cx} {ρ ρ' : Pl} {H : AH} {w : World} (h : ExtN H.length ρ ρ') (hI : Inv C ρ H w) : Ext ρ ρ' := fun i ho => by
  rcases Nat.lt_or_ge i H.length with h1 | h1
  · exact h i h1 ho
  · rw [hI.off i h1] at ho
    cases ho

def Enters (P : Program) (g : FuncId) : Prop := ∀ (args : Array Value) (w : World), (callFunc g args).run P w = .ok (.enter g args) w
/-- a call, where it stands -/
def CallA (P : Program) (g : FuncId) (args : List AV) (H : AH) (K : AV → AH → Prop) : Prop :=
  Enters P g ∧ ∀ (C : Cx) (ρ : Pl) (w : World) (ra : Array Value), Inv C ρ H w → LRel (VRel ρ) args ra.toList →
    Calls P g ra w fun e w' => ∃ u v H' ρ', e = .returned u ∧ K v H' ∧ Inv C ρ' H' w' ∧ ExtN H.length ρ ρ' ∧ H.length ≤ H'.length ∧ VRel ρ' v u
/-- a call that may panic -/
def CallE (P : Program) (g : FuncId) (args : List AV) (H : AH) (K : AV → AH → Prop) (KP : Value → AH → Prop) : Prop :=
  Enters P g ∧ ∀ (C : Cx) (ρ : Pl) (w : World) (ra : Array Value), Inv C ρ H w → LRel (VRel ρ) args ra.toList →
    Calls P g ra w fun e w' => (∃ u v H' ρ', e = .returned u ∧ K v H' ∧ Inv C ρ' H' w' ∧ ExtN H.length ρ ρ' ∧ H.length ≤ H'.length ∧ VRel ρ' v u) ∨
      (∃ pv H' ρ', e = .panicked [{ v := pv, recovered := false }] ∧ KP pv H' ∧ Inv C ρ' H' w' ∧ ExtN H.length ρ ρ' ∧ H.length ≤ H'.length)
theorem CallA.e {P : Program} {g : FuncId} {args : List AV} {H : AH} {K : AV → AH → Prop} {KP : Value → AH → Prop} (h : CallA P g args H K) : CallE P g args H K KP :=
  ⟨h.1, fun C ρ w ra hI hra => (h.2 C ρ w ra hI hra).mono fun _ _ h => .inl h⟩
theorem CallE.a {P : Program} {g : FuncId} {args : List AV} {H : AH} {K : AV → AH → Prop} (h : CallE P g args H K (fun _ _ => False)) : CallA P g args H K :=
  ⟨h.1, fun C ρ w ra hI hra => (h.2 C ρ w ra hI hra).mono fun _ _ h => h.elim id fun ⟨_, _, _, _, h, _⟩ => h.elim⟩
/-- a call that only reads, and answers with numbers -/
def plainA : A → Option Value
  | .s (.v x) => some x
  | _ => none
def plainAs : List A → Option (List Value)
  | [] => some []
  | x :: l => match plainA x, plainAs l with
    | some y, some ys => some (y :: ys)
    | _, _ => none
def plainT : AT → Option Value
  | .a x => plainA x
  | .agg l => match plainAs l with
    | some vs => some (.agg vs.toArray)
    | none => none
def plainTs : List AT → Option (List Value)
  | [] => some []
  | x :: l => match plainT x, plainTs l with
    | some y, some ys => some (y :: ys)
    | _, _ => none
def plain : AV → Option Value
  | .t x => plainT x
  | .tup l => match plainTs l with
    | some vs => some (.tuple vs.toArray)
    | none => none
  | .any => none
def QCall (P : Program) (g : FuncId) (args : List AV) (H : AH) (v : AV) : Prop :=
  Enters P g ∧ ∃ pv, plain v = some pv ∧ ∀ (C : Cx) (ρ : Pl) (w : World) (ra : Array Value), Inv C ρ H w → LRel (VRel ρ) args ra.toList → Calls P g ra w fun e w' => e = .returned pv ∧ Below w.heap.size w w'

/-- the callee and its arguments -/
def calleeOf (E : Env) (c : Call) : Option (FuncId × List AV) :=
  match c.callee with
  | .value f => match ev E f with
    | .t (.a (.fn (.func g) first cap)) => some (g, first.map (fun x => AV.t (.a (.s x))) ++ c.args.toList.map (ev E) ++ cap.map (fun x => AV.t (.a (.s x))))
    | _ => none
  | _ => none
def opStep0 (P : Program) (T : TT) (N : Nat) (o : Oper) (E : Env) (H : AH) (K : Env → AH → Prop) (KP : Value → AH → Prop) : Prop :=
  match aOp T E H o.op with
  | some (c, v, H') => c = true ∧ normK H' (fun H'' => vPut N o.dst v E (fun E' => K E' H''))
  | none => match o.op with
    | .call c => match calleeOf E c with
      | some (g, args) => CallE P g args H (fun v H' => normK H' (fun H'' => vPut N o.dst v E (fun E' => K E' H''))) KP
      | none => False
    | .panic x => match ev E x with
      | .t (.a (.s (.v (.iface t v)))) => KP (.iface t v) H
      | _ => False
    | .binOp op xt x y _ => match askB T op xt (ev E x) (ev E y) with
      | true => ∀ b : Bool, vPut N o.dst (.boo b) E (fun E' => K E' H)
      | false => False
    | _ => False
def opStep (P : Program) (T : TT) (N : Nat) (o : Oper) (E : Env) (H : AH) (K : Env → AH → Prop) (KP : Value → AH → Prop) : Prop :=
  match o.op with
  | .move x => evK E x (fun v => vPut N o.dst v E (fun E' => K E' H))
  | .assign x => evK E x (fun v => vPut N o.dst v E (fun E' => K E' H))
  | _ => opStep0 P T N o E H K KP
theorem opStep_eq {P : Program} {T : TT} {N : Nat} {o : Oper} {E : Env} {H : AH} {K : Env → AH → Prop} {KP : Value → AH → Prop} (h : opStep P T N o E H K KP) : opStep0 P T N o E H K KP := by
  unfold opStep at h
  split at h
  · rename_i x ho
    rw [evK_eq] at h
    unfold opStep0 aOp aStill
    rw [ho]
    dsimp only
    rw [normK_eq]
    exact ⟨rfl, h⟩
  · rename_i x ho
    rw [evK_eq] at h
    unfold opStep0 aOp aStill
    rw [ho]
    dsimp only
    rw [normK_eq]
    exact ⟨rfl, h⟩
  · exact h
def opStepQ0 (P : Program) (T : TT) (N : Nat) (o : Oper) (E : Env) (H : AH) (K : Env → Prop) : Prop :=
  match aStill T E H o.op with
  | some (c, v) => c = true ∧ vPut N o.dst v E K
  | none => match o.op with
    | .build t parts => match aBuild T t (parts.toList.map fun (i, x) => (i, ev E x)) with
      | some (c, v) => c = true ∧ vPut N o.dst v E K
      | none => False
    | .call c => match calleeOf E c with
      | some (g, args) => ∃ v, QCall P g args H v ∧ vPut N o.dst v E K
      | none => False
    | _ => False
def opStepQ (P : Program) (T : TT) (N : Nat) (o : Oper) (E : Env) (H : AH) (K : Env → Prop) : Prop :=
  match o.op with
  | .move x => evK E x (fun v => vPut N o.dst v E K)
  | .assign x => evK E x (fun v => vPut N o.dst v E K)
  | _ => opStepQ0 P T N o E H K
theorem opStepQ_eq {P : Program} {T : TT} {N : Nat} {o : Oper} {E : Env} {H : AH} {K : Env → Prop} (h : opStepQ P T N o E H K) : opStepQ0 P T N o E H K := by
  unfold opStepQ at h
  split at h
  · rename_i x ho
    rw [evK_eq] at h
    unfold opStepQ0 aStill
    rw [ho]
    exact ⟨rfl, h⟩
  · rename_i x ho
    rw [evK_eq] at h
    unfold opStepQ0 aStill
    rw [ho]
    exact ⟨rfl, h⟩
  · exact h
def vcOps (P : Program) (T : TT) (N : Nat) (ops : List Oper) (Q : Env → AH → Prop) (QP : Value → Env → AH → Prop) : List Oper → Env → AH → Prop
  | [], E, H => Q E H
  | o :: rest, E, H => match o.guard with
    | none => opStep P T N o E H (vcOps P T N ops Q QP rest) (fun pv H' => QP pv E H')
    | some (j, want) => match guardVal ops E j with
      | some (some (b, t)) => (b = want → putK E t (.boo want) (fun E' => opStep P T N o E' H (vcOps P T N ops Q QP rest) (fun pv H' => QP pv E' H'))) ∧ (b = !want → putK E t (.boo (!want)) (fun E1 => vPut N o.dst (.val undef) E1 (fun E' => vcOps P T N ops Q QP rest E' H)))
      | some none => vPut N o.dst (.val undef) E (fun E' => vcOps P T N ops Q QP rest E' H)
      | none => False
def vcQ (P : Program) (T : TT) (N : Nat) (ops : List Oper) (H : AH) (Q : Env → Prop) : List Oper → Env → Prop
  | [], E => Q E
  | o :: rest, E => match o.guard with
    | none => opStepQ P T N o E H (vcQ P T N ops H Q rest)
    | some (j, want) => match guardVal ops E j with
      | some (some (b, t)) => (b = want → putK E t (.boo want) (fun E' => opStepQ P T N o E' H (vcQ P T N ops H Q rest))) ∧ (b = !want → putK E t (.boo (!want)) (fun E1 => vPut N o.dst (.val undef) E1 (vcQ P T N ops H Q rest)))
      | some none => vPut N o.dst (.val undef) E (vcQ P T N ops H Q rest)
      | none => False

section
variable {C : Cx} {P : Program} {T : TT} {N : Nat} {D : List Deferred}

theorem lrel_map {ρ : Pl} {l : List S} {us : List Value} (h : LRel (SRel ρ) l us) : LRel (VRel ρ) (l.map fun x => AV.t (.a (.s x))) us := by
  induction l generalizing us with
  | nil => cases us <;> first | trivial | exact h.elim
  | cons x l ih =>
    cases us with
    | nil => exact h.elim
    | cons u us => exact ⟨h.1, ih h.2⟩
theorem lrel_ev {ρ : Pl} {E : Env} {a : Act} (hE : ERel ρ N D E a) : ∀ l : List Operand, LRel (VRel ρ) (l.map (ev E)) (l.map a.eval)
  | [] => trivial
  | x :: l => ⟨ev_ok hE x, lrel_ev hE l⟩
theorem callee_ok {ρ : Pl} {E : Env} {a : Act} (hE : ERel ρ N D E a) {o : Oper} {c : Call} (ho : o.op = .call c) {g : FuncId} {args : List AV} (h : calleeOf E c = some (g, args)) (hg : Enters P g) :
    ∃ ra : Array Value, LRel (VRel ρ) args ra.toList ∧ ∀ w, (execOp a.eval o).run P w = .ok (.enter g ra) w := by
  unfold calleeOf at h
  split at h <;> try (cases h; done)
  rename_i f hc
  split at h <;> try (cases h; done)
  rename_i g' first cap hf
  injection h with h
  injection h with h h'
  subst h h'
  have hv := ev_ok hE f
  rw [hf] at hv
  obtain ⟨fi, ca, e, h1, h2⟩ := (show ∃ fi ca : Array Value, a.eval f = .func (.func g') fi ca ∧ LRel (SRel ρ) first fi.toList ∧ LRel (SRel ρ) cap ca.toList from hv)
  refine ⟨fi ++ c.args.map a.eval ++ ca, ?_, fun w => ?_⟩
  · simp only [Array.toList_append, Array.toList_map]
    exact ((lrel_map h1).append (lrel_ev hE _)).append (lrel_map h2)
  · simp [execOp, ho, resolve, hc, e, Deferred.ofValue, invoke, hg _ w]

/-- what is left of a walk -/
inductive AX where
  | normal
  | exit (id : Nat)
  | ret
  | pan (v : Value)
abbrev Post := AX → Env → AH → Prop
def Left (C : Cx) (n0 : Nat) (ρ0 : Pl) (N : Nat) (D : List Deferred) (Q : Env → AH → Prop) (a : Act) (w : World) : Prop :=
  ∃ ρ E H, Q E H ∧ Inv C ρ H w ∧ ERel ρ N D E a ∧ ExtN n0 ρ0 ρ ∧ n0 ≤ H.length
def PostOk (C : Cx) (n0 : Nat) (ρ0 : Pl) (N : Nat) (D : List Deferred) (Q : Post) : Exit → Act → World → Prop
  | .normal, a, w => Left C n0 ρ0 N D (Q .normal) a w
  | .exit id, a, w => Left C n0 ρ0 N D (Q (.exit id)) a w
  | .ret, a, w => Left C n0 ρ0 N D (Q .ret) a w
  | .panic [⟨pv, false, false⟩], a, w => Left C n0 ρ0 N D (Q (.pan pv)) a w
  | _, _, _ => False

theorem PostOk.pan {C : Cx} {n0 : Nat} {ρ0 : Pl} {N : Nat} {D : List Deferred} {Q Q' : Post} {ch : List PanicEntry} {a : Act} {w : World} (h : PostOk C n0 ρ0 N D Q (.panic ch) a w) (hq : ∀ pv E H, Q (.pan pv) E H → Q' (.pan pv) E H) : PostOk C n0 ρ0 N D Q' (.panic ch) a w := by
  unfold PostOk at h ⊢
  split at h <;> try (exact h.elim)
  all_goals first
    | (rename_i e; injection e with e; subst e; obtain ⟨ρ, E, H, h1, h2⟩ := h; exact ⟨ρ, E, H, hq _ _ _ h1, h2⟩)
    | (rename_i e; cases e)
theorem PostOk.pan_get {C : Cx} {n0 : Nat} {ρ0 : Pl} {N : Nat} {D : List Deferred} {Q : Post} {ch : List PanicEntry} {a : Act} {w : World} (h : PostOk C n0 ρ0 N D Q (.panic ch) a w) : ∃ pv, ch = [{ v := pv, recovered := false }] ∧ Left C n0 ρ0 N D (Q (.pan pv)) a w := by
  cases ch with
  | nil => exact h.elim
  | cons x xs =>
    obtain ⟨v, r, g⟩ := x
    cases xs with
    | nil => cases r <;> cases g <;> first | exact h.elim | exact ⟨v, rfl, h⟩
    | cons y ys => cases r <;> cases g <;> exact h.elim
theorem PostOk.nopan {C : Cx} {n0 : Nat} {ρ0 : Pl} {N : Nat} {D : List Deferred} {Q : Post} {ch : List PanicEntry} {a : Act} {w : World} (h : PostOk C n0 ρ0 N D Q (.panic ch) a w) (hq : ∀ pv E H, ¬ Q (.pan pv) E H) : False := by
  unfold PostOk at h
  split at h <;> try (exact h.elim)
  all_goals first
    | (rename_i e; injection e with e; subst e; obtain ⟨ρ, E, H, h1, h2⟩ := h; exact hq _ _ _ h1)
    | (rename_i e; cases e)
theorem set_len {α : Type} (l : List α) (i : Nat) (x : α) : (l.set i x).length = l.length := by simp
theorem aAppend_len {H H' : AH} {t : TypeId} {p x : AV} {c : Bool} {v : AV} (h : aAppend T H t p x = some (c, v, H')) : H.length ≤ H'.length := by
  unfold aAppend at h
  (repeat' split at h) <;> first
    | (cases h; done)
    | (injection h with h; injection h with _ h; injection h with _ h; subst h; simp; done)
theorem aAppendC_len {H H' : AH} {t : TypeId} {p x : AV} {c : Bool} {v : AV} (h : aAppendC T H t p x = some (c, v, H')) : H.length ≤ H'.length := by
  unfold aAppendC at h
  (repeat' split at h) <;> first
    | (cases h; done)
    | (injection h with h; injection h with _ h; injection h with _ h; subst h; simp; done)
theorem aAppendR_len {H H' : AH} {t : TypeId} {p x : AV} {c : Bool} {v : AV} (h : aAppendR T H t p x = some (c, v, H')) : H.length ≤ H'.length := by
  unfold aAppendR at h
  (repeat' split at h) <;> first
    | (cases h; done)
    | (injection h with h; injection h with _ h; injection h with _ h; subst h; simp; done)
theorem aAppendP0_len {H H' : AH} {t : TypeId} {p x : AV} {c : Bool} {v : AV} (h : aAppendP0 T H t p x = some (c, v, H')) : H.length ≤ H'.length := by
  unfold aAppendP0 at h
  (repeat' split at h) <;> first
    | (cases h; done)
    | (injection h with h; injection h with _ h; injection h with _ h; subst h; simp; done)
theorem aAppendO_len {H H' : AH} {t : TypeId} {p x : AV} {c : Bool} {v : AV} (h : aAppendO T H t p x = some (c, v, H')) : H.length ≤ H'.length := by
  unfold aAppendO at h
  (repeat' split at h) <;> first
    | (cases h; done)
    | (injection h with h; injection h with _ h; injection h with _ h; subst h; simp; done)
theorem aAppendP_len {H H' : AH} {t : TypeId} {p x : AV} {c : Bool} {v : AV} (h : aAppendP T H t p x = some (c, v, H')) : H.length ≤ H'.length := by
  unfold aAppendP at h
  split at h
  · rename_i r hr
    rw [h] at hr
    exact aAppendP0_len hr
  · exact aAppendO_len h
theorem aAppend0_len {H H' : AH} {t : TypeId} {p : AV} {c : Bool} {v : AV} (h : aAppend0 T H t p = some (c, v, H')) : H.length ≤ H'.length := by
  unfold aAppend0 at h
  (repeat' split at h) <;> first
    | (cases h; done)
    | (injection h with h; injection h with _ h; injection h with _ h; subst h; simp; done)
theorem aOp_len {E : Env} {H : AH} {op : Op} {c : Bool} {v : AV} {H' : AH} (h : aOp T E H op = some (c, v, H')) : H.length ≤ H'.length := by
  unfold aOp at h
  split at h
  · injection h with h
    injection h with _ h
    injection h with _ h
    subst h
    exact Nat.le_refl _
  · split at h
    · split at h <;> try (cases h; done)
      injection h with h
      injection h with _ h
      injection h with _ h
      subst h
      exact Nat.le_refl _
    · unfold aMake aNewVar aBuildSlice aMakeSlice aStore at h
      (repeat' split at h) <;> first
        | (cases h; done)
        | (rename_i hs; rw [h] at hs; first | exact aAppend_len hs | exact aAppendC_len hs | exact aAppendR_len hs)
        | exact aAppendP_len h
        | exact aAppend0_len h
        | (injection h with h; injection h with _ h; injection h with _ h; subst h; simp; done)
        | (rename_i hs; (repeat' split at hs) <;> first | (cases hs; done) | (injection hs with hs; injection hs with _ hs; injection h with h; injection h with _ h; injection h with _ h; subst h hs; simp; done))

theorem opStep_ok (hT : TOk P T) {n0 : Nat} {ρ0 ρ : Pl} {o : Oper} {E : Env} {H : AH} {K : Env → AH → Prop} {KP : Value → AH → Prop} {a : Act} {w : World} {K' : Act → World → Prop} {Q : Exit → Act → World → Prop} (h : opStep P T N o E H K KP)
    (hK : ∀ a w, Left C n0 ρ0 N D K a w → K' a w) (hP : ∀ pv a w, Left C n0 ρ0 N D (fun E' H' => E' = E ∧ KP pv H') a w → Q (.panic [{ v := pv, recovered := false }]) a w) (hI : Inv C ρ H w) (hE : ERel ρ N D E a) (hX : ExtN n0 ρ0 ρ) (hn : n0 ≤ H.length) : o.wp P a w K' Q := by
  have h := opStep_eq h
  unfold opStep0 at h
  split at h
  · rename_i c v H' hop
    obtain ⟨hc, hp⟩ := h
    rw [normK_eq] at hp
    obtain ⟨u, ρ', w', hr, hI', he, hv⟩ := op_ok hT hI hE hop hc
    obtain ⟨E', hk, hE'⟩ := vPut_ok hp (hE.mono he) hv
    have hk' := hK (a.put o.dst u) w' ⟨ρ', E', H', hk, hI', hE', hX.of he, Nat.le_trans hn (aOp_len hop)⟩
    unfold Oper.wp
    rcases hr with hr | ⟨hr, rfl⟩
    · rw [hr]
      exact hk'
    · rw [hr]
      exact hk'
  · split at h <;> try (exact h.elim)
    · rename_i c ho
      split at h <;> try (exact h.elim)
      rename_i g args hcl
      obtain ⟨hent, hcall⟩ := h
      obtain ⟨ra, hra, hrun⟩ := callee_ok (P := P) hE ho hcl hent
      unfold Oper.wp
      rw [hrun w]
      show Calls P g ra w _
      refine (hcall C ρ w ra hI hra).mono ?_
      rintro e w' (⟨u, v, H', ρ', rfl, hp, hI', hX', hlen, hv⟩ | ⟨pv, H', ρ', rfl, hp, hI', hX', hlen⟩)
      · rw [normK_eq] at hp
        have he := hX'.ext hI
        obtain ⟨E', hk, hE'⟩ := vPut_ok hp (hE.mono he) hv
        exact hK (a.put o.dst u) w' ⟨ρ', E', H', hk, hI', hE', hX.of he, Nat.le_trans hn hlen⟩
      · have he := hX'.ext hI
        exact hP pv a w' ⟨ρ', E, H', ⟨rfl, hp⟩, hI', hE.mono he, hX.of he, Nat.le_trans hn hlen⟩
    · rename_i x ho
      split at h <;> try (exact h.elim)
      rename_i t v hx
      have hv := ev_ok hE x
      rw [hx] at hv
      have hv : a.eval x = .iface t v := hv
      unfold Oper.wp
      have : (execOp a.eval o).run P w = .halt (.panic (.iface t v)) w := by simp [execOp, ho, hv, run_panic_iface]
      rw [this]
      exact hP _ a w ⟨ρ, E, H, ⟨rfl, h⟩, hI, hE, hX, hn⟩
    · rename_i op xt x y yt ho
      split at h <;> try (exact h.elim)
      rename_i hask
      obtain ⟨b, hr⟩ := ask_ok (x := x) (y := y) hT (ev_ok hE x) (ev_ok hE y) hask
      obtain ⟨E', hk, hE'⟩ := vPut_ok (u := .bool b) (h b) hE rfl
      unfold Oper.wp
      have : (execOp a.eval o).run P w = .ok (.value (.bool b)) w := by
        have h3 := hr w
        simp only [execOp, ho, Sem.run_bind, Sem.run_pure] at h3 ⊢
        rw [h3]
        rfl
      rw [this]
      exact hK (a.put o.dst (.bool b)) w ⟨ρ, E', H, hk, hI, hE', hX, hn⟩

theorem ops_ok (hT : TOk P T) {n0 : Nat} {ρ0 : Pl} {ops : List Oper} {Q : Post} : ∀ {l : List Oper} {E : Env} {H : AH} {ρ : Pl} {a : Act} {w : World}, vcOps P T N ops (Q .normal) (fun pv => Q (.pan pv)) l E H → Inv C ρ H w → ERel ρ N D E a → ExtN n0 ρ0 ρ → n0 ≤ H.length →
    wpList P ops.toArray (PostOk C n0 ρ0 N D Q) l a w
  | [], E, H, ρ, a, w, h, hI, hE, hX, hn => ⟨ρ, E, H, h, hI, hE, hX, hn⟩
  | o :: rest, E, H, ρ, a, w, h, hI, hE, hX, hn => by
    have run : ∀ E, ERel ρ N D E a → opStep P T N o E H (vcOps P T N ops (Q .normal) (fun pv => Q (.pan pv)) rest) (fun pv H' => Q (.pan pv) E H') → o.wp P a w (wpList P ops.toArray (PostOk C n0 ρ0 N D Q) rest) (PostOk C n0 ρ0 N D Q) := fun E hE h => opStep_ok hT h (fun a w ⟨ρ', E', H', h', hI', hE', hX', hn'⟩ => ops_ok hT h' hI' hE' hX' hn') (fun pv a w ⟨ρ', E', H', ⟨e, h'⟩, hI', hE', hX', hn'⟩ => ⟨ρ', E, H', h', hI', (by rw [← e]; exact hE'), hX', hn'⟩) hI hE hX hn
    have skip : ∀ E, ERel ρ N D E a → vPut N o.dst (.val undef) E (fun E' => vcOps P T N ops (Q .normal) (fun pv => Q (.pan pv)) rest E' H) → wpList P ops.toArray (PostOk C n0 ρ0 N D Q) rest (a.put o.dst undef) w := fun E hE h => by
      obtain ⟨E', hk, hE'⟩ := vPut_ok (u := undef) h hE rfl
      exact ops_ok hT hk hI hE' hX hn
    unfold vcOps at h
    unfold wpList
    split at h
    · rename_i hg
      rw [if_pos (by simp [Region.wanted, hg])]
      exact .inl (run E hE h)
    · rename_i j want hg
      split at h
      · rename_i b t hb
        have hy := guard_ok hE hb
        have hE2 := hE.known hb
        by_cases hbw : b = want
        · rw [if_pos (by simp [Region.wanted, hg, hy, hbw])]
          exact .inl (run _ (by rw [hbw] at hE2; exact hE2) (by have h1 := h.1 hbw; rwa [putK_eq] at h1))
        · rw [if_neg (by simp [Region.wanted, hg, hy, hbw])]
          have hbn : b = !want := by cases b <;> cases want <;> simp_all
          exact skip _ (by rw [hbn] at hE2; exact hE2) (by have h1 := h.2 hbn; rwa [putK_eq] at h1)
      · rename_i hb
        have hy := guard_ok hE hb
        rw [if_neg (by simp [Region.wanted, hg, hy])]
        exact skip E hE h
      · exact h.elim
end
end Go.Proofs.Ytpbenjpponbjjaa.En
