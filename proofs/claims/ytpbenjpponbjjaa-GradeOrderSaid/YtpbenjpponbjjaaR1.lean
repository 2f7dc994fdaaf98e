/- A function's text run on known values. -/
import Derived.Test.YtpbenjpponbjjaaE15
namespace Go.Proofs.Ytpbenjpponbjjaa.En
open Go.RowKit

section
variable {R : Type}
def natK : Nat → (Nat → Option R) → Option R
  | 0, K => K 0
  | n + 1, K => K (n + 1)
theorem natK_eq (n : Nat) (K : Nat → Option R) : natK n K = K n := by cases n <;> rfl
def intK : Int → (Int → Option R) → Option R
  | .ofNat n, K => natK n fun n => K (.ofNat n)
  | .negSucc n, K => natK n fun n => K (.negSucc n)
theorem intK_eq (n : Int) (K : Int → Option R) : intK n K = K n := by cases n <;> exact natK_eq _ _
def valK (v : AV) (K : AV → Option R) : Option R :=
  match v with
  | .t (.a (.s (.v (.int k n)))) => intK n fun n => K (.t (.a (.s (.v (.int k n)))))
  | .t (.a (.s (.v (.bool true)))) => K (.t (.a (.s (.v (.bool true)))))
  | .t (.a (.s (.v (.bool false)))) => K (.t (.a (.s (.v (.bool false)))))
  | .t (.a (.s (.v u))) => K (.t (.a (.s (.v u))))
  | .t (.a (.s (.ptr b o))) => natK b fun b => natK o fun o => K (.t (.a (.s (.ptr b o))))
  | .t (.a (.s (.slc b o n))) => natK b fun b => natK o fun o => natK n fun n => K (.t (.a (.s (.slc b o n))))
  | .t (.a (.fn f a b)) => K (.t (.a (.fn f a b)))
  | .t (.agg l) => K (.t (.agg l))
  | .tup l => K (.tup l)
  | .any => K .any
theorem valK_eq (v : AV) (K : AV → Option R) : valK v K = K v := by
  unfold valK
  split <;> simp only [intK_eq, natK_eq]
def putR : Env → Nat → AV → (Env → Option R) → Option R
  | [], t, v, K => K [(t, v)]
  | (i, x) :: E, t, v, K => match i == t with
    | true => K ((i, v) :: E)
    | false => putR E t v (fun E' => K ((i, x) :: E'))
theorem putR_eq : ∀ (E : Env) (t : Nat) (v : AV) (K : Env → Option R), putR E t v K = K (E.put t v)
  | [], _, _, _ => rfl
  | (i, x) :: E, t, v, K => by
    simp only [putR, Env.put]
    cases h : i == t
    · simp only [Bool.false_eq_true, if_false]
      exact putR_eq E t v _
    · simp
def rowK : List Int → (List Int → Option R) → Option R
  | [], K => K []
  | n :: r, K => intK n fun n => rowK r fun r => K (n :: r)
theorem rowK_eq : ∀ (l : List Int) (K : List Int → Option R), rowK l K = K l
  | [], _ => rfl
  | n :: r, K => by simp only [rowK, intK_eq, rowK_eq r]
def celK : List A → (List A → Option R) → Option R
  | [], K => K []
  | .s (.v (.int k n)) :: r, K => intK n fun n => celK r fun r => K (.s (.v (.int k n)) :: r)
  | x :: r, K => celK r fun r => K (x :: r)
theorem celK_eq : ∀ (l : List A) (K : List A → Option R), celK l K = K l
  | [], _ => rfl
  | x :: r, K => by
    unfold celK
    split
    · rename_i h
      cases h
    · rename_i h
      cases h
      simp only [intK_eq, celK_eq]
    · rename_i h
      cases h
      simp only [celK_eq]
def natsK : List Nat → (List Nat → Option R) → Option R
  | [], K => K []
  | n :: r, K => natK n fun n => natsK r fun r => K (n :: r)
theorem natsK_eq : ∀ (l : List Nat) (K : List Nat → Option R), natsK l K = K l
  | [], _ => rfl
  | n :: r, K => by simp only [natsK, natK_eq, natsK_eq r]
def bodK : Body → (Body → Option R) → Option R
  | .dead, K => K .dead
  | .cells l, K => celK l fun l => K (.cells l)
  | .rows k l, K => rowK l fun l => K (.rows k l)
  | .recs p l, K => rowK l fun l => K (.recs p l)
  | .ptrs b l, K => natK b fun b => natsK l fun l => K (.ptrs b l)
theorem bodK_eq (b : Body) (K : Body → Option R) : bodK b K = K b := by cases b <;> simp only [bodK, celK_eq, rowK_eq, natsK_eq, natK_eq]
def memK : AH → (AH → Option R) → Option R
  | [], K => K []
  | ⟨a, b, c, d, e⟩ :: r, K => bodK e fun e => memK r fun r => K (⟨a, b, c, d, e⟩ :: r)
theorem memK_eq : ∀ (H : AH) (K : AH → Option R), memK H K = K H
  | [], _ => rfl
  | ⟨a, b, c, d, e⟩ :: r, K => by simp only [memK, bodK_eq, memK_eq r]
end

def memZ {R : Type} (z : Bool) (H : AH) (K : AH → Option R) : Option R :=
  match z with
  | true => K H
  | false => memK H K
theorem memZ_eq {R : Type} (z : Bool) (H : AH) (K : AH → Option R) : memZ z H K = K H := by
  cases z
  · exact memK_eq H K
  · rfl
/-- how a call ends -/
inductive Rs where
  | ret (v : AV)
  | pan (v : Value)
abbrev CallF := Nat → List AV → AH → Option (Rs × AH)
def RsOk (P : Program) (g : Nat) (args : List AV) (H : AH) : Rs → AH → Prop
  | .ret v, H' => CallA P g args H (fun v1 H1 => v1 = v ∧ H1 = H')
  | .pan pv, H' => CallE P g args H (fun _ _ => False) (fun v1 H1 => v1 = pv ∧ H1 = H')
def CallOk (P : Program) (F : CallF) : Prop := ∀ g args H r H', F g args H = some (r, H') → RsOk P g args H r H'
def dstR {R : Type} (z : Bool) (N : Nat) (dst : Option Nat) (v : AV) (E : Env) (K : Env → Option R) : Option R :=
  match dst with
  | none => K E
  | some d => match decide (d < N) with
    | true => match z with
      | true => putR E d v K
      | false => valK v fun v => putR E d v K
    | false => none
theorem dstR_ok {R : Type} {z : Bool} {N : Nat} {dst : Option Nat} {v : AV} {E : Env} {K : Env → Option R} {r : R} (h : dstR z N dst v E K = some r) {Q : Env → Prop} (hQ : ∀ E', K E' = some r → Q E') : vPut N dst v E Q := by
  unfold dstR at h
  unfold vPut
  cases dst with
  | none => exact hQ _ h
  | some d =>
    dsimp only at h ⊢
    split at h
    · rename_i hd
      rw [hd]
      dsimp only
      rw [putK_eq]
      split at h
      · rw [putR_eq] at h
        exact hQ _ h
      · rw [valK_eq, putR_eq] at h
        exact hQ _ h
    · cases h
def stepR (T : TT) (z : Bool) (N : Nat) (F : CallF) (o : Oper) (E : Env) (H : AH) : Option (Env × AH) :=
  match aStill T E H o.op with
  | some (true, v) => dstR z N o.dst v E fun E' => some (E', H)
  | some (false, _) => none
  | none => match aOp T E H o.op with
    | some (true, v, H') => memZ z H' fun H'' => dstR z N o.dst v E fun E' => some (E', H'')
    | some (false, _) => none
    | none => match o.op with
      | .call c => match calleeOf E c with
        | some (g, args) => match F g args H with
          | some (.ret v, H') => dstR z N o.dst v E fun E' => some (E', H')
          | _ => none
        | none => none
      | _ => none
/-- an operation that panics -/
def stepP (T : TT) (F : CallF) (o : Oper) (E : Env) (H : AH) : Option (Value × AH) :=
  match o.op with
  | .panic x => match ev E x with
    | .t (.a (.s (.v (.iface t v)))) => some (.iface t v, H)
    | _ => none
  | .call c => match aOp T E H (.call c) with
    | some _ => none
    | none => match calleeOf E c with
      | some (g, args) => match F g args H with
        | some (.pan pv, H') => some (pv, H')
        | _ => none
      | none => none
  | _ => none
def opsR (T : TT) (z : Bool) (N : Nat) (F : CallF) (ops : List Oper) : List Oper → Env → AH → Option (AX × Env × AH)
  | [], E, H => some (.normal, E, H)
  | o :: rest, E, H => match o.guard with
    | none => match stepR T z N F o E H with
      | some (E', H') => opsR T z N F ops rest E' H'
      | none => match stepP T F o E H with
        | some (pv, H') => some (.pan pv, E, H')
        | none => none
    | some (j, want) => match guardVal ops E j with
      | some (some (b, t)) => match b == want with
        | true => putR E t (.boo want) fun E1 => match stepR T z N F o E1 H with
          | some (E', H') => opsR T z N F ops rest E' H'
          | none => match stepP T F o E1 H with
            | some (pv, H') => some (.pan pv, E1, H')
            | none => none
        | false => putR E t (.boo (!want)) fun E1 => dstR z N o.dst (.val undef) E1 fun E' => opsR T z N F ops rest E' H
      | some none => dstR z N o.dst (.val undef) E fun E' => opsR T z N F ops rest E' H
      | none => none
section
variable {P : Program} {T : TT} {z : Bool} {N : Nat} {F : CallF}
theorem vPut_mono {N : Nat} {dst : Option Nat} {v : AV} {E : Env} {K K' : Env → Prop} (h : vPut N dst v E K) (hk : ∀ E', K E' → K' E') : vPut N dst v E K' := by
  unfold vPut at h ⊢
  cases dst with
  | none => exact hk _ h
  | some d =>
    dsimp only at h ⊢
    split
    · rename_i hd
      rw [hd] at h
      dsimp only at h
      rw [putK_eq] at h ⊢
      exact hk _ h
    · rename_i hd
      rw [hd] at h
      exact h
theorem CallA.mono {P : Program} {g : FuncId} {args : List AV} {H : AH} {K K' : AV → AH → Prop} (h : CallA P g args H K) (hk : ∀ v H', K v H' → K' v H') : CallA P g args H K' := by
  refine ⟨h.1, fun C ρ w ra hI hra => (h.2 C ρ w ra hI hra).mono ?_⟩
  rintro e w' ⟨u, v, H', ρ', h1, h2, h3⟩
  exact ⟨u, v, H', ρ', h1, hk _ _ h2, h3⟩
theorem opStep_of {o : Oper} {E : Env} {H : AH} {K : Env → AH → Prop} {KP : Value → AH → Prop} (h : opStep0 P T N o E H K KP) : opStep P T N o E H K KP := by
  unfold opStep
  split
  · rename_i x ho
    rw [evK_eq]
    unfold opStep0 aOp aStill at h
    rw [ho] at h
    dsimp only at h
    rw [normK_eq] at h
    exact h.2
  · rename_i x ho
    rw [evK_eq]
    unfold opStep0 aOp aStill at h
    rw [ho] at h
    dsimp only at h
    rw [normK_eq] at h
    exact h.2
  · exact h
theorem stepR_ok (hF : CallOk P F) {o : Oper} {E : Env} {H : AH} {r : Env × AH} (h : stepR T z N F o E H = some r) {Q : Env → AH → Prop} (hQ : Q r.1 r.2) {KP : Value → AH → Prop} : opStep P T N o E H Q KP := by
  refine opStep_of ?_
  unfold stepR at h
  unfold opStep0
  split at h
  · rename_i v hs
    have : aOp T E H o.op = some (true, v, H) := by unfold aOp; rw [hs]
    rw [this]
    dsimp only
    rw [normK_eq]
    refine ⟨rfl, dstR_ok h ?_⟩
    intro E' he
    injection he with he
    subst he
    exact hQ
  · cases h
  · split at h
    · rename_i v H' hs
      rw [hs]
      dsimp only
      rw [normK_eq]
      rw [memZ_eq] at h
      refine ⟨rfl, dstR_ok h ?_⟩
      intro E' he
      injection he with he
      subst he
      exact hQ
    · cases h
    · rename_i hs
      rw [hs]
      dsimp only
      split at h <;> try (cases h; done)
      rename_i c ho
      rw [ho]
      dsimp only
      split at h <;> try (cases h; done)
      rename_i g args hc
      rw [hc]
      dsimp only
      split at h <;> try (cases h; done)
      rename_i v H' hf
      refine (CallA.mono (show CallA P g args H _ from hF g args H (.ret v) H' hf) ?_).e
      rintro v1 H1 ⟨rfl, rfl⟩
      rw [normK_eq]
      refine dstR_ok h ?_
      intro E' he
      injection he with he
      subst he
      exact hQ
theorem stepP_ok (hF : CallOk P F) {o : Oper} {E : Env} {H : AH} {pv : Value} {H' : AH} (h : stepP T F o E H = some (pv, H')) {Q : Env → AH → Prop} {KP : Value → AH → Prop} (hQ : KP pv H') : opStep P T N o E H Q KP := by
  refine opStep_of ?_
  unfold stepP at h
  unfold opStep0
  split at h <;> try (cases h; done)
  · rename_i x ho
    rw [ho]
    split at h <;> try (cases h; done)
    rename_i t v hx
    simp only [Option.some.injEq, Prod.mk.injEq] at h
    obtain ⟨rfl, rfl⟩ := h
    have : aOp T E H (.panic x) = none := rfl
    rw [this]
    dsimp only
    rw [hx]
    exact hQ
  · rename_i c ho
    rw [ho]
    split at h <;> try (cases h; done)
    rename_i ha
    rw [ha]
    dsimp only
    split at h <;> try (cases h; done)
    rename_i g args hc
    rw [hc]
    dsimp only
    split at h <;> try (cases h; done)
    rename_i pv' H1 hf
    simp only [Option.some.injEq, Prod.mk.injEq] at h
    obtain ⟨rfl, rfl⟩ := h
    have hcall : CallE P g args H (fun _ _ => False) (fun v1 H2 => v1 = pv' ∧ H2 = H1) := hF g args H (.pan pv') H1 hf
    refine ⟨hcall.1, fun C ρ w ra hI hra => (hcall.2 C ρ w ra hI hra).mono ?_⟩
    rintro e w' (⟨_, _, _, _, _, h, _⟩ | ⟨pv2, H2, ρ', rfl, ⟨rfl, rfl⟩, h2⟩)
    · exact h.elim
    · exact .inr ⟨_, _, ρ', rfl, hQ, h2⟩
theorem opsR_ok (hF : CallOk P F) {ops : List Oper} {x : AX} {E2 : Env} {H2 : AH} {Q : Post} (hQ : Q x E2 H2) : ∀ {l : List Oper} {E : Env} {H : AH}, opsR T z N F ops l E H = some (x, E2, H2) → vcOps P T N ops (Q .normal) (fun pv => Q (.pan pv)) l E H
  | [], E, H, h => by
    simp only [opsR, Option.some.injEq, Prod.mk.injEq] at h
    obtain ⟨rfl, rfl, rfl⟩ := h
    exact hQ
  | o :: rest, E, H, h => by
    unfold opsR at h
    unfold vcOps
    split at h
    · rename_i hg
      rw [hg]
      split at h
      · rename_i E' H' hs
        exact stepR_ok hF hs (opsR_ok hF hQ h)
      · split at h <;> try (cases h; done)
        rename_i pv H' hs
        simp only [Option.some.injEq, Prod.mk.injEq] at h
        obtain ⟨rfl, rfl, rfl⟩ := h
        exact stepP_ok hF hs hQ
    · rename_i j want hg
      rw [hg]
      dsimp only
      split at h <;> try (cases h; done)
      · rename_i b t hb
        rw [hb]
        dsimp only
        split at h
        · rename_i hbw
          obtain rfl := beq_iff_eq.1 hbw
          refine ⟨fun _ => ?_, fun e => absurd e (by cases b <;> decide)⟩
          rw [putR_eq] at h
          rw [putK_eq]
          split at h
          · rename_i E' H' hs
            exact stepR_ok hF hs (opsR_ok hF hQ h)
          · split at h <;> try (cases h; done)
            rename_i pv H' hs
            simp only [Option.some.injEq, Prod.mk.injEq] at h
            obtain ⟨rfl, rfl, rfl⟩ := h
            exact stepP_ok hF hs hQ
        · rename_i hbw
          refine ⟨fun e => absurd e (by simpa using hbw), fun _ => ?_⟩
          rw [putR_eq] at h
          rw [putK_eq]
          exact dstR_ok h fun E' he => opsR_ok hF hQ he
      · rename_i hb
        rw [hb]
        exact dstR_ok h fun E' he => opsR_ok hF hQ he
end
end Go.Proofs.Ytpbenjpponbjjaa.En
