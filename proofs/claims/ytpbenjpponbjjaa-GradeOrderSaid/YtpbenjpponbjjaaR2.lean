/- A function's text run on known values (2). -/
import Derived.Test.YtpbenjpponbjjaaR1
import Derived.Test.YtpbenjpponbjjaaE18
import Derived.Test.YtpbenjpponbjjaaE19
import Derived.LoopN
namespace Go.Proofs.Ytpbenjpponbjjaa.En
open Go.RowKit

theorem S.ren_some (x : S) : x.ren some = x := by cases x <;> rfl
theorem rens_some : ∀ l : List S, rens some l = l
  | [] => rfl
  | x :: l => by rw [rens, S.ren_some, rens_some l]
theorem A.ren_some (x : A) : x.ren some = x := by cases x <;> simp only [A.ren, S.ren_some, rens_some]
theorem renA_some : ∀ l : List A, renA some l = l
  | [] => rfl
  | x :: l => by rw [renA, A.ren_some, renA_some l]
theorem AT.ren_some (x : AT) : x.ren some = x := by cases x <;> simp only [AT.ren, A.ren_some, renA_some]
theorem renT_some : ∀ l : List AT, renT some l = l
  | [] => rfl
  | x :: l => by rw [renT, AT.ren_some, renT_some l]
theorem AV.ren_some (x : AV) : x.ren some = x := by cases x <;> simp only [AV.ren, AT.ren_some, renT_some]
theorem Body.ren_some (x : Body) : x.ren some = x := by cases x <;> simp only [Body.ren, renA_some]
theorem renL_some : ∀ l : List AV, renL some l = l
  | [] => rfl
  | x :: l => by rw [renL, AV.ren_some, renL_some l]

def froze : AH → AH
  | [] => []
  | b :: r => { b with rw := false } :: froze r
theorem froze_len : ∀ H : AH, (froze H).length = H.length
  | [] => rfl
  | b :: r => by simp [froze, froze_len r]
theorem froze_ro : ∀ H : AH, allRo (froze H) = true
  | [] => rfl
  | b :: r => by simp [froze, allRo, froze_ro r]
def okBodies (L : Nat) : AH → Bool
  | [] => true
  | b :: r => b.body.ok some L && okBodies L r
theorem rngB_some {M : Nat} : ∀ n, n ≤ M → rngB some M n = true
  | 0, _ => rfl
  | n + 1, h => by
    simp only [rngB, Bool.and_eq_true]
    exact ⟨decide_eq_true (by omega), rngB_some n (by omega)⟩
theorem fixB_some : ∀ n, fixB some n = true
  | 0 => rfl
  | n + 1 => by simp [fixB, fixB_some n]
theorem injB_some (H : AH) : injB some H = true := by
  unfold injB
  rw [List.all_eq_true]
  intro i hi
  rw [List.all_eq_true]
  intro j hj
  by_cases h : i = j <;> simp [h]
theorem heapW_pre {L : Nat} : ∀ (H2 : AH) (H : AH) (i : Nat), (∀ q b, H2[q]? = some b → ∃ a, H[i + q]? = some a ∧ (b.rw = true → a.rw = true) ∧ a.ty = b.ty ∧ a.sz = b.sz ∧ (b.fix = true → a.fix = true) ∧ a.body = b.body) → okBodies L H2 = true → HeapW some L H i H2
  | [], _, _, _, _ => trivial
  | b :: r, H, i, h, hk => by
    simp only [okBodies, Bool.and_eq_true] at hk
    refine ⟨?_, heapW_pre r H (i + 1) (fun q c hc => ?_) hk.2⟩
    · unfold BlkW
      split
      · trivial
      · obtain ⟨a, h1, h2, h3, h4, h5, h6⟩ := h 0 b rfl
        rw [Nat.add_zero] at h1
        dsimp only
        rw [h1]
        exact ⟨h2, h3, h4, h5, hk.1, by rw [h6, Body.ren_some]⟩
    · obtain ⟨a, h1, h2⟩ := h (q + 1) c (by simpa using hc)
      exact ⟨a, by rw [← h1]; congr 1; omega, h2⟩
theorem froze_get : ∀ {H : AH} {q : Nat} {b : Blk}, (froze H)[q]? = some b → ∃ a, H[q]? = some a ∧ (b.rw = true → a.rw = true) ∧ a.ty = b.ty ∧ a.sz = b.sz ∧ (b.fix = true → a.fix = true) ∧ a.body = b.body
  | [], _, _, h => by simp [froze] at h
  | c :: r, 0, b, h => by
    simp [froze] at h
    subst h
    exact ⟨c, rfl, fun e => (by cases e), rfl, rfl, id, rfl⟩
  | c :: r, q + 1, b, h => by
    simp [froze] at h
    obtain ⟨a, ha, h2⟩ := froze_get h
    exact ⟨a, by simpa using ha, h2⟩
theorem heapW_froze {H : AH} (h : okBodies H.length H = true) : HeapW some (froze H).length H 0 (froze H) := by
  refine heapW_pre _ _ _ (fun q b hb => ?_) ?_
  · rw [Nat.zero_add]
    exact froze_get hb
  · rw [froze_len]
    have : ∀ (L : Nat) (H : AH), okBodies L (froze H) = okBodies L H := by
      intro L H
      induction H with
      | nil => rfl
      | cons b r ih => simp only [froze, okBodies, ih]
    rw [this]
    exact h

def stepQ (T : TT) (z : Bool) (N : Nat) (F : CallF) (o : Oper) (E : Env) (H : AH) : Option Env :=
  match aStill T E H o.op with
  | some (true, v) => dstR z N o.dst v E some
  | some (false, _) => none
  | none => match o.op with
    | .build t parts => match aBuild T t (parts.toList.map fun (i, x) => (i, ev E x)) with
      | some (true, v) => dstR z N o.dst v E some
      | _ => none
    | .call c => match calleeOf E c with
      | some (g, args) => match okL some H.length args && okBodies H.length H with
        | true => match F g args (froze H) with
          | some (.ret v, _) => match (plain v).isSome with
            | true => dstR z N o.dst v E some
            | false => none
          | _ => none
        | false => none
      | none => none
    | _ => none
def quietR (T : TT) (z : Bool) (N : Nat) (F : CallF) (ops : List Oper) (H : AH) : List Oper → Env → Option Env
  | [], E => some E
  | o :: rest, E => match o.guard with
    | none => match stepQ T z N F o E H with
      | some E' => quietR T z N F ops H rest E'
      | none => none
    | some (j, want) => match guardVal ops E j with
      | some (some (b, t)) => match b == want with
        | true => putR E t (.boo want) fun E1 => match stepQ T z N F o E1 H with
          | some E' => quietR T z N F ops H rest E'
          | none => none
        | false => putR E t (.boo (!want)) fun E1 => dstR z N o.dst (.val undef) E1 fun E' => quietR T z N F ops H rest E'
      | some none => dstR z N o.dst (.val undef) E fun E' => quietR T z N F ops H rest E'
      | none => none
/-! ### a region that draws its order, with makers -/
def takeR (T : TT) (z : Bool) (N : Nat) (ops : List Oper) (o : Oper) (E : Env) (Hm : AH) : Option Env :=
  match o.guard with
  | none => stepQ T z N (fun _ _ _ => none) o E Hm
  | some (j, want) => match guardVal ops E j with
    | some (some (b, t)) => match b == want with
      | true => putR E t (.boo want) fun E1 => stepQ T z N (fun _ _ _ => none) o E1 Hm
      | false => putR E t (.boo (!want)) fun E1 => dstR z N o.dst (.val undef) E1 some
    | some none => dstR z N o.dst (.val undef) E some
    | none => none
def coreR (T : TT) (z : Bool) (N : Nat) (F : CallF) (o : Oper) (κ : Nat → Bool) (E : Env) (H : AH) : Option (Env × AH) :=
  match stepR T z N F o E (roW κ 0 H) with
  | some (E', H') => match bkOk κ 0 H H' with
    | true => memZ z (bkW κ 0 H H') fun H2 => some (E', H2)
    | false => none
  | none => none
def makeR (T : TT) (z : Bool) (N : Nat) (F : CallF) (ops : List Oper) (o : Oper) (κ : Nat → Bool) (E : Env) (H : AH) : Option (Env × AH) :=
  match o.guard with
  | none => coreR T z N F o κ E H
  | some (j, want) => match guardVal ops E j with
    | some (some (b, t)) => match b == want with
      | true => putR E t (.boo want) fun E1 => coreR T z N F o κ E1 H
      | false => putR E t (.boo (!want)) fun E1 => dstR z N o.dst (.val undef) E1 fun E' => some (E', H)
    | some none => dstR z N o.dst (.val undef) E fun E' => some (E', H)
    | none => none
/-- one that comes up alone and panics -/
def panR (T : TT) (F : CallF) (o : Oper) (κ : Nat → Bool) (E : Env) (H : AH) : Option (Value × AH) :=
  match o.guard with
  | none => match stepP T F o E (roW κ 0 H) with
    | some (pv, H') => match bkOk κ 0 H H' with
      | true => some (pv, bkW κ 0 H H')
      | false => none
    | none => none
  | some _ => none
def findR (T : TT) (z : Bool) (N : Nat) (ops : Array Oper) (G : Wr) (H0 : AH) (listed : Array Bool) (E : Env) : List Nat → Option (Nat × List Nat × Env)
  | [] => none
  | i :: r => match ops.toList[i]? with
    | some o => match quietKind o.op with
      | true => match takeR T z N ops.toList o E (maskH (fun b => !inL ((G.filter fun p => !(waits ops i).contains p.2).map (·.1)) b) 0 H0) with
        | some E' => some (i, (G.filter fun p => !(waits ops i).contains p.2).map (·.1), E')
        | none => findR T z N ops G H0 listed E r
      | false => findR T z N ops G H0 listed E r
    | none => findR T z N ops G H0 listed E r
def dR (T : TT) (z : Bool) (N : Nat) (F : CallF) (ops : Array Oper) (G : Wr) (H0 : AH) : Nat → Array Bool → Env → AH → Option (AX × Env × AH × Sch)
  | 0, _, E, H => some (.normal, E, H, [])
  | n + 1, listed, E, H => match Region.ready .any ops listed with
    | [] => some (.normal, E, H, [])
    | [i] => match ops.toList[i]? with
      | some o => match makeR T z N F ops.toList o (fun b => Nat.ble H0.length b || inL ((G.filter fun p => p.2 == i || listed.getD p.2 false).map (·.1)) b) E H with
        | some (E', H') => match dR T z N F ops G H0 n (listed.setIfInBounds i true) E' H' with
          | some (x, E2, H2, s) => some (x, E2, H2, (false, i, (G.filter fun p => p.2 == i || listed.getD p.2 false).map (·.1)) :: s)
          | none => none
        | none => match panR T F o (fun b => Nat.ble H0.length b || inL ((G.filter fun p => p.2 == i || listed.getD p.2 false).map (·.1)) b) E H with
          | some (pv, H') => some (.pan pv, E, H', [(false, i, (G.filter fun p => p.2 == i || listed.getD p.2 false).map (·.1))])
          | none => none
      | none => none
    | rs => match findR T z N ops G H0 listed E rs with
      | some (i, dead, E') => match dR T z N F ops G H0 n (listed.setIfInBounds i true) E' H with
        | some (x, E2, H2, s) => some (x, E2, H2, (true, i, dead) :: s)
        | none => none
      | none => none
/-- what a region writes, found by running it in the text's order -/
def wrOf (L : Nat) (k : Nat) (E : Env) (o : Oper) (G : Wr) : Wr :=
  match o.op with
  | .store _ a _ => match ev E a with
    | .t (.a (.s (.ptr b _))) => match Nat.blt b L with | true => (b, k) :: G | false => G
    | _ => G
  | .call c => match c.callee, c.args.toList with
    | .builtin .append, [s, _] => match ev E s with
      | .t (.a (.s (.slc b _ _))) => match Nat.blt b L with | true => (b, k) :: G | false => G
      | _ => G
    | _, _ => G
  | _ => G
def preR (T : TT) (z : Bool) (N : Nat) (F : CallF) (ops : List Oper) (L : Nat) : List Oper → Nat → Env → AH → Wr → Wr
  | [], _, _, _, G => G
  | o :: rest, k, E, H, G => match o.guard with
    | none => match stepR T z N F o E H with
      | some (E', H') => preR T z N F ops L rest (k + 1) E' H' (wrOf L k E o G)
      | none => G
    | some (j, want) => match guardVal ops E j with
      | some (some (b, t)) => match b == want with
        | true => match stepR T z N F o E H with
          | some (E', H') => preR T z N F ops L rest (k + 1) E' H' (wrOf L k E o G)
          | none => G
        | false => preR T z N F ops L rest (k + 1) (E.put t (.boo (!want))) H G
      | _ => match o.dst with
        | some d => preR T z N F ops L rest (k + 1) (E.put d (.val undef)) H G
        | none => preR T z N F ops L rest (k + 1) E H G
def drawR (T : TT) (z : Bool) (N : Nat) (F : CallF) (ops : Array Oper) (E : Env) (H : AH) : Option (AX × Env × AH) :=
  match dR T z N F ops (preR T z N F ops.toList H.length ops.toList 0 E H []) H ops.size (Array.replicate ops.size false) E H with
  | some (.normal, E', H', s) => match schB ops (preR T z N F ops.toList H.length ops.toList 0 E H []) s with
    | true => some (.normal, E', H')
    | false => none
  | some (.pan pv, E', H', s) => match schB ops (preR T z N F ops.toList H.length ops.toList 0 E H []) s with
    | true => some (.pan pv, forget ops.toList E', H')
    | false => none
  | _ => none
/-- a region that draws its order and makes nothing: its calls see the memory of the start -/
def quietX (T : TT) (z : Bool) (N : Nat) (F : CallF) (ops : Array Oper) (E : Env) (H : AH) : Option Env :=
  match makes ops.toList with
  | true => none
  | false => match Region.lexB .any ops with
    | true => quietR T z N F ops.toList H ops.toList E
    | false => none
def iterR (body : Env → AH → Option (AX × Env × AH)) : Nat → Env → AH → Option (AX × Env × AH)
  | 0, _, _ => none
  | n + 1, E, H => match body E H with
    | some (.normal, E', H') => iterR body n E' H'
    | r => r
def execR (T : TT) (z : Bool) (N : Nat) (F : CallF) (L : Nat) : Code → Env → AH → Option (AX × Env × AH)
  | .skip, E, H => some (.normal, E, H)
  | .label _, E, H => some (.normal, E, H)
  | .region _ ops false, E, H => opsR T z N F ops.toList ops.toList E H
  | .region _ ops true, E, H => match quietX T z N F ops E H with
    | some E' => some (.normal, E', H)
    | none => drawR T z N F ops E H
  | .seq x y, E, H => match execR T z N F L x E H with
    | some (.normal, E', H') => execR T z N F L y E' H'
    | r => r
  | .cond c x y, E, H => match ev E c with
    | .t (.a (.s (.v (.bool true)))) => execR T z N F L x E H
    | .t (.a (.s (.v (.bool false)))) => execR T z N F L y E H
    | _ => none
  | .block id c, E, H => match execR T z N F L c E H with
    | some (.exit i, E', H') => match i == id with
      | true => some (.normal, E', H')
      | false => some (.exit i, E', H')
    | r => r
  | .loop c, E, H => iterR (fun E H => execR T z N F L c E H) L E H
  | .exit id, E, H => some (.exit id, E, H)
  | .ret, E, H => some (.ret, E, H)
  | _, _, _ => none
def endR (T : TT) (z : Bool) (fn : Func) (n0 : Nat) (E : Env) (H : AH) : Option (AV × AH) :=
  match decide (n0 ≤ H.length) with
  | false => none
  | true => match resA T E H fn.results.toList with
  | some (true, l) => match (tupOf l).ok some n0 && okBodies n0 (H.take n0) with
    | true => memZ z (H.take n0) fun H' => some (tupOf l, H')
    | false => match (tupOf l).ok some H.length && okBodies H.length H with
      | true => some (tupOf l, H)
      | false => none
  | _ => none
def endP (n0 : Nat) (pv : Value) (H : AH) : Option (Rs × AH) :=
  match decide (n0 ≤ H.length) && okBodies n0 (H.take n0) with
  | true => some (.pan pv, H.take n0)
  | false => none
def retR : Option (AV × AH) → Option (Rs × AH)
  | some (v, H) => some (.ret v, H)
  | none => none
/-- the closures that may be deferred -/
structure DF where
  et : TypeId
  st : TypeId
  is : Nat → Bool
def noDF : DF := ⟨0, 0, fun _ => false⟩
def defParts : Code → Option (Code × Nat × Nat × Nat × Code)
  | .seq r0 (.seq (.region _ ops false) rest) => match ops.toList with
    | [⟨some d, .makeFunc (.func g) first cap, _, _, _, none⟩, ⟨none, .defer ⟨.value (.tmp d'), as, _⟩, _, _, _, none⟩] => match first.toList, cap.toList, as.toList with
      | [], [.tmp p], [] => match d == d' with
        | true => some (r0, d, g, p, rest)
        | false => none
      | _, _, _ => none
    | _ => none
  | _ => none
def setR (T : TT) (z : Bool) (et : TypeId) (fn : Func) (n0 b : Nat) (n : Int) (E : Env) (H : AH) : Option (Rs × AH) :=
  match aStore T H et (.t (.a (.s (.ptr b 0)))) (.int .i64 n) with
  | some (true, H') => retR (endR T z fn n0 E H')
  | _ => none
def plainR (T : TT) (z : Bool) (F : CallF) (L : Nat) (fn : Func) (c : Code) (args : List AV) (H : AH) : Option (Rs × AH) :=
  match execR T z fn.ntmps F L c (argEnv 0 args) H with
  | some (.normal, E, H') => retR (endR T z fn H.length E H')
  | some (.ret, E, H') => retR (endR T z fn H.length E H')
  | some (.pan pv, _, H') => endP H.length pv H'
  | _ => none
def defR (T : TT) (z : Bool) (F : CallF) (L : Nat) (D : DF) (fn : Func) (r0 : Code) (d g p : Nat) (rest : Code) (args : List AV) (H : AH) : Option (Rs × AH) :=
  match execR T z fn.ntmps F L r0 (argEnv 0 args) H with
  | some (.normal, E, H1) => match E.get p with
    | .t (.a (.s (.ptr b 0))) => match Nat.blt d fn.ntmps && (Nat.ble H.length (b + 1) && Nat.blt b H1.length) with
      | true => match execR T z fn.ntmps F L rest (E.put d (.t (.a (.fn (.func g) [] [.ptr b 0])))) H1 with
        | some (.normal, E2, H2) => setR T z D.et fn H.length b 0 E2 H2
        | some (.ret, E2, H2) => setR T z D.et fn H.length b 0 E2 H2
        | some (.pan (.iface t (.int .i64 n)), E2, H2) => match t == D.st with
          | true => setR T z D.et fn H.length b n E2 H2
          | false => none
        | _ => none
      | false => none
    | _ => none
  | _ => none
def callR (P : Program) (T : TT) (z : Bool) (D : DF) (K0 : CallF) (L : Nat) : Nat → CallF
  | 0 => K0
  | n + 1 => fun g args H => match K0 g args H with
    | some r => some r
    | none => match P.funcs[g]? with
    | some fn => match fn.body with
      | some c => match !(fn.name == "runtime.NumGoroutine") && decide (args.length ≤ fn.ntmps) with
        | true => match defParts c with
          | some (r0, d, k, p, rest) => match D.is k with
            | true => defR T z (callR P T z D K0 L n) L D fn r0 d k p rest args H
            | false => plainR T z (callR P T z D K0 L n) L fn c args H
          | none => plainR T z (callR P T z D K0 L n) L fn c args H
        | false => none
      | none => none
    | none => none

section
variable {P : Program} {T : TT} {z : Bool} {N : Nat} {D : List Deferred} {F : CallF}
theorem opStepQ_of {o : Oper} {E : Env} {H : AH} {K : Env → Prop} (h : opStepQ0 P T N o E H K) : opStepQ P T N o E H K := by
  unfold opStepQ
  split
  · rename_i x ho
    rw [evK_eq]
    unfold opStepQ0 aStill at h
    rw [ho] at h
    exact h.2
  · rename_i x ho
    rw [evK_eq]
    unfold opStepQ0 aStill at h
    rw [ho] at h
    exact h.2
  · exact h
theorem stepQ_ok (hF : CallOk P F) {o : Oper} {E : Env} {H : AH} {r : Env} (h : stepQ T z N F o E H = some r) {Q : Env → Prop} (hQ : Q r) : opStepQ P T N o E H Q := by
  refine opStepQ_of ?_
  have hq : ∀ E', some E' = some r → Q E' := fun E' he => by
    injection he with he
    subst he
    exact hQ
  unfold stepQ at h
  unfold opStepQ0
  split at h
  · rename_i v hs
    rw [hs]
    exact ⟨rfl, dstR_ok h hq⟩
  · cases h
  · rename_i hs
    rw [hs]
    dsimp only
    split at h <;> try (cases h; done)
    · rename_i t parts ho
      rw [ho]
      dsimp only
      split at h <;> try (cases h; done)
      rename_i v hb
      rw [hb]
      exact ⟨rfl, dstR_ok h hq⟩
    · rename_i c ho
      rw [ho]
      dsimp only
      split at h <;> try (cases h; done)
      rename_i g args hc
      rw [hc]
      dsimp only
      split at h <;> try (cases h; done)
      rename_i hk
      simp only [Bool.and_eq_true] at hk
      split at h <;> try (cases h; done)
      rename_i v H1 hf
      split at h <;> try (cases h; done)
      rename_i hp
      obtain ⟨pv, hp⟩ := Option.isSome_iff_exists.1 hp
      exact ⟨v, qcall (show CallA P g args (froze H) _ from hF g args _ (.ret v) H1 hf) some (renL_some args).symm (by rw [froze_len]; exact hk.1) (heapW_froze hk.2) (rngB_some _ (by rw [froze_len]; exact Nat.le_refl _)) (froze_ro H) hp (fun _ _ h => h.1), dstR_ok h hq⟩
theorem quietR_ok (hF : CallOk P F) {ops : List Oper} {H : AH} {r : Env} {Q : Env → Prop} (hQ : Q r) : ∀ {l : List Oper} {E : Env}, quietR T z N F ops H l E = some r → vcQ P T N ops H Q l E
  | [], E, h => by
    injection h with h
    subst h
    exact hQ
  | o :: rest, E, h => by
    unfold quietR at h
    unfold vcQ
    split at h
    · rename_i hg
      split at h <;> try (cases h; done)
      rename_i E' hs
      rw [hg]
      exact stepQ_ok hF hs (quietR_ok hF hQ h)
    · rename_i j want hg
      rw [hg]
      dsimp only
      split at h <;> try (cases h; done)
      · rename_i b t hb
        rw [hb]
        dsimp only
        split at h
        · rename_i hbw
          obtain rfl := beq_iff_eq.1 hbw
          refine ⟨fun _ => ?_, fun e => absurd e (by cases b <;> decide)⟩
          rw [putR_eq] at h
          rw [putK_eq]
          split at h <;> try (cases h; done)
          rename_i E' hs
          exact stepQ_ok hF hs (quietR_ok hF hQ h)
        · rename_i hbw
          refine ⟨fun e => absurd e (by simpa using hbw), fun _ => ?_⟩
          rw [putR_eq] at h
          rw [putK_eq]
          exact dstR_ok h fun E' he => quietR_ok hF hQ he
      · rename_i hb
        rw [hb]
        exact dstR_ok h fun E' he => quietR_ok hF hQ he
theorem noF : CallOk P (fun _ _ _ => none) := fun _ _ _ _ _ h => by cases h
theorem takeR_ok {ops : List Oper} {o : Oper} {E : Env} {Hm : AH} {r : Env} {Q : Env → Prop} (h : takeR T z N ops o E Hm = some r) (hQ : Q r) : takeD P T N ops o E Hm Q := by
  unfold takeR at h
  unfold takeD
  split at h
  · rename_i hg
    rw [hg]
    exact stepQ_ok noF h hQ
  · rename_i j want hg
    rw [hg]
    dsimp only
    split at h <;> try (cases h; done)
    · rename_i b t hb
      rw [hb]
      dsimp only
      split at h
      · rename_i hbw
        obtain rfl := beq_iff_eq.1 hbw
        refine ⟨fun _ => ?_, fun e => absurd e (by cases b <;> decide)⟩
        rw [putR_eq] at h
        rw [putK_eq]
        exact stepQ_ok noF h hQ
      · rename_i hbw
        refine ⟨fun e => absurd e (by simpa using hbw), fun _ => ?_⟩
        rw [putR_eq] at h
        rw [putK_eq]
        refine dstR_ok h fun E' he => ?_
        injection he with he
        rw [he]
        exact hQ
    · rename_i hb
      rw [hb]
      refine dstR_ok h fun E' he => ?_
      injection he with he
      rw [he]
      exact hQ
theorem coreR_ok (hF : CallOk P F) {o : Oper} {κ : Nat → Bool} {E : Env} {H : AH} {r : Env × AH} {Q : Env → AH → Prop} {KP : Value → AH → Prop} (h : coreR T z N F o κ E H = some r) (hQ : Q r.1 r.2) : makeS P T N o κ E H Q KP := by
  unfold coreR at h
  unfold makeS
  rw [normK_eq]
  split at h <;> try (cases h; done)
  rename_i E' H' hs
  split at h <;> try (cases h; done)
  rename_i hk
  rw [memZ_eq] at h
  injection h with h
  subst h
  refine stepR_ok hF hs ⟨hk, ?_⟩
  rw [normK_eq]
  exact hQ
theorem makeR_ok (hF : CallOk P F) {ops : List Oper} {o : Oper} {κ : Nat → Bool} {E : Env} {H : AH} {r : Env × AH} {Q : Env → AH → Prop} {KP : Env → Value → AH → Prop} (h : makeR T z N F ops o κ E H = some r) (hQ : Q r.1 r.2) : makeD P T N ops o κ E H Q KP := by
  unfold makeR at h
  unfold makeD
  split at h
  · rename_i hg
    rw [hg]
    exact coreR_ok hF h hQ
  · rename_i j want hg
    rw [hg]
    dsimp only
    split at h <;> try (cases h; done)
    · rename_i b t hb
      rw [hb]
      dsimp only
      split at h
      · rename_i hbw
        obtain rfl := beq_iff_eq.1 hbw
        refine ⟨fun _ => ?_, fun e => absurd e (by cases b <;> decide)⟩
        rw [putR_eq] at h
        rw [putK_eq]
        exact coreR_ok hF h hQ
      · rename_i hbw
        refine ⟨fun e => absurd e (by simpa using hbw), fun _ => ?_⟩
        rw [putR_eq] at h
        rw [putK_eq]
        refine dstR_ok h fun E' he => ?_
        injection he with he
        subst he
        exact hQ
    · rename_i hb
      rw [hb]
      refine dstR_ok h fun E' he => ?_
      injection he with he
      subst he
      exact hQ
theorem findR_ok {ops : Array Oper} {G : Wr} {H0 : AH} {listed : Array Bool} {E : Env} {i : Nat} {dead : List Nat} {E' : Env} : ∀ {rs : List Nat}, findR T z N ops G H0 listed E rs = some (i, dead, E') → ∃ o, ops.toList[i]? = some o ∧ takeR T z N ops.toList o E (maskH (fun b => !inL dead b) 0 H0) = some E'
  | [], h => by cases h
  | j :: r, h => by
    unfold findR at h
    split at h
    · rename_i o ho
      split at h
      · split at h
        · rename_i E1 ht
          simp only [Option.some.injEq, Prod.mk.injEq] at h
          obtain ⟨rfl, rfl, rfl⟩ := h
          exact ⟨o, ho, ht⟩
        · exact findR_ok h
      · exact findR_ok h
    · exact findR_ok h
theorem panR_ok (hF : CallOk P F) {ops : List Oper} {o : Oper} {κ : Nat → Bool} {E : Env} {H : AH} {pv : Value} {H' : AH} {Q : Env → AH → Prop} {KP : Env → Value → AH → Prop} (h : panR T F o κ E H = some (pv, H')) (hQ : KP E pv H') : makeD P T N ops o κ E H Q KP := by
  unfold panR at h
  split at h <;> try (cases h; done)
  rename_i hg
  unfold makeD
  rw [hg]
  dsimp only
  unfold makeS
  rw [normK_eq]
  split at h <;> try (cases h; done)
  rename_i pv1 H1 hs
  split at h <;> try (cases h; done)
  rename_i hk
  simp only [Option.some.injEq, Prod.mk.injEq] at h
  obtain ⟨rfl, rfl⟩ := h
  exact stepP_ok hF hs ⟨hk, by rw [normK_eq]; exact hQ⟩
def dQ (Q : Env → AH → Prop) (QP : Env → Value → AH → Prop) : AX → Env → AH → Prop
  | .normal => Q
  | .pan pv => fun E H => QP E pv H
  | _ => fun _ _ => False
theorem dR_ok (hF : CallOk P F) {ops : Array Oper} {G : Wr} {H0 : AH} {Q : Env → AH → Prop} {QP : Env → Value → AH → Prop} : ∀ (n : Nat) {listed : Array Bool} {E : Env} {H : AH} {x : AX} {E2 : Env} {H2 : AH} {s : Sch}, dR T z N F ops G H0 n listed E H = some (x, E2, H2, s) → dQ Q QP x E2 H2 → vcD P T N ops.toList H0 Q QP s E H
  | 0, listed, E, H, x, E2, H2, s, h, hQ => by
    simp only [dR, Option.some.injEq, Prod.mk.injEq] at h
    obtain ⟨rfl, rfl, rfl, rfl⟩ := h
    exact hQ
  | n + 1, listed, E, H, x, E2, H2, s, h, hQ => by
    unfold dR at h
    split at h
    · simp only [Option.some.injEq, Prod.mk.injEq] at h
      obtain ⟨rfl, rfl, rfl, rfl⟩ := h
      exact hQ
    · split at h <;> try (cases h; done)
      rename_i i hr o ho
      split at h
      · rename_i E' H' hm
        split at h <;> try (cases h; done)
        rename_i x3 E3 H3 s3 hd
        simp only [Option.some.injEq, Prod.mk.injEq] at h
        obtain ⟨rfl, rfl, rfl, rfl⟩ := h
        unfold vcD
        rw [ho]
        dsimp only
        exact makeR_ok hF hm (Q := fun E' H' => vcD P T N ops.toList H0 Q QP s3 E' H') (dR_ok hF n hd hQ)
      · split at h <;> try (cases h; done)
        rename_i pv H' hp
        simp only [Option.some.injEq, Prod.mk.injEq] at h
        obtain ⟨rfl, rfl, rfl, rfl⟩ := h
        unfold vcD
        rw [ho]
        dsimp only
        exact panR_ok hF hp hQ
    · split at h <;> try (cases h; done)
      rename_i i dead E' hf
      split at h <;> try (cases h; done)
      rename_i x3 E3 H3 s3 hd
      simp only [Option.some.injEq, Prod.mk.injEq] at h
      obtain ⟨rfl, rfl, rfl, rfl⟩ := h
      obtain ⟨o, ho, ht⟩ := findR_ok hf
      unfold vcD
      rw [ho]
      dsimp only
      exact takeR_ok ht (dR_ok hF n hd hQ)
theorem drawR_ok (hT : TOk P T) (hm : P.follows .mixedOrders = true) (hF : CallOk P F) {n0 id : Nat} {ops : Array Oper} {E : Env} {H : AH} {x : AX} {E' : Env} {H' : AH} {Q : Post} (h : drawR T z N F ops E H = some (x, E', H')) (hQ : Q x E' H') : ASem P N n0 (.region id ops true) Q E H := by
  unfold drawR at h
  split at h <;> try (cases h; done)
  · rename_i E1 H1 s hd
    split at h <;> try (cases h; done)
    rename_i hs
    simp only [Option.some.injEq, Prod.mk.injEq] at h
    obtain ⟨rfl, rfl, rfl⟩ := h
    exact drawn_rule hT hm _ s hs (dR_ok hF _ hd hQ)
  · rename_i pv E1 H1 s hd
    split at h <;> try (cases h; done)
    rename_i hs
    simp only [Option.some.injEq, Prod.mk.injEq] at h
    obtain ⟨rfl, rfl, rfl⟩ := h
    exact drawn_rule hT hm _ s hs (dR_ok hF _ hd hQ)
theorem execR_ok (hT : TOk P T) (hm : P.follows .mixedOrders = true) (hF : CallOk P F) {L n0 : Nat} : ∀ (c : Code) {E : Env} {H : AH} {x : AX} {E' : Env} {H' : AH} {Q : Post}, execR T z N F L c E H = some (x, E', H') → Q x E' H' → vc P T N n0 c Q E H := by
  intro c
  induction c with
  | skip =>
    intro E H x E' H' Q h hQ
    simp only [execR, Option.some.injEq, Prod.mk.injEq] at h
    obtain ⟨rfl, rfl, rfl⟩ := h
    exact hQ
  | label l =>
    intro E H x E' H' Q h hQ
    simp only [execR, Option.some.injEq, Prod.mk.injEq] at h
    obtain ⟨rfl, rfl, rfl⟩ := h
    exact hQ
  | region id ops draw =>
    intro E H x E' H' Q h hQ
    cases draw
    · unfold execR at h
      exact opsR_ok hF hQ h
    · unfold execR at h
      split at h
      · rename_i E1 hs
        simp only [Option.some.injEq, Prod.mk.injEq] at h
        obtain ⟨rfl, rfl, rfl⟩ := h
        unfold quietX at hs
        split at hs <;> try (cases hs; done)
        rename_i hmk
        split at hs <;> try (cases hs; done)
        rename_i hl
        unfold vc
        rw [hmk]
        exact .inl ⟨hl, quietR_ok hF hQ hs⟩
      · unfold vc
        split
        · exact drawR_ok hT hm hF h hQ
        · exact .inr (drawR_ok hT hm hF h hQ)
  | seq x y ihx ihy =>
    intro E H x' E' H' Q h hQ
    unfold execR at h
    split at h
    · rename_i E1 H1 hs
      exact ihx hs (ihy h hQ)
    · rename_i hne
      refine ihx h ?_
      cases x' with
      | normal => exact absurd h (hne _ _)
      | exit i => exact hQ
      | ret => exact hQ
      | pan pv => exact hQ
  | cond c x y ihx ihy =>
    intro E H x' E' H' Q h hQ
    unfold execR at h
    unfold vc
    split at h <;> try (cases h; done)
    · rename_i hb
      rw [hb]
      exact ⟨fun _ => ihx h hQ, fun e => (by cases e)⟩
    · rename_i hb
      rw [hb]
      exact ⟨fun e => (by cases e), fun _ => ihy h hQ⟩
  | block id c ih =>
    intro E H x' E' H' Q h hQ
    unfold execR at h
    split at h
    · rename_i i E1 H1 hs
      refine ih hs ?_
      show blockQ id Q (.exit i) E1 H1
      split at h
      · rename_i hi
        simp only [Option.some.injEq, Prod.mk.injEq] at h
        obtain ⟨rfl, rfl, rfl⟩ := h
        simp only [blockQ, beq_iff_eq.1 hi, if_true]
        exact hQ
      · rename_i hi
        simp only [Option.some.injEq, Prod.mk.injEq] at h
        obtain ⟨rfl, rfl, rfl⟩ := h
        have : i ≠ id := by simpa using hi
        simp only [blockQ, if_neg this]
        exact hQ
    · rename_i hne
      refine ih h ?_
      cases x' with
      | normal => exact hQ
      | exit i => exact absurd h (hne _ _ _)
      | ret => exact hQ
      | pan pv => exact hQ
  | loop c ih =>
    intro E H x' E' H' Q h hQ
    show ASem P N n0 (.loop c) Q E H
    intro C D ρ0 ρ w a hI hE hX hn
    unfold execR at h
    refine wp_loop_rounds L ?_
    have key : ∀ (n : Nat) (E : Env) (H : AH) (ρ : Pl) (w : World) (a : Act), iterR (fun E H => execR T z N F L c E H) n E H = some (x', E', H') → Inv C ρ H w → ERel ρ N D E a → ExtN n0 ρ0 ρ → n0 ≤ H.length → Code.rounds P c (PostOk C n0 ρ0 N D Q) n a w := by
      intro n
      induction n with
      | zero => intro _ _ _ _ _ h; cases h
      | succ n ih2 =>
        intro E H ρ w a h hI hE hX hn
        rw [rounds_succ]
        unfold iterR at h
        split at h
        · rename_i E1 H1 hs
          refine Code.wp_mono ?_ (vc_ok hT hm c (fun x E H => x = .normal ∧ E = E1 ∧ H = H1) _ _ (ih hs ⟨rfl, rfl, rfl⟩) C D ρ0 ρ w a hI hE hX hn)
          intro e a' w' hq
          cases e with
          | normal =>
            obtain ⟨ρ', E2, H2, ⟨_, rfl, rfl⟩, hI', hE', hX', hn'⟩ := hq
            exact ih2 E2 H2 ρ' w' a' h hI' hE' hX' hn'
          | exit id =>
            obtain ⟨ρ', E2, H2, ⟨h0, _⟩, _⟩ := hq
            cases h0
          | ret =>
            obtain ⟨ρ', E2, H2, ⟨h0, _⟩, _⟩ := hq
            cases h0
          | panic ch => exact (hq.nopan fun _ _ _ h => by cases h.1).elim
          | _ => exact hq.elim
        · rename_i hne
          cases x' with
          | normal => exact absurd h (hne _ _)
          | pan pv =>
            refine Code.wp_mono ?_ (vc_ok hT hm c (fun x E H => x = .pan pv ∧ E = E' ∧ H = H') _ _ (ih h ⟨rfl, rfl, rfl⟩) C D ρ0 ρ w a hI hE hX hn)
            intro e a' w' hq
            cases e with
            | normal =>
              obtain ⟨ρ', E2, H2, ⟨h0, _⟩, _⟩ := hq
              cases h0
            | exit id =>
              obtain ⟨ρ', E2, H2, ⟨h0, _⟩, _⟩ := hq
              cases h0
            | ret =>
              obtain ⟨ρ', E2, H2, ⟨h0, _⟩, _⟩ := hq
              cases h0
            | panic ch =>
              obtain ⟨pv', rfl, ρ', E2, H2, ⟨h0, rfl, rfl⟩, h4⟩ := hq.pan_get
              injection h0 with h0
              subst h0
              exact ⟨ρ', E2, H2, hQ, h4⟩
            | _ => exact hq.elim
          | exit i =>
            refine Code.wp_mono ?_ (vc_ok hT hm c (fun x E H => x = .exit i ∧ E = E' ∧ H = H') _ _ (ih h ⟨rfl, rfl, rfl⟩) C D ρ0 ρ w a hI hE hX hn)
            intro e a' w' hq
            cases e with
            | normal =>
              obtain ⟨ρ', E2, H2, ⟨h0, _⟩, _⟩ := hq
              cases h0
            | exit id =>
              obtain ⟨ρ', E2, H2, ⟨h0, rfl, rfl⟩, h4⟩ := hq
              injection h0 with h0
              subst h0
              exact ⟨ρ', E2, H2, hQ, h4⟩
            | ret =>
              obtain ⟨ρ', E2, H2, ⟨h0, _⟩, _⟩ := hq
              cases h0
            | panic ch => exact (hq.nopan fun _ _ _ h => by cases h.1).elim
            | _ => exact hq.elim
          | ret =>
            refine Code.wp_mono ?_ (vc_ok hT hm c (fun x E H => x = .ret ∧ E = E' ∧ H = H') _ _ (ih h ⟨rfl, rfl, rfl⟩) C D ρ0 ρ w a hI hE hX hn)
            intro e a' w' hq
            cases e with
            | normal =>
              obtain ⟨ρ', E2, H2, ⟨h0, _⟩, _⟩ := hq
              cases h0
            | exit id =>
              obtain ⟨ρ', E2, H2, ⟨h0, _⟩, _⟩ := hq
              cases h0
            | ret =>
              obtain ⟨ρ', E2, H2, ⟨h0, rfl, rfl⟩, h4⟩ := hq
              exact ⟨ρ', E2, H2, hQ, h4⟩
            | panic ch => exact (hq.nopan fun _ _ _ h => by cases h.1).elim
            | _ => exact hq.elim
    exact key L E H ρ w a h hI hE hX hn
  | exit id =>
    intro E H x E' H' Q h hQ
    simp only [execR, Option.some.injEq, Prod.mk.injEq] at h
    obtain ⟨rfl, rfl, rfl⟩ := h
    exact hQ
  | ret =>
    intro E H x E' H' Q h hQ
    simp only [execR, Option.some.injEq, Prod.mk.injEq] at h
    obtain ⟨rfl, rfl, rfl⟩ := h
    exact hQ
  | _ =>
    intro E H x E' H' Q h hQ
    simp only [execR] at h
    cases h
theorem endR_ok {fn : Func} {n0 : Nat} {E : Env} {H : AH} {v : AV} {H' : AH} (h : endR T z fn n0 E H = some (v, H')) : RetA T n0 fn.results.toList (fun v1 H1 => v1 = v ∧ H1 = H') E H := by
  unfold endR at h
  unfold RetA
  split at h <;> try (cases h; done)
  rename_i hn
  have hn := of_decide_eq_true hn
  split at h <;> try (cases h; done)
  rename_i l hr
  rw [hr]
  dsimp only
  split at h
  · rename_i hk
    simp only [Bool.and_eq_true] at hk
    rw [memZ_eq] at h
    injection h with h
    injection h with h h'
    subst h h'
    have hl : (H.take n0).length = n0 := by simp; omega
    refine ⟨rfl, some, _, _, ⟨⟨fixB_some _, ⟨injB_some _, rngB_some _ (by omega)⟩, by omega⟩, ⟨⟨by rw [hl]; exact hk.1, .inr ?_⟩, trivial⟩, heapW_pre _ _ _ (fun q b hb => ?_) (by rw [hl]; exact hk.2)⟩, rfl, rfl⟩
    · rw [AV.ren_some]
      rfl
    · rw [Nat.zero_add]
      have hq : q < n0 := by
        have := (List.getElem?_eq_some_iff.1 hb).1
        omega
      rw [List.getElem?_take_of_lt hq] at hb
      exact ⟨b, hb, id, rfl, rfl, id, rfl⟩
  · split at h <;> try (cases h; done)
    rename_i hk
    simp only [Bool.and_eq_true] at hk
    injection h with h
    injection h with h h'
    subst h h'
    refine ⟨rfl, some, _, _, ⟨⟨fixB_some _, ⟨injB_some _, rngB_some _ (Nat.le_refl _)⟩, hn⟩, ⟨⟨hk.1, .inr ?_⟩, trivial⟩, heapW_pre _ _ _ (fun q b hb => ?_) hk.2⟩, rfl, rfl⟩
    · rw [AV.ren_some]
      rfl
    · rw [Nat.zero_add]
      exact ⟨b, hb, id, rfl, rfl, id, rfl⟩
theorem retR_some {o : Option (AV × AH)} {r : Rs} {H' : AH} (h : retR o = some (r, H')) : ∃ v, o = some (v, H') ∧ r = .ret v := by
  cases o with
  | none => cases h
  | some p =>
    obtain ⟨v, H⟩ := p
    simp only [retR, Option.some.injEq, Prod.mk.injEq] at h
    obtain ⟨rfl, rfl⟩ := h
    exact ⟨v, rfl, rfl⟩
theorem toList_nil {α : Type} {a : Array α} (h : a.toList = []) : a = #[] := by
  cases a
  exact congrArg _ h
theorem toList_eq {α : Type} {a : Array α} {l : List α} (h : a.toList = l) : a = l.toArray := by
  cases a
  exact congrArg _ h
theorem defParts_ok {c r0 : Code} {d g p : Nat} {rest : Code} (h : defParts c = some (r0, d, g, p, rest)) : ∃ id t1 p1 a1 ts t2 p2 a2, c = .seq r0 (.seq (.region id #[⟨some d, .makeFunc (.func g) #[] #[.tmp p], t1, p1, a1, none⟩, ⟨none, .defer ⟨.value (.tmp d), #[], ts⟩, t2, p2, a2, none⟩] false) rest) := by
  unfold defParts at h
  split at h <;> try (cases h; done)
  split at h <;> try (cases h; done)
  rename_i hops
  split at h <;> try (cases h; done)
  rename_i h1 h2 h3
  split at h <;> try (cases h; done)
  rename_i hd
  simp only [Option.some.injEq, Prod.mk.injEq] at h
  obtain ⟨rfl, rfl, rfl, rfl, rfl⟩ := h
  obtain rfl := beq_iff_eq.1 hd
  rw [toList_nil h1, toList_eq h2, toList_nil h3] at hops
  rw [toList_eq hops]
  exact ⟨_, _, _, _, _, _, _, _, rfl⟩
theorem setR_ok {et : TypeId} {fn : Func} {n0 b : Nat} {n : Int} {E : Env} {H : AH} {r : Rs} {H' : AH} (h : setR T z et fn n0 b n E H = some (r, H')) : ∃ v, r = .ret v ∧ setRet T et n0 fn.results.toList (fun v1 H1 => v1 = v ∧ H1 = H') b n E H := by
  unfold setR at h
  split at h <;> try (cases h; done)
  rename_i H1 hs
  obtain ⟨v, hv, rfl⟩ := retR_some h
  refine ⟨v, rfl, ?_⟩
  unfold setRet
  rw [hs]
  exact ⟨rfl, endR_ok hv⟩
def DfOk (P : Program) (D : DF) : Prop := ∀ g, D.is g = true → CloserOk P D.et D.st g
theorem noDF_ok : DfOk P noDF := fun _ h => by cases h
theorem plainR_ok (hT : TOk P T) (hm : P.follows .mixedOrders = true) (hF : CallOk P F) {L : Nat} {g : Nat} {fn : Func} {c : Code} {args : List AV} {H : AH} {r : Rs} {H' : AH} (hf : P.funcs[g]? = some fn) (hb : fn.body = some c)
    (hn : (fn.name == "runtime.NumGoroutine") = false) (hN : args.length ≤ fn.ntmps) (h : plainR T z F L fn c args H = some (r, H')) : RsOk P g args H r H' := by
  unfold plainR at h
  split at h <;> try (cases h; done)
  · rename_i E H1 hs
    obtain ⟨v, hv, rfl⟩ := retR_some h
    exact call_of_vc hT hm hf hb hn hN (execR_ok hT hm hF c hs (endR_ok hv))
  · rename_i E H1 hs
    obtain ⟨v, hv, rfl⟩ := retR_some h
    exact call_of_vc hT hm hf hb hn hN (execR_ok hT hm hF c hs (endR_ok hv))
  · rename_i pv E H1 hs
    unfold endP at h
    split at h <;> try (cases h; done)
    rename_i hk
    simp only [Bool.and_eq_true, decide_eq_true_eq] at hk
    simp only [Option.some.injEq, Prod.mk.injEq] at h
    obtain ⟨rfl, rfl⟩ := h
    refine call_of_vcE hT hm hf hb hn hN (execR_ok hT hm hF c hs ?_)
    have hl : (H1.take H.length).length = H.length := by simp; omega
    refine ⟨some, H1.take H.length, ⟨⟨fixB_some _, ⟨injB_some _, rngB_some _ (by omega)⟩, by omega⟩, trivial, heapW_pre _ _ _ (fun q b hb => ?_) (by rw [hl]; exact hk.2)⟩, rfl, rfl⟩
    rw [Nat.zero_add]
    have hq : q < H.length := by
      have := (List.getElem?_eq_some_iff.1 hb).1
      omega
    rw [List.getElem?_take_of_lt hq] at hb
    exact ⟨b, hb, id, rfl, rfl, id, rfl⟩
theorem defR_ok (hT : TOk P T) (hm : P.follows .mixedOrders = true) (hF : CallOk P F) {df : DF} (hD : DfOk P df) {L : Nat} {f : Nat} {fn : Func} {c r0 rest : Code} {d g p : Nat} {args : List AV} {H : AH} {r : Rs} {H' : AH} (hf : P.funcs[f]? = some fn) (hb : fn.body = some c) (hc : defParts c = some (r0, d, g, p, rest)) (hg : df.is g = true)
    (hn : (fn.name == "runtime.NumGoroutine") = false) (hN : args.length ≤ fn.ntmps) (h : defR T z F L df fn r0 d g p rest args H = some (r, H')) : RsOk P f args H r H' := by
  obtain ⟨id, t1, p1, a1, ts, t2, p2, a2, rfl⟩ := defParts_ok hc
  unfold defR at h
  split at h <;> try (cases h; done)
  rename_i E H1 hs
  split at h <;> try (cases h; done)
  rename_i b hp
  split at h <;> try (cases h; done)
  rename_i hk
  simp only [Bool.and_eq_true] at hk
  have key : ∀ {x : AX} {E2 : Env} {H2 : AH} {v : AV}, execR T z fn.ntmps F L rest (E.put d (.t (.a (.fn (.func g) [] [.ptr b 0])))) H1 = some (x, E2, H2) → defQ T df.et df.st H.length fn.results.toList (fun v1 H1 => v1 = v ∧ H1 = H') b x E2 H2 → CallA P f args H (fun v1 H1 => v1 = v ∧ H1 = H') := fun {x E2 H2 v} hx hq => by
    refine call_defer hT hm hf hb hn hN (hD g hg) (execR_ok hT hm hF r0 hs ?_)
    show AfterDef P T fn.ntmps H.length df.et df.st fn.results.toList _ g d p rest E H1
    unfold AfterDef
    rw [hp]
    refine ⟨⟨hk.1, hk.2.1, hk.2.2⟩, ?_⟩
    rw [putK_eq]
    exact execR_ok hT hm hF rest hx hq
  split at h <;> try (cases h; done)
  · rename_i E2 H2 hx
    obtain ⟨v, rfl, hq⟩ := setR_ok h
    exact key hx hq
  · rename_i E2 H2 hx
    obtain ⟨v, rfl, hq⟩ := setR_ok h
    exact key hx hq
  · rename_i t n E2 H2 hx
    split at h <;> try (cases h; done)
    rename_i ht
    obtain ⟨v, rfl, hq⟩ := setR_ok h
    exact key hx ⟨beq_iff_eq.1 ht, hq⟩
theorem callR_ok' (hT : TOk P T) (hm : P.follows .mixedOrders = true) {df : DF} (hD : DfOk P df) {K0 : CallF} (hk : CallOk P K0) (L : Nat) : ∀ n, CallOk P (callR P T z df K0 L n)
  | 0 => hk
  | n + 1 => by
    intro g args H v H' h
    unfold callR at h
    split at h
    · rename_i r hr
      injection h with h
      subst h
      exact hk g args H v H' hr
    split at h <;> try (cases h; done)
    rename_i fn hf
    split at h <;> try (cases h; done)
    rename_i c hb
    split at h <;> try (cases h; done)
    rename_i hc
    simp only [Bool.and_eq_true, Bool.not_eq_true', decide_eq_true_eq] at hc
    have ih := callR_ok' hT hm hD hk L n
    split at h
    · rename_i r0 d k p rest hp
      split at h
      · rename_i hi
        exact defR_ok hT hm ih hD hf hb hp hi hc.1 hc.2 h
      · exact plainR_ok hT hm ih hf hb hc.1 hc.2 h
    · exact plainR_ok hT hm ih hf hb hc.1 hc.2 h
def noK : CallF := fun _ _ _ => none
theorem noK_ok : CallOk P noK := fun _ _ _ _ _ h => by cases h
/-- A CALL ON KNOWN VALUES -/
theorem callR_ok (hT : TOk P T) (hm : P.follows .mixedOrders = true) {K0 : CallF} (hk : CallOk P K0) (L n : Nat) (g : Nat) (args : List AV) (H : AH) (v : AV) (H' : AH) (h : callR P T z noDF K0 L n g args H = some (.ret v, H')) : CallA P g args H (fun v1 H1 => v1 = v ∧ H1 = H') := callR_ok' hT hm noDF_ok hk L n g args H (.ret v) H' h
theorem call_run (hT : TOk P T) (hm : P.follows .mixedOrders = true) (L n : Nat) {g : Nat} {args : List AV} {H : AH} {v : AV} {H' : AH} (h : callR P T false noDF noK L n g args H = some (.ret v, H')) : CallA P g args H (fun v1 H1 => v1 = v ∧ H1 = H') := callR_ok hT hm noK_ok L n g args H v H' h
theorem call_runD (hT : TOk P T) (hm : P.follows .mixedOrders = true) {df : DF} (hD : DfOk P df) (L n : Nat) {g : Nat} {args : List AV} {H : AH} {v : AV} {H' : AH} (h : callR P T false df noK L n g args H = some (.ret v, H')) : CallA P g args H (fun v1 H1 => v1 = v ∧ H1 = H') := callR_ok' hT hm hD noK_ok L n g args H (.ret v) H' h
theorem mergeJ_nil {σ σ' : Rn} {H1 : AH} : ∀ (H : AH) (j : Nat), mergeJ σ σ' [] H1 j H = H
  | [], _ => rfl
  | b :: r, j => by
    have := mergeJ_nil (σ := σ) (σ' := σ') (H1 := H1) r (j + 1)
    simp only [mergeJ, findT, this]
/-- a call that needs no memory, in any -/
theorem call_any {g : Nat} {v : AV} {pv : Value} (h : CallA P g [] [] (fun v1 H1 => v1 = v ∧ H1 = [])) (hp : v = .val pv) (H : AH) : CallA P g [] H (fun v1 H1 => v1 = v ∧ H1 = H) := by
  subst hp
  refine CallE.a (call_lift h (fun _ => none) rfl rfl trivial rfl rfl rfl ?_)
  rintro v1 H1 ⟨rfl, rfl⟩
  refine ⟨⟨rfl, rfl, rfl, rfl⟩, rfl, ?_⟩
  show mergeJ _ _ [] [] 0 H ++ [] = H
  rw [mergeJ_nil, List.append_nil]
/-- one function that answers one thing -/
def oneK (f : Nat) (v : AV) : CallF := fun g args H => match g == f, args with
  | true, [] => some (.ret v, H)
  | _, _ => none
theorem oneK_ok {f : Nat} {v : AV} (h : ∀ H, CallA P f [] H (fun v1 H1 => v1 = v ∧ H1 = H)) : CallOk P (oneK f v) := by
  intro g args H v' H' he
  unfold oneK at he
  split at he <;> try (cases he; done)
  rename_i hg
  obtain rfl := beq_iff_eq.1 hg
  injection he with he
  injection he with h1 h2
  subst h1 h2
  exact h H
end
end Go.Proofs.Ytpbenjpponbjjaa.En
