/- A function's text run on known values (2). -/
import Derived.Test.YtpobfdhmggkbaaaR1
import Derived.LoopN
namespace Go.Proofs.Ytpobfdhmggkbaaa
open Go.RowKit

theorem S.ren_some (x : S) : x.ren some = x := by cases x <;> rfl
theorem rens_some : ∀ l : List S, rens some l = l
  | [] => rfl
  | x :: l => by rw [rens, S.ren_some, rens_some l]
theorem A.ren_some (x : A) : x.ren some = x := by cases x <;> simp only [A.ren, S.ren_some, rens_some]
theorem renA_some : ∀ l : List A, renA some l = l
  | [] => rfl
  | x :: l => by rw [renA, A.ren_some, renA_some l]
theorem AT.ren_some (x : AT) : x.ren some = x := by cases x <;> simp only [AT.ren, A.ren_some, renA_some]
theorem renT_some : ∀ l : List AT, renT some l = l
  | [] => rfl
  | x :: l => by rw [renT, AT.ren_some, renT_some l]
theorem AV.ren_some (x : AV) : x.ren some = x := by cases x <;> simp only [AV.ren, AT.ren_some, renT_some]
theorem Body.ren_some (x : Body) : x.ren some = x := by cases x <;> simp only [Body.ren, renA_some]
theorem renL_some : ∀ l : List AV, renL some l = l
  | [] => rfl
  | x :: l => by rw [renL, AV.ren_some, renL_some l]

def froze : AH → AH
  | [] => []
  | b :: r => { b with rw := false } :: froze r
theorem froze_len : ∀ H : AH, (froze H).length = H.length
  | [] => rfl
  | b :: r => by simp [froze, froze_len r]
theorem froze_ro : ∀ H : AH, allRo (froze H) = true
  | [] => rfl
  | b :: r => by simp [froze, allRo, froze_ro r]
def okBodies (L : Nat) : AH → Bool
  | [] => true
  | b :: r => b.body.ok some L && okBodies L r
theorem rngB_some {M : Nat} : ∀ n, n ≤ M → rngB some M n = true
  | 0, _ => rfl
  | n + 1, h => by
    simp only [rngB, Bool.and_eq_true]
    exact ⟨decide_eq_true (by omega), rngB_some n (by omega)⟩
theorem fixB_some : ∀ n, fixB some n = true
  | 0 => rfl
  | n + 1 => by simp [fixB, fixB_some n]
theorem injB_some (H : AH) : injB some H = true := by
  unfold injB
  rw [List.all_eq_true]
  intro i hi
  rw [List.all_eq_true]
  intro j hj
  by_cases h : i = j <;> simp [h]
theorem heapW_pre {L : Nat} : ∀ (H2 : AH) (H : AH) (i : Nat), (∀ q b, H2[q]? = some b → ∃ a, H[i + q]? = some a ∧ (b.rw = true → a.rw = true) ∧ a.ty = b.ty ∧ a.sz = b.sz ∧ (b.fix = true → a.fix = true) ∧ a.body = b.body) → okBodies L H2 = true → HeapW some L H i H2
  | [], _, _, _, _ => trivial
  | b :: r, H, i, h, hk => by
    simp only [okBodies, Bool.and_eq_true] at hk
    refine ⟨?_, heapW_pre r H (i + 1) (fun q c hc => ?_) hk.2⟩
    · unfold BlkW
      split
      · trivial
      · obtain ⟨a, h1, h2, h3, h4, h5, h6⟩ := h 0 b rfl
        rw [Nat.add_zero] at h1
        dsimp only
        rw [h1]
        exact ⟨h2, h3, h4, h5, hk.1, by rw [h6, Body.ren_some]⟩
    · obtain ⟨a, h1, h2⟩ := h (q + 1) c (by simpa using hc)
      exact ⟨a, by rw [← h1]; congr 1; omega, h2⟩
theorem froze_get : ∀ {H : AH} {q : Nat} {b : Blk}, (froze H)[q]? = some b → ∃ a, H[q]? = some a ∧ (b.rw = true → a.rw = true) ∧ a.ty = b.ty ∧ a.sz = b.sz ∧ (b.fix = true → a.fix = true) ∧ a.body = b.body
  | [], _, _, h => by simp [froze] at h
  | c :: r, 0, b, h => by
    simp [froze] at h
    subst h
    exact ⟨c, rfl, fun e => (by cases e), rfl, rfl, id, rfl⟩
  | c :: r, q + 1, b, h => by
    simp [froze] at h
    obtain ⟨a, ha, h2⟩ := froze_get h
    exact ⟨a, by simpa using ha, h2⟩
theorem heapW_froze {H : AH} (h : okBodies H.length H = true) : HeapW some (froze H).length H 0 (froze H) := by
  refine heapW_pre _ _ _ (fun q b hb => ?_) ?_
  · rw [Nat.zero_add]
    exact froze_get hb
  · rw [froze_len]
    have : ∀ (L : Nat) (H : AH), okBodies L (froze H) = okBodies L H := by
      intro L H
      induction H with
      | nil => rfl
      | cons b r ih => simp only [froze, okBodies, ih]
    rw [this]
    exact h

def stepQ (T : TT) (z : Bool) (N : Nat) (F : CallF) (o : Oper) (E : Env) (H : AH) : Option Env :=
  match aStill T E H o.op with
  | some (true, v) => dstR z N o.dst v E some
  | some (false, _) => none
  | none => match o.op with
    | .build t parts => match aBuild T t (parts.toList.map fun (i, x) => (i, ev E x)) with
      | some (true, v) => dstR z N o.dst v E some
      | _ => none
    | .call c => match calleeOf E c with
      | some (g, args) => match okL some H.length args && okBodies H.length H with
        | true => match F g args (froze H) with
          | some (v, _) => match (plain v).isSome with
            | true => dstR z N o.dst v E some
            | false => none
          | none => none
        | false => none
      | none => none
    | _ => none
def quietR (T : TT) (z : Bool) (N : Nat) (F : CallF) (ops : List Oper) (H : AH) : List Oper → Env → Option Env
  | [], E => some E
  | o :: rest, E => match o.guard with
    | none => match stepQ T z N F o E H with
      | some E' => quietR T z N F ops H rest E'
      | none => none
    | some (j, want) => match guardVal ops E j with
      | some (some (b, t)) => match b == want with
        | true => putR E t (.boo want) fun E1 => match stepQ T z N F o E1 H with
          | some E' => quietR T z N F ops H rest E'
          | none => none
        | false => putR E t (.boo (!want)) fun E1 => dstR z N o.dst (.val undef) E1 fun E' => quietR T z N F ops H rest E'
      | some none => dstR z N o.dst (.val undef) E fun E' => quietR T z N F ops H rest E'
      | none => none
def iterR (body : Env → AH → Option (AX × Env × AH)) : Nat → Env → AH → Option (AX × Env × AH)
  | 0, _, _ => none
  | n + 1, E, H => match body E H with
    | some (.normal, E', H') => iterR body n E' H'
    | r => r
def execR (T : TT) (z : Bool) (N : Nat) (F : CallF) (L : Nat) : Code → Env → AH → Option (AX × Env × AH)
  | .skip, E, H => some (.normal, E, H)
  | .label _, E, H => some (.normal, E, H)
  | .region _ ops false, E, H => match opsR T z N F ops.toList ops.toList E H with
    | some (E', H') => some (.normal, E', H')
    | none => none
  | .region _ ops true, E, H => match makes ops.toList with
    | true => none
    | false => match Region.lexB .any ops with
      | true => match quietR T z N F ops.toList H ops.toList E with
        | some E' => some (.normal, E', H)
        | none => none
      | false => none
  | .seq x y, E, H => match execR T z N F L x E H with
    | some (.normal, E', H') => execR T z N F L y E' H'
    | r => r
  | .cond c x y, E, H => match ev E c with
    | .t (.a (.s (.v (.bool true)))) => execR T z N F L x E H
    | .t (.a (.s (.v (.bool false)))) => execR T z N F L y E H
    | _ => none
  | .block id c, E, H => match execR T z N F L c E H with
    | some (.exit i, E', H') => match i == id with
      | true => some (.normal, E', H')
      | false => some (.exit i, E', H')
    | r => r
  | .loop c, E, H => iterR (fun E H => execR T z N F L c E H) L E H
  | .exit id, E, H => some (.exit id, E, H)
  | .ret, E, H => some (.ret, E, H)
  | _, _, _ => none
def endR (T : TT) (z : Bool) (fn : Func) (n0 : Nat) (E : Env) (H : AH) : Option (AV × AH) :=
  match decide (n0 ≤ H.length) with
  | false => none
  | true => match resA T E H fn.results.toList with
  | some (true, l) => match (tupOf l).ok some n0 && okBodies n0 (H.take n0) with
    | true => memZ z (H.take n0) fun H' => some (tupOf l, H')
    | false => match (tupOf l).ok some H.length && okBodies H.length H with
      | true => some (tupOf l, H)
      | false => none
  | _ => none
def callR (P : Program) (T : TT) (z : Bool) (K0 : CallF) (L : Nat) : Nat → CallF
  | 0 => K0
  | n + 1 => fun g args H => match K0 g args H with
    | some r => some r
    | none => match P.funcs[g]? with
    | some fn => match fn.body with
      | some c => match !(fn.name == "runtime.NumGoroutine") && decide (args.length ≤ fn.ntmps) with
        | true => match execR T z fn.ntmps (callR P T z K0 L n) L c (argEnv 0 args) H with
          | some (.normal, E, H') => endR T z fn H.length E H'
          | some (.ret, E, H') => endR T z fn H.length E H'
          | _ => none
        | false => none
      | none => none
    | none => none

section
variable {P : Program} {T : TT} {z : Bool} {N : Nat} {F : CallF}
theorem opStepQ_of {o : Oper} {E : Env} {H : AH} {K : Env → Prop} (h : opStepQ0 P T N o E H K) : opStepQ P T N o E H K := by
  unfold opStepQ
  split
  · rename_i x ho
    rw [evK_eq]
    unfold opStepQ0 aStill at h
    rw [ho] at h
    exact h.2
  · rename_i x ho
    rw [evK_eq]
    unfold opStepQ0 aStill at h
    rw [ho] at h
    exact h.2
  · exact h
theorem stepQ_ok (hF : CallOk P F) {o : Oper} {E : Env} {H : AH} {r : Env} (h : stepQ T z N F o E H = some r) {Q : Env → Prop} (hQ : Q r) : opStepQ P T N o E H Q := by
  refine opStepQ_of ?_
  have hq : ∀ E', some E' = some r → Q E' := fun E' he => by
    injection he with he
    subst he
    exact hQ
  unfold stepQ at h
  unfold opStepQ0
  split at h
  · rename_i v hs
    rw [hs]
    exact ⟨rfl, dstR_ok h hq⟩
  · cases h
  · rename_i hs
    rw [hs]
    dsimp only
    split at h <;> try (cases h; done)
    · rename_i t parts ho
      rw [ho]
      dsimp only
      split at h <;> try (cases h; done)
      rename_i v hb
      rw [hb]
      exact ⟨rfl, dstR_ok h hq⟩
    · rename_i c ho
      rw [ho]
      dsimp only
      split at h <;> try (cases h; done)
      rename_i g args hc
      rw [hc]
      dsimp only
      split at h <;> try (cases h; done)
      rename_i hk
      simp only [Bool.and_eq_true] at hk
      split at h <;> try (cases h; done)
      rename_i v H1 hf
      split at h <;> try (cases h; done)
      rename_i hp
      obtain ⟨pv, hp⟩ := Option.isSome_iff_exists.1 hp
      exact ⟨v, qcall (hF g args _ v H1 hf) some (renL_some args).symm (by rw [froze_len]; exact hk.1) (heapW_froze hk.2) (rngB_some _ (by rw [froze_len]; exact Nat.le_refl _)) (froze_ro H) hp (fun _ _ h => h.1), dstR_ok h hq⟩
theorem quietR_ok (hF : CallOk P F) {ops : List Oper} {H : AH} {r : Env} {Q : Env → Prop} (hQ : Q r) : ∀ {l : List Oper} {E : Env}, quietR T z N F ops H l E = some r → vcQ P T N ops H Q l E
  | [], E, h => by
    injection h with h
    subst h
    exact hQ
  | o :: rest, E, h => by
    unfold quietR at h
    unfold vcQ
    split at h
    · rename_i hg
      split at h <;> try (cases h; done)
      rename_i E' hs
      rw [hg]
      exact stepQ_ok hF hs (quietR_ok hF hQ h)
    · rename_i j want hg
      rw [hg]
      dsimp only
      split at h <;> try (cases h; done)
      · rename_i b t hb
        rw [hb]
        dsimp only
        split at h
        · rename_i hbw
          obtain rfl := beq_iff_eq.1 hbw
          refine ⟨fun _ => ?_, fun e => absurd e (by cases b <;> decide)⟩
          rw [putR_eq] at h
          rw [putK_eq]
          split at h <;> try (cases h; done)
          rename_i E' hs
          exact stepQ_ok hF hs (quietR_ok hF hQ h)
        · rename_i hbw
          refine ⟨fun e => absurd e (by simpa using hbw), fun _ => ?_⟩
          rw [putR_eq] at h
          rw [putK_eq]
          exact dstR_ok h fun E' he => quietR_ok hF hQ he
      · rename_i hb
        rw [hb]
        exact dstR_ok h fun E' he => quietR_ok hF hQ he
theorem execR_ok (hT : TOk P T) (hm : P.follows .mixedOrders = true) (hF : CallOk P F) {L n0 : Nat} : ∀ (c : Code) {E : Env} {H : AH} {x : AX} {E' : Env} {H' : AH} {Q : Post}, execR T z N F L c E H = some (x, E', H') → Q x E' H' → vc P T N n0 c Q E H := by
  intro c
  induction c with
  | skip =>
    intro E H x E' H' Q h hQ
    simp only [execR, Option.some.injEq, Prod.mk.injEq] at h
    obtain ⟨rfl, rfl, rfl⟩ := h
    exact hQ
  | label l =>
    intro E H x E' H' Q h hQ
    simp only [execR, Option.some.injEq, Prod.mk.injEq] at h
    obtain ⟨rfl, rfl, rfl⟩ := h
    exact hQ
  | region id ops draw =>
    intro E H x E' H' Q h hQ
    cases draw
    · unfold execR at h
      split at h <;> try (cases h; done)
      rename_i E1 H1 hs
      simp only [Option.some.injEq, Prod.mk.injEq] at h
      obtain ⟨rfl, rfl, rfl⟩ := h
      exact opsR_ok hF hQ hs
    · unfold execR at h
      split at h <;> try (cases h; done)
      rename_i hmk
      split at h <;> try (cases h; done)
      rename_i hl
      split at h <;> try (cases h; done)
      rename_i E1 hs
      simp only [Option.some.injEq, Prod.mk.injEq] at h
      obtain ⟨rfl, rfl, rfl⟩ := h
      unfold vc
      rw [hmk]
      exact .inl ⟨hl, quietR_ok hF hQ hs⟩
  | seq x y ihx ihy =>
    intro E H x' E' H' Q h hQ
    unfold execR at h
    split at h
    · rename_i E1 H1 hs
      exact ihx hs (ihy h hQ)
    · rename_i hne
      refine ihx h ?_
      cases x' with
      | normal => exact absurd h (hne _ _)
      | exit i => exact hQ
      | ret => exact hQ
  | cond c x y ihx ihy =>
    intro E H x' E' H' Q h hQ
    unfold execR at h
    unfold vc
    split at h <;> try (cases h; done)
    · rename_i hb
      rw [hb]
      exact ⟨fun _ => ihx h hQ, fun e => (by cases e)⟩
    · rename_i hb
      rw [hb]
      exact ⟨fun e => (by cases e), fun _ => ihy h hQ⟩
  | block id c ih =>
    intro E H x' E' H' Q h hQ
    unfold execR at h
    split at h
    · rename_i i E1 H1 hs
      refine ih hs ?_
      show blockQ id Q (.exit i) E1 H1
      split at h
      · rename_i hi
        simp only [Option.some.injEq, Prod.mk.injEq] at h
        obtain ⟨rfl, rfl, rfl⟩ := h
        simp only [blockQ, beq_iff_eq.1 hi, if_true]
        exact hQ
      · rename_i hi
        simp only [Option.some.injEq, Prod.mk.injEq] at h
        obtain ⟨rfl, rfl, rfl⟩ := h
        have : i ≠ id := by simpa using hi
        simp only [blockQ, if_neg this]
        exact hQ
    · rename_i hne
      refine ih h ?_
      cases x' with
      | normal => exact hQ
      | exit i => exact absurd h (hne _ _ _)
      | ret => exact hQ
  | loop c ih =>
    intro E H x' E' H' Q h hQ
    show ASem P N n0 (.loop c) Q E H
    intro C ρ0 ρ w a hI hE hX hn
    unfold execR at h
    refine wp_loop_rounds L ?_
    have key : ∀ (n : Nat) (E : Env) (H : AH) (ρ : Pl) (w : World) (a : Act), iterR (fun E H => execR T z N F L c E H) n E H = some (x', E', H') → Inv C ρ H w → ERel ρ N E a → ExtN n0 ρ0 ρ → n0 ≤ H.length → Code.rounds P c (PostOk C n0 ρ0 N Q) n a w := by
      intro n
      induction n with
      | zero => intro _ _ _ _ _ h; cases h
      | succ n ih2 =>
        intro E H ρ w a h hI hE hX hn
        rw [rounds_succ]
        unfold iterR at h
        split at h
        · rename_i E1 H1 hs
          refine Code.wp_mono ?_ (vc_ok hT hm c (fun x E H => x = .normal ∧ E = E1 ∧ H = H1) _ _ (ih hs ⟨rfl, rfl, rfl⟩) C ρ0 ρ w a hI hE hX hn)
          intro e a' w' hq
          cases e with
          | normal =>
            obtain ⟨ρ', E2, H2, ⟨_, rfl, rfl⟩, hI', hE', hX', hn'⟩ := hq
            exact ih2 E2 H2 ρ' w' a' h hI' hE' hX' hn'
          | exit id =>
            obtain ⟨ρ', E2, H2, ⟨h0, _⟩, _⟩ := hq
            cases h0
          | ret =>
            obtain ⟨ρ', E2, H2, ⟨h0, _⟩, _⟩ := hq
            cases h0
          | _ => exact hq.elim
        · rename_i hne
          cases x' with
          | normal => exact absurd h (hne _ _)
          | exit i =>
            refine Code.wp_mono ?_ (vc_ok hT hm c (fun x E H => x = .exit i ∧ E = E' ∧ H = H') _ _ (ih h ⟨rfl, rfl, rfl⟩) C ρ0 ρ w a hI hE hX hn)
            intro e a' w' hq
            cases e with
            | normal =>
              obtain ⟨ρ', E2, H2, ⟨h0, _⟩, _⟩ := hq
              cases h0
            | exit id =>
              obtain ⟨ρ', E2, H2, ⟨h0, rfl, rfl⟩, h4⟩ := hq
              injection h0 with h0
              subst h0
              exact ⟨ρ', E2, H2, hQ, h4⟩
            | ret =>
              obtain ⟨ρ', E2, H2, ⟨h0, _⟩, _⟩ := hq
              cases h0
            | _ => exact hq.elim
          | ret =>
            refine Code.wp_mono ?_ (vc_ok hT hm c (fun x E H => x = .ret ∧ E = E' ∧ H = H') _ _ (ih h ⟨rfl, rfl, rfl⟩) C ρ0 ρ w a hI hE hX hn)
            intro e a' w' hq
            cases e with
            | normal =>
              obtain ⟨ρ', E2, H2, ⟨h0, _⟩, _⟩ := hq
              cases h0
            | exit id =>
              obtain ⟨ρ', E2, H2, ⟨h0, _⟩, _⟩ := hq
              cases h0
            | ret =>
              obtain ⟨ρ', E2, H2, ⟨h0, rfl, rfl⟩, h4⟩ := hq
              exact ⟨ρ', E2, H2, hQ, h4⟩
            | _ => exact hq.elim
    exact key L E H ρ w a h hI hE hX hn
  | exit id =>
    intro E H x E' H' Q h hQ
    simp only [execR, Option.some.injEq, Prod.mk.injEq] at h
    obtain ⟨rfl, rfl, rfl⟩ := h
    exact hQ
  | ret =>
    intro E H x E' H' Q h hQ
    simp only [execR, Option.some.injEq, Prod.mk.injEq] at h
    obtain ⟨rfl, rfl, rfl⟩ := h
    exact hQ
  | _ =>
    intro E H x E' H' Q h hQ
    simp only [execR] at h
    cases h
theorem endR_ok {fn : Func} {n0 : Nat} {E : Env} {H : AH} {v : AV} {H' : AH} (h : endR T z fn n0 E H = some (v, H')) : RetA T n0 fn.results.toList (fun v1 H1 => v1 = v ∧ H1 = H') E H := by
  unfold endR at h
  unfold RetA
  split at h <;> try (cases h; done)
  rename_i hn
  have hn := of_decide_eq_true hn
  split at h <;> try (cases h; done)
  rename_i l hr
  rw [hr]
  dsimp only
  split at h
  · rename_i hk
    simp only [Bool.and_eq_true] at hk
    rw [memZ_eq] at h
    injection h with h
    injection h with h h'
    subst h h'
    have hl : (H.take n0).length = n0 := by simp; omega
    refine ⟨rfl, some, _, _, ⟨⟨fixB_some _, ⟨injB_some _, rngB_some _ (by omega)⟩, by omega⟩, ⟨⟨by rw [hl]; exact hk.1, .inr ?_⟩, trivial⟩, heapW_pre _ _ _ (fun q b hb => ?_) (by rw [hl]; exact hk.2)⟩, rfl, rfl⟩
    · rw [AV.ren_some]
      rfl
    · rw [Nat.zero_add]
      have hq : q < n0 := by
        have := (List.getElem?_eq_some_iff.1 hb).1
        omega
      rw [List.getElem?_take_of_lt hq] at hb
      exact ⟨b, hb, id, rfl, rfl, id, rfl⟩
  · split at h <;> try (cases h; done)
    rename_i hk
    simp only [Bool.and_eq_true] at hk
    injection h with h
    injection h with h h'
    subst h h'
    refine ⟨rfl, some, _, _, ⟨⟨fixB_some _, ⟨injB_some _, rngB_some _ (Nat.le_refl _)⟩, hn⟩, ⟨⟨hk.1, .inr ?_⟩, trivial⟩, heapW_pre _ _ _ (fun q b hb => ?_) hk.2⟩, rfl, rfl⟩
    · rw [AV.ren_some]
      rfl
    · rw [Nat.zero_add]
      exact ⟨b, hb, id, rfl, rfl, id, rfl⟩
theorem callR_ok (hT : TOk P T) (hm : P.follows .mixedOrders = true) {K0 : CallF} (hk : CallOk P K0) (L : Nat) : ∀ n, CallOk P (callR P T z K0 L n)
  | 0 => hk
  | n + 1 => by
    intro g args H v H' h
    unfold callR at h
    split at h
    · rename_i r hr
      injection h with h
      subst h
      exact hk g args H v H' hr
    split at h <;> try (cases h; done)
    rename_i fn hf
    split at h <;> try (cases h; done)
    rename_i c hb
    split at h <;> try (cases h; done)
    rename_i hc
    simp only [Bool.and_eq_true, Bool.not_eq_true', decide_eq_true_eq] at hc
    refine call_of_vc hT hm hf hb hc.1 hc.2 ?_
    split at h <;> try (cases h; done)
    · rename_i E H1 hs
      exact execR_ok hT hm (callR_ok hT hm hk L n) c hs (endR_ok h)
    · rename_i E H1 hs
      exact execR_ok hT hm (callR_ok hT hm hk L n) c hs (endR_ok h)
def noK : CallF := fun _ _ _ => none
theorem noK_ok : CallOk P noK := fun _ _ _ _ _ h => by cases h
/-- A CALL ON KNOWN VALUES -/
theorem call_run (hT : TOk P T) (hm : P.follows .mixedOrders = true) (L n : Nat) {g : Nat} {args : List AV} {H : AH} {v : AV} {H' : AH} (h : callR P T false noK L n g args H = some (v, H')) : CallA P g args H (fun v1 H1 => v1 = v ∧ H1 = H') := callR_ok hT hm noK_ok L n g args H v H' h
theorem mergeJ_nil {σ σ' : Rn} {H1 : AH} : ∀ (H : AH) (j : Nat), mergeJ σ σ' [] H1 j H = H
  | [], _ => rfl
  | b :: r, j => by
    have := mergeJ_nil (σ := σ) (σ' := σ') (H1 := H1) r (j + 1)
    simp only [mergeJ, findT, this]
/-- a call that needs no memory, in any -/
theorem call_any {g : Nat} {v : AV} {pv : Value} (h : CallA P g [] [] (fun v1 H1 => v1 = v ∧ H1 = [])) (hp : v = .val pv) (H : AH) : CallA P g [] H (fun v1 H1 => v1 = v ∧ H1 = H) := by
  subst hp
  refine call_lift h (fun _ => none) rfl rfl trivial rfl rfl rfl ?_
  rintro v1 H1 ⟨rfl, rfl⟩
  refine ⟨⟨rfl, rfl, rfl, rfl⟩, rfl, ?_⟩
  show mergeJ _ _ [] [] 0 H ++ [] = H
  rw [mergeJ_nil, List.append_nil]
/-- one function that answers one thing -/
def oneK (f : Nat) (v : AV) : CallF := fun g args H => match g == f, args with
  | true, [] => some (v, H)
  | _, _ => none
theorem oneK_ok {f : Nat} {v : AV} (h : ∀ H, CallA P f [] H (fun v1 H1 => v1 = v ∧ H1 = H)) : CallOk P (oneK f v) := by
  intro g args H v' H' he
  unfold oneK at he
  split at he <;> try (cases he; done)
  rename_i hg
  obtain rfl := beq_iff_eq.1 hg
  injection he with he
  injection he with h1 h2
  subst h1 h2
  exact h H
end
end Go.Proofs.Ytpobfdhmggkbaaa
