/- Regions that draw their order (2): by a schedule. -/
import Derived.Test.YtpbenjpponbjjaaE17
set_option linter.unusedSimpArgs false
set_option linter.unusedVariables false
namespace Go.Proofs.Ytpbenjpponbjjaa.En
open Go.RowKit

/-- a block, and the operation that writes it first -/
abbrev Wr := List (Nat × Nat)
/-- taken first or not, which, and the blocks: of one taken first those that may have been written, of another those that it may write -/
abbrev Sch := List (Bool × Nat × List Nat)
def quietKind : Op → Bool
  | .call c => match c.callee with
    | .builtin _ => true
    | _ => false
  | .select _ _ => false
  | _ => true
def waitsOf (ops : Array Oper) (i : Nat) : List Nat → List Nat → List Nat
  | [], acc => acc
  | j :: r, acc => match ops[j]? with
    | some o => match o.after.toList.any fun e => Region.binds .any e && (e.on == i || acc.contains e.on) with
      | true => waitsOf ops i r (j :: acc)
      | false => waitsOf ops i r acc
    | none => waitsOf ops i r acc
def waits (ops : Array Oper) (i : Nat) : List Nat := waitsOf ops i (List.range ops.size) []
theorem waitsOf_ok {ops : Array Oper} {i : Nat} : ∀ {l acc : List Nat}, (∀ k ∈ acc, ∃ ok, ops[k]? = some ok ∧ ∃ e ∈ ok.after, Region.binds .any e = true ∧ (e.on = i ∨ e.on ∈ acc)) →
    (∀ k ∈ waitsOf ops i l acc, ∃ ok, ops[k]? = some ok ∧ ∃ e ∈ ok.after, Region.binds .any e = true ∧ (e.on = i ∨ e.on ∈ waitsOf ops i l acc))
  | [], _, h => h
  | j :: r, acc, h => by
    unfold waitsOf
    split
    · rename_i o ho
      split
      · rename_i he
        refine waitsOf_ok fun k hk => ?_
        rcases List.mem_cons.1 hk with rfl | hk
        · obtain ⟨e, hm, hb⟩ := List.any_eq_true.1 he
          simp only [Bool.and_eq_true, Bool.or_eq_true, beq_iff_eq, List.contains_iff_mem] at hb
          exact ⟨o, ho, e, by simpa using hm, hb.1, hb.2.imp id fun h => List.mem_cons_of_mem _ h⟩
        · obtain ⟨ok, h1, e, h2, h3, h4⟩ := h k hk
          exact ⟨ok, h1, e, h2, h3, h4.imp id fun h => List.mem_cons_of_mem _ h⟩
      · exact waitsOf_ok h
    · exact waitsOf_ok h
theorem waits_ok {ops : Array Oper} {i : Nat} : ∀ k ∈ waits ops i, ∃ ok, ops[k]? = some ok ∧ ∃ e ∈ ok.after, Region.binds .any e = true ∧ (e.on = i ∨ e.on ∈ waits ops i) := waitsOf_ok fun k hk => absurd hk List.not_mem_nil

/-- a schedule that fits -/
def schOk (ops : Array Oper) (G : Wr) : Sch → Array Bool → Bool
  | [], listed => (Region.ready .any ops listed).isEmpty
  | (true, i, dead) :: r, listed => (match ops[i]? with | some o => quietKind o.op | none => false) && (Region.ready .any ops listed).contains i && Region.free .any ops listed i && (waits ops i).all (fun k => !listed.getD k false) &&
      G.all (fun p => p.2 != i && (dead.contains p.1 || (waits ops i).contains p.2)) && schOk ops G r (listed.setIfInBounds i true)
  | (false, i, wr) :: r, listed => (Region.ready .any ops listed == [i]) && wr.all (fun b => G.any fun p => p.1 == b && (p.2 == i || listed.getD p.2 false)) && schOk ops G r (listed.setIfInBounds i true)
def schB (ops : Array Oper) (G : Wr) (s : Sch) : Bool := Region.noSelect ops && decide (s.length ≤ ops.size) && schOk ops G s (Array.replicate ops.size false)

/-- one taken first -/
def takeD (P : Program) (T : TT) (N : Nat) (ops : List Oper) (o : Oper) (E : Env) (Hm : AH) (K : Env → Prop) : Prop :=
  match o.guard with
  | none => opStepQ P T N o E Hm K
  | some (j, want) => match guardVal ops E j with
    | some (some (b, t)) => (b = want → putK E t (.boo want) (fun E' => opStepQ P T N o E' Hm K)) ∧ (b = !want → putK E t (.boo (!want)) (fun E1 => vPut N o.dst (.val undef) E1 K))
    | some none => vPut N o.dst (.val undef) E K
    | none => False
def BkOk (κ : Nat → Bool) (H H' : AH) : Prop := bkOk κ 0 H H' = true
theorem bkP {κ : Nat → Bool} {H H' : AH} (h : bkOk κ 0 H H' = true) : BkOk κ H H' := h
def makeS (P : Program) (T : TT) (N : Nat) (o : Oper) (κ : Nat → Bool) (E : Env) (H : AH) (K : Env → AH → Prop) (KP : Value → AH → Prop) : Prop :=
  normK (roW κ 0 H) fun H1 => opStep P T N o E H1 (fun E' H' => BkOk κ H H' ∧ normK (bkW κ 0 H H') (fun H2 => K E' H2)) (fun pv H' => BkOk κ H H' ∧ normK (bkW κ 0 H H') (fun H2 => KP pv H2))
/-- one that comes up alone -/
def makeD (P : Program) (T : TT) (N : Nat) (ops : List Oper) (o : Oper) (κ : Nat → Bool) (E : Env) (H : AH) (K : Env → AH → Prop) (KP : Env → Value → AH → Prop) : Prop :=
  match o.guard with
  | none => makeS P T N o κ E H K (KP E)
  | some (j, want) => match guardVal ops E j with
    | some (some (b, t)) => (b = want → putK E t (.boo want) (fun E' => makeS P T N o κ E' H K (KP E'))) ∧ (b = !want → putK E t (.boo (!want)) (fun E1 => vPut N o.dst (.val undef) E1 (fun E' => K E' H)))
    | some none => vPut N o.dst (.val undef) E (fun E' => K E' H)
    | none => False
def inL : List Nat → Nat → Bool
  | [], _ => false
  | x :: l, b => match x == b with
    | true => true
    | false => inL l b
theorem inL_eq : ∀ (l : List Nat) (b : Nat), inL l b = l.contains b
  | [], _ => rfl
  | x :: l, b => by
    rw [List.contains_cons]
    unfold inL
    by_cases h : x = b
    · subst h
      simp
    · have h1 : (x == b) = false := by simpa using h
      have h2 : (b == x) = false := by simpa using fun e => h e.symm
      rw [h1, h2]
      simpa using inL_eq l b
def vcD (P : Program) (T : TT) (N : Nat) (ops : List Oper) (H0 : AH) (Q : Env → AH → Prop) (QP : Env → Value → AH → Prop) : Sch → Env → AH → Prop
  | [], E, H => Q E H
  | (true, i, dead) :: r, E, H => match ops[i]? with
    | some o => takeD P T N ops o E (maskH (fun b => !inL dead b) 0 H0) (fun E' => vcD P T N ops H0 Q QP r E' H)
    | none => False
  | (false, i, wr) :: r, E, H => match ops[i]? with
    | some o => makeD P T N ops o (fun b => Nat.ble H0.length b || inL wr b) E H (fun E' H' => vcD P T N ops H0 Q QP r E' H') QP
    | none => False

section
variable {C : Cx} {P : Program} {T : TT} {N : Nat} {D : List Deferred}
theorem opStepQ_yields (hT : TOk P T) {w1 : World} {ρ : Pl} {o : Oper} {E : Env} {Hm : AH} {K : Env → Prop} {a : Act} (hB : ∀ (i : Nat) b, Hm[i]? = some b → b.body.live = true → BRel ρ i b w1) (hq : quietKind o.op = true)
    (h : opStepQ P T N o E Hm K) (hE : ERel ρ N D E a) : ∃ u, (∀ w', Agree ρ Hm w1 w' → (execOp a.eval o).run P w' = .ok (.value u) w') ∧ ∃ E', K E' ∧ ERel ρ N D E' (a.put o.dst u) := by
  have h := opStepQ_eq h
  unfold opStepQ0 at h
  split at h
  · rename_i c v hs
    obtain ⟨hc, hp⟩ := h
    obtain ⟨u, hv, hr⟩ := still_ok hT hB hE hs hc
    obtain ⟨E', hk, hE'⟩ := vPut_ok hp hE hv
    exact ⟨u, hr, E', hk, hE'⟩
  · split at h <;> try (exact h.elim)
    · rename_i t parts ho
      split at h <;> try (exact h.elim)
      rename_i c v hb
      obtain ⟨hc, hp⟩ := h
      obtain ⟨u, hv, hr⟩ := build_ok (P := P) (ρ := ρ) hT (rparts := parts.map fun (i, x) => (i, a.eval x)) (by simp) (parts_ok hE parts) hb
      obtain ⟨E', hk, hE'⟩ := vPut_ok hp hE hv
      exact ⟨u, fun w' _ => by simp [execOp, ho, hr w'], E', hk, hE'⟩
    · rename_i c ho
      rw [ho] at hq
      unfold quietKind at hq
      split at h <;> try (exact h.elim)
      rename_i g args hcl
      unfold calleeOf at hcl
      dsimp only at hq
      split at hq
      · rename_i b hb
        rw [hb] at hcl
        cases hcl
      · cases hq
theorem takeD_yields (hT : TOk P T) {w1 : World} {ρ : Pl} {ops : List Oper} {o : Oper} {E : Env} {Hm : AH} {K : Env → Prop} {a : Act} (hB : ∀ (i : Nat) b, Hm[i]? = some b → b.body.live = true → BRel ρ i b w1) (hq : quietKind o.op = true)
    (h : takeD P T N ops o E Hm K) (hE : ERel ρ N D E a) : ∃ u, YieldsIf P ops.toArray (Agree ρ Hm w1) o u a ∧ ∃ E', K E' ∧ ERel ρ N D E' (a.put o.dst u) := by
  have run : ∀ E, ERel ρ N D E a → Region.wanted o (yielded ops.toArray a.tmps) = true → opStepQ P T N o E Hm K → ∃ u, YieldsIf P ops.toArray (Agree ρ Hm w1) o u a ∧ ∃ E', K E' ∧ ERel ρ N D E' (a.put o.dst u) := fun E hE hw h => by
    obtain ⟨u, h1, h2⟩ := opStepQ_yields hT hB hq h hE
    exact ⟨u, .inl ⟨hw, h1⟩, h2⟩
  have skip : ∀ E, ERel ρ N D E a → Region.wanted o (yielded ops.toArray a.tmps) = false → vPut N o.dst (.val undef) E K → ∃ u, YieldsIf P ops.toArray (Agree ρ Hm w1) o u a ∧ ∃ E', K E' ∧ ERel ρ N D E' (a.put o.dst u) := fun E hE hw h => by
    obtain ⟨E', hk, hE'⟩ := vPut_ok (u := undef) h hE rfl
    exact ⟨undef, .inr ⟨hw, rfl⟩, E', hk, hE'⟩
  unfold takeD at h
  split at h
  · rename_i hg
    exact run E hE (by simp [Region.wanted, hg]) h
  · rename_i j want hg
    split at h
    · rename_i b t hb
      have hy := guard_ok hE hb
      have hE2 := hE.known hb
      by_cases hbw : b = want
      · exact run _ (by rw [hbw] at hE2; exact hE2) (by simp [Region.wanted, hg, hy, hbw]) (by have h1 := h.1 hbw; rwa [putK_eq] at h1)
      · have hbn : b = !want := by cases b <;> cases want <;> simp_all
        exact skip _ (by rw [hbn] at hE2; exact hE2) (by simp [Region.wanted, hg, hy, hbw]) (by have h1 := h.2 hbn; rwa [putK_eq] at h1)
    · rename_i hb
      have hy := guard_ok hE hb
      exact skip E hE (by simp [Region.wanted, hg, hy]) h
    · exact h.elim

/-- what is known after a panic: nothing of what the region sets -/
def dstsOf : List Oper → List Nat
  | [] => []
  | o :: r => match o.dst with
    | some d => d :: dstsOf r
    | none => dstsOf r
def forgetL (ds : List Nat) : Env → Env
  | [] => []
  | (i, v) :: E => match inL ds i with
    | true => forgetL ds E
    | false => (i, v) :: forgetL ds E
def forget (l : List Oper) (E : Env) : Env := forgetL (dstsOf l) E
theorem dstsOf_mem : ∀ {l : List Oper} {o : Oper} {d : Nat}, o ∈ l → o.dst = some d → d ∈ dstsOf l
  | [], _, _, h, _ => by cases h
  | x :: r, o, d, h, hd => by
    unfold dstsOf
    rcases List.mem_cons.1 h with rfl | h
    · rw [hd]
      exact List.mem_cons_self
    · split
      · exact List.mem_cons_of_mem _ (dstsOf_mem h hd)
      · exact dstsOf_mem h hd
theorem forgetL_any {ds : List Nat} {d : Nat} (hd : d ∈ ds) : ∀ E : Env, (forgetL ds E).get d = .any
  | [] => rfl
  | (i, v) :: E => by
    unfold forgetL
    split
    · exact forgetL_any hd E
    · rename_i h
      have hne : (i == d) = false := by
        rw [beq_eq_false_iff_ne]
        rintro rfl
        rw [inL_eq] at h
        simp [hd] at h
      simp only [Env.get, hne, Bool.false_eq_true, if_false]
      exact forgetL_any hd E
theorem forgetL_or {ds : List Nat} (t : Nat) : ∀ E : Env, (forgetL ds E).get t = .any ∨ (forgetL ds E).get t = E.get t
  | [] => .inl rfl
  | (i, v) :: E => by
    unfold forgetL
    split
    · rename_i h
      by_cases ht : i = t
      · subst ht
        rw [inL_eq] at h
        exact .inl (forgetL_any (by simpa using h) E)
      · have hne : (i == t) = false := by simpa using ht
        simp only [Env.get, hne, Bool.false_eq_true, if_false]
        exact forgetL_or t E
    · by_cases ht : i = t
      · subst ht
        exact .inr (by simp [Env.get])
      · have hne : (i == t) = false := by simpa using ht
        simp only [Env.get, hne, Bool.false_eq_true, if_false]
        exact forgetL_or t E
theorem forget_any (l : List Oper) (E : Env) : ∀ o ∈ l, ∀ d, o.dst = some d → (forget l E).get d = .any := fun _ h _ hd => forgetL_any (dstsOf_mem h hd) E
theorem forget_rel {ρ : Pl} {a : Act} (l : List Oper) {E : Env} (h : ERel ρ N D E a) : ERel ρ N D (forget l E) a := ⟨h.1, h.2.1, fun t => by
  unfold forget
  rcases forgetL_or (ds := dstsOf l) t E with e | e
  · rw [e]
    trivial
  · rw [e]
    exact h.2.2 t⟩
def forP (ops : List Oper) (Q : Post) : Post
  | .pan pv => fun E H => (∀ o ∈ ops, ∀ d, o.dst = some d → E.get d = .any) ∧ Q (.pan pv) E H
  | x => Q x
theorem forP_put {n0 : Nat} {ρ0 : Pl} {ops : List Oper} {o : Oper} (ho : o ∈ ops) {Q : Post} {v : Value} {ch : List PanicEntry} {a : Act} {w : World} (h : PostOk C n0 ρ0 N D (forP ops Q) (.panic ch) (a.put o.dst v) w) : PostOk C n0 ρ0 N D (forP ops Q) (.panic ch) a w := by
  obtain ⟨pv, rfl, ρ, E, H, hq, hI, hE, hX, hn⟩ := h.pan_get
  refine ⟨ρ, E, H, hq, hI, ?_, hX, hn⟩
  cases hd : o.dst with
  | none =>
    rw [hd] at hE
    exact hE
  | some d =>
    rw [hd] at hE
    refine ⟨by simpa [Act.put] using hE.1, hE.2.1, fun t => ?_⟩
    by_cases ht : t = d
    · subst ht
      rw [hq.1 o ho t hd]
      trivial
    · have h1 := hE.2.2 t
      rwa [show (a.put (some d) v).tmps.getD t undef = a.tmps.getD t undef by
        simp only [Act.put]
        simp [Array.getElem?_setIfInBounds_ne (fun e => ht e.symm)]] at h1
/-- what stands within a region -/
structure DIn (C : Cx) (ρ0 : Pl) (H0 : AH) (G : Wr) (w1 : World) (listed : Array Bool) (ρ : Pl) (H : AH) (w : World) : Prop where
  inv : Inv C ρ H w
  ext : ExtN H0.length ρ0 ρ
  len : H0.length ≤ H.length
  same : ∀ (b : Nat) blk, H0[b]? = some blk → blk.body.live = true → (G.all fun p => p.1 != b || !listed.getD p.2 false) = true → H[b]? = some blk
def SD (ρ0 : Pl) (H0 : AH) (G : Wr) (w1 : World) (listed : Array Bool) (w' : World) : Prop := Agree ρ0 (maskH (fun b => G.all fun p => p.1 != b || !listed.getD p.2 false) 0 H0) w1 w'

theorem makeS_ok (hT : TOk P T) {n0 : Nat} {ρ00 ρ : Pl} {o : Oper} {κ : Nat → Bool} {E : Env} {H : AH} {K : Env → AH → Prop} {a : Act} {w : World} {K' : Act → World → Prop} {Q : Exit → Act → World → Prop} {KP : Value → AH → Prop} (h : makeS P T N o κ E H K KP)
    (hK : ∀ a w' ρ' E' H', K E' H' → Inv C ρ' H' w' → ERel ρ' N D E' a → ExtN n0 ρ00 ρ' → n0 ≤ H'.length → ExtN H.length ρ ρ' → H.length ≤ H'.length → (∀ j b, H[j]? = some b → stays κ j b = true → H'[j]? = some b ∧ ∀ ad, (ρ j).addr = some ad → w'.heap[ad.block]? = w.heap[ad.block]?) → K' a w')
    (hP : ∀ pv a w' ρ' H', KP pv H' → Inv C ρ' H' w' → ERel ρ' N D E a → ExtN n0 ρ00 ρ' → n0 ≤ H'.length → Q (.panic [{ v := pv, recovered := false }]) a w')
    (hI : Inv C ρ H w) (hE : ERel ρ N D E a) (hX : ExtN n0 ρ00 ρ) (hn : n0 ≤ H.length) : o.wp P a w K' Q := by
  unfold makeS at h
  rw [normK_eq] at h
  refine opStep_ok (C := roCx κ ρ H w) (D := D) hT (n0 := H.length) (ρ0 := ρ) h ?_ ?_ (ro_inv hI) hE (ExtN.refl _ _) (by rw [roW_len]; exact Nat.le_refl _)
  rotate_left
  · rintro pv a' w' ⟨ρ', E', H', ⟨rfl, hk, hkp⟩, hI', hE', hX', hn'⟩
    rw [normK_eq] at hkp
    have hlen := bkW_len (κ := κ) H H' 0
    refine hP pv a' w' ρ' _ hkp (bk_inv hI hI' hX' hn' hk) hE' (fun i hi ho => ?_) (by rw [hlen]; omega)
    rw [hX' i (by omega) (by rw [hX i hi ho]; exact ho)]
    exact hX i hi ho
  rintro a' w' ⟨ρ', E', H', ⟨hk, hkk⟩, hI', hE', hX', hn'⟩
  rw [normK_eq] at hkk
  have hlen := bkW_len (κ := κ) H H' 0
  refine hK a' w' ρ' E' _ hkk (bk_inv hI hI' hX' hn' hk) hE' (fun i hi ho => ?_) (by rw [hlen]; omega) hX' (by rw [hlen]; exact hn') fun j b hb hs => ?_
  · rw [hX' i (by omega) (by rw [hX i hi ho]; exact ho)]
    exact hX i hi ho
  · have hjl := (List.getElem?_eq_some_iff.1 hb).1
    refine ⟨bkW_stay hb (by rw [Nat.zero_add]; exact hs) (by omega), fun ad had => ?_⟩
    have hl : b.body.live = true := by
      simp only [stays, Bool.and_eq_true] at hs
      exact hs.1
    exact hI'.kept _ ((hI.blk j b hb hl).lt ad had).2 (ro_free hI hb hs had)

theorem vcD_ok (hT : TOk P T) {n0 : Nat} {ρ00 ρ0 : Pl} {ops : List Oper} {H0 : AH} {G : Wr} {w1 : World} {Q : Post} (hs : Region.noSelect ops.toArray = true) (hI0 : Inv C ρ0 H0 w1) :
    ∀ {s : Sch} {listed : Array Bool} {E : Env} {H : AH} {ρ : Pl} {a : Act} {w : World}, vcD P T N ops H0 (Q .normal) (fun E pv H => Q (.pan pv) (forget ops E) H) s E H → schOk ops.toArray G s listed = true → DIn C ρ0 H0 G w1 listed ρ H w → SD ρ0 H0 G w1 listed w → ERel ρ N D E a → ExtN n0 ρ00 ρ → n0 ≤ H.length →
    ∀ fuel, s.length ≤ fuel → wpAnyL P .any ops.toArray (PostOk C n0 ρ00 N D (forP ops Q)) (SD ρ0 H0 G w1) fuel listed a w
  | [], listed, E, H, ρ, a, w, h, hk, hD, hS, hE, hX, hn => by
    simp only [schOk, List.isEmpty_iff] at hk
    exact fun fuel _ => wpAnyL_done hk ⟨ρ, E, H, h, hD.inv, hE, hX, hn⟩ fuel
  | (true, i, dead) :: r, listed, E, H, ρ, a, w, h, hk, hD, hS, hE, hX, hn => fun fuel hfu => by
    obtain ⟨fuel, rfl⟩ : ∃ f, fuel = f + 1 := ⟨fuel - 1, by simp at hfu; omega⟩
    have hfu : r.length ≤ fuel := by simpa using hfu
    simp only [schOk, Bool.and_eq_true] at hk
    obtain ⟨⟨⟨⟨⟨k1, k2⟩, k3⟩, k4⟩, k5⟩, k6⟩ := hk
    unfold vcD at h
    split at h <;> try (exact h.elim)
    rename_i o ho
    have ho' : ops.toArray[i]? = some o := by simpa using ho
    rw [ho'] at k1
    have hB : ∀ (j : Nat) b, (maskH (fun b => !inL dead b) 0 H0)[j]? = some b → b.body.live = true → BRel ρ j b w1 := fun j b hb hl => by
      obtain ⟨h1, _⟩ := maskH_get hb hl
      exact (hI0.blk j b h1 hl).keep (hD.ext.ext hI0) (Nat.le_refl _) fun _ _ => rfl
    obtain ⟨u, hy, E', hK, hE'⟩ := takeD_yields hT hB k1 h hE
    have hset : ∀ (l : Array Bool) (p : Nat × Nat), p ∈ G → (l.setIfInBounds i true).getD p.2 false = l.getD p.2 false := fun l p hp => by
      have := List.all_eq_true.1 k5 p hp
      simp only [Bool.and_eq_true, bne_iff_ne] at this
      exact getD_set_ne false (fun e => this.1 e.symm)
    have hgl : ∀ (l : Array Bool) (b : Nat), (G.all fun p => p.1 != b || !(l.setIfInBounds i true).getD p.2 false) = (G.all fun p => p.1 != b || !l.getD p.2 false) := fun l b => by
      rw [Bool.eq_iff_iff, List.all_eq_true, List.all_eq_true]
      exact ⟨fun h p hp => (by have := h p hp; rwa [hset l p hp] at this), fun h p hp => (by have := h p hp; rwa [hset l p hp])⟩
    refine wpAnyL_first (S := SD ρ0 H0 G w1) (Y := Agree ρ (maskH (fun b => !inL dead b) 0 H0) w1) (W := waits ops.toArray i) ho' (Region.noSelect_spec hs) (fun _ _ _ h => forP_put (List.mem_of_getElem? ho) h) waits_ok (fun l w' hW hSl => ?_) (fun l w' => ?_) fuel listed a w (Region.free_spec ho' k3) (by simpa using k2) (fun k hk => ?_) hy hS ?_
    · intro j b ad hb hl had
      obtain ⟨h1, h2⟩ := maskH_get hb hl
      refine hSl j b ad (maskH_of h1 ?_) hl ?_
      · rw [Nat.zero_add] at h2 ⊢
        rw [List.all_eq_true]
        intro p hp
        have h3 := List.all_eq_true.1 k5 p hp
        simp only [Bool.and_eq_true, Bool.or_eq_true] at h3
        simp only [Bool.or_eq_true, bne_iff_ne, Bool.not_eq_true']
        by_cases e : p.1 = j
        · refine .inr (hW _ ?_)
          rcases h3.2 with h3 | h3
          · rw [inL_eq] at h2
            rw [e] at h3
            rw [h3] at h2
            cases h2
          · simpa using h3
        · exact .inl e
      · rw [← hD.ext j (List.getElem?_eq_some_iff.1 h1).1 (hI0.on j (List.getElem?_eq_some_iff.1 h1).1)]
        exact had
    · unfold SD
      have : (fun b => G.all fun p => p.1 != b || !(l.setIfInBounds i true).getD p.2 false) = (fun b => G.all fun p => p.1 != b || !l.getD p.2 false) := funext (hgl l)
      rw [this]
    · have := List.all_eq_true.1 k4 k hk
      simpa using this
    · refine vcD_ok hT hs hI0 hK k6 ⟨hD.inv, hD.ext, hD.len, fun b blk hb hl hg => ?_⟩ ?_ hE' hX hn fuel hfu
      · rw [hgl] at hg
        exact hD.same b blk hb hl hg
      · unfold SD
        have : (fun b => G.all fun p => p.1 != b || !(listed.setIfInBounds i true).getD p.2 false) = (fun b => G.all fun p => p.1 != b || !listed.getD p.2 false) := funext (hgl listed)
        rw [this]
        exact hS
  | (false, i, wr) :: r, listed, E, H, ρ, a, w, h, hk, hD, hS, hE, hX, hn => fun fuel hfu => by
    obtain ⟨fuel, rfl⟩ : ∃ f, fuel = f + 1 := ⟨fuel - 1, by simp at hfu; omega⟩
    have hfu : r.length ≤ fuel := by simpa using hfu
    simp only [schOk, Bool.and_eq_true, beq_iff_eq] at hk
    obtain ⟨⟨k1, k2⟩, k3⟩ := hk
    unfold vcD at h
    split at h <;> try (exact h.elim)
    rename_i o ho
    have ho' : ops.toArray[i]? = some o := by simpa using ho
    refine wpAnyL_one k1 ?_
    have hiun : listed.getD i true = false := (mem_ready.1 (by rw [k1]; exact List.mem_singleton.2 rfl : i ∈ Region.ready .any ops.toArray listed)).1
    have hilt : i < listed.size := by
      rcases Nat.lt_or_ge i listed.size with h' | h'
      · exact h'
      · rw [Array.getD_eq_getD_getElem?, Array.getElem?_eq_none h'] at hiun
        cases hiun
    have hdown : ∀ b, (G.all fun p => p.1 != b || !(listed.setIfInBounds i true).getD p.2 false) = true → (G.all fun p => p.1 != b || !listed.getD p.2 false) = true ∧ ∀ p ∈ G, p.1 = b → p.2 ≠ i ∧ listed.getD p.2 false = false := fun b hb => by
      have key : ∀ p ∈ G, p.1 = b → p.2 ≠ i ∧ listed.getD p.2 false = false := fun p hp e => by
        have := List.all_eq_true.1 hb p hp
        simp only [Bool.or_eq_true, bne_iff_ne, Bool.not_eq_true'] at this
        rcases this with h1 | h1
        · exact absurd e h1
        · by_cases hpi : p.2 = i
          · rw [hpi] at h1
            rw [Array.getD_eq_getD_getElem?, Array.getElem?_setIfInBounds_self_of_lt hilt] at h1
            cases h1
          · rw [getD_set_ne false (fun e => hpi e.symm)] at h1
            exact ⟨hpi, h1⟩
      refine ⟨List.all_eq_true.2 fun p hp => ?_, key⟩
      simp only [Bool.or_eq_true, bne_iff_ne, Bool.not_eq_true']
      by_cases e : p.1 = b
      · exact .inr (key p hp e).2
      · exact .inl e
    have hst : ∀ (b : Nat) blk, H0[b]? = some blk → blk.body.live = true → (G.all fun p => p.1 != b || !(listed.setIfInBounds i true).getD p.2 false) = true → H[b]? = some blk ∧ stays (fun b => Nat.ble H0.length b || inL wr b) b blk = true := fun b blk hb hl hg => by
      obtain ⟨h1, h2⟩ := hdown b hg
      refine ⟨hD.same b blk hb hl h1, ?_⟩
      have hbl := (List.getElem?_eq_some_iff.1 hb).1
      have e1 : Nat.ble H0.length b = false := by
        rw [Bool.eq_false_iff]
        intro h
        have := Nat.le_of_ble_eq_true h
        omega
      have e2 : inL wr b = false := by
        rw [inL_eq, Bool.eq_false_iff]
        intro h
        have h3 := List.all_eq_true.1 k2 b (by simpa using h)
        obtain ⟨p, hp, h4⟩ := List.any_eq_true.1 h3
        simp only [Bool.and_eq_true, Bool.or_eq_true, beq_iff_eq] at h4
        obtain ⟨h5, h6⟩ := h2 p hp h4.1
        rcases h4.2 with h7 | h7
        · exact h5 h7
        · rw [h6] at h7
          cases h7
      simp only [stays, hl, e1, e2, Bool.or_self, Bool.and_false, Bool.not_false, Bool.and_self]
    have next : ∀ a' w' ρ' E' H', vcD P T N ops H0 (Q .normal) (fun E pv H => Q (.pan pv) (forget ops E) H) r E' H' → Inv C ρ' H' w' → ERel ρ' N D E' a' → ExtN n0 ρ00 ρ' → n0 ≤ H'.length → ExtN H.length ρ ρ' → H.length ≤ H'.length → (∀ j b, H[j]? = some b → stays (fun b => Nat.ble H0.length b || inL wr b) j b = true → H'[j]? = some b ∧ ∀ ad, (ρ j).addr = some ad → w'.heap[ad.block]? = w.heap[ad.block]?) →
        SD ρ0 H0 G w1 (listed.setIfInBounds i true) w' ∧ wpAnyL P .any ops.toArray (PostOk C n0 ρ00 N D (forP ops Q)) (SD ρ0 H0 G w1) fuel (listed.setIfInBounds i true) a' w' := by
      intro a' w' ρ' E' H' hv hI' hE' hX' hn' hXX hll hsty
      have hS' : SD ρ0 H0 G w1 (listed.setIfInBounds i true) w' := by
        intro b blk ad hb hl had
        obtain ⟨h1, h2⟩ := maskH_get hb hl
        rw [Nat.zero_add] at h2
        obtain ⟨h3, h4⟩ := hst b blk h1 hl h2
        have hbl := (List.getElem?_eq_some_iff.1 h1).1
        rw [(hsty b blk h3 h4).2 ad (by rw [hD.ext b hbl (hI0.on b hbl)]; exact had)]
        exact hS b blk ad (maskH_of h1 (by rw [Nat.zero_add]; exact (hdown b h2).1)) hl had
      refine ⟨hS', vcD_ok hT hs hI0 hv k3 ⟨hI', fun j hj hjo => ?_, Nat.le_trans hD.len hll, fun b blk hb hl hg => ?_⟩ hS' hE' hX' hn' fuel hfu⟩
      · have := hD.ext j hj hjo
        rw [hXX j (Nat.lt_of_lt_of_le hj hD.len) (by rw [this]; exact hjo), this]
      · obtain ⟨h3, h4⟩ := hst b blk hb hl hg
        exact (hsty b blk h3 h4).1
    have run : ∀ E, ERel ρ N D E a → makeS P T N o (fun b => Nat.ble H0.length b || inL wr b) E H (fun E' H' => vcD P T N ops H0 (Q .normal) (fun E pv H => Q (.pan pv) (forget ops E) H) r E' H') (fun pv H => Q (.pan pv) (forget ops E) H) → o.wp P a w (fun a' w' => SD ρ0 H0 G w1 (listed.setIfInBounds i true) w' ∧ wpAnyL P .any ops.toArray (PostOk C n0 ρ00 N D (forP ops Q)) (SD ρ0 H0 G w1) fuel (listed.setIfInBounds i true) a' w') (PostOk C n0 ρ00 N D (forP ops Q)) := fun E hE h =>
      makeS_ok hT h next (fun pv a' w' ρ' H' hq hI' hE' hX' hn' => ⟨ρ', forget ops E, H', ⟨forget_any ops E, hq⟩, hI', forget_rel ops hE', hX', hn'⟩) hD.inv hE hX hn
    have skip : ∀ E, ERel ρ N D E a → vPut N o.dst (.val undef) E (fun E' => vcD P T N ops H0 (Q .normal) (fun E pv H => Q (.pan pv) (forget ops E) H) r E' H) → SD ρ0 H0 G w1 (listed.setIfInBounds i true) w ∧ wpAnyL P .any ops.toArray (PostOk C n0 ρ00 N D (forP ops Q)) (SD ρ0 H0 G w1) fuel (listed.setIfInBounds i true) (a.put o.dst undef) w := fun E hE h => by
      obtain ⟨E', hk, hE'⟩ := vPut_ok (u := undef) h hE rfl
      exact next _ w ρ E' H hk hD.inv hE' hX hn (ExtN.refl _ _) (Nat.le_refl _) fun j b hb _ => ⟨hb, fun _ _ => rfl⟩
    unfold makeD at h
    unfold wpOp
    rw [ho']
    dsimp only
    split at h
    · rename_i hg
      rw [if_pos (by simp [Region.wanted, hg])]
      exact .inl (run E hE h)
    · rename_i j want hg
      split at h
      · rename_i b t hb
        have hy := guard_ok hE hb
        have hE2 := hE.known hb
        by_cases hbw : b = want
        · rw [if_pos (by simp [Region.wanted, hg, hy, hbw])]
          exact .inl (run _ (by rw [hbw] at hE2; exact hE2) (by have h1 := h.1 hbw; rwa [putK_eq] at h1))
        · rw [if_neg (by simp [Region.wanted, hg, hy, hbw])]
          have hbn : b = !want := by cases b <;> cases want <;> simp_all
          exact skip _ (by rw [hbn] at hE2; exact hE2) (by have h1 := h.2 hbn; rwa [putK_eq] at h1)
      · rename_i hb
        have hy := guard_ok hE hb
        rw [if_neg (by simp [Region.wanted, hg, hy])]
        exact skip E hE h
      · exact h.elim

/-- A REGION THAT DRAWS ITS ORDER, by a schedule -/
theorem drawn_rule (hT : TOk P T) (hm : P.follows .mixedOrders = true) {n0 id : Nat} {ops : Array Oper} {Q : Post} {E : Env} {H : AH} (G : Wr) (s : Sch) (hk : schB ops G s = true) (h : vcD P T N ops.toList H (Q .normal) (fun E pv H => Q (.pan pv) (forget ops.toList E) H) s E H) : ASem P N n0 (.region id ops true) Q E H := by
  intro C D ρ00 ρ w a hI hE hX hn
  simp only [schB, Bool.and_eq_true, decide_eq_true_eq] at hk
  obtain ⟨⟨k1, k2⟩, k3⟩ := hk
  have hI' : Inv C ρ H w.drew := hI.drew
  refine Code.wp_mono (Q := PostOk C n0 ρ00 N D (forP ops.toList Q)) ?_ ?_
  · intro e a' w' hq
    cases e with
    | normal => exact hq
    | exit id => exact hq
    | ret => exact hq
    | panic ch => exact hq.pan fun _ _ _ h => h.2
    | _ => exact hq.elim
  refine wp_region_any hm (wpAny_of_L (S := SD ρ H G w.drew) _ _ _ _ ?_)
  have := vcD_ok (n0 := n0) (ρ00 := ρ00) (G := G) (s := s) (listed := Array.replicate ops.size false) (Q := Q) hT (ops := ops.toList) (by simpa using k1) hI' h (by simpa using k3) ⟨hI', ExtN.refl _ _, Nat.le_refl _, fun b blk hb _ _ => hb⟩ (fun _ _ _ _ _ _ => rfl) hE hX hn ops.size k2
  rw [Array.toArray_toList] at this
  exact this
end
end Go.Proofs.Ytpbenjpponbjjaa.En
