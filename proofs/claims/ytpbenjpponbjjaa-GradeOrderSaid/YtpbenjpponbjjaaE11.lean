/- A function's text gone through (2): regions in any order, branches, loops. -/
import Derived.Test.YtpbenjpponbjjaaE10
import Derived.LoopN
namespace Go.Proofs.Ytpbenjpponbjjaa.En
open Go.RowKit

section
variable {C : Cx} {P : Program} {T : TT} {N : Nat} {D : List Deferred}

theorem Inv.below {ρ : Pl} {H : AH} {w w' : World} (h : Inv C ρ H w) (hb : Below w.heap.size w w') : Inv C ρ H w' :=
  ⟨fun i b hb' hl => (h.blk i b hb' hl).keep (Ext.refl ρ) hb.size fun a ha => hb.block _ ((h.blk i b hb' hl).lt a ha).2, h.on, h.off, h.sep, h.own, hb.os.trans h.os, hb.tape.trans h.tape, hb.output.trans h.output, Nat.le_trans h.size hb.size,
    fun k hk ho => (hb.block k (Nat.lt_of_lt_of_le hk h.size)).trans (h.kept k hk ho)⟩
theorem Inv.agree {ρ : Pl} {H : AH} {w w' : World} (h : Inv C ρ H w) (hb : Below w.heap.size w w') : Agree ρ H w w' := fun i b a hi hl ha => hb.block _ ((h.blk i b hi hl).lt a ha).2

theorem plainA_ok {ρ : Pl} {x : A} {v : Value} (h : plainA x = some v) : ARel ρ x v := by
  unfold plainA at h
  split at h <;> try (cases h; done)
  injection h with h
  subst h
  rfl
theorem plainAs_ok {ρ : Pl} : ∀ {l : List A} {vs : List Value}, plainAs l = some vs → LRel (ARel ρ) l vs
  | [], vs, h => by
    injection h with h
    subst h
    trivial
  | x :: l, vs, h => by
    unfold plainAs at h
    split at h <;> try (cases h; done)
    rename_i y ys h1 h2
    injection h with h
    subst h
    exact ⟨plainA_ok h1, plainAs_ok h2⟩
theorem plainT_ok {ρ : Pl} {x : AT} {v : Value} (h : plainT x = some v) : ATRel ρ x v := by
  unfold plainT at h
  split at h
  · exact plainA_ok h
  · split at h <;> try (cases h; done)
    rename_i vs hv
    injection h with h
    subst h
    exact ⟨_, rfl, plainAs_ok hv⟩
theorem plainTs_ok {ρ : Pl} : ∀ {l : List AT} {vs : List Value}, plainTs l = some vs → LRel (ATRel ρ) l vs
  | [], vs, h => by
    injection h with h
    subst h
    trivial
  | x :: l, vs, h => by
    unfold plainTs at h
    split at h <;> try (cases h; done)
    rename_i y ys h1 h2
    injection h with h
    subst h
    exact ⟨plainT_ok h1, plainTs_ok h2⟩
theorem plain_ok {ρ : Pl} {v : AV} {pv : Value} (h : plain v = some pv) : VRel ρ v pv := by
  unfold plain at h
  split at h <;> try (cases h; done)
  · exact plainT_ok h
  · split at h <;> try (cases h; done)
    rename_i vs hv
    injection h with h
    subst h
    exact ⟨_, rfl, plainTs_ok hv⟩

theorem wpQuiet_mono' {ops : Array Oper} {K : World → Prop} {Q Q' : Act → Prop} (h : ∀ a, Q a → Q' a) : ∀ {l : List Oper} {a : Act}, wpQuiet P ops K Q l a → wpQuiet P ops K Q' l a
  | [], a, hq => h a hq
  | o :: rest, a, hq => by
    unfold wpQuiet at hq ⊢
    split
    · rename_i hw
      rw [if_pos hw] at hq
      exact Oper.quiet_mono (fun a' => wpQuiet_mono' h) hq
    · rename_i hw
      rw [if_neg hw] at hq
      exact wpQuiet_mono' h hq

theorem opStepQ_ok (hT : TOk P T) {w1 : World} {ρ : Pl} {o : Oper} {E : Env} {H : AH} {K : Env → Prop} {a : Act} {K' : Act → Prop} (h : opStepQ P T N o E H K)
    (hK : ∀ a, (∃ E', K E' ∧ ERel ρ N D E' a) → K' a) (hI : Inv C ρ H w1) (hE : ERel ρ N D E a) : o.quiet P a (fun w' => Below w1.heap.size w1 w') K' := by
  have h := opStepQ_eq h
  unfold opStepQ0 at h
  split at h
  · rename_i c v hs
    obtain ⟨hc, hp⟩ := h
    obtain ⟨u, hv, hr⟩ := still_ok hT hI.blk hE hs hc
    obtain ⟨E', hk, hE'⟩ := vPut_ok hp hE hv
    refine ⟨u, fun w' hw' => ?_, hK _ ⟨E', hk, hE'⟩⟩
    unfold Oper.quietAt
    rw [hr w' (hI.agree hw')]
    exact ⟨rfl, rfl⟩
  · split at h <;> try (exact h.elim)
    · rename_i t parts ho
      split at h <;> try (exact h.elim)
      rename_i c v hb
      obtain ⟨hc, hp⟩ := h
      obtain ⟨u, hv, hr⟩ := build_ok (P := P) (ρ := ρ) hT (rparts := parts.map fun (i, x) => (i, a.eval x)) (by simp) (parts_ok hE parts) hb
      obtain ⟨E', hk, hE'⟩ := vPut_ok hp hE hv
      refine ⟨u, fun w' hw' => ?_, hK _ ⟨E', hk, hE'⟩⟩
      unfold Oper.quietAt
      have : (execOp a.eval o).run P w' = .ok (.value u) w' := by simp [execOp, ho, hr w']
      rw [this]
      exact ⟨rfl, rfl⟩
    · rename_i c ho
      split at h <;> try (exact h.elim)
      rename_i g args hcl
      obtain ⟨v, ⟨hent, pv, hpv, hcall⟩, hp⟩ := h
      obtain ⟨ra, hra, hrun⟩ := callee_ok (P := P) hE ho hcl hent
      obtain ⟨E', hk, hE'⟩ := vPut_ok hp hE (plain_ok hpv)
      refine ⟨pv, fun w' hw' => ?_, hK _ ⟨E', hk, hE'⟩⟩
      unfold Oper.quietAt
      rw [hrun w']
      refine ⟨rfl, (hcall C ρ w' ra (hI.below hw') hra).mono ?_⟩
      rintro e w2 ⟨rfl, hb⟩
      exact ⟨rfl, hw'.trans (hb.mono hw'.size)⟩

theorem opsQ_ok (hT : TOk P T) {w1 : World} {ρ : Pl} {ops : List Oper} {H : AH} {Q : Env → Prop} (hI : Inv C ρ H w1) : ∀ {l : List Oper} {E : Env} {a : Act}, vcQ P T N ops H Q l E → ERel ρ N D E a →
    wpQuiet P ops.toArray (fun w' => Below w1.heap.size w1 w') (fun a' => ∃ E', Q E' ∧ ERel ρ N D E' a') l a
  | [], E, a, h, hE => ⟨E, h, hE⟩
  | o :: rest, E, a, h, hE => by
    have run : ∀ E, ERel ρ N D E a → opStepQ P T N o E H (vcQ P T N ops H Q rest) → o.quiet P a (fun w' => Below w1.heap.size w1 w') (wpQuiet P ops.toArray (fun w' => Below w1.heap.size w1 w') (fun a' => ∃ E', Q E' ∧ ERel ρ N D E' a') rest) :=
      fun E hE h => opStepQ_ok hT h (fun a ⟨E', h', hE'⟩ => opsQ_ok hT hI h' hE') hI hE
    have skip : ∀ E, ERel ρ N D E a → vPut N o.dst (.val undef) E (vcQ P T N ops H Q rest) → wpQuiet P ops.toArray (fun w' => Below w1.heap.size w1 w') (fun a' => ∃ E', Q E' ∧ ERel ρ N D E' a') rest (a.put o.dst undef) := fun E hE h => by
      obtain ⟨E', hk, hE'⟩ := vPut_ok (u := undef) h hE rfl
      exact opsQ_ok hT hI hk hE'
    unfold vcQ at h
    unfold wpQuiet
    split at h
    · rename_i hg
      rw [if_pos (by simp [Region.wanted, hg])]
      exact run E hE h
    · rename_i j want hg
      split at h
      · rename_i b t hb
        have hy := guard_ok hE hb
        have hE2 := hE.known hb
        by_cases hbw : b = want
        · rw [if_pos (by simp [Region.wanted, hg, hy, hbw])]
          exact run _ (by rw [hbw] at hE2; exact hE2) (by have h1 := h.1 hbw; rwa [putK_eq] at h1)
        · rw [if_neg (by simp [Region.wanted, hg, hy, hbw])]
          have hbn : b = !want := by cases b <;> cases want <;> simp_all
          exact skip _ (by rw [hbn] at hE2; exact hE2) (by have h1 := h.2 hbn; rwa [putK_eq] at h1)
      · rename_i hb
        have hy := guard_ok hE hb
        rw [if_neg (by simp [Region.wanted, hg, hy])]
        exact skip E hE h
      · exact h.elim

/-- what has to be shown of a piece of code -/
def ASem (P : Program) (N n0 : Nat) (c : Code) (Q : Post) (E : Env) (H : AH) : Prop :=
  ∀ (C : Cx) (D : List Deferred) (ρ0 ρ : Pl) (w : World) (a : Act), Inv C ρ H w → ERel ρ N D E a → ExtN n0 ρ0 ρ → n0 ≤ H.length → c.wp P (PostOk C n0 ρ0 N D Q) a w
def thenQ (K : Env → AH → Prop) (Q : Post) : Post
  | .normal => K
  | x => Q x
def blockQ (id : Nat) (Q : Post) : Post
  | .exit i => if i = id then Q .normal else Q (.exit i)
  | x => Q x
def LexOk (ops : Array Oper) : Prop := Region.lexB .any ops = true
theorem lexOk {ops : Array Oper} (h : Region.lexB .any ops = true) : LexOk ops := h
theorem all_t {l : List A} (h : l.all A.one = true) : l.all A.one = true := h
theorem and_t {a b : Bool} (h : a = true) (k : b = true) : (a && b) = true := by rw [h, k]; rfl
/-- an operation that makes or writes memory, Go's own calls aside -/
def isMaker : Op → Bool
  | .alloc _ => true
  | .box _ _ => true
  | .buildSlice _ _ _ => true
  | .makeSlice _ _ _ => true
  | .store _ _ _ => true
  | .call c => match c.callee with
    | .builtin .append => true
    | _ => false
  | _ => false
def makes : List Oper → Bool
  | [] => false
  | o :: r => match isMaker o.op with
    | true => true
    | false => makes r
def vc (P : Program) (T : TT) (N n0 : Nat) : Code → Post → Env → AH → Prop
  | .skip, Q, E, H => Q .normal E H
  | .label _, Q, E, H => Q .normal E H
  | .region _ ops false, Q, E, H => vcOps P T N ops.toList (Q .normal) (fun pv => Q (.pan pv)) ops.toList E H
  | .region id ops true, Q, E, H => match makes ops.toList with
    | true => ASem P N n0 (.region id ops true) Q E H
    | false => (LexOk ops ∧ vcQ P T N ops.toList H (fun E' => Q .normal E' H) ops.toList E) ∨ ASem P N n0 (.region id ops true) Q E H
  | .seq x y, Q, E, H => vc P T N n0 x (thenQ (vc P T N n0 y Q) Q) E H
  | .cond c x y, Q, E, H => match ev E c with
    | .t (.a (.s (.v (.bool b)))) => (b = true → vc P T N n0 x Q E H) ∧ (b = false → vc P T N n0 y Q E H)
    | _ => False
  | .block id c, Q, E, H => vc P T N n0 c (blockQ id Q) E H
  | .loop c, Q, E, H => ASem P N n0 (.loop c) Q E H
  | .exit id, Q, E, H => Q (.exit id) E H
  | .ret, Q, E, H => Q .ret E H
  | _, _, _, _ => False

theorem Left.mono {n0 : Nat} {ρ0 : Pl} {Q Q' : Env → AH → Prop} {a : Act} {w : World} (h : Left C n0 ρ0 N D Q a w) (hq : ∀ E H, Q E H → Q' E H) : Left C n0 ρ0 N D Q' a w :=
  let ⟨ρ, E, H, h1, h2⟩ := h
  ⟨ρ, E, H, hq _ _ h1, h2⟩

theorem vc_ok (hT : TOk P T) (hm : P.follows .mixedOrders = true) {n0 : Nat} : ∀ (c : Code) (Q : Post) (E : Env) (H : AH), vc P T N n0 c Q E H → ASem P N n0 c Q E H := by
  intro c
  induction c with
  | skip => exact fun Q E H h C D ρ0 ρ w a hI hE hX hn => wp_skip ⟨ρ, E, H, h, hI, hE, hX, hn⟩
  | label l => exact fun Q E H h C D ρ0 ρ w a hI hE hX hn => wp_label ⟨ρ, E, H, h, hI, hE, hX, hn⟩
  | region id ops draw =>
    intro Q E H h C D ρ0 ρ w a hI hE hX hn
    cases draw
    · refine wp_region_list ?_
      have := ops_ok hT (n0 := n0) (ρ0 := ρ0) (ops := ops.toList) (Q := Q) h hI hE hX hn
      simpa using this
    · unfold vc at h
      split at h
      · exact h C D ρ0 ρ w a hI hE hX hn
      rcases h with ⟨hl, hq⟩ | h
      · have hI' : Inv C ρ H w.drew := hI.drew
        refine wp_region_quiet (C := fun w' => Below w.drew.heap.size w.drew w') hm hl (Below.refl _ _) ?_
        have := opsQ_ok hT hI' hq hE
        rw [Array.toArray_toList] at this
        refine wpQuiet_mono' ?_ this
        rintro a' ⟨E', h', hE'⟩ w' hw'
        exact ⟨ρ, E', H, h', hI'.below hw', hE', hX, hn⟩
      · exact h C D ρ0 ρ w a hI hE hX hn
  | seq x y ihx ihy =>
    intro Q E H h C D ρ0 ρ w a hI hE hX hn
    refine wp_seq (Code.wp_mono ?_ (ihx _ E H h C D ρ0 ρ w a hI hE hX hn))
    intro e a' w' hq
    cases e with
    | normal =>
      obtain ⟨ρ', E', H', h', hI', hE', hX', hn'⟩ := hq
      exact ihy Q E' H' h' C D ρ0 ρ' w' a' hI' hE' hX' hn'
    | exit id => exact hq
    | ret => exact hq
    | panic ch => exact hq.pan fun _ _ _ h => h
    | _ => exact hq.elim
  | cond c x y ihx ihy =>
    intro Q E H h C D ρ0 ρ w a hI hE hX hn
    unfold vc at h
    split at h <;> try (exact h.elim)
    rename_i b hb
    have hv := ev_ok hE c
    rw [hb] at hv
    refine wp_cond (t := b) hv ?_
    cases b
    · exact ihy Q E H (h.2 rfl) C D ρ0 ρ w a hI hE hX hn
    · exact ihx Q E H (h.1 rfl) C D ρ0 ρ w a hI hE hX hn
  | block id c ih =>
    intro Q E H h C D ρ0 ρ w a hI hE hX hn
    refine wp_block (Code.wp_mono ?_ (ih _ E H h C D ρ0 ρ w a hI hE hX hn))
    intro e a' w' hq
    cases e with
    | normal => exact hq
    | exit i =>
      simp only [Exit.inBlock]
      simp only [PostOk, blockQ] at hq
      split
      · rename_i e
        rw [if_pos e] at hq
        exact hq
      · rename_i e
        rw [if_neg e] at hq
        exact hq
    | ret => exact hq
    | panic ch => exact hq.pan fun _ _ _ h => h
    | _ => exact hq.elim
  | loop c ih => exact fun Q E H h => h
  | exit id => exact fun Q E H h C D ρ0 ρ w a hI hE hX hn => wp_exit ⟨ρ, E, H, h, hI, hE, hX, hn⟩
  | ret => exact fun Q E H h C D ρ0 ρ w a hI hE hX hn => wp_ret ⟨ρ, E, H, h, hI, hE, hX, hn⟩
  | _ => exact fun Q E H h => h.elim
end
end Go.Proofs.Ytpbenjpponbjjaa.En
