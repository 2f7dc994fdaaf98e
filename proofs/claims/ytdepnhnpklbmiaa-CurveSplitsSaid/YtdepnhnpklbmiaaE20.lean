/- Regions that draw their order (3): two makers that nothing orders, in both orders. -/
import Derived.Test.YtdepnhnpklbmiaaE18
namespace Go.Proofs.Ytdepnhnpklbmiaa
open Go.RowKit

inductive Sc where
  | done
  | quiet (i : Nat) (dead : List Nat) (r : Sc)
  | make (i : Nat) (wr : List Nat) (r : Sc)
  | two (i j : Nat) (wi wj : List Nat) (ri rj : Sc)
  | three (i j k : Nat) (wi wj wk : List Nat) (ri rj rk : Sc)
def Sc.len : Sc → Nat
  | .done => 0
  | .quiet _ _ r => r.len + 1
  | .make _ _ r => r.len + 1
  | .two _ _ _ _ ri rj => max ri.len rj.len + 1
  | .three _ _ _ _ _ _ ri rj rk => max ri.len (max rj.len rk.len) + 1
def wrOk (G : Wr) (i : Nat) (wr : List Nat) (listed : Array Bool) : Bool := wr.all fun b => G.any fun p => p.1 == b && (p.2 == i || listed.getD p.2 false)
def scOk (ops : Array Oper) (G : Wr) : Sc → Array Bool → Bool
  | .done, listed => (Region.ready .any ops listed).isEmpty
  | .quiet i dead r, listed => (match ops[i]? with | some o => quietKind o.op | none => false) && (Region.ready .any ops listed).contains i && Region.free .any ops listed i && (waits ops i).all (fun k => !listed.getD k false) &&
      G.all (fun p => p.2 != i && (dead.contains p.1 || (waits ops i).contains p.2)) && scOk ops G r (listed.setIfInBounds i true)
  | .make i wr r, listed => (Region.ready .any ops listed == [i]) && wrOk G i wr listed && scOk ops G r (listed.setIfInBounds i true)
  | .two i j wi wj ri rj, listed => (Region.ready .any ops listed == [i, j]) && wrOk G i wi listed && scOk ops G ri (listed.setIfInBounds i true) && wrOk G j wj listed && scOk ops G rj (listed.setIfInBounds j true)
  | .three i j k wi wj wk ri rj rk, listed => (Region.ready .any ops listed == [i, j, k]) && wrOk G i wi listed && scOk ops G ri (listed.setIfInBounds i true) && wrOk G j wj listed && scOk ops G rj (listed.setIfInBounds j true) && wrOk G k wk listed && scOk ops G rk (listed.setIfInBounds k true)
def scB (ops : Array Oper) (G : Wr) (s : Sc) : Bool := Region.noSelect ops && decide (s.len ≤ ops.size) && scOk ops G s (Array.replicate ops.size false)
def vcS (P : Program) (T : TT) (N : Nat) (ops : List Oper) (H0 : AH) (Q : Env → AH → Prop) (QP : Env → Value → AH → Prop) : Sc → Env → AH → Prop
  | .done, E, H => Q E H
  | .quiet i dead r, E, H => match ops[i]? with
    | some o => takeD P T N ops o E (maskH (fun b => !inL dead b) 0 H0) (fun E' => vcS P T N ops H0 Q QP r E' H)
    | none => False
  | .make i wr r, E, H => match ops[i]? with
    | some o => makeD P T N ops o (fun b => Nat.ble H0.length b || inL wr b) E H (fun E' H' => vcS P T N ops H0 Q QP r E' H') QP
    | none => False
  | .two i j wi wj ri rj, E, H => (match ops[i]? with
    | some o => makeD P T N ops o (fun b => Nat.ble H0.length b || inL wi b) E H (fun E' H' => vcS P T N ops H0 Q QP ri E' H') QP
    | none => False) ∧ (match ops[j]? with
    | some o => makeD P T N ops o (fun b => Nat.ble H0.length b || inL wj b) E H (fun E' H' => vcS P T N ops H0 Q QP rj E' H') QP
    | none => False)
  | .three i j k wi wj wk ri rj rk, E, H => (match ops[i]? with
    | some o => makeD P T N ops o (fun b => Nat.ble H0.length b || inL wi b) E H (fun E' H' => vcS P T N ops H0 Q QP ri E' H') QP
    | none => False) ∧ (match ops[j]? with
    | some o => makeD P T N ops o (fun b => Nat.ble H0.length b || inL wj b) E H (fun E' H' => vcS P T N ops H0 Q QP rj E' H') QP
    | none => False) ∧ (match ops[k]? with
    | some o => makeD P T N ops o (fun b => Nat.ble H0.length b || inL wk b) E H (fun E' H' => vcS P T N ops H0 Q QP rk E' H') QP
    | none => False)

section
variable {C : Cx} {P : Program} {T : TT} {N : Nat} {D : List Deferred}
theorem make_step (hT : TOk P T) {n0 : Nat} {ρ00 ρ0 : Pl} {ops : List Oper} {H0 : AH} {G : Wr} {w1 : World} {Q : Post} (hI0 : Inv C ρ0 H0 w1) {listed : Array Bool} {E : Env} {H : AH} {ρ : Pl} {a : Act} {w : World} {i : Nat} {wr : List Nat} {o : Oper} {Kc : Env → AH → Prop} {R : Act → World → Prop}
    (hiun : listed.getD i true = false) (k2 : wrOk G i wr listed = true) (ho' : ops.toArray[i]? = some o)
    (h : makeD P T N ops o (fun b => Nat.ble H0.length b || inL wr b) E H (fun E' H' => Kc E' H') (fun E pv H => Q (.pan pv) (forget ops E) H))
    (hD : DIn C ρ0 H0 G w1 listed ρ H w) (hS : SD ρ0 H0 G w1 listed w) (hE : ERel ρ N D E a) (hX : ExtN n0 ρ00 ρ) (hn : n0 ≤ H.length)
    (hnext : ∀ a' w' ρ' E' H', Kc E' H' → DIn C ρ0 H0 G w1 (listed.setIfInBounds i true) ρ' H' w' → SD ρ0 H0 G w1 (listed.setIfInBounds i true) w' → ERel ρ' N D E' a' → ExtN n0 ρ00 ρ' → n0 ≤ H'.length → R a' w') :
    wpOp P ops.toArray (PostOk C n0 ρ00 N D (forP ops Q)) i (fun a' w' => SD ρ0 H0 G w1 (listed.setIfInBounds i true) w' ∧ R a' w') a w := by
    unfold wrOk at k2
    have hilt : i < listed.size := by
      rcases Nat.lt_or_ge i listed.size with h' | h'
      · exact h'
      · rw [Array.getD_eq_getD_getElem?, Array.getElem?_eq_none h'] at hiun
        cases hiun
    have hdown : ∀ b, (G.all fun p => p.1 != b || !(listed.setIfInBounds i true).getD p.2 false) = true → (G.all fun p => p.1 != b || !listed.getD p.2 false) = true ∧ ∀ p ∈ G, p.1 = b → p.2 ≠ i ∧ listed.getD p.2 false = false := fun b hb => by
      have key : ∀ p ∈ G, p.1 = b → p.2 ≠ i ∧ listed.getD p.2 false = false := fun p hp e => by
        have := List.all_eq_true.1 hb p hp
        simp only [Bool.or_eq_true, bne_iff_ne, Bool.not_eq_true'] at this
        rcases this with h1 | h1
        · exact absurd e h1
        · by_cases hpi : p.2 = i
          · rw [hpi] at h1
            rw [Array.getD_eq_getD_getElem?, Array.getElem?_setIfInBounds_self_of_lt hilt] at h1
            cases h1
          · rw [getD_set_ne false (fun e => hpi e.symm)] at h1
            exact ⟨hpi, h1⟩
      refine ⟨List.all_eq_true.2 fun p hp => ?_, key⟩
      simp only [Bool.or_eq_true, bne_iff_ne, Bool.not_eq_true']
      by_cases e : p.1 = b
      · exact .inr (key p hp e).2
      · exact .inl e
    have hst : ∀ (b : Nat) blk, H0[b]? = some blk → blk.body.live = true → (G.all fun p => p.1 != b || !(listed.setIfInBounds i true).getD p.2 false) = true → H[b]? = some blk ∧ stays (fun b => Nat.ble H0.length b || inL wr b) b blk = true := fun b blk hb hl hg => by
      obtain ⟨h1, h2⟩ := hdown b hg
      refine ⟨hD.same b blk hb hl h1, ?_⟩
      have hbl := (List.getElem?_eq_some_iff.1 hb).1
      have e1 : Nat.ble H0.length b = false := by
        rw [Bool.eq_false_iff]
        intro h
        have := Nat.le_of_ble_eq_true h
        omega
      have e2 : inL wr b = false := by
        rw [inL_eq, Bool.eq_false_iff]
        intro h
        have h3 := List.all_eq_true.1 k2 b (by simpa using h)
        obtain ⟨p, hp, h4⟩ := List.any_eq_true.1 h3
        simp only [Bool.and_eq_true, Bool.or_eq_true, beq_iff_eq] at h4
        obtain ⟨h5, h6⟩ := h2 p hp h4.1
        rcases h4.2 with h7 | h7
        · exact h5 h7
        · rw [h6] at h7
          cases h7
      simp only [stays, hl, e1, e2, Bool.or_self, Bool.and_false, Bool.not_false, Bool.and_self]
    have next : ∀ a' w' ρ' E' H', Kc E' H' → Inv C ρ' H' w' → ERel ρ' N D E' a' → ExtN n0 ρ00 ρ' → n0 ≤ H'.length → ExtN H.length ρ ρ' → H.length ≤ H'.length → (∀ j b, H[j]? = some b → stays (fun b => Nat.ble H0.length b || inL wr b) j b = true → H'[j]? = some b ∧ ∀ ad, (ρ j).addr = some ad → w'.heap[ad.block]? = w.heap[ad.block]?) →
        SD ρ0 H0 G w1 (listed.setIfInBounds i true) w' ∧ R a' w' := by
      intro a' w' ρ' E' H' hv hI' hE' hX' hn' hXX hll hsty
      have hS' : SD ρ0 H0 G w1 (listed.setIfInBounds i true) w' := by
        intro b blk ad hb hl had
        obtain ⟨h1, h2⟩ := maskH_get hb hl
        rw [Nat.zero_add] at h2
        obtain ⟨h3, h4⟩ := hst b blk h1 hl h2
        have hbl := (List.getElem?_eq_some_iff.1 h1).1
        rw [(hsty b blk h3 h4).2 ad (by rw [hD.ext b hbl (hI0.on b hbl)]; exact had)]
        exact hS b blk ad (maskH_of h1 (by rw [Nat.zero_add]; exact (hdown b h2).1)) hl had
      refine ⟨hS', hnext a' w' ρ' E' H' hv ⟨hI', fun j hj hjo => ?_, Nat.le_trans hD.len hll, fun b blk hb hl hg => ?_⟩ hS' hE' hX' hn'⟩
      · have := hD.ext j hj hjo
        rw [hXX j (Nat.lt_of_lt_of_le hj hD.len) (by rw [this]; exact hjo), this]
      · obtain ⟨h3, h4⟩ := hst b blk hb hl hg
        exact (hsty b blk h3 h4).1
    have run : ∀ E, ERel ρ N D E a → makeS P T N o (fun b => Nat.ble H0.length b || inL wr b) E H (fun E' H' => Kc E' H') (fun pv H => Q (.pan pv) (forget ops E) H) → o.wp P a w (fun a' w' => SD ρ0 H0 G w1 (listed.setIfInBounds i true) w' ∧ R a' w') (PostOk C n0 ρ00 N D (forP ops Q)) := fun E hE h =>
      makeS_ok hT h next (fun pv a' w' ρ' H' hq hI' hE' hX' hn' => ⟨ρ', forget ops E, H', ⟨forget_any ops E, hq⟩, hI', forget_rel ops hE', hX', hn'⟩) hD.inv hE hX hn
    have skip : ∀ E, ERel ρ N D E a → vPut N o.dst (.val undef) E (fun E' => Kc E' H) → SD ρ0 H0 G w1 (listed.setIfInBounds i true) w ∧ R (a.put o.dst undef) w := fun E hE h => by
      obtain ⟨E', hk, hE'⟩ := vPut_ok (u := undef) h hE rfl
      exact next _ w ρ E' H hk hD.inv hE' hX hn (ExtN.refl _ _) (Nat.le_refl _) fun j b hb _ => ⟨hb, fun _ _ => rfl⟩
    unfold makeD at h
    unfold wpOp
    rw [ho']
    dsimp only
    split at h
    · rename_i hg
      rw [if_pos (by simp [Region.wanted, hg])]
      exact .inl (run E hE h)
    · rename_i j want hg
      split at h
      · rename_i b t hb
        have hy := guard_ok hE hb
        have hE2 := hE.known hb
        by_cases hbw : b = want
        · rw [if_pos (by simp [Region.wanted, hg, hy, hbw])]
          exact .inl (run _ (by rw [hbw] at hE2; exact hE2) (by have h1 := h.1 hbw; rwa [putK_eq] at h1))
        · rw [if_neg (by simp [Region.wanted, hg, hy, hbw])]
          have hbn : b = !want := by cases b <;> cases want <;> simp_all
          exact skip _ (by rw [hbn] at hE2; exact hE2) (by have h1 := h.2 hbn; rwa [putK_eq] at h1)
      · rename_i hb
        have hy := guard_ok hE hb
        rw [if_neg (by simp [Region.wanted, hg, hy])]
        exact skip E hE h
      · exact h.elim


theorem vcS_ok (hT : TOk P T) {n0 : Nat} {ρ00 ρ0 : Pl} {ops : List Oper} {H0 : AH} {G : Wr} {w1 : World} {Q : Post} (hs : Region.noSelect ops.toArray = true) (hI0 : Inv C ρ0 H0 w1) :
    ∀ {s : Sc} {listed : Array Bool} {E : Env} {H : AH} {ρ : Pl} {a : Act} {w : World}, vcS P T N ops H0 (Q .normal) (fun E pv H => Q (.pan pv) (forget ops E) H) s E H → scOk ops.toArray G s listed = true → DIn C ρ0 H0 G w1 listed ρ H w → SD ρ0 H0 G w1 listed w → ERel ρ N D E a → ExtN n0 ρ00 ρ → n0 ≤ H.length →
    ∀ fuel, s.len ≤ fuel → wpAnyL P .any ops.toArray (PostOk C n0 ρ00 N D (forP ops Q)) (SD ρ0 H0 G w1) fuel listed a w
  | .done, listed, E, H, ρ, a, w, h, hk, hD, hS, hE, hX, hn => by
    simp only [scOk, List.isEmpty_iff] at hk
    exact fun fuel _ => wpAnyL_done hk ⟨ρ, E, H, h, hD.inv, hE, hX, hn⟩ fuel
  | .quiet i dead r, listed, E, H, ρ, a, w, h, hk, hD, hS, hE, hX, hn => fun fuel hfu => by
    obtain ⟨fuel, rfl⟩ : ∃ f, fuel = f + 1 := ⟨fuel - 1, by simp only [Sc.len] at hfu; omega⟩
    have hfu : r.len ≤ fuel := by simp only [Sc.len] at hfu; omega
    simp only [scOk, Bool.and_eq_true] at hk
    obtain ⟨⟨⟨⟨⟨k1, k2⟩, k3⟩, k4⟩, k5⟩, k6⟩ := hk
    unfold vcS at h
    split at h <;> try (exact h.elim)
    rename_i o ho
    have ho' : ops.toArray[i]? = some o := by simpa using ho
    rw [ho'] at k1
    have hB : ∀ (j : Nat) b, (maskH (fun b => !inL dead b) 0 H0)[j]? = some b → b.body.live = true → BRel ρ j b w1 := fun j b hb hl => by
      obtain ⟨h1, _⟩ := maskH_get hb hl
      exact (hI0.blk j b h1 hl).keep (hD.ext.ext hI0) (Nat.le_refl _) fun _ _ => rfl
    obtain ⟨u, hy, E', hK, hE'⟩ := takeD_yields hT hB k1 h hE
    have hset : ∀ (l : Array Bool) (p : Nat × Nat), p ∈ G → (l.setIfInBounds i true).getD p.2 false = l.getD p.2 false := fun l p hp => by
      have := List.all_eq_true.1 k5 p hp
      simp only [Bool.and_eq_true, bne_iff_ne] at this
      exact getD_set_ne false (fun e => this.1 e.symm)
    have hgl : ∀ (l : Array Bool) (b : Nat), (G.all fun p => p.1 != b || !(l.setIfInBounds i true).getD p.2 false) = (G.all fun p => p.1 != b || !l.getD p.2 false) := fun l b => by
      rw [Bool.eq_iff_iff, List.all_eq_true, List.all_eq_true]
      exact ⟨fun h p hp => (by have := h p hp; rwa [hset l p hp] at this), fun h p hp => (by have := h p hp; rwa [hset l p hp])⟩
    refine wpAnyL_first (S := SD ρ0 H0 G w1) (Y := Agree ρ (maskH (fun b => !inL dead b) 0 H0) w1) (W := waits ops.toArray i) ho' (Region.noSelect_spec hs) (fun _ _ _ h => forP_put (List.mem_of_getElem? ho) h) waits_ok (fun l w' hW hSl => ?_) (fun l w' => ?_) fuel listed a w (Region.free_spec ho' k3) (by simpa using k2) (fun k hk => ?_) hy hS ?_
    · intro j b ad hb hl had
      obtain ⟨h1, h2⟩ := maskH_get hb hl
      refine hSl j b ad (maskH_of h1 ?_) hl ?_
      · rw [Nat.zero_add] at h2 ⊢
        rw [List.all_eq_true]
        intro p hp
        have h3 := List.all_eq_true.1 k5 p hp
        simp only [Bool.and_eq_true, Bool.or_eq_true] at h3
        simp only [Bool.or_eq_true, bne_iff_ne, Bool.not_eq_true']
        by_cases e : p.1 = j
        · refine .inr (hW _ ?_)
          rcases h3.2 with h3 | h3
          · rw [inL_eq] at h2
            rw [e] at h3
            rw [h3] at h2
            cases h2
          · simpa using h3
        · exact .inl e
      · rw [← hD.ext j (List.getElem?_eq_some_iff.1 h1).1 (hI0.on j (List.getElem?_eq_some_iff.1 h1).1)]
        exact had
    · unfold SD
      have : (fun b => G.all fun p => p.1 != b || !(l.setIfInBounds i true).getD p.2 false) = (fun b => G.all fun p => p.1 != b || !l.getD p.2 false) := funext (hgl l)
      rw [this]
    · have := List.all_eq_true.1 k4 k hk
      simpa using this
    · refine vcS_ok hT hs hI0 hK k6 ⟨hD.inv, hD.ext, hD.len, fun b blk hb hl hg => ?_⟩ ?_ hE' hX hn fuel hfu
      · rw [hgl] at hg
        exact hD.same b blk hb hl hg
      · unfold SD
        have : (fun b => G.all fun p => p.1 != b || !(listed.setIfInBounds i true).getD p.2 false) = (fun b => G.all fun p => p.1 != b || !listed.getD p.2 false) := funext (hgl listed)
        rw [this]
        exact hS
  | .make i wr r, listed, E, H, ρ, a, w, h, hk, hD, hS, hE, hX, hn => fun fuel hfu => by
    obtain ⟨fuel, rfl⟩ : ∃ f, fuel = f + 1 := ⟨fuel - 1, by simp only [Sc.len] at hfu; omega⟩
    have hfu : r.len ≤ fuel := by simp only [Sc.len] at hfu; omega
    simp only [scOk, Bool.and_eq_true, beq_iff_eq] at hk
    obtain ⟨⟨k1, k2⟩, k3⟩ := hk
    unfold vcS at h
    split at h <;> try (exact h.elim)
    rename_i o ho
    have ho' : ops.toArray[i]? = some o := by simpa using ho
    refine wpAnyL_one k1 ?_
    have hiun : listed.getD i true = false := (mem_ready.1 (by rw [k1]; exact List.mem_singleton.2 rfl : i ∈ Region.ready .any ops.toArray listed)).1
    exact make_step hT hI0 hiun k2 ho' h hD hS hE hX hn fun a' w' ρ' E' H' hv hD' hS' hE' hX' hn' => vcS_ok hT hs hI0 hv k3 hD' hS' hE' hX' hn' fuel hfu
  | .two i j wi wj ri rj, listed, E, H, ρ, a, w, h, hk, hD, hS, hE, hX, hn => fun fuel hfu => by
    obtain ⟨fuel, rfl⟩ : ∃ f, fuel = f + 1 := ⟨fuel - 1, by simp only [Sc.len] at hfu; omega⟩
    have hfi : ri.len ≤ fuel := by simp only [Sc.len] at hfu; omega
    have hfj : rj.len ≤ fuel := by simp only [Sc.len] at hfu; omega
    simp only [scOk, Bool.and_eq_true, beq_iff_eq] at hk
    obtain ⟨⟨⟨⟨k1, k2⟩, k3⟩, k4⟩, k5⟩ := hk
    unfold vcS at h
    obtain ⟨h1, h2⟩ := h
    refine ⟨fun h0 => (by rw [h0] at k1; cases k1), fun q hq => ?_⟩
    have hun : listed.getD q true = false := (mem_ready.1 hq).1
    rw [k1] at hq
    rcases List.mem_cons.1 hq with rfl | hq
    · split at h1 <;> try (exact h1.elim)
      rename_i o ho
      have ho' : ops.toArray[q]? = some o := by simpa using ho
      exact make_step hT hI0 hun k2 ho' h1 hD hS hE hX hn fun a' w' ρ' E' H' hv hD' hS' hE' hX' hn' => vcS_ok hT hs hI0 hv k3 hD' hS' hE' hX' hn' fuel hfi
    · rcases List.mem_cons.1 hq with rfl | hq
      · split at h2 <;> try (exact h2.elim)
        rename_i o ho
        have ho' : ops.toArray[q]? = some o := by simpa using ho
        exact make_step hT hI0 hun k4 ho' h2 hD hS hE hX hn fun a' w' ρ' E' H' hv hD' hS' hE' hX' hn' => vcS_ok hT hs hI0 hv k5 hD' hS' hE' hX' hn' fuel hfj
      · cases hq
  | .three i j k wi wj wk ri rj rk, listed, E, H, ρ, a, w, h, hk, hD, hS, hE, hX, hn => fun fuel hfu => by
    obtain ⟨fuel, rfl⟩ : ∃ f, fuel = f + 1 := ⟨fuel - 1, by simp only [Sc.len] at hfu; omega⟩
    have hfi : ri.len ≤ fuel := by simp only [Sc.len] at hfu; omega
    have hfj : rj.len ≤ fuel := by simp only [Sc.len] at hfu; omega
    have hfk : rk.len ≤ fuel := by simp only [Sc.len] at hfu; omega
    simp only [scOk, Bool.and_eq_true, beq_iff_eq] at hk
    obtain ⟨⟨⟨⟨⟨⟨k1, k2⟩, k3⟩, k4⟩, k5⟩, k6⟩, k7⟩ := hk
    unfold vcS at h
    obtain ⟨h1, h2, h3⟩ := h
    refine ⟨fun h0 => (by rw [h0] at k1; cases k1), fun q hq => ?_⟩
    have hun : listed.getD q true = false := (mem_ready.1 hq).1
    rw [k1] at hq
    rcases List.mem_cons.1 hq with rfl | hq
    · split at h1 <;> try (exact h1.elim)
      rename_i o ho
      have ho' : ops.toArray[q]? = some o := by simpa using ho
      exact make_step hT hI0 hun k2 ho' h1 hD hS hE hX hn fun a' w' ρ' E' H' hv hD' hS' hE' hX' hn' => vcS_ok hT hs hI0 hv k3 hD' hS' hE' hX' hn' fuel hfi
    · rcases List.mem_cons.1 hq with rfl | hq
      · split at h2 <;> try (exact h2.elim)
        rename_i o ho
        have ho' : ops.toArray[q]? = some o := by simpa using ho
        exact make_step hT hI0 hun k4 ho' h2 hD hS hE hX hn fun a' w' ρ' E' H' hv hD' hS' hE' hX' hn' => vcS_ok hT hs hI0 hv k5 hD' hS' hE' hX' hn' fuel hfj
      · rcases List.mem_cons.1 hq with rfl | hq
        · split at h3 <;> try (exact h3.elim)
          rename_i o ho
          have ho' : ops.toArray[q]? = some o := by simpa using ho
          exact make_step hT hI0 hun k6 ho' h3 hD hS hE hX hn fun a' w' ρ' E' H' hv hD' hS' hE' hX' hn' => vcS_ok hT hs hI0 hv k7 hD' hS' hE' hX' hn' fuel hfk
        · cases hq
/-- the same, by a schedule with two makers at once -/
theorem drawn_ruleS (hT : TOk P T) (hm : P.follows .mixedOrders = true) {n0 id : Nat} {ops : Array Oper} {Q : Post} {E : Env} {H : AH} (G : Wr) (s : Sc) (hk : scB ops G s = true) (h : vcS P T N ops.toList H (Q .normal) (fun E pv H => Q (.pan pv) (forget ops.toList E) H) s E H) : ASem P N n0 (.region id ops true) Q E H := by
  intro C D ρ00 ρ w a hI hE hX hn
  simp only [scB, Bool.and_eq_true, decide_eq_true_eq] at hk
  obtain ⟨⟨k1, k2⟩, k3⟩ := hk
  have hI' : Inv C ρ H w.drew := hI.drew
  refine Code.wp_mono (Q := PostOk C n0 ρ00 N D (forP ops.toList Q)) ?_ ?_
  · intro e a' w' hq
    cases e with
    | normal => exact hq
    | exit id => exact hq
    | ret => exact hq
    | panic ch => exact hq.pan fun _ _ _ h => h.2
    | _ => exact hq.elim
  refine wp_region_any hm (wpAny_of_L (S := SD ρ H G w.drew) _ _ _ _ ?_)
  have := vcS_ok (n0 := n0) (ρ00 := ρ00) (G := G) (s := s) (listed := Array.replicate ops.size false) (Q := Q) hT (ops := ops.toList) (by simpa using k1) hI' h (by simpa using k3) ⟨hI', ExtN.refl _ _, Nat.le_refl _, fun b blk hb _ _ => hb⟩ (fun _ _ _ _ _ _ => rfl) hE hX hn ops.size k2
  rw [Array.toArray_toList] at this
  exact this
end
end Go.Proofs.Ytdepnhnpklbmiaa
