/- Regions that draw their order (3): two makers that nothing orders, in both orders. -/
import Derived.Test.YtlbgkfidpkbafaaE18
import Derived.Test.YtlbgkfidpkbafaaC32
import Derived.Test.YtlbgkfidpkbafaaG5
import Derived.Test.YtlbgkfidpkbafaaG7
import Derived.Test.YtlbgkfidpkbafaaG8
namespace Go.Proofs.Ytlbgkfidpkbafaa
open Go.RowKit

inductive Sc where
  | done
  | quiet (i : Nat) (dead : List Nat) (r : Sc)
  | make (i : Nat) (wr : List Nat) (r : Sc)
  | two (i j : Nat) (wi wj : List Nat) (ri rj : Sc)
def Sc.len : Sc → Nat
  | .done => 0
  | .quiet _ _ r => r.len + 1
  | .make _ _ r => r.len + 1
  | .two _ _ _ _ ri rj => max ri.len rj.len + 1
def wrOk (G : Wr) (i : Nat) (wr : List Nat) (listed : Array Bool) : Bool := wr.all fun b => G.any fun p => p.1 == b && (p.2 == i || listed.getD p.2 false)
def scOk (ops : Array Oper) (G : Wr) : Sc → Array Bool → Bool
  | .done, listed => (Region.ready .any ops listed).isEmpty
  | .quiet i dead r, listed => (match ops[i]? with | some o => quietKind o.op | none => false) && (Region.ready .any ops listed).contains i && Region.free .any ops listed i && (waits ops i).all (fun k => !listed.getD k false) &&
      G.all (fun p => p.2 != i && (dead.contains p.1 || (waits ops i).contains p.2)) && scOk ops G r (listed.setIfInBounds i true)
  | .make i wr r, listed => (Region.ready .any ops listed == [i]) && wrOk G i wr listed && scOk ops G r (listed.setIfInBounds i true)
  | .two i j wi wj ri rj, listed => (Region.ready .any ops listed == [i, j]) && wrOk G i wi listed && scOk ops G ri (listed.setIfInBounds i true) && wrOk G j wj listed && scOk ops G rj (listed.setIfInBounds j true)
def scB (ops : Array Oper) (G : Wr) (s : Sc) : Bool := Region.noSelect ops && decide (s.len ≤ ops.size) && scOk ops G s (Array.replicate ops.size false)
def vcS (P : Program) (T : TT) (N : Nat) (ops : List Oper) (H0 : AH) (Q : Env → AH → Prop) (QP : Env → Value → AH → Prop) : Sc → Env → AH → Prop
  | .done, E, H => Q E H
  | .quiet i dead r, E, H => match ops[i]? with
    | some o => takeD P T N ops o E (maskH (fun b => !inL dead b) 0 H0) (fun E' => vcS P T N ops H0 Q QP r E' H)
    | none => False
  | .make i wr r, E, H => match ops[i]? with
    | some o => makeD P T N ops o (fun b => Nat.ble H0.length b || inL wr b) E H (fun E' H' => vcS P T N ops H0 Q QP r E' H') QP
    | none => False
  | .two i j wi wj ri rj, E, H => (match ops[i]? with
    | some o => makeD P T N ops o (fun b => Nat.ble H0.length b || inL wi b) E H (fun E' H' => vcS P T N ops H0 Q QP ri E' H') QP
    | none => False) ∧ (match ops[j]? with
    | some o => makeD P T N ops o (fun b => Nat.ble H0.length b || inL wj b) E H (fun E' H' => vcS P T N ops H0 Q QP rj E' H') QP
    | none => False)

section
variable {C : Cx} {P : Program} {T : TT} {N : Nat} {D : List Deferred}
theorem make_step (hT : TOk P T) {n0 : Nat} {ρ00 ρ0 : Pl} {ops : List Oper} {H0 : AH} {G : Wr} {w1 : World} {Q : Post} (hI0 : Inv C ρ0 H0 w1) {listed : Array Bool} {E : Env} {H : AH} {ρ : Pl} {a : Act} {w : World} {i : Nat} {wr : List Nat} {o : Oper} {Kc : Env → AH → Prop} {R : Act → World → Prop}
    (hiun : listed.getD i true = false) (k2 : wrOk G i wr listed = true) (ho' : ops.toArray[i]? = some o)
    (h : makeD P T N ops o (fun b => Nat.ble H0.length b || inL wr b) E H (fun E' H' => Kc E' H') (fun E pv H => Q (.pan pv) (forget ops E) H))
    (hD : DIn C ρ0 H0 G w1 listed ρ H w) (hS : SD ρ0 H0 G w1 listed w) (hE : ERel ρ N D E a) (hX : ExtN n0 ρ00 ρ) (hn : n0 ≤ H.length)
    (hnext : ∀ a' w' ρ' E' H', Kc E' H' → DIn C ρ0 H0 G w1 (listed.setIfInBounds i true) ρ' H' w' → SD ρ0 H0 G w1 (listed.setIfInBounds i true) w' → ERel ρ' N D E' a' → ExtN n0 ρ00 ρ' → n0 ≤ H'.length → R a' w') :
    wpOp P ops.toArray (PostOk C n0 ρ00 N D (forP ops Q)) i (fun a' w' => SD ρ0 H0 G w1 (listed.setIfInBounds i true) w' ∧ R a' w') a w := by
    unfold wrOk at k2
    have hilt : i < listed.size := by
      rcases Nat.lt_or_ge i listed.size with h' | h'
      · exact h'
      · rw [Array.getD_eq_getD_getElem?, Array.getElem?_eq_none h'] at hiun
        cases hiun
    have hdown : ∀ b, (G.all fun p => p.1 != b || !(listed.setIfInBounds i true).getD p.2 false) = true → (G.all fun p => p.1 != b || !listed.getD p.2 false) = true ∧ ∀ p ∈ G, p.1 = b → p.2 ≠ i ∧ listed.getD p.2 false = false := fun b hb => by
      have key : ∀ p ∈ G, p.1 = b → p.2 ≠ i ∧ listed.getD p.2 false = false := fun p hp e => by
        have := List.all_eq_true.1 hb p hp
        simp only [Bool.or_eq_true, bne_iff_ne, Bool.not_eq_true'] at this
        rcases this with h1 | h1
        · exact absurd e h1
        · by_cases hpi : p.2 = i
          · rw [hpi] at h1
            rw [Array.getD_eq_getD_getElem?, Array.getElem?_setIfInBounds_self_of_lt hilt] at h1
            cases h1
          · rw [getD_set_ne false (fun e => hpi e.symm)] at h1
            exact ⟨hpi, h1⟩
      refine ⟨List.all_eq_true.2 fun p hp => ?_, key⟩
      simp only [Bool.or_eq_true, bne_iff_ne, Bool.not_eq_true']
      by_cases e : p.1 = b
      · exact .inr (key p hp e).2
      · exact .inl e
    have hst : ∀ (b : Nat) blk, H0[b]? = some blk → blk.body.live = true → (G.all fun p => p.1 != b || !(listed.setIfInBounds i true).getD p.2 false) = true → H[b]? = some blk ∧ stays (fun b => Nat.ble H0.length b || inL wr b) b blk = true := fun b blk hb hl hg => by
      obtain ⟨h1, h2⟩ := hdown b hg
      refine ⟨hD.same b blk hb hl h1, ?_⟩
      have hbl := (List.getElem?_eq_some_iff.1 hb).1
      have e1 : Nat.ble H0.length b = false := by
        rw [Bool.eq_false_iff]
        intro h
        have := Nat.le_of_ble_eq_true h
        omega
      have e2 : inL wr b = false := by
        rw [inL_eq, Bool.eq_false_iff]
        intro h
        have h3 := List.all_eq_true.1 k2 b (by simpa using h)
        obtain ⟨p, hp, h4⟩ := List.any_eq_true.1 h3
        simp only [Bool.and_eq_true, Bool.or_eq_true, beq_iff_eq] at h4
        obtain ⟨h5, h6⟩ := h2 p hp h4.1
        rcases h4.2 with h7 | h7
        · exact h5 h7
        · rw [h6] at h7
          cases h7
      simp only [stays, hl, e1, e2, Bool.or_self, Bool.and_false, Bool.not_false, Bool.and_self]
    have next : ∀ a' w' ρ' E' H', Kc E' H' → Inv C ρ' H' w' → ERel ρ' N D E' a' → ExtN n0 ρ00 ρ' → n0 ≤ H'.length → ExtN H.length ρ ρ' → H.length ≤ H'.length → (∀ j b, H[j]? = some b → stays (fun b => Nat.ble H0.length b || inL wr b) j b = true → H'[j]? = some b ∧ ∀ ad, (ρ j).addr = some ad → w'.heap[ad.block]? = w.heap[ad.block]?) →
        SD ρ0 H0 G w1 (listed.setIfInBounds i true) w' ∧ R a' w' := by
      intro a' w' ρ' E' H' hv hI' hE' hX' hn' hXX hll hsty
      have hS' : SD ρ0 H0 G w1 (listed.setIfInBounds i true) w' := by
        intro b blk ad hb hl had
        obtain ⟨h1, h2⟩ := maskH_get hb hl
        rw [Nat.zero_add] at h2
        obtain ⟨h3, h4⟩ := hst b blk h1 hl h2
        have hbl := (List.getElem?_eq_some_iff.1 h1).1
        rw [(hsty b blk h3 h4).2 ad (by rw [hD.ext b hbl (hI0.on b hbl)]; exact had)]
        exact hS b blk ad (maskH_of h1 (by rw [Nat.zero_add]; exact (hdown b h2).1)) hl had
      refine ⟨hS', hnext a' w' ρ' E' H' hv ⟨hI', fun j hj hjo => ?_, Nat.le_trans hD.len hll, fun b blk hb hl hg => ?_⟩ hS' hE' hX' hn'⟩
      · have := hD.ext j hj hjo
        rw [hXX j (Nat.lt_of_lt_of_le hj hD.len) (by rw [this]; exact hjo), this]
      · obtain ⟨h3, h4⟩ := hst b blk hb hl hg
        exact (hsty b blk h3 h4).1
    have run : ∀ E, ERel ρ N D E a → makeS P T N o (fun b => Nat.ble H0.length b || inL wr b) E H (fun E' H' => Kc E' H') (fun pv H => Q (.pan pv) (forget ops E) H) → o.wp P a w (fun a' w' => SD ρ0 H0 G w1 (listed.setIfInBounds i true) w' ∧ R a' w') (PostOk C n0 ρ00 N D (forP ops Q)) := fun E hE h =>
      makeS_ok hT h next (fun pv a' w' ρ' H' hq hI' hE' hX' hn' => ⟨ρ', forget ops E, H', ⟨forget_any ops E, hq⟩, hI', forget_rel ops hE', hX', hn'⟩) hD.inv hE hX hn
    have skip : ∀ E, ERel ρ N D E a → vPut N o.dst (.val undef) E (fun E' => Kc E' H) → SD ρ0 H0 G w1 (listed.setIfInBounds i true) w ∧ R (a.put o.dst undef) w := fun E hE h => by
      obtain ⟨E', hk, hE'⟩ := vPut_ok (u := undef) h hE rfl
      exact next _ w ρ E' H hk hD.inv hE' hX hn (ExtN.refl _ _) (Nat.le_refl _) fun j b hb _ => ⟨hb, fun _ _ => rfl⟩
    unfold makeD at h
    unfold wpOp
    rw [ho']
    dsimp only
    split at h
    · rename_i hg
      rw [if_pos (by simp [Region.wanted, hg])]
      exact .inl (run E hE h)
    · rename_i j want hg
      split at h
      · rename_i b t hb
        have hy := guard_ok hE hb
        have hE2 := hE.known hb
        by_cases hbw : b = want
        · rw [if_pos (by simp [Region.wanted, hg, hy, hbw])]
          exact .inl (run _ (by rw [hbw] at hE2; exact hE2) (by have h1 := h.1 hbw; rwa [putK_eq] at h1))
        · rw [if_neg (by simp [Region.wanted, hg, hy, hbw])]
          have hbn : b = !want := by cases b <;> cases want <;> simp_all
          exact skip _ (by rw [hbn] at hE2; exact hE2) (by have h1 := h.2 hbn; rwa [putK_eq] at h1)
      · rename_i hb
        have hy := guard_ok hE hb
        rw [if_neg (by simp [Region.wanted, hg, hy])]
        exact skip E hE h
      · exact h.elim


theorem vcS_ok (hT : TOk P T) {n0 : Nat} {ρ00 ρ0 : Pl} {ops : List Oper} {H0 : AH} {G : Wr} {w1 : World} {Q : Post} (hs : Region.noSelect ops.toArray = true) (hI0 : Inv C ρ0 H0 w1) :
    ∀ {s : Sc} {listed : Array Bool} {E : Env} {H : AH} {ρ : Pl} {a : Act} {w : World}, vcS P T N ops H0 (Q .normal) (fun E pv H => Q (.pan pv) (forget ops E) H) s E H → scOk ops.toArray G s listed = true → DIn C ρ0 H0 G w1 listed ρ H w → SD ρ0 H0 G w1 listed w → ERel ρ N D E a → ExtN n0 ρ00 ρ → n0 ≤ H.length →
    ∀ fuel, s.len ≤ fuel → wpAnyL P .any ops.toArray (PostOk C n0 ρ00 N D (forP ops Q)) (SD ρ0 H0 G w1) fuel listed a w
  | .done, listed, E, H, ρ, a, w, h, hk, hD, hS, hE, hX, hn => by
    simp only [scOk, List.isEmpty_iff] at hk
    exact fun fuel _ => wpAnyL_done hk ⟨ρ, E, H, h, hD.inv, hE, hX, hn⟩ fuel
  | .quiet i dead r, listed, E, H, ρ, a, w, h, hk, hD, hS, hE, hX, hn => fun fuel hfu => by
    obtain ⟨fuel, rfl⟩ : ∃ f, fuel = f + 1 := ⟨fuel - 1, by simp only [Sc.len] at hfu; omega⟩
    have hfu : r.len ≤ fuel := by simp only [Sc.len] at hfu; omega
    simp only [scOk, Bool.and_eq_true] at hk
    obtain ⟨⟨⟨⟨⟨k1, k2⟩, k3⟩, k4⟩, k5⟩, k6⟩ := hk
    unfold vcS at h
    split at h <;> try (exact h.elim)
    rename_i o ho
    have ho' : ops.toArray[i]? = some o := by simpa using ho
    rw [ho'] at k1
    have hB : ∀ (j : Nat) b, (maskH (fun b => !inL dead b) 0 H0)[j]? = some b → b.body.live = true → BRel ρ j b w1 := fun j b hb hl => by
      obtain ⟨h1, _⟩ := maskH_get hb hl
      exact (hI0.blk j b h1 hl).keep (hD.ext.ext hI0) (Nat.le_refl _) fun _ _ => rfl
    obtain ⟨u, hy, E', hK, hE'⟩ := takeD_yields hT hB k1 h hE
    have hset : ∀ (l : Array Bool) (p : Nat × Nat), p ∈ G → (l.setIfInBounds i true).getD p.2 false = l.getD p.2 false := fun l p hp => by
      have := List.all_eq_true.1 k5 p hp
      simp only [Bool.and_eq_true, bne_iff_ne] at this
      exact getD_set_ne false (fun e => this.1 e.symm)
    have hgl : ∀ (l : Array Bool) (b : Nat), (G.all fun p => p.1 != b || !(l.setIfInBounds i true).getD p.2 false) = (G.all fun p => p.1 != b || !l.getD p.2 false) := fun l b => by
      rw [Bool.eq_iff_iff, List.all_eq_true, List.all_eq_true]
      exact ⟨fun h p hp => (by have := h p hp; rwa [hset l p hp] at this), fun h p hp => (by have := h p hp; rwa [hset l p hp])⟩
    refine wpAnyL_first (S := SD ρ0 H0 G w1) (Y := Agree ρ (maskH (fun b => !inL dead b) 0 H0) w1) (W := waits ops.toArray i) ho' (Region.noSelect_spec hs) (fun _ _ _ h => forP_put (List.mem_of_getElem? ho) h) waits_ok (fun l w' hW hSl => ?_) (fun l w' => ?_) fuel listed a w (Region.free_spec ho' k3) (by simpa using k2) (fun k hk => ?_) hy hS ?_
    · intro j b ad hb hl had
      obtain ⟨h1, h2⟩ := maskH_get hb hl
      refine hSl j b ad (maskH_of h1 ?_) hl ?_
      · rw [Nat.zero_add] at h2 ⊢
        rw [List.all_eq_true]
        intro p hp
        have h3 := List.all_eq_true.1 k5 p hp
        simp only [Bool.and_eq_true, Bool.or_eq_true] at h3
        simp only [Bool.or_eq_true, bne_iff_ne, Bool.not_eq_true']
        by_cases e : p.1 = j
        · refine .inr (hW _ ?_)
          rcases h3.2 with h3 | h3
          · rw [inL_eq] at h2
            rw [e] at h3
            rw [h3] at h2
            cases h2
          · simpa using h3
        · exact .inl e
      · rw [← hD.ext j (List.getElem?_eq_some_iff.1 h1).1 (hI0.on j (List.getElem?_eq_some_iff.1 h1).1)]
        exact had
    · unfold SD
      have : (fun b => G.all fun p => p.1 != b || !(l.setIfInBounds i true).getD p.2 false) = (fun b => G.all fun p => p.1 != b || !l.getD p.2 false) := funext (hgl l)
      rw [this]
    · have := List.all_eq_true.1 k4 k hk
      simpa using this
    · refine vcS_ok hT hs hI0 hK k6 ⟨hD.inv, hD.ext, hD.len, fun b blk hb hl hg => ?_⟩ ?_ hE' hX hn fuel hfu
      · rw [hgl] at hg
        exact hD.same b blk hb hl hg
      · unfold SD
        have : (fun b => G.all fun p => p.1 != b || !(listed.setIfInBounds i true).getD p.2 false) = (fun b => G.all fun p => p.1 != b || !listed.getD p.2 false) := funext (hgl listed)
        rw [this]
        exact hS
  | .make i wr r, listed, E, H, ρ, a, w, h, hk, hD, hS, hE, hX, hn => fun fuel hfu => by
    obtain ⟨fuel, rfl⟩ : ∃ f, fuel = f + 1 := ⟨fuel - 1, by simp only [Sc.len] at hfu; omega⟩
    have hfu : r.len ≤ fuel := by simp only [Sc.len] at hfu; omega
    simp only [scOk, Bool.and_eq_true, beq_iff_eq] at hk
    obtain ⟨⟨k1, k2⟩, k3⟩ := hk
    unfold vcS at h
    split at h <;> try (exact h.elim)
    rename_i o ho
    have ho' : ops.toArray[i]? = some o := by simpa using ho
    refine wpAnyL_one k1 ?_
    have hiun : listed.getD i true = false := (mem_ready.1 (by rw [k1]; exact List.mem_singleton.2 rfl : i ∈ Region.ready .any ops.toArray listed)).1
    exact make_step hT hI0 hiun k2 ho' h hD hS hE hX hn fun a' w' ρ' E' H' hv hD' hS' hE' hX' hn' => vcS_ok hT hs hI0 hv k3 hD' hS' hE' hX' hn' fuel hfu
  | .two i j wi wj ri rj, listed, E, H, ρ, a, w, h, hk, hD, hS, hE, hX, hn => fun fuel hfu => by
    obtain ⟨fuel, rfl⟩ : ∃ f, fuel = f + 1 := ⟨fuel - 1, by simp only [Sc.len] at hfu; omega⟩
    have hfi : ri.len ≤ fuel := by simp only [Sc.len] at hfu; omega
    have hfj : rj.len ≤ fuel := by simp only [Sc.len] at hfu; omega
    simp only [scOk, Bool.and_eq_true, beq_iff_eq] at hk
    obtain ⟨⟨⟨⟨k1, k2⟩, k3⟩, k4⟩, k5⟩ := hk
    unfold vcS at h
    obtain ⟨h1, h2⟩ := h
    refine ⟨fun h0 => (by rw [h0] at k1; cases k1), fun q hq => ?_⟩
    have hun : listed.getD q true = false := (mem_ready.1 hq).1
    rw [k1] at hq
    rcases List.mem_cons.1 hq with rfl | hq
    · split at h1 <;> try (exact h1.elim)
      rename_i o ho
      have ho' : ops.toArray[q]? = some o := by simpa using ho
      exact make_step hT hI0 hun k2 ho' h1 hD hS hE hX hn fun a' w' ρ' E' H' hv hD' hS' hE' hX' hn' => vcS_ok hT hs hI0 hv k3 hD' hS' hE' hX' hn' fuel hfi
    · rcases List.mem_cons.1 hq with rfl | hq
      · split at h2 <;> try (exact h2.elim)
        rename_i o ho
        have ho' : ops.toArray[q]? = some o := by simpa using ho
        exact make_step hT hI0 hun k4 ho' h2 hD hS hE hX hn fun a' w' ρ' E' H' hv hD' hS' hE' hX' hn' => vcS_ok hT hs hI0 hv k5 hD' hS' hE' hX' hn' fuel hfj
      · cases hq
/-- the same, by a schedule with two makers at once -/
theorem drawn_ruleS (hT : TOk P T) (hm : P.follows .mixedOrders = true) {n0 id : Nat} {ops : Array Oper} {Q : Post} {E : Env} {H : AH} (G : Wr) (s : Sc) (hk : scB ops G s = true) (h : vcS P T N ops.toList H (Q .normal) (fun E pv H => Q (.pan pv) (forget ops.toList E) H) s E H) : ASem P N n0 (.region id ops true) Q E H := by
  intro C D ρ00 ρ w a hI hE hX hn
  simp only [scB, Bool.and_eq_true, decide_eq_true_eq] at hk
  obtain ⟨⟨k1, k2⟩, k3⟩ := hk
  have hI' : Inv C ρ H w.drew := hI.drew
  refine Code.wp_mono (Q := PostOk C n0 ρ00 N D (forP ops.toList Q)) ?_ ?_
  · intro e a' w' hq
    cases e with
    | normal => exact hq
    | exit id => exact hq
    | ret => exact hq
    | panic ch => exact hq.pan fun _ _ _ h => h.2
    | _ => exact hq.elim
  refine wp_region_any hm (wpAny_of_L (S := SD ρ H G w.drew) _ _ _ _ ?_)
  have := vcS_ok (n0 := n0) (ρ00 := ρ00) (G := G) (s := s) (listed := Array.replicate ops.size false) (Q := Q) hT (ops := ops.toList) (by simpa using k1) hI' h (by simpa using k3) ⟨hI', ExtN.refl _ _, Nat.le_refl _, fun b blk hb _ _ => hb⟩ (fun _ _ _ _ _ _ => rfl) hE hX hn ops.size k2
  rw [Array.toArray_toList] at this
  exact this
end
end Go.Proofs.Ytlbgkfidpkbafaa
/- The keys of a group; whether two can meet. -/
namespace Go.Proofs.Ytlbgkfidpkbafaa
open Go.RowKit
set_option linter.unusedSimpArgs false
set_option linter.unusedVariables false
def keyOk (s : St) (P : Int) (k : Nat) : Bool := hasV P (fG s.xs k 3) && standsB s.d s.xs k && hasOpen (fG s.xs k 5) && !spentB s.xs k
def keysF (s : St) (P : Int) : Nat → List Nat
  | 0 => []
  | c + 1 => if keyOk s P c = true then keysF s P c ++ [c] else keysF s P c
theorem keysF_len (s : St) (P : Int) : ∀ c, (keysF s P c).length ≤ c
  | 0 => Nat.le_refl _
  | c + 1 => by
    have := keysF_len s P c
    simp only [keysF]
    split
    · simp
      exact this
    · omega
theorem keysF_mem (s : St) (P : Int) : ∀ {c i : Nat}, i ∈ keysF s P c ↔ i < c ∧ keyOk s P i = true
  | 0, i => by simp [keysF]
  | c + 1, i => by
    have ih := keysF_mem s P (c := c) (i := i)
    simp only [keysF]
    split
    · rename_i h
      rw [List.mem_append, ih, List.mem_singleton]
      constructor
      · rintro (⟨h1, h2⟩ | rfl)
        · exact ⟨by omega, h2⟩
        · exact ⟨by omega, h⟩
      · rintro ⟨h1, h2⟩
        by_cases e : i = c
        · exact .inr e
        · exact .inl ⟨by omega, h2⟩
    · rename_i h
      rw [ih]
      constructor
      · rintro ⟨h1, h2⟩
        exact ⟨by omega, h2⟩
      · rintro ⟨h1, h2⟩
        refine ⟨?_, h2⟩
        by_cases e : i = c
        · subst e
          exact absurd h2 h
        · omega
/-- where the search for keys stands -/
structure KeysAt (s : St) (P : Int) (q : Nat × List Nat × Nat) : Prop where
  le : q.1 ≤ s.n
  os : q.2.1 = (keysF s P q.1).map (· * 9)
  L : q.2.2 = (keysF s P q.1).length
set_option maxRecDepth 20000 in
set_option maxHeartbeats 4000000 in
theorem keys_c (s : St) (hs : Good s) (P : Int) (h0 : 0 ≤ P) (h1 : P ≤ 65535) : CallA Try.prog 54 [.t (.a (.s (.ptr 0 0))), .int .i64 P] (heap0 false s) (fun w H => w = .t (.a (.s (.slc 3 0 (keysF s P s.n).length))) ∧ H = heap0 false s ++ [⟨true, false, 89, 1, .ptrs 1 ((keysF s P s.n).map (· * 9))⟩]) := by
  refine call_of_vc TYok mixedO Try.func54 rfl rfl (Nat.le_of_ble_eq_true rfl) ?_
  have hf := hs.rng.wf.few
  have hx := hs.rng.wf.len
  (repeat (first | refine aC ?_ | refine aK ?_ | refine ⟨fun _ => ?_, fun h => absurd h (by decide)⟩ | refine ⟨fun h => absurd h (by decide), fun _ => ?_⟩))
  refine loop_rule TYok mixedO (ι := Nat × List Nat × Nat) (fun q => [(0, .t (.a (.s (.ptr 0 0)))), (1, .int .i64 P), (5, .t (.a (.s (.slc 3 0 q.2.2)))), (12, .int .i64 (s.n : Int)), (13, .int .i64 (q.1 : Int))]) (fun q => heap0 false s ++ [⟨true, false, 89, 1, .ptrs 1 q.2.1⟩]) (KeysAt s P) (fun q => s.n - q.1) (0, [], 0) ⟨Nat.zero_le _, rfl, rfl⟩ (fun i => match i with | 0 => some 0 | 1 => some 1 | 2 => some 2 | _ => none) (by exact wI) ?_
  rintro ⟨i, os, L⟩ ⟨hi, ho, hL⟩
  dsimp only at hi ho hL ⊢
  have hlen := keysF_len s P i
  have hol : os.length = L := by rw [ho, hL]; simp
  (repeat (first | refine aC ?_ | refine aK ?_ | refine ⟨fun _ => ?_, fun h => absurd h (by decide)⟩ | refine ⟨fun h => absurd h (by decide), fun _ => ?_⟩))
  refine ⟨fun g => ?_, fun g => ?_⟩
  · have g := of_decide_eq_true g
    have hlt : i < s.n := by omega
    obtain ⟨b0, b1⟩ := hs.h i hlt
    obtain ⟨r0, r1⟩ := hs.rng.r i hlt
    (repeat (first | refine aC ?_ | refine aK ?_ | refine ⟨fun _ => ?_, fun h => absurd h (by decide)⟩ | refine ⟨fun h => absurd h (by decide), fun _ => ?_⟩))
    have e1 : 0 + ((i : Nat) : Int).toNat * ti50.size = i * 9 := by
      rw [siz50]
      simp
    rw [e1]
    (repeat (first | refine aC ?_ | refine aK ?_ | refine ⟨fun _ => ?_, fun h => absurd h (by decide)⟩ | refine ⟨fun h => absurd h (by decide), fun _ => ?_⟩))
    refine And.intro (fld_t (o := 3) (by decide) rfl hlt hx) ?_
    (repeat (first | refine aC ?_ | refine aK ?_ | refine ⟨fun _ => ?_, fun h => absurd h (by decide)⟩ | refine ⟨fun h => absurd h (by decide), fun _ => ?_⟩))
    refine And.intro (decide_eq_true (p := 0 ≤ fG s.xs i 3 ∧ fG s.xs i 3 < (64 : Nat)) (by omega)) ?_
    (repeat (first | refine aC ?_ | refine aK ?_ | refine ⟨fun _ => ?_, fun h => absurd h (by decide)⟩ | refine ⟨fun h => absurd h (by decide), fun _ => ?_⟩))
    refine And.intro (and_t (shr_ok h0 h1) rfl) ?_
    (repeat (first | refine aC ?_ | refine aK ?_ | refine ⟨fun _ => ?_, fun h => absurd h (by decide)⟩ | refine ⟨fun h => absurd h (by decide), fun _ => ?_⟩))
    have nxt : keyOk s P i = false → KeysAt s P (i + 1, os, L) := fun h => by
      have e : keysF s P (i + 1) = keysF s P i := by
        simp only [keysF]
        rw [if_neg (by rw [h]; decide)]
      exact ⟨hlt, by dsimp only; rw [e]; exact ho, by dsimp only; rw [e]; exact hL⟩
    refine ⟨fun g => ?_, fun g => ?_⟩
    · have g1 : hasV P (fG s.xs i 3) = true := g
      (repeat (first | refine aC ?_ | refine aK ?_ | refine ⟨fun _ => ?_, fun h => absurd h (by decide)⟩ | refine ⟨fun h => absurd h (by decide), fun _ => ?_⟩))
      (refine call_lift (stands_c s.d s.n s.xs s.m s.es i hs.rng.wf hlt) (fun i => match i with | 0 => some 0 | 1 => some 1 | 2 => some 2 | _ => none) rfl rfl hI rfl rfl rfl ?_; rintro v H1 ⟨rfl, rfl⟩; refine ⟨⟨rfl, rfl, rfl, rfl⟩, ?_⟩; (try simp only [two]); (try simp only [AV.ren]); (try simp only [renT]); (try simp only [AT.ren]); (try simp only [A.ren]); (try (rw [ptr_ren]; rotate_left; exact rfl)); (try (rw [slc_ren]; rotate_left; exact rfl)); (try simp only [S.ren]))
      (repeat (first | refine aC ?_ | refine aK ?_ | refine ⟨fun _ => ?_, fun h => absurd h (by decide)⟩ | refine ⟨fun h => absurd h (by decide), fun _ => ?_⟩))
      refine ⟨fun g => ?_, fun g => ?_⟩
      · have g2 : standsB s.d s.xs i = true := g
        (repeat (first | refine aC ?_ | refine aK ?_ | refine ⟨fun _ => ?_, fun h => absurd h (by decide)⟩ | refine ⟨fun h => absurd h (by decide), fun _ => ?_⟩))
        refine And.intro (fld_t (o := 5) (by decide) rfl hlt hx) ?_
        (repeat (first | refine aC ?_ | refine aK ?_ | refine ⟨fun _ => ?_, fun h => absurd h (by decide)⟩ | refine ⟨fun h => absurd h (by decide), fun _ => ?_⟩))
        refine And.intro (and_t ((natOk_i64 (x := fG s.xs i 5)).2 ⟨r0, by omega⟩) rfl) ?_
        (repeat (first | refine aC ?_ | refine aK ?_ | refine ⟨fun _ => ?_, fun h => absurd h (by decide)⟩ | refine ⟨fun h => absurd h (by decide), fun _ => ?_⟩))
        refine ⟨fun g => ?_, fun g => ?_⟩
        · have g3 : hasOpen (fG s.xs i 5) = true := g
          (repeat (first | refine aC ?_ | refine aK ?_ | refine ⟨fun _ => ?_, fun h => absurd h (by decide)⟩ | refine ⟨fun h => absurd h (by decide), fun _ => ?_⟩))
          (refine call_lift (isSpent_c s.d s.n s.xs s.m s.es i hs.rng.wf hlt) (fun i => match i with | 0 => some 0 | 1 => some 1 | 2 => some 2 | _ => none) rfl rfl hI rfl rfl rfl ?_; rintro v H1 ⟨rfl, rfl⟩; refine ⟨⟨rfl, rfl, rfl, rfl⟩, ?_⟩; (try simp only [two]); (try simp only [AV.ren]); (try simp only [renT]); (try simp only [AT.ren]); (try simp only [A.ren]); (try (rw [ptr_ren]; rotate_left; exact rfl)); (try (rw [slc_ren]; rotate_left; exact rfl)); (try simp only [S.ren]))
          (repeat (first | refine aC ?_ | refine aK ?_ | refine ⟨fun _ => ?_, fun h => absurd h (by decide)⟩ | refine ⟨fun h => absurd h (by decide), fun _ => ?_⟩))
          refine ⟨fun g => ?_, fun g => ?_⟩
          · have g4 : (!spentB s.xs i) = true := g
            have hk : keyOk s P i = true := by simp only [keyOk, g1, g2, g3, g4]; rfl
            (repeat (first | refine aC ?_ | refine aK ?_ | refine ⟨fun _ => ?_, fun h => absurd h (by decide)⟩ | refine ⟨fun h => absurd h (by decide), fun _ => ?_⟩))
            refine And.intro ?_ ?_
            · exact and_t (and_t (and_t (and_t rfl rfl) rfl) rfl) (apP_t rfl rfl rfl hol.symm (by omega))
            (repeat (first | refine aC ?_ | refine aK ?_ | refine ⟨fun _ => ?_, fun h => absurd h (by decide)⟩ | refine ⟨fun h => absurd h (by decide), fun _ => ?_⟩))
            have e : keysF s P (i + 1) = keysF s P i ++ [i] := by
              simp only [keysF]
              rw [if_pos hk]
            exact ⟨(i + 1, os ++ [i * 9], L + 1), ⟨hlt, by dsimp only; rw [e, ho]; simp, by dsimp only; rw [e, hL]; simp⟩, by dsimp only; omega, (fun i => match i with | 0 => some 0 | 1 => some 1 | 2 => some 2 | 3 => some 5 | _ => none), by exact wI⟩
          · have g4 : (!spentB s.xs i) = false := g
            (repeat (first | refine aC ?_ | refine aK ?_ | refine ⟨fun _ => ?_, fun h => absurd h (by decide)⟩ | refine ⟨fun h => absurd h (by decide), fun _ => ?_⟩))
            exact ⟨(i + 1, os, L), nxt (by simp only [keyOk, g1, g2, g3, g4]; rfl), by dsimp only; omega, some, by exact wI⟩
        · have g3 : hasOpen (fG s.xs i 5) = false := g
          (repeat (first | refine aC ?_ | refine aK ?_ | refine ⟨fun _ => ?_, fun h => absurd h (by decide)⟩ | refine ⟨fun h => absurd h (by decide), fun _ => ?_⟩))
          exact ⟨(i + 1, os, L), nxt (by simp only [keyOk, g1, g2, g3]; rfl), by dsimp only; omega, some, by exact wI⟩
      · have g2 : standsB s.d s.xs i = false := g
        (repeat (first | refine aC ?_ | refine aK ?_ | refine ⟨fun _ => ?_, fun h => absurd h (by decide)⟩ | refine ⟨fun h => absurd h (by decide), fun _ => ?_⟩))
        exact ⟨(i + 1, os, L), nxt (by simp only [keyOk, g1, g2]; rfl), by dsimp only; omega, some, by exact wI⟩
    · have g1 : hasV P (fG s.xs i 3) = false := g
      (repeat (first | refine aC ?_ | refine aK ?_ | refine ⟨fun _ => ?_, fun h => absurd h (by decide)⟩ | refine ⟨fun h => absurd h (by decide), fun _ => ?_⟩))
      exact ⟨(i + 1, os, L), nxt (by simp only [keyOk, g1]; rfl), by dsimp only; omega, some, by exact wI⟩
  · have g := of_decide_eq_false g
    (repeat (first | refine aC ?_ | refine aK ?_ | refine ⟨fun _ => ?_, fun h => absurd h (by decide)⟩ | refine ⟨fun h => absurd h (by decide), fun _ => ?_⟩))
    obtain rfl : i = s.n := by omega
    rw [← ho, ← hL]
    exact ⟨some, .t (.a (.s (.slc 3 0 L))), heap0 false s ++ [⟨true, false, 89, 1, .ptrs 1 os⟩], by exact wI, rfl, rfl⟩
def meetB (xs : List Int) (P : Int) (k1 k2 : Nat) : Bool :=
  !(fG xs k1 2 == fG xs k2 2) && ((fG xs k1 3 != fG xs k2 3) || (((((fG xs k1 5).toNat ||| (fG xs k2 5).toNat : Nat) : Int).toNat &&& 2 : Nat) : Int) != 0 && !(P == 1 * 2 ^ (fG xs k1 3).toNat))
theorem pow_ok {h : Int} (h0 : 0 ≤ h) (h1 : h ≤ 15) : (decide (0 ≤ h ∧ h < (64 : Nat)) && i64ok (1 * 2 ^ h.toNat)) = true := by
  refine and_t (decide_eq_true ⟨h0, by omega⟩) (i64_of ?_)
  have h2 : h.toNat ≤ 15 := by omega
  have h3 : (2 : Int) ^ h.toNat ≤ 2 ^ 15 := by
    have := Nat.pow_le_pow_right (show 2 > 0 by decide) h2
    exact_mod_cast this
  have h4 : (0 : Int) < 2 ^ h.toNat := Int.pow_pos (by decide)
  have e : (2 : Int) ^ 15 = 32768 := by decide
  omega
theorem or_ok {a b : Int} (ha : 0 ≤ a ∧ a ≤ 65535) (hb : 0 ≤ b ∧ b ≤ 65535) : natOk .i64 ((a.toNat ||| b.toNat : Nat) : Int) = true := by
  rw [natOk_i64]
  have : a.toNat ||| b.toNat < 2 ^ 16 := Nat.or_lt_two_pow (by omega) (by omega)
  omega
set_option maxRecDepth 20000 in
set_option maxHeartbeats 4000000 in
theorem meet_c (s : St) (hs : Good s) (P : Int) (k1 k2 : Nat) (hk1 : k1 < s.n) (hk2 : k2 < s.n) : CallA Try.prog 55 [.t (.a (.s (.ptr 1 (k1 * 9)))), .t (.a (.s (.ptr 1 (k2 * 9)))), .int .i64 P] (heap0 false s) (fun w H => w = .boo (meetB s.xs P k1 k2) ∧ H = heap0 false s) := by
  refine call_of_vc TYok mixedO Try.func55 rfl rfl (Nat.le_of_ble_eq_true rfl) ?_
  have hx := hs.rng.wf.len
  obtain ⟨b0, b1⟩ := hs.h k1 hk1
  obtain ⟨r0, r1⟩ := hs.rng.r k1 hk1
  obtain ⟨r2, r3⟩ := hs.rng.r k2 hk2
  (repeat (first | refine aC ?_ | refine aK ?_ | refine ⟨fun _ => ?_, fun h => absurd h (by decide)⟩ | refine ⟨fun h => absurd h (by decide), fun _ => ?_⟩))
  refine And.intro (fld_t (o := 2) (by decide) rfl hk1 hx) ?_
  (repeat (first | refine aC ?_ | refine aK ?_ | refine ⟨fun _ => ?_, fun h => absurd h (by decide)⟩ | refine ⟨fun h => absurd h (by decide), fun _ => ?_⟩))
  refine And.intro (fld_t (o := 2) (by decide) rfl hk2 hx) ?_
  (repeat (first | refine aC ?_ | refine aK ?_ | refine ⟨fun _ => ?_, fun h => absurd h (by decide)⟩ | refine ⟨fun h => absurd h (by decide), fun _ => ?_⟩))
  refine ⟨fun g => ?_, fun g => ?_⟩
  · have g1 : (fG s.xs k1 2 == fG s.xs k2 2) = true := g
    (repeat (first | refine aC ?_ | refine aK ?_ | refine ⟨fun _ => ?_, fun h => absurd h (by decide)⟩ | refine ⟨fun h => absurd h (by decide), fun _ => ?_⟩))
    exact ⟨some, .boo false, heap0 false s, by exact wI, by simp only [meetB, g1]; rfl, rfl⟩
  · have g1 : (fG s.xs k1 2 == fG s.xs k2 2) = false := g
    (repeat (first | refine aC ?_ | refine aK ?_ | refine ⟨fun _ => ?_, fun h => absurd h (by decide)⟩ | refine ⟨fun h => absurd h (by decide), fun _ => ?_⟩))
    refine And.intro (fld_t (o := 5) (by decide) rfl hk1 hx) ?_
    (repeat (first | refine aC ?_ | refine aK ?_ | refine ⟨fun _ => ?_, fun h => absurd h (by decide)⟩ | refine ⟨fun h => absurd h (by decide), fun _ => ?_⟩))
    refine And.intro (fld_t (o := 5) (by decide) rfl hk2 hx) ?_
    (repeat (first | refine aC ?_ | refine aK ?_ | refine ⟨fun _ => ?_, fun h => absurd h (by decide)⟩ | refine ⟨fun h => absurd h (by decide), fun _ => ?_⟩))
    refine And.intro (and_t ((natOk_i64 (x := fG s.xs k1 5)).2 ⟨r0, by omega⟩) ((natOk_i64 (x := fG s.xs k2 5)).2 ⟨r2, by omega⟩)) ?_
    (repeat (first | refine aC ?_ | refine aK ?_ | refine ⟨fun _ => ?_, fun h => absurd h (by decide)⟩ | refine ⟨fun h => absurd h (by decide), fun _ => ?_⟩))
    refine And.intro (and_t (or_ok (a := fG s.xs k1 5) (b := fG s.xs k2 5) ⟨r0, by omega⟩ ⟨r2, by omega⟩) rfl) ?_
    (repeat (first | refine aC ?_ | refine aK ?_ | refine ⟨fun _ => ?_, fun h => absurd h (by decide)⟩ | refine ⟨fun h => absurd h (by decide), fun _ => ?_⟩))
    refine And.intro (fld_t (o := 3) (by decide) rfl hk1 hx) ?_
    (repeat (first | refine aC ?_ | refine aK ?_ | refine ⟨fun _ => ?_, fun h => absurd h (by decide)⟩ | refine ⟨fun h => absurd h (by decide), fun _ => ?_⟩))
    refine And.intro (pow_ok (h := fG s.xs k1 3) b0 b1) ?_
    (repeat (first | refine aC ?_ | refine aK ?_ | refine ⟨fun _ => ?_, fun h => absurd h (by decide)⟩ | refine ⟨fun h => absurd h (by decide), fun _ => ?_⟩))
    refine And.intro (fld_t (o := 3) (by decide) rfl hk1 hx) ?_
    (repeat (first | refine aC ?_ | refine aK ?_ | refine ⟨fun _ => ?_, fun h => absurd h (by decide)⟩ | refine ⟨fun h => absurd h (by decide), fun _ => ?_⟩))
    refine And.intro (fld_t (o := 3) (by decide) rfl hk2 hx) ?_
    (repeat (first | refine aC ?_ | refine aK ?_ | refine ⟨fun _ => ?_, fun h => absurd h (by decide)⟩ | refine ⟨fun h => absurd h (by decide), fun _ => ?_⟩))
    refine ⟨fun g => ?_, fun g => ?_⟩
    · have g2 : (fG s.xs k1 3 != fG s.xs k2 3) = false := g
      (repeat (first | refine aC ?_ | refine aK ?_ | refine ⟨fun _ => ?_, fun h => absurd h (by decide)⟩ | refine ⟨fun h => absurd h (by decide), fun _ => ?_⟩))
      refine ⟨fun g => ?_, fun g => ?_⟩
      · have g3 : ((((((fG s.xs k1 5).toNat ||| (fG s.xs k2 5).toNat : Nat) : Int).toNat &&& 2 : Nat) : Int) != 0) = true := g
        (repeat (first | refine aC ?_ | refine aK ?_ | refine ⟨fun _ => ?_, fun h => absurd h (by decide)⟩ | refine ⟨fun h => absurd h (by decide), fun _ => ?_⟩))
        exact ⟨some, .boo (!(P == 1 * 2 ^ (fG s.xs k1 3).toNat)), heap0 false s, by exact wI, by simp only [meetB, g1, g2, g3]; rfl, rfl⟩
      · have g3 : ((((((fG s.xs k1 5).toNat ||| (fG s.xs k2 5).toNat : Nat) : Int).toNat &&& 2 : Nat) : Int) != 0) = false := g
        (repeat (first | refine aC ?_ | refine aK ?_ | refine ⟨fun _ => ?_, fun h => absurd h (by decide)⟩ | refine ⟨fun h => absurd h (by decide), fun _ => ?_⟩))
        exact ⟨some, .boo false, heap0 false s, by exact wI, by simp only [meetB, g1, g2, g3]; rfl, rfl⟩
    · have g2 : (fG s.xs k1 3 != fG s.xs k2 3) = true := g
      (repeat (first | refine aC ?_ | refine aK ?_ | refine ⟨fun _ => ?_, fun h => absurd h (by decide)⟩ | refine ⟨fun h => absurd h (by decide), fun _ => ?_⟩))
      exact ⟨some, .boo true, heap0 false s, by exact wI, by simp only [meetB, g1, g2]; rfl, rfl⟩
end Go.Proofs.Ytlbgkfidpkbafaa
/- What a group could open. -/
namespace Go.Proofs.Ytlbgkfidpkbafaa
open Go.RowKit
set_option linter.unusedSimpArgs false
set_option linter.unusedVariables false
abbrev vN (xs : List Int) (k : Nat) : Nat := (fG xs k 4).toNat
def innF (s : St) (P : Int) (l : List Nat) (j a0 : Nat) : Nat → Nat
  | 0 => a0
  | i + 1 => if meetB s.xs P (l.getD j 0) (l.getD i 0) = true then innF s P l j a0 i ||| (vN s.xs (l.getD j 0) &&& vN s.xs (l.getD i 0)) else innF s P l j a0 i
def outF (s : St) (P : Int) (l : List Nat) : Nat → Nat
  | 0 => 0
  | j + 1 => innF s P l j (outF s P l j) j
theorem innF_lt {s : St} (hs : Good s) (P : Int) {l : List Nat} (hl : ∀ i ∈ l, i < s.n) {j a0 : Nat} (h0 : a0 < 65536) : ∀ {i : Nat}, i ≤ l.length → innF s P l j a0 i < 65536
  | 0, _ => h0
  | i + 1, hi => by
    have ih := innF_lt hs P hl (j := j) h0 (i := i) (by omega)
    simp only [innF]
    split
    · have hv := hs.rng.v (l.getD i 0) (getD_lt hl (by omega))
      have h1 : vN s.xs (l.getD j 0) &&& vN s.xs (l.getD i 0) < 2 ^ 16 := Nat.lt_of_le_of_lt Nat.and_le_right (by show (fG s.xs _ 4).toNat < _; omega)
      exact Nat.or_lt_two_pow (n := 16) ih h1
    · exact ih
theorem outF_lt {s : St} (hs : Good s) (P : Int) {l : List Nat} (hl : ∀ i ∈ l, i < s.n) : ∀ {j : Nat}, j ≤ l.length → outF s P l j < 65536
  | 0, _ => (by decide : (0 : Nat) < 65536)
  | j + 1, hj => innF_lt hs P hl (outF_lt hs P hl (by omega)) (by omega)
def couldV (s : St) (P : Int) : Nat := outF s P (keysF s P s.n) (keysF s P s.n).length
def CouldPost (s : St) (P : Int) (w : AV) (H : AH) : Prop :=
  ((0 ≤ P ∧ P ≤ 65535) ∧ w = tupOf [.a (.s (.v (.int .i64 ((couldV s P : Nat) : Int)))), .a (.s (.v (.int .i64 0)))] ∧ H = heap0 false s) ∨
  (¬ (0 ≤ P ∧ P ≤ 65535) ∧ w = tupOf [.a (.s (.v (.int .i64 0))), .a (.s (.v (.int .i64 2)))] ∧ H = heap0 false s)
set_option maxRecDepth 20000 in
set_option maxHeartbeats 4000000 in
theorem could_c (s : St) (hs : Good s) (P : Int) : CallA Try.prog 21 [.t (.a (.s (.ptr 0 0))), .int .i64 P] (heap0 false s) (CouldPost s P) := by
  refine call_defer TYok mixedO Try.func21 rfl rfl (Nat.le_of_ble_eq_true rfl) (df_ok 50 rfl) ?_
  have hf := hs.rng.wf.few
  have hx := hs.rng.wf.len
  have hl : ∀ i ∈ keysF s P s.n, i < s.n := fun i hi => (keysF_mem s P).1 hi |>.1
  have hlen := keysF_len s P s.n
  (repeat (first | refine aC ?_ | refine aK ?_ | refine ⟨fun _ => ?_, fun h => absurd h (by decide)⟩ | refine ⟨fun h => absurd h (by decide), fun _ => ?_⟩))
  refine And.intro ?_ ?_
  · exact ⟨rfl, rfl, rfl⟩
  (repeat (first | refine aC ?_ | refine aK ?_ | refine ⟨fun _ => ?_, fun h => absurd h (by decide)⟩ | refine ⟨fun h => absurd h (by decide), fun _ => ?_⟩))
  (refine call_lift (needMade_c s.d s.n s.xs s.m s.es) (fun i => match i with | 0 => some 0 | 1 => some 1 | 2 => some 2 | _ => none) rfl rfl hI rfl rfl rfl ?_; rintro v H1 ⟨rfl, rfl⟩; refine ⟨⟨rfl, rfl, rfl, rfl⟩, ?_⟩; (try simp only [two]); (try simp only [AV.ren]); (try simp only [renT]); (try simp only [AT.ren]); (try simp only [A.ren]); (try (rw [ptr_ren]; rotate_left; exact rfl)); (try (rw [slc_ren]; rotate_left; exact rfl)); (try simp only [S.ren]))
  (repeat (first | refine aC ?_ | refine aK ?_ | refine ⟨fun _ => ?_, fun h => absurd h (by decide)⟩ | refine ⟨fun h => absurd h (by decide), fun _ => ?_⟩))
  by_cases hP : 0 ≤ P ∧ P ≤ 65535
  · obtain ⟨p0, p1⟩ := hP
    refine ⟨fun _ => ?_, fun h => absurd ((decide_eq_true p0).symm.trans h) (by decide)⟩
    (repeat (first | refine aC ?_ | refine aK ?_ | refine ⟨fun _ => ?_, fun h => absurd h (by decide)⟩ | refine ⟨fun h => absurd h (by decide), fun _ => ?_⟩))
    (refine call_lift (need_tb (decide (P ≤ 65535)) 2 (decide_eq_true p1)) (fun i => match i with | 0 => none | _ => none) rfl rfl hI rfl rfl rfl ?_; rintro v H1 ⟨rfl, rfl⟩; refine ⟨⟨rfl, rfl, rfl, rfl⟩, ?_⟩; (try simp only [two]); (try simp only [AV.ren]); (try simp only [renT]); (try simp only [AT.ren]); (try simp only [A.ren]); (try (rw [ptr_ren]; rotate_left; exact rfl)); (try (rw [slc_ren]; rotate_left; exact rfl)); (try simp only [S.ren]))
    (repeat (first | refine aC ?_ | refine aK ?_ | refine ⟨fun _ => ?_, fun h => absurd h (by decide)⟩ | refine ⟨fun h => absurd h (by decide), fun _ => ?_⟩))
    (refine call_lift (keys_c s hs P p0 p1) (fun i => match i with | 0 => some 0 | 1 => some 1 | 2 => some 2 | _ => none) rfl rfl hI rfl rfl rfl ?_; rintro v H1 ⟨rfl, rfl⟩; refine ⟨⟨rfl, rfl, rfl, rfl⟩, ?_⟩; (try simp only [two]); (try simp only [AV.ren]); (try simp only [renT]); (try simp only [AT.ren]); (try simp only [A.ren]); (try (rw [ptr_ren]; rotate_left; exact rfl)); (try (rw [slc_ren]; rotate_left; exact rfl)); (try simp only [S.ren]))
    have hc : couldV s P = outF s P (keysF s P s.n) (keysF s P s.n).length := rfl
    generalize keysF s P s.n = l at *
    (repeat (first | refine aC ?_ | refine aK ?_ | refine ⟨fun _ => ?_, fun h => absurd h (by decide)⟩ | refine ⟨fun h => absurd h (by decide), fun _ => ?_⟩))
    refine loop_rule TYok mixedO (ι := Nat × Nat) (fun q => [(1, .int .i64 P), (4, .int .i64 (q.2 : Int)), (5, .t (.a (.s (.ptr 3 0)))), (6, .t (.a (.s (.slc 4 0 l.length)))), (24, .t (.a (.s (.slc 4 0 l.length)))), (25, .int .i64 (l.length : Int)), (26, .int .i64 (q.1 : Int))]) (fun _ => heap0 false s ++ [⟨true, true, 39, 1, .cells [.s (.v (.int .i64 0))]⟩, ⟨false, false, 89, 1, .ptrs 1 (l.map (· * 9))⟩]) (fun q => q.1 ≤ l.length ∧ q.2 = outF s P l q.1) (fun q => l.length - q.1) (0, 0) ⟨Nat.zero_le _, rfl⟩ some (by exact wI) ?_
    rintro ⟨j, acc⟩ ⟨hj, ha⟩
    dsimp only at hj ha ⊢
    have hacc := outF_lt hs P hl hj
    rw [← ha] at hacc
    (repeat (first | refine aC ?_ | refine aK ?_ | refine ⟨fun _ => ?_, fun h => absurd h (by decide)⟩ | refine ⟨fun h => absurd h (by decide), fun _ => ?_⟩))
    refine ⟨fun g => ?_, fun g => ?_⟩
    · have g := of_decide_eq_true g
      have hjl : j < l.length := by omega
      have hjn := getD_lt hl hjl
      (repeat (first | refine aC ?_ | refine aK ?_ | refine ⟨fun _ => ?_, fun h => absurd h (by decide)⟩ | refine ⟨fun h => absurd h (by decide), fun _ => ?_⟩))
      have e1 : 0 + ((j : Nat) : Int).toNat * ti89.size = j := by
        rw [siz89]
        simp
      rw [e1]
      refine And.intro (decide_eq_true (by rw [List.length_map]; exact hjl)) ?_
      rw [nine]
      (repeat (first | refine aC ?_ | refine aK ?_ | refine ⟨fun _ => ?_, fun h => absurd h (by decide)⟩ | refine ⟨fun h => absurd h (by decide), fun _ => ?_⟩))
      refine loop_rule TYok mixedO (ι := Nat × Nat) (fun q => [(1, .int .i64 P), (4, .int .i64 (q.2 : Int)), (5, .t (.a (.s (.ptr 3 0)))), (6, .t (.a (.s (.slc 4 0 l.length)))), (8, .t (.a (.s (.ptr 1 (l.getD j 0 * 9))))), (24, .t (.a (.s (.slc 4 0 l.length)))), (25, .int .i64 (l.length : Int)), (26, .int .i64 (j : Int)), (33, .t (.a (.s (.slc 4 0 j)))), (34, .int .i64 (j : Int)), (35, .int .i64 (q.1 : Int))]) (fun _ => heap0 false s ++ [⟨true, true, 39, 1, .cells [.s (.v (.int .i64 0))]⟩, ⟨false, false, 89, 1, .ptrs 1 (l.map (· * 9))⟩]) (fun q => q.1 ≤ j ∧ q.2 = innF s P l j acc q.1) (fun q => j - q.1) (0, acc) ⟨Nat.zero_le _, rfl⟩ some (by exact wI) ?_
      rintro ⟨i, a⟩ ⟨hi, hb⟩
      dsimp only at hi hb ⊢
      have hal := innF_lt hs P hl (j := j) hacc (i := i) (by omega)
      rw [← hb] at hal
      (repeat (first | refine aC ?_ | refine aK ?_ | refine ⟨fun _ => ?_, fun h => absurd h (by decide)⟩ | refine ⟨fun h => absurd h (by decide), fun _ => ?_⟩))
      refine ⟨fun g => ?_, fun g => ?_⟩
      · have g := of_decide_eq_true g
        have hij : i < j := by omega
        have hin := getD_lt hl (show i < l.length by omega)
        obtain ⟨v0, v1⟩ := hs.rng.v _ hjn
        obtain ⟨v2, v3⟩ := hs.rng.v _ hin
        (repeat (first | refine aC ?_ | refine aK ?_ | refine ⟨fun _ => ?_, fun h => absurd h (by decide)⟩ | refine ⟨fun h => absurd h (by decide), fun _ => ?_⟩))
        have e2 : 0 + ((i : Nat) : Int).toNat * ti89.size = i := by
          rw [siz89]
          simp
        rw [e2]
        refine And.intro (decide_eq_true (by rw [List.length_map]; omega)) ?_
        rw [nine]
        (repeat (first | refine aC ?_ | refine aK ?_ | refine ⟨fun _ => ?_, fun h => absurd h (by decide)⟩ | refine ⟨fun h => absurd h (by decide), fun _ => ?_⟩))
        (refine call_lift (meet_c s hs P (l.getD j 0) (l.getD i 0) hjn hin) (fun i => match i with | 0 => some 0 | 1 => some 1 | 2 => some 2 | _ => none) rfl rfl hI rfl rfl rfl ?_; rintro v H1 ⟨rfl, rfl⟩; refine ⟨⟨rfl, rfl, rfl, rfl⟩, ?_⟩; (try simp only [two]); (try simp only [AV.ren]); (try simp only [renT]); (try simp only [AT.ren]); (try simp only [A.ren]); (try (rw [ptr_ren]; rotate_left; exact rfl)); (try (rw [slc_ren]; rotate_left; exact rfl)); (try simp only [S.ren]))
        (repeat (first | refine aC ?_ | refine aK ?_ | refine ⟨fun _ => ?_, fun h => absurd h (by decide)⟩ | refine ⟨fun h => absurd h (by decide), fun _ => ?_⟩))
        refine ⟨fun g => ?_, fun g => ?_⟩
        · have g1 : meetB s.xs P (l.getD j 0) (l.getD i 0) = true := g
          (repeat (first | refine aC ?_ | refine aK ?_ | refine ⟨fun _ => ?_, fun h => absurd h (by decide)⟩ | refine ⟨fun h => absurd h (by decide), fun _ => ?_⟩))
          refine And.intro (fld_t (o := 4) (by decide) rfl hjn hx) ?_
          (repeat (first | refine aC ?_ | refine aK ?_ | refine ⟨fun _ => ?_, fun h => absurd h (by decide)⟩ | refine ⟨fun h => absurd h (by decide), fun _ => ?_⟩))
          refine And.intro (fld_t (o := 4) (by decide) rfl hin hx) ?_
          (repeat (first | refine aC ?_ | refine aK ?_ | refine ⟨fun _ => ?_, fun h => absurd h (by decide)⟩ | refine ⟨fun h => absurd h (by decide), fun _ => ?_⟩))
          refine And.intro (and_t ((natOk_i64 (x := fG s.xs (l.getD j 0) 4)).2 ⟨v0, by omega⟩) ((natOk_i64 (x := fG s.xs (l.getD i 0) 4)).2 ⟨v2, by omega⟩)) ?_
          (repeat (first | refine aC ?_ | refine aK ?_ | refine ⟨fun _ => ?_, fun h => absurd h (by decide)⟩ | refine ⟨fun h => absurd h (by decide), fun _ => ?_⟩))
          have hand : vN s.xs (l.getD j 0) &&& vN s.xs (l.getD i 0) < 65536 := Nat.lt_of_le_of_lt Nat.and_le_right (by show (fG s.xs _ 4).toNat < _; omega)
          refine And.intro (and_t ((natOk_i64 (x := (a : Int))).2 ⟨by omega, by omega⟩) ((natOk_i64 (x := ((vN s.xs (l.getD j 0) &&& vN s.xs (l.getD i 0) : Nat) : Int))).2 ⟨by omega, by omega⟩)) ?_
          (repeat (first | refine aC ?_ | refine aK ?_ | refine ⟨fun _ => ?_, fun h => absurd h (by decide)⟩ | refine ⟨fun h => absurd h (by decide), fun _ => ?_⟩))
          have e3 : innF s P l j acc (i + 1) = a ||| (vN s.xs (l.getD j 0) &&& vN s.xs (l.getD i 0)) := by
            simp only [innF]
            rw [if_pos g1, ← hb]
          exact ⟨(i + 1, a ||| (vN s.xs (l.getD j 0) &&& vN s.xs (l.getD i 0))), ⟨hij, e3.symm⟩, by dsimp only; omega, some, by exact wI⟩
        · have g1 : meetB s.xs P (l.getD j 0) (l.getD i 0) = false := g
          (repeat (first | refine aC ?_ | refine aK ?_ | refine ⟨fun _ => ?_, fun h => absurd h (by decide)⟩ | refine ⟨fun h => absurd h (by decide), fun _ => ?_⟩))
          have e3 : innF s P l j acc (i + 1) = a := by
            simp only [innF]
            rw [if_neg (by rw [g1]; decide), ← hb]
          exact ⟨(i + 1, a), ⟨hij, e3.symm⟩, by dsimp only; omega, some, by exact wI⟩
      · have g := of_decide_eq_false g
        (repeat (first | refine aC ?_ | refine aK ?_ | refine ⟨fun _ => ?_, fun h => absurd h (by decide)⟩ | refine ⟨fun h => absurd h (by decide), fun _ => ?_⟩))
        obtain rfl : i = j := by omega
        exact ⟨(i + 1, a), ⟨hjl, by show a = innF s P l i (outF s P l i) i; rw [← ha]; exact hb⟩, by dsimp only; omega, some, by exact wI⟩
    · have g := of_decide_eq_false g
      (repeat (first | refine aC ?_ | refine aK ?_ | refine ⟨fun _ => ?_, fun h => absurd h (by decide)⟩ | refine ⟨fun h => absurd h (by decide), fun _ => ?_⟩))
      obtain rfl : j = l.length := by omega
      exact ⟨some, tupOf [.a (.s (.v (.int .i64 (acc : Int)))), .a (.s (.v (.int .i64 0)))], heap0 false s, by exact wI, .inl ⟨⟨p0, p1⟩, by rw [hc, ← ha], rfl⟩⟩
  · by_cases p0 : 0 ≤ P
    · refine ⟨fun _ => ?_, fun h => absurd ((decide_eq_true p0).symm.trans h) (by decide)⟩
      (repeat (first | refine aC ?_ | refine aK ?_ | refine ⟨fun _ => ?_, fun h => absurd h (by decide)⟩ | refine ⟨fun h => absurd h (by decide), fun _ => ?_⟩))
      (refine call_liftE (need_fb (decide (P ≤ 65535)) 2 (decide_eq_false (fun h => hP ⟨p0, h⟩))) (fun i => match i with | 0 => none | _ => none) rfl rfl hI rfl rfl rfl (fun _ _ h => h.elim) ?_; rintro pv H1 ⟨rfl, rfl⟩; refine ⟨⟨rfl, rfl, rfl⟩, ?_⟩)
      refine And.intro rfl (And.intro rfl (And.intro rfl ?_))
      exact ⟨some, tupOf [.a (.s (.v (.int .i64 0))), .a (.s (.v (.int .i64 2)))], heap0 false s, by exact wI, .inr ⟨hP, rfl, rfl⟩⟩
    · refine ⟨fun h => absurd ((decide_eq_false p0).symm.trans h) (by decide), fun _ => ?_⟩
      (repeat (first | refine aC ?_ | refine aK ?_ | refine ⟨fun _ => ?_, fun h => absurd h (by decide)⟩ | refine ⟨fun h => absurd h (by decide), fun _ => ?_⟩))
      (refine call_liftE (need_f 2) (fun i => match i with | 0 => none | _ => none) rfl rfl hI rfl rfl rfl (fun _ _ h => h.elim) ?_; rintro pv H1 ⟨rfl, rfl⟩; refine ⟨⟨rfl, rfl, rfl⟩, ?_⟩)
      refine And.intro rfl (And.intro rfl (And.intro rfl ?_))
      exact ⟨some, tupOf [.a (.s (.v (.int .i64 0))), .a (.s (.v (.int .i64 2)))], heap0 false s, by exact wI, .inr ⟨hP, rfl, rfl⟩⟩
end Go.Proofs.Ytlbgkfidpkbafaa
/- What a group could open, by what it holds. -/
namespace Go.Proofs.Ytlbgkfidpkbafaa
open Go.RowKit
set_option linter.unusedSimpArgs false
set_option linter.unusedVariables false
theorem hasV_bit {P h : Int} (hP : 0 ≤ P) : hasV P h = P.toNat.testBit h.toNat := by
  unfold hasV
  have e : (P.fdiv (2 ^ h.toNat)).toNat = P.toNat / 2 ^ h.toNat := by
    obtain ⟨p, rfl⟩ : ∃ p : Nat, P = (p : Int) := ⟨P.toNat, by omega⟩
    have hp : (0 : Int) ≤ 2 ^ h.toNat := Int.le_of_lt (Int.pow_pos (by decide))
    rw [Int.fdiv_eq_ediv_of_nonneg _ hp]
    have h1 : ((p : Int) / 2 ^ h.toNat) = ((p / 2 ^ h.toNat : Nat) : Int) := by
      rw [Int.natCast_ediv, Int.natCast_pow]
      rfl
    rw [h1, Int.toNat_natCast, Int.toNat_natCast]
  rw [e, Nat.testBit_eq_decide_div_mod_eq, Nat.and_one_is_mod]
  by_cases h1 : P.toNat / 2 ^ h.toNat % 2 = 1
  · rw [h1]
    rfl
  · have : P.toNat / 2 ^ h.toNat % 2 = 0 := by omega
    rw [this]
    rfl
theorem keysF_sorted (s : St) (P : Int) : ∀ c, (keysF s P c).Pairwise (· < ·)
  | 0 => List.Pairwise.nil
  | c + 1 => by
    have ih := keysF_sorted s P c
    simp only [keysF]
    split
    · rw [List.pairwise_append]
      refine ⟨ih, List.pairwise_singleton _ _, fun a ha b hb => ?_⟩
      rw [List.mem_singleton] at hb
      subst hb
      exact ((keysF_mem s P).1 ha).1
    · exact ih
def pairB (s : St) (P : Int) (v a b : Nat) : Prop := meetB s.xs P a b = true ∧ (vN s.xs a).testBit v = true ∧ (vN s.xs b).testBit v = true
theorem innF_bit (s : St) (P : Int) (l : List Nat) (j a0 v : Nat) : ∀ i, (innF s P l j a0 i).testBit v = true ↔ a0.testBit v = true ∨ ∃ q, q < i ∧ pairB s P v (l.getD j 0) (l.getD q 0)
  | 0 => by simp [innF]
  | i + 1 => by
    have ih := innF_bit s P l j a0 v i
    simp only [innF]
    split
    · rename_i h
      rw [Nat.testBit_or, Bool.or_eq_true, ih, Nat.testBit_and, Bool.and_eq_true]
      constructor
      · rintro ((h1 | ⟨q, h1, h2⟩) | ⟨h1, h2⟩)
        · exact .inl h1
        · exact .inr ⟨q, by omega, h2⟩
        · exact .inr ⟨i, by omega, h, h1, h2⟩
      · rintro (h1 | ⟨q, h1, h2⟩)
        · exact .inl (.inl h1)
        · by_cases e : q = i
          · subst e
            exact .inr h2.2
          · exact .inl (.inr ⟨q, by omega, h2⟩)
    · rename_i h
      rw [ih]
      constructor
      · rintro (h1 | ⟨q, h1, h2⟩)
        · exact .inl h1
        · exact .inr ⟨q, by omega, h2⟩
      · rintro (h1 | ⟨q, h1, h2⟩)
        · exact .inl h1
        · by_cases e : q = i
          · subst e
            exact absurd h2.1 h
          · exact .inr ⟨q, by omega, h2⟩
theorem outF_bit (s : St) (P : Int) (l : List Nat) (v : Nat) : ∀ j, (outF s P l j).testBit v = true ↔ ∃ p q, p < j ∧ q < p ∧ pairB s P v (l.getD p 0) (l.getD q 0)
  | 0 => by simp [outF]
  | j + 1 => by
    have ih := outF_bit s P l v j
    simp only [outF]
    rw [innF_bit, ih]
    constructor
    · rintro (⟨p, q, h1, h2, h3⟩ | ⟨q, h1, h2⟩)
      · exact ⟨p, q, by omega, h2, h3⟩
      · exact ⟨j, q, by omega, h1, h2⟩
    · rintro ⟨p, q, h1, h2, h3⟩
      by_cases e : p = j
      · subst e
        exact .inr ⟨q, h2, h3⟩
      · exact .inl ⟨p, q, by omega, h2, h3⟩
theorem couldV_bit (s : St) (P : Int) (v : Nat) : (couldV s P).testBit v = true ↔ ∃ a b, b < a ∧ a < s.n ∧ keyOk s P a = true ∧ keyOk s P b = true ∧ pairB s P v a b := by
  unfold couldV
  rw [outF_bit]
  have hm := fun i => keysF_mem s P (c := s.n) (i := i)
  have hs := keysF_sorted s P s.n
  generalize keysF s P s.n = l at *
  have hg : ∀ i, i < l.length → l.getD i 0 ∈ l := fun i hi => by
    simp only [List.getD_eq_getElem?_getD, List.getElem?_eq_getElem hi, Option.getD_some]
    exact List.getElem_mem hi
  have hlt : ∀ i j, i < j → j < l.length → l.getD i 0 < l.getD j 0 := fun i j h1 h2 => by
    simp only [List.getD_eq_getElem?_getD, List.getElem?_eq_getElem h2, List.getElem?_eq_getElem (Nat.lt_trans h1 h2), Option.getD_some]
    exact List.pairwise_iff_getElem.1 hs i j (Nat.lt_trans h1 h2) h2 h1
  constructor
  · rintro ⟨p, q, h1, h2, h3⟩
    have a1 := (hm _).1 (hg p h1)
    have a2 := (hm _).1 (hg q (by omega))
    exact ⟨_, _, hlt q p h2 h1, a1.1, a1.2, a2.2, h3⟩
  · rintro ⟨a, b, h1, h2, h3, h4, h5⟩
    obtain ⟨p, hp, e1⟩ := List.mem_iff_getElem.1 ((hm a).2 ⟨h2, h3⟩)
    obtain ⟨q, hq, e2⟩ := List.mem_iff_getElem.1 ((hm b).2 ⟨by omega, h4⟩)
    have f1 : l.getD p 0 = a := by simp only [List.getD_eq_getElem?_getD, List.getElem?_eq_getElem hp, Option.getD_some, e1]
    have f2 : l.getD q 0 = b := by simp only [List.getD_eq_getElem?_getD, List.getElem?_eq_getElem hq, Option.getD_some, e2]
    refine ⟨p, q, hp, ?_, by rw [f1, f2]; exact h5⟩
    rcases Nat.lt_or_ge q p with h | h
    · exact h
    · rcases Nat.eq_or_lt_of_le h with h | h
      · subst h
        omega
      · have := hlt p q h hq
        omega
/-- more persons could open no less -/
theorem could_more {s : St} (hs : Good s) {P M : Int} (hP : 0 ≤ P) (hM : 0 ≤ M) : couldV s P &&& couldV s ((P.toNat ||| M.toNat : Nat) : Int) = couldV s P := by
  apply Nat.eq_of_testBit_eq
  intro v
  rw [Nat.testBit_and]
  cases hb : (couldV s P).testBit v with
  | false => rfl
  | true =>
    rw [Bool.true_and]
    obtain ⟨a, b, h1, h2, h3, h4, h5⟩ := (couldV_bit s P v).1 hb
    have up : ∀ k, keyOk s P k = true → keyOk s ((P.toNat ||| M.toNat : Nat) : Int) k = true := fun k h => by
      unfold keyOk at h ⊢
      simp only [Bool.and_eq_true] at h ⊢
      obtain ⟨⟨⟨g1, g2⟩, g3⟩, g4⟩ := h
      refine ⟨⟨⟨?_, g2⟩, g3⟩, g4⟩
      rw [hasV_bit hP] at g1
      rw [hasV_bit (by omega)]
      simp only [Int.toNat_natCast, Nat.testBit_or, g1, Bool.true_or]
    refine (couldV_bit s _ v).2 ⟨a, b, h1, h2, up a h3, up b h4, ?_, h5.2⟩
    have hmeet := h5.1
    have hh : P.toNat.testBit (fG s.xs a 3).toNat = true := by
      unfold keyOk at h3
      simp only [Bool.and_eq_true] at h3
      have := h3.1.1.1
      rwa [hasV_bit hP] at this
    unfold meetB at hmeet ⊢
    simp only [Bool.and_eq_true, Bool.or_eq_true, Bool.not_eq_true', beq_eq_false_iff_ne] at hmeet ⊢
    refine ⟨hmeet.1, hmeet.2.imp id fun g => ⟨g.1, fun e => g.2 ?_⟩⟩
    have e : P.toNat ||| M.toNat = 2 ^ (fG s.xs a 3).toNat := by
      have : ((P.toNat ||| M.toNat : Nat) : Int) = ((2 ^ (fG s.xs a 3).toNat : Nat) : Int) := by
        rw [e, Int.one_mul]
        norm_cast
      exact_mod_cast this
    have : P.toNat = 2 ^ (fG s.xs a 3).toNat := by
      apply Nat.eq_of_testBit_eq
      intro i
      have ei := congrArg (fun x => Nat.testBit x i) e
      simp only [Nat.testBit_or, Nat.testBit_two_pow] at ei
      rw [Nat.testBit_two_pow]
      by_cases hi : (fG s.xs a 3).toNat = i
      · rw [decide_eq_true hi, ← hi]
        exact hh
      · rw [decide_eq_false hi] at ei ⊢
        rw [Bool.or_eq_false_iff] at ei
        exact ei.1
    have e2 : P = ((2 ^ (fG s.xs a 3).toNat : Nat) : Int) := by omega
    rw [e2, Int.one_mul]
    norm_cast
/-! a root more, for a person outside -/
theorem line_app {n : Nat} {xs : List Int} (hw : Wf n xs) (zs : List Int) : ∀ {k : Nat}, k < n → ∀ f, lineN (xs ++ zs) f k = lineN xs f k := by
  intro k hk f
  induction f generalizing k with
  | zero => rfl
  | succ f ih =>
    have e : (xs ++ zs).getD (k * 9 + 1) 0 = xs.getD (k * 9 + 1) 0 := app_old hw.len zs hk (by decide)
    have h1 := hw.ge k hk
    have h2 := hw.le k hk
    simp only [lineN]
    rw [e]
    split
    · rfl
    · rw [ih (by omega)]
theorem line_app' {n : Nat} {xs : List Int} (hw : Wf n xs) (zs : List Int) {k : Nat} (hk : k < n) : line (xs ++ zs) k = line xs k := line_app hw zs hk k
theorem any_congr {l : List Nat} {p q : Nat → Bool} (h : ∀ i ∈ l, p i = q i) : l.any p = l.any q := by
  induction l with
  | nil => rfl
  | cons a l ih =>
    rw [List.any_cons, List.any_cons, h a List.mem_cons_self, ih (fun i hi => h i (List.mem_cons_of_mem _ hi))]
theorem keyOk_app {s : St} (hs : Good s) (zs : List Int) (P : Int) {k : Nat} (hk : k < s.n) : keyOk ⟨s.d, s.n + 1, s.xs ++ zs, s.m, s.es⟩ P k = keyOk s P k := by
  have hw := hs.rng.wf
  have hx := hw.len
  have hl := line_lt hw hk
  have g : ∀ {i o : Nat}, i < s.n → o < 9 → fG (s.xs ++ zs) i o = fG s.xs i o := fun hi ho => app_old hx zs hi ho
  unfold keyOk standsB spentB
  dsimp only
  rw [g hk (by decide), g hk (by decide), g hk (by decide), line_app' hw zs hk]
  rw [any_congr (p := revG (s.xs ++ zs)) (q := revG s.xs) (fun i hi => by
    show (fG (s.xs ++ zs) i 8 != 0) = (fG s.xs i 8 != 0)
    rw [g (hl i hi) (by decide)])]
  rw [any_congr (p := zeroG (s.xs ++ zs)) (q := zeroG s.xs) (fun i hi => by
    unfold zeroG
    rw [g (hl i hi) (by decide)])]
theorem keysF_app {s : St} (hs : Good s) (zs : List Int) (P : Int) : ∀ {c : Nat}, c ≤ s.n → keysF ⟨s.d, s.n + 1, s.xs ++ zs, s.m, s.es⟩ P c = keysF s P c
  | 0, _ => rfl
  | c + 1, hc => by
    simp only [keysF]
    rw [keysF_app hs zs P (c := c) (by omega), keyOk_app hs zs P (by omega)]
theorem innF_app {s : St} (hs : Good s) (zs : List Int) (P : Int) {l : List Nat} (hl : ∀ i ∈ l, i < s.n) {j : Nat} (hj : j < l.length) (a0 : Nat) : ∀ {i : Nat}, i ≤ l.length → innF ⟨s.d, s.n + 1, s.xs ++ zs, s.m, s.es⟩ P l j a0 i = innF s P l j a0 i
  | 0, _ => rfl
  | i + 1, hi => by
    have ih := innF_app hs zs P hl hj a0 (i := i) (by omega)
    have h1 := getD_lt hl hj
    have h2 := getD_lt hl (show i < l.length by omega)
    have g : ∀ {i o : Nat}, i < s.n → o < 9 → fG (s.xs ++ zs) i o = fG s.xs i o := fun hi ho => app_old hs.rng.wf.len zs hi ho
    simp only [innF]
    rw [ih]
    have em : meetB (s.xs ++ zs) P (l.getD j 0) (l.getD i 0) = meetB s.xs P (l.getD j 0) (l.getD i 0) := by
      unfold meetB
      rw [g h1 (show 2 < 9 by decide), g h2 (show 2 < 9 by decide), g h1 (show 3 < 9 by decide), g h2 (show 3 < 9 by decide), g h1 (show 5 < 9 by decide), g h2 (show 5 < 9 by decide)]
    have e4 : ∀ {k : Nat}, k < s.n → vN (s.xs ++ zs) k = vN s.xs k := fun hk => by
      show (fG (s.xs ++ zs) _ 4).toNat = _
      rw [g hk (by decide)]
    rw [em, e4 h1, e4 h2]
theorem outF_app {s : St} (hs : Good s) (zs : List Int) (P : Int) {l : List Nat} (hl : ∀ i ∈ l, i < s.n) : ∀ {j : Nat}, j ≤ l.length → outF ⟨s.d, s.n + 1, s.xs ++ zs, s.m, s.es⟩ P l j = outF s P l j
  | 0, _ => rfl
  | j + 1, hj => by
    simp only [outF]
    rw [outF_app hs zs P hl (j := j) (by omega), innF_app hs zs P hl (by omega) _ (by omega)]
theorem could_root {s : St} (hs : Good s) {P h v r u us : Int} (hh : hasV P h = false) : couldV (grantS s h v r u us).1 P = couldV s P := by
  unfold grantS
  split
  · rfl
  · split
    · rfl
    · dsimp only
      generalize hz : [(s.n : Int) + 1, 0, (s.n : Int) + 1, h, v, r, u, us, 0] = zs
      have hk : keysF ⟨s.d, s.n + 1, s.xs ++ zs, s.m, s.es⟩ P (s.n + 1) = keysF s P s.n := by
        simp only [keysF]
        rw [keysF_app hs zs P (Nat.le_refl _), if_neg ?_]
        have e : fG (s.xs ++ zs) s.n 3 = h := by
          rw [app_new hs.rng.wf.len, ← hz]
          rfl
        unfold keyOk
        dsimp only
        rw [e, hh]
        simp
      unfold couldV
      dsimp only
      rw [hk]
      exact outF_app hs zs P (fun i hi => ((keysF_mem s P).1 hi).1) (Nat.le_refl _)
end Go.Proofs.Ytlbgkfidpkbafaa
/- What the specification says that a group could open. -/
namespace Go.Proofs.Ytlbgkfidpkbafaa
open Go.RowKit
set_option linter.unusedSimpArgs false
set_option linter.unusedVariables false
theorem hasV_rem1 {v a : Int} (v0 : 0 ≤ v) : ((v.fdiv (2 ^ a.toNat)) % 2 == 1) = hasV v a := by
  obtain ⟨V, rfl⟩ := Int.eq_ofNat_of_zero_le v0
  unfold hasV
  rw [fd_pow, Int.toNat_natCast, Nat.and_one_is_mod]
  generalize V / 2 ^ a.toNat = y
  rw [Bool.eq_iff_iff, beq_iff_eq, beq_iff_eq]
  omega
def srvB (s : St) (P : Int) (v : Int) (i : Nat) : Bool := hasV P (fG s.xs i 3) && (keyE s.d s.n s.xs v ((i : Int) + 1) (fG s.xs i 3) == 0)
theorem srvB_key {s : St} {P v : Int} {i : Nat} (hi : i < s.n) : srvB s P v i = (keyOk s P i && hasV (fG s.xs i 4) v) := by
  unfold srvB keyOk
  rw [keyE_k hi]
  have hk : keyC s.d s.xs i v (fG s.xs i 3) = (standsB s.d s.xs i && hasOpen (fG s.xs i 5) && hasV (fG s.xs i 4) v) := by
    unfold keyC
    rw [beq_self_eq_true, Bool.true_and]
  rw [hk]
  cases hasV P (fG s.xs i 3) <;> cases standsB s.d s.xs i <;> cases hasOpen (fG s.xs i 5) <;> cases hasV (fG s.xs i 4) v <;> cases spentB s.xs i <;> rfl
set_option maxRecDepth 20000 in
theorem rserves_c (s : St) (gs : List Int) (hr : Rf s gs) (v : Int) (hv : 0 ≤ v ∧ v ≤ 15) (i : Nat) (hi : i < s.n) (P : Int) (hP : 0 ≤ P ∧ P ≤ 65535) :
    CallA Try.prog 56 [refA s.n s.m s.d, .int .i64 v, .int .i64 ((i : Int) + 1), .int .i64 P] (refH s gs) (fun w H => w = .boo (srvB s P v i) ∧ H = refH s gs) := by
  refine call_of_vc TYok mixedO Try.func56 rfl rfl (Nat.le_of_ble_eq_true rfl) ?_
  have hf := hr.good.rng.wf.few
  have hg := hr.len
  have hh := hr.good.h i hi
  have a0 : i64ok ((i : Int) + 1 - 1) = true := i64_of (by omega)
  have a1 : decide (0 ≤ (i : Int) + 1 - 1 ∧ (i : Int) + 1 - 1 < (s.n : Int)) = true := decide_eq_true (by omega)
  have b3 : gs.getD (0 + i * 9 + 3) 0 = fG s.xs i 3 := by rw [Nat.zero_add]; exact hr.same i 3 hi (by decide)
  have sh : decide (0 ≤ gs.getD (0 + i * 9 + 3) 0 ∧ gs.getD (0 + i * 9 + 3) 0 < ((64 : Nat) : Int)) = true := by rw [b3]; exact decide_eq_true (by omega)
  have nn : 0 ≤ P.fdiv (2 ^ (gs.getD (0 + i * 9 + 3) 0).toNat) := fdiv_nn hP.1
  have e1 : ((P.fdiv (2 ^ (gs.getD (0 + i * 9 + 3) 0).toNat)) % 2 == 1) = hasV P (fG s.xs i 3) := by rw [hasV_rem1 hP.1, b3]
  (repeat (first | refine aC ?_ | refine ⟨fun _ => ?_, fun h => absurd h (by decide)⟩ | refine ⟨fun h => absurd h (by decide), fun _ => ?_⟩))
  refine Or.inr (cut_rule [(1, .int .i64 v), (2, .int .i64 ((i : Int) + 1)), (3, .int .i64 P), (4, .t (.a (.s (.ptr 2 0))))] (refX s gs) some (by exact wI) ?_)
  (refine drawn_rule TYok mixedO [] [(true, 0, []), (true, 1, []), (true, 2, []), (true, 3, []), (true, 4, []), (true, 5, []), (true, 6, []), (true, 7, []), (true, 8, []), (true, 9, []), (true, 10, []), (true, 11, []), (true, 12, []), (true, 13, []), (true, 14, []), (true, 15, []), (true, 16, []), (true, 17, []), (true, 18, []), (true, 19, []), (true, 20, []), (true, 21, []), (false, 22, []), (true, 23, []), (true, 24, []), (true, 25, [])] (by kernel_rfl) ?_)
  (repeat (first | refine aC ?_ | refine aK ?_ | refine ⟨fun _ => ?_, fun h => absurd h (by decide)⟩ | refine ⟨fun h => absurd h (by decide), fun _ => ?_⟩))
  rw [succ_k]
  refine And.intro (fld_z (o := 3) (by decide) rfl hi hg) ?_
  (repeat (first | refine aC ?_ | refine aK ?_ | refine ⟨fun _ => ?_, fun h => absurd h (by decide)⟩ | refine ⟨fun h => absurd h (by decide), fun _ => ?_⟩))
  (try (refine And.intro sh ?_))
  (repeat (first | refine aC ?_ | refine aK ?_ | refine ⟨fun _ => ?_, fun h => absurd h (by decide)⟩ | refine ⟨fun h => absurd h (by decide), fun _ => ?_⟩))
  (try (refine And.intro (decide_eq_true ⟨nn, by decide⟩) ?_))
  (repeat (first | refine aC ?_ | refine aK ?_ | refine ⟨fun _ => ?_, fun h => absurd h (by decide)⟩ | refine ⟨fun h => absurd h (by decide), fun _ => ?_⟩))
  by_cases g : hasV P (fG s.xs i 3) = true
  · have q : ((P.fdiv (2 ^ (gs.getD (0 + i * 9 + 3) 0).toNat)) % 2 == 1) = true := by rw [e1]; exact g
    have hK := rkey_c s gs hr v ((i : Int) + 1) (gs.getD (0 + i * 9 + 3) 0) hv
    (first | refine brTT (q) ?_ | refine brTF (q) ?_ | refine brFT (q) ?_ | refine brFF (q) ?_)
    (repeat (first | refine aC ?_ | refine aK ?_ | refine ⟨fun _ => ?_, fun h => absurd h (by decide)⟩ | refine ⟨fun h => absurd h (by decide), fun _ => ?_⟩))
    rw [succ_k]
    refine And.intro (fld_z (o := 3) (by decide) rfl hi hg) ?_
    (repeat (first | refine aC ?_ | refine aK ?_ | refine ⟨fun _ => ?_, fun h => absurd h (by decide)⟩ | refine ⟨fun h => absurd h (by decide), fun _ => ?_⟩))
    (refine call_lift (hK) (fun i => match i with | 0 => some 0 | 1 => some 1 | _ => none) rfl rfl hI rfl rfl rfl ?_; rintro v H1 ⟨rfl, rfl⟩; refine ⟨⟨rfl, rfl, rfl, rfl⟩, ?_⟩; (try simp only [two]); (try simp only [AV.ren]); (try simp only [renT]); (try simp only [AT.ren]); (try simp only [A.ren]); (try (rw [ptr_ren]; rotate_left; exact rfl)); (try (rw [slc_ren]; rotate_left; exact rfl)); (try simp only [S.ren]))
    refine And.intro ?_ ?_
    · refine bkP ?_
      rfl
    (repeat (first | refine aC ?_ | refine aK ?_ | refine ⟨fun _ => ?_, fun h => absurd h (by decide)⟩ | refine ⟨fun h => absurd h (by decide), fun _ => ?_⟩))
    exact ⟨some, .boo (keyE s.d s.n s.xs v ((i : Int) + 1) (gs.getD (0 + i * 9 + 3) 0) == 0), refH s gs, by exact wI, congrArg AV.boo (by unfold srvB; rw [g, b3]; rfl), rfl⟩
  · have g : hasV P (fG s.xs i 3) = false := by simpa using g
    have q : ((P.fdiv (2 ^ (gs.getD (0 + i * 9 + 3) 0).toNat)) % 2 == 1) = false := by rw [e1]; exact g
    (first | refine brTT (q) ?_ | refine brTF (q) ?_ | refine brFT (q) ?_ | refine brFF (q) ?_)
    (repeat (first | refine aC ?_ | refine aK ?_ | refine ⟨fun _ => ?_, fun h => absurd h (by decide)⟩ | refine ⟨fun h => absurd h (by decide), fun _ => ?_⟩))
    exact ⟨some, .boo false, refH s gs, by exact wI, congrArg AV.boo (by unfold srvB; rw [g]; rfl), rfl⟩
def shrB (xs : List Int) (P : Int) (i k : Nat) : Bool := (fG xs i 3 != fG xs k 3) || ((P != 1 * 2 ^ (fG xs i 3).toNat) && (hasPass (fG xs i 5) || hasPass (fG xs k 5)))
theorem pow_ok2 {h : Int} (h0 : 0 ≤ h) (h1 : h ≤ 15) : decide (0 ≤ h ∧ h < ((64 : Nat) : Int)) = true ∧ i64ok (1 * 2 ^ h.toNat) = true := by
  have := pow_ok h0 h1
  rw [Bool.and_eq_true] at this
  exact this
set_option maxRecDepth 20000 in
set_option maxHeartbeats 4000000 in
theorem rshared_c (s : St) (gs : List Int) (hr : Rf s gs) (i k : Nat) (hi : i < s.n) (hk : k < s.n) (P : Int) :
    CallA Try.prog 57 [refA s.n s.m s.d, .int .i64 ((i : Int) + 1), .int .i64 ((k : Int) + 1), .int .i64 P] (refH s gs) (fun w H => w = .boo (shrB s.xs P i k) ∧ H = refH s gs) := by
  refine call_of_vc TYok mixedO Try.func57 rfl rfl (Nat.le_of_ble_eq_true rfl) ?_
  have hf := hr.good.rng.wf.few
  have hg := hr.len
  have hh := hr.good.h i hi
  have ri := hr.good.rng.r i hi
  have rk := hr.good.rng.r k hk
  have a0 : i64ok ((i : Int) + 1 - 1) = true := i64_of (by omega)
  have a1 : decide (0 ≤ (i : Int) + 1 - 1 ∧ (i : Int) + 1 - 1 < (s.n : Int)) = true := decide_eq_true (by omega)
  have c0 : i64ok ((k : Int) + 1 - 1) = true := i64_of (by omega)
  have c1 : decide (0 ≤ (k : Int) + 1 - 1 ∧ (k : Int) + 1 - 1 < (s.n : Int)) = true := decide_eq_true (by omega)
  have b : ∀ q o, q < s.n → o < 7 → gs.getD (0 + q * 9 + o) 0 = fG s.xs q o := fun q o hq ho => by rw [Nat.zero_add]; exact hr.same q o hq ho
  have po := pow_ok (h := gs.getD (0 + i * 9 + 3) 0) (by rw [b i 3 hi (by decide)]; exact hh.1) (by rw [b i 3 hi (by decide)]; exact hh.2)
  have ni : natOk .i64 (gs.getD (0 + i * 9 + 5) 0) = true := by rw [b i 5 hi (by decide)]; exact natOk_i64.2 ⟨ri.1, by omega⟩
  have nk : natOk .i64 (gs.getD (0 + k * 9 + 5) 0) = true := by rw [b k 5 hk (by decide)]; exact natOk_i64.2 ⟨rk.1, by omega⟩
  have e1 : (gs.getD (0 + i * 9 + 3) 0 != gs.getD (0 + k * 9 + 3) 0) = (fG s.xs i 3 != fG s.xs k 3) := by rw [b i 3 hi (by decide), b k 3 hk (by decide)]
  have e2 : (P != 1 * 2 ^ (gs.getD (0 + i * 9 + 3) 0).toNat) = (P != 1 * 2 ^ (fG s.xs i 3).toNat) := by rw [b i 3 hi (by decide)]
  have e3 : ((((gs.getD (0 + i * 9 + 5) 0).toNat &&& 2 : Nat) : Int) != 0) = hasPass (fG s.xs i 5) := by rw [b i 5 hi (by decide)]; rfl
  have e4 : ((((gs.getD (0 + k * 9 + 5) 0).toNat &&& 2 : Nat) : Int) != 0) = hasPass (fG s.xs k 5) := by rw [b k 5 hk (by decide)]; rfl
  (repeat (first | refine aC ?_ | refine ⟨fun _ => ?_, fun h => absurd h (by decide)⟩ | refine ⟨fun h => absurd h (by decide), fun _ => ?_⟩))
  refine cut_rule [(1, .int .i64 ((i : Int) + 1)), (2, .int .i64 ((k : Int) + 1)), (3, .int .i64 P), (4, .t (.a (.s (.ptr 2 0))))] (refX s gs) some (by exact wI) ?_
  (refine drawn_ruleS TYok mixedO [] (.quiet 0 [] (.quiet 1 [] (.quiet 2 [] (.quiet 3 [] (.quiet 4 [] (.quiet 5 [] (.quiet 6 [] (.quiet 7 [] (.quiet 8 [] (.quiet 9 [] (.quiet 10 [] (.quiet 11 [] (.two 12 13 [] [] (.make 13 [] (.make 14 [] (.make 15 [] .done))) (.make 12 [] (.make 14 [] (.make 15 [] .done)))))))))))))))) (by kernel_rfl) ?_)
  (repeat (first | refine aC ?_ | refine aK ?_ | refine ⟨fun _ => ?_, fun h => absurd h (by decide)⟩ | refine ⟨fun h => absurd h (by decide), fun _ => ?_⟩))
  rw [succ_k]
  refine And.intro (rec_z hi hg rfl rfl) ?_
  (repeat (first | refine aC ?_ | refine aK ?_ | refine ⟨fun _ => ?_, fun h => absurd h (by decide)⟩ | refine ⟨fun h => absurd h (by decide), fun _ => ?_⟩))
  rw [succ_k]
  refine And.intro (rec_z hk hg rfl rfl) ?_
  (repeat (first | refine aC ?_ | refine aK ?_ | refine ⟨fun _ => ?_, fun h => absurd h (by decide)⟩ | refine ⟨fun h => absurd h (by decide), fun _ => ?_⟩))
  refine And.intro ?_ ?_
  · skip
    (repeat (first | refine aC ?_ | refine aK ?_ | refine ⟨fun _ => ?_, fun h => absurd h (by decide)⟩ | refine ⟨fun h => absurd h (by decide), fun _ => ?_⟩))
    by_cases g1 : (fG s.xs i 3 != fG s.xs k 3) = true
    · have q1 := e1.trans g1
      (first | refine brTT (q1) ?_ | refine brTF (q1) ?_ | refine brFT (q1) ?_ | refine brFF (q1) ?_)
      (repeat (first | refine aC ?_ | refine aK ?_ | refine ⟨fun _ => ?_, fun h => absurd h (by decide)⟩ | refine ⟨fun h => absurd h (by decide), fun _ => ?_⟩))
      exact ⟨some, .boo true, refH s gs, by exact wI, congrArg AV.boo (by unfold shrB; rw [g1]; rfl), rfl⟩
    · have g1 : (fG s.xs i 3 != fG s.xs k 3) = false := by simpa using g1
      have q1 := e1.trans g1
      (first | refine brTT (q1) ?_ | refine brTF (q1) ?_ | refine brFT (q1) ?_ | refine brFF (q1) ?_)
      (repeat (first | refine aC ?_ | refine aK ?_ | refine ⟨fun _ => ?_, fun h => absurd h (by decide)⟩ | refine ⟨fun h => absurd h (by decide), fun _ => ?_⟩))
      (try (refine And.intro po ?_))
      (repeat (first | refine aC ?_ | refine aK ?_ | refine ⟨fun _ => ?_, fun h => absurd h (by decide)⟩ | refine ⟨fun h => absurd h (by decide), fun _ => ?_⟩))
      by_cases g2 : (P != 1 * 2 ^ (fG s.xs i 3).toNat) = true
      · have q2 := e2.trans g2
        (first | refine brTT (q2) ?_ | refine brTF (q2) ?_ | refine brFT (q2) ?_ | refine brFF (q2) ?_)
        (repeat (first | refine aC ?_ | refine aK ?_ | refine ⟨fun _ => ?_, fun h => absurd h (by decide)⟩ | refine ⟨fun h => absurd h (by decide), fun _ => ?_⟩))
        (try (refine And.intro (and_t ni rfl) ?_))
        (repeat (first | refine aC ?_ | refine aK ?_ | refine ⟨fun _ => ?_, fun h => absurd h (by decide)⟩ | refine ⟨fun h => absurd h (by decide), fun _ => ?_⟩))
        by_cases g3 : hasPass (fG s.xs i 5) = true
        · have q3 := e3.trans g3
          (first | refine brTT (q3) ?_ | refine brTF (q3) ?_ | refine brFT (q3) ?_ | refine brFF (q3) ?_)
          (repeat (first | refine aC ?_ | refine aK ?_ | refine ⟨fun _ => ?_, fun h => absurd h (by decide)⟩ | refine ⟨fun h => absurd h (by decide), fun _ => ?_⟩))
          exact ⟨some, .boo true, refH s gs, by exact wI, congrArg AV.boo (by unfold shrB; rw [g1, g2, g3]; rfl), rfl⟩
        · have g3 : hasPass (fG s.xs i 5) = false := by simpa using g3
          have q3 := e3.trans g3
          (first | refine brTT (q3) ?_ | refine brTF (q3) ?_ | refine brFT (q3) ?_ | refine brFF (q3) ?_)
          (repeat (first | refine aC ?_ | refine aK ?_ | refine ⟨fun _ => ?_, fun h => absurd h (by decide)⟩ | refine ⟨fun h => absurd h (by decide), fun _ => ?_⟩))
          (try (refine And.intro (and_t nk rfl) ?_))
          (repeat (first | refine aC ?_ | refine aK ?_ | refine ⟨fun _ => ?_, fun h => absurd h (by decide)⟩ | refine ⟨fun h => absurd h (by decide), fun _ => ?_⟩))
          exact ⟨some, .boo ((((gs.getD (0 + k * 9 + 5) 0).toNat &&& 2 : Nat) : Int) != 0), refH s gs, by exact wI, congrArg AV.boo (by unfold shrB; rw [g1, g2, g3, e4]; rfl), rfl⟩
      · have g2 : (P != 1 * 2 ^ (fG s.xs i 3).toNat) = false := by simpa using g2
        have q2 := e2.trans g2
        (first | refine brTT (q2) ?_ | refine brTF (q2) ?_ | refine brFT (q2) ?_ | refine brFF (q2) ?_)
        (repeat (first | refine aC ?_ | refine aK ?_ | refine ⟨fun _ => ?_, fun h => absurd h (by decide)⟩ | refine ⟨fun h => absurd h (by decide), fun _ => ?_⟩))
        exact ⟨some, .boo false, refH s gs, by exact wI, congrArg AV.boo (by unfold shrB; rw [g1, g2]; rfl), rfl⟩
  · skip
    (repeat (first | refine aC ?_ | refine aK ?_ | refine ⟨fun _ => ?_, fun h => absurd h (by decide)⟩ | refine ⟨fun h => absurd h (by decide), fun _ => ?_⟩))
    by_cases g1 : (fG s.xs i 3 != fG s.xs k 3) = true
    · have q1 := e1.trans g1
      (first | refine brTT (q1) ?_ | refine brTF (q1) ?_ | refine brFT (q1) ?_ | refine brFF (q1) ?_)
      (repeat (first | refine aC ?_ | refine aK ?_ | refine ⟨fun _ => ?_, fun h => absurd h (by decide)⟩ | refine ⟨fun h => absurd h (by decide), fun _ => ?_⟩))
      exact ⟨some, .boo true, refH s gs, by exact wI, congrArg AV.boo (by unfold shrB; rw [g1]; rfl), rfl⟩
    · have g1 : (fG s.xs i 3 != fG s.xs k 3) = false := by simpa using g1
      have q1 := e1.trans g1
      (first | refine brTT (q1) ?_ | refine brTF (q1) ?_ | refine brFT (q1) ?_ | refine brFF (q1) ?_)
      (repeat (first | refine aC ?_ | refine aK ?_ | refine ⟨fun _ => ?_, fun h => absurd h (by decide)⟩ | refine ⟨fun h => absurd h (by decide), fun _ => ?_⟩))
      (try (refine And.intro po ?_))
      (repeat (first | refine aC ?_ | refine aK ?_ | refine ⟨fun _ => ?_, fun h => absurd h (by decide)⟩ | refine ⟨fun h => absurd h (by decide), fun _ => ?_⟩))
      by_cases g2 : (P != 1 * 2 ^ (fG s.xs i 3).toNat) = true
      · have q2 := e2.trans g2
        (first | refine brTT (q2) ?_ | refine brTF (q2) ?_ | refine brFT (q2) ?_ | refine brFF (q2) ?_)
        (repeat (first | refine aC ?_ | refine aK ?_ | refine ⟨fun _ => ?_, fun h => absurd h (by decide)⟩ | refine ⟨fun h => absurd h (by decide), fun _ => ?_⟩))
        (try (refine And.intro (and_t ni rfl) ?_))
        (repeat (first | refine aC ?_ | refine aK ?_ | refine ⟨fun _ => ?_, fun h => absurd h (by decide)⟩ | refine ⟨fun h => absurd h (by decide), fun _ => ?_⟩))
        by_cases g3 : hasPass (fG s.xs i 5) = true
        · have q3 := e3.trans g3
          (first | refine brTT (q3) ?_ | refine brTF (q3) ?_ | refine brFT (q3) ?_ | refine brFF (q3) ?_)
          (repeat (first | refine aC ?_ | refine aK ?_ | refine ⟨fun _ => ?_, fun h => absurd h (by decide)⟩ | refine ⟨fun h => absurd h (by decide), fun _ => ?_⟩))
          exact ⟨some, .boo true, refH s gs, by exact wI, congrArg AV.boo (by unfold shrB; rw [g1, g2, g3]; rfl), rfl⟩
        · have g3 : hasPass (fG s.xs i 5) = false := by simpa using g3
          have q3 := e3.trans g3
          (first | refine brTT (q3) ?_ | refine brTF (q3) ?_ | refine brFT (q3) ?_ | refine brFF (q3) ?_)
          (repeat (first | refine aC ?_ | refine aK ?_ | refine ⟨fun _ => ?_, fun h => absurd h (by decide)⟩ | refine ⟨fun h => absurd h (by decide), fun _ => ?_⟩))
          (try (refine And.intro (and_t nk rfl) ?_))
          (repeat (first | refine aC ?_ | refine aK ?_ | refine ⟨fun _ => ?_, fun h => absurd h (by decide)⟩ | refine ⟨fun h => absurd h (by decide), fun _ => ?_⟩))
          exact ⟨some, .boo ((((gs.getD (0 + k * 9 + 5) 0).toNat &&& 2 : Nat) : Int) != 0), refH s gs, by exact wI, congrArg AV.boo (by unfold shrB; rw [g1, g2, g3, e4]; rfl), rfl⟩
      · have g2 : (P != 1 * 2 ^ (fG s.xs i 3).toNat) = false := by simpa using g2
        have q2 := e2.trans g2
        (first | refine brTT (q2) ?_ | refine brTF (q2) ?_ | refine brFT (q2) ?_ | refine brFF (q2) ?_)
        (repeat (first | refine aC ?_ | refine aK ?_ | refine ⟨fun _ => ?_, fun h => absurd h (by decide)⟩ | refine ⟨fun h => absurd h (by decide), fun _ => ?_⟩))
        exact ⟨some, .boo false, refH s gs, by exact wI, congrArg AV.boo (by unfold shrB; rw [g1, g2]; rfl), rfl⟩
def pairR (s : St) (P : Int) (v i k : Nat) : Bool := srvB s P (v : Int) i && srvB s P (v : Int) k && (fG s.xs i 2 != fG s.xs k 2) && shrB s.xs P i k
def rin (s : St) (P : Int) (v i out : Nat) : Nat → Nat
  | 0 => out
  | k + 1 => if pairR s P v i k = true then rin s P v i out k ||| 2 ^ v else rin s P v i out k
def rmid (s : St) (P : Int) (v out : Nat) : Nat → Nat
  | 0 => out
  | i + 1 => rin s P v i (rmid s P v out i) i
def rout (s : St) (P : Int) : Nat → Nat
  | 0 => 0
  | v + 1 => rmid s P v (rout s P v) s.n
theorem rin_bit (s : St) (P : Int) (v i out w : Nat) : ∀ c, (rin s P v i out c).testBit w = true ↔ out.testBit w = true ∨ (w = v ∧ ∃ k, k < c ∧ pairR s P v i k = true)
  | 0 => ⟨.inl, fun h => h.elim id fun ⟨_, _, h, _⟩ => absurd h (Nat.not_lt_zero _)⟩
  | c + 1 => by
    have ih := rin_bit s P v i out w c
    simp only [rin]
    split
    · rename_i hp
      rw [Nat.testBit_or, Bool.or_eq_true, ih, Nat.testBit_two_pow, decide_eq_true_eq]
      constructor
      · rintro ((h | ⟨h1, k, h2, h3⟩) | h)
        · exact .inl h
        · exact .inr ⟨h1, k, Nat.lt_succ_of_lt h2, h3⟩
        · exact .inr ⟨h.symm, c, Nat.lt_succ_self c, hp⟩
      · rintro (h | ⟨h1, k, h2, h3⟩)
        · exact .inl (.inl h)
        · exact .inr h1.symm
    · rename_i hp
      rw [ih]
      constructor
      · rintro (h | ⟨h1, k, h2, h3⟩)
        · exact .inl h
        · exact .inr ⟨h1, k, Nat.lt_succ_of_lt h2, h3⟩
      · rintro (h | ⟨h1, k, h2, h3⟩)
        · exact .inl h
        · rcases Nat.lt_succ_iff_lt_or_eq.1 h2 with h4 | rfl
          · exact .inr ⟨h1, k, h4, h3⟩
          · exact absurd h3 hp
theorem rmid_bit (s : St) (P : Int) (v out w : Nat) : ∀ c, (rmid s P v out c).testBit w = true ↔ out.testBit w = true ∨ (w = v ∧ ∃ i k, i < c ∧ k < i ∧ pairR s P v i k = true)
  | 0 => ⟨.inl, fun h => h.elim id fun ⟨_, _, _, h, _⟩ => absurd h (Nat.not_lt_zero _)⟩
  | c + 1 => by
    simp only [rmid]
    rw [rin_bit, rmid_bit s P v out w c]
    constructor
    · rintro ((h | ⟨h1, i, k, h2, h3⟩) | ⟨h1, k, h2, h3⟩)
      · exact .inl h
      · exact .inr ⟨h1, i, k, Nat.lt_succ_of_lt h2, h3⟩
      · exact .inr ⟨h1, c, k, Nat.lt_succ_self c, h2, h3⟩
    · rintro (h | ⟨h1, i, k, h2, h3, h4⟩)
      · exact .inl (.inl h)
      · rcases Nat.lt_succ_iff_lt_or_eq.1 h2 with h5 | rfl
        · exact .inl (.inr ⟨h1, i, k, h5, h3, h4⟩)
        · exact .inr ⟨h1, k, h3, h4⟩
theorem rout_bit (s : St) (P : Int) (w : Nat) : ∀ c, (rout s P c).testBit w = true ↔ w < c ∧ ∃ i k, i < s.n ∧ k < i ∧ pairR s P w i k = true
  | 0 => ⟨fun h => (by simp [rout] at h), fun ⟨h, _⟩ => absurd h (Nat.not_lt_zero _)⟩
  | c + 1 => by
    simp only [rout]
    rw [rmid_bit, rout_bit s P w c]
    constructor
    · rintro (⟨h1, h2⟩ | ⟨rfl, h2⟩)
      · exact ⟨Nat.lt_succ_of_lt h1, h2⟩
      · exact ⟨Nat.lt_succ_self w, h2⟩
    · rintro ⟨h1, h2⟩
      rcases Nat.lt_succ_iff_lt_or_eq.1 h1 with h3 | rfl
      · exact .inl ⟨h3, h2⟩
      · exact .inr ⟨rfl, h2⟩
theorem bit2 (r : Int) : hasPass r = r.toNat.testBit 1 := by
  unfold hasPass
  rw [Nat.testBit_eq_decide_div_mod_eq]
  have h : r.toNat &&& 2 = 2 * (r.toNat / 2 % 2) := by
    apply Nat.eq_of_testBit_eq
    intro j
    rw [Nat.testBit_and]
    match j with
    | 0 => simp [Nat.testBit_zero]
    | 1 => simp [Nat.testBit_succ, Nat.testBit_zero]
    | j + 2 => simp [Nat.testBit_succ, Nat.testBit_zero]
  rw [h, Bool.eq_iff_iff, bne_iff_ne, decide_eq_true_eq]
  omega
theorem shr_meet (xs : List Int) (P : Int) (i k : Nat) : ((fG xs i 2 != fG xs k 2) && shrB xs P i k) = meetB xs P i k := by
  have ho : ((((((fG xs i 5).toNat ||| (fG xs k 5).toNat : Nat) : Int).toNat &&& 2 : Nat) : Int) != 0) = (hasPass (fG xs i 5) || hasPass (fG xs k 5)) := by
    have := bit2 (((fG xs i 5).toNat ||| (fG xs k 5).toNat : Nat) : Int)
    unfold hasPass at this
    rw [this, Int.toNat_natCast, Nat.testBit_or, bit2, bit2]
  unfold meetB shrB
  rw [ho]
  unfold bne
  cases (fG xs i 2 == fG xs k 2) <;> cases (fG xs i 3 == fG xs k 3) <;> cases (P == 1 * 2 ^ (fG xs i 3).toNat) <;> cases (hasPass (fG xs i 5) || hasPass (fG xs k 5)) <;> rfl
theorem rout_could {s : St} (hs : Good s) (P : Int) : rout s P 16 = couldV s P := by
  apply Nat.eq_of_testBit_eq
  intro w
  rw [Bool.eq_iff_iff, rout_bit, couldV_bit]
  have key : ∀ i k, i < s.n → k < i → (pairR s P w i k = true ↔ keyOk s P i = true ∧ keyOk s P k = true ∧ pairB s P w i k) := fun i k hi hk => by
    have hk' : k < s.n := by omega
    unfold pairR pairB
    rw [srvB_key hi, srvB_key hk', Bool.and_assoc, shr_meet, hasV_bit (hs.rng.v i hi).1, hasV_bit (hs.rng.v k hk').1]
    simp only [Bool.and_eq_true, Int.toNat_natCast]
    constructor
    · rintro ⟨⟨⟨a, b⟩, c, d⟩, e⟩
      exact ⟨a, c, e, b, d⟩
    · rintro ⟨a, c, e, b, d⟩
      exact ⟨⟨⟨a, b⟩, c, d⟩, e⟩
  constructor
  · rintro ⟨_, i, k, h1, h2, h3⟩
    obtain ⟨x, y, z⟩ := (key i k h1 h2).1 h3
    exact ⟨i, k, h2, h1, x, y, z⟩
  · rintro ⟨i, k, h1, h2, x, y, z⟩
    refine ⟨?_, i, k, h2, h1, (key i k h2 h1).2 ⟨x, y, z⟩⟩
    have hv := hs.rng.v i h2
    have hb := z.2.1
    by_cases hw : w < 16
    · exact hw
    · exfalso
      have : (vN s.xs i).testBit w = false := Nat.testBit_lt_two_pow (Nat.lt_of_lt_of_le (show vN s.xs i < 2 ^ 16 by show (fG s.xs i 4).toNat < _; omega) (Nat.pow_le_pow_right (by decide) (by omega)))
      rw [this] at hb
      cases hb
end Go.Proofs.Ytlbgkfidpkbafaa
/- The specification's Could. -/
namespace Go.Proofs.Ytlbgkfidpkbafaa
open Go.RowKit
set_option linter.unusedSimpArgs false
set_option linter.unusedVariables false
theorem rin_lt (s : St) (P : Int) {v i out : Nat} (hv : v < 16) (h0 : out < 65536) : ∀ c, rin s P v i out c < 65536
  | 0 => h0
  | c + 1 => by
    simp only [rin]
    split
    · exact Nat.or_lt_two_pow (n := 16) (rin_lt s P hv h0 c) (Nat.pow_lt_pow_right (by decide) hv)
    · exact rin_lt s P hv h0 c
theorem rmid_lt (s : St) (P : Int) {v out : Nat} (hv : v < 16) (h0 : out < 65536) : ∀ c, rmid s P v out c < 65536
  | 0 => h0
  | c + 1 => rin_lt s P hv (rmid_lt s P hv h0 c) c
theorem rout_lt (s : St) (P : Int) : ∀ c, c ≤ 16 → rout s P c < 65536
  | 0, _ => (by decide : (0 : Nat) < 65536)
  | c + 1, h => rmid_lt s P (by omega) (rout_lt s P c (by omega)) s.n
theorem or_eq (out v : Nat) : (((((out : Nat) : Int).toNat ||| ((1 : Int) * 2 ^ ((v : Nat) : Int).toNat).toNat : Nat)) : Int) = ((out ||| 2 ^ v : Nat) : Int) := by
  rw [Int.one_mul, Int.toNat_natCast, Int.toNat_natCast]
  have : ((2 : Int) ^ v).toNat = 2 ^ v := by
    rw [show ((2 : Int) ^ v) = ((2 ^ v : Nat) : Int) by push_cast; rfl, Int.toNat_natCast]
  rw [this]
def RcPost (s : St) (gs : List Int) (P : Int) (w : AV) (H : AH) : Prop :=
  ((0 ≤ P ∧ P ≤ 65535) ∧ w = tupOf [.a (.s (.v (.int .i64 ((couldV s P : Nat) : Int)))), .a (.s (.v (.int .i64 0)))] ∧ H = refH s gs) ∨
  (¬ (0 ≤ P ∧ P ≤ 65535) ∧ w = tupOf [.a (.s (.v (.int .i64 0))), .a (.s (.v (.int .i64 2)))] ∧ H = refH s gs)
set_option maxRecDepth 20000 in
set_option maxHeartbeats 8000000 in
theorem rcould_c (s : St) (gs : List Int) (hr : Rf s gs) (P : Int) : CallA Try.prog 22 [refA s.n s.m s.d, .int .i64 P] (refH s gs) (RcPost s gs P) := by
  refine call_of_vc TYok mixedO Try.func22 rfl rfl (Nat.le_of_ble_eq_true rfl) ?_
  have hf := hr.good.rng.wf.few
  have hg := hr.len
  (repeat (first | refine aC ?_ | refine aK ?_ | refine ⟨fun _ => ?_, fun h => absurd h (by decide)⟩ | refine ⟨fun h => absurd h (by decide), fun _ => ?_⟩))
  by_cases hP : 0 ≤ P ∧ P ≤ 65535
  · have q1 : decide (P < 0) = false := decide_eq_false (by omega)
    have q2 : decide (P ≥ 65536) = false := decide_eq_false (by omega)
    (first | refine brTT (q1) ?_ | refine brTF (q1) ?_ | refine brFT (q1) ?_ | refine brFF (q1) ?_)
    (repeat (first | refine aC ?_ | refine aK ?_ | refine ⟨fun _ => ?_, fun h => absurd h (by decide)⟩ | refine ⟨fun h => absurd h (by decide), fun _ => ?_⟩))
    (first | refine brTT (q2) ?_ | refine brTF (q2) ?_ | refine brFT (q2) ?_ | refine brFF (q2) ?_)
    (repeat (first | refine aC ?_ | refine aK ?_ | refine ⟨fun _ => ?_, fun h => absurd h (by decide)⟩ | refine ⟨fun h => absurd h (by decide), fun _ => ?_⟩))
    refine loop_rule TYok mixedO (ι := Nat) (fun v => [(1, .int .i64 P), (2, .t (.a (.s (.ptr 2 0)))), (6, .int .i64 (rout s P v : Int)), (7, .int .i64 (v : Int))]) (fun _ => refX s gs) (fun v => v ≤ 16) (fun v => 16 - v) 0 (Nat.zero_le _) some (by exact wI) ?_
    rintro v hv
    (repeat (first | refine aC ?_ | refine aK ?_ | refine ⟨fun _ => ?_, fun h => absurd h (by decide)⟩ | refine ⟨fun h => absurd h (by decide), fun _ => ?_⟩))
    refine ⟨fun h => ?_, fun h => ?_⟩
    · have h := of_decide_eq_true h
      have hv' : v < 16 := by omega
      have hv2 : 0 ≤ (v : Int) ∧ (v : Int) ≤ 15 := by omega
      have b0 := rout_lt s P v (by omega)
      (repeat (first | refine aC ?_ | refine aK ?_ | refine ⟨fun _ => ?_, fun h => absurd h (by decide)⟩ | refine ⟨fun h => absurd h (by decide), fun _ => ?_⟩))
      refine loop_rule TYok mixedO (ι := Nat) (fun i => [(1, .int .i64 P), (2, .t (.a (.s (.ptr 2 0)))), (6, .int .i64 (rmid s P v (rout s P v) i : Int)), (7, .int .i64 (v : Int)), (8, .int .i64 ((i : Int) + 1))]) (fun _ => refX s gs) (fun i => i ≤ s.n) (fun i => s.n - i) 0 (Nat.zero_le _) some (by exact wI) ?_
      rintro i hi
      have b1 := rmid_lt s P (v := v) hv' b0 i
      (repeat (first | refine aC ?_ | refine aK ?_ | refine ⟨fun _ => ?_, fun h => absurd h (by decide)⟩ | refine ⟨fun h => absurd h (by decide), fun _ => ?_⟩))
      refine ⟨fun h => ?_, fun h => ?_⟩
      · have h := of_decide_eq_true h
        have hin : i < s.n := by omega
        (repeat (first | refine aC ?_ | refine aK ?_ | refine ⟨fun _ => ?_, fun h => absurd h (by decide)⟩ | refine ⟨fun h => absurd h (by decide), fun _ => ?_⟩))
        refine loop_rule TYok mixedO (ι := Nat) (fun k => [(1, .int .i64 P), (2, .t (.a (.s (.ptr 2 0)))), (6, .int .i64 (rin s P v i (rmid s P v (rout s P v) i) k : Int)), (7, .int .i64 (v : Int)), (8, .int .i64 ((i : Int) + 1)), (9, .int .i64 ((k : Int) + 1))]) (fun _ => refX s gs) (fun k => k ≤ i) (fun k => i - k) 0 (Nat.zero_le _) some (by exact wI) ?_
        rintro k hk
        have b2 := rin_lt s P (v := v) (i := i) hv' b1 k
        (repeat (first | refine aC ?_ | refine aK ?_ | refine ⟨fun _ => ?_, fun h => absurd h (by decide)⟩ | refine ⟨fun h => absurd h (by decide), fun _ => ?_⟩))
        refine ⟨fun h => ?_, fun h => ?_⟩
        · have h := of_decide_eq_true h
          have hki : k < i := by omega
          have hkn : k < s.n := by omega
          have a0 : i64ok ((i : Int) + 1 - 1) = true := i64_of (by omega)
          have a1 : decide (0 ≤ (i : Int) + 1 - 1 ∧ (i : Int) + 1 - 1 < (s.n : Int)) = true := decide_eq_true (by omega)
          have c0 : i64ok ((k : Int) + 1 - 1) = true := i64_of (by omega)
          have c1 : decide (0 ≤ (k : Int) + 1 - 1 ∧ (k : Int) + 1 - 1 < (s.n : Int)) = true := decide_eq_true (by omega)
          have f : ∀ q, q < s.n → gs.getD (0 + q * 9 + 2) 0 = fG s.xs q 2 := fun q hq => by rw [Nat.zero_add]; exact hr.same q 2 hq (by decide)
          have e3 : (gs.getD (0 + i * 9 + 2) 0 != gs.getD (0 + k * 9 + 2) 0) = (fG s.xs i 2 != fG s.xs k 2) := by rw [f i hin, f k hkn]
          have eR : rin s P v i (rmid s P v (rout s P v) i) (k + 1) = if pairR s P v i k = true then rin s P v i (rmid s P v (rout s P v) i) k ||| 2 ^ v else rin s P v i (rmid s P v (rout s P v) i) k := rfl
          have no : pairR s P v i k = false → (rin s P v i (rmid s P v (rout s P v) i) (k + 1) : Int) = (rin s P v i (rmid s P v (rout s P v) i) k : Int) := fun hp => by rw [eR, hp, if_neg (by decide)]
          (repeat (first | refine aC ?_ | refine ⟨fun _ => ?_, fun h => absurd h (by decide)⟩ | refine ⟨fun h => absurd h (by decide), fun _ => ?_⟩))
          refine Or.inr (cut_rule [(1, .int .i64 P), (2, .t (.a (.s (.ptr 2 0)))), (6, .int .i64 (rin s P v i (rmid s P v (rout s P v) i) k : Int)), (7, .int .i64 (v : Int)), (8, .int .i64 ((i : Int) + 1)), (9, .int .i64 ((k : Int) + 1))] (refX s gs) some (by exact wI) ?_)
          (refine drawn_rule TYok mixedO [] [(true, 0, []), (true, 1, []), (true, 2, []), (true, 3, []), (false, 4, []), (true, 5, []), (true, 6, []), (true, 7, []), (true, 8, []), (true, 9, []), (false, 10, []), (true, 11, []), (true, 12, []), (true, 13, []), (true, 14, []), (true, 15, []), (true, 16, []), (true, 17, []), (true, 18, []), (true, 19, []), (true, 20, []), (true, 21, []), (true, 22, []), (true, 23, []), (true, 24, []), (true, 25, []), (true, 26, []), (true, 27, []), (true, 28, []), (true, 29, []), (true, 30, []), (true, 31, []), (true, 32, []), (true, 33, []), (false, 34, []), (true, 35, [])] (by kernel_rfl) ?_)
          (repeat (first | refine aC ?_ | refine aK ?_ | refine ⟨fun _ => ?_, fun h => absurd h (by decide)⟩ | refine ⟨fun h => absurd h (by decide), fun _ => ?_⟩))
          (refine call_lift (rserves_c s gs hr (v : Int) hv2 i hin P hP) (fun i => match i with | 0 => some 0 | 1 => some 1 | _ => none) rfl rfl hI rfl rfl rfl ?_; rintro v H1 ⟨rfl, rfl⟩; refine ⟨⟨rfl, rfl, rfl, rfl⟩, ?_⟩; (try simp only [two]); (try simp only [AV.ren]); (try simp only [renT]); (try simp only [AT.ren]); (try simp only [A.ren]); (try (rw [ptr_ren]; rotate_left; exact rfl)); (try (rw [slc_ren]; rotate_left; exact rfl)); (try simp only [S.ren]))
          refine And.intro ?_ ?_
          · refine bkP ?_
            rfl
          (repeat (first | refine aC ?_ | refine aK ?_ | refine ⟨fun _ => ?_, fun h => absurd h (by decide)⟩ | refine ⟨fun h => absurd h (by decide), fun _ => ?_⟩))
          by_cases g1 : srvB s P (v : Int) i = true
          · (first | refine brTT (g1) ?_ | refine brTF (g1) ?_ | refine brFT (g1) ?_ | refine brFF (g1) ?_)
            (repeat (first | refine aC ?_ | refine aK ?_ | refine ⟨fun _ => ?_, fun h => absurd h (by decide)⟩ | refine ⟨fun h => absurd h (by decide), fun _ => ?_⟩))
            (refine call_lift (rserves_c s gs hr (v : Int) hv2 k hkn P hP) (fun i => match i with | 0 => some 0 | 1 => some 1 | _ => none) rfl rfl hI rfl rfl rfl ?_; rintro v H1 ⟨rfl, rfl⟩; refine ⟨⟨rfl, rfl, rfl, rfl⟩, ?_⟩; (try simp only [two]); (try simp only [AV.ren]); (try simp only [renT]); (try simp only [AT.ren]); (try simp only [A.ren]); (try (rw [ptr_ren]; rotate_left; exact rfl)); (try (rw [slc_ren]; rotate_left; exact rfl)); (try simp only [S.ren]))
            refine And.intro ?_ ?_
            · refine bkP ?_
              rfl
            (repeat (first | refine aC ?_ | refine aK ?_ | refine ⟨fun _ => ?_, fun h => absurd h (by decide)⟩ | refine ⟨fun h => absurd h (by decide), fun _ => ?_⟩))
            by_cases g2 : srvB s P (v : Int) k = true
            · (first | refine brTT (g2) ?_ | refine brTF (g2) ?_ | refine brFT (g2) ?_ | refine brFF (g2) ?_)
              (repeat (first | refine aC ?_ | refine aK ?_ | refine ⟨fun _ => ?_, fun h => absurd h (by decide)⟩ | refine ⟨fun h => absurd h (by decide), fun _ => ?_⟩))
              rw [succ_k]
              refine And.intro (fld_z (o := 2) (by decide) rfl hin hg) ?_
              (repeat (first | refine aC ?_ | refine aK ?_ | refine ⟨fun _ => ?_, fun h => absurd h (by decide)⟩ | refine ⟨fun h => absurd h (by decide), fun _ => ?_⟩))
              rw [succ_k]
              refine And.intro (fld_z (o := 2) (by decide) rfl hkn hg) ?_
              (repeat (first | refine aC ?_ | refine aK ?_ | refine ⟨fun _ => ?_, fun h => absurd h (by decide)⟩ | refine ⟨fun h => absurd h (by decide), fun _ => ?_⟩))
              by_cases g3 : (fG s.xs i 2 != fG s.xs k 2) = true
              · have q3 := e3.trans g3
                (first | refine brTT (q3) ?_ | refine brTF (q3) ?_ | refine brFT (q3) ?_ | refine brFF (q3) ?_)
                (repeat (first | refine aC ?_ | refine aK ?_ | refine ⟨fun _ => ?_, fun h => absurd h (by decide)⟩ | refine ⟨fun h => absurd h (by decide), fun _ => ?_⟩))
                (refine call_lift (rshared_c s gs hr i k hin hkn P) (fun i => match i with | 0 => some 0 | 1 => some 1 | _ => none) rfl rfl hI rfl rfl rfl ?_; rintro v H1 ⟨rfl, rfl⟩; refine ⟨⟨rfl, rfl, rfl, rfl⟩, ?_⟩; (try simp only [two]); (try simp only [AV.ren]); (try simp only [renT]); (try simp only [AT.ren]); (try simp only [A.ren]); (try (rw [ptr_ren]; rotate_left; exact rfl)); (try (rw [slc_ren]; rotate_left; exact rfl)); (try simp only [S.ren]))
                refine And.intro ?_ ?_
                · refine bkP ?_
                  rfl
                (repeat (first | refine aC ?_ | refine aK ?_ | refine ⟨fun _ => ?_, fun h => absurd h (by decide)⟩ | refine ⟨fun h => absurd h (by decide), fun _ => ?_⟩))
                by_cases g4 : shrB s.xs P i k = true
                · have hp : pairR s P v i k = true := by unfold pairR; rw [g1, g2, g3, g4]; rfl
                  have yes : (rin s P v i (rmid s P v (rout s P v) i) (k + 1) : Int) = (((((rin s P v i (rmid s P v (rout s P v) i) k : Nat) : Int).toNat ||| ((1 : Int) * 2 ^ ((v : Nat) : Int).toNat).toNat : Nat)) : Int) := by rw [or_eq, eR, if_pos hp]
                  have po := pow_ok (h := (v : Int)) hv2.1 hv2.2
                  have p2 : (1 : Int) * 2 ^ ((v : Nat) : Int).toNat = ((2 ^ v : Nat) : Int) := by rw [Int.one_mul, Int.toNat_natCast]; push_cast; rfl
                  have p3 : 2 ^ v < 2 ^ 16 := Nat.pow_lt_pow_right (by decide) hv'
                  have n1 : natOk .i64 ((rin s P v i (rmid s P v (rout s P v) i) k : Nat) : Int) = true := natOk_i64.2 ⟨by omega, by omega⟩
                  have n2 : natOk .i64 ((1 : Int) * 2 ^ ((v : Nat) : Int).toNat) = true := by rw [p2]; exact natOk_i64.2 (by generalize 2 ^ v = X at p3 ⊢; omega)
                  (first | refine brTT (g4) ?_ | refine brTF (g4) ?_ | refine brFT (g4) ?_ | refine brFF (g4) ?_)
                  (repeat (first | refine aC ?_ | refine aK ?_ | refine ⟨fun _ => ?_, fun h => absurd h (by decide)⟩ | refine ⟨fun h => absurd h (by decide), fun _ => ?_⟩))
                  (try (refine And.intro po ?_))
                  (repeat (first | refine aC ?_ | refine aK ?_ | refine ⟨fun _ => ?_, fun h => absurd h (by decide)⟩ | refine ⟨fun h => absurd h (by decide), fun _ => ?_⟩))
                  (try (refine And.intro (and_t n1 n2) ?_))
                  (repeat (first | refine aC ?_ | refine aK ?_ | refine ⟨fun _ => ?_, fun h => absurd h (by decide)⟩ | refine ⟨fun h => absurd h (by decide), fun _ => ?_⟩))
                  exact ⟨k + 1, hki, by omega, some, by simp only [yes]; exact wI⟩
                · have g4 : shrB s.xs P i k = false := by simpa using g4
                  have hp := no (by unfold pairR; rw [g1, g2, g3, g4]; rfl)
                  (first | refine brTT (g4) ?_ | refine brTF (g4) ?_ | refine brFT (g4) ?_ | refine brFF (g4) ?_)
                  (repeat (first | refine aC ?_ | refine aK ?_ | refine ⟨fun _ => ?_, fun h => absurd h (by decide)⟩ | refine ⟨fun h => absurd h (by decide), fun _ => ?_⟩))
                  exact ⟨k + 1, hki, by omega, some, by simp only [hp]; exact wI⟩
              · have g3 : (fG s.xs i 2 != fG s.xs k 2) = false := by simpa using g3
                have q3 := e3.trans g3
                have hp := no (by unfold pairR; rw [g1, g2, g3]; rfl)
                (first | refine brTT (q3) ?_ | refine brTF (q3) ?_ | refine brFT (q3) ?_ | refine brFF (q3) ?_)
                (repeat (first | refine aC ?_ | refine aK ?_ | refine ⟨fun _ => ?_, fun h => absurd h (by decide)⟩ | refine ⟨fun h => absurd h (by decide), fun _ => ?_⟩))
                exact ⟨k + 1, hki, by omega, some, by simp only [hp]; exact wI⟩
            · have g2 : srvB s P (v : Int) k = false := by simpa using g2
              have hp := no (by unfold pairR; rw [g1, g2]; rfl)
              (first | refine brTT (g2) ?_ | refine brTF (g2) ?_ | refine brFT (g2) ?_ | refine brFF (g2) ?_)
              (repeat (first | refine aC ?_ | refine aK ?_ | refine ⟨fun _ => ?_, fun h => absurd h (by decide)⟩ | refine ⟨fun h => absurd h (by decide), fun _ => ?_⟩))
              exact ⟨k + 1, hki, by omega, some, by simp only [hp]; exact wI⟩
          · have g1 : srvB s P (v : Int) i = false := by simpa using g1
            have hp := no (by unfold pairR; rw [g1]; rfl)
            (first | refine brTT (g1) ?_ | refine brTF (g1) ?_ | refine brFT (g1) ?_ | refine brFF (g1) ?_)
            (repeat (first | refine aC ?_ | refine aK ?_ | refine ⟨fun _ => ?_, fun h => absurd h (by decide)⟩ | refine ⟨fun h => absurd h (by decide), fun _ => ?_⟩))
            exact ⟨k + 1, hki, by omega, some, by simp only [hp]; exact wI⟩
        · have h := of_decide_eq_false h
          obtain rfl : k = i := by omega
          have eM : rmid s P v (rout s P v) (k + 1) = rin s P v k (rmid s P v (rout s P v) k) k := rfl
          (repeat (first | refine aC ?_ | refine aK ?_ | refine ⟨fun _ => ?_, fun h => absurd h (by decide)⟩ | refine ⟨fun h => absurd h (by decide), fun _ => ?_⟩))
          exact ⟨k + 1, hin, by omega, some, by simp only [eM]; exact wI⟩
      · have h := of_decide_eq_false h
        obtain rfl : i = s.n := by omega
        have eO : rout s P (v + 1) = rmid s P v (rout s P v) s.n := rfl
        (repeat (first | refine aC ?_ | refine aK ?_ | refine ⟨fun _ => ?_, fun h => absurd h (by decide)⟩ | refine ⟨fun h => absurd h (by decide), fun _ => ?_⟩))
        exact ⟨v + 1, hv', by omega, some, by simp only [eO]; exact wI⟩
    · have h := of_decide_eq_false h
      obtain rfl : v = 16 := by omega
      (repeat (first | refine aC ?_ | refine aK ?_ | refine ⟨fun _ => ?_, fun h => absurd h (by decide)⟩ | refine ⟨fun h => absurd h (by decide), fun _ => ?_⟩))
      rw [rout_could hr.good P]
      exact ⟨some, tupOf [.a (.s (.v (.int .i64 ((couldV s P : Nat) : Int)))), .a (.s (.v (.int .i64 0)))], refH s gs, by exact wI, .inl ⟨hP, rfl, rfl⟩⟩
  · by_cases h0 : P < 0
    · have q1 : decide (P < 0) = true := decide_eq_true h0
      (first | refine brTT (q1) ?_ | refine brTF (q1) ?_ | refine brFT (q1) ?_ | refine brFF (q1) ?_)
      (repeat (first | refine aC ?_ | refine aK ?_ | refine ⟨fun _ => ?_, fun h => absurd h (by decide)⟩ | refine ⟨fun h => absurd h (by decide), fun _ => ?_⟩))
      exact ⟨some, tupOf [.a (.s (.v (.int .i64 0))), .a (.s (.v (.int .i64 2)))], refH s gs, by exact wI, .inr ⟨hP, rfl, rfl⟩⟩
    · have q1 : decide (P < 0) = false := decide_eq_false h0
      have q2 : decide (P ≥ 65536) = true := decide_eq_true (by omega)
      (first | refine brTT (q1) ?_ | refine brTF (q1) ?_ | refine brFT (q1) ?_ | refine brFF (q1) ?_)
      (repeat (first | refine aC ?_ | refine aK ?_ | refine ⟨fun _ => ?_, fun h => absurd h (by decide)⟩ | refine ⟨fun h => absurd h (by decide), fun _ => ?_⟩))
      (first | refine brTT (q2) ?_ | refine brTF (q2) ?_ | refine brFT (q2) ?_ | refine brFF (q2) ?_)
      (repeat (first | refine aC ?_ | refine aK ?_ | refine ⟨fun _ => ?_, fun h => absurd h (by decide)⟩ | refine ⟨fun h => absurd h (by decide), fun _ => ?_⟩))
      exact ⟨some, tupOf [.a (.s (.v (.int .i64 0))), .a (.s (.v (.int .i64 2)))], refH s gs, by exact wI, .inr ⟨hP, rfl, rfl⟩⟩
end Go.Proofs.Ytlbgkfidpkbafaa
/- A number that no grant has. -/
namespace Go.Proofs.Ytlbgkfidpkbafaa
open Go.RowKit
set_option linter.unusedSimpArgs false
set_option linter.unusedVariables false
abbrev nilA : AT := .a (.s (.v (.slice none 0 0)))
set_option maxRecDepth 20000 in
theorem below_none (d : Int) (n : Nat) (xs : List Int) (m : Nat) (es : List Int) (no : Int) (hno : (decide (1 ≤ no) && decide (no ≤ (n : Int))) = false) : CallA Try.prog 29 [.t (.a (.s (.ptr 0 0))), .int .i64 no] (bookR false d n xs m es)
    (fun w H => w = tupOf [nilA, .a (.s (.v (.int .i64 6)))] ∧ H = bookR false d n xs m es) := by
  refine call_defer TYok mixedO Try.func29 rfl rfl (Nat.le_of_ble_eq_true rfl) (df_ok 77 rfl) ?_
  (repeat (first | refine aC ?_ | refine aK ?_ | refine ⟨fun _ => ?_, fun h => absurd h (by decide)⟩ | refine ⟨fun h => absurd h (by decide), fun _ => ?_⟩))
  refine And.intro ?_ ?_
  · exact ⟨rfl, rfl, rfl⟩
  (repeat (first | refine aC ?_ | refine aK ?_ | refine ⟨fun _ => ?_, fun h => absurd h (by decide)⟩ | refine ⟨fun h => absurd h (by decide), fun _ => ?_⟩))
  (refine call_liftE (find_f d n xs m es no hno) (fun i => match i with | 0 => some 0 | 1 => some 1 | 2 => some 2 | _ => none) rfl rfl hI rfl rfl rfl (fun _ _ h => h.elim) ?_; rintro pv H1 ⟨rfl, rfl⟩; refine ⟨⟨rfl, rfl, rfl⟩, ?_⟩)
  refine And.intro rfl (And.intro rfl (And.intro rfl ?_))
  exact ⟨some, tupOf [nilA, .a (.s (.v (.int .i64 6)))], bookR false d n xs m es, by exact wI, rfl, rfl⟩
set_option maxRecDepth 20000 in
theorem rBelow_none (s : St) (gs : List Int) (no : Int) (h : inB s no = false) : CallA Try.prog 48 [refA s.n s.m s.d, .int .i64 no] (refH s gs) (fun w H => w = tupOf [nilA, intA 6] ∧ H = refH s gs) := by
  refine call_of_vc TYok mixedO Try.func48 rfl rfl (Nat.le_of_ble_eq_true rfl) ?_
  have q0 : (!inB s no) = true := by rw [h]; rfl
  (repeat (first | refine aC ?_ | refine aK ?_ | refine ⟨fun _ => ?_, fun h => absurd h (by decide)⟩ | refine ⟨fun h => absurd h (by decide), fun _ => ?_⟩))
  (refine call_lift (rhas_c s gs no) (fun i => match i with | 0 => some 0 | 1 => some 1 | _ => none) rfl rfl hI rfl rfl rfl ?_; rintro v H1 ⟨rfl, rfl⟩; refine ⟨⟨rfl, rfl, rfl, rfl⟩, ?_⟩; (try simp only [two]); (try simp only [AV.ren]); (try simp only [renT]); (try simp only [AT.ren]); (try simp only [A.ren]); (try (rw [ptr_ren]; rotate_left; exact rfl)); (try (rw [slc_ren]; rotate_left; exact rfl)); (try simp only [S.ren]))
  (repeat (first | refine aC ?_ | refine aK ?_ | refine ⟨fun _ => ?_, fun h => absurd h (by decide)⟩ | refine ⟨fun h => absurd h (by decide), fun _ => ?_⟩))
  (first | refine brTT (q0) ?_ | refine brTF (q0) ?_ | refine brFT (q0) ?_ | refine brFF (q0) ?_)
  (repeat (first | refine aC ?_ | refine aK ?_ | refine ⟨fun _ => ?_, fun h => absurd h (by decide)⟩ | refine ⟨fun h => absurd h (by decide), fun _ => ?_⟩))
  exact ⟨some, tupOf [nilA, intA 6], refH s gs, by exact wI, rfl, rfl⟩
theorem same_nil : CallA Try.prog 49 [.t nilA, .t nilA] [] (fun w H => w = .boo true ∧ H = []) :=
  call_run TYok mixedO 40 20 (by kernel_rfl)
set_option maxRecDepth 20000 in
set_option maxHeartbeats 8000000 in
theorem grantL_none (s : St) (gs : List Int) (no : Int) (h : inB s no = false) : CallA Try.prog 20 [.t (.a (.s (.ptr 0 0))), ref3 s.n s.m s.d, .int .i64 no] (bkH s gs) (fun w H => w = .boo true ∧ H = bkH s gs) := by
  refine call_of_vc TYok mixedO Try.func20 rfl rfl (Nat.le_of_ble_eq_true rfl) ?_
  (repeat (first | refine aC ?_ | refine aK ?_ | refine ⟨fun _ => ?_, fun h => absurd h (by decide)⟩ | refine ⟨fun h => absurd h (by decide), fun _ => ?_⟩))
  (refine call_lift (get_none s.d s.n s.xs s.m s.es no h) (fun i => match i with | 0 => some 0 | 1 => some 1 | 2 => some 2 | _ => none) rfl rfl hI rfl rfl rfl ?_; rintro v H1 ⟨rfl, rfl⟩; refine ⟨⟨rfl, rfl, rfl, rfl⟩, ?_⟩; (try simp only [two]); (try simp only [AV.ren]); (try simp only [renT]); (try simp only [AT.ren]); (try simp only [A.ren]); (try (rw [ptr_ren]; rotate_left; exact rfl)); (try (rw [slc_ren]; rotate_left; exact rfl)); (try simp only [S.ren]))
  (repeat (first | refine aC ?_ | refine aK ?_ | refine ⟨fun _ => ?_, fun h => absurd h (by decide)⟩ | refine ⟨fun h => absurd h (by decide), fun _ => ?_⟩))
  (refine call_lift (rget_none s gs no h) (fun i => match i with | 0 => some 3 | 1 => some 4 | _ => none) rfl rfl hI rfl rfl rfl ?_; rintro v H1 ⟨rfl, rfl⟩; refine ⟨⟨rfl, rfl, rfl, rfl⟩, ?_⟩; (try simp only [two]); (try simp only [AV.ren]); (try simp only [renT]); (try simp only [AT.ren]); (try simp only [A.ren]); (try (rw [ptr_ren]; rotate_left; exact rfl)); (try (rw [slc_ren]; rotate_left; exact rfl)); (try simp only [S.ren]))
  (repeat (first | refine aC ?_ | refine aK ?_ | refine ⟨fun _ => ?_, fun h => absurd h (by decide)⟩ | refine ⟨fun h => absurd h (by decide), fun _ => ?_⟩))
  (refine call_lift (Stands_none s.d s.n s.xs s.m s.es no h) (fun i => match i with | 0 => some 0 | 1 => some 1 | 2 => some 2 | _ => none) rfl rfl hI rfl rfl rfl ?_; rintro v H1 ⟨rfl, rfl⟩; refine ⟨⟨rfl, rfl, rfl, rfl⟩, ?_⟩; (try simp only [two]); (try simp only [AV.ren]); (try simp only [renT]); (try simp only [AT.ren]); (try simp only [A.ren]); (try (rw [ptr_ren]; rotate_left; exact rfl)); (try (rw [slc_ren]; rotate_left; exact rfl)); (try simp only [S.ren]))
  (repeat (first | refine aC ?_ | refine aK ?_ | refine ⟨fun _ => ?_, fun h => absurd h (by decide)⟩ | refine ⟨fun h => absurd h (by decide), fun _ => ?_⟩))
  (refine call_lift (rStands_none s gs no h) (fun i => match i with | 0 => some 3 | 1 => some 4 | _ => none) rfl rfl hI rfl rfl rfl ?_; rintro v H1 ⟨rfl, rfl⟩; refine ⟨⟨rfl, rfl, rfl, rfl⟩, ?_⟩; (try simp only [two]); (try simp only [AV.ren]); (try simp only [renT]); (try simp only [AT.ren]); (try simp only [A.ren]); (try (rw [ptr_ren]; rotate_left; exact rfl)); (try (rw [slc_ren]; rotate_left; exact rfl)); (try simp only [S.ren]))
  (repeat (first | refine aC ?_ | refine aK ?_ | refine ⟨fun _ => ?_, fun h => absurd h (by decide)⟩ | refine ⟨fun h => absurd h (by decide), fun _ => ?_⟩))
  (refine call_lift (below_none s.d s.n s.xs s.m s.es no h) (fun i => match i with | 0 => some 0 | 1 => some 1 | 2 => some 2 | _ => none) rfl rfl hI rfl rfl rfl ?_; rintro v H1 ⟨rfl, rfl⟩; refine ⟨⟨rfl, rfl, rfl, rfl⟩, ?_⟩; (try simp only [two]); (try simp only [AV.ren]); (try simp only [renT]); (try simp only [AT.ren]); (try simp only [A.ren]); (try (rw [ptr_ren]; rotate_left; exact rfl)); (try (rw [slc_ren]; rotate_left; exact rfl)); (try simp only [S.ren]))
  (repeat (first | refine aC ?_ | refine aK ?_ | refine ⟨fun _ => ?_, fun h => absurd h (by decide)⟩ | refine ⟨fun h => absurd h (by decide), fun _ => ?_⟩))
  (refine call_lift (rBelow_none s gs no h) (fun i => match i with | 0 => some 3 | 1 => some 4 | _ => none) rfl rfl hI rfl rfl rfl ?_; rintro v H1 ⟨rfl, rfl⟩; refine ⟨⟨rfl, rfl, rfl, rfl⟩, ?_⟩; (try simp only [two]); (try simp only [AV.ren]); (try simp only [renT]); (try simp only [AT.ren]); (try simp only [A.ren]); (try (rw [ptr_ren]; rotate_left; exact rfl)); (try (rw [slc_ren]; rotate_left; exact rfl)); (try simp only [S.ren]))
  (repeat (first | refine aC ?_ | refine aK ?_ | refine ⟨fun _ => ?_, fun h => absurd h (by decide)⟩ | refine ⟨fun h => absurd h (by decide), fun _ => ?_⟩))
  (refine call_lift (same_nil) (fun i => match i with | 0 => none | _ => none) rfl rfl hI rfl rfl rfl ?_; rintro v H1 ⟨rfl, rfl⟩; refine ⟨⟨rfl, rfl, rfl, rfl⟩, ?_⟩; (try simp only [two]); (try simp only [AV.ren]); (try simp only [renT]); (try simp only [AT.ren]); (try simp only [A.ren]); (try (rw [ptr_ren]; rotate_left; exact rfl)); (try (rw [slc_ren]; rotate_left; exact rfl)); (try simp only [S.ren]))
  (repeat (first | refine aC ?_ | refine aK ?_ | refine ⟨fun _ => ?_, fun h => absurd h (by decide)⟩ | refine ⟨fun h => absurd h (by decide), fun _ => ?_⟩))
  exact ⟨some, .boo true, bkH s gs, by exact wI, rfl, rfl⟩
theorem grantL_any (s : St) (gs : List Int) (hr : Rf s gs) (no : Int) : CallA Try.prog 20 [.t (.a (.s (.ptr 0 0))), ref3 s.n s.m s.d, .int .i64 no] (bkH s gs) (fun w H => w = .boo true ∧ H = bkH s gs) := by
  by_cases h : inB s no = true
  · obtain ⟨k, rfl, hk⟩ := inB_k h
    exact grantL_c s gs hr k hk
  · exact grantL_none s gs no (by simpa using h)
end Go.Proofs.Ytlbgkfidpkbafaa
/- What is looked at is what the specification says. -/
namespace Go.Proofs.Ytlbgkfidpkbafaa
open Go.RowKit
set_option linter.unusedSimpArgs false
set_option linter.unusedVariables false
abbrev varN (X Y : Nat) (s : St) : Blk := ⟨true, true, 30, 1, .cells [.s (.slc X 0 s.n), .s (.slc Y 0 s.m), .s (.v (.int .i64 s.d))]⟩
def PlPost (ys : List Int) (N : Nat) (w : AV) (H : AH) : Prop := ∃ g, Rf (runS ys N) g ∧ w = tupOf [.a (.s (.ptr 1 0)), refN 4 5 (runS ys N).n (runS ys N).m (runS ys N).d, booA true] ∧ H = actsB ys :: heap1 true (runS ys N) ++ [gsB g, entB true (runS ys N).es]
set_option maxRecDepth 20000 in
set_option maxHeartbeats 16000000 in
theorem played_c (N : Nat) (ys : List Int) (hy : N * 11 = ys.length) (hN : N ≤ 40) (hk : ∀ j, j < N → 0 ≤ ys.getD (j * 11) 0) : CallA Try.prog 19 [.t (.a (.s (.slc 0 0 N)))] [actsB ys] (PlPost ys N) := by
  refine call_of_vc TYok mixedO Try.func19 rfl rfl (Nat.le_of_ble_eq_true rfl) ?_
  (repeat (first | refine aC ?_ | refine aK ?_ | refine ⟨fun _ => ?_, fun h => absurd h (by decide)⟩ | refine ⟨fun h => absurd h (by decide), fun _ => ?_⟩))
  (refine call_lift (new_c) (fun i => match i with | 0 => none | _ => none) rfl rfl hI rfl rfl rfl ?_; rintro v H1 ⟨rfl, rfl⟩; refine ⟨⟨rfl, rfl, rfl, rfl⟩, ?_⟩; (try simp only [two]); (try simp only [AV.ren]); (try simp only [renT]); (try simp only [AT.ren]); (try simp only [A.ren]); (try (rw [ptr_ren]; rotate_left; exact rfl)); (try (rw [slc_ren]; rotate_left; exact rfl)); (try simp only [S.ren]))
  (repeat (first | refine aC ?_ | refine aK ?_ | refine ⟨fun _ => ?_, fun h => absurd h (by decide)⟩ | refine ⟨fun h => absurd h (by decide), fun _ => ?_⟩))
  refine loop_rule TYok mixedO (ι := Nat × List Int) (fun q => [(0, .t (.a (.s (.slc 0 0 N)))), (3, .t (.a (.s (.ptr 7 0)))), (5, .t (.a (.s (.ptr 1 0)))), (6, .t (.a (.s (.ptr 4 0)))), (7, .boo true), (8, .int .i64 (q.1 : Int))]) (fun q => actsB ys :: heap1 true (runS ys q.1) ++ [varR (runS ys q.1), gsB q.2, entB true (runS ys q.1).es, boxZ]) (fun q => q.1 ≤ N ∧ Rf (runS ys q.1) q.2) (fun q => N - q.1) (0, []) ⟨Nat.zero_le _, Rf_0 ys⟩ (fun i => match i with | 0 => some 0 | 1 => some 2 | 4 => some 3 | 7 => some 1 | _ => none) (by exact wI) ?_
  rintro ⟨j, g⟩ ⟨hj, hr⟩
  dsimp only at hj hr ⊢
  (repeat (first | refine aC ?_ | refine aK ?_ | refine ⟨fun _ => ?_, fun h => absurd h (by decide)⟩ | refine ⟨fun h => absurd h (by decide), fun _ => ?_⟩))
  refine ⟨fun h => ?_, fun h => ?_⟩
  · have h := of_decide_eq_true h
    have hlt : j < N := by omega
    have h0 : 0 ≤ (acAt ys j).k := hk j hlt
    have e1 : 0 + ((j : Nat) : Int).toNat * ti35.size = j * 11 := by
      rw [siz35]
      simp
    (repeat (first | refine aC ?_ | refine ⟨fun _ => ?_, fun h => absurd h (by decide)⟩ | refine ⟨fun h => absurd h (by decide), fun _ => ?_⟩))
    refine cut_rule [(0, .t (.a (.s (.slc 0 0 N)))), (3, .t (.a (.s (.ptr 7 0)))), (5, .t (.a (.s (.ptr 1 0)))), (6, .t (.a (.s (.ptr 4 0)))), (8, .int .i64 (j : Int))] (actsB ys :: heap1 true (runS ys j) ++ [varR (runS ys j), gsB g, entB true (runS ys j).es, boxZ]) some (by exact wI) ?_
    (refine drawn_rule TYok mixedO [(1, 6), (2, 6), (3, 6), (4, 10)] [(true, 0, []), (true, 1, []), (true, 2, []), (true, 3, []), (true, 4, []), (true, 5, []), (false, 6, [1, 2, 3]), (true, 7, [1, 2, 3]), (true, 8, [1, 2, 3]), (true, 9, [1, 2, 3, 4]), (false, 10, [1, 2, 3, 4]), (true, 11, [1, 2, 3, 4])] (by kernel_rfl) ?_)
    (repeat (first | refine aC ?_ | refine aK ?_ | refine ⟨fun _ => ?_, fun h => absurd h (by decide)⟩ | refine ⟨fun h => absurd h (by decide), fun _ => ?_⟩))
    rw [e1]
    refine And.intro (rec11_t hlt hy rfl rfl) ?_
    (repeat (first | refine aC ?_ | refine aK ?_ | refine ⟨fun _ => ?_, fun h => absurd h (by decide)⟩ | refine ⟨fun h => absurd h (by decide), fun _ => ?_⟩))
    have hD := do_c (runS ys j) g hr (acAt ys j) h0
    obtain ⟨s', es'⟩ : ∃ s', (actS (runS ys j) (acAt ys j)).1 = s' := ⟨_, rfl⟩
    have hst : runS ys (j + 1) = s' := es'
    rw [es'] at hD
    clear es'
    (refine call_lift (hD) (fun i => match i with | 0 => some 1 | 1 => some 2 | 2 => some 3 | 3 => some 5 | 4 => some 6 | _ => none) rfl rfl hI rfl rfl rfl ?_)
    rintro v H1 ⟨g', hR', (⟨hs', hg', rfl, rfl⟩ | ⟨hs', hg', rfl, rfl⟩ | ⟨hs', hg', rfl, rfl⟩ | ⟨rfl, rfl⟩ | ⟨rfl, rfl⟩ | ⟨rfl, rfl⟩)⟩
    · refine ⟨⟨rfl, rfl, rfl, rfl⟩, ?_⟩
      subst hs' hg'
      ((try simp only [two]); (try simp only [AV.ren]); (try simp only [renT]); (try simp only [AT.ren]); (try simp only [A.ren]); (try (rw [ptr_ren]; rotate_left; exact rfl)); (try (rw [slc_ren]; rotate_left; exact rfl)); (try simp only [S.ren]))
      refine And.intro ?_ ?_
      · refine bkP ?_
        rfl
      (repeat (first | refine aC ?_ | refine aK ?_ | refine ⟨fun _ => ?_, fun h => absurd h (by decide)⟩ | refine ⟨fun h => absurd h (by decide), fun _ => ?_⟩))
      exact ⟨(j + 1, g'), ⟨hlt, by rw [hst]; exact hR'⟩, by show N - (j + 1) < N - j; omega, (fun i => match i with | 0 => some 0 | 1 => some 1 | 2 => some 2 | 3 => some 3 | 4 => some 4 | 5 => some 5 | 6 => some 6 | 7 => some 7 | _ => none), by dsimp only; simp only [hst]; exact wI⟩
    · refine ⟨⟨rfl, rfl, rfl, rfl⟩, ?_⟩
      subst hs' hg'
      ((try simp only [two]); (try simp only [AV.ren]); (try simp only [renT]); (try simp only [AT.ren]); (try simp only [A.ren]); (try (rw [ptr_ren]; rotate_left; exact rfl)); (try (rw [slc_ren]; rotate_left; exact rfl)); (try simp only [S.ren]))
      refine And.intro ?_ ?_
      · refine bkP ?_
        rfl
      (repeat (first | refine aC ?_ | refine aK ?_ | refine ⟨fun _ => ?_, fun h => absurd h (by decide)⟩ | refine ⟨fun h => absurd h (by decide), fun _ => ?_⟩))
      exact ⟨(j + 1, g'), ⟨hlt, by rw [hst]; exact hR'⟩, by show N - (j + 1) < N - j; omega, (fun i => match i with | 0 => some 0 | 1 => some 1 | 2 => some 8 | 3 => some 3 | 4 => some 4 | 5 => some 5 | 6 => some 6 | 7 => some 7 | _ => none), by dsimp only; simp only [hst]; exact wI⟩
    · refine ⟨⟨rfl, rfl, rfl, rfl⟩, ?_⟩
      subst hs' hg'
      ((try simp only [two]); (try simp only [AV.ren]); (try simp only [renT]); (try simp only [AT.ren]); (try simp only [A.ren]); (try (rw [ptr_ren]; rotate_left; exact rfl)); (try (rw [slc_ren]; rotate_left; exact rfl)); (try simp only [S.ren]))
      refine And.intro ?_ ?_
      · refine bkP ?_
        rfl
      (repeat (first | refine aC ?_ | refine aK ?_ | refine ⟨fun _ => ?_, fun h => absurd h (by decide)⟩ | refine ⟨fun h => absurd h (by decide), fun _ => ?_⟩))
      exact ⟨(j + 1, g'), ⟨hlt, by rw [hst]; exact hR'⟩, by show N - (j + 1) < N - j; omega, (fun i => match i with | 0 => some 0 | 1 => some 1 | 2 => some 2 | 3 => some 8 | 4 => some 4 | 5 => some 5 | 6 => some 6 | 7 => some 7 | _ => none), by dsimp only; simp only [hst]; exact wI⟩
    · refine ⟨⟨rfl, rfl, rfl, rfl⟩, ?_⟩
      ((try simp only [two]); (try simp only [AV.ren]); (try simp only [renT]); (try simp only [AT.ren]); (try simp only [A.ren]); (try (rw [ptr_ren]; rotate_left; exact rfl)); (try (rw [slc_ren]; rotate_left; exact rfl)); (try simp only [S.ren]))
      refine And.intro ?_ ?_
      · refine bkP ?_
        rfl
      (repeat (first | refine aC ?_ | refine aK ?_ | refine ⟨fun _ => ?_, fun h => absurd h (by decide)⟩ | refine ⟨fun h => absurd h (by decide), fun _ => ?_⟩))
      exact ⟨(j + 1, g'), ⟨hlt, by rw [hst]; exact hR'⟩, by show N - (j + 1) < N - j; omega, (fun i => match i with | 0 => some 0 | 1 => some 1 | 2 => some 2 | 3 => some 3 | 4 => some 4 | 5 => some 8 | 6 => some 9 | 7 => some 7 | _ => none), by dsimp only; simp only [hst]; exact wI⟩
    · refine ⟨⟨rfl, rfl, rfl, rfl⟩, ?_⟩
      ((try simp only [two]); (try simp only [AV.ren]); (try simp only [renT]); (try simp only [AT.ren]); (try simp only [A.ren]); (try (rw [ptr_ren]; rotate_left; exact rfl)); (try (rw [slc_ren]; rotate_left; exact rfl)); (try simp only [S.ren]))
      refine And.intro ?_ ?_
      · refine bkP ?_
        rfl
      (repeat (first | refine aC ?_ | refine aK ?_ | refine ⟨fun _ => ?_, fun h => absurd h (by decide)⟩ | refine ⟨fun h => absurd h (by decide), fun _ => ?_⟩))
      exact ⟨(j + 1, g'), ⟨hlt, by rw [hst]; exact hR'⟩, by show N - (j + 1) < N - j; omega, (fun i => match i with | 0 => some 0 | 1 => some 1 | 2 => some 8 | 3 => some 3 | 4 => some 4 | 5 => some 9 | 6 => some 10 | 7 => some 7 | _ => none), by dsimp only; simp only [hst]; exact wI⟩
    · refine ⟨⟨rfl, rfl, rfl, rfl⟩, ?_⟩
      ((try simp only [two]); (try simp only [AV.ren]); (try simp only [renT]); (try simp only [AT.ren]); (try simp only [A.ren]); (try (rw [ptr_ren]; rotate_left; exact rfl)); (try (rw [slc_ren]; rotate_left; exact rfl)); (try simp only [S.ren]))
      refine And.intro ?_ ?_
      · refine bkP ?_
        rfl
      (repeat (first | refine aC ?_ | refine aK ?_ | refine ⟨fun _ => ?_, fun h => absurd h (by decide)⟩ | refine ⟨fun h => absurd h (by decide), fun _ => ?_⟩))
      exact ⟨(j + 1, g'), ⟨hlt, by rw [hst]; exact hR'⟩, by show N - (j + 1) < N - j; omega, (fun i => match i with | 0 => some 0 | 1 => some 1 | 2 => some 2 | 3 => some 8 | 4 => some 4 | 5 => some 9 | 6 => some 10 | 7 => some 7 | _ => none), by dsimp only; simp only [hst]; exact wI⟩
  · have h := of_decide_eq_false h
    obtain rfl : j = N := by omega
    (repeat (first | refine aC ?_ | refine ⟨fun _ => ?_, fun h => absurd h (by decide)⟩ | refine ⟨fun h => absurd h (by decide), fun _ => ?_⟩))
    refine cut_rule [(3, .t (.a (.s (.ptr 7 0)))), (5, .t (.a (.s (.ptr 1 0)))), (6, .t (.a (.s (.ptr 4 0)))), (7, .boo true)] (actsB ys :: heap1 true (runS ys j) ++ [varR (runS ys j), gsB g, entB true (runS ys j).es, boxZ]) some (by exact wI) ?_
    (refine drawn_rule TYok mixedO [(7, 4)] [(true, 0, []), (true, 1, []), (true, 2, [7]), (true, 3, []), (false, 4, [7]), (true, 5, [7])] (by kernel_rfl) ?_)
    (repeat (first | refine aC ?_ | refine aK ?_ | refine ⟨fun _ => ?_, fun h => absurd h (by decide)⟩ | refine ⟨fun h => absurd h (by decide), fun _ => ?_⟩))
    exact ⟨(fun i => match i with | 0 => some 0 | 1 => some 1 | 2 => some 2 | 3 => some 3 | 4 => some 5 | 5 => some 6 | _ => none), tupOf [.a (.s (.ptr 1 0)), refN 4 5 (runS ys j).n (runS ys j).m (runS ys j).d, booA true], actsB ys :: heap1 true (runS ys j) ++ [gsB g, entB true (runS ys j).es], by exact wI, g, hr, rfl, rfl⟩
set_option maxRecDepth 20000 in
set_option maxHeartbeats 8000000 in
theorem law4 (N : Nat) (ys : List Int) (hy : N * 11 = ys.length) (hk : ∀ j, j < N → 0 ≤ ys.getD (j * 11) 0) (no P : Int) : CallA Try.prog 4 [.t (.a (.s (.slc 0 0 N))), .int .i64 no, .int .i64 P] [actsB ys] (fun w H => w = .boo true ∧ H = [actsB ys]) := by
  refine call_of_vc TYok mixedO Try.func4 rfl rfl (Nat.le_of_ble_eq_true rfl) ?_
  (repeat (first | refine aC ?_ | refine aK ?_ | refine ⟨fun _ => ?_, fun h => absurd h (by decide)⟩ | refine ⟨fun h => absurd h (by decide), fun _ => ?_⟩))
  (refine call_lift (few_c N ys) (fun i => match i with | 0 => some 0 | _ => none) rfl rfl hI rfl rfl rfl ?_; rintro v H1 ⟨rfl, rfl⟩; refine ⟨⟨rfl, rfl, rfl, rfl⟩, ?_⟩; (try simp only [two]); (try simp only [AV.ren]); (try simp only [renT]); (try simp only [AT.ren]); (try simp only [A.ren]); (try (rw [ptr_ren]; rotate_left; exact rfl)); (try (rw [slc_ren]; rotate_left; exact rfl)); (try simp only [S.ren]))
  (repeat (first | refine aC ?_ | refine aK ?_ | refine ⟨fun _ => ?_, fun h => absurd h (by decide)⟩ | refine ⟨fun h => absurd h (by decide), fun _ => ?_⟩))
  by_cases hN : N ≤ 40
  · have q1 : (!decide ((N : Int) ≤ 40)) = false := by rw [decide_eq_true (by omega)]; rfl
    (first | refine brTT (q1) ?_ | refine brTF (q1) ?_ | refine brFT (q1) ?_ | refine brFF (q1) ?_)
    (repeat (first | refine aC ?_ | refine aK ?_ | refine ⟨fun _ => ?_, fun h => absurd h (by decide)⟩ | refine ⟨fun h => absurd h (by decide), fun _ => ?_⟩))
    (refine call_lift (played_c N ys hy hN hk) (fun i => match i with | 0 => some 0 | _ => none) rfl rfl hI rfl rfl rfl ?_)
    rintro v H1 ⟨g, hr, rfl, rfl⟩
    refine ⟨⟨rfl, rfl, rfl, rfl⟩, ?_⟩
    ((try simp only [two]); (try simp only [AV.ren]); (try simp only [renT]); (try simp only [AT.ren]); (try simp only [A.ren]); (try (rw [ptr_ren]; rotate_left; exact rfl)); (try (rw [slc_ren]; rotate_left; exact rfl)); (try simp only [S.ren]))
    generalize runS ys N = s at *
    (repeat (first | refine aC ?_ | refine aK ?_ | refine ⟨fun _ => ?_, fun h => absurd h (by decide)⟩ | refine ⟨fun h => absurd h (by decide), fun _ => ?_⟩))
    (refine call_lift (grantL_any s g hr no) (fun i => match i with | 0 => some 1 | 1 => some 2 | 2 => some 3 | 3 => some 4 | 4 => some 5 | _ => none) rfl rfl hI rfl rfl rfl ?_; rintro v H1 ⟨rfl, rfl⟩; refine ⟨⟨rfl, rfl, rfl, rfl⟩, ?_⟩; (try simp only [two]); (try simp only [AV.ren]); (try simp only [renT]); (try simp only [AT.ren]); (try simp only [A.ren]); (try (rw [ptr_ren]; rotate_left; exact rfl)); (try (rw [slc_ren]; rotate_left; exact rfl)); (try simp only [S.ren]))
    (repeat (first | refine aC ?_ | refine aK ?_ | refine ⟨fun _ => ?_, fun h => absurd h (by decide)⟩ | refine ⟨fun h => absurd h (by decide), fun _ => ?_⟩))
    (refine call_lift (could_c s hr.good P) (fun i => match i with | 0 => some 1 | 1 => some 2 | 2 => some 3 | _ => none) rfl rfl hI rfl rfl rfl ?_)
    rintro v1 H1 (⟨hP, rfl, rfl⟩ | ⟨hP, rfl, rfl⟩)
    · refine ⟨⟨rfl, rfl, rfl, rfl⟩, ?_⟩
      ((try simp only [two]); (try simp only [AV.ren]); (try simp only [renT]); (try simp only [AT.ren]); (try simp only [A.ren]); (try (rw [ptr_ren]; rotate_left; exact rfl)); (try (rw [slc_ren]; rotate_left; exact rfl)); (try simp only [S.ren]))
      (repeat (first | refine aC ?_ | refine aK ?_ | refine ⟨fun _ => ?_, fun h => absurd h (by decide)⟩ | refine ⟨fun h => absurd h (by decide), fun _ => ?_⟩))
      (refine call_lift (rcould_c s g hr P) (fun i => match i with | 0 => some 4 | 1 => some 5 | _ => none) rfl rfl hI rfl rfl rfl ?_)
      rintro v2 H2 (⟨_, rfl, rfl⟩ | ⟨hQ, rfl, rfl⟩)
      · refine ⟨⟨rfl, rfl, rfl, rfl⟩, ?_⟩
        ((try simp only [two]); (try simp only [AV.ren]); (try simp only [renT]); (try simp only [AT.ren]); (try simp only [A.ren]); (try (rw [ptr_ren]; rotate_left; exact rfl)); (try (rw [slc_ren]; rotate_left; exact rfl)); (try simp only [S.ren]))
        have q : (((couldV s P : Nat) : Int) == ((couldV s P : Nat) : Int)) = true := by simp
        (repeat (first | refine aC ?_ | refine aK ?_ | refine ⟨fun _ => ?_, fun h => absurd h (by decide)⟩ | refine ⟨fun h => absurd h (by decide), fun _ => ?_⟩))
        (first | refine brTT (q) ?_ | refine brTF (q) ?_ | refine brFT (q) ?_ | refine brFF (q) ?_)
        (repeat (first | refine aC ?_ | refine aK ?_ | refine ⟨fun _ => ?_, fun h => absurd h (by decide)⟩ | refine ⟨fun h => absurd h (by decide), fun _ => ?_⟩))
        (refine call_lift (alive_c) (fun i => match i with | 0 => none | _ => none) rfl rfl hI rfl rfl rfl ?_; rintro v H1 ⟨rfl, rfl⟩; refine ⟨⟨rfl, rfl, rfl, rfl⟩, ?_⟩; (try simp only [two]); (try simp only [AV.ren]); (try simp only [renT]); (try simp only [AT.ren]); (try simp only [A.ren]); (try (rw [ptr_ren]; rotate_left; exact rfl)); (try (rw [slc_ren]; rotate_left; exact rfl)); (try simp only [S.ren]))
        (repeat (first | refine aC ?_ | refine aK ?_ | refine ⟨fun _ => ?_, fun h => absurd h (by decide)⟩ | refine ⟨fun h => absurd h (by decide), fun _ => ?_⟩))
        exact ⟨(fun i => match i with | 0 => some 0 | _ => none), .boo true, [actsB ys], by exact wI, rfl, rfl⟩
      · exact absurd hP hQ
    · refine ⟨⟨rfl, rfl, rfl, rfl⟩, ?_⟩
      ((try simp only [two]); (try simp only [AV.ren]); (try simp only [renT]); (try simp only [AT.ren]); (try simp only [A.ren]); (try (rw [ptr_ren]; rotate_left; exact rfl)); (try (rw [slc_ren]; rotate_left; exact rfl)); (try simp only [S.ren]))
      (repeat (first | refine aC ?_ | refine aK ?_ | refine ⟨fun _ => ?_, fun h => absurd h (by decide)⟩ | refine ⟨fun h => absurd h (by decide), fun _ => ?_⟩))
      (refine call_lift (rcould_c s g hr P) (fun i => match i with | 0 => some 4 | 1 => some 5 | _ => none) rfl rfl hI rfl rfl rfl ?_)
      rintro v2 H2 (⟨hQ, rfl, rfl⟩ | ⟨_, rfl, rfl⟩)
      · exact absurd hQ hP
      · refine ⟨⟨rfl, rfl, rfl, rfl⟩, ?_⟩
        ((try simp only [two]); (try simp only [AV.ren]); (try simp only [renT]); (try simp only [AT.ren]); (try simp only [A.ren]); (try (rw [ptr_ren]; rotate_left; exact rfl)); (try (rw [slc_ren]; rotate_left; exact rfl)); (try simp only [S.ren]))
        (repeat (first | refine aC ?_ | refine aK ?_ | refine ⟨fun _ => ?_, fun h => absurd h (by decide)⟩ | refine ⟨fun h => absurd h (by decide), fun _ => ?_⟩))
        (refine call_lift (alive_c) (fun i => match i with | 0 => none | _ => none) rfl rfl hI rfl rfl rfl ?_; rintro v H1 ⟨rfl, rfl⟩; refine ⟨⟨rfl, rfl, rfl, rfl⟩, ?_⟩; (try simp only [two]); (try simp only [AV.ren]); (try simp only [renT]); (try simp only [AT.ren]); (try simp only [A.ren]); (try (rw [ptr_ren]; rotate_left; exact rfl)); (try (rw [slc_ren]; rotate_left; exact rfl)); (try simp only [S.ren]))
        (repeat (first | refine aC ?_ | refine aK ?_ | refine ⟨fun _ => ?_, fun h => absurd h (by decide)⟩ | refine ⟨fun h => absurd h (by decide), fun _ => ?_⟩))
        exact ⟨(fun i => match i with | 0 => some 0 | _ => none), .boo true, [actsB ys], by exact wI, rfl, rfl⟩
  · have q1 : (!decide ((N : Int) ≤ 40)) = true := by rw [decide_eq_false (by omega)]; rfl
    (first | refine brTT (q1) ?_ | refine brTF (q1) ?_ | refine brFT (q1) ?_ | refine brFF (q1) ?_)
    (repeat (first | refine aC ?_ | refine aK ?_ | refine ⟨fun _ => ?_, fun h => absurd h (by decide)⟩ | refine ⟨fun h => absurd h (by decide), fun _ => ?_⟩))
    (refine call_lift (alive_c) (fun i => match i with | 0 => none | _ => none) rfl rfl hI rfl rfl rfl ?_; rintro v H1 ⟨rfl, rfl⟩; refine ⟨⟨rfl, rfl, rfl, rfl⟩, ?_⟩; (try simp only [two]); (try simp only [AV.ren]); (try simp only [renT]); (try simp only [AT.ren]); (try simp only [A.ren]); (try (rw [ptr_ren]; rotate_left; exact rfl)); (try (rw [slc_ren]; rotate_left; exact rfl)); (try simp only [S.ren]))
    (repeat (first | refine aC ?_ | refine aK ?_ | refine ⟨fun _ => ?_, fun h => absurd h (by decide)⟩ | refine ⟨fun h => absurd h (by decide), fun _ => ?_⟩))
    exact ⟨(fun i => match i with | 0 => some 0 | _ => none), .boo true, [actsB ys], by exact wI, rfl, rfl⟩
end Go.Proofs.Ytlbgkfidpkbafaa
