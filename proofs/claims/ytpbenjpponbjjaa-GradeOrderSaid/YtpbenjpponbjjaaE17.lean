/- Regions that draw their order: what yields at any time is taken first, what makes or writes memory comes up alone. -/
import Derived.Test.YtpbenjpponbjjaaE12
import Derived.OrdersHeld
set_option linter.unusedSimpArgs false
set_option linter.unusedVariables false
namespace Go.Proofs.Ytpbenjpponbjjaa.En
open Go.RowKit

section
variable {P : Program} {ops : Array Oper} {Q : Exit → Act → World → Prop} {md : Region.Mode} {S : Array Bool → World → Prop}
/-- whatever order is picked, with a condition on the world by what has come up -/
def wpAnyL (P : Program) (md : Region.Mode) (ops : Array Oper) (Q : Exit → Act → World → Prop) (S : Array Bool → World → Prop) : Nat → Array Bool → Act → World → Prop
  | 0, listed, a, w => Region.ready md ops listed = [] ∧ Q .normal a w
  | fuel + 1, listed, a, w =>
    (Region.ready md ops listed = [] → Q .normal a w) ∧
    ∀ i ∈ Region.ready md ops listed, wpOp P ops Q i (fun a' w' => S (listed.setIfInBounds i true) w' ∧ wpAnyL P md ops Q S fuel (listed.setIfInBounds i true) a' w') a w
theorem wpAny_of_L : ∀ (fuel : Nat) (listed : Array Bool) (a : Act) (w : World), wpAnyL P md ops Q S fuel listed a w → wpAny P md ops Q fuel listed a w
  | 0, _, _, _, h => h
  | fuel + 1, _, _, _, h => ⟨h.1, fun i hi => wpOp_mono (fun a' w' h' => wpAny_of_L fuel _ a' w' h'.2) (h.2 i hi)⟩
theorem wpAnyL_first {i : Nat} {oi : Oper} {v : Value} {W : List Nat} {Y : World → Prop} (hi : ops[i]? = some oi) (hsel : ∀ (j : Nat) (o : Oper) cs b, ops[j]? = some o → o.op ≠ .select cs b)
    (hQ : ∀ c a w, Q (.panic c) (a.put oi.dst v) w → Q (.panic c) a w)
    (hW : ∀ k ∈ W, ∃ ok, ops[k]? = some ok ∧ ∃ e ∈ ok.after, Region.binds md e = true ∧ (e.on = i ∨ e.on ∈ W))
    (hY : ∀ listed w', (∀ k ∈ W, listed.getD k false = false) → S listed w' → Y w')
    (hSi : ∀ listed w', S (listed.setIfInBounds i true) w' ↔ S listed w') :
    ∀ (fuel : Nat) (listed : Array Bool) (a : Act) (w : World),
      (∀ j oj, ops[j]? = some oj → j ≠ i → listed.getD j true = false → (∀ e ∈ oj.after, Region.binds md e = true → e.on ≠ i) → oi.apart ops oj = true) →
      i ∈ Region.ready md ops listed → (∀ k ∈ W, listed.getD k false = false) → YieldsIf P ops Y oi v a → S listed w →
      wpAnyL P md ops Q S fuel (listed.setIfInBounds i true) (a.put oi.dst v) w → wpAnyL P md ops Q S (fuel + 1) listed a w := by
  intro fuel
  induction fuel with
  | zero =>
    intro listed a w _ hr hWu hy hS H
    refine ⟨fun h => (by rw [h] at hr; cases hr), fun j hj => ?_⟩
    by_cases hji : j = i
    · subst hji
      exact hy.wpOp hi (hY listed w hWu hS) ⟨(hSi _ _).2 hS, H⟩
    · have := ready_mono hj hji
      rw [H.1] at this
      cases this
  | succ fuel ih =>
    intro listed a w hfree hr hWu hy hS H
    refine ⟨fun h => (by rw [h] at hr; cases hr), fun j hj => ?_⟩
    by_cases hji : j = i
    · subst hji
      exact hy.wpOp hi (hY listed w hWu hS) ⟨(hSi _ _).2 hS, H⟩
    · have h1 := H.2 j (ready_mono hj hji)
      obtain ⟨hjun, oj, hoj, hall⟩ := mem_ready.1 hj
      have hiun : listed.getD i false ≠ true := fun h0 => by
        have h1 := (mem_ready.1 hr).1
        rcases Nat.lt_or_ge i listed.size with h' | h'
        · simp [h'] at h0 h1
          rw [h0] at h1
          cases h1
        · simp [Array.getElem?_eq_none h'] at h1
      have hnot : ∀ e ∈ oj.after, Region.binds md e = true → e.on ≠ i := fun e he hb heq => by
        have h1 := hall e he hb
        rw [heq] at h1
        exact hiun h1
      have hjW : j ∉ W := fun hjW => by
        obtain ⟨ok, hok, e, he, hb, h⟩ := hW j hjW
        rw [hoj] at hok
        injection hok with hok
        subst hok
        rcases h with h | h
        · exact hnot e he hb h
        · have h1 := hall e he hb
          rw [hWu _ h] at h1
          cases h1
      have h2 := wpOp_putIf hoj (hfree j oj hoj hji hjun hnot) (fun cs b => hsel i oi cs b hi) (fun cs b => hsel j oj cs b hoj) hQ hy h1
      have hfree' : ∀ k ok, ops[k]? = some ok → k ≠ i → (listed.setIfInBounds j true).getD k true = false →
          (∀ e ∈ ok.after, Region.binds md e = true → e.on ≠ i) → oi.apart ops ok = true := fun k ok hk hki hun hno => by
        refine hfree k ok hk hki ?_ hno
        by_cases hjk : j = k
        · subst hjk
          exact hjun
        · rw [getD_set_ne true hjk] at hun
          exact hun
      have hWu' : ∀ k ∈ W, (listed.setIfInBounds j true).getD k false = false := fun k hk => by
        rw [getD_set_ne false (fun e => hjW (by rw [e]; exact hk))]
        exact hWu k hk
      have hc : (listed.setIfInBounds i true).setIfInBounds j true = (listed.setIfInBounds j true).setIfInBounds i true := Array.setIfInBounds_comm _ _ (Ne.symm hji)
      rw [hc] at h2
      refine wpOp_mono (fun a' w' h3 => ?_) h2
      have hS' := (hSi (listed.setIfInBounds j true) w').1 h3.2.1
      exact ⟨hS', ih (listed.setIfInBounds j true) a' w' hfree' (ready_mono hr (Ne.symm hji)) hWu' h3.1 hS' h3.2.2⟩
theorem wpAnyL_one {i : Nat} {fuel : Nat} {listed : Array Bool} {a : Act} {w : World} (hr : Region.ready md ops listed = [i])
    (h : wpOp P ops Q i (fun a' w' => S (listed.setIfInBounds i true) w' ∧ wpAnyL P md ops Q S fuel (listed.setIfInBounds i true) a' w') a w) : wpAnyL P md ops Q S (fuel + 1) listed a w := by
  refine ⟨fun h0 => (by rw [h0] at hr; cases hr), fun j hj => ?_⟩
  rw [hr] at hj
  have : j = i := by simpa using hj
  rw [this]
  exact h
theorem wpAnyL_done {listed : Array Bool} {a : Act} {w : World} (hr : Region.ready md ops listed = []) (h : Q .normal a w) : ∀ fuel, wpAnyL P md ops Q S fuel listed a w
  | 0 => ⟨hr, h⟩
  | _ + 1 => ⟨fun _ => h, by rw [hr]; simp⟩
end

/-- blocks struck out -/
def maskH (ok : Nat → Bool) : Nat → AH → AH
  | _, [] => []
  | i, ⟨a, b, c, d, e⟩ :: r => ⟨a, b, c, d, match ok i with | true => e | false => .dead⟩ :: maskH ok (i + 1) r
theorem maskH_get {ok : Nat → Bool} : ∀ {H : AH} {i q : Nat} {b : Blk}, (maskH ok i H)[q]? = some b → b.body.live = true → H[q]? = some b ∧ ok (i + q) = true
  | [], _, _, _, h, _ => by simp [maskH] at h
  | ⟨x, y, z, t, e⟩ :: r, i, 0, b, h, hl => by
    simp only [maskH, List.getElem?_cons_zero, Option.some.injEq] at h
    cases hk : ok i with
    | true =>
      rw [hk] at h
      exact ⟨by simpa using h, rfl⟩
    | false =>
      rw [hk] at h
      subst h
      cases hl
  | ⟨x, y, z, t, e⟩ :: r, i, q + 1, b, h, hl => by
    simp only [maskH, List.getElem?_cons_succ] at h
    obtain ⟨h1, h2⟩ := maskH_get h hl
    exact ⟨by simpa using h1, by rw [show i + (q + 1) = i + 1 + q by omega]; exact h2⟩
theorem maskH_of {ok : Nat → Bool} : ∀ {H : AH} {i q : Nat} {b : Blk}, H[q]? = some b → ok (i + q) = true → (maskH ok i H)[q]? = some b
  | [], _, _, _, h, _ => by simp at h
  | ⟨x, y, z, t, e⟩ :: r, i, 0, b, h, hk => by
    have hk : ok i = true := by rw [Nat.add_zero] at hk; exact hk
    simp only [maskH, List.getElem?_cons_zero, hk]
    exact h
  | ⟨x, y, z, t, e⟩ :: r, i, q + 1, b, h, hk => by
    simp only [maskH, List.getElem?_cons_succ]
    exact maskH_of (by simpa using h) (by rw [show i + 1 + q = i + (q + 1) by omega]; exact hk)

/-- blocks that must not be written -/
def roW (κ : Nat → Bool) : Nat → AH → AH
  | _, [] => []
  | i, ⟨a, b, c, d, e⟩ :: r => (match κ i with | true => ⟨a, b, c, d, e⟩ | false => ⟨false, b, c, d, e⟩) :: roW κ (i + 1) r
theorem roW_get {κ : Nat → Bool} : ∀ {H : AH} {i q : Nat} {b : Blk}, (roW κ i H)[q]? = some b → ∃ c, H[q]? = some c ∧ b = { c with rw := c.rw && κ (i + q) }
  | [], _, _, _, h => by simp [roW] at h
  | ⟨x, y, z, t, e⟩ :: r, i, 0, b, h => by
    simp only [roW, List.getElem?_cons_zero, Option.some.injEq] at h
    refine ⟨_, rfl, ?_⟩
    cases hk : κ i <;> rw [hk] at h <;> subst h <;> simp [hk]
  | ⟨x, y, z, t, e⟩ :: r, i, q + 1, b, h => by
    simp only [roW, List.getElem?_cons_succ] at h
    obtain ⟨c, h1, h2⟩ := roW_get h
    exact ⟨c, by simpa using h1, by rw [h2, show i + 1 + q = i + (q + 1) by omega]⟩
theorem roW_len {κ : Nat → Bool} : ∀ (H : AH) (i : Nat), (roW κ i H).length = H.length
  | [], _ => rfl
  | ⟨_, _, _, _, _⟩ :: r, i => by simp [roW, roW_len r]
def stays (κ : Nat → Bool) (i : Nat) (b : Blk) : Bool := b.body.live && !(b.rw && κ i)
/-- the memory behind it: what must not be written, as it was -/
def bkW (κ : Nat → Bool) : Nat → AH → AH → AH
  | _, _, [] => []
  | _, [], r => r
  | i, b :: r, c :: s => (match stays κ i b with | true => b | false => c) :: bkW κ (i + 1) r s
def bkOk (κ : Nat → Bool) : Nat → AH → AH → Bool
  | _, _, [] => true
  | i, [], c :: s => (c.rw || !c.body.live) && bkOk κ i [] s
  | i, b :: r, c :: s => (stays κ i b || (c.rw || !c.body.live)) && bkOk κ (i + 1) r s
theorem bkW_len {κ : Nat → Bool} : ∀ (H H' : AH) (i : Nat), (bkW κ i H H').length = H'.length
  | [], [], _ => rfl
  | _ :: _, [], _ => rfl
  | [], _ :: _, _ => rfl
  | _ :: r, _ :: s, i => by simp [bkW, bkW_len r s]
theorem bkW_get {κ : Nat → Bool} : ∀ {H H' : AH} {i q : Nat} {b : Blk}, bkOk κ i H H' = true → (bkW κ i H H')[q]? = some b → b.body.live = true → (H[q]? = some b ∧ stays κ (i + q) b = true) ∨ (H'[q]? = some b ∧ b.rw = true)
  | [], [], _, _, _, _, h, _ => by simp [bkW] at h
  | _ :: _, [], _, _, _, _, h, _ => by simp [bkW] at h
  | [], c :: s, i, 0, b, hk, h, hl => by
    simp only [bkW, List.getElem?_cons_zero, Option.some.injEq] at h
    subst h
    simp only [bkOk, Bool.and_eq_true, Bool.or_eq_true, Bool.not_eq_true', hl, Bool.true_eq_false, or_false] at hk
    exact .inr ⟨rfl, hk.1⟩
  | [], c :: s, i, q + 1, b, hk, h, hl => by
    simp only [bkW, List.getElem?_cons_succ] at h
    simp only [bkOk, Bool.and_eq_true] at hk
    have hs : (bkW κ i [] s)[q]? = some b := by
      cases s with
      | nil => simp at h
      | cons => exact h
    rcases bkW_get (i := i) hk.2 hs hl with h1 | h1
    · simp at h1
    · exact .inr (by simpa using h1)
  | x :: r, c :: s, i, 0, b, hk, h, hl => by
    simp only [bkW, List.getElem?_cons_zero, Option.some.injEq] at h
    simp only [bkOk, Bool.and_eq_true] at hk
    cases hs : stays κ i x with
    | true =>
      rw [hs] at h
      simp only at h
      subst h
      exact .inl ⟨rfl, by simpa using hs⟩
    | false =>
      rw [hs] at h hk
      simp only at h
      subst h
      simp only [Bool.false_or, Bool.or_eq_true, Bool.not_eq_true', hl, Bool.true_eq_false, or_false] at hk
      exact .inr ⟨rfl, hk.1⟩
  | x :: r, c :: s, i, q + 1, b, hk, h, hl => by
    simp only [bkW, List.getElem?_cons_succ] at h
    simp only [bkOk, Bool.and_eq_true] at hk
    have := bkW_get hk.2 h hl
    rw [show i + 1 + q = i + (q + 1) by omega] at this
    simpa using this
theorem bkW_stay {κ : Nat → Bool} : ∀ {H H' : AH} {i q : Nat} {b : Blk}, H[q]? = some b → stays κ (i + q) b = true → q < H'.length → (bkW κ i H H')[q]? = some b
  | [], _, _, _, _, h, _, _ => by simp at h
  | _ :: _, [], _, _, _, _, _, h => by simp at h
  | x :: r, c :: s, i, 0, b, h, hs, _ => by
    simp at h
    subst h
    have hs : stays κ i x = true := by simpa using hs
    simp [bkW, hs]
  | x :: r, c :: s, i, q + 1, b, h, hs, hl => by
    simp at h
    simp only [bkW, List.getElem?_cons_succ]
    exact bkW_stay h (by rw [show i + 1 + q = i + (q + 1) by omega]; exact hs) (by simpa using hl)

section
variable {C : Cx} {κ : Nat → Bool} {ρ ρ' : Pl} {H H' : AH} {w w' : World}
def roCx (κ : Nat → Bool) (ρ : Pl) (H : AH) (w : World) : Cx := ⟨w, fun k => w.heap.size ≤ k ∨ ∃ (i : Nat) (b : Blk) (a : Addr), H[i]? = some b ∧ b.body.live = true ∧ b.rw = true ∧ κ i = true ∧ (ρ i).addr = some a ∧ a.block = k, fun _ h => .inl h⟩
theorem ro_inv (hI : Inv C ρ H w) : Inv (roCx κ ρ H w) ρ (roW κ 0 H) w := by
  refine ⟨fun i b hb hl => ?_, fun i hi => hI.on i (by rw [roW_len] at hi; exact hi), fun i hi => hI.off i (by rw [roW_len] at hi; exact hi), fun i j bi bj hij hi hj li lj hr a a' ha ha' => ?_, fun i b hb hl hr a ha => ?_, rfl, rfl, rfl, Nat.le_refl _, fun _ _ _ => rfl⟩
  · obtain ⟨c, hc, rfl⟩ := roW_get hb
    have hB := hI.blk i c hc hl
    refine ⟨hB.on, fun hr => hB.rw ?_, hB.sz, hB.lt, hB.cell, fun hr => hB.own ?_, fun hr => hB.nil ?_⟩ <;> (simp only [Bool.and_eq_true] at hr; exact hr.1)
  · obtain ⟨ci, hci, rfl⟩ := roW_get hi
    obtain ⟨cj, hcj, rfl⟩ := roW_get hj
    simp only [Bool.and_eq_true] at hr
    exact hI.sep i j ci cj hij hci hcj li lj hr.1 a a' ha ha'
  · obtain ⟨c, hc, rfl⟩ := roW_get hb
    simp only [Bool.and_eq_true, Nat.zero_add] at hr
    exact .inr ⟨i, c, a, hc, hl, hr.1, hr.2, ha, rfl⟩
theorem ro_free (hI : Inv C ρ H w) {j : Nat} {b : Blk} (hb : H[j]? = some b) (hs : stays κ j b = true) {a : Addr} (ha : (ρ j).addr = some a) : ¬ (roCx κ ρ H w).own a.block := by
  simp only [stays, Bool.and_eq_true, Bool.not_eq_true', Bool.and_eq_false_iff] at hs
  rintro (h | ⟨i, c, a', hc, hl, hr, hk, ha', he⟩)
  · have := ((hI.blk j b hb hs.1).lt a ha).2
    omega
  · refine hI.sep i j c b (fun e => ?_) hc hb hl hs.1 hr a' a ha' ha he
    subst e
    rw [hb] at hc
    injection hc with hc
    subst hc
    rw [hr, hk] at hs
    simp at hs
theorem bk_inv (hI : Inv C ρ H w) (h1 : Inv (roCx κ ρ H w) ρ' H' w') (hX : ExtN H.length ρ ρ') (hl : H.length ≤ H'.length) (hk : bkOk κ 0 H H' = true) : Inv C ρ' (bkW κ 0 H H') w' := by
  have hext := hX.ext hI
  have hlt : ∀ {j : Nat} {b : Blk}, H[j]? = some b → j < H.length := fun h => (List.getElem?_eq_some_iff.1 h).1
  have heq : ∀ {j : Nat} {b : Blk}, H[j]? = some b → ρ' j = ρ j := fun h => hX _ (hlt h) (hI.on _ (hlt h))
  have lv : ∀ {j : Nat} {b : Blk}, stays κ j b = true → b.body.live = true := fun h => by
    simp only [stays, Bool.and_eq_true] at h
    exact h.1
  refine ⟨fun i b hb hlv => ?_, fun i hi => h1.on i (by rw [bkW_len] at hi; exact hi), fun i hi => h1.off i (by rw [bkW_len] at hi; exact hi), fun i j bi bj hij hi hj li lj hr a a' ha ha' => ?_, fun i b hb hlv hr a ha => ?_, h1.os.trans hI.os, h1.tape.trans hI.tape, h1.output.trans hI.output, Nat.le_trans hI.size h1.size, fun k hk' ho => ?_⟩
  · rcases bkW_get hk hb hlv with ⟨h2, h3⟩ | ⟨h2, h3⟩
    · rw [Nat.zero_add] at h3
      exact (hI.blk i b h2 hlv).keep hext h1.size fun a ha => h1.kept _ ((hI.blk i b h2 hlv).lt a ha).2 (ro_free hI h2 h3 ha)
    · exact h1.blk i b h2 hlv
  · rcases bkW_get hk hi li with ⟨p2, p3⟩ | ⟨p2, p3⟩ <;> rcases bkW_get hk hj lj with ⟨q2, q3⟩ | ⟨q2, q3⟩
    · rw [heq p2] at ha
      rw [heq q2] at ha'
      exact hI.sep i j bi bj hij p2 q2 li lj hr a a' ha ha'
    · rw [heq p2] at ha
      rw [Nat.zero_add] at p3
      have := h1.own j bj q2 lj q3 a' ha'
      exact fun e => ro_free hI p2 p3 ha (by rw [e]; exact this)
    · rw [heq q2] at ha'
      rw [Nat.zero_add] at q3
      have := h1.own i bi p2 li p3 a ha
      exact fun e => ro_free hI q2 q3 ha' (by rw [← e]; exact this)
    · exact h1.sep i j bi bj hij p2 q2 li lj hr a a' ha ha'
  · rcases bkW_get hk hb hlv with ⟨h2, h3⟩ | ⟨h2, h3⟩
    · rw [heq h2] at ha
      exact hI.own i b h2 hlv hr a ha
    · rcases h1.own i b h2 hlv h3 a ha with h | ⟨i', b', a', g1, g2, g3, g4, g5, g6⟩
      · exact C.all _ (Nat.le_trans hI.size h)
      · rw [← g6]
        exact hI.own i' b' g1 g2 g3 a' g5
  · rw [h1.kept k (Nat.lt_of_lt_of_le hk' hI.size) ?_]
    · exact hI.kept k hk' ho
    · rintro (h | ⟨i', b', a', g1, g2, g3, g4, g5, g6⟩)
      · have h : w.heap.size ≤ k := h
        have := hI.size
        omega
      · exact ho (by rw [← g6]; exact hI.own i' b' g1 g2 g3 a' g5)
end
end Go.Proofs.Ytpbenjpponbjjaa.En
