/- A contract at a call. -/
import Derived.Test.YtpbenjpponbjjaaE13
namespace Go.Proofs.Ytpbenjpponbjjaa.En
open Go.RowKit

def S.has (σ : Rn) : S → Bool
  | .v _ => true
  | .ptr b _ => (σ b).isSome
  | .slc b _ _ => (σ b).isSome
def hass (σ : Rn) : List S → Bool
  | [] => true
  | x :: l => x.has σ && hass σ l
def A.has (σ : Rn) : A → Bool
  | .s x => x.has σ
  | .fn _ a b => hass σ a && hass σ b
def hasA (σ : Rn) : List A → Bool
  | [] => true
  | x :: l => x.has σ && hasA σ l
def AT.has (σ : Rn) : AT → Bool
  | .a x => x.has σ
  | .agg l => hasA σ l
def hasT (σ : Rn) : List AT → Bool
  | [] => true
  | x :: l => x.has σ && hasT σ l
def AV.has (σ : Rn) : AV → Bool
  | .t x => x.has σ
  | .tup l => hasT σ l
  | .any => true
def Body.has (σ : Rn) : Body → Bool
  | .cells l => hasA σ l
  | .ptrs b _ => (σ b).isSome
  | _ => true
def hasB (σ : Rn) : AH → Bool
  | [] => true
  | b :: r => b.body.has σ && hasB σ r

section
variable {σ : Rn} {ρ ρ' : Pl} (hσ : ∀ b c, σ b = some c → (ρ b).on = true → ρ' c = ρ b)
include hσ
theorem S.up_ok {x : S} {u : Value} (h : SRel ρ x u) (hk : x.has σ = true) : SRel ρ' (x.ren σ) u := by
  cases x with
  | v y => exact h
  | ptr b o =>
    obtain ⟨c, hc⟩ := Option.isSome_iff_exists.1 hk
    simp only [S.ren, hc]
    show (ρ' c).on = true ∧ _
    rw [hσ b c hc h.1]
    exact h
  | slc b o n =>
    obtain ⟨c, hc⟩ := Option.isSome_iff_exists.1 hk
    simp only [S.ren, hc]
    show (ρ' c).on = true ∧ _
    rw [hσ b c hc h.1]
    exact h
theorem ups_ok : ∀ {l : List S} {us : List Value}, LRel (SRel ρ) l us → hass σ l = true → LRel (SRel ρ') (rens σ l) us
  | [], [], _, _ => trivial
  | [], _ :: _, h, _ => h.elim
  | _ :: _, [], h, _ => h.elim
  | x :: l, u :: us, h, hk => by
    simp only [hass, Bool.and_eq_true] at hk
    exact ⟨S.up_ok hσ h.1 hk.1, ups_ok h.2 hk.2⟩
theorem A.up_ok {x : A} {u : Value} (h : ARel ρ x u) (hk : x.has σ = true) : ARel ρ' (x.ren σ) u := by
  cases x with
  | s x => exact S.up_ok hσ h hk
  | fn f a b =>
    simp only [A.has, Bool.and_eq_true] at hk
    obtain ⟨fi, ca, e, h1, h2⟩ := h
    exact ⟨fi, ca, e, ups_ok hσ h1 hk.1, ups_ok hσ h2 hk.2⟩
theorem upA_ok : ∀ {l : List A} {us : List Value}, LRel (ARel ρ) l us → hasA σ l = true → LRel (ARel ρ') (renA σ l) us
  | [], [], _, _ => trivial
  | [], _ :: _, h, _ => h.elim
  | _ :: _, [], h, _ => h.elim
  | x :: l, u :: us, h, hk => by
    simp only [hasA, Bool.and_eq_true] at hk
    exact ⟨A.up_ok hσ h.1 hk.1, upA_ok h.2 hk.2⟩
theorem AT.up_ok {x : AT} {u : Value} (h : ATRel ρ x u) (hk : x.has σ = true) : ATRel ρ' (x.ren σ) u := by
  cases x with
  | a x => exact A.up_ok hσ h hk
  | agg l =>
    obtain ⟨cs, e, h1⟩ := h
    exact ⟨cs, e, upA_ok hσ h1 hk⟩
theorem upT_ok : ∀ {l : List AT} {us : List Value}, LRel (ATRel ρ) l us → hasT σ l = true → LRel (ATRel ρ') (renT σ l) us
  | [], [], _, _ => trivial
  | [], _ :: _, h, _ => h.elim
  | _ :: _, [], h, _ => h.elim
  | x :: l, u :: us, h, hk => by
    simp only [hasT, Bool.and_eq_true] at hk
    exact ⟨AT.up_ok hσ h.1 hk.1, upT_ok h.2 hk.2⟩
theorem AV.up_ok {x : AV} {u : Value} (h : VRel ρ x u) (hk : x.has σ = true) : VRel ρ' (x.ren σ) u := by
  cases x with
  | t x => exact AT.up_ok hσ h hk
  | tup l =>
    obtain ⟨vs, e, h1⟩ := h
    exact ⟨vs, e, upT_ok hσ h1 hk⟩
  | any => trivial
end
theorem hasA_get {σ : Rn} : ∀ {l : List A} {j : Nat} {x : A}, hasA σ l = true → l[j]? = some x → x.has σ = true
  | [], j, x, _, h => by simp at h
  | y :: l, 0, x, hk, h => by
    simp only [hasA, Bool.and_eq_true] at hk
    simp at h
    subst h
    exact hk.1
  | y :: l, j + 1, x, hk, h => by
    simp only [hasA, Bool.and_eq_true] at hk
    simp at h
    exact hasA_get hk.2 h
theorem hasB_get {σ : Rn} : ∀ {l : AH} {j : Nat} {b : Blk}, hasB σ l = true → l[j]? = some b → b.body.has σ = true
  | [], j, x, _, h => by simp at h
  | y :: l, 0, x, hk, h => by
    simp only [hasB, Bool.and_eq_true] at hk
    simp at h
    subst h
    exact hk.1
  | y :: l, j + 1, x, hk, h => by
    simp only [hasB, Bool.and_eq_true] at hk
    simp at h
    exact hasB_get hk.2 h
theorem renA_get' {σ : Rn} : ∀ {l : List A} {j : Nat} {x : A}, (renA σ l)[j]? = some x → ∃ y, l[j]? = some y ∧ x = y.ren σ
  | [], j, x, h => by simp [renA] at h
  | y :: l, 0, x, h => by
    simp [renA] at h
    exact ⟨y, by simp, h.symm⟩
  | y :: l, j + 1, x, h => by
    simp [renA] at h
    simpa using renA_get' h
theorem ren_get' {σ : Rn} {B : Body} {j : Nat} {x : A} (h : (B.ren σ).get j = some (true, x)) : ∃ y, B.get j = some (true, y) ∧ x = y.ren σ := by
  cases B with
  | dead => simp [Body.get, Body.ren] at h
  | cells l =>
    simp only [Body.get, Body.ren] at h ⊢
    cases hl : (renA σ l)[j]? with
    | none => simp [hl] at h
    | some y =>
      simp [hl] at h
      subst h
      obtain ⟨z, hz, e⟩ := renA_get' hl
      exact ⟨z, by simp [hz], e⟩
  | rows k xs =>
    simp only [Body.get, Body.ren] at h ⊢
    injection h with h
    injection h with h h'
    subst h'
    exact ⟨_, by rw [h], rfl⟩
  | recs p xs =>
    simp only [Body.get, Body.ren] at h ⊢
    injection h with h
    injection h with h h'
    subst h'
    exact ⟨_, by rw [h], rfl⟩
  | ptrs b os =>
    simp only [Body.ren] at h
    cases hs : σ b with
    | some c =>
      simp only [hs, Body.get] at h
      injection h with h
      injection h with h h'
      subst h'
      exact ⟨.s (.ptr b (os.getD j 0)), by simp only [Body.get, h], by simp only [A.ren, S.ren, hs]⟩
    | none =>
      simp only [hs, Body.get] at h
      by_cases hj : j < os.length
      · simp [hj] at h
        subst h
        exact ⟨.s (.ptr b (os.getD j 0)), by simp only [Body.get, decide_eq_true hj], by simp only [A.ren, S.ren, hs]⟩
      · simp [hj] at h
theorem has_get {σ : Rn} {B : Body} (hk : B.has σ = true) {j : Nat} {x : A} (h : B.get j = some (true, x)) : x.has σ = true := by
  cases B with
  | dead => simp [Body.get] at h
  | cells l =>
    simp only [Body.get] at h
    cases hl : l[j]? with
    | none => simp [hl] at h
    | some y =>
      simp [hl] at h
      subst h
      exact hasA_get hk hl
  | rows k xs =>
    simp only [Body.get] at h
    injection h with h
    injection h with _ h'
    subst h'
    rfl
  | recs p xs =>
    simp only [Body.get] at h
    injection h with h
    injection h with _ h'
    subst h'
    rfl
  | ptrs b os =>
    simp only [Body.get] at h
    injection h with h
    injection h with _ h'
    subst h'
    exact hk
theorem BRel.up {σ : Rn} {ρ ρ' : Pl} (hσ : ∀ b c, σ b = some c → (ρ b).on = true → ρ' c = ρ b) {i j : Nat} {b : Blk} {w : World} (h : BRel ρ i b w) (hij : σ i = some j) (hk : b.body.has σ = true) : BRel ρ' j (b.ren σ) w := by
  have e := hσ i j hij h.on
  refine ⟨by rw [e]; exact h.on, by rw [e]; exact h.rw, by rw [e]; exact h.sz, by rw [e]; exact h.lt, ?_, ?_, by rw [e]; exact h.nil⟩
  · rw [e]
    intro q x hx
    obtain ⟨y, hy, rfl⟩ := ren_get' hx
    obtain ⟨a, u, g1, g2, g3⟩ := h.cell q y hy
    exact ⟨a, u, g1, g2, A.up_ok hσ g3 (has_get hk hy)⟩
  · rw [e]
    intro hr a ha
    obtain ⟨g1, arr, g2, g3, g4, g5⟩ := h.own hr a ha
    exact ⟨g1, arr, g2, g3, by simp only [Blk.ren, ren_len]; exact g4, fun hf => by simp only [Blk.ren, ren_len]; exact g5 hf⟩

/-- which of the callee's blocks that it may write is the caller's block j -/
def findT (σ : Rn) (j : Nat) : Nat → AH → Option Nat
  | _, [] => none
  | i, b :: r => match b.rw && (σ i == some j) with
    | true => some i
    | false => findT σ j (i + 1) r
theorem findT_some {σ : Rn} {j : Nat} : ∀ {H0 : AH} {i q : Nat}, findT σ j i H0 = some q → i ≤ q ∧ ∃ b, H0[q - i]? = some b ∧ b.rw = true ∧ σ q = some j
  | [], _, _, h => by cases h
  | b :: r, i, q, h => by
    unfold findT at h
    split at h
    · rename_i hb
      injection h with h
      subst h
      simp only [Bool.and_eq_true, beq_iff_eq] at hb
      exact ⟨Nat.le_refl _, b, by simp, hb.1, hb.2⟩
    · obtain ⟨h1, c, h2, h3⟩ := findT_some h
      refine ⟨by omega, c, ?_, h3⟩
      rw [show q - i = (q - (i + 1)) + 1 by omega, List.getElem?_cons_succ]
      exact h2
theorem findT_none {σ : Rn} {j : Nat} : ∀ {H0 : AH} {i : Nat}, findT σ j i H0 = none → ∀ (q : Nat) b, H0[q]? = some b → b.rw = true → σ (i + q) ≠ some j
  | [], _, _, q, b, h, _ => by simp at h
  | c :: r, i, h, q, b, hb, hr => by
    unfold findT at h
    split at h
    · cases h
    · rename_i hc
      cases q with
      | zero =>
        simp at hb
        subst hb
        simp [hr] at hc
        exact hc
      | succ q =>
        simp at hb
        have := findT_none h q b hb hr
        rwa [show i + 1 + q = i + (q + 1) by omega] at this
/-- the caller's memory behind the call: the blocks that the callee may write, as it left them -/
def mergeJ (σ σ' : Rn) (H0 H1 : AH) : Nat → AH → AH
  | _, [] => []
  | j, b :: r => (match findT σ j 0 H0 with
    | some i => match H1[i]? with
      | some c => c.ren σ'
      | none => b
    | none => b) :: mergeJ σ σ' H0 H1 (j + 1) r
theorem mergeJ_length {σ σ' : Rn} {H0 H1 : AH} : ∀ {H : AH} {j : Nat}, (mergeJ σ σ' H0 H1 j H).length = H.length
  | [], _ => rfl
  | _ :: r, j => by simp [mergeJ, mergeJ_length (H := r)]
theorem mergeJ_get {σ σ' : Rn} {H0 H1 : AH} : ∀ {H : AH} {j q : Nat} {b : Blk}, H[q]? = some b → (mergeJ σ σ' H0 H1 j H)[q]? = some (match findT σ (j + q) 0 H0 with
    | some i => match H1[i]? with
      | some c => c.ren σ'
      | none => b
    | none => b)
  | [], _, _, _, h => by simp at h
  | c :: r, j, 0, b, h => by
    simp at h
    subst h
    simp [mergeJ]
  | c :: r, j, q + 1, b, h => by
    simp at h
    have := mergeJ_get (σ := σ) (σ' := σ') (H0 := H0) (H1 := H1) (j := j + 1) h
    rw [show j + 1 + q = j + (q + 1) by omega] at this
    simpa [mergeJ] using this
def rwSome (σ : Rn) : Nat → AH → Bool
  | _, [] => true
  | i, b :: r => (!b.rw || (σ i).isSome) && rwSome σ (i + 1) r
theorem rwSome_get {σ : Rn} : ∀ {H0 : AH} {i q : Nat} {b : Blk}, rwSome σ i H0 = true → H0[q]? = some b → b.rw = true → ∃ j, σ (i + q) = some j
  | [], _, _, _, _, h, _ => by simp at h
  | c :: r, i, 0, b, h, hb, hr => by
    simp only [rwSome, Bool.and_eq_true] at h
    simp at hb
    subst hb
    simp [hr] at h
    exact Option.isSome_iff_exists.1 h.1
  | c :: r, i, q + 1, b, h, hb, hr => by
    simp only [rwSome, Bool.and_eq_true] at h
    simp at hb
    have := rwSome_get h.2 hb hr
    rwa [show i + 1 + q = i + (q + 1) by omega] at this
/-- the blocks that were handed over to be written are still the callee's own, or forgotten -/
def backOk : AH → AH → Bool
  | [], _ => true
  | b :: r, c :: s => (!b.rw || (c.rw || !c.body.live)) && backOk r s
  | _ :: _, [] => false
theorem backOk_get : ∀ {H0 H1 : AH} {i : Nat} {b c : Blk}, backOk H0 H1 = true → H0[i]? = some b → H1[i]? = some c → b.rw = true → c.body.live = true → c.rw = true
  | [], _, _, _, _, _, h, _, _, _ => by simp at h
  | b :: r, [], _, _, _, h, _, _, _, _ => by simp [backOk] at h
  | b :: r, c :: s, 0, x, y, h, hx, hy, hr, hl => by
    simp only [backOk, Bool.and_eq_true] at h
    simp at hx hy
    subst hx hy
    simpa [hr, hl] using h.1
  | b :: r, c :: s, i + 1, x, y, h, hx, hy, hr, hl => by
    simp only [backOk, Bool.and_eq_true] at h
    simp at hx hy
    exact backOk_get h.2 hx hy hr hl

def after (σ : Rn) (H0 H H1 : AH) : AH := mergeJ σ (up σ H0.length H.length) H0 H1 0 H ++ renB (up σ H0.length H.length) (H1.drop H0.length)

theorem call_liftE {P : Program} {f : FuncId} {args args0 : List AV} {H H0 : AH} {R K : AV → AH → Prop} {RP KP : Value → AH → Prop} (h : CallE P f args0 H0 R RP) (σ : Rn) (ha : args = renL σ args0) (hk : okL σ H0.length args0 = true) (hh : HeapW σ H0.length H 0 H0) (hj : injB σ H0 = true) (hg : rngB σ H.length H0.length = true) (hrs : rwSome σ 0 H0 = true)
    (hK : ∀ v H1, R v H1 → (v.has (up σ H0.length H.length) = true ∧ hasB (up σ H0.length H.length) H1 = true ∧ allNew (H1.drop H0.length) = true ∧ backOk H0 H1 = true) ∧ K (v.ren (up σ H0.length H.length)) (after σ H0 H H1))
    (hKP : ∀ pv H1, RP pv H1 → (hasB (up σ H0.length H.length) H1 = true ∧ allNew (H1.drop H0.length) = true ∧ backOk H0 H1 = true) ∧ KP pv (after σ H0 H H1)) : CallE P f args H K KP := by
  refine ⟨h.1, fun C ρ w ra hI hra => ?_⟩
  subst ha
  -- the callee's view
  have hIw := heap_weak hI hj hg hh
  have hlt0 : ∀ {i : Nat} {b : Blk}, H0[i]? = some b → i < H0.length := fun h => (List.getElem?_eq_some_iff.1 h).1
  let foot : Nat → Prop := fun k => ∃ (i : Nat) (b : Blk) (a : Addr), H0[i]? = some b ∧ b.body.live = true ∧ b.rw = true ∧ (repl2 σ H0.length (szOf H0) ρ i).addr = some a ∧ a.block = k
  let C' : Cx := ⟨w, fun k => w.heap.size ≤ k ∨ foot k, fun k hk => .inl hk⟩
  have hI' : Inv C' (repl2 σ H0.length (szOf H0) ρ) H0 w := ⟨hIw.blk, hIw.on, hIw.off, hIw.sep, fun i b hb hl hr a ha => .inr ⟨i, b, a, hb, hl, hr, ha, rfl⟩, rfl, rfl, rfl, Nat.le_refl _, fun _ _ _ => rfl⟩
  have core : ∀ (H1 : AH) (ρ' : Pl) (w' : World), hasB (up σ H0.length H.length) H1 = true → allNew (H1.drop H0.length) = true → backOk H0 H1 = true → Inv C' ρ' H1 w' → ExtN H0.length (repl2 σ H0.length (szOf H0) ρ) ρ' → H0.length ≤ H1.length →
      ∃ ρ2, Inv C ρ2 (after σ H0 H H1) w' ∧ ExtN H.length ρ ρ2 ∧ H.length ≤ (after σ H0 H H1).length ∧ ∀ (v : AV) (u : Value), VRel ρ' v u → v.has (up σ H0.length H.length) = true → VRel ρ2 (v.ren (up σ H0.length H.length)) u := by
    intro H1 ρ' w' hv2 hv3 hv4 hI1 hX hlen
    -- where all lies
    let ρ2 : Pl := fun i => if i < H.length then ρ i else ρ' (i - H.length + H0.length)
    have h2o : ∀ {i : Nat}, i < H.length → ρ2 i = ρ i := fun h => if_pos h
    have h2n : ∀ {i : Nat}, H0.length ≤ i → ρ2 (H.length + (i - H0.length)) = ρ' i := fun {i} h => by
      show (if _ then _ else _) = _
      rw [if_neg (by omega)]
      congr 1
      omega
    have hρ' : ∀ {i j : Nat}, i < H0.length → σ i = some j → ρ' i = ρ j := fun {i j} hi hs => by
      have e := repl2_some (sz := szOf H0) (ρ := ρ) hi hs
      rw [hX i hi (by rw [e]; exact hI.on j (rngB_ok hg i hi j hs)), e]
    have hup : ∀ b c, up σ H0.length H.length b = some c → (ρ' b).on = true → ρ2 c = ρ' b := fun b c hbc _ => by
      unfold up at hbc
      split at hbc
      · rename_i hb
        rw [h2o (rngB_ok hg b hb c hbc)]
        exact (hρ' hb hbc).symm
      · rename_i hb
        injection hbc with hbc
        subst hbc
        exact h2n (by omega)
    have hext : Ext ρ ρ2 := fun i ho => by
      rcases Nat.lt_or_ge i H.length with h1 | h1
      · exact h2o h1
      · rw [hI.off i h1] at ho
        cases ho
    -- the callee's footprint among the caller's blocks
    have hfoot : ∀ k, foot k → ∃ (j : Nat) (b : Blk) (a : Addr), H[j]? = some b ∧ b.body.live = true ∧ b.rw = true ∧ (ρ j).addr = some a ∧ a.block = k ∧ findT σ j 0 H0 ≠ none := by
      rintro k ⟨i, b, a, hb, hl, hr, ha, hk'⟩
      obtain ⟨j, hsj⟩ := rwSome_get hrs hb hr
      rw [Nat.zero_add] at hsj
      rw [repl2_some (hlt0 hb) hsj] at ha
      have h := heapW_get hh i b hb
      rw [Nat.zero_add] at h
      unfold BlkW at h
      rw [hl, hsj] at h
      dsimp only at h
      split at h
      · exact h.elim
      · rename_i x hx
        obtain ⟨g1, _, _, _, _, g6⟩ := h
        refine ⟨j, x, a, hx, by rw [g6, ren_live]; exact hl, g1 hr, ha, hk', fun hn => ?_⟩
        have := findT_none hn i b hb hr
        rw [Nat.zero_add] at this
        exact this hsj
    -- where a block of the caller's comes from
    have hH1 : ∀ {i : Nat}, i < H0.length → ∃ c, H1[i]? = some c := fun {i} hi => ⟨_, List.getElem?_eq_getElem (by omega)⟩
    have orig : ∀ (j : Nat) b', (after σ H0 H H1)[j]? = some b' → b'.body.live = true → (j < H.length ∧ H[j]? = some b' ∧ findT σ j 0 H0 = none) ∨
        ∃ i c, H1[i]? = some c ∧ b' = c.ren (up σ H0.length H.length) ∧ up σ H0.length H.length i = some j ∧ c.body.live = true ∧ c.rw = true := by
      intro j b' hb' hl'
      unfold after at hb'
      rcases Nat.lt_or_ge j H.length with hjl | hjl
      · rw [List.getElem?_append_left (by rw [mergeJ_length]; exact hjl)] at hb'
        have e := mergeJ_get (σ := σ) (σ' := up σ H0.length H.length) (H0 := H0) (H1 := H1) (j := 0) (List.getElem?_eq_getElem hjl)
        rw [e, Nat.zero_add] at hb'
        injection hb' with hb'
        cases hf : findT σ j 0 H0 with
        | none =>
          rw [hf] at hb'
          dsimp only at hb'
          exact .inl ⟨hjl, by rw [List.getElem?_eq_getElem hjl, hb'], rfl⟩
        | some i =>
          rw [hf] at hb'
          dsimp only at hb'
          obtain ⟨_, b, h1, h2, h3⟩ := findT_some hf
          simp only [Nat.sub_zero] at h1
          obtain ⟨c, hc⟩ := hH1 (hlt0 h1)
          rw [hc] at hb'
          dsimp only at hb'
          subst hb'
          have hcl : c.body.live = true := by
            have : (c.body.ren (up σ H0.length H.length)).live = true := hl'
            rwa [ren_live] at this
          exact .inr ⟨i, c, hc, rfl, by unfold up; rw [if_pos (hlt0 h1)]; exact h3, hcl, backOk_get hv4 h1 hc h2 hcl⟩
      · rw [List.getElem?_append_right (by rw [mergeJ_length]; exact hjl), mergeJ_length, renB_get] at hb'
        cases hc : (H1.drop H0.length)[j - H.length]? with
        | none => rw [hc] at hb'; cases hb'
        | some c =>
          rw [hc] at hb'
          injection hb' with hb'
          subst hb'
          have hcl : c.body.live = true := by
            have : (c.body.ren (up σ H0.length H.length)).live = true := hl'
            rwa [ren_live] at this
          have hc' := hc
          rw [List.getElem?_drop] at hc'
          refine .inr ⟨_, c, hc', rfl, ?_, hcl, allNew_get hv3 hc hcl⟩
          unfold up
          rw [if_neg (by omega)]
          congr 1
          omega
    have oldFree : ∀ {j : Nat} {b : Blk} {a : Addr}, H[j]? = some b → b.body.live = true → findT σ j 0 H0 = none → (ρ j).addr = some a → ¬ C'.own a.block := by
      intro j b a hb hl hf ha ho
      rcases ho with ho | ho
      · have := ((hI.blk j b hb hl).lt a ha).2
        omega
      · obtain ⟨j', b', a', g1, g2, g3, g4, g5, g6⟩ := hfoot _ ho
        have hne : j' ≠ j := fun e => g6 (by rw [e]; exact hf)
        exact hI.sep j' j b' b hne g1 hb g2 hl g3 a' a g4 ha g5
    have hlen' : (after σ H0 H H1).length = H.length + (H1.length - H0.length) := by simp [after, mergeJ_length, renB_length]
    have hInv : Inv C ρ2 (after σ H0 H H1) w' := by
      refine ⟨?_, ?_, ?_, ?_, ?_, hI1.os.trans hI.os, hI1.tape.trans hI.tape, hI1.output.trans hI.output, Nat.le_trans hI.size hI1.size, ?_⟩
      · intro j b' hb' hl'
        rcases orig j b' hb' hl' with ⟨h1, h2, h3⟩ | ⟨i, c, h1, rfl, h3, h4, h5⟩
        · exact (hI.blk j b' h2 hl').keep hext hI1.size fun a ha => hI1.kept _ ((hI.blk j b' h2 hl').lt a ha).2 (oldFree h2 hl' h3 ha)
        · exact (hI1.blk i c h1 h4).up hup h3 (hasB_get hv2 h1)
      · intro i hi
        rcases Nat.lt_or_ge i H.length with h1 | h1
        · rw [h2o h1]
          exact hI.on i h1
        · show (if _ then _ else _ : Base).on = true
          rw [if_neg (by omega)]
          exact hI1.on _ (by omega)
      · intro i hi
        show (if _ then _ else _ : Base).on = false
        rw [if_neg (by omega)]
        exact hI1.off _ (by omega)
      · intro j1 j2 b1 b2 hj hb1 hb2 hl1 hl2 hr a a' ha ha'
        rcases orig j1 b1 hb1 hl1 with ⟨p1, p2, p3⟩ | ⟨i1, c1, p1, rfl, p3, p4, p5⟩ <;> rcases orig j2 b2 hb2 hl2 with ⟨q1, q2, q3⟩ | ⟨i2, c2, q1, rfl, q3, q4, q5⟩
        · rw [h2o p1] at ha
          rw [h2o q1] at ha'
          exact hI.sep j1 j2 b1 b2 hj p2 q2 hl1 hl2 hr a a' ha ha'
        · rw [h2o p1] at ha
          rw [hup i2 j2 q3 (hI1.blk i2 c2 q1 q4).on] at ha'
          have h1 := hI1.own i2 c2 q1 q4 q5 a' ha'
          have h2 := oldFree p2 hl1 p3 ha
          exact fun e => h2 (by rw [e]; exact h1)
        · rw [h2o q1] at ha'
          rw [hup i1 j1 p3 (hI1.blk i1 c1 p1 p4).on] at ha
          have h1 := hI1.own i1 c1 p1 p4 p5 a ha
          have h2 := oldFree q2 hl2 q3 ha'
          exact fun e => h2 (by rw [← e]; exact h1)
        · rw [hup i1 j1 p3 (hI1.blk i1 c1 p1 p4).on] at ha
          rw [hup i2 j2 q3 (hI1.blk i2 c2 q1 q4).on] at ha'
          refine hI1.sep i1 i2 c1 c2 (fun e => ?_) p1 q1 p4 q4 p5 a a' ha ha'
          subst e
          rw [p3] at q3
          injection q3 with q3
          exact hj q3
      · intro j b hb hl hr a ha
        rcases orig j b hb hl with ⟨p1, p2, p3⟩ | ⟨i, c, p1, rfl, p3, p4, p5⟩
        · rw [h2o p1] at ha
          exact hI.own j b p2 hl hr a ha
        · rw [hup i j p3 (hI1.blk i c p1 p4).on] at ha
          rcases hI1.own i c p1 p4 p5 a ha with h1 | h1
          · exact C.all _ (Nat.le_trans hI.size h1)
          · obtain ⟨j', b', a', g1, g2, g3, g4, g5, _⟩ := hfoot _ h1
            rw [← g5]
            exact hI.own j' b' g1 g2 g3 a' g4
      · intro k hk' ho
        rw [hI1.kept k (Nat.lt_of_lt_of_le hk' hI.size) (fun h => ?_)]
        · exact hI.kept k hk' ho
        · rcases h with h | h
          · have := hI.size
            have h : w.heap.size ≤ k := h
            omega
          · obtain ⟨j', b', a', g1, g2, g3, g4, g5, _⟩ := hfoot _ h
            exact ho (by rw [← g5]; exact hI.own j' b' g1 g2 g3 a' g4)
    exact ⟨ρ2, hInv, fun i hi _ => h2o hi, by omega, fun v u hv hv1 => AV.up_ok hup hv hv1⟩
  refine (h.2 C' _ w ra hI' (renL_ok hra hk)).mono ?_
  rintro e w' (⟨u, v, H1, ρ', rfl, hR, hI1, hX, hlen, hv⟩ | ⟨pv, H1, ρ', rfl, hR, hI1, hX, hlen⟩)
  · obtain ⟨⟨hv1, hv2, hv3, hv4⟩, hKK⟩ := hK v H1 hR
    obtain ⟨ρ2, c1, c2, c3, c4⟩ := core H1 ρ' w' hv2 hv3 hv4 hI1 hX hlen
    exact .inl ⟨u, _, _, ρ2, rfl, hKK, c1, c2, c3, c4 v u hv hv1⟩
  · obtain ⟨⟨hv2, hv3, hv4⟩, hKK⟩ := hKP pv H1 hR
    obtain ⟨ρ2, c1, c2, c3, _⟩ := core H1 ρ' w' hv2 hv3 hv4 hI1 hX hlen
    exact .inr ⟨pv, _, ρ2, rfl, hKK, c1, c2, c3⟩
theorem call_lift {P : Program} {f : FuncId} {args args0 : List AV} {H H0 : AH} {R K : AV → AH → Prop} {KP : Value → AH → Prop} (h : CallA P f args0 H0 R) (σ : Rn) (ha : args = renL σ args0) (hk : okL σ H0.length args0 = true) (hh : HeapW σ H0.length H 0 H0) (hj : injB σ H0 = true) (hg : rngB σ H.length H0.length = true) (hrs : rwSome σ 0 H0 = true)
    (hK : ∀ v H1, R v H1 → (v.has (up σ H0.length H.length) = true ∧ hasB (up σ H0.length H.length) H1 = true ∧ allNew (H1.drop H0.length) = true ∧ backOk H0 H1 = true) ∧ K (v.ren (up σ H0.length H.length)) (after σ H0 H H1)) : CallE P f args H K KP :=
  call_liftE (RP := fun _ _ => False) h.e σ ha hk hh hj hg hrs hK fun _ _ h => h.elim
end Go.Proofs.Ytpbenjpponbjjaa.En
namespace Go.Proofs.Ytpbenjpponbjjaa.En
open Go.RowKit
def rkB : Option RK → List Value → Bool
  | none, _ => true
  | some _, [] => true
  | some k, u :: l => (match k, u with
    | .int k, .int k' n => k == k' && n == 0
    | .bool, .bool b => !b
    | _, _ => false) && rkB (some k) l
theorem rkB_ok {k : RK} : ∀ {l : List Value}, rkB (some k) l = true → ∀ u ∈ l, u = k.val 0
  | [], _, u, hu => by simp at hu
  | x :: l, h, u, hu => by
    simp only [rkB, Bool.and_eq_true] at h
    rcases List.mem_cons.1 hu with rfl | hu
    · have h1 := h.1
      split at h1
      · simp only [Bool.and_eq_true, beq_iff_eq] at h1
        obtain ⟨rfl, rfl⟩ := h1
        rfl
      · rename_i b
        cases b
        · rfl
        · cases h1
      · cases h1
    · exact rkB_ok h.2 u hu
theorem tok1 {P : Program} {t : TypeId} {i : TI} {z : Value} (hu : P.underlying t = some i.d) (hi : (P.info? t).map (fun x => (x.zero, x.size, x.bytes)) = some (some z, i.size, i.bytes)) (hz : z.cells.toList = i.zero) (hl : i.zero.length = i.size)
    (h1 : i.zero.all (·.oneCell') = true) (hr : rkB i.rk i.zero = true) (he : P.eqGuardType P.depth t = false) (hs : P.stoodInHeld t = false) : ∃ info z, TOk1 P t i info z := by
  cases hp : P.info? t with
  | none => rw [hp] at hi; cases hi
  | some info =>
    rw [hp] at hi
    simp only [Option.map_some, Option.some.injEq, Prod.mk.injEq] at hi
    obtain ⟨h2, h3, h4⟩ := hi
    exact ⟨info, z, hu, hp, h3, h4, h2, hz, hl, by simpa using h1, fun k hk => by rw [hk] at hr; exact rkB_ok hr, he, hs⟩
end Go.Proofs.Ytpbenjpponbjjaa.En
