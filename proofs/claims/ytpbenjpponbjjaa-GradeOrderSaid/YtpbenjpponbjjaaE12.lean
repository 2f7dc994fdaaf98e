/- Numbers of blocks changed, blocks forgotten. -/
import Derived.Test.YtpbenjpponbjjaaE11
namespace Go.Proofs.Ytpbenjpponbjjaa.En
open Go.RowKit

abbrev Rn := Nat → Option Nat
def S.ren (σ : Rn) : S → S
  | .v x => .v x
  | .ptr b o => match σ b with
    | some c => .ptr c o
    | none => .v undef
  | .slc b o n => match σ b with
    | some c => .slc c o n
    | none => .v (.slice none 0 0)
def S.ok (σ : Rn) (L : Nat) : S → Bool
  | .v _ => true
  | .ptr b _ => decide (b < L) && (σ b).isSome
  | .slc b o n => decide (b < L) && (match σ b with | some _ => true | none => decide (o = 0 ∧ n = 0))
def rens (σ : Rn) : List S → List S
  | [] => []
  | x :: l => x.ren σ :: rens σ l
def oks (σ : Rn) (L : Nat) : List S → Bool
  | [] => true
  | x :: l => x.ok σ L && oks σ L l
def A.ren (σ : Rn) : A → A
  | .s x => .s (x.ren σ)
  | .fn f a b => .fn f (rens σ a) (rens σ b)
def A.ok (σ : Rn) (L : Nat) : A → Bool
  | .s x => x.ok σ L
  | .fn _ a b => oks σ L a && oks σ L b
def renA (σ : Rn) : List A → List A
  | [] => []
  | x :: l => x.ren σ :: renA σ l
def okA (σ : Rn) (L : Nat) : List A → Bool
  | [] => true
  | x :: l => x.ok σ L && okA σ L l
def AT.ren (σ : Rn) : AT → AT
  | .a x => .a (x.ren σ)
  | .agg l => .agg (renA σ l)
def AT.ok (σ : Rn) (L : Nat) : AT → Bool
  | .a x => x.ok σ L
  | .agg l => okA σ L l
def renT (σ : Rn) : List AT → List AT
  | [] => []
  | x :: l => x.ren σ :: renT σ l
def okT (σ : Rn) (L : Nat) : List AT → Bool
  | [] => true
  | x :: l => x.ok σ L && okT σ L l
def AV.ren (σ : Rn) : AV → AV
  | .t x => .t (x.ren σ)
  | .tup l => .tup (renT σ l)
  | .any => .any
def AV.ok (σ : Rn) (L : Nat) : AV → Bool
  | .t x => x.ok σ L
  | .tup l => okT σ L l
  | .any => true
def Body.ren (σ : Rn) : Body → Body
  | .dead => .dead
  | .cells l => .cells (renA σ l)
  | .rows k xs => .rows k xs
  | .recs p xs => .recs p xs
  | .ptrs b os => match σ b with
    | some c => .ptrs c os
    | none => .cells (os.map fun _ => .s (.v undef))
def Body.ok (σ : Rn) (L : Nat) : Body → Bool
  | .cells l => okA σ L l
  | .ptrs b _ => decide (b < L) && (σ b).isSome
  | _ => true
def Blk.ren (σ : Rn) (b : Blk) : Blk := ⟨b.rw, b.fix, b.ty, b.sz, b.body.ren σ⟩

/-- where the blocks lie by their other numbers -/
def repl2 (σ : Rn) (L : Nat) (sz : Nat → Nat) (ρ : Pl) : Pl := fun i => if i < L then match σ i with
  | some j => ρ j
  | none => ⟨true, false, none, 0, sz i⟩ else ⟨false, false, none, 0, 0⟩

section
variable {σ : Rn} {L : Nat} {sz : Nat → Nat} {ρ : Pl}
theorem repl2_some {i j : Nat} (h : i < L) (e : σ i = some j) : repl2 σ L sz ρ i = ρ j := by simp [repl2, h, e]
theorem repl2_none {i : Nat} (h : i < L) (e : σ i = none) : repl2 σ L sz ρ i = ⟨true, false, none, 0, sz i⟩ := by simp [repl2, h, e]
theorem S.ren_ok {x : S} {u : Value} (h : SRel ρ (x.ren σ) u) (hk : x.ok σ L = true) : SRel (repl2 σ L sz ρ) x u := by
  cases x with
  | v y => exact h
  | ptr b o =>
    simp only [S.ok, Bool.and_eq_true, decide_eq_true_eq] at hk
    cases hs : σ b with
    | none => rw [hs] at hk; simp at hk
    | some c =>
      simp only [S.ren, hs] at h
      show (repl2 σ L sz ρ b).on = true ∧ _
      rw [repl2_some hk.1 hs]
      exact h
  | slc b o n =>
    simp only [S.ok, Bool.and_eq_true, decide_eq_true_eq] at hk
    cases hs : σ b with
    | none =>
      simp only [S.ren, hs] at h
      rw [hs] at hk
      obtain ⟨hb, h0⟩ := hk
      obtain ⟨rfl, rfl⟩ := of_decide_eq_true h0
      obtain rfl : u = .slice none 0 0 := h
      show (repl2 σ L sz ρ b).on = true ∧ _
      rw [repl2_none hb hs]
      exact ⟨rfl, none, 0, rfl, Nat.le_refl _, Nat.zero_le _, .inr ⟨rfl, .inl rfl⟩⟩
    | some c =>
      simp only [S.ren, hs] at h
      show (repl2 σ L sz ρ b).on = true ∧ _
      rw [repl2_some hk.1 hs]
      exact h
theorem rens_ok : ∀ {l : List S} {us : List Value}, LRel (SRel ρ) (rens σ l) us → oks σ L l = true → LRel (SRel (repl2 σ L sz ρ)) l us
  | [], [], _, _ => trivial
  | [], _ :: _, h, _ => h.elim
  | _ :: _, [], h, _ => h.elim
  | x :: l, u :: us, h, hk => by
    simp only [oks, Bool.and_eq_true] at hk
    exact ⟨S.ren_ok h.1 hk.1, rens_ok h.2 hk.2⟩
theorem A.ren_ok {x : A} {u : Value} (h : ARel ρ (x.ren σ) u) (hk : x.ok σ L = true) : ARel (repl2 σ L sz ρ) x u := by
  cases x with
  | s x => exact S.ren_ok h hk
  | fn f a b =>
    simp only [A.ok, Bool.and_eq_true] at hk
    obtain ⟨fi, ca, e, h1, h2⟩ := h
    exact ⟨fi, ca, e, rens_ok h1 hk.1, rens_ok h2 hk.2⟩
theorem renA_ok : ∀ {l : List A} {us : List Value}, LRel (ARel ρ) (renA σ l) us → okA σ L l = true → LRel (ARel (repl2 σ L sz ρ)) l us
  | [], [], _, _ => trivial
  | [], _ :: _, h, _ => h.elim
  | _ :: _, [], h, _ => h.elim
  | x :: l, u :: us, h, hk => by
    simp only [okA, Bool.and_eq_true] at hk
    exact ⟨A.ren_ok h.1 hk.1, renA_ok h.2 hk.2⟩
theorem AT.ren_ok {x : AT} {u : Value} (h : ATRel ρ (x.ren σ) u) (hk : x.ok σ L = true) : ATRel (repl2 σ L sz ρ) x u := by
  cases x with
  | a x => exact A.ren_ok h hk
  | agg l =>
    obtain ⟨cs, e, h1⟩ := h
    exact ⟨cs, e, renA_ok h1 hk⟩
theorem renT_ok : ∀ {l : List AT} {us : List Value}, LRel (ATRel ρ) (renT σ l) us → okT σ L l = true → LRel (ATRel (repl2 σ L sz ρ)) l us
  | [], [], _, _ => trivial
  | [], _ :: _, h, _ => h.elim
  | _ :: _, [], h, _ => h.elim
  | x :: l, u :: us, h, hk => by
    simp only [okT, Bool.and_eq_true] at hk
    exact ⟨AT.ren_ok h.1 hk.1, renT_ok h.2 hk.2⟩
theorem AV.ren_ok {x : AV} {u : Value} (h : VRel ρ (x.ren σ) u) (hk : x.ok σ L = true) : VRel (repl2 σ L sz ρ) x u := by
  cases x with
  | t x => exact AT.ren_ok h hk
  | tup l =>
    obtain ⟨vs, e, h1⟩ := h
    exact ⟨vs, e, renT_ok h1 hk⟩
  | any => trivial
theorem renA_get : ∀ {l : List A} {j : Nat} {x : A}, l[j]? = some x → (renA σ l)[j]? = some (x.ren σ)
  | [], j, x, h => by simp at h
  | y :: l, 0, x, h => by
    simp at h
    subst h
    simp [renA]
  | y :: l, j + 1, x, h => by
    simp at h
    simpa [renA] using renA_get h
theorem okA_get : ∀ {l : List A} {j : Nat} {x : A}, okA σ L l = true → l[j]? = some x → x.ok σ L = true
  | [], j, x, _, h => by simp at h
  | y :: l, 0, x, hk, h => by
    simp only [okA, Bool.and_eq_true] at hk
    simp at h
    subst h
    exact hk.1
  | y :: l, j + 1, x, hk, h => by
    simp only [okA, Bool.and_eq_true] at hk
    simp at h
    exact okA_get hk.2 h
theorem ren_get {B : Body} {j : Nat} {x : A} (h : B.get j = some (true, x)) : (B.ren σ).get j = some (true, x.ren σ) := by
  cases B with
  | dead => simp [Body.get] at h
  | cells l =>
    simp only [Body.get, Body.ren] at h ⊢
    cases hl : l[j]? with
    | none => simp [hl] at h
    | some y =>
      simp [hl] at h
      subst h
      simp [renA_get hl]
  | rows k xs =>
    simp only [Body.get, Body.ren] at h ⊢
    injection h with h
    injection h with h h'
    subst h'
    rw [h]
    rfl
  | recs p xs =>
    simp only [Body.get, Body.ren] at h ⊢
    injection h with h
    injection h with h h'
    subst h'
    rw [h]
    rfl
  | ptrs b os =>
    simp only [Body.get] at h
    injection h with h
    injection h with h h'
    subst h'
    have hj := of_decide_eq_true h
    simp only [Body.ren, A.ren, S.ren]
    cases hs : σ b with
    | some c => simp [Body.get, hj]
    | none => simp [Body.get, hj]
theorem ok_get {B : Body} (hk : B.ok σ L = true) {j : Nat} {x : A} (h : B.get j = some (true, x)) : x.ok σ L = true := by
  cases B with
  | dead => simp [Body.get] at h
  | cells l =>
    simp only [Body.get] at h
    cases hl : l[j]? with
    | none => simp [hl] at h
    | some y =>
      simp [hl] at h
      subst h
      exact okA_get hk hl
  | rows k xs =>
    simp only [Body.get] at h
    injection h with h
    injection h with _ h'
    subst h'
    rfl
  | recs p xs =>
    simp only [Body.get] at h
    injection h with h
    injection h with _ h'
    subst h'
    rfl
  | ptrs b os =>
    simp only [Body.get] at h
    injection h with h
    injection h with _ h'
    subst h'
    exact hk
theorem renA_len (l : List A) : (renA σ l).length = l.length := by induction l <;> simp_all [renA]
theorem ren_len (B : Body) : (B.ren σ).len = B.len := by
  cases B with
  | ptrs b os =>
    simp only [Body.ren]
    cases σ b <;> simp [Body.len]
  | _ => simp [Body.ren, Body.len, renA_len]
theorem ren_live (B : Body) : (B.ren σ).live = B.live := by
  cases B with
  | ptrs b os =>
    simp only [Body.ren]
    cases σ b <;> rfl
  | _ => rfl
end

/-- the slots by their other numbers -/
def EnvW (σ : Rn) (L : Nat) (E : Env) : Env → Prop
  | [] => True
  | (t, v) :: r => (v.ok σ L = true ∧ (v = .any ∨ E.get t = v.ren σ)) ∧ EnvW σ L E r
def BlkW (σ : Rn) (L : Nat) (H : AH) (i : Nat) (b : Blk) : Prop :=
  match b.body.live with
  | false => True
  | true => match σ i with
    | none => b.body.len = 0
    | some j => match H[j]? with
      | none => False
      | some a => (b.rw = true → a.rw = true) ∧ a.ty = b.ty ∧ a.sz = b.sz ∧ (b.fix = true → a.fix = true) ∧ b.body.ok σ L = true ∧ a.body = b.body.ren σ
def HeapW (σ : Rn) (L : Nat) (H : AH) : Nat → AH → Prop
  | _, [] => True
  | i, b :: r => BlkW σ L H i b ∧ HeapW σ L H (i + 1) r
def fixB (σ : Rn) : Nat → Bool
  | 0 => true
  | n + 1 => (match σ n with | some j => j == n | none => false) && fixB σ n
def injB (σ : Rn) (H : AH) : Bool :=
  (List.range H.length).all fun i => (List.range H.length).all fun j => i == j || (match σ i, σ j with
    | some a, some b => a != b || (match H[i]?, H[j]? with | some x, some y => !x.rw && !y.rw | _, _ => true)
    | _, _ => true)
def rngB (σ : Rn) (M : Nat) : Nat → Bool
  | 0 => true
  | n + 1 => (match σ n with | some j => decide (j < M) | none => true) && rngB σ M n
theorem rngB_ok {σ : Rn} {M : Nat} : ∀ {n : Nat}, rngB σ M n = true → ∀ i, i < n → ∀ j, σ i = some j → j < M
  | 0, _, i, h => by omega
  | n + 1, h, i, hi => by
    intro j hj
    simp only [rngB, Bool.and_eq_true] at h
    by_cases e : i = n
    · subst e
      have := h.1
      rw [hj] at this
      exact of_decide_eq_true this
    · exact rngB_ok h.2 i (by omega) j hj
def Weak (n0 : Nat) (σ : Rn) (E : Env) (H : AH) (E2 : Env) (H2 : AH) : Prop :=
  (fixB σ n0 = true ∧ (injB σ H2 = true ∧ rngB σ H.length H2.length = true) ∧ n0 ≤ H2.length) ∧ EnvW σ H2.length E E2 ∧ HeapW σ H2.length H 0 H2

theorem envW_get {σ : Rn} {L : Nat} {E : Env} : ∀ {E2 : Env}, EnvW σ L E E2 → ∀ t, E2.get t = .any ∨ ((E2.get t).ok σ L = true ∧ E.get t = (E2.get t).ren σ)
  | [], _, t => .inl rfl
  | (i, v) :: r, ⟨⟨h1, h2⟩, h3⟩, t => by
    simp only [Env.get]
    split
    · rename_i e
      have e := beq_iff_eq.1 e
      subst e
      rcases h2 with h2 | h2
      · exact .inl h2
      · exact .inr ⟨h1, h2⟩
    · exact envW_get h3 t
theorem heapW_get {σ : Rn} {L : Nat} {H : AH} : ∀ {H2 : AH} {i : Nat}, HeapW σ L H i H2 → ∀ (q : Nat) b, H2[q]? = some b → BlkW σ L H (i + q) b
  | [], _, _, q, b, h => by simp at h
  | b :: r, i, ⟨h1, h2⟩, 0, c, h => by
    simp at h
    subst h
    exact h1
  | b :: r, i, ⟨h1, h2⟩, q + 1, c, h => by
    simp at h
    have := heapW_get h2 q c h
    rwa [show i + 1 + q = i + (q + 1) by omega] at this
theorem fixB_ok {σ : Rn} : ∀ {n : Nat}, fixB σ n = true → ∀ i, i < n → σ i = some i
  | 0, _, i, h => by omega
  | n + 1, h, i, hi => by
    simp only [fixB, Bool.and_eq_true] at h
    by_cases e : i = n
    · subst e
      have := h.1
      split at this
      · rename_i j hj
        rw [hj, beq_iff_eq.1 this]
      · cases this
    · exact fixB_ok h.2 i (by omega)
theorem injB_ok {σ : Rn} {H : AH} (h : injB σ H = true) {i j : Nat} {x y : Blk} (hi : H[i]? = some x) (hj : H[j]? = some y) (hij : i ≠ j) (hr : x.rw = true) {a b : Nat} (ha : σ i = some a) (hb : σ j = some b) : a ≠ b := by
  have hil := (List.getElem?_eq_some_iff.1 hi).1
  have hjl := (List.getElem?_eq_some_iff.1 hj).1
  have h1 := List.all_eq_true.1 h i (List.mem_range.2 hil)
  have h2 := List.all_eq_true.1 h1 j (List.mem_range.2 hjl)
  rw [ha, hb, hi, hj] at h2
  simp [hij, hr] at h2
  exact h2

section
variable {C : Cx} {P : Program} {T : TT} {N : Nat} {D : List Deferred}
def szOf (H : AH) (i : Nat) : Nat := match H[i]? with
  | some b => b.sz
  | none => 0
theorem heap_weak {ρ : Pl} {H H2 : AH} {w : World} {σ : Rn} (hI : Inv C ρ H w) (hj : injB σ H2 = true) (hg : rngB σ H.length H2.length = true) (hh : HeapW σ H2.length H 0 H2) : Inv C (repl2 σ H2.length (szOf H2) ρ) H2 w := by
  have hlt : ∀ {i : Nat} {b : Blk}, H2[i]? = some b → i < H2.length := fun h => (List.getElem?_eq_some_iff.1 h).1
  have hsome : ∀ {i : Nat} {b : Blk} {j : Nat}, H2[i]? = some b → b.body.live = true → σ i = some j → ∃ a, H[j]? = some a ∧ (b.rw = true → a.rw = true) ∧ a.ty = b.ty ∧ a.sz = b.sz ∧ (b.fix = true → a.fix = true) ∧ b.body.ok σ H2.length = true ∧ a.body = b.body.ren σ ∧ a.body.live = true := fun {i b j} hb hl hs => by
    have h := heapW_get hh i b hb
    rw [Nat.zero_add] at h
    unfold BlkW at h
    rw [hl, hs] at h
    dsimp only at h
    split at h
    · exact h.elim
    · rename_i a ha
      obtain ⟨h1, h2, h3, h4, h5, h6⟩ := h
      exact ⟨a, ha, h1, h2, h3, h4, h5, h6, by rw [h6, ren_live]; exact hl⟩
  refine ⟨?_, fun i hi => ?_, ?_, ?_, ?_, hI.os, hI.tape, hI.output, hI.size, hI.kept⟩
  rotate_left
  · cases hs : σ i with
    | none => rw [repl2_none hi hs]
    | some j =>
      rw [repl2_some hi hs]
      exact hI.on j (rngB_ok hg i hi j hs)
  rotate_right
  · intro i b hb hl
    cases hs : σ i with
    | some j =>
      obtain ⟨a, ha, h1, h2, h3, h4, h5, h6, h7⟩ := hsome hb hl hs
      have hB := hI.blk j a ha h7
      have e := repl2_some (sz := szOf H2) (ρ := ρ) (hlt hb) hs
      refine ⟨by rw [e]; exact hB.on, by rw [e]; exact fun hr => hB.rw (h1 hr), by rw [e, hB.sz, h3], by rw [e]; exact hB.lt, ?_, ?_, ?_⟩
      · rw [e]
        intro q x hx
        obtain ⟨ad, u, g1, g2, g3⟩ := hB.cell q (x.ren σ) (by rw [h6]; exact ren_get hx)
        exact ⟨ad, u, g1, g2, A.ren_ok g3 (ok_get h5 hx)⟩
      · rw [e]
        intro hr ad had
        obtain ⟨g1, arr, g2, g3, g4, g5⟩ := hB.own (h1 hr) ad had
        refine ⟨g1, arr, by rw [g2, h2], g3, by rw [h6, ren_len] at g4; exact g4, fun hf => by rw [g5 (h4 hf), h6, ren_len]⟩
      · rw [e]
        exact fun hr => hB.nil (h1 hr)
    | none =>
      have h := heapW_get hh i b hb
      rw [Nat.zero_add] at h
      unfold BlkW at h
      rw [hl, hs] at h
      have e := repl2_none (sz := szOf H2) (ρ := ρ) (hlt hb) hs
      refine ⟨by rw [e], fun _ => by rw [e], by rw [e]; simp [szOf, hb], by rw [e]; exact fun a ha => (by cases ha), ?_, by rw [e]; exact fun _ a ha => (by cases ha), by rw [e]; exact fun _ _ => rfl⟩
      intro q x hx
      exfalso
      cases hbd : b.body with
      | dead => rw [hbd] at hx; simp [Body.get] at hx
      | cells l =>
        rw [hbd] at hx h
        have : l = [] := List.eq_nil_of_length_eq_zero h
        subst this
        simp [Body.get] at hx
      | rows k xs =>
        rw [hbd] at hx h
        have : xs = [] := List.eq_nil_of_length_eq_zero h
        subst this
        simp [Body.get] at hx
      | recs p xs =>
        rw [hbd] at hx h
        have : xs = [] := List.eq_nil_of_length_eq_zero h
        subst this
        simp [Body.get] at hx
      | ptrs p xs =>
        rw [hbd] at hx h
        have : xs = [] := List.eq_nil_of_length_eq_zero h
        subst this
        simp [Body.get] at hx
  · intro i hi
    simp only [repl2]
    rw [if_neg (by omega)]
  · intro i j bi bj hij hi hj' li lj hr a a' ha ha'
    cases hsi : σ i with
    | none =>
      rw [repl2_none (hlt hi) hsi] at ha
      cases ha
    | some p =>
      cases hsj : σ j with
      | none =>
        rw [repl2_none (hlt hj') hsj] at ha'
        cases ha'
      | some q =>
        rw [repl2_some (hlt hi) hsi] at ha
        rw [repl2_some (hlt hj') hsj] at ha'
        obtain ⟨x, hx, h1, _, _, _, _, _, hxl⟩ := hsome hi li hsi
        obtain ⟨y, hy, _, _, _, _, _, _, hyl⟩ := hsome hj' lj hsj
        exact hI.sep p q x y (injB_ok hj hi hj' hij hr hsi hsj) hx hy hxl hyl (h1 hr) a a' ha ha'
  · intro i b hb hl hr a ha
    cases hs : σ i with
    | none =>
      rw [repl2_none (hlt hb) hs] at ha
      cases ha
    | some j =>
      rw [repl2_some (hlt hb) hs] at ha
      obtain ⟨x, hx, h1, _, _, _, _, _, hxl⟩ := hsome hb hl hs
      exact hI.own j x hx hxl (h1 hr) a ha

theorem weak_ok {n0 : Nat} {ρ0 ρ : Pl} {E E2 : Env} {H H2 : AH} {w : World} {a : Act} {σ : Rn} (h : Weak n0 σ E H E2 H2) (hI : Inv C ρ H w) (hE : ERel ρ N D E a) (hX : ExtN n0 ρ0 ρ) :
    ∃ ρ2, Inv C ρ2 H2 w ∧ ERel ρ2 N D E2 a ∧ ExtN n0 ρ0 ρ2 ∧ n0 ≤ H2.length := by
  obtain ⟨⟨h1, ⟨h2, h2'⟩, h3⟩, h4, h5⟩ := h
  refine ⟨_, heap_weak hI h2 h2' h5, ⟨hE.1, hE.2.1, fun t => ?_⟩, fun i hi ho => ?_, h3⟩
  · rcases envW_get h4 t with h | ⟨h6, h7⟩
    · rw [h]
      trivial
    · exact AV.ren_ok (by rw [← h7]; exact hE.2.2 t) h6
  · rw [repl2_some (by omega) (fixB_ok h1 i hi)]
    exact hX i hi ho

/-- a loop: what stands at each round's head, by some number or list x -/
theorem loop_rule (hT : TOk P T) (hm : P.follows .mixedOrders = true) {n0 : Nat} {c : Code} {Q : Post} {E : Env} {H : AH} {ι : Type} (st : ι → Env) (hp : ι → AH) (ok : ι → Prop) (μ : ι → Nat) (x0 : ι) (h0 : ok x0) (σ0 : Rn) (hw : Weak n0 σ0 E H (st x0) (hp x0))
    (round : ∀ x, ok x → vc P T N n0 c (thenQ (fun E' H' => ∃ y, ok y ∧ μ y < μ x ∧ ∃ σ, Weak n0 σ E' H' (st y) (hp y)) Q) (st x) (hp x)) : ASem P N n0 (.loop c) Q E H := by
  intro C D ρ0 ρ w a hI hE hX _
  obtain ⟨ρ2, hI2, hE2, hX2, hn2⟩ := weak_ok hw hI hE hX
  refine wp_loop_rounds (μ x0 + 1) ?_
  have key : ∀ (n : Nat) (x : ι) (ρ : Pl) (w : World) (a : Act), ok x → μ x < n → Inv C ρ (hp x) w → ERel ρ N D (st x) a → ExtN n0 ρ0 ρ → n0 ≤ (hp x).length → Code.rounds P c (PostOk C n0 ρ0 N D Q) n a w := by
    intro n
    induction n with
    | zero => intro x _ _ _ _ h; omega
    | succ n ih =>
      intro x ρ w a hx hlt hI hE hX hn
      rw [rounds_succ]
      refine Code.wp_mono ?_ (vc_ok hT hm c _ _ _ (round x hx) C D ρ0 ρ w a hI hE hX hn)
      intro e a' w' hq
      cases e with
      | normal =>
        obtain ⟨ρ', E', H', ⟨y, hy, hm', σ, hw'⟩, hI', hE', hX', hn'⟩ := hq
        obtain ⟨ρ3, hI3, hE3, hX3, hn3⟩ := weak_ok hw' hI' hE' hX'
        exact ih y ρ3 w' a' hy (by omega) hI3 hE3 hX3 hn3
      | exit id => exact hq
      | ret => exact hq
      | panic ch => exact hq.pan fun _ _ _ h => h
      | _ => exact hq.elim
  exact key _ x0 ρ2 w a h0 (by omega) hI2 hE2 hX2 hn2
end
end Go.Proofs.Ytpbenjpponbjjaa.En
