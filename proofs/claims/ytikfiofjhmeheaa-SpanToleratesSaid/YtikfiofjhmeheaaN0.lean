/- Canonical lists of spans: which numbers they have, and that these say the list. -/
import Derived.Test.YtikfiofjhmeheaaP0
namespace Go.Proofs.Ytikfiofjhmeheaa

theorem ltOrLe (a b : Int) : a < b ∨ b ≤ a := by omega
/-- some span of the list has x -/
def memS (xs : List Sp) (x : Int) : Prop := ∃ s ∈ xs, s.1 ≤ x ∧ x < s.2
/-- none is empty, each ends before the next one begins -/
def Canon (xs : List Sp) : Prop := (∀ s ∈ xs, s.1 < s.2) ∧ xs.Pairwise fun s t => s.2 < t.1

theorem memS_nil (x : Int) : ¬ memS [] x := by rintro ⟨s, h, _⟩; cases h
theorem memS_cons (s : Sp) (xs : List Sp) (x : Int) : memS (s :: xs) x ↔ (s.1 ≤ x ∧ x < s.2) ∨ memS xs x := by
  unfold memS
  simp
theorem memS_append (xs ys : List Sp) (x : Int) : memS (xs ++ ys) x ↔ memS xs x ∨ memS ys x := by
  unfold memS
  constructor
  · rintro ⟨s, h, h1⟩
    rcases List.mem_append.1 h with h | h
    · exact .inl ⟨s, h, h1⟩
    · exact .inr ⟨s, h, h1⟩
  · rintro (⟨s, h, h1⟩ | ⟨s, h, h1⟩)
    · exact ⟨s, List.mem_append.2 (.inl h), h1⟩
    · exact ⟨s, List.mem_append.2 (.inr h), h1⟩
theorem Canon.nil : Canon [] := ⟨by simp, List.Pairwise.nil⟩
theorem Canon.tail {s : Sp} {xs : List Sp} (h : Canon (s :: xs)) : Canon xs := ⟨fun t ht => h.1 t (by simp [ht]), (List.pairwise_cons.1 h.2).2⟩
theorem Canon.head {s : Sp} {xs : List Sp} (h : Canon (s :: xs)) : s.1 < s.2 := h.1 s (by simp)
/-- what lies behind the head lies above it -/
theorem Canon.above {s : Sp} {xs : List Sp} (h : Canon (s :: xs)) {x : Int} (hx : memS xs x) : s.2 < x := by
  obtain ⟨t, ht, h1, _⟩ := hx
  have := (List.pairwise_cons.1 h.2).1 t ht
  omega

theorem canon_ext : ∀ {xs ys : List Sp}, Canon xs → Canon ys → (∀ x, memS xs x ↔ memS ys x) → xs = ys
  | [], [], _, _, _ => rfl
  | [], t :: ys, _, h2, h => by
    have := (h t.1).2 ((memS_cons _ _ _).2 (.inl ⟨Int.le_refl _, h2.head⟩))
    exact absurd this (memS_nil _)
  | s :: xs, [], h1, _, h => by
    have := (h s.1).1 ((memS_cons _ _ _).2 (.inl ⟨Int.le_refl _, h1.head⟩))
    exact absurd this (memS_nil _)
  | s :: xs, t :: ys, h1, h2, h => by
    have hs := h1.head
    have ht := h2.head
    have a1 : ∀ {x}, memS xs x → s.2 < x := fun hx => h1.above hx
    have a2 : ∀ {x}, memS ys x → t.2 < x := fun hx => h2.above hx
    have e1 : s.1 = t.1 := by
      have p := (memS_cons _ _ _).1 ((h s.1).1 ((memS_cons _ _ _).2 (.inl ⟨Int.le_refl _, hs⟩)))
      have q := (memS_cons _ _ _).1 ((h t.1).2 ((memS_cons _ _ _).2 (.inl ⟨Int.le_refl _, ht⟩)))
      rcases p with p | p
      · rcases q with q | q
        · omega
        · have := a1 q; omega
      · have := a2 p
        rcases q with q | q
        · omega
        · have := a1 q; omega
    have e2 : s.2 = t.2 := by
      rcases Int.lt_trichotomy s.2 t.2 with h3 | h3 | h3
      · have p := (memS_cons _ _ _).1 ((h s.2).2 ((memS_cons _ _ _).2 (.inl ⟨by omega, h3⟩)))
        rcases p with p | p
        · omega
        · have := a1 p; omega
      · exact h3
      · have p := (memS_cons _ _ _).1 ((h t.2).1 ((memS_cons _ _ _).2 (.inl ⟨by omega, h3⟩)))
        rcases p with p | p
        · omega
        · have := a2 p; omega
    have e : s = t := Prod.ext e1 e2
    subst e
    rw [canon_ext h1.tail h2.tail fun x => ?_]
    constructor
    · intro hx
      have := a1 hx
      rcases (memS_cons _ _ _).1 ((h x).1 ((memS_cons _ _ _).2 (.inr hx))) with p | p
      · omega
      · exact p
    · intro hx
      have := a2 hx
      rcases (memS_cons _ _ _).1 ((h x).2 ((memS_cons _ _ _).2 (.inr hx))) with p | p
      · omega
      · exact p

/-! ### put -/
theorem loA_get {xs : List Sp} {i : Nat} (h : i < xs.length) : loA xs i = xs[i].1 ∧ hiA xs i = xs[i].2 := by
  simp [loA, hiA, List.getD_eq_getElem?_getD, List.getElem?_eq_getElem h]
theorem putL_nil (s : Sp) : putL [] s = [s] := rfl
theorem putL_snoc (xs : List Sp) (t s : Sp) : putL (xs ++ [t]) s = if t.2 < s.1 then xs ++ [t] ++ [s] else xs ++ [(t.1, max t.2 s.2)] := by
  have hl : (xs ++ [t]).length - 1 = xs.length := by simp
  have h1 : loA (xs ++ [t]) xs.length = t.1 ∧ hiA (xs ++ [t]) xs.length = t.2 := by
    have := loA_get (xs := xs ++ [t]) (i := xs.length) (by simp)
    simpa using this
  unfold putL
  rw [hl, h1.1, h1.2]
  have hne : ¬ (xs ++ [t] = []) := by simp
  simp only [hne, false_or]
  split
  · rfl
  · rw [List.set_append_right _ _ (Nat.le_refl _)]
    simp
theorem snoc_cases (xs : List Sp) : xs = [] ∨ ∃ ys t, xs = ys ++ [t] := by
  rcases List.eq_nil_or_concat xs with h | ⟨ys, t, h⟩
  · exact .inl h
  · exact .inr ⟨ys, t, by simpa using h⟩
theorem canon_snoc {xs : List Sp} {t : Sp} : Canon (xs ++ [t]) ↔ Canon xs ∧ t.1 < t.2 ∧ ∀ s ∈ xs, s.2 < t.1 := by
  unfold Canon
  rw [List.pairwise_append]
  simp only [List.mem_append, List.mem_singleton, List.pairwise_cons, List.Pairwise.nil]
  constructor
  · rintro ⟨h1, h2, _, h3⟩
    exact ⟨⟨fun s hs => h1 s (.inl hs), h2⟩, h1 t (.inr rfl), fun s hs => h3 s hs t rfl⟩
  · rintro ⟨⟨h1, h2⟩, h3, h4⟩
    refine ⟨?_, h2, by simp, fun s hs u hu => by rw [hu]; exact h4 s hs⟩
    rintro s (hs | rfl)
    · exact h1 s hs
    · exact h3

/-- put keeps a list canonical and adds the span's numbers, if none of the list begins behind the span's beginning -/
theorem putL_canon {xs : List Sp} {s : Sp} (h : Canon xs) (hs : s.1 < s.2) (hlo : ∀ t ∈ xs, t.1 ≤ s.1) :
    Canon (putL xs s) ∧ (∀ x, memS (putL xs s) x ↔ memS xs x ∨ (s.1 ≤ x ∧ x < s.2)) ∧ (∀ t ∈ putL xs s, t.1 ≤ s.1) := by
  rcases snoc_cases xs with rfl | ⟨ys, t, rfl⟩
  · rw [putL_nil]
    refine ⟨⟨by simpa using hs, by simp⟩, fun x => by rw [memS_cons]; simp [memS_nil], by simp⟩
  · rw [putL_snoc]
    obtain ⟨h1, h2, h3⟩ := canon_snoc.1 h
    have hlt := hlo t (by simp)
    split
    · rename_i hc
      refine ⟨canon_snoc.2 ⟨h, hs, fun u hu => ?_⟩, fun x => ?_, fun u hu => ?_⟩
      · rcases List.mem_append.1 hu with hu | hu
        · have := h3 u hu; omega
        · rw [List.mem_singleton.1 hu]; exact hc
      · rw [memS_append, memS_cons]; simp [memS_nil]
      · rcases List.mem_append.1 hu with hu | hu
        · exact hlo u hu
        · rw [List.mem_singleton.1 hu]; exact Int.le_refl _
    · rename_i hc
      refine ⟨canon_snoc.2 ⟨h1, by dsimp only; omega, h3⟩, fun x => ?_, fun u hu => ?_⟩
      · rw [memS_append, memS_append, memS_cons, memS_cons]
        simp only [memS_nil, or_false]
        constructor
        · rintro (h4 | ⟨h4, h5⟩)
          · exact .inl (.inl h4)
          · rcases ltOrLe x t.2 with h6 | h6
            · exact .inl (.inr ⟨h4, h6⟩)
            · exact .inr ⟨by omega, by omega⟩
        · rintro ((h4 | ⟨h4, h5⟩) | ⟨h4, h5⟩)
          · exact .inl h4
          · exact .inr ⟨h4, by omega⟩
          · exact .inr ⟨by omega, by omega⟩
      · rcases List.mem_append.1 hu with hu | hu
        · exact hlo u (by simp [hu])
        · rw [List.mem_singleton.1 hu]; exact hlt

/-! ### lists that are sets -/
theorem setTo_canon {xs : List Sp} (h : setTo xs xs.length) : Canon xs ∧ ∀ s ∈ xs, okB s.1 s.2 = true := by
  have each : ∀ i (hi : i < xs.length), okB xs[i].1 xs[i].2 = true := fun i hi => by
    have := (h i hi).1
    rwa [(loA_get hi).1, (loA_get hi).2] at this
  have hlt : ∀ i (hi : i < xs.length), xs[i].1 < xs[i].2 := fun i hi => (okB_true (each i hi)).2.1
  have hadj : ∀ i (hi : i + 1 < xs.length), xs[i].2 < xs[i+1].1 := fun i hi => by
    have := (h (i + 1) hi).2 (by omega)
    rwa [Nat.add_sub_cancel, (loA_get hi).1, (loA_get (by omega)).2] at this
  have hpair : ∀ k i (hk : i + 1 + k < xs.length), (xs[i]'(by omega)).2 < xs[i+1+k].1 := by
    intro k
    induction k with
    | zero => intro i hi; exact hadj i hi
    | succ k ih =>
      intro i hi
      have h1 := ih i (by omega)
      have h2 := hlt (i + 1 + k) (by omega)
      have h3 := hadj (i + 1 + k) (by omega)
      have e : xs[i + 1 + (k + 1)] = xs[i + 1 + k + 1]'(by omega) := rfl
      rw [e]
      omega
  refine ⟨⟨fun s hs => ?_, List.pairwise_iff_getElem.2 fun i j hi hj hij => ?_⟩, fun s hs => ?_⟩
  · obtain ⟨i, hi, rfl⟩ := List.mem_iff_getElem.1 hs
    exact hlt i hi
  · have := hpair (j - i - 1) i (by omega)
    have e : i + 1 + (j - i - 1) = j := by omega
    simpa [e] using this
  · obtain ⟨i, hi, rfl⟩ := List.mem_iff_getElem.1 hs
    exact each i hi
theorem canon_setTo {xs : List Sp} (h : Canon xs) (hb : ∀ s ∈ xs, okB s.1 s.2 = true) : setTo xs xs.length := by
  intro i hi
  rw [(loA_get hi).1, (loA_get hi).2]
  refine ⟨hb _ (List.getElem_mem hi), fun h0 => ?_⟩
  rw [(loA_get (show i - 1 < xs.length by omega)).2]
  exact List.pairwise_iff_getElem.1 h.2 (i - 1) i (by omega) hi (by omega)

end Go.Proofs.Ytikfiofjhmeheaa
