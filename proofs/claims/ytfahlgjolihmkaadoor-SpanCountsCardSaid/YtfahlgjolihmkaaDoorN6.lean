/- Canonical lists of spans: which numbers they have, and that these say the list. -/
import Derived.Test.YtfahlgjolihmkaaDoorP0
import Derived.Test.YtfahlgjolihmkaaDoorP1
namespace Go.Proofs.YtfahlgjolihmkaaDoor

theorem ltOrLe (a b : Int) : a < b ∨ b ≤ a := by omega
/-- some span of the list has x -/
def memS (xs : List Sp) (x : Int) : Prop := ∃ s ∈ xs, s.1 ≤ x ∧ x < s.2
/-- none is empty, each ends before the next one begins -/
def Canon (xs : List Sp) : Prop := (∀ s ∈ xs, s.1 < s.2) ∧ xs.Pairwise fun s t => s.2 < t.1

theorem memS_nil (x : Int) : ¬ memS [] x := by rintro ⟨s, h, _⟩; cases h
theorem memS_cons (s : Sp) (xs : List Sp) (x : Int) : memS (s :: xs) x ↔ (s.1 ≤ x ∧ x < s.2) ∨ memS xs x := by
  unfold memS
  simp
theorem memS_append (xs ys : List Sp) (x : Int) : memS (xs ++ ys) x ↔ memS xs x ∨ memS ys x := by
  unfold memS
  constructor
  · rintro ⟨s, h, h1⟩
    rcases List.mem_append.1 h with h | h
    · exact .inl ⟨s, h, h1⟩
    · exact .inr ⟨s, h, h1⟩
  · rintro (⟨s, h, h1⟩ | ⟨s, h, h1⟩)
    · exact ⟨s, List.mem_append.2 (.inl h), h1⟩
    · exact ⟨s, List.mem_append.2 (.inr h), h1⟩
theorem Canon.nil : Canon [] := ⟨by simp, List.Pairwise.nil⟩
theorem Canon.tail {s : Sp} {xs : List Sp} (h : Canon (s :: xs)) : Canon xs := ⟨fun t ht => h.1 t (by simp [ht]), (List.pairwise_cons.1 h.2).2⟩
theorem Canon.head {s : Sp} {xs : List Sp} (h : Canon (s :: xs)) : s.1 < s.2 := h.1 s (by simp)
/-- what lies behind the head lies above it -/
theorem Canon.above {s : Sp} {xs : List Sp} (h : Canon (s :: xs)) {x : Int} (hx : memS xs x) : s.2 < x := by
  obtain ⟨t, ht, h1, _⟩ := hx
  have := (List.pairwise_cons.1 h.2).1 t ht
  omega

theorem canon_ext : ∀ {xs ys : List Sp}, Canon xs → Canon ys → (∀ x, memS xs x ↔ memS ys x) → xs = ys
  | [], [], _, _, _ => rfl
  | [], t :: ys, _, h2, h => by
    have := (h t.1).2 ((memS_cons _ _ _).2 (.inl ⟨Int.le_refl _, h2.head⟩))
    exact absurd this (memS_nil _)
  | s :: xs, [], h1, _, h => by
    have := (h s.1).1 ((memS_cons _ _ _).2 (.inl ⟨Int.le_refl _, h1.head⟩))
    exact absurd this (memS_nil _)
  | s :: xs, t :: ys, h1, h2, h => by
    have hs := h1.head
    have ht := h2.head
    have a1 : ∀ {x}, memS xs x → s.2 < x := fun hx => h1.above hx
    have a2 : ∀ {x}, memS ys x → t.2 < x := fun hx => h2.above hx
    have e1 : s.1 = t.1 := by
      have p := (memS_cons _ _ _).1 ((h s.1).1 ((memS_cons _ _ _).2 (.inl ⟨Int.le_refl _, hs⟩)))
      have q := (memS_cons _ _ _).1 ((h t.1).2 ((memS_cons _ _ _).2 (.inl ⟨Int.le_refl _, ht⟩)))
      rcases p with p | p
      · rcases q with q | q
        · omega
        · have := a1 q; omega
      · have := a2 p
        rcases q with q | q
        · omega
        · have := a1 q; omega
    have e2 : s.2 = t.2 := by
      rcases Int.lt_trichotomy s.2 t.2 with h3 | h3 | h3
      · have p := (memS_cons _ _ _).1 ((h s.2).2 ((memS_cons _ _ _).2 (.inl ⟨by omega, h3⟩)))
        rcases p with p | p
        · omega
        · have := a1 p; omega
      · exact h3
      · have p := (memS_cons _ _ _).1 ((h t.2).1 ((memS_cons _ _ _).2 (.inl ⟨by omega, h3⟩)))
        rcases p with p | p
        · omega
        · have := a2 p; omega
    have e : s = t := Prod.ext e1 e2
    subst e
    rw [canon_ext h1.tail h2.tail fun x => ?_]
    constructor
    · intro hx
      have := a1 hx
      rcases (memS_cons _ _ _).1 ((h x).1 ((memS_cons _ _ _).2 (.inr hx))) with p | p
      · omega
      · exact p
    · intro hx
      have := a2 hx
      rcases (memS_cons _ _ _).1 ((h x).2 ((memS_cons _ _ _).2 (.inr hx))) with p | p
      · omega
      · exact p

/-! ### put -/
theorem loA_get {xs : List Sp} {i : Nat} (h : i < xs.length) : loA xs i = xs[i].1 ∧ hiA xs i = xs[i].2 := by
  simp [loA, hiA, List.getD_eq_getElem?_getD, List.getElem?_eq_getElem h]
theorem putL_nil (s : Sp) : putL [] s = [s] := rfl
theorem putL_snoc (xs : List Sp) (t s : Sp) : putL (xs ++ [t]) s = if t.2 < s.1 then xs ++ [t] ++ [s] else xs ++ [(t.1, max t.2 s.2)] := by
  have hl : (xs ++ [t]).length - 1 = xs.length := by simp
  have h1 : loA (xs ++ [t]) xs.length = t.1 ∧ hiA (xs ++ [t]) xs.length = t.2 := by
    have := loA_get (xs := xs ++ [t]) (i := xs.length) (by simp)
    simpa using this
  unfold putL
  rw [hl, h1.1, h1.2]
  have hne : ¬ (xs ++ [t] = []) := by simp
  simp only [hne, false_or]
  split
  · rfl
  · rw [List.set_append_right _ _ (Nat.le_refl _)]
    simp
theorem snoc_cases (xs : List Sp) : xs = [] ∨ ∃ ys t, xs = ys ++ [t] := by
  rcases List.eq_nil_or_concat xs with h | ⟨ys, t, h⟩
  · exact .inl h
  · exact .inr ⟨ys, t, by simpa using h⟩
theorem canon_snoc {xs : List Sp} {t : Sp} : Canon (xs ++ [t]) ↔ Canon xs ∧ t.1 < t.2 ∧ ∀ s ∈ xs, s.2 < t.1 := by
  unfold Canon
  rw [List.pairwise_append]
  simp only [List.mem_append, List.mem_singleton, List.pairwise_cons, List.Pairwise.nil]
  constructor
  · rintro ⟨h1, h2, _, h3⟩
    exact ⟨⟨fun s hs => h1 s (.inl hs), h2⟩, h1 t (.inr rfl), fun s hs => h3 s hs t rfl⟩
  · rintro ⟨⟨h1, h2⟩, h3, h4⟩
    refine ⟨?_, h2, by simp, fun s hs u hu => by rw [hu]; exact h4 s hs⟩
    rintro s (hs | rfl)
    · exact h1 s hs
    · exact h3

/-- put keeps a list canonical and adds the span's numbers, if none of the list begins behind the span's beginning -/
theorem putL_canon {xs : List Sp} {s : Sp} (h : Canon xs) (hs : s.1 < s.2) (hlo : ∀ t ∈ xs, t.1 ≤ s.1) :
    Canon (putL xs s) ∧ (∀ x, memS (putL xs s) x ↔ memS xs x ∨ (s.1 ≤ x ∧ x < s.2)) ∧ (∀ t ∈ putL xs s, t.1 ≤ s.1) := by
  rcases snoc_cases xs with rfl | ⟨ys, t, rfl⟩
  · rw [putL_nil]
    refine ⟨⟨by simpa using hs, by simp⟩, fun x => by rw [memS_cons]; simp [memS_nil], by simp⟩
  · rw [putL_snoc]
    obtain ⟨h1, h2, h3⟩ := canon_snoc.1 h
    have hlt := hlo t (by simp)
    split
    · rename_i hc
      refine ⟨canon_snoc.2 ⟨h, hs, fun u hu => ?_⟩, fun x => ?_, fun u hu => ?_⟩
      · rcases List.mem_append.1 hu with hu | hu
        · have := h3 u hu; omega
        · rw [List.mem_singleton.1 hu]; exact hc
      · rw [memS_append, memS_cons]; simp [memS_nil]
      · rcases List.mem_append.1 hu with hu | hu
        · exact hlo u hu
        · rw [List.mem_singleton.1 hu]; exact Int.le_refl _
    · rename_i hc
      refine ⟨canon_snoc.2 ⟨h1, by dsimp only; omega, h3⟩, fun x => ?_, fun u hu => ?_⟩
      · rw [memS_append, memS_append, memS_cons, memS_cons]
        simp only [memS_nil, or_false]
        constructor
        · rintro (h4 | ⟨h4, h5⟩)
          · exact .inl (.inl h4)
          · rcases ltOrLe x t.2 with h6 | h6
            · exact .inl (.inr ⟨h4, h6⟩)
            · exact .inr ⟨by omega, by omega⟩
        · rintro ((h4 | ⟨h4, h5⟩) | ⟨h4, h5⟩)
          · exact .inl h4
          · exact .inr ⟨h4, by omega⟩
          · exact .inr ⟨by omega, by omega⟩
      · rcases List.mem_append.1 hu with hu | hu
        · exact hlo u (by simp [hu])
        · rw [List.mem_singleton.1 hu]; exact hlt

/-! ### lists that are sets -/
theorem setTo_canon {xs : List Sp} (h : setTo xs xs.length) : Canon xs ∧ ∀ s ∈ xs, okB s.1 s.2 = true := by
  have each : ∀ i (hi : i < xs.length), okB xs[i].1 xs[i].2 = true := fun i hi => by
    have := (h i hi).1
    rwa [(loA_get hi).1, (loA_get hi).2] at this
  have hlt : ∀ i (hi : i < xs.length), xs[i].1 < xs[i].2 := fun i hi => (okB_true (each i hi)).2.1
  have hadj : ∀ i (hi : i + 1 < xs.length), xs[i].2 < xs[i+1].1 := fun i hi => by
    have := (h (i + 1) hi).2 (by omega)
    rwa [Nat.add_sub_cancel, (loA_get hi).1, (loA_get (by omega)).2] at this
  have hpair : ∀ k i (hk : i + 1 + k < xs.length), (xs[i]'(by omega)).2 < xs[i+1+k].1 := by
    intro k
    induction k with
    | zero => intro i hi; exact hadj i hi
    | succ k ih =>
      intro i hi
      have h1 := ih i (by omega)
      have h2 := hlt (i + 1 + k) (by omega)
      have h3 := hadj (i + 1 + k) (by omega)
      have e : xs[i + 1 + (k + 1)] = xs[i + 1 + k + 1]'(by omega) := rfl
      rw [e]
      omega
  refine ⟨⟨fun s hs => ?_, List.pairwise_iff_getElem.2 fun i j hi hj hij => ?_⟩, fun s hs => ?_⟩
  · obtain ⟨i, hi, rfl⟩ := List.mem_iff_getElem.1 hs
    exact hlt i hi
  · have := hpair (j - i - 1) i (by omega)
    have e : i + 1 + (j - i - 1) = j := by omega
    simpa [e] using this
  · obtain ⟨i, hi, rfl⟩ := List.mem_iff_getElem.1 hs
    exact each i hi
theorem canon_setTo {xs : List Sp} (h : Canon xs) (hb : ∀ s ∈ xs, okB s.1 s.2 = true) : setTo xs xs.length := by
  intro i hi
  rw [(loA_get hi).1, (loA_get hi).2]
  refine ⟨hb _ (List.getElem_mem hi), fun h0 => ?_⟩
  rw [(loA_get (show i - 1 < xs.length by omega)).2]
  exact List.pairwise_iff_getElem.1 h.2 (i - 1) i (by omega) hi (by omega)

end Go.Proofs.YtfahlgjolihmkaaDoor

/- The specification's way to make a set of two: the ends in order, and the pieces between them. -/
namespace Go.Proofs.YtfahlgjolihmkaaDoor

/-! ### ascending numbers with one more -/
def insStep (x : Int) (p : List Int × Bool) (y : Int) : List Int × Bool :=
  let q := if p.2 = false ∧ x ≤ y then (p.1 ++ [x], true) else p
  if y = x then q else (q.1 ++ [y], q.2)
def insTo (x : Int) (l : List Int) : List Int × Bool := l.foldl (insStep x) ([], false)
/-- ascending numbers with one more -/
def insN (l : List Int) (x : Int) : List Int := if (insTo x l).2 then (insTo x l).1 else (insTo x l).1 ++ [x]
theorem insTo_snoc (x : Int) (l : List Int) (y : Int) : insTo x (l ++ [y]) = insStep x (insTo x l) y := by simp [insTo]

def Asc (l : List Int) : Prop := l.Pairwise (· < ·)
theorem asc_snoc {l : List Int} {y : Int} : Asc (l ++ [y]) ↔ Asc l ∧ ∀ z ∈ l, z < y := by
  unfold Asc
  rw [List.pairwise_append]
  simp
theorem snocI (l : List Int) : l = [] ∨ ∃ k y, l = k ++ [y] := by
  rcases List.eq_nil_or_concat l with h | ⟨ys, t, h⟩
  · exact .inl h
  · exact .inr ⟨ys, t, by simpa using h⟩
theorem insTo_spec (x : Int) (l : List Int) (h : Asc l) :
    Asc (insTo x l).1 ∧ (∀ z, z ∈ (insTo x l).1 ↔ (z ∈ l ∨ ((insTo x l).2 = true ∧ z = x))) ∧ ((insTo x l).2 = false → ∀ z ∈ l, z < x) ∧ ((insTo x l).2 = true → ∃ y ∈ l, x ≤ y) := by
  induction hn : l.length generalizing l with
  | zero =>
    obtain rfl := List.eq_nil_of_length_eq_zero hn
    simp [insTo, Asc]
  | succ n ih =>
    rcases snocI l with rfl | ⟨k, y, rfl⟩
    · simp at hn
    · obtain ⟨hk, hy⟩ := asc_snoc.1 h
      obtain ⟨h1, h2, h3, h4⟩ := ih k hk (by simpa using hn)
      rw [insTo_snoc]
      generalize insTo x k = p at h1 h2 h3 h4 ⊢
      obtain ⟨o, d⟩ := p
      dsimp only at h1 h2 h3 h4
      have hlt : ∀ z ∈ o, z ≠ x → z < y := fun z hz hzx => by
        rcases (h2 z).1 hz with h | ⟨_, h⟩
        · exact hy z h
        · exact absurd h hzx
      unfold insStep
      cases d
      · have h3' := h3 rfl
        have ho : ∀ z ∈ o, z ∈ k := fun z hz => by
          rcases (h2 z).1 hz with h | ⟨h, _⟩
          · exact h
          · cases h
        by_cases hxy : x ≤ y
        · simp only [hxy, and_self, if_true]
          have hox : Asc (o ++ [x]) := asc_snoc.2 ⟨h1, fun z hz => h3' z (ho z hz)⟩
          by_cases he : y = x
          · subst he
            simp only [if_true]
            refine ⟨hox, fun z => ?_, (fun h => (by cases h)), fun _ => ⟨y, by simp, by omega⟩⟩
            simp only [List.mem_append, List.mem_singleton, true_and, or_assoc, or_self]
            have := h2 z
            simp at this
            rw [this]
          · rw [if_neg he]
            refine ⟨asc_snoc.2 ⟨hox, fun z hz => ?_⟩, fun z => ?_, (fun h => (by cases h)), fun _ => ⟨y, by simp, hxy⟩⟩
            · rcases List.mem_append.1 hz with hz | hz
              · exact hy z (ho z hz)
              · rw [List.mem_singleton.1 hz]; omega
            · simp only [List.mem_append, List.mem_singleton, true_and]
              have := h2 z
              simp at this
              rw [this]
              constructor
              · rintro ((h | h) | h)
                · exact .inl (.inl h)
                · exact .inr h
                · exact .inl (.inr h)
              · rintro ((h | h) | h)
                · exact .inl (.inl h)
                · exact .inr h
                · exact .inl (.inr h)
        · have he : ¬ y = x := by omega
          simp only [hxy, and_false, if_false, he]
          refine ⟨asc_snoc.2 ⟨h1, fun z hz => hy z (ho z hz)⟩, fun z => ?_, fun _ z hz => ?_, (fun h => (by cases h))⟩
          · have := h2 z
            simp at this
            simp [this]
          · rcases List.mem_append.1 hz with hz | hz
            · exact h3' z hz
            · rw [List.mem_singleton.1 hz]; omega
      · obtain ⟨u, hu, hxu⟩ := h4 rfl
        have hxy : x < y := by have := hy u hu; omega
        have he : ¬ y = x := by omega
        simp only [Bool.true_eq_false, false_and, if_false, he]
        refine ⟨asc_snoc.2 ⟨h1, fun z hz => ?_⟩, fun z => ?_, (fun h => (by cases h)), fun _ => ⟨u, by simp [hu], hxu⟩⟩
        · rcases (h2 z).1 hz with h | ⟨_, h⟩
          · exact hy z h
          · omega
        · simp only [List.mem_append, List.mem_singleton, true_and, h2 z]
          constructor
          · rintro ((h | h) | h)
            · exact .inl (.inl h)
            · exact .inr h
            · exact .inl (.inr h)
          · rintro ((h | h) | h)
            · exact .inl (.inl h)
            · exact .inr h
            · exact .inl (.inr h)
theorem insN_spec (x : Int) (l : List Int) (h : Asc l) : Asc (insN l x) ∧ ∀ z, z ∈ insN l x ↔ (z ∈ l ∨ z = x) := by
  obtain ⟨h1, h2, h3, h4⟩ := insTo_spec x l h
  unfold insN
  split
  · rename_i hd
    exact ⟨h1, fun z => by rw [h2 z, hd]; simp⟩
  · rename_i hd
    have hd : (insTo x l).2 = false := by simpa using hd
    refine ⟨asc_snoc.2 ⟨h1, fun z hz => ?_⟩, fun z => ?_⟩
    · rcases (h2 z).1 hz with h | ⟨h, _⟩
      · exact h3 hd z h
      · rw [hd] at h; cases h
    · rw [List.mem_append, List.mem_singleton, h2 z, hd]
      simp
theorem insTo_length (x : Int) (l : List Int) : (insTo x l).1.length ≤ l.length + (if (insTo x l).2 then 1 else 0) := by
  induction hn : l.length generalizing l with
  | zero =>
    obtain rfl := List.eq_nil_of_length_eq_zero hn
    simp [insTo]
  | succ n ih =>
    rcases snocI l with rfl | ⟨k, y, rfl⟩
    · simp at hn
    · have := ih k (by simpa using hn)
      rw [insTo_snoc]
      generalize insTo x k = p at this ⊢
      obtain ⟨o, d⟩ := p
      have hk : k.length = n := by simpa using hn
      unfold insStep
      cases d
      · by_cases h1 : x ≤ y
        · by_cases h2 : y = x <;> simp [h1, h2] at this ⊢ <;> omega
        · by_cases h2 : y = x <;> simp [h1, h2] at this ⊢ <;> omega
      · by_cases h2 : y = x <;> simp [h2] at this ⊢ <;> omega
theorem insN_length (l : List Int) (x : Int) : (insN l x).length ≤ l.length + 1 := by
  have := insTo_length x l
  unfold insN
  split
  · rename_i h; rw [h] at this; simpa using this
  · rename_i h; simp [h] at this; simpa using this

/-- both ends of the first spans, in order -/
def endsTo (l : List Int) (xs : List Sp) : List Int := xs.foldl (fun l s => insN (insN l s.1) s.2) l
theorem endsTo_snoc (l : List Int) (xs : List Sp) (s : Sp) : endsTo l (xs ++ [s]) = insN (insN (endsTo l xs) s.1) s.2 := by simp [endsTo]
theorem endsTo_spec : ∀ (xs : List Sp) (l : List Int), Asc l → Asc (endsTo l xs) ∧ (∀ z, z ∈ endsTo l xs ↔ (z ∈ l ∨ ∃ s ∈ xs, z = s.1 ∨ z = s.2)) ∧ (endsTo l xs).length ≤ l.length + 2 * xs.length
  | [], l, h => ⟨h, fun z => by simp [endsTo], by simp [endsTo]⟩
  | s :: xs, l, h => by
    have h1 := insN_spec s.1 l h
    have h2 := insN_spec s.2 (insN l s.1) h1.1
    have h3 := endsTo_spec xs (insN (insN l s.1) s.2) h2.1
    have e : endsTo l (s :: xs) = endsTo (insN (insN l s.1) s.2) xs := rfl
    rw [e]
    refine ⟨h3.1, fun z => ?_, ?_⟩
    · rw [h3.2.1 z, h2.2 z, h1.2 z]
      simp only [List.mem_cons, exists_eq_or_imp]
      constructor
      · rintro (((h | h) | h) | h)
        · exact .inl h
        · exact .inr (.inl (.inl h))
        · exact .inr (.inl (.inr h))
        · exact .inr (.inr h)
      · rintro (h | (h | h) | h)
        · exact .inl (.inl (.inl h))
        · exact .inl (.inl (.inr h))
        · exact .inl (.inr h)
        · exact .inr h
    · have a1 := insN_length l s.1
      have a2 := insN_length (insN l s.1) s.2
      have a3 := h3.2.2
      simp only [List.length_cons]
      omega

/-! ### the pieces between the ends -/
/-- is x kept, of which it is known whether it is in a and in b? -/
def keepB (kind : Int) (p q : Bool) : Bool := if kind = 0 then p || q else if kind = 1 then p && q else p && !q
/-- one more piece -/
def pieceL (out : List Sp) (u v : Int) : List Sp := if out ≠ [] ∧ hiA out (out.length - 1) = u then out.set (out.length - 1) (loA out (out.length - 1), v) else out ++ [(u, v)]
def madeTo (keep : Int → Bool) (ends : List Int) : Nat → List Sp
  | 0 => []
  | k + 1 => if keep (iA ends k) then pieceL (madeTo keep ends k) (iA ends k) (iA ends (k + 1)) else madeTo keep ends k
theorem pieceL_snoc (xs : List Sp) (t : Sp) (u v : Int) : pieceL (xs ++ [t]) u v = if t.2 = u then xs ++ [(t.1, v)] else xs ++ [t] ++ [(u, v)] := by
  have hl : (xs ++ [t]).length - 1 = xs.length := by simp
  have h1 : loA (xs ++ [t]) xs.length = t.1 ∧ hiA (xs ++ [t]) xs.length = t.2 := by
    have := loA_get (xs := xs ++ [t]) (i := xs.length) (by simp)
    simpa using this
  unfold pieceL
  rw [hl, h1.1, h1.2]
  have hne : xs ++ [t] ≠ [] := by simp
  simp only [hne, ne_eq, not_false_eq_true, true_and]
  split
  · rw [List.set_append_right _ _ (Nat.le_refl _)]
    simp
  · rfl
theorem pieceL_canon {xs : List Sp} {u v : Int} (h : Canon xs) (huv : u < v) (hle : ∀ s ∈ xs, s.2 ≤ u) :
    Canon (pieceL xs u v) ∧ (∀ x, memS (pieceL xs u v) x ↔ memS xs x ∨ (u ≤ x ∧ x < v)) ∧ (∀ s ∈ pieceL xs u v, s.2 ≤ v) := by
  rcases snoc_cases xs with rfl | ⟨ys, t, rfl⟩
  · have e : pieceL [] u v = [(u, v)] := by simp [pieceL]
    rw [e]
    exact ⟨⟨by simpa using huv, by simp⟩, fun x => by rw [memS_cons]; simp [memS_nil], by simp⟩
  · rw [pieceL_snoc]
    obtain ⟨h1, h2, h3⟩ := canon_snoc.1 h
    have hlt := hle t (by simp)
    split
    · rename_i hc
      refine ⟨canon_snoc.2 ⟨h1, by dsimp only; omega, h3⟩, fun x => ?_, fun s hs => ?_⟩
      · rw [memS_append, memS_append, memS_cons, memS_cons]
        simp only [memS_nil, or_false]
        constructor
        · rintro (h4 | ⟨h4, h5⟩)
          · exact .inl (.inl h4)
          · rcases ltOrLe x t.2 with h6 | h6
            · exact .inl (.inr ⟨h4, h6⟩)
            · exact .inr ⟨by omega, by omega⟩
        · rintro ((h4 | ⟨h4, h5⟩) | ⟨h4, h5⟩)
          · exact .inl h4
          · exact .inr ⟨h4, by omega⟩
          · exact .inr ⟨by omega, by omega⟩
      · rcases List.mem_append.1 hs with hs | hs
        · have := hle s (by simp [hs]); omega
        · rw [List.mem_singleton.1 hs]; exact Int.le_refl _
    · rename_i hc
      refine ⟨canon_snoc.2 ⟨h, huv, fun s hs => ?_⟩, fun x => ?_, fun s hs => ?_⟩
      · rcases List.mem_append.1 hs with hs | hs
        · have := h3 s hs; dsimp only; omega
        · rw [List.mem_singleton.1 hs]; dsimp only; omega
      · rw [memS_append, memS_cons]; simp [memS_nil]
      · rcases List.mem_append.1 hs with hs | hs
        · have := hle s hs; omega
        · rw [List.mem_singleton.1 hs]; exact Int.le_refl _
theorem pieceL_length (xs : List Sp) (u v : Int) : (pieceL xs u v).length ≤ xs.length + 1 := by
  unfold pieceL
  split <;> simp
theorem madeTo_length (keep : Int → Bool) (ends : List Int) (k : Nat) : (madeTo keep ends k).length ≤ k := by
  induction k with
  | zero => simp [madeTo]
  | succ k ih =>
    unfold madeTo
    split
    · have := pieceL_length (madeTo keep ends k) (iA ends k) (iA ends (k + 1)); omega
    · omega
theorem iA_get {xs : List Int} {i : Nat} (h : i < xs.length) : iA xs i = xs[i] := by
  simp [iA, List.getD_eq_getElem?_getD, List.getElem?_eq_getElem h]
theorem asc_iA {l : List Int} (h : Asc l) {i j : Nat} (hij : i < j) (hj : j < l.length) : iA l i < iA l j := by
  rw [iA_get (by omega), iA_get hj]
  exact List.pairwise_iff_getElem.1 h i j (by omega) hj hij
theorem madeTo_spec (keep : Int → Bool) (ends : List Int) (ha : Asc ends) (hk : ∀ (i : Nat), i + 1 < ends.length → ∀ x, iA ends i ≤ x → x < iA ends (i + 1) → keep x = keep (iA ends i)) (k : Nat) (hlt : k < ends.length) :
    Canon (madeTo keep ends k) ∧ (∀ x, memS (madeTo keep ends k) x ↔ (iA ends 0 ≤ x ∧ x < iA ends k ∧ keep x = true)) ∧ (∀ s ∈ madeTo keep ends k, s.2 ≤ iA ends k) := by
  induction k with
  | zero => exact ⟨Canon.nil, fun x => ⟨fun h => absurd h (memS_nil x), fun h => by omega⟩, by simp [madeTo]⟩
  | succ k ih =>
    obtain ⟨h1, h2, h3⟩ := ih (by omega)
    have hlt2 := asc_iA ha (show k < k + 1 by omega) hlt
    have h0 : iA ends 0 ≤ iA ends k := by
      rcases Nat.eq_zero_or_pos k with e | e
      · subst e; exact Int.le_refl _
      · exact Int.le_of_lt (asc_iA ha e (by omega))
    unfold madeTo
    split
    · rename_i hc
      obtain ⟨g1, g2, g3⟩ := pieceL_canon h1 hlt2 h3
      refine ⟨g1, fun x => ?_, g3⟩
      rw [g2, h2]
      constructor
      · rintro (⟨p, q, r⟩ | ⟨p, q⟩)
        · exact ⟨p, by omega, r⟩
        · exact ⟨by omega, q, by rw [hk k hlt x p q]; exact hc⟩
      · rintro ⟨p, q, r⟩
        rcases ltOrLe x (iA ends k) with h | h
        · exact .inl ⟨p, h, r⟩
        · exact .inr ⟨h, q⟩
    · rename_i hc
      refine ⟨h1, fun x => ?_, fun s hs => by have := h3 s hs; omega⟩
      rw [h2]
      constructor
      · rintro ⟨p, q, r⟩
        exact ⟨p, by omega, r⟩
      · rintro ⟨p, q, r⟩
        rcases ltOrLe x (iA ends k) with h | h
        · exact ⟨p, h, r⟩
        · rw [hk k hlt x h q] at r
          exact absurd r hc

/-! ### what is made of two lists of spans -/
theorem inB_mem (xs : List Sp) (x : Int) : inB xs x = true ↔ memS xs x := by
  unfold inB memS hasB
  simp
def endsOf (xs ys : List Sp) : List Int := endsTo (endsTo [] xs) ys
def madeL (kind : Int) (xs ys : List Sp) : List Sp := madeTo (fun x => keepB kind (inB xs x) (inB ys x)) (endsOf xs ys) ((endsOf xs ys).length - 1)
theorem no_between {l : List Int} (h : Asc l) {i : Nat} (hi : i + 1 < l.length) {z : Int} (hz : z ∈ l) (h1 : iA l i < z) : iA l (i + 1) ≤ z := by
  obtain ⟨j, hj, rfl⟩ := List.mem_iff_getElem.1 hz
  rw [← iA_get hj] at h1 ⊢
  rcases Nat.lt_trichotomy j (i + 1) with h2 | h2 | h2
  · rcases Nat.lt_trichotomy j i with h3 | h3 | h3
    · have := asc_iA h h3 (by omega); omega
    · subst h3; omega
    · omega
  · subst h2; exact Int.le_refl _
  · exact Int.le_of_lt (asc_iA h h2 hj)
theorem in_same {xs : List Sp} {l : List Int} (h : Asc l) (hm : ∀ s ∈ xs, s.1 ∈ l ∧ s.2 ∈ l) {i : Nat} (hi : i + 1 < l.length) {x : Int} (h1 : iA l i ≤ x) (h2 : x < iA l (i + 1)) : inB xs x = inB xs (iA l i) := by
  rw [Bool.eq_iff_iff, inB_mem, inB_mem]
  unfold memS
  constructor
  · rintro ⟨s, hs, p, q⟩
    refine ⟨s, hs, ?_, by omega⟩
    rcases ltOrLe (iA l i) s.1 with h3 | h3
    · have := no_between h hi (hm s hs).1 h3; omega
    · exact h3
  · rintro ⟨s, hs, p, q⟩
    refine ⟨s, hs, by omega, ?_⟩
    have := no_between h hi (hm s hs).2 q
    omega
theorem madeL_spec (kind : Int) (xs ys : List Sp) :
    Canon (madeL kind xs ys) ∧ (∀ x, memS (madeL kind xs ys) x ↔ keepB kind (inB xs x) (inB ys x) = true) ∧ (madeL kind xs ys).length ≤ 2 * xs.length + 2 * ys.length := by
  obtain ⟨a1, a2, a3⟩ := endsTo_spec xs [] List.Pairwise.nil
  obtain ⟨b1, b2, b3⟩ := endsTo_spec ys (endsTo [] xs) a1
  have hm1 : ∀ s ∈ xs, s.1 ∈ endsOf xs ys ∧ s.2 ∈ endsOf xs ys := fun s hs =>
    ⟨(b2 _).2 (.inl ((a2 _).2 (.inr ⟨s, hs, .inl rfl⟩))), (b2 _).2 (.inl ((a2 _).2 (.inr ⟨s, hs, .inr rfl⟩)))⟩
  have hm2 : ∀ s ∈ ys, s.1 ∈ endsOf xs ys ∧ s.2 ∈ endsOf xs ys := fun s hs =>
    ⟨(b2 _).2 (.inr ⟨s, hs, .inl rfl⟩), (b2 _).2 (.inr ⟨s, hs, .inr rfl⟩)⟩
  have hb1 : Asc (endsOf xs ys) := b1
  have hlen : (endsOf xs ys).length ≤ 2 * xs.length + 2 * ys.length := by unfold endsOf; simp at a3; omega
  have hout : ∀ (zs : List Sp), (∀ s ∈ zs, s.1 ∈ endsOf xs ys ∧ s.2 ∈ endsOf xs ys) → ∀ x, inB zs x = true → 0 < (endsOf xs ys).length ∧ iA (endsOf xs ys) 0 ≤ x ∧ x < iA (endsOf xs ys) ((endsOf xs ys).length - 1) := by
    intro zs hz x hx
    obtain ⟨s, hs, p, q⟩ := (inB_mem _ _).1 hx
    obtain ⟨i, hi, ei⟩ := List.mem_iff_getElem.1 (hz s hs).1
    obtain ⟨j, hj, ej⟩ := List.mem_iff_getElem.1 (hz s hs).2
    rw [← iA_get hi] at ei
    rw [← iA_get hj] at ej
    refine ⟨by omega, ?_, ?_⟩
    · rcases Nat.eq_zero_or_pos i with e | e
      · subst e; omega
      · have := asc_iA hb1 e hi; omega
    · rcases Nat.lt_or_ge j ((endsOf xs ys).length - 1) with e | e
      · have := asc_iA hb1 e (by omega); omega
      · have e : j = (endsOf xs ys).length - 1 := by omega
        rw [← e]; omega
  refine ⟨?_, ?_, ?_⟩
  · rcases Nat.eq_zero_or_pos (endsOf xs ys).length with e | e
    · unfold madeL; rw [e]; exact Canon.nil
    · exact (madeTo_spec _ _ hb1 (fun i hi x p q => by rw [in_same hb1 hm1 hi p q, in_same hb1 hm2 hi p q]) _ (by omega)).1
  · intro x
    have hk : keepB kind (inB xs x) (inB ys x) = true → inB xs x = true ∨ inB ys x = true := by
      unfold keepB
      cases inB xs x <;> cases inB ys x <;> simp
    rcases Nat.eq_zero_or_pos (endsOf xs ys).length with e | e
    · unfold madeL
      rw [e]
      refine ⟨fun h => absurd h (memS_nil x), fun h => ?_⟩
      rcases hk h with h | h
      · have := (hout xs hm1 x h).1; omega
      · have := (hout ys hm2 x h).1; omega
    · unfold madeL
      rw [(madeTo_spec _ _ hb1 (fun i hi x p q => by rw [in_same hb1 hm1 hi p q, in_same hb1 hm2 hi p q]) _ (by omega)).2.1 x]
      constructor
      · exact fun h => h.2.2
      · intro h
        rcases hk h with h1 | h1
        · exact ⟨(hout xs hm1 x h1).2.1, (hout xs hm1 x h1).2.2, h⟩
        · exact ⟨(hout ys hm2 x h1).2.1, (hout ys hm2 x h1).2.2, h⟩
  · have := madeTo_length (fun x => keepB kind (inB xs x) (inB ys x)) (endsOf xs ys) ((endsOf xs ys).length - 1)
    unfold madeL
    omega

end Go.Proofs.YtfahlgjolihmkaaDoor

/- What combine makes of two sets: the pieces of the whole, and the ones that are kept. -/
namespace Go.Proofs.YtfahlgjolihmkaaDoor

theorem inB_cons (s : Sp) (xs : List Sp) (x : Int) : inB (s :: xs) x = (decide (s.1 ≤ x ∧ x < s.2) || inB xs x) := by
  unfold inB
  rfl
theorem strE_cons (s : Sp) (xs : List Sp) (x : Int) : strE (s :: xs) x = if x < s.2 then (if x < s.1 then s.1 else s.2) else strE xs x := by
  unfold strE
  by_cases h : x < s.2
  · rw [List.find?_cons_of_pos (by simpa using h), if_pos h]
  · rw [List.find?_cons_of_neg (by simpa using h), if_neg h]
/-- up to the end of the stretch nothing changes -/
theorem str_same : ∀ (xs : List Sp), Canon xs → ∀ (x y : Int), x ≤ y → y < strE xs x → inB xs y = inB xs x
  | [], _, x, y, _, _ => rfl
  | s :: xs, h, x, y, hxy, hy => by
    have hs := h.head
    have hup : ∀ {z}, inB xs z = true → s.2 < z := fun hz => h.above ((inB_mem _ _).1 hz)
    rw [strE_cons] at hy
    rw [inB_cons, inB_cons]
    by_cases h1 : x < s.2
    · rw [if_pos h1] at hy
      by_cases h2 : x < s.1
      · rw [if_pos h2] at hy
        have e1 : inB xs x = false := by
          cases e : inB xs x
          · rfl
          · have := hup e; omega
        have e2 : inB xs y = false := by
          cases e : inB xs y
          · rfl
          · have := hup e; omega
        rw [e1, e2, decide_eq_false (by omega), decide_eq_false (by omega)]
      · rw [if_neg h2] at hy
        rw [decide_eq_true (show s.1 ≤ y ∧ y < s.2 by omega), decide_eq_true (show s.1 ≤ x ∧ x < s.2 by omega)]
        rfl
    · rw [if_neg h1] at hy
      rw [decide_eq_false (show ¬ (s.1 ≤ y ∧ y < s.2) by omega), decide_eq_false (show ¬ (s.1 ≤ x ∧ x < s.2) by omega), str_same xs h.tail x y hxy hy]
/-- where a stretch ends -/
theorem strE_end : ∀ (xs : List Sp) (x : Int), x < 1099511627776 → x < strE xs x ∧ (strE xs x = 1099511627776 ∨ ∃ s ∈ xs, strE xs x = s.1 ∨ strE xs x = s.2)
  | [], x, h => ⟨h, .inl rfl⟩
  | s :: xs, x, h => by
    rw [strE_cons]
    by_cases h1 : x < s.2
    · rw [if_pos h1]
      by_cases h2 : x < s.1
      · rw [if_pos h2]; exact ⟨h2, .inr ⟨s, by simp, .inl rfl⟩⟩
      · rw [if_neg h2]; exact ⟨h1, .inr ⟨s, by simp, .inr rfl⟩⟩
    · rw [if_neg h1]
      obtain ⟨p, q⟩ := strE_end xs x h
      refine ⟨p, q.imp id fun ⟨t, ht, e⟩ => ⟨t, by simp [ht], e⟩⟩

/-- all places at which a stretch can end -/
def stops (xs ys : List Sp) : List Int := xs.map (·.1) ++ xs.map (·.2) ++ (ys.map (·.1) ++ ys.map (·.2)) ++ [1099511627776]
/-- how many of them are ahead of x -/
def ahead (xs ys : List Sp) (x : Int) : Nat := (stops xs ys).countP fun e => decide (x < e)
theorem ahead_le (xs ys : List Sp) (x : Int) : ahead xs ys x ≤ 2 * xs.length + 2 * ys.length + 1 := by
  have := List.countP_le_length (p := fun e => decide (x < e)) (l := stops xs ys)
  unfold ahead
  have h : (stops xs ys).length = 2 * xs.length + 2 * ys.length + 1 := by simp [stops]; omega
  omega
theorem countP_lt {l : List Int} {x y : Int} (hxy : x < y) (hy : y ∈ l) : l.countP (fun e => decide (y < e)) < l.countP (fun e => decide (x < e)) := by
  induction l with
  | nil => cases hy
  | cons a l ih =>
    have hle : l.countP (fun e => decide (y < e)) ≤ l.countP (fun e => decide (x < e)) :=
      List.countP_mono_left fun e _ h => by have := of_decide_eq_true h; exact decide_eq_true (by omega)
    rw [List.countP_cons, List.countP_cons]
    rcases List.mem_cons.1 hy with e | e
    · subst e
      rw [if_neg (by simp), if_pos (by simpa using hxy)]
      omega
    · have := ih e
      by_cases h1 : y < a
      · rw [if_pos (by simpa using h1), if_pos (by simp; omega)]
        omega
      · rw [if_neg (by simpa using h1)]
        omega

/-- where the piece that begins at x ends -/
def pieceE (xs ys : List Sp) (x : Int) : Int := min (strE xs x) (strE ys x)
theorem pieceE_next {xs ys : List Sp} {x : Int} (h : x < 1099511627776) : x < pieceE xs ys x ∧ pieceE xs ys x ∈ stops xs ys := by
  obtain ⟨a1, a2⟩ := strE_end xs x h
  obtain ⟨b1, b2⟩ := strE_end ys x h
  have m1 : strE xs x ∈ stops xs ys := by
    rcases a2 with e | ⟨s, hs, e | e⟩
    · rw [e]; simp [stops]
    · rw [e]; unfold stops; simp only [List.mem_append, List.mem_map]; exact .inl (.inl (.inl ⟨s, hs, rfl⟩))
    · rw [e]; unfold stops; simp only [List.mem_append, List.mem_map]; exact .inl (.inl (.inr ⟨s, hs, rfl⟩))
  have m2 : strE ys x ∈ stops xs ys := by
    rcases b2 with e | ⟨s, hs, e | e⟩
    · rw [e]; simp [stops]
    · rw [e]; unfold stops; simp only [List.mem_append, List.mem_map]; exact .inl (.inr (.inl ⟨s, hs, rfl⟩))
    · rw [e]; unfold stops; simp only [List.mem_append, List.mem_map]; exact .inl (.inr (.inr ⟨s, hs, rfl⟩))
  unfold pieceE
  refine ⟨by omega, ?_⟩
  rcases Int.le_total (strE xs x) (strE ys x) with h1 | h1
  · rw [Int.min_eq_left h1]; exact m1
  · rw [Int.min_eq_right h1]; exact m2
theorem ahead_next {xs ys : List Sp} {x : Int} (h : x < 1099511627776) : ahead xs ys (pieceE xs ys x) < ahead xs ys x :=
  countP_lt (pieceE_next h).1 (pieceE_next h).2
theorem ahead_pos {xs ys : List Sp} {x : Int} (h : x < 1099511627776) : 0 < ahead xs ys x := by
  have := ahead_next (xs := xs) (ys := ys) h
  omega

/-- the pieces from x on -/
def pcF (xs ys : List Sp) : Nat → Int → List Int
  | 0, _ => []
  | f + 1, x => if x < 1099511627776 then x :: pcF xs ys f (pieceE xs ys x) else []
theorem pcF_end {xs ys : List Sp} {x : Int} (h : ¬ x < 1099511627776) (f : Nat) : pcF xs ys f x = [] := by
  cases f with
  | zero => rfl
  | succ f => unfold pcF; rw [if_neg h]
theorem pcF_step {xs ys : List Sp} {x : Int} (h : x < 1099511627776) {f : Nat} (hf : ahead xs ys x ≤ f) : ∃ f', f = f' + 1 ∧ pcF xs ys f x = x :: pcF xs ys f' (pieceE xs ys x) ∧ ahead xs ys (pieceE xs ys x) ≤ f' := by
  have h1 := ahead_next (xs := xs) (ys := ys) h
  cases f with
  | zero => omega
  | succ f => exact ⟨f, rfl, by show (if x < 1099511627776 then _ else _) = _; rw [if_pos h], by omega⟩
theorem pcF_length (xs ys : List Sp) : ∀ f x, (pcF xs ys f x).length ≤ f
  | 0, _ => by simp [pcF]
  | f + 1, x => by
    unfold pcF
    split
    · have := pcF_length xs ys f (pieceE xs ys x)
      simp only [List.length_cons]
      omega
    · simp
/-- all pieces, by their beginnings -/
def pcL (xs ys : List Sp) : List Int := pcF xs ys (ahead xs ys (-1099511627776)) (-1099511627776)
theorem pcL_length (xs ys : List Sp) : (pcL xs ys).length ≤ 2 * xs.length + 2 * ys.length + 1 :=
  Nat.le_trans (pcF_length _ _ _ _) (ahead_le _ _ _)

/-- the set of the kept ones -/
def combS (keep : Bool → Bool → Bool) (xs ys : List Sp) (out : List Sp) (x : Int) : List Sp := if keep (inB xs x) (inB ys x) then putL out (x, pieceE xs ys x) else out
def combTo (keep : Bool → Bool → Bool) (xs ys : List Sp) (pre : List Int) : List Sp := pre.foldl (combS keep xs ys) []
theorem combTo_snoc (keep : Bool → Bool → Bool) (xs ys : List Sp) (pre : List Int) (x : Int) : combTo keep xs ys (pre ++ [x]) = combS keep xs ys (combTo keep xs ys pre) x := by simp [combTo]
def combL (keep : Bool → Bool → Bool) (xs ys : List Sp) : List Sp := combTo keep xs ys (pcL xs ys)
theorem putL_len (xs : List Sp) (s : Sp) : (putL xs s).length ≤ xs.length + 1 := by
  unfold putL
  split <;> simp
theorem combTo_length (keep : Bool → Bool → Bool) (xs ys : List Sp) (pre : List Int) : (combTo keep xs ys pre).length ≤ pre.length := by
  suffices h : ∀ (pre : List Int) (out : List Sp), (pre.foldl (combS keep xs ys) out).length ≤ out.length + pre.length by
    simpa [combTo] using h pre []
  intro pre
  induction pre with
  | nil => intro out; simp
  | cons x pre ih =>
    intro out
    have h1 := ih (combS keep xs ys out x)
    have h2 : (combS keep xs ys out x).length ≤ out.length + 1 := by
      unfold combS
      split
      · exact putL_len _ _
      · omega
    simp only [List.foldl_cons, List.length_cons]
    omega
theorem comb_run (keep : Bool → Bool → Bool) {xs ys : List Sp} (hx : Canon xs) (hy : Canon ys) : ∀ (f : Nat) (x : Int) (out : List Sp), ahead xs ys x ≤ f → x ≤ 1099511627776 → -1099511627776 ≤ x → Canon out → (∀ t ∈ out, t.1 ≤ x) →
    (∀ z, memS out z ↔ (-1099511627776 ≤ z ∧ z < x ∧ keep (inB xs z) (inB ys z) = true)) → (∀ s ∈ xs, s.2 ≤ 1099511627776) → (∀ s ∈ ys, s.2 ≤ 1099511627776) →
    Canon ((pcF xs ys f x).foldl (combS keep xs ys) out) ∧ ∀ z, memS ((pcF xs ys f x).foldl (combS keep xs ys) out) z ↔ (-1099511627776 ≤ z ∧ z < 1099511627776 ∧ keep (inB xs z) (inB ys z) = true) := by
  intro f
  induction f with
  | zero =>
    intro x out hf hx1 hx0 hc ho hm bx by_
    have : ¬ x < 1099511627776 := fun h => by have := ahead_pos (xs := xs) (ys := ys) h; omega
    obtain rfl : x = 1099511627776 := by omega
    exact ⟨hc, hm⟩
  | succ f ih =>
    intro x out hf hx1 hx0 hc ho hm bx by_
    by_cases h : x < 1099511627776
    · obtain ⟨f', e1, e2, e3⟩ := pcF_step h hf
      obtain rfl : f = f' := by omega
      rw [e2, List.foldl_cons]
      obtain ⟨n1, n2⟩ := pieceE_next (xs := xs) (ys := ys) h
      have hle : pieceE xs ys x ≤ 1099511627776 := by
        have q : ∀ (zs : List Sp), (∀ s ∈ zs, s.2 ≤ 1099511627776) → Canon zs → strE zs x ≤ 1099511627776 := fun zs hz hcz => by
          rcases (strE_end zs x h).2 with e | ⟨s, hs, e | e⟩
          · omega
          · have := hz s hs; have := hcz.1 s hs; omega
          · have := hz s hs; omega
        have := q xs bx hx
        unfold pieceE
        omega
      have same : ∀ z, x ≤ z → z < pieceE xs ys x → keep (inB xs z) (inB ys z) = keep (inB xs x) (inB ys x) := fun z h1 h2 => by
        unfold pieceE at h2
        rw [str_same xs hx x z h1 (by omega), str_same ys hy x z h1 (by omega)]
      cases hk : keep (inB xs x) (inB ys x)
      · have e4 : combS keep xs ys out x = out := by unfold combS; rw [hk]; rfl
        rw [e4]
        refine ih _ out e3 hle (by omega) hc (fun t ht => by have := ho t ht; omega) (fun z => ?_) bx by_
        rw [hm z]
        constructor
        · rintro ⟨p, q, r⟩; exact ⟨p, by omega, r⟩
        · rintro ⟨p, q, r⟩
          rcases ltOrLe z x with h1 | h1
          · exact ⟨p, h1, r⟩
          · rw [same z h1 q, hk] at r; cases r
      · have e4 : combS keep xs ys out x = putL out (x, pieceE xs ys x) := by unfold combS; rw [hk]; rfl
        rw [e4]
        obtain ⟨g1, g2, g3⟩ := putL_canon (s := (x, pieceE xs ys x)) hc n1 ho
        refine ih _ _ e3 hle (by omega) g1 (fun t ht => by have := g3 t ht; dsimp only at this; omega) (fun z => ?_) bx by_
        rw [g2 z, hm z]
        dsimp only
        constructor
        · rintro (⟨p, q, r⟩ | ⟨p, q⟩)
          · exact ⟨p, by omega, r⟩
          · exact ⟨by omega, q, by rw [same z p q]; exact hk⟩
        · rintro ⟨p, q, r⟩
          rcases ltOrLe z x with h1 | h1
          · exact .inl ⟨p, h1, r⟩
          · exact .inr ⟨h1, q⟩
    · obtain rfl : x = 1099511627776 := by omega
      rw [pcF_end h]
      exact ⟨hc, hm⟩
/-- a set: canonical, within the whole -/
def SetS (xs : List Sp) : Prop := Canon xs ∧ ∀ s ∈ xs, okB s.1 s.2 = true
theorem SetS.hi {xs : List Sp} (h : SetS xs) : ∀ s ∈ xs, s.2 ≤ 1099511627776 := fun s hs => (okB_true (h.2 s hs)).2.2
theorem SetS.mem {xs : List Sp} (h : SetS xs) {z : Int} (hz : inB xs z = true) : -1099511627776 ≤ z ∧ z < 1099511627776 := by
  obtain ⟨s, hs, p, q⟩ := (inB_mem _ _).1 hz
  have := okB_true (h.2 s hs)
  omega
theorem canon_set {xs : List Sp} (h : Canon xs) (hm : ∀ z, memS xs z → -1099511627776 ≤ z ∧ z < 1099511627776) : SetS xs := by
  refine ⟨h, fun s hs => okB_mk ?_⟩
  have h1 := h.1 s hs
  have h2 := hm s.1 ⟨s, hs, Int.le_refl _, h1⟩
  have h3 := hm (s.2 - 1) ⟨s, hs, by omega, by omega⟩
  omega
theorem combL_spec (keep : Bool → Bool → Bool) {xs ys : List Sp} (hx : SetS xs) (hy : SetS ys) :
    SetS (combL keep xs ys) ∧ (∀ z, memS (combL keep xs ys) z ↔ (-1099511627776 ≤ z ∧ z < 1099511627776 ∧ keep (inB xs z) (inB ys z) = true)) ∧ (combL keep xs ys).length ≤ 2 * xs.length + 2 * ys.length + 1 := by
  have h := comb_run keep hx.1 hy.1 (ahead xs ys (-1099511627776)) (-1099511627776) [] (Nat.le_refl _) (by decide) (Int.le_refl _) Canon.nil (by simp) (fun z => ⟨fun h => absurd h (memS_nil z), fun h => by omega⟩) hx.hi hy.hi
  exact ⟨canon_set h.1 fun z hz => by have := (h.2 z).1 hz; omega, h.2, Nat.le_trans (combTo_length _ _ _ _) (pcL_length _ _)⟩
theorem setB_set {xs : List Sp} (h : setB xs = true) : SetS xs ∧ xs.length ≤ 128 := by
  obtain ⟨h1, h2⟩ := setB_true h
  exact ⟨setTo_canon h2, h1⟩
theorem set_setB {xs : List Sp} (h : SetS xs) (hl : xs.length ≤ 128) : setB xs = true := by
  unfold setB
  exact decide_eq_true ⟨hl, canon_setTo h.1 h.2⟩
theorem madeL_set (kind : Int) {xs ys : List Sp} (h : ∀ z, keepB kind (inB xs z) (inB ys z) = true → -1099511627776 ≤ z ∧ z < 1099511627776) : SetS (madeL kind xs ys) :=
  canon_set (madeL_spec kind xs ys).1 fun z hz => h z (((madeL_spec kind xs ys).2.1 z).1 hz)

/-- the specification's set of two is what combine makes -/
theorem two_same {kind : Int} {keep : Bool → Bool → Bool} {xs ys : List Sp} (hx : SetS xs) (hy : SetS ys) (hk : ∀ p q, keep p q = keepB kind p q) : madeL kind xs ys = combL keep xs ys := by
  refine canon_ext (madeL_spec kind xs ys).1 (combL_spec keep hx hy).1.1 fun z => ?_
  rw [(madeL_spec kind xs ys).2.1 z, (combL_spec keep hx hy).2.1 z, hk]
  constructor
  · intro h
    have : -1099511627776 ≤ z ∧ z < 1099511627776 := by
      have h0 := h
      unfold keepB at h
      cases e1 : inB xs z
      · cases e2 : inB ys z
        · rw [e1, e2] at h; simp at h
        · exact hy.mem e2
      · exact hx.mem e1
    exact ⟨this.1, this.2, h⟩
  · exact fun h => h.2.2
def wholeL : List Sp := [(-1099511627776, 1099511627776)]
theorem whole_in (z : Int) : inB wholeL z = decide (-1099511627776 ≤ z ∧ z < 1099511627776) := by
  unfold wholeL
  rw [inB_cons]
  simp [inB]
theorem whole_set : SetS wholeL := ⟨⟨by simp [wholeL], by simp [wholeL]⟩, by simp [wholeL]; decide⟩
theorem not_same {xs : List Sp} (hx : SetS xs) : madeL 2 wholeL xs = combL (fun p _ => !p) xs [] := by
  refine canon_ext (madeL_spec 2 wholeL xs).1 (combL_spec _ hx ⟨Canon.nil, by simp⟩).1.1 fun z => ?_
  rw [(madeL_spec 2 wholeL xs).2.1 z, (combL_spec _ hx ⟨Canon.nil, by simp⟩).2.1 z, whole_in]
  unfold keepB
  simp [and_assoc]

end Go.Proofs.YtfahlgjolihmkaaDoor

/- What resize makes of a set, and the specification's Grow and Shrink. -/
namespace Go.Proofs.YtfahlgjolihmkaaDoor

/-- one more span, changed, dropped where nothing is left of it -/
def resS (f : Sp → Sp) (out : List Sp) (s : Sp) : List Sp := if (f s).1 < (f s).2 then putL out (f s) else out
def resTo (f : Sp → Sp) (xs : List Sp) : List Sp := xs.foldl (resS f) []
theorem resTo_snoc (f : Sp → Sp) (xs : List Sp) (s : Sp) : resTo f (xs ++ [s]) = resS f (resTo f xs) s := by simp [resTo]
theorem resS_length (f : Sp → Sp) (out : List Sp) (s : Sp) : (resS f out s).length ≤ out.length + 1 := by
  unfold resS
  split
  · exact putL_len _ _
  · omega
theorem resTo_length (f : Sp → Sp) (xs : List Sp) : (resTo f xs).length ≤ xs.length := by
  suffices h : ∀ (pre : List Sp) (out : List Sp), (pre.foldl (resS f) out).length ≤ out.length + pre.length by
    simpa [resTo] using h xs []
  intro pre
  induction pre with
  | nil => intro out; simp
  | cons x pre ih =>
    intro out
    have h1 := ih (resS f out x)
    have h2 := resS_length f out x
    simp only [List.foldl_cons, List.length_cons]
    omega
theorem res_run (f : Sp → Sp) : ∀ (xs : List Sp) (out : List Sp), Canon out → xs.Pairwise (fun s t => (f s).1 ≤ (f t).1) → (∀ t ∈ out, ∀ s ∈ xs, t.1 ≤ (f s).1) →
    Canon (xs.foldl (resS f) out) ∧ ∀ z, memS (xs.foldl (resS f) out) z ↔ (memS out z ∨ ∃ s ∈ xs, (f s).1 ≤ z ∧ z < (f s).2)
  | [], out, hc, _, _ => ⟨hc, fun z => by simp⟩
  | s :: xs, out, hc, hp, ho => by
    obtain ⟨p1, p2⟩ := List.pairwise_cons.1 hp
    rw [List.foldl_cons]
    by_cases h : (f s).1 < (f s).2
    · have e : resS f out s = putL out (f s) := by unfold resS; rw [if_pos h]
      rw [e]
      obtain ⟨g1, g2, g3⟩ := putL_canon (s := f s) hc h (fun t ht => ho t ht s (by simp))
      obtain ⟨r1, r2⟩ := res_run f xs _ g1 p2 (fun t ht u hu => Int.le_trans (g3 t ht) (p1 u hu))
      refine ⟨r1, fun z => ?_⟩
      rw [r2 z, g2 z]
      simp only [List.mem_cons, exists_eq_or_imp, or_assoc]
    · have e : resS f out s = out := by unfold resS; rw [if_neg h]
      rw [e]
      obtain ⟨r1, r2⟩ := res_run f xs out hc p2 (fun t ht u hu => ho t ht u (by simp [hu]))
      refine ⟨r1, fun z => ?_⟩
      rw [r2 z]
      simp only [List.mem_cons, exists_eq_or_imp]
      constructor
      · rintro (h1 | h1)
        · exact .inl h1
        · exact .inr (.inr h1)
      · rintro (h1 | h1 | h1)
        · exact .inl h1
        · omega
        · exact .inr h1
theorem resTo_spec {f : Sp → Sp} {xs : List Sp} (h : xs.Pairwise fun s t => (f s).1 ≤ (f t).1) : Canon (resTo f xs) ∧ ∀ z, memS (resTo f xs) z ↔ ∃ s ∈ xs, (f s).1 ≤ z ∧ z < (f s).2 := by
  obtain ⟨h1, h2⟩ := res_run f xs [] Canon.nil h (by simp)
  exact ⟨h1, fun z => by rw [show resTo f xs = xs.foldl (resS f) [] from rfl, h2 z]; simp [memS_nil]⟩

/-- wider by r, within the whole -/
def growF (r : Int) (s : Sp) : Sp := (max (s.1 - r) (-1099511627776), min (s.2 + r) 1099511627776)
/-- narrower by r, but not at the ends of the whole -/
def shrinkF (r : Int) (s : Sp) : Sp := (if -1099511627776 < s.1 then s.1 + r else s.1, if s.2 < 1099511627776 then s.2 - r else s.2)
theorem canon_asc {xs : List Sp} (h : Canon xs) : xs.Pairwise fun s t => s.1 < s.2 ∧ s.2 < t.1 := by
  refine List.Pairwise.imp_of_mem ?_ h.2
  intro s t hs _ hst
  exact ⟨h.1 s hs, hst⟩
theorem grow_spec {xs : List Sp} (h : SetS xs) {r : Int} (hr : 0 ≤ r) : SetS (resTo (growF r) xs) ∧ (∀ z, memS (resTo (growF r) xs) z ↔ (-1099511627776 ≤ z ∧ z < 1099511627776 ∧ ∃ y, memS xs y ∧ z - r ≤ y ∧ y ≤ z + r)) := by
  obtain ⟨h1, h2⟩ := resTo_spec (f := growF r) (xs := xs) ((canon_asc h.1).imp fun {s t} hst => by unfold growF; dsimp only; omega)
  have hm : ∀ z, memS (resTo (growF r) xs) z ↔ (-1099511627776 ≤ z ∧ z < 1099511627776 ∧ ∃ y, memS xs y ∧ z - r ≤ y ∧ y ≤ z + r) := fun z => by
    rw [h2 z]
    constructor
    · rintro ⟨s, hs, p, q⟩
      have hb := okB_true (h.2 s hs)
      unfold growF at p q
      dsimp only at p q
      refine ⟨by omega, by omega, ?_⟩
      rcases ltOrLe z s.1 with h3 | h3
      · exact ⟨s.1, ⟨s, hs, Int.le_refl _, hb.2.1⟩, by omega, by omega⟩
      · rcases ltOrLe z s.2 with h4 | h4
        · exact ⟨z, ⟨s, hs, h3, h4⟩, by omega, by omega⟩
        · exact ⟨s.2 - 1, ⟨s, hs, by omega, by omega⟩, by omega, by omega⟩
    · rintro ⟨p, q, y, ⟨s, hs, h3, h4⟩, h5, h6⟩
      refine ⟨s, hs, ?_, ?_⟩ <;> (unfold growF; dsimp only; omega)
  exact ⟨canon_set h1 fun z hz => by have := (hm z).1 hz; omega, hm⟩
theorem canon_gap {xs : List Sp} (h : Canon xs) {s : Sp} (hs : s ∈ xs) : ¬ memS xs (s.1 - 1) ∧ ¬ memS xs s.2 := by
  induction xs with
  | nil => cases hs
  | cons t xs ih =>
    have ht := h.head
    rcases List.mem_cons.1 hs with e | e
    · subst e
      refine ⟨fun hm => ?_, fun hm => ?_⟩
      · rcases (memS_cons _ _ _).1 hm with h1 | h1
        · omega
        · have := h.above h1; omega
      · rcases (memS_cons _ _ _).1 hm with h1 | h1
        · omega
        · have := h.above h1; omega
    · obtain ⟨i1, i2⟩ := ih h.tail e
      have hst := (List.pairwise_cons.1 h.2).1 s e
      have hss := h.tail.1 s e
      refine ⟨fun hm => ?_, fun hm => ?_⟩
      · rcases (memS_cons _ _ _).1 hm with h1 | h1
        · omega
        · exact i1 h1
      · rcases (memS_cons _ _ _).1 hm with h1 | h1
        · omega
        · exact i2 h1
theorem shrink_spec {xs : List Sp} (h : SetS xs) {r : Int} (hr : 0 ≤ r) : SetS (resTo (shrinkF r) xs) ∧
    (∀ z, memS (resTo (shrinkF r) xs) z ↔ (-1099511627776 ≤ z ∧ z < 1099511627776 ∧ ∀ y, -1099511627776 ≤ y → y < 1099511627776 → z - r ≤ y → y ≤ z + r → memS xs y)) := by
  obtain ⟨h1, h2⟩ := resTo_spec (f := shrinkF r) (xs := xs) ((canon_asc h.1).imp_of_mem fun {s t} hs ht hst => by
    have := okB_true (h.2 s hs)
    unfold shrinkF
    dsimp only
    split <;> split <;> omega)
  have hm : ∀ z, memS (resTo (shrinkF r) xs) z ↔ (-1099511627776 ≤ z ∧ z < 1099511627776 ∧ ∀ y, -1099511627776 ≤ y → y < 1099511627776 → z - r ≤ y → y ≤ z + r → memS xs y) := fun z => by
    rw [h2 z]
    constructor
    · rintro ⟨s, hs, p, q⟩
      have hb := okB_true (h.2 s hs)
      unfold shrinkF at p q
      dsimp only at p q
      have hp : s.1 ≤ z := by split at p <;> omega
      have hq : z < s.2 := by split at q <;> omega
      refine ⟨by omega, by omega, fun y h3 h4 h5 h6 => ⟨s, hs, ?_, ?_⟩⟩
      · split at p <;> omega
      · split at q <;> omega
    · rintro ⟨p, q, hall⟩
      obtain ⟨s, hs, h3, h4⟩ := hall z p q (by omega) (by omega)
      have hg := canon_gap h.1 hs
      have hb := okB_true (h.2 s hs)
      refine ⟨s, hs, ?_, ?_⟩
      · unfold shrinkF
        dsimp only
        split
        · rcases ltOrLe z (s.1 + r) with h5 | h5
          · exact absurd (hall (s.1 - 1) (by omega) (by omega) (by omega) (by omega)) hg.1
          · exact h5
        · exact h3
      · unfold shrinkF
        dsimp only
        split
        · rcases ltOrLe z (s.2 - r) with h5 | h5
          · exact h5
          · exact absurd (hall s.2 (by omega) (by omega) (by omega) (by omega)) hg.2
        · exact h4
  exact ⟨canon_set h1 fun z hz => by have := (hm z).1 hz; omega, hm⟩

/-- the specification's grown -/
def grownL (xs : List Sp) (r : Int) : List Sp := madeL 0 (xs.map fun s => (max (-1099511627776) (s.1 - r), min 1099511627776 (s.2 + r))) []
theorem inB_nil (z : Int) : inB [] z = false := rfl
theorem grownL_mem {xs : List Sp} (h : SetS xs) {r : Int} (hr : 0 ≤ r) (z : Int) : memS (grownL xs r) z ↔ (-1099511627776 ≤ z ∧ z < 1099511627776 ∧ ∃ y, memS xs y ∧ z - r ≤ y ∧ y ≤ z + r) := by
  rw [← (grow_spec h hr).2 z, (resTo_spec (f := growF r) (xs := xs) ((canon_asc h.1).imp fun {s t} hst => by unfold growF; dsimp only; omega)).2 z]
  unfold grownL
  rw [(madeL_spec 0 _ []).2.1 z, inB_nil]
  unfold keepB
  simp only [if_true, Bool.or_false]
  rw [inB_mem]
  unfold memS growF
  simp only [List.mem_map]
  constructor
  · rintro ⟨_, ⟨s, hs, rfl⟩, p, q⟩
    dsimp only at p q
    exact ⟨s, hs, by omega, by omega⟩
  · rintro ⟨s, hs, p, q⟩
    skip
    exact ⟨_, ⟨s, hs, rfl⟩, by dsimp only; omega, by dsimp only; omega⟩
theorem grow_same {xs : List Sp} (h : SetS xs) {r : Int} (hr : 0 ≤ r) : grownL xs r = resTo (growF r) xs :=
  canon_ext (madeL_spec 0 _ []).1 (grow_spec h hr).1.1 fun z => by rw [(grow_spec h hr).2 z]; exact grownL_mem h hr z
theorem shrink_same {xs : List Sp} (h : SetS xs) {r : Int} (hr : 0 ≤ r) : madeL 2 wholeL (grownL (madeL 2 wholeL xs) r) = resTo (shrinkF r) xs := by
  have hout : SetS (madeL 2 wholeL xs) := madeL_set 2 fun z hz => by
    unfold keepB at hz
    rw [whole_in] at hz
    simp at hz
    exact hz.1
  have hmo : ∀ z, memS (madeL 2 wholeL xs) z ↔ (-1099511627776 ≤ z ∧ z < 1099511627776 ∧ ¬ memS xs z) := fun z => by
    rw [(madeL_spec 2 wholeL xs).2.1 z, whole_in, ← inB_mem]
    unfold keepB
    simp [and_assoc]
  refine canon_ext (madeL_spec 2 _ _).1 (shrink_spec h hr).1.1 fun z => ?_
  rw [(shrink_spec h hr).2 z, (madeL_spec 2 _ _).2.1 z, whole_in]
  have hg := grownL_mem hout hr z
  rw [← inB_mem] at hg
  unfold keepB
  simp only [show ¬ ((2 : Int) = 0) by decide, show ¬ ((2 : Int) = 1) by decide, if_false, Bool.and_eq_true, decide_eq_true_eq, Bool.not_eq_true', and_assoc]
  refine and_congr_right fun p => and_congr_right fun q => ?_
  rw [← Bool.not_eq_true, hg]
  constructor
  · intro hn y h1 h2 h3 h4
    apply Classical.byContradiction
    intro hy
    exact hn ⟨p, q, y, (hmo y).2 ⟨h1, h2, hy⟩, h3, h4⟩
  · rintro hall ⟨_, _, y, hy, h3, h4⟩
    obtain ⟨h1, h2, h5⟩ := (hmo y).1 hy
    exact h5 (hall y h1 h2 h3 h4)
theorem shrink_length (xs : List Sp) (r : Int) : (resTo (shrinkF r) xs).length ≤ xs.length := resTo_length _ _

end Go.Proofs.YtfahlgjolihmkaaDoor

/- The set that Of makes is the specification's; there is an order of every list. -/
namespace Go.Proofs.YtfahlgjolihmkaaDoor

theorem nodup_inj {L : List Nat} (h : L.Nodup) {i j : Nat} (hi : i < L.length) (hj : j < L.length) (e : L[i] = L[j]) : i = j := by
  have hp := List.pairwise_iff_getElem.1 h
  rcases Nat.lt_trichotomy i j with h1 | h1 | h1
  · exact absurd e (hp i j hi hj h1)
  · exact h1
  · exact absurd e.symm (hp j i hj hi h1)
theorem ord_exists (kf : Nat → Int) (n : Nat) : ∃ d, IsOrd kf n d := by
  obtain ⟨L, hL⟩ : ∃ L, L = (List.range n).mergeSort (fun u v => decide (kf u < kf v ∨ (kf u = kf v ∧ u ≤ v))) := ⟨_, rfl⟩
  have hp : L.Perm (List.range n) := by rw [hL]; exact List.mergeSort_perm _ _
  have hs : L.Pairwise (fun u v => decide (kf u < kf v ∨ (kf u = kf v ∧ u ≤ v)) = true) := by
    rw [hL]
    refine List.pairwise_mergeSort (fun a b c h1 h2 => ?_) (fun a b => ?_) _
    · simp at h1 h2 ⊢; omega
    · simp; omega
  have hn : L.Nodup := hp.nodup_iff.2 List.nodup_range
  have hl : L.length = n := by rw [hp.length_eq]; simp
  have hlt : ∀ k (hk : k < n), L[k]'(by omega) < n := fun k hk => List.mem_range.1 (hp.mem_iff.1 (List.getElem_mem _))
  refine ⟨fun k => if h : k < n then L[k]'(by omega) else k, ⟨fun k => if h : k < n then L[k]'(by omega) else k, fun k _ hk => ?_, fun k k' _ hk _ hk' he => ?_, fun k _ hk => rfl, fun k hk => ?_⟩, fun k k' _ h1 h2 => ?_⟩
  · dsimp only
    rw [dif_pos hk]
    exact ⟨Nat.zero_le _, hlt k hk⟩
  · dsimp only at he
    rw [dif_pos hk, dif_pos hk'] at he
    exact nodup_inj hn _ _ he
  · dsimp only
    rw [dif_neg (by omega)]
  · dsimp only
    rw [dif_pos (by omega), dif_pos h2]
    have h3 := of_decide_eq_true (List.pairwise_iff_getElem.1 hs k k' (by omega) (by omega) h1)
    have h4 : L[k]'(by omega) ≠ L[k']'(by omega) := fun e => by
      have := nodup_inj hn _ _ e
      omega
    unfold lexL
    omega
theorem ordF_ord (kf : Nat → Int) (n : Nat) : IsOrd kf n (ordF kf n) := by
  obtain ⟨d, h⟩ := ord_exists kf n
  exact (ordF_eq h).1

theorem check_ok {xs : List Sp} (h : checkE xs = 0) : xs.length ≤ 128 ∧ okTo xs xs.length := by
  unfold checkE at h
  split at h
  · omega
  · split at h
    · exact ⟨by omega, by assumption⟩
    · omega
theorem ok_mem {xs : List Sp} (h : okTo xs xs.length) : ∀ s ∈ xs, okB s.1 s.2 = true := fun s hs => by
  obtain ⟨k, hk, e1, e2⟩ := mem_getD hs
  have := h k hk
  rwa [e1, e2] at this

/-- the spans in their order by a key of theirs -/
noncomputable def sortL (kf : Int → Int → Int) (xs : List Sp) : List Sp := (List.finRange xs.length).map fun x => (loA xs (ordF (keyA kf xs) xs.length x.1), hiA xs (ordF (keyA kf xs) xs.length x.1))
theorem sortL_mem (kf : Int → Int → Int) (xs : List Sp) (s : Sp) : s ∈ sortL kf xs ↔ s ∈ xs := by
  have ho := ordF_ord (keyA kf xs) xs.length
  unfold sortL
  rw [List.mem_map]
  constructor
  · rintro ⟨x, _, rfl⟩
    have hlt := ho.lt x.2
    rw [(loA_get hlt).1, (loA_get hlt).2]
    exact List.getElem_mem hlt
  · intro hs
    obtain ⟨i, hi, rfl⟩ := List.mem_iff_getElem.1 hs
    obtain ⟨k, hk, e⟩ := ho.onto hi
    exact ⟨⟨k, hk⟩, List.mem_finRange _, by dsimp only; rw [e, (loA_get hi).1, (loA_get hi).2]⟩
theorem sortL_asc (kf : Int → Int → Int) (xs : List Sp) : (sortL kf xs).Pairwise fun s t => kf s.1 s.2 ≤ kf t.1 t.2 := by
  have ho := ordF_ord (keyA kf xs) xs.length
  unfold sortL
  rw [List.pairwise_map, List.pairwise_iff_getElem]
  intro i j hi hj hij
  have h := ho.2 i j (Nat.zero_le _) hij (by simpa using hj)
  simp only [List.getElem_finRange]
  simp only [Fin.cast]
  have h2 : keyA kf xs (ordF (keyA kf xs) xs.length i) ≤ keyA kf xs (ordF (keyA kf xs) xs.length j) := by
    unfold lexL at h
    omega
  exact h2
theorem fold_put {L : List Sp} (h : ∀ s ∈ L, s.1 < s.2) (out : List Sp) : L.foldl putL out = L.foldl (resS id) out := by
  induction L generalizing out with
  | nil => rfl
  | cons s L ih =>
    rw [List.foldl_cons, List.foldl_cons, ih (fun t ht => h t (by simp [ht]))]
    congr 1
    unfold resS
    rw [if_pos (show (id s : Sp).1 < (id s : Sp).2 from h s (by simp))]
    rfl
theorem ofL_sort (xs : List Sp) : ofL xs = (sortL (fun a _ => a) xs).foldl putL [] := by
  unfold ofL ofTo sortL
  rw [ups_all, List.foldl_map]
theorem ofL_spec {xs : List Sp} (h : okTo xs xs.length) : SetS (ofL xs) ∧ ∀ z, memS (ofL xs) z ↔ memS xs z := by
  have hok := ok_mem h
  have hs := resTo_spec (f := id) (xs := sortL (fun a _ => a) xs) (sortL_asc (fun a _ => a) xs)
  have e : ofL xs = resTo id (sortL (fun a _ => a) xs) := by
    rw [ofL_sort, fold_put (fun s hs => (okB_true (hok s ((sortL_mem _ _ _).1 hs))).2.1)]
    rfl
  have hm : ∀ z, memS (ofL xs) z ↔ memS xs z := fun z => by
    rw [e, hs.2 z]
    unfold memS
    simp only [sortL_mem, id_eq]
  refine ⟨canon_set (by rw [e]; exact hs.1) fun z hz => ?_, hm⟩
  obtain ⟨s, hs', p, q⟩ := (hm z).1 hz
  have := okB_true (hok s hs')
  omega
theorem ofV_same (xs : List Sp) : ofV xs = if checkE xs = 0 then madeL 0 xs [] else [] := by
  unfold ofV
  split
  · rename_i h
    obtain ⟨h1, h2⟩ := check_ok h
    refine canon_ext (ofL_spec h2).1.1 (madeL_spec 0 xs []).1 fun z => ?_
    rw [(ofL_spec h2).2 z, (madeL_spec 0 xs []).2.1 z, inB_nil, ← inB_mem]
    unfold keepB
    simp
  · rfl
theorem ofV_set (xs : List Sp) : SetS (ofV xs) := by
  unfold ofV
  split
  · rename_i h; exact (ofL_spec (check_ok h).2).1
  · exact ⟨Canon.nil, by simp⟩
theorem ofV_length (xs : List Sp) : (ofV xs).length ≤ xs.length := by
  unfold ofV
  split
  · unfold ofL
    have := ofTo_length xs (ups xs.length xs.length)
    rwa [ups_length (Nat.le_refl _)] at this
  · simp

end Go.Proofs.YtfahlgjolihmkaaDoor
