/- The specification's way to make a set of two: the ends in order, and the pieces between them. -/
import Derived.Test.YtikfiofjhmeheaaN0
namespace Go.Proofs.Ytikfiofjhmeheaa

/-! ### ascending numbers with one more -/
def insStep (x : Int) (p : List Int × Bool) (y : Int) : List Int × Bool :=
  let q := if p.2 = false ∧ x ≤ y then (p.1 ++ [x], true) else p
  if y = x then q else (q.1 ++ [y], q.2)
def insTo (x : Int) (l : List Int) : List Int × Bool := l.foldl (insStep x) ([], false)
/-- ascending numbers with one more -/
def insN (l : List Int) (x : Int) : List Int := if (insTo x l).2 then (insTo x l).1 else (insTo x l).1 ++ [x]
theorem insTo_snoc (x : Int) (l : List Int) (y : Int) : insTo x (l ++ [y]) = insStep x (insTo x l) y := by simp [insTo]

def Asc (l : List Int) : Prop := l.Pairwise (· < ·)
theorem asc_snoc {l : List Int} {y : Int} : Asc (l ++ [y]) ↔ Asc l ∧ ∀ z ∈ l, z < y := by
  unfold Asc
  rw [List.pairwise_append]
  simp
theorem snocI (l : List Int) : l = [] ∨ ∃ k y, l = k ++ [y] := by
  rcases List.eq_nil_or_concat l with h | ⟨ys, t, h⟩
  · exact .inl h
  · exact .inr ⟨ys, t, by simpa using h⟩
theorem insTo_spec (x : Int) (l : List Int) (h : Asc l) :
    Asc (insTo x l).1 ∧ (∀ z, z ∈ (insTo x l).1 ↔ (z ∈ l ∨ ((insTo x l).2 = true ∧ z = x))) ∧ ((insTo x l).2 = false → ∀ z ∈ l, z < x) ∧ ((insTo x l).2 = true → ∃ y ∈ l, x ≤ y) := by
  induction hn : l.length generalizing l with
  | zero =>
    obtain rfl := List.eq_nil_of_length_eq_zero hn
    simp [insTo, Asc]
  | succ n ih =>
    rcases snocI l with rfl | ⟨k, y, rfl⟩
    · simp at hn
    · obtain ⟨hk, hy⟩ := asc_snoc.1 h
      obtain ⟨h1, h2, h3, h4⟩ := ih k hk (by simpa using hn)
      rw [insTo_snoc]
      generalize insTo x k = p at h1 h2 h3 h4 ⊢
      obtain ⟨o, d⟩ := p
      dsimp only at h1 h2 h3 h4
      have hlt : ∀ z ∈ o, z ≠ x → z < y := fun z hz hzx => by
        rcases (h2 z).1 hz with h | ⟨_, h⟩
        · exact hy z h
        · exact absurd h hzx
      unfold insStep
      cases d
      · have h3' := h3 rfl
        have ho : ∀ z ∈ o, z ∈ k := fun z hz => by
          rcases (h2 z).1 hz with h | ⟨h, _⟩
          · exact h
          · cases h
        by_cases hxy : x ≤ y
        · simp only [hxy, and_self, if_true]
          have hox : Asc (o ++ [x]) := asc_snoc.2 ⟨h1, fun z hz => h3' z (ho z hz)⟩
          by_cases he : y = x
          · subst he
            simp only [if_true]
            refine ⟨hox, fun z => ?_, (fun h => (by cases h)), fun _ => ⟨y, by simp, by omega⟩⟩
            simp only [List.mem_append, List.mem_singleton, true_and, or_assoc, or_self]
            have := h2 z
            simp at this
            rw [this]
          · rw [if_neg he]
            refine ⟨asc_snoc.2 ⟨hox, fun z hz => ?_⟩, fun z => ?_, (fun h => (by cases h)), fun _ => ⟨y, by simp, hxy⟩⟩
            · rcases List.mem_append.1 hz with hz | hz
              · exact hy z (ho z hz)
              · rw [List.mem_singleton.1 hz]; omega
            · simp only [List.mem_append, List.mem_singleton, true_and]
              have := h2 z
              simp at this
              rw [this]
              constructor
              · rintro ((h | h) | h)
                · exact .inl (.inl h)
                · exact .inr h
                · exact .inl (.inr h)
              · rintro ((h | h) | h)
                · exact .inl (.inl h)
                · exact .inr h
                · exact .inl (.inr h)
        · have he : ¬ y = x := by omega
          simp only [hxy, and_false, if_false, he]
          refine ⟨asc_snoc.2 ⟨h1, fun z hz => hy z (ho z hz)⟩, fun z => ?_, fun _ z hz => ?_, (fun h => (by cases h))⟩
          · have := h2 z
            simp at this
            simp [this]
          · rcases List.mem_append.1 hz with hz | hz
            · exact h3' z hz
            · rw [List.mem_singleton.1 hz]; omega
      · obtain ⟨u, hu, hxu⟩ := h4 rfl
        have hxy : x < y := by have := hy u hu; omega
        have he : ¬ y = x := by omega
        simp only [Bool.true_eq_false, false_and, if_false, he]
        refine ⟨asc_snoc.2 ⟨h1, fun z hz => ?_⟩, fun z => ?_, (fun h => (by cases h)), fun _ => ⟨u, by simp [hu], hxu⟩⟩
        · rcases (h2 z).1 hz with h | ⟨_, h⟩
          · exact hy z h
          · omega
        · simp only [List.mem_append, List.mem_singleton, true_and, h2 z]
          constructor
          · rintro ((h | h) | h)
            · exact .inl (.inl h)
            · exact .inr h
            · exact .inl (.inr h)
          · rintro ((h | h) | h)
            · exact .inl (.inl h)
            · exact .inr h
            · exact .inl (.inr h)
theorem insN_spec (x : Int) (l : List Int) (h : Asc l) : Asc (insN l x) ∧ ∀ z, z ∈ insN l x ↔ (z ∈ l ∨ z = x) := by
  obtain ⟨h1, h2, h3, h4⟩ := insTo_spec x l h
  unfold insN
  split
  · rename_i hd
    exact ⟨h1, fun z => by rw [h2 z, hd]; simp⟩
  · rename_i hd
    have hd : (insTo x l).2 = false := by simpa using hd
    refine ⟨asc_snoc.2 ⟨h1, fun z hz => ?_⟩, fun z => ?_⟩
    · rcases (h2 z).1 hz with h | ⟨h, _⟩
      · exact h3 hd z h
      · rw [hd] at h; cases h
    · rw [List.mem_append, List.mem_singleton, h2 z, hd]
      simp
theorem insTo_length (x : Int) (l : List Int) : (insTo x l).1.length ≤ l.length + (if (insTo x l).2 then 1 else 0) := by
  induction hn : l.length generalizing l with
  | zero =>
    obtain rfl := List.eq_nil_of_length_eq_zero hn
    simp [insTo]
  | succ n ih =>
    rcases snocI l with rfl | ⟨k, y, rfl⟩
    · simp at hn
    · have := ih k (by simpa using hn)
      rw [insTo_snoc]
      generalize insTo x k = p at this ⊢
      obtain ⟨o, d⟩ := p
      have hk : k.length = n := by simpa using hn
      unfold insStep
      cases d
      · by_cases h1 : x ≤ y
        · by_cases h2 : y = x <;> simp [h1, h2] at this ⊢ <;> omega
        · by_cases h2 : y = x <;> simp [h1, h2] at this ⊢ <;> omega
      · by_cases h2 : y = x <;> simp [h2] at this ⊢ <;> omega
theorem insN_length (l : List Int) (x : Int) : (insN l x).length ≤ l.length + 1 := by
  have := insTo_length x l
  unfold insN
  split
  · rename_i h; rw [h] at this; simpa using this
  · rename_i h; simp [h] at this; simpa using this

/-- both ends of the first spans, in order -/
def endsTo (l : List Int) (xs : List Sp) : List Int := xs.foldl (fun l s => insN (insN l s.1) s.2) l
theorem endsTo_snoc (l : List Int) (xs : List Sp) (s : Sp) : endsTo l (xs ++ [s]) = insN (insN (endsTo l xs) s.1) s.2 := by simp [endsTo]
theorem endsTo_spec : ∀ (xs : List Sp) (l : List Int), Asc l → Asc (endsTo l xs) ∧ (∀ z, z ∈ endsTo l xs ↔ (z ∈ l ∨ ∃ s ∈ xs, z = s.1 ∨ z = s.2)) ∧ (endsTo l xs).length ≤ l.length + 2 * xs.length
  | [], l, h => ⟨h, fun z => by simp [endsTo], by simp [endsTo]⟩
  | s :: xs, l, h => by
    have h1 := insN_spec s.1 l h
    have h2 := insN_spec s.2 (insN l s.1) h1.1
    have h3 := endsTo_spec xs (insN (insN l s.1) s.2) h2.1
    have e : endsTo l (s :: xs) = endsTo (insN (insN l s.1) s.2) xs := rfl
    rw [e]
    refine ⟨h3.1, fun z => ?_, ?_⟩
    · rw [h3.2.1 z, h2.2 z, h1.2 z]
      simp only [List.mem_cons, exists_eq_or_imp]
      constructor
      · rintro (((h | h) | h) | h)
        · exact .inl h
        · exact .inr (.inl (.inl h))
        · exact .inr (.inl (.inr h))
        · exact .inr (.inr h)
      · rintro (h | (h | h) | h)
        · exact .inl (.inl (.inl h))
        · exact .inl (.inl (.inr h))
        · exact .inl (.inr h)
        · exact .inr h
    · have a1 := insN_length l s.1
      have a2 := insN_length (insN l s.1) s.2
      have a3 := h3.2.2
      simp only [List.length_cons]
      omega

/-! ### the pieces between the ends -/
/-- is x kept, of which it is known whether it is in a and in b? -/
def keepB (kind : Int) (p q : Bool) : Bool := if kind = 0 then p || q else if kind = 1 then p && q else p && !q
/-- one more piece -/
def pieceL (out : List Sp) (u v : Int) : List Sp := if out ≠ [] ∧ hiA out (out.length - 1) = u then out.set (out.length - 1) (loA out (out.length - 1), v) else out ++ [(u, v)]
def madeTo (keep : Int → Bool) (ends : List Int) : Nat → List Sp
  | 0 => []
  | k + 1 => if keep (iA ends k) then pieceL (madeTo keep ends k) (iA ends k) (iA ends (k + 1)) else madeTo keep ends k
theorem pieceL_snoc (xs : List Sp) (t : Sp) (u v : Int) : pieceL (xs ++ [t]) u v = if t.2 = u then xs ++ [(t.1, v)] else xs ++ [t] ++ [(u, v)] := by
  have hl : (xs ++ [t]).length - 1 = xs.length := by simp
  have h1 : loA (xs ++ [t]) xs.length = t.1 ∧ hiA (xs ++ [t]) xs.length = t.2 := by
    have := loA_get (xs := xs ++ [t]) (i := xs.length) (by simp)
    simpa using this
  unfold pieceL
  rw [hl, h1.1, h1.2]
  have hne : xs ++ [t] ≠ [] := by simp
  simp only [hne, ne_eq, not_false_eq_true, true_and]
  split
  · rw [List.set_append_right _ _ (Nat.le_refl _)]
    simp
  · rfl
theorem pieceL_canon {xs : List Sp} {u v : Int} (h : Canon xs) (huv : u < v) (hle : ∀ s ∈ xs, s.2 ≤ u) :
    Canon (pieceL xs u v) ∧ (∀ x, memS (pieceL xs u v) x ↔ memS xs x ∨ (u ≤ x ∧ x < v)) ∧ (∀ s ∈ pieceL xs u v, s.2 ≤ v) := by
  rcases snoc_cases xs with rfl | ⟨ys, t, rfl⟩
  · have e : pieceL [] u v = [(u, v)] := by simp [pieceL]
    rw [e]
    exact ⟨⟨by simpa using huv, by simp⟩, fun x => by rw [memS_cons]; simp [memS_nil], by simp⟩
  · rw [pieceL_snoc]
    obtain ⟨h1, h2, h3⟩ := canon_snoc.1 h
    have hlt := hle t (by simp)
    split
    · rename_i hc
      refine ⟨canon_snoc.2 ⟨h1, by dsimp only; omega, h3⟩, fun x => ?_, fun s hs => ?_⟩
      · rw [memS_append, memS_append, memS_cons, memS_cons]
        simp only [memS_nil, or_false]
        constructor
        · rintro (h4 | ⟨h4, h5⟩)
          · exact .inl (.inl h4)
          · rcases ltOrLe x t.2 with h6 | h6
            · exact .inl (.inr ⟨h4, h6⟩)
            · exact .inr ⟨by omega, by omega⟩
        · rintro ((h4 | ⟨h4, h5⟩) | ⟨h4, h5⟩)
          · exact .inl h4
          · exact .inr ⟨h4, by omega⟩
          · exact .inr ⟨by omega, by omega⟩
      · rcases List.mem_append.1 hs with hs | hs
        · have := hle s (by simp [hs]); omega
        · rw [List.mem_singleton.1 hs]; exact Int.le_refl _
    · rename_i hc
      refine ⟨canon_snoc.2 ⟨h, huv, fun s hs => ?_⟩, fun x => ?_, fun s hs => ?_⟩
      · rcases List.mem_append.1 hs with hs | hs
        · have := h3 s hs; dsimp only; omega
        · rw [List.mem_singleton.1 hs]; dsimp only; omega
      · rw [memS_append, memS_cons]; simp [memS_nil]
      · rcases List.mem_append.1 hs with hs | hs
        · have := hle s hs; omega
        · rw [List.mem_singleton.1 hs]; exact Int.le_refl _
theorem pieceL_length (xs : List Sp) (u v : Int) : (pieceL xs u v).length ≤ xs.length + 1 := by
  unfold pieceL
  split <;> simp
theorem madeTo_length (keep : Int → Bool) (ends : List Int) (k : Nat) : (madeTo keep ends k).length ≤ k := by
  induction k with
  | zero => simp [madeTo]
  | succ k ih =>
    unfold madeTo
    split
    · have := pieceL_length (madeTo keep ends k) (iA ends k) (iA ends (k + 1)); omega
    · omega
theorem iA_get {xs : List Int} {i : Nat} (h : i < xs.length) : iA xs i = xs[i] := by
  simp [iA, List.getD_eq_getElem?_getD, List.getElem?_eq_getElem h]
theorem asc_iA {l : List Int} (h : Asc l) {i j : Nat} (hij : i < j) (hj : j < l.length) : iA l i < iA l j := by
  rw [iA_get (by omega), iA_get hj]
  exact List.pairwise_iff_getElem.1 h i j (by omega) hj hij
theorem madeTo_spec (keep : Int → Bool) (ends : List Int) (ha : Asc ends) (hk : ∀ (i : Nat), i + 1 < ends.length → ∀ x, iA ends i ≤ x → x < iA ends (i + 1) → keep x = keep (iA ends i)) (k : Nat) (hlt : k < ends.length) :
    Canon (madeTo keep ends k) ∧ (∀ x, memS (madeTo keep ends k) x ↔ (iA ends 0 ≤ x ∧ x < iA ends k ∧ keep x = true)) ∧ (∀ s ∈ madeTo keep ends k, s.2 ≤ iA ends k) := by
  induction k with
  | zero => exact ⟨Canon.nil, fun x => ⟨fun h => absurd h (memS_nil x), fun h => by omega⟩, by simp [madeTo]⟩
  | succ k ih =>
    obtain ⟨h1, h2, h3⟩ := ih (by omega)
    have hlt2 := asc_iA ha (show k < k + 1 by omega) hlt
    have h0 : iA ends 0 ≤ iA ends k := by
      rcases Nat.eq_zero_or_pos k with e | e
      · subst e; exact Int.le_refl _
      · exact Int.le_of_lt (asc_iA ha e (by omega))
    unfold madeTo
    split
    · rename_i hc
      obtain ⟨g1, g2, g3⟩ := pieceL_canon h1 hlt2 h3
      refine ⟨g1, fun x => ?_, g3⟩
      rw [g2, h2]
      constructor
      · rintro (⟨p, q, r⟩ | ⟨p, q⟩)
        · exact ⟨p, by omega, r⟩
        · exact ⟨by omega, q, by rw [hk k hlt x p q]; exact hc⟩
      · rintro ⟨p, q, r⟩
        rcases ltOrLe x (iA ends k) with h | h
        · exact .inl ⟨p, h, r⟩
        · exact .inr ⟨h, q⟩
    · rename_i hc
      refine ⟨h1, fun x => ?_, fun s hs => by have := h3 s hs; omega⟩
      rw [h2]
      constructor
      · rintro ⟨p, q, r⟩
        exact ⟨p, by omega, r⟩
      · rintro ⟨p, q, r⟩
        rcases ltOrLe x (iA ends k) with h | h
        · exact ⟨p, h, r⟩
        · rw [hk k hlt x h q] at r
          exact absurd r hc

/-! ### what is made of two lists of spans -/
theorem inB_mem (xs : List Sp) (x : Int) : inB xs x = true ↔ memS xs x := by
  unfold inB memS hasB
  simp
def endsOf (xs ys : List Sp) : List Int := endsTo (endsTo [] xs) ys
def madeL (kind : Int) (xs ys : List Sp) : List Sp := madeTo (fun x => keepB kind (inB xs x) (inB ys x)) (endsOf xs ys) ((endsOf xs ys).length - 1)
theorem no_between {l : List Int} (h : Asc l) {i : Nat} (hi : i + 1 < l.length) {z : Int} (hz : z ∈ l) (h1 : iA l i < z) : iA l (i + 1) ≤ z := by
  obtain ⟨j, hj, rfl⟩ := List.mem_iff_getElem.1 hz
  rw [← iA_get hj] at h1 ⊢
  rcases Nat.lt_trichotomy j (i + 1) with h2 | h2 | h2
  · rcases Nat.lt_trichotomy j i with h3 | h3 | h3
    · have := asc_iA h h3 (by omega); omega
    · subst h3; omega
    · omega
  · subst h2; exact Int.le_refl _
  · exact Int.le_of_lt (asc_iA h h2 hj)
theorem in_same {xs : List Sp} {l : List Int} (h : Asc l) (hm : ∀ s ∈ xs, s.1 ∈ l ∧ s.2 ∈ l) {i : Nat} (hi : i + 1 < l.length) {x : Int} (h1 : iA l i ≤ x) (h2 : x < iA l (i + 1)) : inB xs x = inB xs (iA l i) := by
  rw [Bool.eq_iff_iff, inB_mem, inB_mem]
  unfold memS
  constructor
  · rintro ⟨s, hs, p, q⟩
    refine ⟨s, hs, ?_, by omega⟩
    rcases ltOrLe (iA l i) s.1 with h3 | h3
    · have := no_between h hi (hm s hs).1 h3; omega
    · exact h3
  · rintro ⟨s, hs, p, q⟩
    refine ⟨s, hs, by omega, ?_⟩
    have := no_between h hi (hm s hs).2 q
    omega
theorem madeL_spec (kind : Int) (xs ys : List Sp) :
    Canon (madeL kind xs ys) ∧ (∀ x, memS (madeL kind xs ys) x ↔ keepB kind (inB xs x) (inB ys x) = true) ∧ (madeL kind xs ys).length ≤ 2 * xs.length + 2 * ys.length := by
  obtain ⟨a1, a2, a3⟩ := endsTo_spec xs [] List.Pairwise.nil
  obtain ⟨b1, b2, b3⟩ := endsTo_spec ys (endsTo [] xs) a1
  have hm1 : ∀ s ∈ xs, s.1 ∈ endsOf xs ys ∧ s.2 ∈ endsOf xs ys := fun s hs =>
    ⟨(b2 _).2 (.inl ((a2 _).2 (.inr ⟨s, hs, .inl rfl⟩))), (b2 _).2 (.inl ((a2 _).2 (.inr ⟨s, hs, .inr rfl⟩)))⟩
  have hm2 : ∀ s ∈ ys, s.1 ∈ endsOf xs ys ∧ s.2 ∈ endsOf xs ys := fun s hs =>
    ⟨(b2 _).2 (.inr ⟨s, hs, .inl rfl⟩), (b2 _).2 (.inr ⟨s, hs, .inr rfl⟩)⟩
  have hb1 : Asc (endsOf xs ys) := b1
  have hlen : (endsOf xs ys).length ≤ 2 * xs.length + 2 * ys.length := by unfold endsOf; simp at a3; omega
  have hout : ∀ (zs : List Sp), (∀ s ∈ zs, s.1 ∈ endsOf xs ys ∧ s.2 ∈ endsOf xs ys) → ∀ x, inB zs x = true → 0 < (endsOf xs ys).length ∧ iA (endsOf xs ys) 0 ≤ x ∧ x < iA (endsOf xs ys) ((endsOf xs ys).length - 1) := by
    intro zs hz x hx
    obtain ⟨s, hs, p, q⟩ := (inB_mem _ _).1 hx
    obtain ⟨i, hi, ei⟩ := List.mem_iff_getElem.1 (hz s hs).1
    obtain ⟨j, hj, ej⟩ := List.mem_iff_getElem.1 (hz s hs).2
    rw [← iA_get hi] at ei
    rw [← iA_get hj] at ej
    refine ⟨by omega, ?_, ?_⟩
    · rcases Nat.eq_zero_or_pos i with e | e
      · subst e; omega
      · have := asc_iA hb1 e hi; omega
    · rcases Nat.lt_or_ge j ((endsOf xs ys).length - 1) with e | e
      · have := asc_iA hb1 e (by omega); omega
      · have e : j = (endsOf xs ys).length - 1 := by omega
        rw [← e]; omega
  refine ⟨?_, ?_, ?_⟩
  · rcases Nat.eq_zero_or_pos (endsOf xs ys).length with e | e
    · unfold madeL; rw [e]; exact Canon.nil
    · exact (madeTo_spec _ _ hb1 (fun i hi x p q => by rw [in_same hb1 hm1 hi p q, in_same hb1 hm2 hi p q]) _ (by omega)).1
  · intro x
    have hk : keepB kind (inB xs x) (inB ys x) = true → inB xs x = true ∨ inB ys x = true := by
      unfold keepB
      cases inB xs x <;> cases inB ys x <;> simp
    rcases Nat.eq_zero_or_pos (endsOf xs ys).length with e | e
    · unfold madeL
      rw [e]
      refine ⟨fun h => absurd h (memS_nil x), fun h => ?_⟩
      rcases hk h with h | h
      · have := (hout xs hm1 x h).1; omega
      · have := (hout ys hm2 x h).1; omega
    · unfold madeL
      rw [(madeTo_spec _ _ hb1 (fun i hi x p q => by rw [in_same hb1 hm1 hi p q, in_same hb1 hm2 hi p q]) _ (by omega)).2.1 x]
      constructor
      · exact fun h => h.2.2
      · intro h
        rcases hk h with h1 | h1
        · exact ⟨(hout xs hm1 x h1).2.1, (hout xs hm1 x h1).2.2, h⟩
        · exact ⟨(hout ys hm2 x h1).2.1, (hout ys hm2 x h1).2.2, h⟩
  · have := madeTo_length (fun x => keepB kind (inB xs x) (inB ys x)) (endsOf xs ys) ((endsOf xs ys).length - 1)
    unfold madeL
    omega

end Go.Proofs.Ytikfiofjhmeheaa
