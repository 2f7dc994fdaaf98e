/- What resize makes of a set, and the specification's Grow and Shrink. -/
import Derived.Test.YtikfiofjhmeheaaN3
namespace Go.Proofs.Ytikfiofjhmeheaa

/-- one more span, changed, dropped where nothing is left of it -/
def resS (f : Sp → Sp) (out : List Sp) (s : Sp) : List Sp := if (f s).1 < (f s).2 then putL out (f s) else out
def resTo (f : Sp → Sp) (xs : List Sp) : List Sp := xs.foldl (resS f) []
theorem resTo_snoc (f : Sp → Sp) (xs : List Sp) (s : Sp) : resTo f (xs ++ [s]) = resS f (resTo f xs) s := by simp [resTo]
theorem resS_length (f : Sp → Sp) (out : List Sp) (s : Sp) : (resS f out s).length ≤ out.length + 1 := by
  unfold resS
  split
  · exact putL_len _ _
  · omega
theorem resTo_length (f : Sp → Sp) (xs : List Sp) : (resTo f xs).length ≤ xs.length := by
  suffices h : ∀ (pre : List Sp) (out : List Sp), (pre.foldl (resS f) out).length ≤ out.length + pre.length by
    simpa [resTo] using h xs []
  intro pre
  induction pre with
  | nil => intro out; simp
  | cons x pre ih =>
    intro out
    have h1 := ih (resS f out x)
    have h2 := resS_length f out x
    simp only [List.foldl_cons, List.length_cons]
    omega
theorem res_run (f : Sp → Sp) : ∀ (xs : List Sp) (out : List Sp), Canon out → xs.Pairwise (fun s t => (f s).1 ≤ (f t).1) → (∀ t ∈ out, ∀ s ∈ xs, t.1 ≤ (f s).1) →
    Canon (xs.foldl (resS f) out) ∧ ∀ z, memS (xs.foldl (resS f) out) z ↔ (memS out z ∨ ∃ s ∈ xs, (f s).1 ≤ z ∧ z < (f s).2)
  | [], out, hc, _, _ => ⟨hc, fun z => by simp⟩
  | s :: xs, out, hc, hp, ho => by
    obtain ⟨p1, p2⟩ := List.pairwise_cons.1 hp
    rw [List.foldl_cons]
    by_cases h : (f s).1 < (f s).2
    · have e : resS f out s = putL out (f s) := by unfold resS; rw [if_pos h]
      rw [e]
      obtain ⟨g1, g2, g3⟩ := putL_canon (s := f s) hc h (fun t ht => ho t ht s (by simp))
      obtain ⟨r1, r2⟩ := res_run f xs _ g1 p2 (fun t ht u hu => Int.le_trans (g3 t ht) (p1 u hu))
      refine ⟨r1, fun z => ?_⟩
      rw [r2 z, g2 z]
      simp only [List.mem_cons, exists_eq_or_imp, or_assoc]
    · have e : resS f out s = out := by unfold resS; rw [if_neg h]
      rw [e]
      obtain ⟨r1, r2⟩ := res_run f xs out hc p2 (fun t ht u hu => ho t ht u (by simp [hu]))
      refine ⟨r1, fun z => ?_⟩
      rw [r2 z]
      simp only [List.mem_cons, exists_eq_or_imp]
      constructor
      · rintro (h1 | h1)
        · exact .inl h1
        · exact .inr (.inr h1)
      · rintro (h1 | h1 | h1)
        · exact .inl h1
        · omega
        · exact .inr h1
theorem resTo_spec {f : Sp → Sp} {xs : List Sp} (h : xs.Pairwise fun s t => (f s).1 ≤ (f t).1) : Canon (resTo f xs) ∧ ∀ z, memS (resTo f xs) z ↔ ∃ s ∈ xs, (f s).1 ≤ z ∧ z < (f s).2 := by
  obtain ⟨h1, h2⟩ := res_run f xs [] Canon.nil h (by simp)
  exact ⟨h1, fun z => by rw [show resTo f xs = xs.foldl (resS f) [] from rfl, h2 z]; simp [memS_nil]⟩

/-- wider by r, within the whole -/
def growF (r : Int) (s : Sp) : Sp := (max (s.1 - r) (-1099511627776), min (s.2 + r) 1099511627776)
/-- narrower by r, but not at the ends of the whole -/
def shrinkF (r : Int) (s : Sp) : Sp := (if -1099511627776 < s.1 then s.1 + r else s.1, if s.2 < 1099511627776 then s.2 - r else s.2)
theorem canon_asc {xs : List Sp} (h : Canon xs) : xs.Pairwise fun s t => s.1 < s.2 ∧ s.2 < t.1 := by
  refine List.Pairwise.imp_of_mem ?_ h.2
  intro s t hs _ hst
  exact ⟨h.1 s hs, hst⟩
theorem grow_spec {xs : List Sp} (h : SetS xs) {r : Int} (hr : 0 ≤ r) : SetS (resTo (growF r) xs) ∧ (∀ z, memS (resTo (growF r) xs) z ↔ (-1099511627776 ≤ z ∧ z < 1099511627776 ∧ ∃ y, memS xs y ∧ z - r ≤ y ∧ y ≤ z + r)) := by
  obtain ⟨h1, h2⟩ := resTo_spec (f := growF r) (xs := xs) ((canon_asc h.1).imp fun {s t} hst => by unfold growF; dsimp only; omega)
  have hm : ∀ z, memS (resTo (growF r) xs) z ↔ (-1099511627776 ≤ z ∧ z < 1099511627776 ∧ ∃ y, memS xs y ∧ z - r ≤ y ∧ y ≤ z + r) := fun z => by
    rw [h2 z]
    constructor
    · rintro ⟨s, hs, p, q⟩
      have hb := okB_true (h.2 s hs)
      unfold growF at p q
      dsimp only at p q
      refine ⟨by omega, by omega, ?_⟩
      rcases ltOrLe z s.1 with h3 | h3
      · exact ⟨s.1, ⟨s, hs, Int.le_refl _, hb.2.1⟩, by omega, by omega⟩
      · rcases ltOrLe z s.2 with h4 | h4
        · exact ⟨z, ⟨s, hs, h3, h4⟩, by omega, by omega⟩
        · exact ⟨s.2 - 1, ⟨s, hs, by omega, by omega⟩, by omega, by omega⟩
    · rintro ⟨p, q, y, ⟨s, hs, h3, h4⟩, h5, h6⟩
      refine ⟨s, hs, ?_, ?_⟩ <;> (unfold growF; dsimp only; omega)
  exact ⟨canon_set h1 fun z hz => by have := (hm z).1 hz; omega, hm⟩
theorem canon_gap {xs : List Sp} (h : Canon xs) {s : Sp} (hs : s ∈ xs) : ¬ memS xs (s.1 - 1) ∧ ¬ memS xs s.2 := by
  induction xs with
  | nil => cases hs
  | cons t xs ih =>
    have ht := h.head
    rcases List.mem_cons.1 hs with e | e
    · subst e
      refine ⟨fun hm => ?_, fun hm => ?_⟩
      · rcases (memS_cons _ _ _).1 hm with h1 | h1
        · omega
        · have := h.above h1; omega
      · rcases (memS_cons _ _ _).1 hm with h1 | h1
        · omega
        · have := h.above h1; omega
    · obtain ⟨i1, i2⟩ := ih h.tail e
      have hst := (List.pairwise_cons.1 h.2).1 s e
      have hss := h.tail.1 s e
      refine ⟨fun hm => ?_, fun hm => ?_⟩
      · rcases (memS_cons _ _ _).1 hm with h1 | h1
        · omega
        · exact i1 h1
      · rcases (memS_cons _ _ _).1 hm with h1 | h1
        · omega
        · exact i2 h1
theorem shrink_spec {xs : List Sp} (h : SetS xs) {r : Int} (hr : 0 ≤ r) : SetS (resTo (shrinkF r) xs) ∧
    (∀ z, memS (resTo (shrinkF r) xs) z ↔ (-1099511627776 ≤ z ∧ z < 1099511627776 ∧ ∀ y, -1099511627776 ≤ y → y < 1099511627776 → z - r ≤ y → y ≤ z + r → memS xs y)) := by
  obtain ⟨h1, h2⟩ := resTo_spec (f := shrinkF r) (xs := xs) ((canon_asc h.1).imp_of_mem fun {s t} hs ht hst => by
    have := okB_true (h.2 s hs)
    unfold shrinkF
    dsimp only
    split <;> split <;> omega)
  have hm : ∀ z, memS (resTo (shrinkF r) xs) z ↔ (-1099511627776 ≤ z ∧ z < 1099511627776 ∧ ∀ y, -1099511627776 ≤ y → y < 1099511627776 → z - r ≤ y → y ≤ z + r → memS xs y) := fun z => by
    rw [h2 z]
    constructor
    · rintro ⟨s, hs, p, q⟩
      have hb := okB_true (h.2 s hs)
      unfold shrinkF at p q
      dsimp only at p q
      have hp : s.1 ≤ z := by split at p <;> omega
      have hq : z < s.2 := by split at q <;> omega
      refine ⟨by omega, by omega, fun y h3 h4 h5 h6 => ⟨s, hs, ?_, ?_⟩⟩
      · split at p <;> omega
      · split at q <;> omega
    · rintro ⟨p, q, hall⟩
      obtain ⟨s, hs, h3, h4⟩ := hall z p q (by omega) (by omega)
      have hg := canon_gap h.1 hs
      have hb := okB_true (h.2 s hs)
      refine ⟨s, hs, ?_, ?_⟩
      · unfold shrinkF
        dsimp only
        split
        · rcases ltOrLe z (s.1 + r) with h5 | h5
          · exact absurd (hall (s.1 - 1) (by omega) (by omega) (by omega) (by omega)) hg.1
          · exact h5
        · exact h3
      · unfold shrinkF
        dsimp only
        split
        · rcases ltOrLe z (s.2 - r) with h5 | h5
          · exact h5
          · exact absurd (hall s.2 (by omega) (by omega) (by omega) (by omega)) hg.2
        · exact h4
  exact ⟨canon_set h1 fun z hz => by have := (hm z).1 hz; omega, hm⟩

/-- the specification's grown -/
def grownL (xs : List Sp) (r : Int) : List Sp := madeL 0 (xs.map fun s => (max (-1099511627776) (s.1 - r), min 1099511627776 (s.2 + r))) []
theorem inB_nil (z : Int) : inB [] z = false := rfl
theorem grownL_mem {xs : List Sp} (h : SetS xs) {r : Int} (hr : 0 ≤ r) (z : Int) : memS (grownL xs r) z ↔ (-1099511627776 ≤ z ∧ z < 1099511627776 ∧ ∃ y, memS xs y ∧ z - r ≤ y ∧ y ≤ z + r) := by
  rw [← (grow_spec h hr).2 z, (resTo_spec (f := growF r) (xs := xs) ((canon_asc h.1).imp fun {s t} hst => by unfold growF; dsimp only; omega)).2 z]
  unfold grownL
  rw [(madeL_spec 0 _ []).2.1 z, inB_nil]
  unfold keepB
  simp only [if_true, Bool.or_false]
  rw [inB_mem]
  unfold memS growF
  simp only [List.mem_map]
  constructor
  · rintro ⟨_, ⟨s, hs, rfl⟩, p, q⟩
    dsimp only at p q
    exact ⟨s, hs, by omega, by omega⟩
  · rintro ⟨s, hs, p, q⟩
    skip
    exact ⟨_, ⟨s, hs, rfl⟩, by dsimp only; omega, by dsimp only; omega⟩
theorem grow_same {xs : List Sp} (h : SetS xs) {r : Int} (hr : 0 ≤ r) : grownL xs r = resTo (growF r) xs :=
  canon_ext (madeL_spec 0 _ []).1 (grow_spec h hr).1.1 fun z => by rw [(grow_spec h hr).2 z]; exact grownL_mem h hr z
theorem shrink_same {xs : List Sp} (h : SetS xs) {r : Int} (hr : 0 ≤ r) : madeL 2 wholeL (grownL (madeL 2 wholeL xs) r) = resTo (shrinkF r) xs := by
  have hout : SetS (madeL 2 wholeL xs) := madeL_set 2 fun z hz => by
    unfold keepB at hz
    rw [whole_in] at hz
    simp at hz
    exact hz.1
  have hmo : ∀ z, memS (madeL 2 wholeL xs) z ↔ (-1099511627776 ≤ z ∧ z < 1099511627776 ∧ ¬ memS xs z) := fun z => by
    rw [(madeL_spec 2 wholeL xs).2.1 z, whole_in, ← inB_mem]
    unfold keepB
    simp [and_assoc]
  refine canon_ext (madeL_spec 2 _ _).1 (shrink_spec h hr).1.1 fun z => ?_
  rw [(shrink_spec h hr).2 z, (madeL_spec 2 _ _).2.1 z, whole_in]
  have hg := grownL_mem hout hr z
  rw [← inB_mem] at hg
  unfold keepB
  simp only [show ¬ ((2 : Int) = 0) by decide, show ¬ ((2 : Int) = 1) by decide, if_false, Bool.and_eq_true, decide_eq_true_eq, Bool.not_eq_true', and_assoc]
  refine and_congr_right fun p => and_congr_right fun q => ?_
  rw [← Bool.not_eq_true, hg]
  constructor
  · intro hn y h1 h2 h3 h4
    apply Classical.byContradiction
    intro hy
    exact hn ⟨p, q, y, (hmo y).2 ⟨h1, h2, hy⟩, h3, h4⟩
  · rintro hall ⟨_, _, y, hy, h3, h4⟩
    obtain ⟨h1, h2, h5⟩ := (hmo y).1 hy
    exact h5 (hall y h1 h2 h3 h4)
theorem shrink_length (xs : List Sp) (r : Int) : (resTo (shrinkF r) xs).length ≤ xs.length := resTo_length _ _

end Go.Proofs.Ytikfiofjhmeheaa
