/- Plain facts about sorting indexes by a key, equal ones by index. -/
import Derived.Test.YtfahlgjolihmkaaDoorK
namespace Go.Proofs.YtfahlgjolihmkaaDoor

/-- u comes before v: by the key, then by the index -/
def lexL (kf : Nat → Int) (u v : Nat) : Prop := kf u < kf v ∨ (kf u = kf v ∧ u < v)
theorem lexL.trans {kf : Nat → Int} {u v w : Nat} (h : lexL kf u v) (k : lexL kf v w) : lexL kf u w := by
  unfold lexL at *
  omega
theorem lexL.irrefl {kf : Nat → Int} {u : Nat} (h : lexL kf u u) : False := by
  unfold lexL at h
  omega

def swpF (d : Nat → Nat) (i j : Nat) : Nat → Nat := fun k => if k = i then d j else if k = j then d i else d k
theorem swpF_left (d : Nat → Nat) (i j : Nat) : swpF d i j i = d j := by simp [swpF]
theorem swpF_right (d : Nat → Nat) (i j : Nat) : swpF d i j j = d i := by
  unfold swpF
  split
  · rename_i h; rw [h]
  · simp
theorem swpF_other (d : Nat → Nat) {i j k : Nat} (h1 : k ≠ i) (h2 : k ≠ j) : swpF d i j k = d k := by simp [swpF, h1, h2]

/-- on [a, b) the one is the other one, reordered; elsewhere they are the same -/
def PermOn (a b : Nat) (d d' : Nat → Nat) : Prop := ∃ s : Nat → Nat, (∀ k, a ≤ k → k < b → a ≤ s k ∧ s k < b) ∧ (∀ k k', a ≤ k → k < b → a ≤ k' → k' < b → s k = s k' → k = k') ∧ (∀ k, a ≤ k → k < b → d' k = d (s k)) ∧ ∀ k, (k < a ∨ b ≤ k) → d' k = d k
theorem PermOn.refl (a b : Nat) (d : Nat → Nat) : PermOn a b d d := ⟨id, fun _ h1 h2 => ⟨h1, h2⟩, fun _ _ _ _ _ _ h => h, fun _ _ _ => rfl, fun _ _ => rfl⟩
theorem PermOn.trans {a b : Nat} {d e f : Nat → Nat} (h : PermOn a b d e) (k : PermOn a b e f) : PermOn a b d f := by
  obtain ⟨s, s1, s2, s3, s4⟩ := h
  obtain ⟨t, t1, t2, t3, t4⟩ := k
  refine ⟨fun x => s (t x), fun x h1 h2 => ?_, fun x y h1 h2 h3 h4 he => ?_, fun x h1 h2 => ?_, fun x hx => (t4 x hx).trans (s4 x hx)⟩
  · have := t1 x h1 h2
    exact s1 _ this.1 this.2
  · have ht := t1 x h1 h2
    have hu := t1 y h3 h4
    exact t2 x y h1 h2 h3 h4 (s2 _ _ ht.1 ht.2 hu.1 hu.2 he)
  · have := t1 x h1 h2
    rw [t3 x h1 h2, s3 _ this.1 this.2]
theorem PermOn.mono {a b a' b' : Nat} {d e : Nat → Nat} (h : PermOn a b d e) (ha : a' ≤ a) (hb : b ≤ b') : PermOn a' b' d e := by
  obtain ⟨s, s1, s2, s3, s4⟩ := h
  refine ⟨fun x => if a ≤ x ∧ x < b then s x else x, fun x h1 h2 => ?_, fun x y h1 h2 h3 h4 he => ?_, fun x h1 h2 => ?_, fun x hx => s4 x (by omega)⟩
  · dsimp only
    split
    · rename_i h
      have := s1 x h.1 h.2
      omega
    · omega
  · dsimp only at he
    split at he
    · rename_i hx
      have hsx := s1 x hx.1 hx.2
      split at he
      · rename_i hy
        exact s2 x y hx.1 hx.2 hy.1 hy.2 he
      · omega
    · rename_i hx
      split at he
      · rename_i hy
        have hsy := s1 y hy.1 hy.2
        omega
      · exact he
  · dsimp only
    split
    · rename_i h
      exact s3 x h.1 h.2
    · rename_i h
      exact s4 x (by omega)
theorem PermOn.swp {a b i j : Nat} (d : Nat → Nat) (hi : a ≤ i ∧ i < b) (hj : a ≤ j ∧ j < b) : PermOn a b d (swpF d i j) := by
  refine ⟨fun k => if k = i then j else if k = j then i else k, fun k h1 h2 => ?_, fun k k' h1 h2 h3 h4 he => ?_, fun k _ _ => ?_, fun k hk => swpF_other d (by omega) (by omega)⟩
  · dsimp only
    split
    · omega
    · split <;> omega
  · dsimp only at he
    split at he <;> split at he <;> (try split at he) <;> (try split at he) <;> omega
  · dsimp only
    unfold swpF
    split
    · rfl
    · split <;> rfl
/-- what holds of all values there still does -/
theorem PermOn.all {a b : Nat} {d e : Nat → Nat} (h : PermOn a b d e) {Q : Nat → Prop} (hq : ∀ k, a ≤ k → k < b → Q (d k)) : ∀ k, a ≤ k → k < b → Q (e k) := by
  obtain ⟨s, s1, _, s3, _⟩ := h
  intro k h1 h2
  have := s1 k h1 h2
  rw [s3 k h1 h2]
  exact hq _ this.1 this.2
theorem PermOn.out {a b : Nat} {d e : Nat → Nat} (h : PermOn a b d e) {k : Nat} (hk : k < a ∨ b ≤ k) : e k = d k := by
  obtain ⟨_, _, _, _, s4⟩ := h
  exact s4 k hk

/-- sorted on [a, b) -/
def SortedOn (kf : Nat → Int) (a b : Nat) (d : Nat → Nat) : Prop := ∀ k k', a ≤ k → k < k' → k' < b → lexL kf (d k) (d k')

/-- the outer loop of the insertion sort -/
structure OuterP (kf : Nat → Int) (a b i : Nat) (d dk : Nat → Nat) : Prop where
  some_ : a < b → i ≤ b ∧ PermOn a i d dk ∧ SortedOn kf a i dk
  none_ : ¬ a < b → dk = d
theorem OuterP.start (kf : Nat → Int) (a b : Nat) (d : Nat → Nat) : OuterP kf a b (a + 1) d d :=
  ⟨fun h => ⟨by omega, PermOn.refl _ _ _, fun k k' h1 h2 h3 => by omega⟩, fun _ => rfl⟩
/-- the inner loop -/
structure InnerP (kf : Nat → Int) (a i j : Nat) (d dj : Nat → Nat) : Prop where
  perm : PermOn a (i + 1) d dj
  rest : ∀ k k', a ≤ k → k < k' → k' < i + 1 → k ≠ j → k' ≠ j → lexL kf (dj k) (dj k')
  after : ∀ k, j < k → k < i + 1 → lexL kf (dj j) (dj k)
  idx : ∀ k, a ≤ k → k < i + 1 → k ≠ j → dj k < dj j
theorem OuterP.inner {kf : Nat → Int} {a b i : Nat} {d dk : Nat → Nat} (h : OuterP kf a b i d dk) (hai : a < i) (hib : i < b) (hup : ∀ k k', a ≤ k → k < k' → k' < b → d k < d k') : InnerP kf a i i d dk := by
  obtain ⟨_, h2, h3⟩ := h.some_ (by omega)
  refine ⟨h2.mono (Nat.le_refl _) (by omega), fun k k' h4 h5 h6 h7 h8 => h3 k k' h4 h5 (by omega), fun k h4 h5 => by omega, fun k h4 h5 h6 => ?_⟩
  rw [h2.out (k := i) (by omega)]
  exact h2.all (Q := fun v => v < d i) (fun k' h7 h8 => hup k' i h7 h8 hib) k h4 (by omega)
theorem InnerP.go {kf : Nat → Int} {a i j : Nat} {d dj : Nat → Nat} (h : InnerP kf a i j d dj) (haj : a < j) (hji : j ≤ i) (hlt : kf (dj j) < kf (dj (j - 1))) : InnerP kf a i (j - 1) d (swpF dj j (j - 1)) := by
  have e1 : swpF dj j (j - 1) j = dj (j - 1) := swpF_left _ _ _
  have e2 : swpF dj j (j - 1) (j - 1) = dj j := swpF_right _ _ _
  refine ⟨h.perm.trans (PermOn.swp dj ⟨by omega, by omega⟩ ⟨by omega, by omega⟩), fun k k' h1 h2 h3 h4 h5 => ?_, fun k h1 h2 => ?_, fun k h1 h2 h3 => ?_⟩
  · by_cases hk : k = j
    · subst hk
      rw [e1, swpF_other dj (by omega) h5]
      exact h.rest _ _ (by omega) (by omega) h3 (by omega) (by omega)
    · by_cases hk' : k' = j
      · subst hk'
        rw [e1, swpF_other dj hk h4]
        exact h.rest _ _ h1 (by omega) (by omega) hk (by omega)
      · rw [swpF_other dj hk h4, swpF_other dj hk' h5]
        exact h.rest _ _ h1 h2 h3 hk hk'
  · rw [e2]
    by_cases hk : k = j
    · subst hk
      rw [e1]
      exact .inl hlt
    · rw [swpF_other dj hk (by omega)]
      exact h.after k (by omega) h2
  · rw [e2]
    by_cases hk : k = j
    · subst hk
      rw [e1]
      exact h.idx _ (by omega) (by omega) (by omega)
    · rw [swpF_other dj hk h3]
      exact h.idx k h1 h2 hk
theorem InnerP.stop {kf : Nat → Int} {a b i j : Nat} {d dj : Nat → Nat} (h : InnerP kf a i j d dj) (haj : a ≤ j) (hji : j ≤ i) (hib : i < b) (hs : j = a ∨ ¬ kf (dj j) < kf (dj (j - 1))) : OuterP kf a b (i + 1) d dj := by
  refine ⟨fun _ => ⟨by omega, h.perm, fun k k' h1 h2 h3 => ?_⟩, fun hn => by omega⟩
  by_cases hk : k = j
  · subst hk
    exact h.after k' h2 h3
  · by_cases hk' : k' = j
    · subst hk'
      rcases hs with hs | hs
      · omega
      · have h4 : lexL kf (dj (k' - 1)) (dj k') := by
          have := h.idx (k' - 1) (by omega) (by omega) (by omega)
          unfold lexL
          omega
        by_cases hk2 : k = k' - 1
        · rw [hk2]; exact h4
        · exact (h.rest k (k' - 1) h1 (by omega) (by omega) (by omega) (by omega)).trans h4
    · exact h.rest k k' h1 h2 h3 hk hk'
theorem OuterP.fin {kf : Nat → Int} {a b i : Nat} {d dk : Nat → Nat} (h : OuterP kf a b i d dk) (hib : ¬ i < b) (hab : a ≤ b) : PermOn a b d dk ∧ SortedOn kf a b dk := by
  by_cases hlt : a < b
  · obtain ⟨h1, h2, h3⟩ := h.some_ hlt
    obtain rfl : i = b := by omega
    exact ⟨h2, h3⟩
  · rw [h.none_ hlt]
    exact ⟨PermOn.refl _ _ _, fun k k' h1 h2 h3 => by omega⟩

end Go.Proofs.YtfahlgjolihmkaaDoor
