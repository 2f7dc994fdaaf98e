/- The mathematics of the library's merge in place: what a rotation and two smaller merges give. -/
import Derived.Test.YtikfiofjhmeheaaG1
namespace Go.Proofs.Ytikfiofjhmeheaa
open Go.RowKit Go.Sort

theorem PermOn.rot (d : Nat → Nat) {a m b : Nat} (ha : a ≤ m) (hb : m ≤ b) : PermOn a b d (rotF d a m b) := by
  refine ⟨fun x => if x < a + (b - m) then x + (m - a) else x - (b - m), fun x h1 h2 => ?_, fun x y h1 h2 h3 h4 he => ?_, fun x h1 h2 => ?_, fun x hx => ?_⟩
  · dsimp only
    split <;> omega
  · dsimp only at he
    split at he <;> split at he <;> omega
  · unfold rotF
    dsimp only
    split
    · rw [if_pos (by omega)]
    · split
      · rw [if_neg (by omega)]
      · omega
  · unfold rotF
    rw [if_neg (by omega), if_neg (by omega)]

/-- what is asked of the two stretches that are merged: each is sorted, and the left one's indexes are the smaller ones -/
structure TwoRuns (kf : Nat → Int) (a m b : Nat) (d : Nat → Nat) : Prop where
  left : SortedOn kf a m d
  right : SortedOn kf m b d
  low : ∀ k k', a ≤ k → k < m → m ≤ k' → k' < b → d k < d k'

/-- where the cut is at s and e, all that lies left of it is less than all that lies right of it -/
theorem TwoRuns.cut {kf : Nat → Int} {a m b s e : Nat} {d : Nat → Nat} (h : TwoRuns kf a m b d) (hs : a ≤ s ∧ s ≤ m) (he : m ≤ e ∧ e ≤ b)
    (h1 : a < s → e < b → kf (d (s - 1)) ≤ kf (d e)) (h2 : s < m → m < e → kf (d (e - 1)) < kf (d s)) :
    ∀ k k', (a ≤ k ∧ k < s ∨ m ≤ k ∧ k < e) → (s ≤ k' ∧ k' < m ∨ e ≤ k' ∧ k' < b) → lexL kf (d k) (d k') := by
  intro k k' hk hk'
  rcases hk with hk | hk
  · rcases hk' with hk' | hk'
    · exact h.left k k' hk.1 (by omega) hk'.2
    · have h3 := h1 (by omega) (by omega)
      have h4 := h.low k k' hk.1 (by omega) (by omega) hk'.2
      have h5 : kf (d k) ≤ kf (d (s - 1)) := by
        by_cases e1 : k = s - 1
        · rw [e1]; exact Int.le_refl _
        · have := h.left k (s - 1) hk.1 (by omega) (by omega)
          unfold lexL at this
          omega
      have h6 : kf (d e) ≤ kf (d k') := by
        by_cases e1 : k' = e
        · rw [e1]; exact Int.le_refl _
        · have := h.right e k' (by omega) (by omega) hk'.2
          unfold lexL at this
          omega
      unfold lexL
      omega
  · rcases hk' with hk' | hk'
    · have h3 := h2 (by omega) (by omega)
      have h5 : kf (d k) ≤ kf (d (e - 1)) := by
        by_cases e1 : k = e - 1
        · rw [e1]; exact Int.le_refl _
        · have := h.right k (e - 1) hk.1 (by omega) (by omega)
          unfold lexL at this
          omega
      have h6 : kf (d s) ≤ kf (d k') := by
        by_cases e1 : k' = s
        · rw [e1]; exact Int.le_refl _
        · have := h.left s k' (by omega) (by omega) (by omega)
          unfold lexL at this
          omega
      unfold lexL
      omega
    · exact h.right k k' hk.1 (by omega) hk'.2

/-- the left half behind the rotation holds two runs again -/
theorem TwoRuns.half_left {kf : Nat → Int} {a m b s e : Nat} {d : Nat → Nat} (h : TwoRuns kf a m b d) (hs : a ≤ s ∧ s ≤ m) (he : m ≤ e ∧ e ≤ b) : TwoRuns kf a s (s + (e - m)) (rotF d s m e) := by
  have hl : ∀ k, a ≤ k → k < s → rotF d s m e k = d k := fun k _ h2 => by unfold rotF; rw [if_neg (by omega), if_neg (by omega)]
  have hr : ∀ k, s ≤ k → k < s + (e - m) → rotF d s m e k = d (k + (m - s)) := fun k h1 h2 => by unfold rotF; rw [if_pos (by omega)]
  refine ⟨fun k k' h1 h2 h3 => ?_, fun k k' h1 h2 h3 => ?_, fun k k' h1 h2 h3 h4 => ?_⟩
  · rw [hl k h1 (by omega), hl k' (by omega) h3]
    exact h.left k k' h1 h2 (by omega)
  · rw [hr k h1 (by omega), hr k' (by omega) h3]
    exact h.right _ _ (by omega) (by omega) (by omega)
  · rw [hl k h1 h2, hr k' h3 h4]
    exact h.low _ _ h1 (by omega) (by omega) (by omega)
theorem TwoRuns.half_right {kf : Nat → Int} {a m b s e : Nat} {d : Nat → Nat} (h : TwoRuns kf a m b d) (hs : a ≤ s ∧ s ≤ m) (he : m ≤ e ∧ e ≤ b) : TwoRuns kf (s + (e - m)) e b (rotF d s m e) := by
  have hl : ∀ k, s + (e - m) ≤ k → k < e → rotF d s m e k = d (k - (e - m)) := fun k h1 h2 => by unfold rotF; rw [if_neg (by omega), if_pos (by omega)]
  have hr : ∀ k, e ≤ k → rotF d s m e k = d k := fun k h1 => by unfold rotF; rw [if_neg (by omega), if_neg (by omega)]
  refine ⟨fun k k' h1 h2 h3 => ?_, fun k k' h1 h2 h3 => ?_, fun k k' h1 h2 h3 h4 => ?_⟩
  · rw [hl k h1 (by omega), hl k' (by omega) h3]
    exact h.left _ _ (by omega) (by omega) (by omega)
  · rw [hr k h1, hr k' (by omega)]
    exact h.right k k' (by omega) h2 h3
  · rw [hl k h1 h2, hr k' h3]
    exact h.low _ _ (by omega) (by omega) (by omega) h4

/-- two sorted halves, each a reordering of its own, the left one's all less than the right one's -/
theorem sorted_join {kf : Nat → Int} {a c b : Nat} {d d1 d2 : Nat → Nat} (hac : a ≤ c) (hcb : c ≤ b) (p1 : PermOn a c d d1) (s1 : SortedOn kf a c d1) (p2 : PermOn c b d1 d2) (s2 : SortedOn kf c b d2)
    (hl : ∀ k k', a ≤ k → k < c → c ≤ k' → k' < b → lexL kf (d k) (d k')) : PermOn a b d d2 ∧ SortedOn kf a b d2 := by
  refine ⟨(p1.mono (Nat.le_refl _) hcb).trans (p2.mono hac (Nat.le_refl _)), fun k k' h1 h2 h3 => ?_⟩
  have hlow : ∀ k, k < c → d2 k = d1 k := fun k hk => p2.out (.inl hk)
  have hup : ∀ k, c ≤ k → d1 k = d k := fun k hk => p1.out (.inr hk)
  by_cases hk : k' < c
  · rw [hlow k (by omega), hlow k' hk]
    exact s1 k k' h1 h2 hk
  · by_cases hk2 : c ≤ k
    · exact s2 k k' hk2 h2 h3
    · rw [hlow k (by omega)]
      have q1 : ∀ k', c ≤ k' → k' < b → ∀ j, a ≤ j → j < c → lexL kf (d j) (d2 k') := by
        intro x hx1 hx2 j hj1 hj2
        exact p2.all (Q := fun v => lexL kf (d j) v) (fun y hy1 hy2 => by rw [hup y hy1]; exact hl j y hj1 hj2 hy1 hy2) x hx1 hx2
      exact p1.all (Q := fun v => lexL kf v (d2 k')) (fun j hj1 hj2 => q1 k' (by omega) h3 j hj1 hj2) k h1 (by omega)

end Go.Proofs.Ytikfiofjhmeheaa
