/- The certificate: the steps of the walk chain, and a cover needs as many spans as there are steps. -/
import Derived.Test.YtikfiofjhmeheaaE0
import Derived.Test.YtikfiofjhmeheaaD2
namespace Go.Proofs.Ytikfiofjhmeheaa
open Go.RowKit Go.Sort

theorem bestTo_max (xs : List Sp) (x : Int) : ∀ k i, i < k → loA xs i ≤ x → x < hiA xs i → 0 ≤ bestTo xs x k ∧ hiA xs i ≤ hiA xs (bestTo xs x k).toNat
  | 0, _, hi, _, _ => by omega
  | k + 1, i, hi, h1, h2 => by
    have hE : bestTo xs x (k + 1) = if loA xs k ≤ x ∧ x < hiA xs k ∧ (bestTo xs x k < 0 ∨ hiA xs (bestTo xs x k).toNat < hiA xs k) then (k : Int) else bestTo xs x k := rfl
    rw [hE]
    rcases Nat.lt_or_ge i k with h | h
    · have ih := bestTo_max xs x k i h h1 h2
      split
      · rename_i hc
        rw [Int.toNat_natCast]
        rcases hc.2.2 with h3 | h3 <;> omega
      · exact ih
    · obtain rfl : i = k := by omega
      split
      · rw [Int.toNat_natCast]
        omega
      · rename_i hc
        have hb : ¬ (bestTo xs x i < 0 ∨ hiA xs (bestTo xs x i).toNat < hiA xs i) := fun h3 => hc ⟨h1, h2, h3⟩
        omega

/-- what is known of one step -/
structure StepOk (xs : List Sp) (x thi : Int) (s : Int × Int) : Prop where
  from_ : x ≤ s.1
  to_ : s.1 < thi
  lt : s.2.toNat < xs.length
  lo : loA xs s.2.toNat ≤ s.1
  hi : s.1 < hiA xs s.2.toNat
  max : ∀ i, i < xs.length → loA xs i ≤ s.1 → s.1 < hiA xs i → hiA xs i ≤ hiA xs s.2.toNat

theorem runF_facts (xs : List Sp) (thi : Int) : ∀ f x, (thi - x).toNat ≤ f → (∀ s, s ∈ runF xs thi f x → 0 ≤ s.2) →
    (∀ s, s ∈ runF xs thi f x → StepOk xs x thi s) ∧ (runF xs thi f x).Pairwise (fun s t => hiA xs s.2.toNat ≤ t.1) ∧ ∀ y, x ≤ y → y < thi → ∃ s, s ∈ runF xs thi f x ∧ s.1 ≤ y ∧ y < hiA xs s.2.toNat
  | f, x, hf, hp => by
    by_cases hlt : x < thi
    · obtain ⟨f', hf', hr⟩ := runF_step (xs := xs) hlt hf
      subst hf'
      rw [hr] at hp ⊢
      have hb0 : 0 ≤ bestTo xs x xs.length := hp (x, bestTo xs x xs.length) (by simp)
      have hneg : ¬ bestTo xs x xs.length < 0 := by omega
      rw [if_neg hneg] at hp ⊢
      have hrange := bestTo_range xs x xs.length
      have hhas := bestTo_has xs x xs.length hb0
      have hmax := bestTo_max xs x xs.length
      generalize bestTo xs x xs.length = b at hp hb0 hneg hrange hhas hmax ⊢
      obtain ⟨i1, i2, i3⟩ := runF_facts xs thi f' (hiA xs b.toNat) (by omega) (fun s hs => hp s (by simp [hs]))
      refine ⟨?_, ?_, ?_⟩
      · intro s hs
        rcases List.mem_cons.1 hs with rfl | hs
        · exact ⟨Int.le_refl _, hlt, by dsimp only; omega, hhas.1, hhas.2, fun i hi h1 h2 => (hmax i hi h1 h2).2⟩
        · have := i1 s hs
          exact ⟨by have := this.from_; omega, this.to_, this.lt, this.lo, this.hi, this.max⟩
      · exact List.pairwise_cons.2 ⟨fun t ht => (i1 t ht).from_, i2⟩
      · intro y h1 h2
        by_cases hy : y < hiA xs b.toNat
        · exact ⟨(x, b), by simp, h1, hy⟩
        · obtain ⟨s, hs, h3⟩ := i3 y (by omega) h2
          exact ⟨s, by simp [hs], h3⟩
    · rw [runF_end hlt]
      exact ⟨fun s hs => (by cases hs), List.Pairwise.nil, fun y h1 h2 => by omega⟩
  termination_by f => f

theorem cov_pos {xs : List Sp} {tlo thi : Int} (h : covE xs tlo thi = 0) : okB tlo thi = true ∧ checkE xs = 0 ∧ ∀ s, s ∈ covL xs tlo thi → 0 ≤ s.2 := by
  unfold covE at h
  split at h
  · omega
  · rename_i h1
    split at h
    · omega
    · rename_i h2
      split at h
      · omega
      · rename_i h3
        refine ⟨by simpa using h1, by omega, fun s hs => ?_⟩
        by_cases h4 : s.2 < 0
        · exact absurd (List.any_eq_true.2 ⟨s, hs, decide_eq_true h4⟩) h3
        · omega
theorem cov_facts {xs : List Sp} {tlo thi : Int} (h : covE xs tlo thi = 0) :
    (∀ s, s ∈ covL xs tlo thi → StepOk xs tlo thi s) ∧ (covL xs tlo thi).Pairwise (fun s t => hiA xs s.2.toNat ≤ t.1) ∧ ∀ y, tlo ≤ y → y < thi → ∃ s, s ∈ covL xs tlo thi ∧ s.1 ≤ y ∧ y < hiA xs s.2.toNat :=
  runF_facts xs thi _ tlo (Nat.le_refl _) (cov_pos h).2.2

/-- how many of the first k are chosen -/
def cntTo (sel : Nat → Bool) : Nat → Nat
  | 0 => 0
  | k + 1 => cntTo sel k + (if sel k = true then 1 else 0)
theorem nodup_count (sel : Nat → Bool) : ∀ (n : Nat) (l : List Nat), l.Nodup → (∀ i, i ∈ l → i < n ∧ sel i = true) → l.length ≤ cntTo sel n
  | 0, l, _, h => by
    cases l with
    | nil => exact Nat.le_refl _
    | cons a l => exact absurd (h a (by simp)).1 (by omega)
  | n + 1, l, hn, h => by
    unfold cntTo
    by_cases hm : n ∈ l
    · rw [if_pos (h n hm).2]
      have h1 := nodup_count sel n (l.erase n) (hn.erase n) (fun i hi => by
        obtain ⟨h2, h3⟩ := (hn.mem_erase_iff).1 hi
        exact ⟨by have := (h i h3).1; omega, (h i h3).2⟩)
      rw [List.length_erase_of_mem hm] at h1
      omega
    · have h1 := nodup_count sel n l hn (fun i hi => by
        have : i ≠ n := fun e => hm (e ▸ hi)
        exact ⟨by have := (h i hi).1; omega, (h i hi).2⟩)
      omega
/-- a cover needs as many chosen spans as there are steps -/
theorem cover_needs {xs : List Sp} {tlo thi : Int} {sel : Nat → Bool} (h : covE xs tlo thi = 0) (hc : ∀ y, tlo ≤ y → y < thi → covd xs sel y) : (covL xs tlo thi).length ≤ cntTo sel xs.length := by
  obtain ⟨h1, h2, -⟩ := cov_facts h
  have hex : ∀ (l : List (Int × Int)), (∀ s, s ∈ l → StepOk xs tlo thi s) → l.Pairwise (fun s t => hiA xs s.2.toNat ≤ t.1) →
      ∃ g : List Nat, g.length = l.length ∧ g.Nodup ∧ ∀ i, i ∈ g → i < xs.length ∧ sel i = true ∧ ∃ s, s ∈ l ∧ loA xs i ≤ s.1 ∧ s.1 < hiA xs i := by
    intro l
    induction l with
    | nil => intro _ _; exact ⟨[], rfl, List.nodup_nil, fun i hi => (by cases hi)⟩
    | cons s l ih =>
      intro k1 k2
      obtain ⟨k3, k4⟩ := List.pairwise_cons.1 k2
      obtain ⟨g, g1, g2, g3⟩ := ih (fun t ht => k1 t (by simp [ht])) k4
      have hs := k1 s (by simp)
      obtain ⟨i, hi, hsel, hlo, hhi⟩ := hc s.1 hs.from_ hs.to_
      refine ⟨i :: g, by simp [g1], List.nodup_cons.2 ⟨fun hm => ?_, g2⟩, fun j hj => ?_⟩
      · obtain ⟨_, _, t, ht, _, ht2⟩ := g3 i hm
        have := hs.max i hi hlo hhi
        have := k3 t ht
        omega
      · rcases List.mem_cons.1 hj with rfl | hj
        · exact ⟨hi, hsel, s, by simp, hlo, hhi⟩
        · obtain ⟨j1, j2, t, j3, j4⟩ := g3 j hj
          exact ⟨j1, j2, t, by simp [j3], j4⟩
  obtain ⟨g, g1, g2, g3⟩ := hex _ h1 h2
  rw [← g1]
  exact nodup_count sel _ g g2 (fun i hi => ⟨(g3 i hi).1, (g3 i hi).2.1⟩)
/-- two steps: the later one lies behind the earlier one's span -/
theorem step_two {xs : List Sp} {tlo thi : Int} (h : covE xs tlo thi = 0) {j k : Nat} (hjk : j < k) (hk : k < (covL xs tlo thi).length) :
    hiA xs (ixL (covL xs tlo thi) j).toNat ≤ atL (covL xs tlo thi) k := by
  have h2 := (cov_facts h).2.1
  have := List.pairwise_iff_getElem.1 h2 j k (by omega) hk hjk
  simpa [ixL, atL, List.getD_eq_getElem?_getD, List.getElem?_eq_getElem hk, List.getElem?_eq_getElem (show j < (covL xs tlo thi).length by omega)] using this
theorem step_ok {xs : List Sp} {tlo thi : Int} (h : covE xs tlo thi = 0) {k : Nat} (hk : k < (covL xs tlo thi).length) :
    StepOk xs tlo thi (atL (covL xs tlo thi) k, ixL (covL xs tlo thi) k) ∧ 0 ≤ ixL (covL xs tlo thi) k := by
  have hm : (covL xs tlo thi)[k] ∈ covL xs tlo thi := List.getElem_mem hk
  have e : (atL (covL xs tlo thi) k, ixL (covL xs tlo thi) k) = (covL xs tlo thi)[k] := by
    simp [ixL, atL, List.getD_eq_getElem?_getD, List.getElem?_eq_getElem hk]
  refine ⟨by rw [e]; exact (cov_facts h).1 _ hm, ?_⟩
  have := (cov_pos h).2.2 _ hm
  rw [← e] at this
  exact this
/-- with no choice made, a walk that stops early shows a number that no span holds -/
theorem runF_open (xs : List Sp) (thi : Int) : ∀ f x, (thi - x).toNat ≤ f → (∃ s, s ∈ runF xs thi f x ∧ s.2 < 0) → ∃ y, x ≤ y ∧ y < thi ∧ ∀ i, i < xs.length → ¬ (loA xs i ≤ y ∧ y < hiA xs i)
  | f, x, hf, hs => by
    by_cases hlt : x < thi
    · obtain ⟨f', hf', hr⟩ := runF_step (xs := xs) hlt hf
      subst hf'
      rw [hr] at hs
      have hhas := bestTo_has xs x xs.length
      have hmax := bestTo_max xs x xs.length
      generalize bestTo xs x xs.length = b at hs hhas hmax
      by_cases hneg : b < 0
      · exact ⟨x, Int.le_refl _, hlt, fun i hi h => by have := (hmax i hi h.1 h.2).1; omega⟩
      · rw [if_neg hneg] at hs
        obtain ⟨s, hs, h0⟩ := hs
        rcases List.mem_cons.1 hs with rfl | hs
        · exact absurd h0 hneg
        · have h1 := hhas (by omega)
          obtain ⟨y, y1, y2, y3⟩ := runF_open xs thi f' (hiA xs b.toNat) (by omega) ⟨s, hs, h0⟩
          exact ⟨y, by omega, y2, y3⟩
    · rw [runF_end hlt] at hs
      obtain ⟨s, hs, _⟩ := hs
      cases hs
  termination_by f => f
theorem cov_open {xs : List Sp} {tlo thi : Int} (h : covE xs tlo thi = 10) : ∃ y, tlo ≤ y ∧ y < thi ∧ ∀ i, i < xs.length → ¬ (loA xs i ≤ y ∧ y < hiA xs i) := by
  unfold covE at h
  split at h
  · omega
  · split at h
    · rename_i h2
      unfold checkE at h
      split at h
      · omega
      · split at h <;> omega
    · split at h
      · rename_i h3
        obtain ⟨s, hs, hd⟩ := List.any_eq_true.1 h3
        exact runF_open xs thi _ tlo (Nat.le_refl _) ⟨s, hs, of_decide_eq_true hd⟩
      · omega

end Go.Proofs.Ytikfiofjhmeheaa
