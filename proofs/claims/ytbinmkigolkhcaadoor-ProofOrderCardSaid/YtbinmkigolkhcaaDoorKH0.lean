/- ProofBlames: what Included and Accuse say of two ways. -/
import Derived.Test.YtbinmkigolkhcaaDoorKF
import Derived.Test.YtbinmkigolkhcaaDoorKG
set_option linter.unusedSimpArgs false
set_option linter.unusedVariables false
namespace Go.Proofs.YtbinmkigolkhcaaDoor
open Go.RowKit Go.Sort
attribute [local go_sem] Oper.semAt_some

theorem inc_true {l : List UInt8} {i n : Int} {r : Nat} {s : List St} (h : (includedV l i n r s).1 = true) : placeB i n = true ∧ ¬ 256 < l.length ∧ leadB s (sidesV i.toNat n.toNat) = true ∧ followV l s = r ∧ (includedV l i n r s).2 = 0 := by
  unfold includedV at h ⊢
  by_cases h1 : placeB i n = false
  · rw [if_pos h1] at h; cases h
  rw [if_neg h1] at h ⊢
  by_cases h2 : 256 < l.length
  · rw [if_pos h2] at h; cases h
  rw [if_neg h2] at h ⊢
  simp only [Bool.and_eq_true, decide_eq_true_iff] at h
  exact ⟨by cases hp : placeB i n <;> simp_all, h2, h.1, h.2, rfl⟩
theorem accE_zero {i n : Int} {l1 l2 : List UInt8} {s1 s2 : List St} (h : accE i n l1 s1 l2 s2 = 0) : placeB i n = true ∧ ¬ 256 < l1.length ∧ ¬ 256 < l2.length ∧ l1 ≠ l2 ∧ leadB s1 (sidesV i.toNat n.toNat) = true ∧ leadB s2 (sidesV i.toNat n.toNat) = true ∧ followV l1 s1 = followV l2 s2 := by
  unfold accE at h
  by_cases h1 : placeB i n = false
  · rw [if_pos h1] at h; cases h
  rw [if_neg h1] at h
  by_cases h2 : 256 < l1.length
  · rw [if_pos h2] at h; cases h
  rw [if_neg h2] at h
  by_cases h3 : 256 < l2.length
  · rw [if_pos h3] at h; cases h
  rw [if_neg h3] at h
  by_cases h4 : l1 = l2
  · rw [if_pos h4] at h; cases h
  rw [if_neg h4] at h
  by_cases h5 : leadB s1 (sidesV i.toNat n.toNat) = false
  · rw [if_pos h5] at h; cases h
  rw [if_neg h5] at h
  by_cases h6 : leadB s2 (sidesV i.toNat n.toNat) = false
  · rw [if_pos h6] at h; cases h
  rw [if_neg h6] at h
  by_cases h7 : followV l1 s1 = followV l2 s2
  · exact ⟨by simpa using h1, h2, h3, h4, by simpa using h5, by simpa using h6, h7⟩
  · rw [if_neg h7] at h; cases h
/-- both accepted and different: no error -/
theorem acc_good {i n : Int} {l1 l2 : List UInt8} {s1 s2 : List St} (h1 : (includedV l1 i n (followV l1 s1) s1).1 = true) (h2 : (includedV l2 i n (followV l1 s1) s2).1 = true) (hne : l1 ≠ l2) : accE i n l1 s1 l2 s2 = 0 := by
  obtain ⟨a1, a2, a3, a4, _⟩ := inc_true h1
  obtain ⟨b1, b2, b3, b4, _⟩ := inc_true h2
  unfold accE
  rw [if_neg (by rw [a1]; decide), if_neg a2, if_neg b2, if_neg hne, if_neg (by rw [a3]; decide), if_neg (by rw [b3]; decide), if_pos b4.symm]
theorem acc_bad {i n : Int} {l1 l2 : List UInt8} {s1 s2 : List St} (h : accE i n l1 s1 l2 s2 = 0) : (includedV l1 i n (followV l1 s1) s1).1 = true ∧ (includedV l2 i n (followV l1 s1) s2).1 = true ∧ l1 ≠ l2 := by
  obtain ⟨a, b1, b2, hne, c1, c2, hf⟩ := accE_zero h
  refine ⟨?_, ?_, hne⟩
  · unfold includedV
    rw [if_neg (by rw [a]; decide), if_neg b1, c1]
    simp
  · unfold includedV
    rw [if_neg (by rw [a]; decide), if_neg b2, c2, hf]
    simp
theorem firstK_le {l1 l2 : List UInt8} {s1 s2 : List St} {k : Nat} (hk : FirstK l1 s1 l2 s2 k) (hl : s1.length = s2.length) (hf : followV l1 s1 = followV l2 s2) : k ≤ s1.length := by
  rcases Nat.lt_or_ge s1.length k with h | h
  · refine absurd ?_ (hk.1 s1.length h)
    have a1 := mix_lev l1 s1 s1.length (Nat.le_refl _)
    have a2 := mix_lev l2 s2 s1.length (by omega)
    rw [List.take_length] at a1
    rw [hl, List.take_length] at a2
    rw [a1, hl, a2, hf]
  · exact h

end Go.Proofs.YtbinmkigolkhcaaDoor
