/- A row of values as a curve; where a curve is least. -/
import Derived.Test.YtdepnhnpklbmiaaW1
import Derived.Test.YtdepnhnpklbmiaaA6
import Derived.Test.YtdepnhnpklbmiaaB23
namespace Go.Proofs.Ytdepnhnpklbmiaa
open Go.RowKit Go.Sort

def dfs (vs : List Int) : Nat → List Int
  | 0 => []
  | j + 1 => dfs vs j ++ [iA vs (j + 1) - iA vs j]
theorem dfs_len (vs : List Int) : ∀ j, (dfs vs j).length = j
  | 0 => rfl
  | j + 1 => by simp [dfs, dfs_len vs j]
theorem iA_app_old {xs ys : List Int} {i : Nat} (h : i < xs.length) : iA (xs ++ ys) i = iA xs i := by
  unfold iA
  simp only [List.getD_eq_getElem?_getD, List.getElem?_append_left h]
theorem iA_app_new {xs : List Int} {y : Int} {i : Nat} (h : i = xs.length) : iA (xs ++ [y]) i = y := by
  subst h
  unfold iA
  simp [List.getD_eq_getElem?_getD]
theorem dfs_at (vs : List Int) : ∀ {j i : Nat}, i < j → iA (dfs vs j) i = iA vs (i + 1) - iA vs i
  | j + 1, i, h => by
    simp only [dfs]
    by_cases hi : i < j
    · rw [iA_app_old (by rw [dfs_len]; exact hi)]
      exact dfs_at vs hi
    · obtain rfl : i = j := by omega
      rw [iA_app_new (by rw [dfs_len])]
/-- the curve of a row -/
def rowC (f : Int) (vs : List Int) : Cu := ⟨f, iA vs 0, dfs vs (vs.length - 1)⟩
theorem rowC_of {d : Cu} {vs : List Int} (hl : vs.length = d.sl.length + 1) (h : ∀ k, k ≤ d.sl.length → iA vs k = valK d k) : rowC d.fr vs = d := by
  have hn : vs.length - 1 = d.sl.length := by omega
  refine cu_ext rfl (h 0 (Nat.zero_le _)) (ints_ext ?_ fun i hi => ?_)
  · show (dfs vs (vs.length - 1)).length = _
    rw [dfs_len, hn]
  · have hi : i < (dfs vs (vs.length - 1)).length := hi
    rw [dfs_len, hn] at hi
    show iA (dfs vs (vs.length - 1)) i = _
    rw [dfs_at vs (by omega), h (i + 1) hi, h i (by omega)]
    show valK d i + iA d.sl i - valK d i = _
    omega
theorem rowC_vals (d : Cu) : rowC d.fr (vals d (d.sl.length + 1)) = d :=
  rowC_of (vals_len _ _) fun _ hk => vals_at (by omega)

/-! ### where a curve is least -/
theorem valK_succ (c : Cu) (j : Nat) : valK c (j + 1) = valK c j + iA c.sl j := rfl
theorem down1 {c : Cu} {j : Nat} (hj : j < climK c 0) : valK c (j + 1) < valK c j := by
  have := climK_lt hj
  rw [valK_succ]
  omega
theorem down_to {c : Cu} : ∀ {d j : Nat}, j + d = climK c 0 → 0 < d → valK c (climK c 0) < valK c j
  | 1, j, h, _ => by
    rw [← h]
    exact down1 (by omega)
  | d + 2, j, h, _ => by
    have h1 := down1 (c := c) (j := j) (by omega)
    have h2 := down_to (c := c) (d := d + 1) (j := j + 1) (by omega) (by omega)
    omega
theorem up_from {c : Cu} (ha : ascTo c.sl c.sl.length) (p : Int) (hp : 0 ≤ p) : ∀ d : Nat, climK c p + d ≤ c.sl.length → valK c (climK c p) + p * d ≤ valK c (climK c p + d)
  | 0, _ => by simp
  | d + 1, h => by
    have h1 := up_from ha p hp d (by omega)
    have h2 := climK_ge (p := p) ha (j := climK c p + d) (by omega) (by omega)
    rw [show climK c p + (d + 1) = (climK c p + d) + 1 by omega, valK_succ]
    have : p * ((d + 1 : Nat) : Int) = p * d + p := by
      rw [show ((d + 1 : Nat) : Int) = (d : Int) + 1 by omega, Int.mul_add, Int.mul_one]
    omega
theorem climK_01 {c : Cu} (ha : ascTo c.sl c.sl.length) : climK c 0 ≤ climK c 1 := by
  rcases Nat.lt_or_ge (climK c 1) (climK c 0) with h | h
  · have h1 := climK_lt h
    have h2 := climK_ge (p := 1) ha (j := climK c 1) (Nat.le_refl _) (by have := climK_le c 0; omega)
    omega
  · exact h
theorem flat {c : Cu} (ha : ascTo c.sl c.sl.length) : ∀ d : Nat, climK c 0 + d ≤ climK c 1 → valK c (climK c 0 + d) = valK c (climK c 0)
  | 0, _ => rfl
  | d + 1, h => by
    have h1 := flat ha d (by omega)
    have h2 := climK_lt (c := c) (p := 1) (j := climK c 0 + d) (by omega)
    have h3 := climK_ge (p := 0) ha (j := climK c 0 + d) (by omega) (by have := climK_le c 1; omega)
    rw [show climK c 0 + (d + 1) = (climK c 0 + d) + 1 by omega, valK_succ, h1]
    omega
theorem lo_step {c : Cu} (ha : ascTo c.sl c.sl.length) {j : Nat} (hj : j ≤ c.sl.length) : (if valK c j < valK c (min (j - 1) (climK c 0)) then j else min (j - 1) (climK c 0)) = min j (climK c 0) := by
  rcases Nat.eq_zero_or_pos j with rfl | h0
  · rw [Nat.zero_sub, Nat.zero_min, if_neg (by omega)]
  · by_cases h : j ≤ climK c 0
    · have e : min (j - 1) (climK c 0) = j - 1 := by omega
      have h1 := down1 (c := c) (j := j - 1) (by omega)
      rw [show j - 1 + 1 = j by omega] at h1
      rw [e, if_pos h1]
      omega
    · have e : min (j - 1) (climK c 0) = climK c 0 := by omega
      have h1 := up_from ha 0 (Int.le_refl _) (j - climK c 0) (by omega)
      rw [show climK c 0 + (j - climK c 0) = j by omega] at h1
      rw [e, if_neg (by omega)]
      omega
theorem hi_eq {c : Cu} (ha : ascTo c.sl c.sl.length) {j : Nat} (hj : j ≤ c.sl.length) : valK c j = valK c (climK c 0) ↔ climK c 0 ≤ j ∧ j ≤ climK c 1 := by
  have h01 := climK_01 ha
  constructor
  · intro h
    refine ⟨?_, ?_⟩
    · rcases Nat.lt_or_ge j (climK c 0) with h1 | h1
      · have := down_to (c := c) (d := climK c 0 - j) (j := j) (by omega) (by omega)
        omega
      · exact h1
    · rcases Nat.lt_or_ge (climK c 1) j with h1 | h1
      · have h2 := up_from ha 1 (by decide) (j - climK c 1) (by omega)
        rw [show climK c 1 + (j - climK c 1) = j by omega] at h2
        have h3 := flat ha (climK c 1 - climK c 0) (by omega)
        rw [show climK c 0 + (climK c 1 - climK c 0) = climK c 1 by omega] at h3
        omega
      · exact h1
  · rintro ⟨h1, h2⟩
    have := flat ha (j - climK c 0) (by omega)
    rwa [show climK c 0 + (j - climK c 0) = j by omega] at this
theorem hi_step {c : Cu} (ha : ascTo c.sl c.sl.length) {j : Nat} (hj : j ≤ c.sl.length) : (if valK c j = valK c (climK c 0) then j else max (climK c 0) (min (j - 1) (climK c 1))) = max (climK c 0) (min j (climK c 1)) := by
  have h01 := climK_01 ha
  by_cases h : climK c 0 ≤ j ∧ j ≤ climK c 1
  · rw [if_pos ((hi_eq ha hj).2 h)]
    omega
  · rw [if_neg fun e => h ((hi_eq ha hj).1 e)]
    omega
end Go.Proofs.Ytdepnhnpklbmiaa
