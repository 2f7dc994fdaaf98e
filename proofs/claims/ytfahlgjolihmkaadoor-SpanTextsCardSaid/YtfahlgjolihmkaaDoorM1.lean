/- Plain facts about sets of spans: order, where a number lies. -/
import Derived.Test.YtfahlgjolihmkaaDoorB1
namespace Go.Proofs.YtfahlgjolihmkaaDoor
open Go.RowKit Go.Sort

theorem setTo_ok {xs : List Sp} {n k : Nat} (h : setTo xs n) (hk : k < n) : -1099511627776 ≤ loA xs k ∧ loA xs k < hiA xs k ∧ hiA xs k ≤ 1099511627776 := okB_true (h k hk).1
theorem setTo_lt {xs : List Sp} {n : Nat} (h : setTo xs n) : ∀ {j k : Nat}, j < k → k < n → hiA xs j < loA xs k := by
  intro j k hjk
  induction k with
  | zero => omega
  | succ k ih =>
    intro hk
    have h1 := (h (k + 1) hk).2 (by omega)
    rw [Nat.add_sub_cancel] at h1
    rcases Nat.lt_or_ge j k with h2 | h2
    · have h3 := ih h2 (by omega)
      have h4 := (setTo_ok h (k := k) (by omega)).2.1
      omega
    · obtain rfl : j = k := by omega
      exact h1
theorem setTo_hi {xs : List Sp} {n : Nat} (h : setTo xs n) {j k : Nat} (hjk : j ≤ k) (hk : k < n) : hiA xs j ≤ hiA xs k := by
  rcases Nat.lt_or_ge j k with h1 | h1
  · have h2 := setTo_lt h h1 hk
    have h3 := (setTo_ok h hk).2.1
    omega
  · obtain rfl : j = k := by omega
    exact Int.le_refl _
theorem setTo_lo {xs : List Sp} {n : Nat} (h : setTo xs n) {j k : Nat} (hjk : j ≤ k) (hk : k < n) : loA xs j ≤ loA xs k := by
  rcases Nat.lt_or_ge j k with h1 | h1
  · have h2 := setTo_lt h h1 hk
    have h3 := (setTo_ok h (k := j) (by omega)).2.1
    omega
  · obtain rfl : j = k := by omega
    exact Int.le_refl _

theorem find_first {α : Type} [Inhabited α] {p : α → Bool} {xs : List α} {i : Nat} (d : α) (hi : i < xs.length) (h1 : ∀ j, j < i → p (xs.getD j d) = false) (h2 : p (xs.getD i d) = true) : xs.find? p = some (xs.getD i d) := by
  induction xs generalizing i with
  | nil => simp at hi
  | cons a xs ih =>
    cases i with
    | zero => simp at h2; simp [h2]
    | succ i =>
      have h0 := h1 0 (by omega)
      simp at h0
      rw [List.find?_cons_of_neg (by simp [h0])]
      have := ih (i := i) (by simpa using hi) (fun j hj => by have := h1 (j + 1) (by omega); simpa using this) (by simpa using h2)
      simpa using this
theorem find_none {α : Type} {p : α → Bool} {xs : List α} (d : α) (h1 : ∀ j, j < xs.length → p (xs.getD j d) = false) : xs.find? p = none := by
  rw [List.find?_eq_none]
  intro x hx
  obtain ⟨k, hk, rfl⟩ := List.mem_iff_getElem.1 hx
  have := h1 k hk
  rw [List.getD_eq_getElem?_getD, List.getElem?_eq_getElem hk] at this
  simp at this
  simp [this]

/-- what stretch says at the place that Search has found -/
theorem str_cases {xs : List Sp} {n : Nat} {x : Int} (hl : xs.length = n) (hs : setTo xs n) (i : Nat) (h1 : ∀ j, j + 1 = i → decide (x < hiA xs j) = false) (h2 : i < n → decide (x < hiA xs i) = true) (hin : i ≤ n) :
    (i = n → inB xs x = false ∧ strE xs x = 1099511627776) ∧ (i < n → x < loA xs i → inB xs x = false ∧ strE xs x = loA xs i) ∧ (i < n → loA xs i ≤ x → inB xs x = true ∧ strE xs x = hiA xs i) := by
  have hb : ∀ j, j < i → hiA xs j ≤ x := by
    intro j hj
    have h3 := of_decide_eq_false (h1 (i - 1) (by omega))
    have := setTo_hi hs (j := j) (k := i - 1) (by omega) (by omega)
    omega
  have hf : i < n → xs.find? (fun s => decide (x < s.2)) = some (xs.getD i (0, 0)) := fun hlt =>
    find_first (0, 0) (by omega) (fun j hj => decide_eq_false (by have := hb j hj; unfold hiA at this; omega)) (by have := h2 hlt; unfold hiA at this; exact this)
  refine ⟨fun e => ⟨inB_false fun k hk => ?_, ?_⟩, fun hlt hx => ⟨inB_false fun k hk => ?_, ?_⟩, fun hlt hx => ⟨inB_true (k := i) (by omega) hx (of_decide_eq_true (h2 hlt)), ?_⟩⟩
  · have := hb k (by omega)
    omega
  · unfold strE
    rw [find_none (0, 0) fun j hj => decide_eq_false (by have := hb j (by omega); unfold hiA at this; omega)]
  · rcases Nat.lt_or_ge k i with h3 | h3
    · have := hb k h3
      omega
    · have := setTo_lo hs h3 (by omega)
      omega
  · unfold strE
    rw [hf hlt]
    show (if x < loA xs i then loA xs i else hiA xs i) = _
    rw [if_pos hx]
  · unfold strE
    rw [hf hlt]
    show (if x < loA xs i then loA xs i else hiA xs i) = _
    rw [if_neg (by omega)]

end Go.Proofs.YtfahlgjolihmkaaDoor
