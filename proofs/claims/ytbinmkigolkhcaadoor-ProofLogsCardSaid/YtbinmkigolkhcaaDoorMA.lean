/- The mathematics of proofs: the hashes that prove a beginning, and the two roots that hashes make. -/
import Derived.Test.YtbinmkigolkhcaaDoorPJ
namespace Go.Proofs.YtbinmkigolkhcaaDoor
open Go.RowKit Go.Sort

def growthF : Nat → List (List UInt8) → Nat → Bool → List Nat
  | 0, _, _, _ => []
  | f + 1, l, m, wh => if m = l.length then (if wh then [] else [rootV l]) else
      if m ≤ halfN l.length then growthF f (l.take (halfN l.length)) m wh ++ [rootV (l.drop (halfN l.length))]
      else growthF f (l.drop (halfN l.length)) (m - halfN l.length) false ++ [rootV (l.take (halfN l.length))]
def growthV (l : List (List UInt8)) (m : Nat) (wh : Bool) : List Nat := growthF l.length l m wh
theorem growthF_ok : ∀ (f g : Nat) (l : List (List UInt8)) (m : Nat) (wh : Bool), 1 ≤ m → m ≤ l.length → l.length ≤ f → l.length ≤ g → growthF f l m wh = growthF g l m wh
  | 0, _, l, m, _, h1, h2, h3, _ => by omega
  | _ + 1, 0, l, m, _, h1, h2, _, h4 => by omega
  | f + 1, g + 1, l, m, wh, h1, h2, h3, h4 => by
    simp only [growthF]
    split
    · rfl
    · have hh := halfN_lt (n := l.length) (by omega)
      split
      · rw [growthF_ok f g (l.take (halfN l.length)) m wh h1 (by rw [List.length_take]; omega) (by rw [List.length_take]; omega) (by rw [List.length_take]; omega)]
      · rw [growthF_ok f g (l.drop (halfN l.length)) (m - halfN l.length) false (by omega) (by rw [List.length_drop]; omega) (by rw [List.length_drop]; omega) (by rw [List.length_drop]; omega)]
theorem growth_all {l : List (List UInt8)} {m : Nat} (h : m = l.length) (h1 : 1 ≤ m) (wh : Bool) : growthV l m wh = if wh then [] else [rootV l] := by
  obtain ⟨f, hf⟩ : ∃ f, l.length = f + 1 := ⟨l.length - 1, by omega⟩
  unfold growthV
  rw [hf]
  simp only [growthF]
  rw [if_pos h]
theorem growth_lo {l : List (List UInt8)} {m : Nat} (h1 : 1 ≤ m) (h2 : m < l.length) (hm : m ≤ halfN l.length) (wh : Bool) : growthV l m wh = growthV (l.take (halfN l.length)) m wh ++ [rootV (l.drop (halfN l.length))] := by
  have hh := halfN_lt (n := l.length) (by omega)
  obtain ⟨f, hf⟩ : ∃ f, l.length = f + 1 := ⟨l.length - 1, by omega⟩
  unfold growthV
  rw [hf]
  simp only [growthF]
  rw [if_neg (by omega), if_pos hm, ← hf]
  rw [growthF_ok f _ (l.take (halfN l.length)) m wh h1 (by rw [List.length_take]; omega) (by rw [List.length_take]; omega) (Nat.le_refl _)]
theorem growth_hi {l : List (List UInt8)} {m : Nat} (h2 : m < l.length) (h1 : 1 ≤ m) (hm : halfN l.length < m) (wh : Bool) : growthV l m wh = growthV (l.drop (halfN l.length)) (m - halfN l.length) false ++ [rootV (l.take (halfN l.length))] := by
  have hh := halfN_lt (n := l.length) (by omega)
  obtain ⟨f, hf⟩ : ∃ f, l.length = f + 1 := ⟨l.length - 1, by omega⟩
  unfold growthV
  rw [hf]
  simp only [growthF]
  rw [if_neg (by omega), if_neg (by omega), ← hf]
  rw [growthF_ok f _ (l.drop (halfN l.length)) (m - halfN l.length) false (by omega) (by rw [List.length_drop]; omega) (by rw [List.length_drop]; omega) (Nat.le_refl _)]
theorem growthF_len : ∀ (f : Nat) (l : List (List UInt8)) (m : Nat) (wh : Bool), (growthF f l m wh).length ≤ f ∧ ∀ p ∈ growthF f l m wh, p < 18446744073709551616
  | 0, _, _, _ => ⟨Nat.le_refl _, fun p hp => by simp [growthF] at hp⟩
  | f + 1, l, m, wh => by
    simp only [growthF]
    split
    · cases wh
      · exact ⟨by simp, fun p hp => by simp at hp; rw [hp]; exact rootV_lt _⟩
      · exact ⟨by simp, fun p hp => by simp at hp⟩
    · split
      · obtain ⟨a, b⟩ := growthF_len f (l.take (halfN l.length)) m wh
        refine ⟨by rw [List.length_append, List.length_singleton]; omega, fun p hp => ?_⟩
        rcases List.mem_append.1 hp with h | h
        · exact b p h
        · rw [List.mem_singleton] at h; rw [h]; exact rootV_lt _
      · obtain ⟨a, b⟩ := growthF_len f (l.drop (halfN l.length)) (m - halfN l.length) false
        refine ⟨by rw [List.length_append, List.length_singleton]; omega, fun p hp => ?_⟩
        rcases List.mem_append.1 hp with h | h
        · exact b p h
        · rw [List.mem_singleton] at h; rw [h]; exact rootV_lt _
theorem growth_len (l : List (List UInt8)) (m : Nat) (wh : Bool) : (growthV l m wh).length ≤ l.length := (growthF_len _ l m wh).1
theorem growth_bound (l : List (List UInt8)) (m : Nat) (wh : Bool) : ∀ p ∈ growthV l m wh, p < 18446744073709551616 := (growthF_len _ l m wh).2

/-- the two roots that hashes make, and whether they are just as many as are taken -/
def twoF : Nat → Nat → Nat → Bool → Nat → List Nat → Nat × Nat × Bool
  | 0, _, _, _, _, _ => (0, 0, false)
  | f + 1, m, n, wh, old, hs => if m = n ∧ wh = true then (old, old, decide (hs.length = 0)) else if hs.length = 0 then (0, 0, false) else
      if m = n then (hs.getD (hs.length - 1) 0, hs.getD (hs.length - 1) 0, decide (hs.length - 1 = 0)) else
      if m ≤ halfN n then ((twoF f m (halfN n) wh old (hs.take (hs.length - 1))).1, nodeV (twoF f m (halfN n) wh old (hs.take (hs.length - 1))).2.1 (hs.getD (hs.length - 1) 0), (twoF f m (halfN n) wh old (hs.take (hs.length - 1))).2.2)
      else (nodeV (hs.getD (hs.length - 1) 0) (twoF f (m - halfN n) (n - halfN n) false old (hs.take (hs.length - 1))).1, nodeV (hs.getD (hs.length - 1) 0) (twoF f (m - halfN n) (n - halfN n) false old (hs.take (hs.length - 1))).2.1, (twoF f (m - halfN n) (n - halfN n) false old (hs.take (hs.length - 1))).2.2)
def twoV (m n : Nat) (wh : Bool) (old : Nat) (hs : List Nat) : Nat × Nat × Bool := twoF n m n wh old hs
theorem twoF_ok : ∀ (f g m n : Nat) (wh : Bool) (old : Nat) (hs : List Nat), 1 ≤ m → m ≤ n → n ≤ f → n ≤ g → twoF f m n wh old hs = twoF g m n wh old hs
  | 0, _, m, n, _, _, _, h1, h2, h3, _ => by omega
  | _ + 1, 0, m, n, _, _, _, h1, h2, _, h4 => by omega
  | f + 1, g + 1, m, n, wh, old, hs, h1, h2, h3, h4 => by
    simp only [twoF]
    by_cases c1 : m = n ∧ wh = true
    · rw [if_pos c1, if_pos c1]
    rw [if_neg c1, if_neg c1]
    by_cases c2 : hs.length = 0
    · rw [if_pos c2, if_pos c2]
    rw [if_neg c2, if_neg c2]
    by_cases c3 : m = n
    · rw [if_pos c3, if_pos c3]
    rw [if_neg c3, if_neg c3]
    have hh := halfN_lt (n := n) (by omega)
    by_cases c4 : m ≤ halfN n
    · rw [if_pos c4, if_pos c4, twoF_ok f g m (halfN n) wh old _ h1 c4 (by omega) (by omega)]
    · rw [if_neg c4, if_neg c4, twoF_ok f g (m - halfN n) (n - halfN n) false old _ (by omega) (by omega) (by omega) (by omega)]
section
variable {m n : Nat} {wh : Bool} {old : Nat} {hs : List Nat}
theorem two_whole (h1 : 1 ≤ n) : twoV n n true old hs = (old, old, decide (hs.length = 0)) := by
  obtain ⟨f, rfl⟩ : ∃ f, n = f + 1 := ⟨n - 1, by omega⟩
  unfold twoV
  simp only [twoF]
  rw [if_pos ⟨trivial, trivial⟩]
theorem two_none (h1 : 1 ≤ n) (h : ¬ (m = n ∧ wh = true)) (h0 : hs.length = 0) : twoV m n wh old hs = (0, 0, false) := by
  obtain ⟨f, rfl⟩ : ∃ f, n = f + 1 := ⟨n - 1, by omega⟩
  unfold twoV
  simp only [twoF]
  rw [if_neg h, if_pos h0]
theorem two_part (h1 : 1 ≤ n) (h0 : hs.length ≠ 0) : twoV n n false old hs = (hs.getD (hs.length - 1) 0, hs.getD (hs.length - 1) 0, decide (hs.length - 1 = 0)) := by
  obtain ⟨f, rfl⟩ : ∃ f, n = f + 1 := ⟨n - 1, by omega⟩
  unfold twoV
  simp only [twoF]
  rw [if_neg (fun h => Bool.noConfusion h.2), if_neg h0, if_pos trivial]
theorem two_lo (h1 : 1 ≤ m) (h2 : m < n) (h0 : hs.length ≠ 0) (hm : m ≤ halfN n) : twoV m n wh old hs = ((twoV m (halfN n) wh old (hs.take (hs.length - 1))).1, nodeV (twoV m (halfN n) wh old (hs.take (hs.length - 1))).2.1 (hs.getD (hs.length - 1) 0), (twoV m (halfN n) wh old (hs.take (hs.length - 1))).2.2) := by
  have hh := halfN_lt (n := n) (by omega)
  obtain ⟨f, hf⟩ : ∃ f, n = f + 1 := ⟨n - 1, by omega⟩
  unfold twoV
  conv => lhs; rw [hf]
  simp only [twoF]
  rw [← hf, if_neg (fun h => by omega), if_neg h0, if_neg (by omega), if_pos hm, twoF_ok f (halfN n) m (halfN n) wh old _ h1 hm (by omega) (Nat.le_refl _)]
theorem two_hi (h1 : 1 ≤ m) (h2 : m < n) (h0 : hs.length ≠ 0) (hm : halfN n < m) : twoV m n wh old hs = (nodeV (hs.getD (hs.length - 1) 0) (twoV (m - halfN n) (n - halfN n) false old (hs.take (hs.length - 1))).1, nodeV (hs.getD (hs.length - 1) 0) (twoV (m - halfN n) (n - halfN n) false old (hs.take (hs.length - 1))).2.1, (twoV (m - halfN n) (n - halfN n) false old (hs.take (hs.length - 1))).2.2) := by
  have hh := halfN_lt (n := n) (by omega)
  obtain ⟨f, hf⟩ : ∃ f, n = f + 1 := ⟨n - 1, by omega⟩
  unfold twoV
  conv => lhs; rw [hf]
  simp only [twoF]
  rw [← hf, if_neg (fun h => by omega), if_neg h0, if_neg (by omega), if_neg (by omega), twoF_ok f (n - halfN n) (m - halfN n) (n - halfN n) false old _ (by omega) (by omega) (by omega) (Nat.le_refl _)]
end
theorem half_of_between {m n : Nat} (h2 : 2 ≤ n) (h : halfN n < m) (hm : m ≤ n) : halfN m = halfN n := by
  have h3 : n - 1 < 2 ^ (Nat.log2 (n - 1) + 1) := Nat.lt_log2_self
  exact half_uniq h (by omega)
theorem snoc_last (l : List Nat) (x : Nat) : (l ++ [x]).length ≠ 0 ∧ (l ++ [x]).getD ((l ++ [x]).length - 1) 0 = x ∧ (l ++ [x]).take ((l ++ [x]).length - 1) = l := by
  refine ⟨by simp, ?_, ?_⟩
  · rw [List.length_append, List.length_singleton, Nat.add_sub_cancel, List.getD_eq_getElem?_getD, List.getElem?_append_right (Nat.le_refl _), Nat.sub_self]
    rfl
  · rw [List.length_append, List.length_singleton, Nat.add_sub_cancel, List.take_left]
/-- THE PROOF OF A BEGINNING MAKES THE TWO ROOTS -/
theorem two_growth : ∀ (N : Nat) (l : List (List UInt8)) (m : Nat) (wh : Bool) (old : Nat), l.length ≤ N → 1 ≤ m → m ≤ l.length → (wh = true → old = rootV (l.take m)) →
    twoV m l.length wh old (growthV l m wh) = (rootV (l.take m), rootV l, true)
  | 0, l, m, _, _, h, h1, h2, _ => by omega
  | N + 1, l, m, wh, old, h, h1, h2, h3 => by
    by_cases hm : m = l.length
    · rw [growth_all hm h1]
      have ht : l.take m = l := List.take_of_length_le (by omega)
      rw [ht] at h3 ⊢
      subst hm
      cases wh
      · rw [two_part h1 (by simp)]
        rfl
      · rw [two_whole h1, ← h3 rfl]
        rfl
    · have hh := halfN_lt (n := l.length) (by omega)
      by_cases hk : m ≤ halfN l.length
      · rw [growth_lo h1 (by omega) hk]
        obtain ⟨a, b, c⟩ := snoc_last (growthV (l.take (halfN l.length)) m wh) (rootV (l.drop (halfN l.length)))
        rw [two_lo h1 (by omega) a hk, b, c]
        have hl : (l.take (halfN l.length)).length = halfN l.length := by rw [List.length_take]; omega
        have ht : (l.take (halfN l.length)).take m = l.take m := by rw [List.take_take, Nat.min_eq_left hk]
        have ih := two_growth N (l.take (halfN l.length)) m wh old (by omega) h1 (by omega) (by rw [ht]; exact h3)
        rw [hl, ht] at ih
        rw [ih, root_2 (l := l) (by omega)]
      · rw [growth_hi (by omega) h1 (by omega)]
        obtain ⟨a, b, c⟩ := snoc_last (growthV (l.drop (halfN l.length)) (m - halfN l.length) false) (rootV (l.take (halfN l.length)))
        rw [two_hi h1 (by omega) a (by omega), b, c]
        have hl : (l.drop (halfN l.length)).length = l.length - halfN l.length := by rw [List.length_drop]
        have ih := two_growth N (l.drop (halfN l.length)) (m - halfN l.length) false old (by omega) (by omega) (by omega) (fun h => by cases h)
        rw [hl] at ih
        rw [ih, root_2 (l := l) (by omega)]
        have hl2 : (l.take m).length = m := by rw [List.length_take]; omega
        have hh2 := half_of_between (m := m) (n := l.length) (by omega) (by omega) h2
        have e1 : rootV (l.take m) = nodeV (rootV (l.take (halfN l.length))) (rootV ((l.drop (halfN l.length)).take (m - halfN l.length))) := by
          rw [root_2 (l := l.take m) (by omega), hl2, hh2, List.take_take, Nat.min_eq_left (by omega), List.drop_take]
        rw [e1]
theorem twoV_lt : ∀ (N m n : Nat) (wh : Bool) (old : Nat) (hs : List Nat), n ≤ N → 1 ≤ m → m ≤ n → old < 18446744073709551616 → (∀ p ∈ hs, p < 18446744073709551616) → (twoV m n wh old hs).1 < 18446744073709551616 ∧ (twoV m n wh old hs).2.1 < 18446744073709551616
  | 0, m, n, _, _, _, h, h1, h2, _, _ => by omega
  | N + 1, m, n, wh, old, hs, h, h1, h2, ho, hp => by
    have hg : ∀ i, hs.getD i 0 < 18446744073709551616 := fun i => by
      rw [List.getD_eq_getElem?_getD]
      cases e : hs[i]? with
      | none => exact Nat.two_pow_pos 64
      | some x => exact hp x (List.mem_of_getElem? e)
    by_cases c1 : m = n ∧ wh = true
    · obtain ⟨rfl, rfl⟩ := c1
      rw [two_whole h1]
      exact ⟨ho, ho⟩
    by_cases c2 : hs.length = 0
    · rw [two_none (by omega) c1 c2]
      exact ⟨Nat.two_pow_pos 64, Nat.two_pow_pos 64⟩
    by_cases c3 : m = n
    · subst c3
      have hw : wh = false := by
        cases wh
        · rfl
        · exact absurd ⟨rfl, rfl⟩ c1
      subst hw
      rw [two_part h1 c2]
      exact ⟨hg _, hg _⟩
    have hh := halfN_lt (n := n) (by omega)
    have hp' : ∀ p ∈ hs.take (hs.length - 1), p < 18446744073709551616 := fun p h => hp p (List.mem_of_mem_take h)
    by_cases c4 : m ≤ halfN n
    · rw [two_lo h1 (by omega) c2 c4]
      exact ⟨(twoV_lt N m (halfN n) wh old _ (by omega) h1 c4 ho hp').1, nodeV_lt _ _⟩
    · rw [two_hi h1 (by omega) c2 (by omega)]
      exact ⟨nodeV_lt _ _, nodeV_lt _ _⟩

/-- THE STEPS LEAD TO THE ROOT -/
theorem follow_snoc (e : List UInt8) (ss : List St) (s : St) : followV e (ss ++ [s]) = mixV (stepB (followV e ss) s) := by
  unfold followV
  rw [List.foldl_append]
  rfl
theorem follow_steps : ∀ (N : Nat) (l : List (List UInt8)) (i : Nat), l.length ≤ N → i < l.length → followV (l.getD i []) (stepsV l i) = rootV l
  | 0, l, i, h, hi => by omega
  | N + 1, l, i, h, hi => by
    rcases Nat.lt_or_ge l.length 2 with hs | hs
    · rw [steps_1 (by omega)]
      obtain ⟨e, rfl⟩ : ∃ e, l = [e] := List.length_eq_one_iff.1 (by omega)
      obtain rfl : i = 0 := by simp at hi; omega
      rw [root_1]
      rfl
    · have hh := halfN_lt hs
      rcases Nat.lt_or_ge i (halfN l.length) with hk | hk
      · rw [steps_lo hs hk, follow_snoc]
        have hg : l.getD i [] = (l.take (halfN l.length)).getD i [] := by simp [List.getD_eq_getElem?_getD, hk]
        rw [hg, follow_steps N (l.take (halfN l.length)) i (by rw [List.length_take]; omega) (by rw [List.length_take]; omega), root_2 hs]
        rfl
      · rw [steps_hi hs hk, follow_snoc]
        have hg : l.getD i [] = (l.drop (halfN l.length)).getD (i - halfN l.length) [] := by
          simp only [List.getD_eq_getElem?_getD, List.getElem?_drop]
          rw [show halfN l.length + (i - halfN l.length) = i by omega]
        rw [hg, follow_steps N (l.drop (halfN l.length)) (i - halfN l.length) (by rw [List.length_drop]; omega) (by rw [List.length_drop]; omega), root_2 hs]
        rfl
theorem steps_sides : ∀ (N : Nat) (l : List (List UInt8)) (i : Nat), l.length ≤ N → i < l.length → (stepsV l i).map (·.2) = sidesV i l.length
  | 0, l, i, h, hi => by omega
  | N + 1, l, i, h, hi => by
    rcases Nat.lt_or_ge l.length 2 with hs | hs
    · rw [steps_1 (by omega)]
      obtain ⟨e, rfl⟩ : ∃ e, l = [e] := List.length_eq_one_iff.1 (by omega)
      rfl
    · have hh := halfN_lt hs
      rcases Nat.lt_or_ge i (halfN l.length) with hk | hk
      · have ih := steps_sides N (l.take (halfN l.length)) i (by rw [List.length_take]; omega) (by rw [List.length_take]; omega)
        rw [List.length_take, Nat.min_eq_left (by omega)] at ih
        rw [steps_lo hs hk, sides_lo hs hk, List.map_append, ih]
        rfl
      · have ih := steps_sides N (l.drop (halfN l.length)) (i - halfN l.length) (by rw [List.length_drop]; omega) (by rw [List.length_drop]; omega)
        rw [List.length_drop] at ih
        rw [steps_hi hs hk, sides_hi hs hk, List.map_append, ih]
        rfl
end Go.Proofs.YtbinmkigolkhcaaDoor
