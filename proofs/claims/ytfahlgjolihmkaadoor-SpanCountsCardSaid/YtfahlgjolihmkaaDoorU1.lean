/- Sizes of sets: how many numbers; inclusion and exclusion; the i-th number and the numbers below. -/
import Derived.Test.YtfahlgjolihmkaaDoorN18
import Derived.Test.YtfahlgjolihmkaaDoorZ4
namespace Go.Proofs.YtfahlgjolihmkaaDoor
open Go.RowKit Go.Sort

def oneB : Bool → Int
  | true => 1
  | false => 0
/-- how many of n numbers from lo on -/
def cntI (p : Int → Bool) (lo : Int) : Nat → Int
  | 0 => 0
  | n + 1 => cntI p lo n + oneB (p (lo + n))
theorem cnt_two (p q : Int → Bool) (lo : Int) : ∀ n, cntI (fun z => p z || q z) lo n + cntI (fun z => p z && q z) lo n = cntI p lo n + cntI q lo n
  | 0 => rfl
  | n + 1 => by
    have ih := cnt_two p q lo n
    simp only [cntI]
    cases p (lo + n) <;> cases q (lo + n) <;> simp only [oneB, Bool.or_self, Bool.and_self, Bool.or_true, Bool.true_or, Bool.or_false, Bool.false_or, Bool.and_true, Bool.true_and, Bool.and_false, Bool.false_and] <;> omega
theorem cnt_congr {p q : Int → Bool} {lo : Int} : ∀ n, (∀ i : Nat, i < n → p (lo + i) = q (lo + i)) → cntI p lo n = cntI q lo n
  | 0, _ => rfl
  | n + 1, h => by
    simp only [cntI]
    rw [cnt_congr n (fun i hi => h i (by omega)), h n (by omega)]
theorem cnt_none (lo : Int) : ∀ n, cntI (fun _ => false) lo n = 0
  | 0 => rfl
  | n + 1 => by simp only [cntI]; rw [cnt_none lo n]; rfl
theorem cnt_span {a b L : Int} (h0 : L ≤ a) (h1 : a ≤ b) : ∀ n : Nat, cntI (fun z => decide (a ≤ z ∧ z < b)) L n = if L + n ≤ a then 0 else if L + n ≤ b then L + n - a else b - a
  | 0 => by simp only [cntI]; rw [if_pos (by omega)]
  | n + 1 => by
    simp only [cntI]
    rw [cnt_span h0 h1 n]
    by_cases h : a ≤ L + n ∧ L + n < b
    · rw [decide_eq_true h]
      simp only [oneB]
      split
      · split
        · omega
        · split <;> omega
      · split
        · split
          · omega
          · split <;> omega
        · omega
    · rw [decide_eq_false h]
      simp only [oneB]
      split
      · split
        · omega
        · split <;> omega
      · split
        · split
          · omega
          · split <;> omega
        · split
          · omega
          · split <;> omega
theorem bef_cons (s : Sp) (xs : List Sp) : ∀ k, befA (s :: xs) (k + 1) = (s.2 - s.1) + befA xs k
  | 0 => by simp [befA, loA, hiA]
  | k + 1 => by
    rw [befA_succ, bef_cons s xs k, befA_succ]
    simp only [loA, hiA, List.getD_cons_succ]
    omega
/-- the size of a set is how many numbers of the whole are in it -/
theorem size_cnt : ∀ xs : List Sp, Canon xs → (∀ s ∈ xs, -1099511627776 ≤ s.1 ∧ s.2 ≤ 1099511627776) → befA xs xs.length = cntI (inB xs) (-1099511627776) 2199023255552
  | [], _, _ => by
    rw [cnt_congr (q := fun _ => false) _ (fun i _ => rfl), cnt_none]
    rfl
  | s :: xs, hc, hb => by
    have hc2 : Canon xs := ⟨fun t ht => hc.1 t (by simp [ht]), (List.pairwise_cons.1 hc.2).2⟩
    have ih := size_cnt xs hc2 (fun t ht => hb t (by simp [ht]))
    have hs := hb s (by simp)
    have hs2 := hc.1 s (by simp)
    rw [List.length_cons, bef_cons, ih]
    have h1 := cnt_two (fun z => decide (s.1 ≤ z ∧ z < s.2)) (inB xs) (-1099511627776) 2199023255552
    rw [cnt_span (a := s.1) (b := s.2) (by omega) (by omega)] at h1
    rw [cnt_congr (p := fun z => decide (s.1 ≤ z ∧ z < s.2) && inB xs z) (q := fun _ => false) _ (fun i _ => by
      cases h2 : inB xs (-1099511627776 + i) with
      | false => simp
      | true =>
        obtain ⟨t, ht, h3, h4⟩ := (inB_mem _ _).1 h2
        have h5 := (List.pairwise_cons.1 hc.2).1 t ht
        simp only [Bool.and_true]
        exact decide_eq_false (by omega)), cnt_none] at h1
    rw [cnt_congr (p := inB (s :: xs)) (q := fun z => decide (s.1 ≤ z ∧ z < s.2) || inB xs z) _ (fun i _ => inB_cons s xs _)]
    have h2 : (if (-1099511627776 : Int) + ((2199023255552 : Nat) : Int) ≤ s.1 then 0 else if (-1099511627776 : Int) + ((2199023255552 : Nat) : Int) ≤ s.2 then (-1099511627776 : Int) + ((2199023255552 : Nat) : Int) - s.1 else s.2 - s.1) = s.2 - s.1 := by
      split
      · omega
      · split <;> omega
    rw [h2] at h1
    omega
theorem SetS.bounds {xs : List Sp} (h : SetS xs) : ∀ s ∈ xs, -1099511627776 ≤ s.1 ∧ s.2 ≤ 1099511627776 := fun s hs => by
  have := okB_true (h.2 s hs)
  exact ⟨this.1, this.2.2⟩
/-- inclusion and exclusion -/
theorem size_two {xs ys : List Sp} (hx : SetS xs) (hy : SetS ys) :
    befA (combL (fun p q => p || q) xs ys) (combL (fun p q => p || q) xs ys).length + befA (combL (fun p q => p && q) xs ys) (combL (fun p q => p && q) xs ys).length = befA xs xs.length + befA ys ys.length := by
  have h1 := comb_set (fun p q => p || q) hx hy
  have h2 := comb_set (fun p q => p && q) hx hy
  rw [size_cnt _ h1.1 h1.bounds, size_cnt _ h2.1 h2.bounds, size_cnt _ hx.1 hx.bounds, size_cnt _ hy.1 hy.bounds]
  have hh := cnt_two (inB xs) (inB ys) (-1099511627776) 2199023255552
  have hw : ∀ i : Nat, i < 2199023255552 → wholeP (-1099511627776 + i) := fun i hi => ⟨by omega, by omega⟩
  rw [cnt_congr (p := inB (combL (fun p q => p || q) xs ys)) (q := fun z => inB xs z || inB ys z) _ (fun i hi => inB_comb _ hx hy (hw i hi)),
    cnt_congr (p := inB (combL (fun p q => p && q) xs ys)) (q := fun z => inB xs z && inB ys z) _ (fun i hi => inB_comb _ hx hy (hw i hi))]
  exact hh

/-- some span holds the i-th number -/
theorem hit_some (xs : List Sp) {i : Int} (h0 : 0 ≤ i) : ∀ k, i < befA xs k → ∃ j, j < k ∧ hitN xs i j
  | 0, h => by simp [befA] at h; omega
  | k + 1, h => by
    by_cases h1 : i < befA xs k
    · obtain ⟨j, hj, h2⟩ := hit_some xs h0 k h1
      exact ⟨j, by omega, h2⟩
    · rw [befA_succ] at h
      exact ⟨k, by omega, by omega, by omega⟩
theorem hit_range {xs : List Sp} {i : Int} {n k : Nat} (h : setTo xs n) (hn : n ≤ 128) (hk : k < n) (h1 : hitN xs i k) : 0 ≤ i ∧ i < befA xs n := by
  have a := (befA_le h hn k (by omega)).1
  have b := befA_step h n (Nat.le_refl _) k hk
  rw [befA_succ] at b
  obtain ⟨c, d⟩ := h1
  exact ⟨by omega, by omega⟩
/-- the i-th number: it is in the set, and i are below it -/
theorem hit_rank {xs : List Sp} {i : Int} {n k : Nat} (h : setTo xs n) (hk : k < n) (h1 : hitN xs i k) : loA xs k ≤ loA xs k + i - befA xs k ∧ loA xs k + i - befA xs k < hiA xs k ∧ rankTo xs (loA xs k + i - befA xs k) n = i := by
  obtain ⟨c, d⟩ := h1
  obtain ⟨z, hz⟩ : ∃ z, loA xs k + i - befA xs k = z := ⟨_, rfl⟩
  rw [hz]
  have z1 : loA xs k ≤ z := by omega
  have z2 : z < hiA xs k := by omega
  refine ⟨z1, z2, ?_⟩
  have hfull : rankTo xs z k = befA xs k := rank_full h k (by omega) fun j hj => by have := set_lo h k hk j hj; omega
  have hstep : rankTo xs z (k + 1) = i := by
    by_cases h4 : loA xs k < z
    · simp only [rankTo]
      rw [if_pos h4, if_pos z2, hfull]
      omega
    · simp only [rankTo]
      rw [if_neg h4, hfull]
      omega
  rcases Nat.lt_or_ge (k + 1) n with h2 | h2
  · have hlt := set_lo h (k + 1) h2 k (by omega)
    rw [rank_stop h h2 (by omega) n (by omega) (Nat.le_refl _), hstep]
  · rw [show n = k + 1 by omega, hstep]
/-- where x stands: all spans end before it, or k is the first that does not -/
theorem first_past (xs : List Sp) (x : Int) : ∀ n, (∀ j, j < n → hiA xs j ≤ x) ∨ ∃ k, k < n ∧ x < hiA xs k ∧ ∀ j, j < k → hiA xs j ≤ x
  | 0 => .inl fun j hj => absurd hj (Nat.not_lt_zero _)
  | n + 1 => by
    rcases first_past xs x n with h | ⟨k, h1, h2, h3⟩
    · by_cases h4 : x < hiA xs n
      · exact .inr ⟨n, by omega, h4, h⟩
      · refine .inl fun j hj => ?_
        by_cases e : j = n
        · subst e; omega
        · exact h j (by omega)
    · exact .inr ⟨k, by omega, h2, h3⟩
/-- from the numbers below x to the number there -/
theorem rank_nth {xs : List Sp} {x : Int} {n : Nat} (hl : xs.length = n) (h : setTo xs n) (hn : n ≤ 128) :
    (befA xs n ≤ rankTo xs x n) ∨ ∃ k, k < n ∧ hitN xs (rankTo xs x n) k ∧ x ≤ loA xs k + rankTo xs x n - befA xs k ∧ (inB xs x = true → loA xs k + rankTo xs x n - befA xs k = x) := by
  rcases first_past xs x n with h1 | ⟨k, hk, h2, h3⟩
  · exact .inl (by rw [rank_full h n (Nat.le_refl _) h1]; exact Int.le_refl _)
  · right
    have hok := okB_true (h k hk).1
    have hfull : rankTo xs x k = befA xs k := rank_full h k (by omega) h3
    by_cases h4 : loA xs k < x
    · have hstep : rankTo xs x (k + 1) = befA xs k + (x - loA xs k) := by
        simp only [rankTo]
        rw [if_pos h4, if_pos h2, hfull]
      have hall : rankTo xs x n = befA xs k + (x - loA xs k) := by
        rcases Nat.lt_or_ge (k + 1) n with h5 | h5
        · have hlt := set_lo h (k + 1) h5 k (by omega)
          rw [rank_stop h h5 (by omega) n (by omega) (Nat.le_refl _), hstep]
        · rw [show n = k + 1 by omega, hstep]
      exact ⟨k, hk, ⟨by omega, by omega⟩, by omega, fun _ => by omega⟩
    · have hall : rankTo xs x n = befA xs k := by
        rw [rank_stop h hk (by omega) n (by omega) (Nat.le_refl _), hfull]
      refine ⟨k, hk, ⟨by omega, by omega⟩, by omega, fun hin => ?_⟩
      obtain ⟨j, hj, h5, h6⟩ := inB_iff.1 hin
      rw [hl] at hj
      rcases Nat.lt_trichotomy j k with h7 | h7 | h7
      · have := h3 j h7; omega
      · subst h7; omega
      · have := set_lo h j hj k h7; omega
end Go.Proofs.YtfahlgjolihmkaaDoor
