/- The mathematics of a log: its peaks are the roots of the parts, and its root is theirs; how short proofs are. -/
import Derived.Test.YtbinmkigolkhcaaDoorPT
import Derived.Test.YtbinmkigolkhcaaDoorMA
namespace Go.Proofs.YtbinmkigolkhcaaDoor
open Go.RowKit Go.Sort

theorem odd_uniq : ∀ (a b m k : Nat), 2 ^ a * (2 * m + 1) = 2 ^ b * (2 * k + 1) → a = b
  | 0, 0, _, _, _ => rfl
  | 0, b + 1, m, k, h => by
    rw [Nat.pow_succ, Nat.pow_zero, Nat.one_mul, Nat.mul_comm (2 ^ b) 2, Nat.mul_assoc] at h
    omega
  | a + 1, 0, m, k, h => by
    rw [Nat.pow_succ, Nat.pow_zero, Nat.one_mul, Nat.mul_comm (2 ^ a) 2, Nat.mul_assoc] at h
    omega
  | a + 1, b + 1, m, k, h => by
    rw [Nat.pow_succ, Nat.pow_succ, Nat.mul_comm (2 ^ a) 2, Nat.mul_comm (2 ^ b) 2, Nat.mul_assoc, Nat.mul_assoc] at h
    rw [odd_uniq a b m k (Nat.eq_of_mul_eq_mul_left (by decide) h)]
theorem ctz_spec {x : Nat} (h0 : 0 < x) (h : x < 2 ^ 64) : ∃ m, x = 2 ^ Lib.ctz 64 x * (2 * m + 1) := by
  obtain ⟨m, hm, _⟩ := Lib.ctzFrom_spec 64 x h0 h
  refine ⟨m, ?_⟩
  unfold Lib.ctz
  rw [if_neg (by omega)]
  exact hm
theorem ctz_is {x a m : Nat} (h : x < 2 ^ 64) (e : x = 2 ^ a * (2 * m + 1)) : Lib.ctz 64 x = a := by
  have hp := Nat.two_pow_pos a
  have h0 : 0 < x := by rw [e]; exact Nat.mul_pos hp (by omega)
  obtain ⟨k, hk⟩ := ctz_spec h0 h
  exact (odd_uniq a _ m k (e.symm.trans hk)).symm
theorem ctz_pow {j : Nat} (h : 2 ^ j < 2 ^ 64) : Lib.ctz 64 (2 ^ j) = j := ctz_is (m := 0) h (by simp)
theorem ctz_add {j r : Nat} (h0 : 0 < r) (hr : r < 2 ^ j) (h : 2 ^ j + r < 2 ^ 64) : Lib.ctz 64 (2 ^ j + r) = Lib.ctz 64 r := by
  obtain ⟨m, hm⟩ := ctz_spec h0 (by omega)
  obtain ⟨t, ht⟩ : ∃ t, Lib.ctz 64 r = t := ⟨_, rfl⟩
  rw [ht] at hm ⊢
  have hlt : t < j := by
    rcases Nat.lt_or_ge t j with h1 | h1
    · exact h1
    · have h2 := Nat.pow_le_pow_right (n := 2) (by decide) h1
      have h3 : 2 ^ t * 1 ≤ 2 ^ t * (2 * m + 1) := Nat.mul_le_mul_left _ (by omega)
      omega
  obtain ⟨d, rfl⟩ : ∃ d, j = t + (d + 1) := ⟨j - t - 1, by omega⟩
  refine ctz_is (m := 2 ^ d + m) h ?_
  conv => lhs; rw [hm]
  rw [Nat.pow_add, Nat.pow_succ, ← Nat.mul_add]
  congr 1
  omega

def topN (n : Nat) : Nat := 2 ^ Nat.log2 n
theorem topN_le {n : Nat} (h : 1 ≤ n) : topN n ≤ n ∧ n < 2 * topN n ∧ 0 < topN n := by
  have h1 : 2 ^ Nat.log2 n ≤ n := Nat.log2_self_le (by omega)
  have h2 : n < 2 ^ (Nat.log2 n + 1) := Nat.lt_log2_self
  rw [Nat.pow_succ] at h2
  exact ⟨h1, by unfold topN; omega, Nat.two_pow_pos _⟩
theorem log_uniq {n j : Nat} (h0 : 2 ^ j ≤ n) (h1 : n < 2 ^ (j + 1)) : Nat.log2 n = j := by
  exact (Nat.log2_eq_iff (n := n) (k := j) (by have := Nat.two_pow_pos j; omega)).2 ⟨h0, h1⟩
def peaksF : Nat → List (List UInt8) → List Nat
  | 0, _ => []
  | f + 1, l => if l.length = 0 then [] else rootV (l.take (topN l.length)) :: peaksF f (l.drop (topN l.length))
/-- the peaks of a list -/
def peaksV (l : List (List UInt8)) : List Nat := peaksF l.length l
theorem peaksF_ok : ∀ (f g : Nat) (l : List (List UInt8)), l.length ≤ f → l.length ≤ g → peaksF f l = peaksF g l
  | 0, 0, _, _, _ => rfl
  | 0, g + 1, l, h, _ => by
    simp only [peaksF]
    rw [if_pos (by omega)]
  | f + 1, 0, l, _, h => by
    simp only [peaksF]
    rw [if_pos (by omega)]
  | f + 1, g + 1, l, h, k => by
    simp only [peaksF]
    split
    · rfl
    · have hh := topN_le (n := l.length) (by omega)
      rw [peaksF_ok f g (l.drop (topN l.length)) (by rw [List.length_drop]; omega) (by rw [List.length_drop]; omega)]
theorem peaks_nil : peaksV [] = [] := rfl
theorem peaks_cons {l : List (List UInt8)} (h : 1 ≤ l.length) : peaksV l = rootV (l.take (topN l.length)) :: peaksV (l.drop (topN l.length)) := by
  have hh := topN_le h
  obtain ⟨f, hf⟩ : ∃ f, l.length = f + 1 := ⟨l.length - 1, by omega⟩
  unfold peaksV
  conv => lhs; rw [hf]
  simp only [peaksF]
  rw [if_neg (by omega), peaksF_ok f _ (l.drop (topN l.length)) (by rw [List.length_drop]; omega) (Nat.le_refl _)]
theorem peaks_pos {l : List (List UInt8)} (h : 1 ≤ l.length) : 1 ≤ (peaksV l).length := by
  rw [peaks_cons h, List.length_cons]
  omega
theorem peaks_bound : ∀ (N : Nat) (l : List (List UInt8)), l.length ≤ N → ∀ p ∈ peaksV l, p < 18446744073709551616
  | 0, l, h, p, hp => by
    rw [List.eq_nil_of_length_eq_zero (by omega : l.length = 0), peaks_nil] at hp
    simp at hp
  | N + 1, l, h, p, hp => by
    rcases Nat.eq_zero_or_pos l.length with h0 | h0
    · rw [List.eq_nil_of_length_eq_zero h0, peaks_nil] at hp
      simp at hp
    · have hh := topN_le h0
      rw [peaks_cons h0] at hp
      rcases List.mem_cons.1 hp with h1 | h1
      · rw [h1]; exact rootV_lt _
      · exact peaks_bound N _ (by rw [List.length_drop]; omega) p h1
theorem peaks_len : ∀ (j : Nat) (l : List (List UInt8)), l.length < 2 ^ j → (peaksV l).length ≤ j
  | 0, l, h => by
    rw [List.eq_nil_of_length_eq_zero (by omega : l.length = 0), peaks_nil]
    exact Nat.le_refl _
  | j + 1, l, h => by
    rcases Nat.eq_zero_or_pos l.length with h0 | h0
    · rw [List.eq_nil_of_length_eq_zero h0, peaks_nil]
      exact Nat.zero_le _
    · have hh := topN_le h0
      rw [peaks_cons h0, List.length_cons]
      have := peaks_len j (l.drop (topN l.length)) (by
        rw [List.length_drop]
        rw [Nat.pow_succ] at h
        rcases Nat.lt_or_ge l.length (2 ^ j) with h1 | h1
        · omega
        · have : topN l.length = 2 ^ j := by
            unfold topN
            rw [log_uniq h1 (by rw [Nat.pow_succ]; exact h)]
          omega)
      omega
theorem rp_cons (q : Nat) (rest : List Nat) (n : Nat) : ∀ k, k ≤ n → rpF (q :: rest) (n + 1) k = rpF rest n k
  | 0, _ => rfl
  | k + 1, h => by
    simp only [rpF]
    rw [rp_cons q rest n k (by omega)]
    rw [show n + 1 - 1 - k = (n - 1 - k) + 1 by omega]
    rfl
theorem half_top {n : Nat} (h : 2 ≤ n) (ht : topN n < n) : halfN n = topN n := by
  have h2 : n < 2 ^ (Nat.log2 n + 1) := Nat.lt_log2_self
  exact half_uniq ht (by omega)
/-- THE PEAKS' ROOT IS THE LIST'S -/
theorem rp_peaks : ∀ (N : Nat) (l : List (List UInt8)), l.length ≤ N → 1 ≤ l.length → rpF (peaksV l) ((peaksV l).length - 1) ((peaksV l).length - 1) = rootV l
  | 0, l, h, h1 => by omega
  | N + 1, l, h, h1 => by
    have hh := topN_le h1
    rw [peaks_cons h1]
    rcases Nat.lt_or_ge (topN l.length) l.length with ht | ht
    · have hd : 1 ≤ (l.drop (topN l.length)).length := by rw [List.length_drop]; omega
      have ih := rp_peaks N (l.drop (topN l.length)) (by rw [List.length_drop]; omega) hd
      have hp := peaks_pos hd
      obtain ⟨k, hk⟩ : ∃ k, (peaksV (l.drop (topN l.length))).length = k + 1 := ⟨_ - 1, (Nat.sub_add_cancel hp).symm⟩
      rw [List.length_cons, Nat.add_sub_cancel, hk]
      rw [hk, Nat.add_sub_cancel] at ih
      simp only [rpF]
      rw [rp_cons _ _ k k (Nat.le_refl _), ih, Nat.add_sub_cancel, Nat.sub_self, root_2 (l := l) (by omega), half_top (by omega) ht]
      rfl
    · have hn : l.drop (topN l.length) = [] := List.drop_of_length_le (by omega)
      have htk : l.take (topN l.length) = l := List.take_of_length_le (by omega)
      rw [hn, htk, peaks_nil]
      rfl
theorem peaks_root (l : List (List UInt8)) : peaksRoot (peaksV l) = rootV l := by
  unfold peaksRoot
  rcases Nat.eq_zero_or_pos l.length with h0 | h0
  · rw [List.eq_nil_of_length_eq_zero h0]
    rfl
  · have := peaks_pos h0
    rw [if_neg (by omega), rp_peaks _ l (Nat.le_refl _) h0]

theorem rz_cons (q : Nat) (ps : List Nat) (x : Nat) : ∀ i, i ≤ ps.length → rzF (q :: ps) x i = rzF ps x i
  | 0, _ => rfl
  | i + 1, h => by
    simp only [rzF]
    rw [rz_cons q ps x i (by omega), List.length_cons]
    rw [show ps.length + 1 - 1 - i = (ps.length - 1 - i) + 1 by omega]
    rfl
theorem raise_cons (q : Nat) {ps : List Nat} (x : Nat) {t : Nat} (h : t ≤ ps.length) : raiseV (q :: ps) x t = q :: raiseV ps x t := by
  unfold raiseV
  rw [List.length_cons, rz_cons q ps x t h, show ps.length + 1 - t = (ps.length - t) + 1 by omega, List.take_succ_cons]
  rfl
/-- ONE ENTRY MORE RAISES THE PEAKS -/
theorem peaks_raise : ∀ (N : Nat) (l : List (List UInt8)) (e : List UInt8), l.length ≤ N → l.length < 2 ^ 62 → Lib.ctz 64 (l.length + 1) ≤ (peaksV l).length ∧ peaksV (l ++ [e]) = raiseV (peaksV l) (leafV e) (Lib.ctz 64 (l.length + 1))
  | N, [], e, _, _ => by
    have h1 : Lib.ctz 64 (0 + 1) = 0 := rfl
    show Lib.ctz 64 (0 + 1) ≤ 0 ∧ peaksV [e] = raiseV [] (leafV e) (Lib.ctz 64 (0 + 1))
    rw [h1]
    refine ⟨Nat.le_refl _, ?_⟩
    have e2 : topN ([e] : List (List UInt8)).length = 1 := by
      show topN 1 = 1
      decide
    rw [peaks_cons (l := [e]) (by simp), e2]
    show rootV [e] :: peaksV [] = [leafV e]
    rw [root_1]
    rfl
  | 0, a :: l, e, h, _ => by simp at h
  | N + 1, a :: l', e, h, hb => by
    obtain ⟨l, hl⟩ : ∃ l, a :: l' = l := ⟨_, rfl⟩
    have h1 : 1 ≤ l.length := by rw [← hl, List.length_cons]; omega
    rw [hl] at h hb ⊢
    clear hl
    have hh := topN_le h1
    obtain ⟨j, hj⟩ : ∃ j, Nat.log2 l.length = j := ⟨_, rfl⟩
    have hp : topN l.length = 2 ^ j := by unfold topN; rw [hj]
    rw [hp] at hh
    have hdl : (l.drop (2 ^ j)).length = l.length - 2 ^ j := List.length_drop
    have hlen : (l ++ [e]).length = l.length + 1 := by rw [List.length_append]; rfl
    have h62 : (2 : Nat) ^ 62 < 2 ^ 64 := Nat.pow_lt_pow_right (by decide) (by decide)
    have hda : l.drop (2 ^ j) ++ [e] = (l ++ [e]).drop (2 ^ j) := by rw [List.drop_append_of_le_length (by omega)]
    have hta : l.take (2 ^ j) = (l ++ [e]).take (2 ^ j) := by rw [List.take_append_of_le_length (by omega)]
    obtain ⟨ih1, ih2⟩ := peaks_raise N (l.drop (2 ^ j)) e (by omega) (by omega)
    rw [hdl] at ih1 ih2
    have hpl : peaksV l = rootV (l.take (2 ^ j)) :: peaksV (l.drop (2 ^ j)) := by rw [peaks_cons h1, hp]
    rcases Nat.lt_or_ge (l.length + 1) (2 * 2 ^ j) with hc | hc
    · have ec : Lib.ctz 64 (l.length + 1) = Lib.ctz 64 (l.length - 2 ^ j + 1) := by
        have := ctz_add (j := j) (r := l.length - 2 ^ j + 1) (by omega) (by omega) (by omega)
        rw [← this]
        congr 1
        omega
      rw [ec, hpl, List.length_cons]
      refine ⟨by omega, ?_⟩
      rw [raise_cons _ _ ih1, ← ih2, hda, hta]
      have e2 : topN (l ++ [e]).length = 2 ^ j := by
        unfold topN
        rw [hlen, log_uniq (n := l.length + 1) (j := j) (by omega) (by rw [Nat.pow_succ]; omega)]
      rw [peaks_cons (l := l ++ [e]) (by omega), e2]
    · have hn : l.length + 1 = 2 ^ (j + 1) := by rw [Nat.pow_succ]; omega
      have hr : l.length - 2 ^ j + 1 = 2 ^ j := by omega
      have c1 : Lib.ctz 64 (l.length + 1) = j + 1 := by rw [hn]; exact ctz_pow (by rw [← hn]; omega)
      have c2 : Lib.ctz 64 (l.length - 2 ^ j + 1) = j := by rw [hr]; exact ctz_pow (by omega)
      rw [c2] at ih1 ih2
      have hdl2 : (l.drop (2 ^ j) ++ [e]).length = 2 ^ j := by rw [List.length_append, hdl]; exact hr
      have e3 : topN (2 ^ j) = 2 ^ j := by
        unfold topN
        rw [log_uniq (n := 2 ^ j) (j := j) (Nat.le_refl _) (Nat.pow_lt_pow_right (by decide) (by omega))]
      have hone : peaksV (l.drop (2 ^ j) ++ [e]) = [rootV (l.drop (2 ^ j) ++ [e])] := by
        rw [peaks_cons (by omega), hdl2, e3, List.take_of_length_le (l := l.drop (2 ^ j) ++ [e]) (by omega), List.drop_of_length_le (l := l.drop (2 ^ j) ++ [e]) (by omega)]
        rfl
      rw [hone] at ih2
      have hlq : (peaksV (l.drop (2 ^ j))).length = j := by
        have := congrArg List.length ih2
        unfold raiseV at this
        rw [List.length_append, List.length_take, List.length_singleton, List.length_singleton] at this
        omega
      have hz : rzF (peaksV (l.drop (2 ^ j))) (leafV e) j = rootV (l.drop (2 ^ j) ++ [e]) := by
        unfold raiseV at ih2
        rw [hlq, Nat.sub_self, List.take_zero, List.nil_append] at ih2
        injection ih2 with h3 _
        exact h3.symm
      rw [c1, hpl, List.length_cons, hlq]
      refine ⟨Nat.le_refl _, ?_⟩
      have e5 : topN (l ++ [e]).length = 2 ^ (j + 1) := by
        unfold topN
        rw [hlen, hn, log_uniq (n := 2 ^ (j + 1)) (j := j + 1) (Nat.le_refl _) (Nat.pow_lt_pow_right (by decide) (by omega))]
      rw [peaks_cons (l := l ++ [e]) (by omega), e5, List.take_of_length_le (by omega), List.drop_of_length_le (by omega)]
      unfold raiseV
      rw [List.length_cons, hlq, Nat.sub_self, List.take_zero, List.nil_append]
      simp only [rzF]
      rw [rz_cons _ _ _ j (by omega), hz, List.length_cons, hlq, Nat.add_sub_cancel, Nat.sub_self]
      have e6 : halfN (l ++ [e]).length = 2 ^ j := by
        rw [hlen]
        refine half_uniq ?_ (by omega)
        omega
      rw [root_2 (l := l ++ [e]) (by omega), e6, ← hda, ← hta]
      rfl

/-! how short proofs are -/
theorem half_parts {n j : Nat} (h : 2 ≤ n) (hn : n ≤ 2 ^ (j + 1)) : halfN n ≤ 2 ^ j ∧ n - halfN n ≤ 2 ^ j := by
  have h0 : n - 1 < 2 ^ (Nat.log2 (n - 1) + 1) := Nat.lt_log2_self
  have h1 : 2 ^ Nat.log2 (n - 1) ≤ n - 1 := Nat.log2_self_le (by omega)
  have hj : Nat.log2 (n - 1) ≤ j := by
    rcases Nat.lt_or_ge j (Nat.log2 (n - 1)) with h2 | h2
    · have := Nat.pow_le_pow_right (n := 2) (by decide) h2
      omega
    · exact h2
  have h3 := Nat.pow_le_pow_right (n := 2) (by decide) hj
  rw [Nat.pow_succ] at h0
  unfold halfN
  omega
theorem steps_short : ∀ (j : Nat) (l : List (List UInt8)) (i : Nat), 1 ≤ l.length → l.length ≤ 2 ^ j → (stepsV l i).length ≤ j
  | 0, l, i, h1, h => by
    rw [steps_1 (by omega)]
    exact Nat.le_refl _
  | j + 1, l, i, h1, h => by
    rcases Nat.lt_or_ge l.length 2 with hs | hs
    · rw [steps_1 (by omega)]
      exact Nat.zero_le _
    · have hh := halfN_lt hs
      have hp := half_parts hs h
      rcases Nat.lt_or_ge i (halfN l.length) with hk | hk
      · rw [steps_lo hs hk, List.length_append, List.length_singleton]
        have := steps_short j (l.take (halfN l.length)) i (by rw [List.length_take]; omega) (by rw [List.length_take]; omega)
        omega
      · rw [steps_hi hs hk, List.length_append, List.length_singleton]
        have := steps_short j (l.drop (halfN l.length)) (i - halfN l.length) (by rw [List.length_drop]; omega) (by rw [List.length_drop]; omega)
        omega
theorem growth_short : ∀ (j : Nat) (l : List (List UInt8)) (m : Nat) (wh : Bool), 1 ≤ m → m ≤ l.length → l.length ≤ 2 ^ j → (growthV l m wh).length ≤ j + 1
  | 0, l, m, wh, h1, h2, h => by
    rw [growth_all (by omega) h1]
    cases wh <;> simp
  | j + 1, l, m, wh, h1, h2, h => by
    by_cases hm : m = l.length
    · rw [growth_all hm h1]
      cases wh <;> simp
    · have hh := halfN_lt (n := l.length) (by omega)
      have hp := half_parts (n := l.length) (by omega) h
      rcases Nat.lt_or_ge (halfN l.length) m with hk | hk
      · rw [growth_hi (by omega) h1 hk, List.length_append, List.length_singleton]
        have := growth_short j (l.drop (halfN l.length)) (m - halfN l.length) false (by omega) (by rw [List.length_drop]; omega) (by rw [List.length_drop]; omega)
        omega
      · rw [growth_lo h1 (by omega) hk, List.length_append, List.length_singleton]
        have := growth_short j (l.take (halfN l.length)) m wh h1 (by rw [List.length_take]; omega) (by rw [List.length_take]; omega)
        omega
def digits (n : Nat) : Nat := if n = 0 then 0 else Nat.log2 n + 1
theorem digits_succ {n : Nat} (h : 0 < n) : digits n = digits (n / 2) + 1 := by
  unfold digits
  rw [if_neg (by omega)]
  rcases Nat.lt_or_ge n 2 with h2 | h2
  · obtain rfl : n = 1 := by omega
    decide
  · rw [if_neg (by omega), Nat.log2_def, if_pos h2]
theorem digits_le {n : Nat} (h : 1 ≤ n) : n ≤ 2 ^ digits n := by
  unfold digits
  rw [if_neg (by omega)]
  exact Nat.le_of_lt Nat.lt_log2_self
end Go.Proofs.YtbinmkigolkhcaaDoor
