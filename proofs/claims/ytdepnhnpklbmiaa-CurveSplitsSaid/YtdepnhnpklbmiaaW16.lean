/- Split, as mathematics: each share is the least that costs no more, and the price is the dearest step taken. -/
import Derived.Test.YtdepnhnpklbmiaaA4
namespace Go.Proofs.Ytdepnhnpklbmiaa
open Go.RowKit Go.Sort
theorem pS_low {xs : List Int} {p : Int} (a : Nat) : ∀ d : Nat, (∀ i, a ≤ i → i < a + d → iA xs i ≤ p) → pS xs (a + d) ≤ pS xs a + p * (d : Int)
  | 0, _ => by simp
  | d + 1, h => by
    have ih := pS_low a d fun i h1 h2 => h i h1 (by omega)
    have h1 := h (a + d) (by omega) (by omega)
    have e : p * ((d + 1 : Nat) : Int) = p * (d : Int) + p := by rw [Int.natCast_add, Int.mul_add]; simp
    show pS xs (a + d) + iA xs (a + d) ≤ _
    rw [e]
    omega
theorem pS_high {xs : List Int} {p : Int} (a : Nat) : ∀ d : Nat, (∀ i, a ≤ i → i < a + d → p ≤ iA xs i) → pS xs a + p * (d : Int) ≤ pS xs (a + d)
  | 0, _ => by simp
  | d + 1, h => by
    have ih := pS_high a d fun i h1 h2 => h i h1 (by omega)
    have h1 := h (a + d) (by omega) (by omega)
    have e : p * ((d + 1 : Nat) : Int) = p * (d : Int) + p := by rw [Int.natCast_add, Int.mul_add]; simp
    show _ ≤ pS xs (a + d) + iA xs (a + d)
    rw [e]
    omega
/-- a smaller share costs more -/
theorem share_least {xs s : List Int} {p : Int} {K m y : Nat} (hK : K ≤ m) (hlow : ∀ i, i < K → iA xs i ≤ p) (hhigh : ∀ i, m - K ≤ i → i < s.length → p ≤ iA s i) (hy : y < K) (hm : m - y ≤ s.length)
    (hx : (∀ i, i < K → iA xs i < p) ∨ (∀ i, m - K ≤ i → i < s.length → p < iA s i)) : pS xs K + pS s (m - K) < pS xs y + pS s (m - y) := by
  obtain ⟨d, rfl⟩ : ∃ d, K = y + d := ⟨K - y, by omega⟩
  have e : m - y = m - (y + d) + d := by omega
  rw [e]
  rcases hx with hx | hx
  · have h1 := pS_low (xs := xs) (p := p - 1) y d fun i h1 h2 => by have := hx i h2; omega
    have h2 := pS_high (xs := s) (p := p) (m - (y + d)) d fun i h1 h2 => hhigh i h1 (by omega)
    have e2 : (p - 1) * (d : Int) = p * d - d := by rw [Int.sub_mul, Int.one_mul]
    rw [e2] at h1
    omega
  · have h1 := pS_low (xs := xs) (p := p) y d fun i h1 h2 => hlow i h2
    have h2 := pS_high (xs := s) (p := p + 1) (m - (y + d)) d fun i h1 h2 => by have := hx i h1 (by omega); omega
    have e2 : (p + 1) * (d : Int) = p * d + d := by rw [Int.add_mul, Int.one_mul]
    rw [e2] at h2
    omega
/-- what the sorted rest is like where a division ends -/
theorem Divided.rest {cs : Nat → Cu} {n m : Nat} {p : Int} {K : Nat → Nat} (h : Divided cs n m p K) :
    (∀ i, i < m → iA (sortI (catL cs n)) i ≤ p) ∧ (∀ i, m ≤ i → i < (sortI (catL cs n)).length → p ≤ iA (sortI (catL cs n)) i) ∧
    ((∀ j, j < n → ∀ i, K j ≤ i → i < (cs j).sl.length → p < iA (cs j).sl i) → ∀ i, m ≤ i → i < (sortI (catL cs n)).length → p < iA (sortI (catL cs n)) i) := by
  have hs := sortI_asc (catL cs n)
  have c0 : cnt p (sortI (catL cs n)) ≤ m := by
    have e := sumTo_cnt p cs n
    have l : sumTo (fun j => (cnt p (cs j).sl : Int)) n ≤ sumTo (fun j => (K j : Int)) n := sumTo_le n fun j hj => by
      have := cnt_le p (cs j).sl (K j) (h.high j hj)
      omega
    rw [cnt_perm p (sortI_perm (catL cs n))]
    have := h.sum
    omega
  have c1 : m ≤ cnt (p + 1) (sortI (catL cs n)) := by
    have e := sumTo_cnt (p + 1) cs n
    have l : sumTo (fun j => (K j : Int)) n ≤ sumTo (fun j => (cnt (p + 1) (cs j).sl : Int)) n := sumTo_le n fun j hj => by
      have := cnt_ge (p + 1) (cs j).sl (K j) (h.le j hj) fun i hi => by have := h.low j hj i hi; omega
      omega
    rw [cnt_perm (p + 1) (sortI_perm (catL cs n))]
    have := h.sum
    omega
  refine ⟨fun i hi => ?_, fun i h1 h2 => cnt_above hs (by omega) h2, fun hx i h1 h2 => ?_⟩
  · have := cnt_below hs (p := p + 1) (j := i) (by omega)
    omega
  · have c2 : cnt (p + 1) (sortI (catL cs n)) ≤ m := by
      have e := sumTo_cnt (p + 1) cs n
      have l : sumTo (fun j => (cnt (p + 1) (cs j).sl : Int)) n ≤ sumTo (fun j => (K j : Int)) n := sumTo_le n fun j hj => by
        have := cnt_le (p + 1) (cs j).sl (K j) fun i h1 h2 => by have := hx j hj i h1 h2; omega
        omega
      rw [cnt_perm (p + 1) (sortI_perm (catL cs n))]
      have := h.sum
      omega
    have := cnt_above hs (p := p + 1) (j := i) (by omega) h2
    omega
theorem sumTo_pos {f : Nat → Int} : ∀ n, (∀ j, j < n → 0 ≤ f j) → 0 ≤ sumTo f n
  | 0, _ => Int.le_refl _
  | n + 1, h => by
    have h1 := sumTo_pos n fun j hj => h j (by omega)
    have h2 := h n (by omega)
    unfold sumTo
    omega
/-- the division of the last curves -/
theorem Divided.last {cs : Nat → Cu} {n m : Nat} {p : Int} {K : Nat → Nat} (h : Divided cs n m p K) (i : Nat) (_ : i ≤ n) :
    ∃ m', Divided (fun j => cs (i + j)) (n - i) m' p (fun j => K (i + j)) :=
  ⟨(sumTo (fun j => (K (i + j) : Int)) (n - i)).toNat, fun j hj => h.le (i + j) (by omega), by
    have := sumTo_pos (f := fun j => (K (i + j) : Int)) (n - i) fun j _ => by omega
    omega, fun j hj => h.opt (i + j) (by omega), fun j hj => h.low (i + j) (by omega), fun j hj => h.high (i + j) (by omega)⟩
/-- the first of the last -/
theorem sumTo_first (f : Nat → Int) : ∀ n, sumTo f (n + 1) = f 0 + sumTo (fun j => f (j + 1)) n
  | 0 => by simp [sumTo]
  | n + 1 => by
    rw [show sumTo f (n + 1 + 1) = sumTo f (n + 1) + f (n + 1) from rfl, sumTo_first f n, show sumTo (fun j => f (j + 1)) (n + 1) = sumTo (fun j => f (j + 1)) n + f (n + 1) from rfl]
    omega
/-- who takes what is left: a curve takes more than it must only where all later ones have taken all that costs no more -/
theorem kD_last {cs : Nat → Cu} {p : Int} {n : Nat} {l0 : Int} (h0 : 0 ≤ l0) (hasc : ∀ j, j < n → ascTo (cs j).sl (cs j).sl.length) {i : Nat} (hi : i < n) :
    kD cs p n l0 i = climK (cs i) p ∨ ∀ j, i < j → j < n → ∀ t, kD cs p n l0 j ≤ t → t < (cs j).sl.length → p < iA (cs j).sl t := by
  have hg := kD_given cs p n l0 h0 i
  rcases Nat.lt_or_ge (climK (cs i) p) (kD cs p n l0 i) with hlt | hge
  · refine .inr fun j hj hjn t ht htl => ?_
    have hl := hg.left
    have hp := hg.pos
    dsimp only at hl hp hlt
    have hgj := kD_given cs p n l0 h0 j
    have hge := hgj.ge
    dsimp only at hge
    have hs := hgj.stop
    dsimp only at hs
    have hmono := leftD_mono cs p n l0 h0 (n - j) (n - 1 - i - (n - j))
    rw [show n - j + (n - 1 - i - (n - j)) = n - 1 - i by omega] at hmono
    have e : leftD cs p n l0 (n - j) = (give (cs j) p (climK (cs j) p) (leftD cs p n l0 (n - 1 - j))).2 := by
      rw [show n - j = (n - 1 - j) + 1 by omega]
      show (give (cs (n - 1 - (n - 1 - j))) p (climK (cs (n - 1 - (n - 1 - j))) p) (leftD cs p n l0 (n - 1 - j))).2 = _
      rw [show n - 1 - (n - 1 - j) = j by omega]
    rw [← e] at hs
    have ha := hasc j hjn
    have hk := climK_ge (c := cs j) (p := p) ha (j := t) (by omega) htl
    rcases hs with hs | hs | hs
    · omega
    · omega
    · have h1 := asc_mono ha ht htl
      have h2 := climK_ge (c := cs j) (p := p) ha (j := kD cs p n l0 j) hge (by omega)
      omega
  · have := hg.ge
    dsimp only at this
    exact .inl (by omega)
/-- the dearest step of the shares -/
def prF (cs : Nat → Cu) (K : Nat → Nat) : Nat → Int
  | 0 => -1048576
  | k + 1 => if K k = 0 then prF cs K k else max (prF cs K k) (iA (cs k).sl (K k - 1))
theorem prF_le {cs : Nat → Cu} {K : Nat → Nat} {p : Int} (hp : -1048576 ≤ p) : ∀ n, (∀ j, j < n → ∀ i, i < K j → iA (cs j).sl i ≤ p) → prF cs K n ≤ p
  | 0, _ => hp
  | n + 1, h => by
    have ih := prF_le hp n fun j hj => h j (by omega)
    unfold prF
    split
    · exact ih
    · have := h n (by omega) (K n - 1) (by omega)
      omega
theorem prF_ge {cs : Nat → Cu} {K : Nat → Nat} {j : Nat} (hK : K j ≠ 0) : ∀ n, j < n → iA (cs j).sl (K j - 1) ≤ prF cs K n
  | 0, h => absurd h (Nat.not_lt_zero _)
  | n + 1, h => by
    unfold prF
    rcases Nat.lt_or_ge j n with h1 | h1
    · have ih := prF_ge (cs := cs) hK n h1
      split
      · exact ih
      · omega
    · obtain rfl : j = n := by omega
      rw [if_neg hK]
      omega
theorem price_is {cs : Nat → Cu} {n m : Nat} {p : Int} {K : Nat → Nat} (h : Divided cs n m p K) (hasc : ∀ j, j < n → ascTo (cs j).sl (cs j).sl.length) (hp : -1048576 ≤ p) (h0 : m = 0 → p = -1048576) (h1 : 0 < m → p = iA (sortI (catL cs n)) (m - 1)) : prF cs K n = p := by
  have hle := prF_le hp n h.low
  have hge : p ≤ prF cs K n := by
    rcases Nat.eq_zero_or_pos m with e | e
    · have : ∀ n, -1048576 ≤ prF cs K n := fun n => by
        induction n with
        | zero => exact Int.le_refl _
        | succ n ih =>
          unfold prF
          split
          · exact ih
          · omega
      rw [h0 e]
      exact this n
    · refine Classical.byContradiction fun hn => ?_
      have hall : ∀ j, j < n → ∀ i, i < K j → iA (cs j).sl i < p := fun j hj i hi => by
        have h2 := prF_ge (cs := cs) (K := K) (j := j) (by omega) n hj
        have h3 := h.low j hj (K j - 1) (by omega)
        rcases Int.lt_or_le (iA (cs j).sl i) p with q | q
        · exact q
        · exfalso
          have h4 := h.low j hj i hi
          have : iA (cs j).sl i ≤ iA (cs j).sl (K j - 1) := by
            have := h.le j hj
            exact asc_mono (hasc j hj) (by omega) (by omega)
          omega
      have c : m ≤ cnt p (sortI (catL cs n)) := by
        have e := sumTo_cnt p cs n
        have l : sumTo (fun j => (K j : Int)) n ≤ sumTo (fun j => (cnt p (cs j).sl : Int)) n := sumTo_le n fun j hj => by
          have := cnt_ge p (cs j).sl (K j) (h.le j hj) (hall j hj)
          omega
        rw [cnt_perm p (sortI_perm (catL cs n))]
        have := h.sum
        omega
      have := cnt_below (sortI_asc (catL cs n)) (p := p) (j := m - 1) (by omega)
      rw [← h1 e] at this
      omega
  omega
/-- the slopes, the first curve's in front -/
theorem catL_first (cs : Nat → Cu) : ∀ n, catL cs (n + 1) = (cs 0).sl ++ catL (fun j => cs (j + 1)) n
  | 0 => by simp [catL]
  | n + 1 => by
    rw [show catL cs (n + 1 + 1) = catL cs (n + 1) ++ (cs (n + 1)).sl from rfl, catL_first cs n, show catL (fun j => cs (j + 1)) (n + 1) = catL (fun j => cs (j + 1)) n ++ (cs (n + 1)).sl from rfl, List.append_assoc]
/-- all but the first -/
theorem Divided.tail {cs : Nat → Cu} {n m : Nat} {p : Int} {K : Nat → Nat} (h : Divided cs (n + 1) m p K) : K 0 ≤ m ∧ Divided (fun j => cs (j + 1)) n (m - K 0) p (fun j => K (j + 1)) := by
  have h1 := h.sum
  rw [sumTo_first] at h1
  have h2 := sumTo_pos (f := fun j => (K (j + 1) : Int)) n fun j _ => by omega
  exact ⟨by omega, fun j hj => h.le (j + 1) (by omega), by omega, fun j hj => h.opt (j + 1) (by omega), fun j hj => h.low (j + 1) (by omega), fun j hj => h.high (j + 1) (by omega)⟩
theorem sumTo_len {cs : Nat → Cu} {n m : Nat} {p : Int} {K : Nat → Nat} (h : Divided cs n m p K) : m ≤ (catL cs n).length := by
  have h1 := h.sum
  have h2 := catL_length cs n
  rw [sumTo_add] at h2
  have h3 := sumTo_le (f := fun j => (K j : Int)) (g := fun j => ((cs j).sl.length : Int)) n fun j hj => by have := h.le j hj; omega
  omega
/-- the first share's cost and the rest's are the whole's -/
theorem share_eq {cs : Nat → Cu} {n m : Nat} {p : Int} {K : Nat → Nat} (h : Divided cs (n + 1) m p K) :
    m - K 0 ≤ (sortI (catL (fun j => cs (j + 1)) n)).length ∧ pS (cs 0).sl (K 0) + pS (sortI (catL (fun j => cs (j + 1)) n)) (m - K 0) = pS (sortI ((cs 0).sl ++ sortI (catL (fun j => cs (j + 1)) n))) m := by
  obtain ⟨h1, h2⟩ := h.tail
  have l1 := sumTo_len h
  have l2 := sumTo_len h2
  have c1 := divided_cost h l1
  have c2 := divided_cost h2 l2
  rw [sumTo_first, sumTo_first (fun j => (cs j).fst), catL_first] at c1
  rw [sortI_right]
  refine ⟨by rw [sortI_length]; exact l2, ?_⟩
  have e := valK_pS (cs 0) (K 0)
  (try dsimp only at c1 c2)
  omega
/-- no smaller share costs as little -/
theorem share_ne {cs : Nat → Cu} {n m : Nat} {p : Int} {K : Nat → Nat} (h : Divided cs (n + 1) m p K) (hk : K 0 = climK (cs 0) p ∨ ∀ j, 0 < j → j < n + 1 → ∀ t, K j ≤ t → t < (cs j).sl.length → p < iA (cs j).sl t)
    {y : Nat} (hy : y < K 0) (hm : m - y ≤ (sortI (catL (fun j => cs (j + 1)) n)).length) :
    pS (sortI ((cs 0).sl ++ sortI (catL (fun j => cs (j + 1)) n))) m < pS (cs 0).sl y + pS (sortI (catL (fun j => cs (j + 1)) n)) (m - y) := by
  obtain ⟨h1, h2⟩ := h.tail
  rw [← (share_eq h).2]
  have hr := h2.rest
  refine share_least h1 (h.low 0 (by omega)) hr.2.1 hy hm ?_
  rcases hk with hk | hk
  · refine .inl fun i hi => ?_
    rw [hk] at hi
    exact climK_lt hi
  · exact .inr (hr.2.2 fun j hj => hk (j + 1) (by omega) (by omega))
end Go.Proofs.Ytdepnhnpklbmiaa
