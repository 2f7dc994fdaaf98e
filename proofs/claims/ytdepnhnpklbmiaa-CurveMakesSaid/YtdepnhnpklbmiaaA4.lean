/- The mathematics of curves: sums of beginnings of sorted rows, joins, the division of Split and its price. -/
import Derived.Test.YtdepnhnpklbmiaaA3
import Derived.Lib.SmallJoins
import Derived.Deep.AppendLies
import Derived.OneCell
namespace Go.Proofs.Ytdepnhnpklbmiaa
open Go.RowKit Go.Sort

/-! ### sorted rows, sums of beginnings -/
theorem asc_le {xs : List Int} (h : ascTo xs xs.length) : ∀ (d i : Nat), i + d < xs.length → iA xs i ≤ iA xs (i + d)
  | 0, i, _ => Int.le_refl _
  | d + 1, i, hi => Int.le_trans (asc_le h d i (by omega)) (h (i + d) (by omega))
theorem asc_mono {xs : List Int} (h : ascTo xs xs.length) {i j : Nat} (hij : i ≤ j) (hj : j < xs.length) : iA xs i ≤ iA xs j := by
  have := asc_le h (j - i) i (by omega)
  rwa [Nat.add_sub_cancel' hij] at this
theorem asc_pairwise {xs : List Int} (h : ascTo xs xs.length) : xs.Pairwise (fun x y => x ≤ y) := by
  rw [List.pairwise_iff_getElem]
  intro i j hi hj hij
  have := asc_mono h (Nat.le_of_lt hij) hj
  rwa [iA_get hi, iA_get hj] at this
theorem pairwise_asc {xs : List Int} (h : xs.Pairwise (fun x y => x ≤ y)) : ascTo xs xs.length := by
  intro i hi
  rw [List.pairwise_iff_getElem] at h
  have := h i (i + 1) (by omega) hi (by omega)
  rwa [iA_get (by omega), iA_get hi]
theorem sortI_perm (zs : List Int) : (sortI zs).Perm zs := List.mergeSort_perm _ _
theorem sortI_sorted (zs : List Int) : (sortI zs).Pairwise (fun x y => x ≤ y) := by
  have := List.pairwise_mergeSort (le := fun x y : Int => decide (x ≤ y)) (fun a b c h1 h2 => by simp at *; omega) (fun a b => by simp; omega) zs
  exact this.imp (fun h => by simpa using h)
theorem sortI_asc (zs : List Int) : ascTo (sortI zs) (sortI zs).length := pairwise_asc (sortI_sorted zs)
theorem sortI_unique {zs ys : List Int} (hp : ys.Perm zs) (hs : ys.Pairwise (fun x y => x ≤ y)) : sortI zs = ys :=
  List.Perm.eq_of_pairwise (le := fun x y => x ≤ y) (fun a b _ _ h1 h2 => by omega) (sortI_sorted zs) hs ((sortI_perm zs).trans hp.symm)
theorem sortI_congr {zs ys : List Int} (hp : ys.Perm zs) : sortI zs = sortI ys := sortI_unique ((sortI_perm ys).trans hp) (sortI_sorted ys)
theorem sortI_comm (xs ys : List Int) : sortI (xs ++ ys) = sortI (ys ++ xs) := sortI_congr List.perm_append_comm
theorem sortI_left (xs ys : List Int) : sortI (sortI xs ++ ys) = sortI (xs ++ ys) := sortI_congr ((sortI_perm xs).symm.append_right ys)
theorem sortI_right (xs ys : List Int) : sortI (xs ++ sortI ys) = sortI (xs ++ ys) := sortI_congr ((sortI_perm ys).symm.append_left xs)

/-- the sum of the first k -/
def pS (xs : List Int) : Nat → Int
  | 0 => 0
  | k + 1 => pS xs k + iA xs k
theorem valK_pS (c : Cu) : ∀ k, valK c k = c.fst + pS c.sl k
  | 0 => by simp [valK, pS]
  | k + 1 => by unfold valK pS; rw [valK_pS c k]; omega
theorem pS_cons (x : Int) (xs : List Int) : ∀ k, pS (x :: xs) (k + 1) = x + pS xs k
  | 0 => by simp [pS, iA]
  | k + 1 => by
    rw [show pS (x :: xs) (k + 1 + 1) = pS (x :: xs) (k + 1) + iA (x :: xs) (k + 1) from rfl, pS_cons x xs k, show pS xs (k + 1) = pS xs k + iA xs k from rfl, show iA (x :: xs) (k + 1) = iA xs k by simp [iA]]
    omega

/-- what the rows' numbers below p are below p -/
def cut (p : Int) : List Int → Int
  | [] => 0
  | x :: xs => (if x < p then x - p else 0) + cut p xs
theorem cut_append (p : Int) : ∀ xs ys, cut p (xs ++ ys) = cut p xs + cut p ys
  | [], ys => by simp [cut]
  | x :: xs, ys => by
    show (if x < p then x - p else 0) + cut p (xs ++ ys) = (if x < p then x - p else 0) + cut p xs + cut p ys
    rw [cut_append p xs ys]
    omega
theorem cut_perm (p : Int) {xs ys : List Int} (h : xs.Perm ys) : cut p xs = cut p ys := by
  induction h with
  | nil => rfl
  | cons x _ ih => show _ + cut p _ = _ + cut p _; rw [ih]
  | swap x y l =>
    show (if y < p then y - p else 0) + ((if x < p then x - p else 0) + cut p l) = (if x < p then x - p else 0) + ((if y < p then y - p else 0) + cut p l)
    omega
  | trans _ _ h1 h2 => exact h1.trans h2
/-- for every k, the first k cost no less than the cut -/
theorem cut_le (p : Int) : ∀ (xs : List Int) (k : Nat), k ≤ xs.length → cut p xs ≤ pS xs k - p * k
  | [], k, hk => by
    obtain rfl : k = 0 := by simpa using hk
    simp [cut, pS]
  | x :: xs, 0, _ => by
    have h := cut_le p xs 0 (Nat.zero_le _)
    simp [pS] at h ⊢
    show (if x < p then x - p else 0) + cut p xs ≤ 0
    split <;> omega
  | x :: xs, k + 1, hk => by
    have h := cut_le p xs k (by simpa using hk)
    rw [pS_cons]
    have e : p * ((k + 1 : Nat) : Int) = p * k + p := by rw [Int.natCast_add, Int.mul_add]; simp
    rw [e]
    show (if x < p then x - p else 0) + cut p xs ≤ _
    split <;> omega
theorem cut_eq (p : Int) : ∀ (xs : List Int) (k : Nat), k ≤ xs.length → (∀ j, j < k → iA xs j ≤ p) → (∀ j, k ≤ j → j < xs.length → p ≤ iA xs j) → pS xs k - p * k = cut p xs
  | [], k, hk, _, _ => by
    obtain rfl : k = 0 := by simpa using hk
    simp [cut, pS]
  | x :: xs, 0, _, _, h2 => by
    have h := cut_eq p xs 0 (Nat.zero_le _) (fun j hj => absurd hj (Nat.not_lt_zero _)) (fun j _ hj => by
      have := h2 (j + 1) (Nat.zero_le _) (by simpa using hj)
      simpa [iA] using this)
    have hx : p ≤ x := by simpa [iA] using h2 0 (Nat.le_refl _) (by simp)
    simp [pS] at h ⊢
    show 0 = (if x < p then x - p else 0) + cut p xs
    rw [if_neg (by omega)]
    omega
  | x :: xs, k + 1, hk, h1, h2 => by
    have h := cut_eq p xs k (by simpa using hk) (fun j hj => by
      have := h1 (j + 1) (by omega)
      simpa [iA] using this) (fun j hj hj2 => by
      have := h2 (j + 1) (by omega) (by simpa using hj2)
      simpa [iA] using this)
    have hx : x ≤ p := by simpa [iA] using h1 0 (by omega)
    rw [pS_cons]
    have e : p * ((k + 1 : Nat) : Int) = p * k + p := by rw [Int.natCast_add, Int.mul_add]; simp
    rw [e]
    show _ = (if x < p then x - p else 0) + cut p xs
    split <;> omega
/-- strictly: with the least k -/
theorem cut_lt (p : Int) : ∀ (xs : List Int) (k : Nat), k ≤ xs.length → (∃ j, (j < k ∧ p < iA xs j) ∨ (k ≤ j ∧ j < xs.length ∧ iA xs j < p)) → cut p xs < pS xs k - p * k
  | [], k, hk, h => by
    obtain rfl : k = 0 := by simpa using hk
    obtain ⟨j, h | h⟩ := h
    · omega
    · simp at h
  | x :: xs, 0, _, h => by
    have h0 := cut_le p xs 0 (Nat.zero_le _)
    obtain ⟨j, h | ⟨_, hj, hx⟩⟩ := h
    · omega
    cases j with
    | zero =>
      simp [pS, iA] at h0 hx ⊢
      show (if x < p then x - p else 0) + cut p xs < 0
      rw [if_pos hx]
      omega
    | succ j =>
      have h1 := cut_lt p xs 0 (Nat.zero_le _) ⟨j, .inr ⟨Nat.zero_le _, by simpa using hj, by simpa [iA] using hx⟩⟩
      simp [pS] at h1 ⊢
      show (if x < p then x - p else 0) + cut p xs < 0
      split <;> omega
  | x :: xs, k + 1, hk, h => by
    have h0 := cut_le p xs k (by simpa using hk)
    rw [pS_cons]
    have e : p * ((k + 1 : Nat) : Int) = p * k + p := by rw [Int.natCast_add, Int.mul_add]; simp
    rw [e]
    show (if x < p then x - p else 0) + cut p xs < _
    obtain ⟨j, h⟩ := h
    cases j with
    | zero =>
      rcases h with ⟨_, h⟩ | h
      · have h : p < x := by simpa [iA] using h
        rw [if_neg (by omega)]
        omega
      · omega
    | succ j =>
      have h1 := cut_lt p xs k (by simpa using hk) ⟨j, by
        rcases h with ⟨ha, h⟩ | ⟨ha, hb, h⟩
        · exact .inl ⟨by omega, by simpa [iA] using h⟩
        · exact .inr ⟨by omega, by simpa using hb, by simpa [iA] using h⟩⟩
      split <;> omega

/-- how many are below p -/
def cnt (p : Int) : List Int → Nat
  | [] => 0
  | x :: xs => (if x < p then 1 else 0) + cnt p xs
theorem cnt_append (p : Int) : ∀ xs ys, cnt p (xs ++ ys) = cnt p xs + cnt p ys
  | [], ys => by simp [cnt]
  | x :: xs, ys => by
    show (if x < p then 1 else 0) + cnt p (xs ++ ys) = (if x < p then 1 else 0) + cnt p xs + cnt p ys
    rw [cnt_append p xs ys]
    omega
theorem cnt_perm (p : Int) {xs ys : List Int} (h : xs.Perm ys) : cnt p xs = cnt p ys := by
  induction h with
  | nil => rfl
  | cons x _ ih => show _ + cnt p _ = _ + cnt p _; rw [ih]
  | swap x y l =>
    show (if y < p then 1 else 0) + ((if x < p then 1 else 0) + cnt p l) = (if x < p then 1 else 0) + ((if y < p then 1 else 0) + cnt p l)
    omega
  | trans _ _ h1 h2 => exact h1.trans h2
/-- a row of which the first k are below p, and no other: the count is k -/
theorem cnt_eq (p : Int) : ∀ (xs : List Int) (k : Nat), k ≤ xs.length → (∀ j, j < k → iA xs j < p) → (∀ j, k ≤ j → j < xs.length → p ≤ iA xs j) → cnt p xs = k
  | [], k, hk, _, _ => by
    obtain rfl : k = 0 := by simpa using hk
    rfl
  | x :: xs, 0, _, _, h2 => by
    have h := cnt_eq p xs 0 (Nat.zero_le _) (fun j hj => absurd hj (Nat.not_lt_zero _)) (fun j _ hj => by
      have := h2 (j + 1) (Nat.zero_le _) (by simpa using hj)
      simpa [iA] using this)
    have hx : p ≤ x := by simpa [iA] using h2 0 (Nat.le_refl _) (by simp)
    show (if x < p then 1 else 0) + cnt p xs = 0
    rw [if_neg (by omega), h]
  | x :: xs, k + 1, hk, h1, h2 => by
    have h := cnt_eq p xs k (by simpa using hk) (fun j hj => by
      have := h1 (j + 1) (by omega)
      simpa [iA] using this) (fun j hj hj2 => by
      have := h2 (j + 1) (by omega) (by simpa using hj2)
      simpa [iA] using this)
    have hx : x < p := by simpa [iA] using h1 0 (by omega)
    show (if x < p then 1 else 0) + cnt p xs = k + 1
    rw [if_pos hx, h]
    omega
/-- at least k of the row are below p -/
theorem cnt_ge (p : Int) : ∀ (xs : List Int) (k : Nat), k ≤ xs.length → (∀ j, j < k → iA xs j < p) → k ≤ cnt p xs
  | _, 0, _, _ => Nat.zero_le _
  | [], k + 1, hk, _ => by simp at hk
  | x :: xs, k + 1, hk, h1 => by
    have h := cnt_ge p xs k (by simpa using hk) (fun j hj => by
      have := h1 (j + 1) (by omega)
      simpa [iA] using this)
    have hx : x < p := by simpa [iA] using h1 0 (by omega)
    show k + 1 ≤ (if x < p then 1 else 0) + cnt p xs
    rw [if_pos hx]
    omega
theorem cnt_le (p : Int) : ∀ (xs : List Int) (k : Nat), (∀ j, k ≤ j → j < xs.length → p ≤ iA xs j) → cnt p xs ≤ k
  | [], k, _ => Nat.zero_le _
  | x :: xs, 0, h2 => by
    have h := cnt_le p xs 0 (fun j _ hj => by
      have := h2 (j + 1) (Nat.zero_le _) (by simpa using hj)
      simpa [iA] using this)
    have hx : p ≤ x := by simpa [iA] using h2 0 (Nat.le_refl _) (by simp)
    show (if x < p then 1 else 0) + cnt p xs ≤ 0
    rw [if_neg (by omega)]
    omega
  | x :: xs, k + 1, h2 => by
    have h := cnt_le p xs k (fun j hj hj2 => by
      have := h2 (j + 1) (by omega) (by simpa using hj2)
      simpa [iA] using this)
    show (if x < p then 1 else 0) + cnt p xs ≤ k + 1
    split <;> omega

theorem climK_lt {c : Cu} {p : Int} {j : Nat} (h : j < climK c p) : iA c.sl j < p := by
  have hl : j < c.sl.length := Nat.lt_of_lt_of_le h (climK_le c p)
  have h6 := List.not_of_lt_findIdx h
  rw [iA_get hl]
  have h7 := of_decide_eq_false (by simpa using h6 : decide (p ≤ c.sl[j]) = false)
  omega
theorem climK_ge {c : Cu} {p : Int} (ha : ascTo c.sl c.sl.length) {j : Nat} (h : climK c p ≤ j) (hj : j < c.sl.length) : p ≤ iA c.sl j := by
  have hlt : climK c p < c.sl.length := by omega
  have h6 := List.findIdx_getElem (w := hlt)
  have h8 : p ≤ c.sl[climK c p] := of_decide_eq_true h6
  have := asc_mono ha h hj
  rw [iA_get hlt] at this
  omega
theorem climK_cnt {c : Cu} {p : Int} (ha : ascTo c.sl c.sl.length) : climK c p = cnt p c.sl :=
  (cnt_eq p c.sl _ (climK_le c p) (fun _ h => climK_lt h) (fun _ h hj => climK_ge ha h hj)).symm
theorem climK_cut {c : Cu} {p : Int} (ha : ascTo c.sl c.sl.length) : pS c.sl (climK c p) - p * (climK c p : Int) = cut p c.sl :=
  cut_eq p c.sl _ (climK_le c p) (fun _ h => Int.le_of_lt (climK_lt h)) (fun _ h hj => climK_ge ha h hj)
/-! ### joins -/
theorem cnt_below {xs : List Int} {p : Int} (ha : ascTo xs xs.length) {j : Nat} (h : j < cnt p xs) : iA xs j < p := by
  have := climK_cnt (c := ⟨0, 0, xs⟩) (p := p) ha
  exact climK_lt (c := ⟨0, 0, xs⟩) (by rw [this]; exact h)
theorem cnt_above {xs : List Int} {p : Int} (ha : ascTo xs xs.length) {j : Nat} (h : cnt p xs ≤ j) (hj : j < xs.length) : p ≤ iA xs j := by
  have := climK_cnt (c := ⟨0, 0, xs⟩) (p := p) ha
  exact climK_ge (c := ⟨0, 0, xs⟩) ha (by rw [this]; exact h) hj
theorem cnt_len (p : Int) (xs : List Int) : cnt p xs ≤ xs.length := cnt_le p xs _ fun _ h1 h2 => by omega
theorem cnt_between {xs : List Int} {p : Int} (ha : ascTo xs xs.length) {k : Nat} (h0 : cnt p xs ≤ k) (h1 : k ≤ cnt (p + 1) xs) : pS xs k - p * (k : Int) = cut p xs := by
  have hl := cnt_len (p + 1) xs
  refine cut_eq p xs k (by omega) (fun j hj => ?_) fun j hj hl => cnt_above ha (by omega) hl
  have := cnt_below ha (p := p + 1) (j := j) (by omega)
  omega
/-- the price at the m-th step of a sorted row -/
theorem price_at {s : List Int} (hs : ascTo s s.length) {m : Nat} (h0 : 0 < m) (hm : m ≤ s.length) : pS s m - iA s (m - 1) * (m : Int) = cut (iA s (m - 1)) s :=
  cut_eq _ s m hm (fun j hj => asc_mono hs (by omega) (by omega)) (fun j hj hl => asc_mono hs (by omega) hl)
theorem joins_le {xs ys : List Int} {i j : Nat} (hi : i ≤ xs.length) (hj : j ≤ ys.length) : pS (sortI (xs ++ ys)) (i + j) ≤ pS xs i + pS ys j := by
  rcases Nat.eq_zero_or_pos (i + j) with h | h
  · obtain rfl : i = 0 := by omega
    obtain rfl : j = 0 := by omega
    simp [pS]
  · have hl : (sortI (xs ++ ys)).length = xs.length + ys.length := by rw [sortI_length, List.length_append]
    have h1 := price_at (sortI_asc (xs ++ ys)) h (by omega)
    generalize iA (sortI (xs ++ ys)) (i + j - 1) = p at h1
    rw [cut_perm p (sortI_perm (xs ++ ys)), cut_append] at h1
    have h2 := cut_le p xs i hi
    have h3 := cut_le p ys j hj
    have e : p * ((i + j : Nat) : Int) = p * i + p * j := by rw [Int.natCast_add, Int.mul_add]
    rw [e] at h1
    omega
theorem joins_eq {xs ys : List Int} (hx : ascTo xs xs.length) (hy : ascTo ys ys.length) {m : Nat} (hm : m ≤ xs.length + ys.length) : ∃ i j, i ≤ xs.length ∧ j ≤ ys.length ∧ i + j = m ∧ pS (sortI (xs ++ ys)) m = pS xs i + pS ys j := by
  rcases Nat.eq_zero_or_pos m with h | h
  · subst h
    exact ⟨0, 0, Nat.zero_le _, Nat.zero_le _, rfl, by simp [pS]⟩
  · have hs := sortI_asc (xs ++ ys)
    have hl : (sortI (xs ++ ys)).length = xs.length + ys.length := by rw [sortI_length, List.length_append]
    have h1 := price_at hs h (by omega)
    have hlo : cnt (iA (sortI (xs ++ ys)) (m - 1)) (sortI (xs ++ ys)) ≤ m - 1 := cnt_le _ _ _ fun j h1 h2 => asc_mono hs h1 h2
    have hhi : m ≤ cnt (iA (sortI (xs ++ ys)) (m - 1) + 1) (sortI (xs ++ ys)) := cnt_ge _ _ _ (by omega) fun j hj => by
      have := asc_mono hs (i := j) (j := m - 1) (by omega) (by omega)
      omega
    generalize iA (sortI (xs ++ ys)) (m - 1) = p at h1 hlo hhi
    rw [cut_perm p (sortI_perm (xs ++ ys)), cut_append] at h1
    rw [cnt_perm _ (sortI_perm (xs ++ ys)), cnt_append] at hlo hhi
    have l1 := cnt_len (p + 1) xs
    have l2 := cnt_len (p + 1) ys
    have mono : ∀ zs : List Int, ascTo zs zs.length → cnt p zs ≤ cnt (p + 1) zs := fun zs hz => cnt_ge (p + 1) zs _ (cnt_len p zs) fun j hj => by
      have := cnt_below hz hj
      omega
    have m1 := mono xs hx
    have m2 := mono ys hy
    obtain ⟨i, j, a1, a2, a3, a4, a5⟩ : ∃ i j : Nat, cnt p xs ≤ i ∧ i ≤ cnt (p + 1) xs ∧ cnt p ys ≤ j ∧ j ≤ cnt (p + 1) ys ∧ i + j = m := by
      by_cases hq : m ≤ cnt (p + 1) xs + cnt p ys
      · exact ⟨m - cnt p ys, cnt p ys, by omega, by omega, Nat.le_refl _, m2, by omega⟩
      · exact ⟨cnt (p + 1) xs, m - cnt (p + 1) xs, m1, Nat.le_refl _, by omega, by omega, by omega⟩
    have e1 := cnt_between hx a1 a2
    have e2 := cnt_between hy a3 a4
    refine ⟨i, j, by omega, by omega, a5, ?_⟩
    subst a5
    have e : p * ((i + j : Nat) : Int) = p * i + p * j := by rw [Int.natCast_add, Int.mul_add]
    rw [e] at h1
    omega

/-! ### the division of Split -/
theorem sumTo_congr {f g : Nat → Int} : ∀ n, (∀ j, j < n → f j = g j) → sumTo f n = sumTo g n
  | 0, _ => rfl
  | n + 1, h => by unfold sumTo; rw [sumTo_congr n fun j hj => h j (by omega), h n (by omega)]
theorem sumTo_add (f g : Nat → Int) : ∀ n, sumTo (fun j => f j + g j) n = sumTo f n + sumTo g n
  | 0 => rfl
  | n + 1 => by unfold sumTo; rw [sumTo_add f g n]; omega
theorem sumTo_mul (p : Int) (f : Nat → Int) : ∀ n, sumTo (fun j => p * f j) n = p * sumTo f n
  | 0 => by simp [sumTo]
  | n + 1 => by unfold sumTo; rw [sumTo_mul p f n, Int.mul_add]
theorem sumTo_le {f g : Nat → Int} : ∀ n, (∀ j, j < n → f j ≤ g j) → sumTo f n ≤ sumTo g n
  | 0, _ => Int.le_refl _
  | n + 1, h => by
    have h1 := sumTo_le n fun j hj => h j (by omega)
    have h2 := h n (by omega)
    unfold sumTo
    omega
theorem sumTo_back (f : Nat → Int) (n : Nat) : ∀ m, m ≤ n → sumTo (fun t => f (n - 1 - t)) m = sumTo f n - sumTo f (n - m)
  | 0, _ => by simp [sumTo]
  | m + 1, h => by
    have ih := sumTo_back f n m (by omega)
    show sumTo (fun t => f (n - 1 - t)) m + f (n - 1 - m) = _
    rw [ih]
    have e : n - m = n - (m + 1) + 1 := by omega
    rw [e, show sumTo f (n - (m + 1) + 1) = sumTo f (n - (m + 1)) + f (n - (m + 1)) from rfl, show n - 1 - m = n - (m + 1) by omega]
    omega
theorem sumTo_cut (p : Int) (cs : Nat → Cu) : ∀ n, sumTo (fun j => cut p (cs j).sl) n = cut p (catL cs n)
  | 0 => rfl
  | n + 1 => by unfold sumTo catL; rw [cut_append, sumTo_cut p cs n]
theorem sumTo_cnt (p : Int) (cs : Nat → Cu) : ∀ n, sumTo (fun j => (cnt p (cs j).sl : Int)) n = cnt p (catL cs n)
  | 0 => rfl
  | n + 1 => by unfold sumTo catL; rw [cnt_append, sumTo_cnt p cs n]; omega

structure Given (c : Cu) (p : Int) (k : Nat) (l : Int) (r : Nat × Int) : Prop where
  ge : k ≤ r.1
  le : r.1 ≤ c.sl.length
  left : r.2 = l - (r.1 - k : Int)
  pos : 0 ≤ r.2
  eq : ∀ j, k ≤ j → j < r.1 → iA c.sl j = p
  stop : r.2 = 0 ∨ r.1 = c.sl.length ∨ iA c.sl r.1 ≠ p
theorem giveF_given {c : Cu} {p : Int} : ∀ (f k : Nat) (l : Int), k + f = c.sl.length → 0 ≤ l → Given c p k l (giveF c p f k l)
  | 0, k, l, hk, hl => ⟨Nat.le_refl _, by show k ≤ _; omega, by show l = l - _; show l = l - ((k : Int) - k); omega, hl, fun j h1 h2 => by simp only [giveF] at h2; omega, .inr (.inl (by show k = _; omega))⟩
  | f + 1, k, l, hk, hl => by
    unfold giveF
    split
    · rename_i h
      have ih := giveF_given (c := c) (p := p) f (k + 1) (l - 1) (by omega) (by omega)
      refine ⟨by have := ih.ge; omega, ih.le, by have := ih.left; omega, ih.pos, fun j h1 h2 => ?_, ih.stop⟩
      rcases Nat.lt_or_ge k j with h3 | h3
      · exact ih.eq j h3 h2
      · obtain rfl : j = k := by omega
        exact h.2.2
    · rename_i h
      refine ⟨Nat.le_refl _, by show k ≤ _; omega, by show l = l - ((k : Int) - k); omega, hl, fun j h1 h2 => absurd h2 (by show ¬ j < k; omega), ?_⟩
      rcases Int.lt_or_le 0 l with h1 | h1
      · exact .inr (.inr fun h2 => h ⟨h1, by omega, h2⟩)
      · exact .inl (by show l = 0; omega)
theorem give_given (c : Cu) (p : Int) (l : Int) (hl : 0 ≤ l) : Given c p (climK c p) l (give c p (climK c p) l) :=
  giveF_given _ _ _ (by have := climK_le c p; omega) hl
theorem leftD_pos (cs : Nat → Cu) (p : Int) (n : Nat) (l0 : Int) (h0 : 0 ≤ l0) : ∀ m, 0 ≤ leftD cs p n l0 m
  | 0 => h0
  | m + 1 => (give_given (cs (n - 1 - m)) p _ (leftD_pos cs p n l0 h0 m)).pos
theorem leftD_sum (cs : Nat → Cu) (p : Int) (n : Nat) (l0 : Int) (h0 : 0 ≤ l0) : ∀ m, m ≤ n → leftD cs p n l0 m = l0 - sumTo (fun t => (kD cs p n l0 (n - 1 - t) : Int) - climK (cs (n - 1 - t)) p) m
  | 0, _ => by simp [leftD, sumTo]
  | m + 1, h => by
    have ih := leftD_sum cs p n l0 h0 m (by omega)
    have hg := (give_given (cs (n - 1 - m)) p _ (leftD_pos cs p n l0 h0 m)).left
    have e : n - 1 - (n - 1 - m) = m := by omega
    show (give (cs (n - 1 - m)) p (climK (cs (n - 1 - m)) p) (leftD cs p n l0 m)).2 = l0 - (sumTo (fun t => (kD cs p n l0 (n - 1 - t) : Int) - climK (cs (n - 1 - t)) p) m + ((kD cs p n l0 (n - 1 - m) : Int) - climK (cs (n - 1 - m)) p))
    rw [hg]
    have e2 : kD cs p n l0 (n - 1 - m) = (give (cs (n - 1 - m)) p (climK (cs (n - 1 - m)) p) (leftD cs p n l0 m)).1 := by unfold kD; rw [e]
    rw [e2, ih]
    omega
theorem leftD_end (cs : Nat → Cu) (p : Int) (n : Nat) (l0 : Int) (h0 : 0 ≤ l0) : leftD cs p n l0 n = l0 - (sumTo (fun j => (kD cs p n l0 j : Int)) n - sumTo (fun j => (climK (cs j) p : Int)) n) := by
  rw [leftD_sum cs p n l0 h0 n (Nat.le_refl _), sumTo_back (fun j => (kD cs p n l0 j : Int) - climK (cs j) p) n n (Nat.le_refl _), Nat.sub_self]
  have : sumTo (fun j => (kD cs p n l0 j : Int) - climK (cs j) p) n = sumTo (fun j => (kD cs p n l0 j : Int)) n - sumTo (fun j => (climK (cs j) p : Int)) n := by
    have h := sumTo_add (fun j => (kD cs p n l0 j : Int) - climK (cs j) p) (fun j => (climK (cs j) p : Int)) n
    have h2 : sumTo (fun j => ((kD cs p n l0 j : Int) - climK (cs j) p) + (climK (cs j) p : Int)) n = sumTo (fun j => (kD cs p n l0 j : Int)) n := sumTo_congr n fun j _ => by omega
    omega
  rw [this]
  simp [sumTo]
theorem leftD_mono (cs : Nat → Cu) (p : Int) (n : Nat) (l0 : Int) (h0 : 0 ≤ l0) (m : Nat) : ∀ d, leftD cs p n l0 (m + d) ≤ leftD cs p n l0 m
  | 0 => Int.le_refl _
  | d + 1 => by
    have hg := give_given (cs (n - 1 - (m + d))) p _ (leftD_pos cs p n l0 h0 (m + d))
    have h1 := hg.left
    have h2 := hg.ge
    have ih := leftD_mono cs p n l0 h0 m d
    show (give (cs (n - 1 - (m + d))) p (climK (cs (n - 1 - (m + d))) p) (leftD cs p n l0 (m + d))).2 ≤ _
    omega
theorem kD_given (cs : Nat → Cu) (p : Int) (n : Nat) (l0 : Int) (h0 : 0 ≤ l0) (j : Nat) : Given (cs j) p (climK (cs j) p) (leftD cs p n l0 (n - 1 - j)) (kD cs p n l0 j, (give (cs j) p (climK (cs j) p) (leftD cs p n l0 (n - 1 - j))).2) :=
  give_given (cs j) p _ (leftD_pos cs p n l0 h0 _)

/-- all that is said of a division with its price -/
structure Divided (cs : Nat → Cu) (n m : Nat) (p : Int) (K : Nat → Nat) : Prop where
  le : ∀ j, j < n → K j ≤ (cs j).sl.length
  sum : sumTo (fun j => (K j : Int)) n = m
  opt : ∀ j, j < n → pS (cs j).sl (K j) - p * (K j : Int) = cut p (cs j).sl
  low : ∀ j, j < n → ∀ i, i < K j → iA (cs j).sl i ≤ p
  high : ∀ j, j < n → ∀ i, K j ≤ i → i < (cs j).sl.length → p ≤ iA (cs j).sl i

theorem divided (cs : Nat → Cu) (n : Nat) (total : Int) (hok : ∀ j, j < n → okC (cs j) = true) (h0 : splitLo cs n ≤ total) (h1 : total ≤ sumTo (fun i => (cs i).fr + ((cs i).sl.length : Int)) n) :
    Divided cs n (total - splitLo cs n).toNat (priceV cs n total) (kV cs n total) := by
  have hasc : ∀ j, j < n → ascTo (cs j).sl (cs j).sl.length := fun j hj => (okC_true (hok j hj)).2.2.2.1
  obtain ⟨m, hm⟩ : ∃ m, (total - splitLo cs n).toNat = m := ⟨_, rfl⟩
  have hmt : total = splitLo cs n + m := by omega
  have hcat := catL_length cs n
  have hlen : m ≤ (catL cs n).length := by unfold splitLo at h0 hmt; omega
  have hs := sortI_asc (catL cs n)
  have hsl := sortI_length (catL cs n)
  -- the price lies where it should
  have hp : (m = 0 ∧ priceV cs n total = -1048576) ∨ (0 < m ∧ priceV cs n total = iA (sortI (catL cs n)) (m - 1)) := by
    unfold priceV
    rcases Nat.eq_zero_or_pos m with h | h
    · exact .inl ⟨h, if_neg (by omega)⟩
    · refine .inr ⟨h, ?_⟩
      rw [if_pos (by omega)]
      congr 1
      omega
  obtain ⟨p, hpe⟩ : ∃ p, priceV cs n total = p := ⟨_, rfl⟩
  rw [hpe] at hp
  have hclim : sumTo (fun j => (climK (cs j) p : Int)) n = cnt p (catL cs n) := by
    rw [← sumTo_cnt]
    exact sumTo_congr n fun j hj => by rw [climK_cnt (hasc j hj)]
  have hinB : ∀ j, j < n → ∀ i, i < (cs j).sl.length → -1048576 ≤ iA (cs j).sl i := fun j hj i hi => (inB_true ((okC_true (hok j hj)).2.2.2.2 i hi)).1
  have hcz : m = 0 → cnt p (catL cs n) = 0 := fun hz => by
    have hpv : p = -1048576 := by omega
    have : sumTo (fun j => (cnt p (cs j).sl : Int)) n = sumTo (fun _ => 0) n := sumTo_congr n fun j hj => by
      have := cnt_le p (cs j).sl 0 fun i _ hi => by have := hinB j hj i hi; omega
      omega
    have hz2 : ∀ k, sumTo (fun _ => 0) k = 0 := fun k => by induction k with | zero => rfl | succ k ih => unfold sumTo; rw [ih]; rfl
    rw [sumTo_cnt, hz2] at this
    omega
  have hcle : (cnt p (catL cs n) : Int) ≤ m := by
    rcases hp with ⟨h, _⟩ | ⟨h, hv⟩
    · have := hcz h
      omega
    · have h2 : cnt p (sortI (catL cs n)) ≤ m - 1 := cnt_le _ _ _ fun j h1 h2 => by rw [hv]; exact asc_mono hs h1 h2
      rw [cnt_perm p (sortI_perm _)] at h2
      omega
  have hleft : leftV cs n total = m - cnt p (catL cs n) := by
    unfold leftV
    rw [hpe, sumTo_add, hclim]
    unfold splitLo at hmt
    omega
  have hl0 : 0 ≤ leftV cs n total := by omega
  have hkv : ∀ j, kV cs n total j = kD cs p n (leftV cs n total) j := fun j => by unfold kV; rw [hpe]
  have hg := kD_given cs p n (leftV cs n total) hl0
  have hend := leftD_end cs p n (leftV cs n total) hl0
  have hpos := leftD_pos cs p n (leftV cs n total) hl0 n
  have hzero : leftD cs p n (leftV cs n total) n = 0 := by
    rcases hp with ⟨h, hv⟩ | ⟨h, hv⟩
    · have := hcz h
      have hm := leftD_mono cs p n (leftV cs n total) hl0 0 n
      rw [Nat.zero_add] at hm
      have : leftD cs p n (leftV cs n total) 0 = leftV cs n total := rfl
      omega
    · rcases Int.lt_or_le 0 (leftD cs p n (leftV cs n total) n) with hL | hL
      · exfalso
        have hk : ∀ j, j < n → (cnt (p + 1) (cs j).sl : Int) ≤ kD cs p n (leftV cs n total) j := fun j hj => by
          have g := hg j
          have hr : 0 < (give (cs j) p (climK (cs j) p) (leftD cs p n (leftV cs n total) (n - 1 - j))).2 := by
            have h2 := leftD_mono cs p n (leftV cs n total) hl0 (n - 1 - j + 1) j
            rw [show n - 1 - j + 1 + j = n by omega] at h2
            have h3 : leftD cs p n (leftV cs n total) (n - 1 - j + 1) = (give (cs (n - 1 - (n - 1 - j))) p (climK (cs (n - 1 - (n - 1 - j))) p) (leftD cs p n (leftV cs n total) (n - 1 - j))).2 := rfl
            rw [show n - 1 - (n - 1 - j) = j by omega] at h3
            omega
          have := cnt_le (p + 1) (cs j).sl (kD cs p n (leftV cs n total) j) fun i hi hil => by
            rcases g.stop with h | h | h
            · exfalso
              have h : (give (cs j) p (climK (cs j) p) (leftD cs p n (leftV cs n total) (n - 1 - j))).2 = 0 := h
              omega
            · have h : kD cs p n (leftV cs n total) j = _ := h
              omega
            · have h : iA (cs j).sl (kD cs p n (leftV cs n total) j) ≠ p := h
              have h4 := climK_ge (hasc j hj) (p := p) (j := kD cs p n (leftV cs n total) j) g.ge (by omega)
              have h5 := asc_mono (hasc j hj) hi hil
              omega
          omega
        have h2 := sumTo_le n hk
        rw [sumTo_cnt] at h2
        have h3 : m ≤ cnt (p + 1) (sortI (catL cs n)) := cnt_ge _ _ _ (by omega) fun j hj => by
          have := asc_mono hs (i := j) (j := m - 1) (by omega) (by omega)
          omega
        rw [cnt_perm _ (sortI_perm _)] at h3
        omega
      · omega
  rw [hm]
  have hlow : ∀ j, j < n → ∀ i, i < kV cs n total j → iA (cs j).sl i ≤ p := fun j hj i hi => by
    rw [hkv] at hi
    rcases Nat.lt_or_ge i (climK (cs j) p) with h | h
    · exact Int.le_of_lt (climK_lt h)
    · exact Int.le_of_eq ((hg j).eq i h hi)
  have hhigh : ∀ j, j < n → ∀ i, kV cs n total j ≤ i → i < (cs j).sl.length → p ≤ iA (cs j).sl i := fun j hj i hi hil => by
    rw [hkv] at hi
    have := (hg j).ge
    exact climK_ge (hasc j hj) (Nat.le_trans this hi) hil
  have hle : ∀ j, j < n → kV cs n total j ≤ (cs j).sl.length := fun j _ => by rw [hkv]; exact (hg j).le
  refine ⟨hle, ?_, fun j hj => by rw [hpe]; exact cut_eq p (cs j).sl _ (hle j hj) (hlow j hj) (hhigh j hj), by rw [hpe]; exact hlow, by rw [hpe]; exact hhigh⟩
  have : sumTo (fun j => (kV cs n total j : Int)) n = sumTo (fun j => (kD cs p n (leftV cs n total) j : Int)) n := sumTo_congr n fun j _ => by rw [hkv]
  omega

/-- the cost of a division is what the join of all has there -/
theorem divided_cost {cs : Nat → Cu} {n m : Nat} {p : Int} {K : Nat → Nat} (h : Divided cs n m p K) (hm : m ≤ (catL cs n).length) :
    sumTo (fun j => valK (cs j) (K j)) n = sumTo (fun j => (cs j).fst) n + pS (sortI (catL cs n)) m := by
  have h1 : sumTo (fun j => valK (cs j) (K j)) n = sumTo (fun j => (cs j).fst + (p * (K j : Int) + cut p (cs j).sl)) n := sumTo_congr n fun j hj => by
    have := h.opt j hj
    rw [valK_pS]
    omega
  rw [h1, sumTo_add, sumTo_add, sumTo_mul, h.sum, sumTo_cut]
  congr 1
  -- a price of the sum
  have key : ∀ k : Nat, k ≤ (catL cs n).length → cut p (catL cs n) ≤ pS (sortI (catL cs n)) k - p * k := fun k hk => by
    rw [← cut_perm p (sortI_perm (catL cs n))]
    exact cut_le p _ k (by rw [sortI_length]; exact hk)
  have h2 := key m hm
  -- no less: the sorted beginning is the least
  have key2 : ∀ k : Nat, ∀ (K : Nat → Nat), (∀ j, j < k → K j ≤ (cs j).sl.length) → ∀ t : Nat, sumTo (fun j => (K j : Int)) k = t → pS (sortI (catL cs k)) t ≤ sumTo (fun j => pS (cs j).sl (K j)) k := by
    intro k
    induction k with
    | zero =>
      intro K _ t ht
      obtain rfl : t = 0 := by simp [sumTo] at ht; omega
      simp [pS, sumTo]
    | succ k ih =>
      intro K hK t ht
      have ht : sumTo (fun j => (K j : Int)) k + K k = t := ht
      have h3 : ∀ k : Nat, (0 : Int) ≤ sumTo (fun j => (K j : Int)) k := fun k => by
        induction k with
        | zero => exact Int.le_refl _
        | succ k ih => unfold sumTo; omega
      have h3 := h3 k
      have h4 := ih K (fun j hj => hK j (by omega)) (t - K k) (by omega)
      have hlen : t - K k ≤ (sortI (catL cs k)).length := by
        have h5 : sumTo (fun j => (K j : Int)) k ≤ sumTo (fun j => ((cs j).sl.length : Int)) k := sumTo_le k fun j hj => by have := hK j (by omega); omega
        have h6 := catL_length cs k
        rw [sumTo_add] at h6
        rw [sortI_length]
        omega
      have h5 := joins_le (i := t - K k) (j := K k) hlen (hK k (by omega))
      rw [sortI_left, show t - K k + K k = t by omega] at h5
      show pS (sortI (catL cs k ++ (cs k).sl)) t ≤ sumTo (fun j => pS (cs j).sl (K j)) k + pS (cs k).sl (K k)
      omega
  have h5 := key2 n K h.le m h.sum
  have h6 : sumTo (fun j => pS (cs j).sl (K j)) n = p * (m : Int) + cut p (catL cs n) := by
    have : sumTo (fun j => pS (cs j).sl (K j)) n = sumTo (fun j => p * (K j : Int) + cut p (cs j).sl) n := sumTo_congr n fun j hj => by have := h.opt j hj; omega
    rw [this, sumTo_add, sumTo_mul, h.sum, sumTo_cut]
  omega

end Go.Proofs.Ytdepnhnpklbmiaa
/- Curves in blocks of their own: what a walk of a law keeps of each of them. -/
namespace Go.Proofs.Ytdepnhnpklbmiaa
open Go.RowKit Go.Sort

/-- a block that holds a curve -/
structure Box (W : World) (g : Nat) (c : Cu) (A : Option Addr) (n cap : Nat) : Prop where
  hp : W.heap[g]? = some (.cells #[.int .i64 c.fr, .int .i64 c.fst, .slice A n cap] 24 (0, 0))
  cu : CuAt W.heap.size W c A n cap
  big : n ≤ 9223372036854775807
theorem Box.lt {W : World} {g : Nat} {c : Cu} {A : Option Addr} {n cap : Nat} (h : Box W g c A n cap) : g < W.heap.size := (Array.getElem?_eq_some_iff.1 h.hp).1
theorem Box.below {W W' : World} {g : Nat} {c : Cu} {A : Option Addr} {n cap : Nat} (h : Box W g c A n cap) (hb : Below W.heap.size W W') : Box W' g c A n cap :=
  ⟨(hb.block g h.lt).trans h.hp, h.cu.now hb (Nat.le_refl _), h.big⟩
theorem Box.gr {W W' : World} {g : Nat} {c : Cu} {A : Option Addr} {n cap : Nat} (h : Box W g c A n cap) (hg : Gr W W') : Box W' g c A n cap := h.below hg.below
theorem Box.cells {W : World} {g : Nat} {c : Cu} {A : Option Addr} {n cap : Nat} (h : Box W g c A n cap) :
    W.cell? ⟨g, 0, none⟩ = some (.int .i64 c.fr) ∧ W.cell? ⟨g, 1, none⟩ = some (.int .i64 c.fst) ∧ W.cell? ⟨g, 2, none⟩ = some (.slice A n cap) := by
  have h0 := cell_of_heap' h.hp 0
  have h1 := cell_of_heap' h.hp 1
  have h2 := cell_of_heap' h.hp 2
  simp at h0 h1 h2
  exact ⟨h0, h1, h2⟩
theorem box_new {W : World} {c : Cu} {A : Option Addr} {n cap : Nat} (hc : CuAt W.heap.size W c A n cap) (hn : n ≤ 9223372036854775807) : Box (W.alloc (.cells #[.int .i64 c.fr, .int .i64 c.fst, .slice A n cap] 24)) W.heap.size c A n cap :=
  ⟨heap_alloc_new W _, hc.gr ((Gr.refl W).alloc _), hn⟩
theorem cu_of_own {W : World} {base : Nat} {c : Cu} {A : Option Addr} {n cap : Nat} (h : W.ownsRow base 3 1 (.slice A n cap) n (c.sl.map (Value.int .i64))) : CuAt W.heap.size W c A n cap := by
  refine ⟨ints_of_own h, fun _ ad e => ?_, fun e => ?_⟩
  · rcases h.2 with ⟨h1, _⟩ | ⟨g, cp, cur, hv, _, hg, _⟩
    · injection h1 with h1
      rw [h1] at e
      cases e
    · injection hv with h1
      rw [h1] at e
      injection e with e
      subst e
      exact (Array.getElem?_eq_some_iff.1 hg).1
  · rcases h.2 with ⟨h1, _⟩ | ⟨g, cp, cur, hv, _⟩
    · injection h1 with _ h2 h3
      exact ⟨h2, h3⟩
    · injection hv with h1
      rw [h1] at e
      cases e
/-- a curve that a call returned, laid into a variable's block -/
theorem CuPost.box {v : Cu × Int} {w : World} {e : Ending} {w' : World} (h : CuPost v w e w') (hn : v.1.sl.length ≤ 64) :
    ∃ A n cap, e = .returned (.tuple #[.agg #[.int .i64 v.1.fr, .int .i64 v.1.fst, .slice A n cap], .int .i64 v.2]) ∧ Below w.heap.size w w' ∧ Box (w'.alloc (.cells #[.int .i64 v.1.fr, .int .i64 v.1.fst, .slice A n cap] 24)) w'.heap.size v.1 A n cap := by
  obtain ⟨A, n, cap, rfl, ho, hb⟩ := h
  have hl : v.1.sl.length = n := by simpa using ho.1
  exact ⟨A, n, cap, rfl, hb, box_new (cu_of_own ho) (by omega)⟩
theorem okC_len {c : Cu} (h : okC c = true) : c.sl.length ≤ 64 := (okC_true h).2.2.1
theorem res2_len (c : Cu) : (res2 c).1.sl.length ≤ 64 := by
  unfold res2
  split
  · rename_i h
    exact okC_len h
  · exact Nat.zero_le _

/-- the join, if it is valid -/
def joinC (a b : Cu) : Cu := ⟨a.fr + b.fr, a.fst + b.fst, sortI (a.sl ++ b.sl)⟩
theorem joinV_eq (a b : Cu) : joinV a b = if okC a = true ∧ okC b = true then res2 (joinC a b) else (Cu.zero, 2) := rfl
theorem joinV_len (a b : Cu) : (joinV a b).1.sl.length ≤ 64 := by
  rw [joinV_eq]
  split
  · exact res2_len _
  · exact Nat.zero_le _
theorem joinC_comm (a b : Cu) : joinC a b = joinC b a := by
  unfold joinC
  rw [sortI_comm a.sl b.sl, Int.add_comm a.fr, Int.add_comm a.fst]
theorem joinV_comm (a b : Cu) : joinV a b = joinV b a := by
  rw [joinV_eq, joinV_eq, joinC_comm]
  by_cases h : okC a = true ∧ okC b = true
  · rw [if_pos h, if_pos h.symm]
  · rw [if_neg h, if_neg fun h2 => h h2.symm]
theorem joinC_assoc (a b c : Cu) : joinC (joinC a b) c = joinC a (joinC b c) := by
  unfold joinC
  simp only [Int.add_assoc]
  rw [sortI_left, sortI_right, List.append_assoc]
theorem res2_zero {c d : Cu} {e : Int} (h : res2 c = (d, e)) (he : e = 0) : d = c ∧ okC c = true := by
  unfold res2 at h
  split at h
  · rename_i hc
    injection h with h1 h2
    exact ⟨h1.symm, hc⟩
  · injection h with h1 h2
    omega
theorem joinV_zero {a b d : Cu} {e : Int} (h : joinV a b = (d, e)) (he : e = 0) : okC a = true ∧ okC b = true ∧ d = joinC a b ∧ okC d = true := by
  rw [joinV_eq] at h
  split at h
  · rename_i h1
    obtain ⟨h2, h3⟩ := res2_zero h he
    exact ⟨h1.1, h1.2, h2, by rw [h2]; exact h3⟩
  · injection h with h1 h2
    omega
/-- how a join ends -/
theorem joinV_error {a b d : Cu} {e : Int} (h : joinV a b = (d, e)) : (e = 0 ∧ okC a = true ∧ okC b = true) ∨ (e = 2 ∧ okC a = false) ∨ (e = 2 ∧ okC a = true ∧ okC b = false) ∨ (e = 4 ∧ okC a = true ∧ okC b = true) := by
  rw [joinV_eq] at h
  split at h
  · rename_i h1
    unfold res2 at h
    split at h
    · injection h with h2 h3
      exact .inl ⟨h3.symm, h1.1, h1.2⟩
    · injection h with h2 h3
      exact .inr (.inr (.inr ⟨h3.symm, h1.1, h1.2⟩))
  · rename_i h1
    injection h with h2 h3
    cases ha : okC a
    · exact .inr (.inl ⟨h3.symm, rfl⟩)
    · cases hb : okC b
      · exact .inr (.inr (.inl ⟨h3.symm, rfl, rfl⟩))
      · exact absurd ⟨ha, hb⟩ h1
theorem likeB_refl (a : Cu) : likeB a a = true := by
  unfold likeB
  simp
theorem joinC_val {a b : Cu} {i j : Nat} (hi : i ≤ a.sl.length) (hj : j ≤ b.sl.length) : valK (joinC a b) (i + j) ≤ valK a i + valK b j := by
  rw [valK_pS, valK_pS, valK_pS]
  have := joins_le (xs := a.sl) (ys := b.sl) hi hj
  show a.fst + b.fst + pS (sortI (a.sl ++ b.sl)) (i + j) ≤ _
  omega
theorem joinC_has {a b : Cu} (ha : okC a = true) (hb : okC b = true) {m : Nat} (hm : m ≤ a.sl.length + b.sl.length) : ∃ i j, i ≤ a.sl.length ∧ j ≤ b.sl.length ∧ i + j = m ∧ valK (joinC a b) m = valK a i + valK b j := by
  obtain ⟨i, j, h1, h2, h3, h4⟩ := joins_eq (okC_true ha).2.2.2.1 (okC_true hb).2.2.2.1 hm
  refine ⟨i, j, h1, h2, h3, ?_⟩
  rw [valK_pS, valK_pS, valK_pS]
  show a.fst + b.fst + pS (sortI (a.sl ++ b.sl)) m = _
  omega
theorem joinC_len (a b : Cu) : (joinC a b).sl.length = a.sl.length + b.sl.length := by
  show (sortI (a.sl ++ b.sl)).length = _
  rw [sortI_length, List.length_append]
/-- the value at a number of the domain -/
theorem atV_in {c : Cu} (h : okC c = true) {k : Nat} (hk : k ≤ c.sl.length) : atV c (c.fr + k) = (valK c k, 0) := by
  unfold atV
  rw [if_pos h, if_pos (by omega), show (c.fr + (k : Int) - c.fr).toNat = k by omega]
theorem atV_none {c : Cu} {x : Int} (h : (atV c x).2 ≠ 0) : (atV c x).1 = 0 := by
  unfold atV at h ⊢
  split at h
  · split at h
    · exact absurd rfl h
    · rename_i h1 h2
      rw [if_pos h1, if_neg h2]
  · rename_i h1
    rw [if_neg h1]
theorem atV_some {c : Cu} {x : Int} (h : (atV c x).2 = 0) : okC c = true ∧ ∃ k : Nat, k ≤ c.sl.length ∧ x = c.fr + k := by
  unfold atV at h
  split at h
  · rename_i h1
    split at h
    · rename_i h2
      exact ⟨h1, (x - c.fr).toNat, by omega, by omega⟩
    · exact absurd h (by decide)
  · exact absurd h (by decide)

end Go.Proofs.Ytdepnhnpklbmiaa
/- The mathematics of conjugates. -/
namespace Go.Proofs.Ytdepnhnpklbmiaa
open Go.RowKit Go.Sort

/-! ### conjugates -/
/-- what Conj makes -/
def conC (c : Cu) (lo hi : Int) : Cu := ⟨lo, lo * (c.fr + climK c lo) - valK c (climK c lo), (List.range (hi - lo).toNat).map (fun (i : Nat) => c.fr + (climK c (lo + 1 + (i : Int)) : Int))⟩
def conV (c : Cu) (lo hi : Int) : Cu × Int := if okC c = true ∧ inB lo 1048576 = true ∧ lo ≤ hi ∧ hi ≤ lo + 64 ∧ hi ≤ 1048576 then res2 (conC c lo hi) else (Cu.zero, 2)
/-- the greatest of p*x - c(x) -/
def gre (c : Cu) (p : Int) : Int := p * c.fr - c.fst - cut p c.sl
theorem ok_asc {c : Cu} (h : okC c = true) : ascTo c.sl c.sl.length := (okC_true h).2.2.2.1
theorem gre_ge (c : Cu) (p : Int) {k : Nat} (hk : k ≤ c.sl.length) : p * (c.fr + k) - valK c k ≤ gre c p := by
  have := cut_le p c.sl k hk
  rw [valK_pS, Int.mul_add]
  unfold gre
  omega
theorem gre_eq {c : Cu} (p : Int) {k : Nat} (hk : k ≤ c.sl.length) (h1 : ∀ j, j < k → iA c.sl j ≤ p) (h2 : ∀ j, k ≤ j → j < c.sl.length → p ≤ iA c.sl j) : p * (c.fr + k) - valK c k = gre c p := by
  have := cut_eq p c.sl k hk h1 h2
  rw [valK_pS, Int.mul_add]
  unfold gre
  omega
theorem gre_lt {c : Cu} (p : Int) {k : Nat} (hk : k ≤ c.sl.length) (h : ∃ j, (j < k ∧ p < iA c.sl j) ∨ (k ≤ j ∧ j < c.sl.length ∧ iA c.sl j < p)) : p * (c.fr + k) - valK c k < gre c p := by
  have := cut_lt p c.sl k hk h
  rw [valK_pS, Int.mul_add]
  unfold gre
  omega
theorem gre_clim {c : Cu} (h : ascTo c.sl c.sl.length) (p : Int) : p * (c.fr + climK c p) - valK c (climK c p) = gre c p :=
  gre_eq p (climK_le c p) (fun _ h => Int.le_of_lt (climK_lt h)) fun _ h1 h2 => climK_ge h h1 h2
theorem cut_step (p : Int) : ∀ xs : List Int, cut (p + 1) xs = cut p xs - cnt (p + 1) xs
  | [] => rfl
  | x :: xs => by
    show (if x < p + 1 then x - (p + 1) else 0) + cut (p + 1) xs = (if x < p then x - p else 0) + cut p xs - ((if x < p + 1 then 1 else 0) + cnt (p + 1) xs : Nat)
    rw [cut_step p xs]
    split <;> split <;> omega
theorem gre_step {c : Cu} (h : ascTo c.sl c.sl.length) (p : Int) : gre c (p + 1) = gre c p + (c.fr + climK c (p + 1)) := by
  unfold gre
  rw [cut_step, climK_cnt h, Int.add_mul]
  omega
theorem con_sl {c : Cu} {lo hi : Int} {i : Nat} (hi' : (i : Int) < hi - lo) : iA (conC c lo hi).sl i = c.fr + climK c (lo + 1 + i) := by
  rw [iA_get (by simp [conC]; omega)]
  simp [conC]
theorem con_len (c : Cu) (lo hi : Int) : (conC c lo hi).sl.length = (hi - lo).toNat := by simp [conC]
theorem con_val {c : Cu} (h : ascTo c.sl c.sl.length) (lo hi : Int) : ∀ i : Nat, (i : Int) ≤ hi - lo → valK (conC c lo hi) i = gre c (lo + i)
  | 0, _ => by
    show lo * (c.fr + climK c lo) - valK c (climK c lo) = _
    rw [gre_clim h]
    simp
  | i + 1, hl => by
    unfold valK
    rw [con_val h lo hi i (by omega), con_sl (by omega)]
    have := gre_step h (lo + i)
    rw [show lo + ((i + 1 : Nat) : Int) = lo + i + 1 by omega, this, show lo + 1 + (i : Int) = lo + i + 1 by omega]
/-- the join's greatest is the sum of the greatest -/
theorem gre_join (a b : Cu) (p : Int) : gre ⟨a.fr + b.fr, a.fst + b.fst, sortI (a.sl ++ b.sl)⟩ p = gre a p + gre b p := by
  unfold gre
  show p * (a.fr + b.fr) - (a.fst + b.fst) - cut p (sortI (a.sl ++ b.sl)) = _
  rw [cut_perm p (sortI_perm _), cut_append, Int.mul_add]
  omega
theorem clim_join {a b : Cu} (ha : ascTo a.sl a.sl.length) (hb : ascTo b.sl b.sl.length) (p : Int) : climK ⟨a.fr + b.fr, a.fst + b.fst, sortI (a.sl ++ b.sl)⟩ p = climK a p + climK b p := by
  rw [climK_cnt (sortI_asc _), climK_cnt ha, climK_cnt hb]
  show cnt p (sortI (a.sl ++ b.sl)) = _
  rw [cnt_perm p (sortI_perm _), cnt_append]
/-- what Add makes -/
def addC (a b : Cu) : Cu := ⟨max a.fr b.fr, valK a (max a.fr b.fr - a.fr).toNat + valK b (max a.fr b.fr - b.fr).toNat, (List.range (min (a.fr + a.sl.length) (b.fr + b.sl.length) - max a.fr b.fr).toNat).map (fun i => iA a.sl ((max a.fr b.fr - a.fr).toNat + i) + iA b.sl ((max a.fr b.fr - b.fr).toNat + i))⟩
def addV (a b : Cu) : Cu × Int := if okC a = true ∧ okC b = true then (if max a.fr b.fr ≤ min (a.fr + a.sl.length) (b.fr + b.sl.length) then res2 (addC a b) else (Cu.zero, 6)) else (Cu.zero, 2)
theorem res2_ok {c d : Cu} (h : res2 c = (d, 0)) : d = c ∧ okC c = true := by
  unfold res2 at h
  split at h
  · rename_i h1
    injection h with h2 h3
    exact ⟨h2.symm, h1⟩
  · injection h with _ h3
    exact absurd h3 (by decide)
theorem res2_err (c : Cu) : (res2 c).2 = 0 ∧ (res2 c).1 = c ∧ okC c = true ∨ (res2 c).2 = 4 ∧ (res2 c).1 = Cu.zero ∧ okC c = false := by
  unfold res2
  split
  · rename_i h
    exact .inl ⟨rfl, rfl, h⟩
  · rename_i h
    exact .inr ⟨rfl, rfl, by simpa using h⟩
theorem cu_ext {a b : Cu} (h1 : a.fr = b.fr) (h2 : a.fst = b.fst) (h3 : a.sl = b.sl) : a = b := by
  cases a; cases b; simp_all
/-- the conjugate of a join is the sum of the conjugates -/
theorem dual {a b : Cu} {lo hi : Int} (ha : okC a = true) (hb : okC b = true) (hlh : lo ≤ hi) :
    addC (conC a lo hi) (conC b lo hi) = conC ⟨a.fr + b.fr, a.fst + b.fst, sortI (a.sl ++ b.sl)⟩ lo hi := by
  have e0 : max (conC a lo hi).fr (conC b lo hi).fr = lo := Int.max_self lo
  have e1 : min ((conC a lo hi).fr + (conC a lo hi).sl.length) ((conC b lo hi).fr + (conC b lo hi).sl.length) = hi := by
    rw [con_len, con_len]
    show min (lo + ((hi - lo).toNat : Int)) (lo + ((hi - lo).toNat : Int)) = hi
    omega
  have e2 : (lo - (conC a lo hi).fr).toNat = 0 := by show (lo - lo).toNat = 0; omega
  have e3 : (lo - (conC b lo hi).fr).toNat = 0 := by show (lo - lo).toNat = 0; omega
  apply cu_ext
  · exact e0
  · unfold addC
    show valK (conC a lo hi) _ + valK (conC b lo hi) _ = valK (conC ⟨a.fr + b.fr, a.fst + b.fst, sortI (a.sl ++ b.sl)⟩ lo hi) 0
    rw [e0, e2, e3, con_val (ok_asc ha) lo hi 0 (by simp; omega), con_val (ok_asc hb) lo hi 0 (by simp; omega), con_val (sortI_asc _) lo hi 0 (by simp; omega), gre_join]
  · unfold addC
    show List.map _ _ = List.map _ _
    rw [e0, e1, e2, e3]
    refine List.map_congr_left fun i hi' => ?_
    have hi' := List.mem_range.1 hi'
    rw [Nat.zero_add, con_sl (by omega), con_sl (by omega), clim_join (ok_asc ha) (ok_asc hb)]
    show _ = a.fr + b.fr + ((climK a _ + climK b _ : Nat) : Int)
    omega
/-- twice conjugate: a price at which x is best -/
theorem back_price {c : Cu} (h : okC c = true) {k : Nat} (hk : k ≤ c.sl.length) {lo hi : Int} (hlh : lo ≤ hi) (hin : ∀ i, i < c.sl.length → lo ≤ iA c.sl i ∧ iA c.sl i ≤ hi) :
    ∃ p, lo ≤ p ∧ p ≤ hi ∧ p * (c.fr + k) - gre c p = valK c k := by
  have ha := ok_asc h
  rcases Nat.eq_zero_or_pos c.sl.length with h0 | h0
  · refine ⟨lo, Int.le_refl _, hlh, ?_⟩
    have := gre_eq (c := c) lo hk (fun j hj => by omega) (fun j _ hj => by omega)
    omega
  · rcases Nat.eq_zero_or_pos k with hk0 | hk0
    · subst hk0
      have := gre_eq (c := c) (iA c.sl 0) hk (fun j hj => by omega) (fun j _ hj => asc_mono ha (Nat.zero_le _) hj)
      exact ⟨iA c.sl 0, (hin 0 h0).1, (hin 0 h0).2, by omega⟩
    · have := gre_eq (c := c) (iA c.sl (k - 1)) hk (fun j hj => asc_mono ha (by omega) (by omega)) (fun j _ hj => asc_mono ha (by omega) hj)
      exact ⟨iA c.sl (k - 1), (hin _ (by omega)).1, (hin _ (by omega)).2, by omega⟩
theorem back_le (c : Cu) {k : Nat} (hk : k ≤ c.sl.length) (p : Int) : p * (c.fr + k) - gre c p ≤ valK c k := by
  have := gre_ge c p hk
  omega

end Go.Proofs.Ytdepnhnpklbmiaa
/- Contract of Conj. -/
namespace Go.Proofs.Ytdepnhnpklbmiaa
open Go.RowKit Go.Sort

theorem OnWay.shift {W W' : World} {g o : Nat} {c : Cu} {A : Option Addr} {n cap k : Nat} (h : OnWay W g o c A n cap k) (hb : W'.heap[g]? = W.heap[g]?) (hsz : W.heap.size ≤ W'.heap.size) (hx : IntsAt W'.heap.size W' A n c.sl) : OnWay W' g o c A n cap k :=
  ⟨⟨Nat.lt_of_lt_of_le h.wk.lt hsz, (World.cell?_of_block hb).trans h.wk.c0, (World.cell?_of_block hb).trans h.wk.c1, (World.cell?_of_block hb).trans h.wk.c2, (World.cell?_of_block hb).trans h.wk.c3, (World.cell?_of_block hb).trans h.wk.c4, (World.frozen?_of_block hb).trans h.wk.f3, (World.frozen?_of_block hb).trans h.wk.f4⟩, hx, h.ne, h.le⟩

theorem results40 {W : World} {g : Nat} {a b c : Value} {t : TypeId} (h : W.heap[g]? = some (.cells #[a, b, c] t (0, 0))) (x0 x1 x2 x3 x4 x5 y : Value) (rest : List Value) :
    (results Try.f40 (x0 :: x1 :: x2 :: x3 :: x4 :: x5 :: .pointer (some ⟨g, 0, none⟩) :: y :: rest).toArray).run Try.prog W = .ok (.tuple #[.agg #[a, b, c], y]) W := by
  have h0 := cell_of_heap' h 0
  have h1 := cell_of_heap' h 1
  have h2 := cell_of_heap' h 2
  simp at h0 h1 h2
  simp [results, Try.results40, go_sem, h0, h1, h2]

/-- what stands when N prices beyond lo have been gone through -/
structure ConI (w W : World) (g gc r : Nat) (c : Cu) (A : Option Addr) (n cap : Nat) (lo : Int) (f0 : Int) (a : Option Addr) (N cp : Nat) : Prop where
  walk : OnWay W g 0 c A n cap (climK c (lo + N))
  conj : W.heap[gc]? = some (.cells #[.int .i64 lo, .int .i64 f0, .slice a N cp] 24 (0, 0))
  row : W.ownsRow (gc + 1) 3 1 (.slice a N cp) N (((List.range N).map (fun (i : Nat) => c.fr + (climK c (lo + 1 + (i : Int)) : Int))).map (Value.int .i64))
  res : W.heap[r]? = some (.cells #[.int .i64 0, .int .i64 0, .slice none 0 0] 24 (0, 0))
  below : Below w.heap.size w W
  size : gc + 1 ≤ W.heap.size

theorem cell_one_new (w : World) (v : Value) (t : TypeId) : ∀ j u, [v][j]? = some u → (w.alloc (.cells #[v] t)).cell? ((⟨w.heap.size, 0, none⟩ : Addr).add j) = some u := by
  intro j u hu
  cases j with
  | zero =>
    simp at hu
    subst hu
    rw [addr_add]
    simp
  | succ j => simp at hu
theorem clim_self {c : Cu} (h : okC c = true) {n : Nat} (hl : c.sl.length = n) (p : Int) : Clim c p n 0 (climK c p) :=
  ⟨Nat.zero_le _, by rw [← hl]; exact climK_le c p, fun _ _ h => climK_lt h, fun hk => climK_ge (okC_true h).2.2.2.1 (Nat.le_refl _) (by omega)⟩
theorem mul_bound {a b : Int} {M N : Nat} (h1 : -(M : Int) ≤ a ∧ a ≤ M) (h2 : -(N : Int) ≤ b ∧ b ≤ N) : -((M * N : Nat) : Int) ≤ a * b ∧ a * b ≤ ((M * N : Nat) : Int) := by
  have h3 : (a * b).natAbs ≤ M * N := by
    rw [Int.natAbs_mul]
    exact Nat.mul_le_mul (by omega) (by omega)
  omega

/-- one price more: the walker has climbed, x has been appended, and the slice stored -/
theorem ConI.next {w wr w7 w8 : World} {g gc r : Nat} {c : Cu} {A a a8 : Option Addr} {n cap N cp c8 : Nat} {lo f0 : Int} (h : ConI w wr g gc r c A n cap lo f0 a N cp) (hx : IntsAt w.heap.size w A n c.sl)
    (ho : OnWay w7 g 0 c A n cap (climK c (lo + (N + 1 : Nat)))) (hk : Wkd g 0 wr w7) (hgg : g < gc) (hrg : r < g) (hwg : w.heap.size ≤ g) (t : Obj)
    (hown : w8.ownsRow (gc + 1) 3 1 (.slice a8 (N + 1) c8) (N + 1) (((List.range N).map (fun (i : Nat) => c.fr + (climK c (lo + 1 + (i : Int)) : Int))).map (Value.int .i64) ++ [.int .i64 (c.fr + climK c (lo + (N + 1 : Nat)))]))
    (hgrow : (w7.alloc t).grownBy w8 (Value.slice a N cp).ownBlock) :
    w8.heap[gc]? = some (.cells #[.int .i64 lo, .int .i64 f0, .slice a N cp] 24 (0, 0)) ∧
    ConI w (w8.setCell ⟨gc, 2, none⟩ (.slice a8 (N + 1) c8)) g gc r c A n cap lo f0 a8 (N + 1) c8 := by
  have hrow7 : w7.ownsRow (gc + 1) 3 1 (.slice a N cp) N _ := own_wkd h.row hk (fun e => by have := (h.row.lt g e).1; omega)
  have hs7 : gc + 1 ≤ w7.heap.size := Nat.le_trans h.size hk.size
  have hb8 : Below (gc + 1) w7 w8 := ((Below.refl (gc + 1) w7).alloc hs7 t).grown hgrow (by rw [World.size_alloc]; omega) (fun k e => (h.row.lt k e).1)
  have hc7 : w7.heap[gc]? = some (.cells #[.int .i64 lo, .int .i64 f0, .slice a N cp] 24 (0, 0)) := (hk.block gc (by have := h.size; omega) (by omega)).trans h.conj
  have hc8 := (hb8.block gc (by omega)).trans hc7
  have hB7 : Below w.heap.size w w7 := hk.below h.below hwg h.below.size
  have hB8 : Below w.heap.size w w8 := hB7.trans (hb8.mono (by omega))
  have hB9 : Below w.heap.size w (w8.setCell ⟨gc, 2, none⟩ (.slice a8 (N + 1) c8)) := hB8.setCell (p := ⟨gc, 2, none⟩) (by show w.heap.size ≤ gc; omega) _
  have hsz : (w8.setCell ⟨gc, 2, none⟩ (.slice a8 (N + 1) c8)).heap.size = w8.heap.size := by simp [World.setCell]
  refine ⟨hc8, ⟨?_, ?_, ?_, ?_, hB9, by rw [hsz]; exact Nat.le_trans hs7 hb8.size⟩⟩
  · refine ho.shift ((Below.heap_setCell _ _ _ _ (by show g ≠ gc; omega)).trans (hb8.block g (by omega))) (by rw [hsz]; exact hb8.size) (hx.now hB9 (Nat.le_refl _))
  · have := Joins.block_setCell hc8 (i := 2) (.slice a8 (N + 1) c8)
    simpa using this
  · rw [List.range_succ, List.map_append, List.map_append]
    have e : c.fr + (climK c (lo + (N + 1 : Nat)) : Int) = c.fr + (climK c (lo + 1 + (N : Int)) : Int) := by rw [show lo + ((N + 1 : Nat) : Int) = lo + 1 + (N : Int) by omega]
    rw [e] at hown
    exact RowKit.ownsRow_setCell_below hown (a := ⟨gc, 2, none⟩) (by show gc < gc + 1; omega) _
  · exact (Below.heap_setCell _ _ _ _ (by show r ≠ gc; omega)).trans ((hb8.block r (by omega)).trans ((hk.block r (by have := h.size; omega) (by omega)).trans h.res))

set_option maxHeartbeats 8000000 in
set_option maxRecDepth 100000 in
theorem Conj_any (c : Cu) (A : Option Addr) (n cap : Nat) (lo hi : Int) (w : World) (hx : CuAt w.heap.size w c A n cap) (hn : n ≤ 9223372036854775807) :
    Calls Try.prog 40 #[.agg #[.int .i64 c.fr, .int .i64 c.fst, .slice A n cap], .int .i64 lo, .int .i64 hi] w (CuPost (conV c lo hi) w) := by
  have mixed := mixedOrders
  obtain ⟨W1, hW1⟩ : ∃ W1, (w.alloc (.cells #[.int .i64 c.fr, .int .i64 c.fst, .slice A n cap] 24)).alloc (.cells #[.int .i64 0, .int .i64 0, .slice none 0 0] 24) = W1 := ⟨_, rfl⟩
  obtain ⟨p, hp⟩ : ∃ p, w.heap.size = p := ⟨_, rfl⟩
  have hG1 : Gr w W1 := by rw [← hW1]; exact ((Gr.refl w).alloc _).alloc _
  have hs1 : W1.heap.size = p + 2 := by rw [← hW1, ← hp]; simp
  have ua : W1.heap[p]? = some (.cells #[.int .i64 c.fr, .int .i64 c.fst, .slice A n cap] 24 (0, 0)) := by
    rw [← hW1, ← hp]
    exact (Below.heap_alloc _ _ _ (by simp)).trans (heap_alloc_new w _)
  have ur : W1.heap[p + 1]? = some (.cells #[.int .i64 0, .int .i64 0, .slice none 0 0] 24 (0, 0)) := by
    rw [← hW1, ← hp]
    simpa using heap_alloc_new (w.alloc (.cells #[.int .i64 c.fr, .int .i64 c.fst, .slice A n cap] 24)) (.cells #[.int .i64 0, .int .i64 0, .slice none 0 0] 24)
  have HUA := hide ua
  have HUR := hide ur
  have HX := hide hx
  have HG1 := hide hG1
  have HV := hide (Valid_any c A n cap W1 (hx.gr hG1).sl hn)
  have HWI := hide (fun W => within_any lo 1048576 W (by decide) (by decide))
  have a0 := cell_of_heap' ua 0
  have a1 := cell_of_heap' ua 1
  have a2 := cell_of_heap' ua 2
  simp at a0 a1 a2
  clear ua ur hx hG1
  go_enter Try.func40, Try.ntmps40
  go_wp2_with fail
  try rw [hp]
  refine HV.out.mono ?_
  rintro e w2 ⟨rfl, hG2⟩
  have HG2 := hide (HG1.out.trans hG2)
  have hs2 : p + 2 ≤ w2.heap.size := by have := hG2.size; omega
  have b2 := (hG2.block (k := p) (by omega)).trans HUA.out
  have q2 := (hG2.block (k := p + 1) (by omega)).trans HUR.out
  have HUA2 := hide b2
  have HUR2 := hide q2
  have c0 := cell_of_heap' b2 0
  have c1 := cell_of_heap' b2 1
  have c2 := cell_of_heap' b2 2
  have r0 := cell_of_heap' q2 0
  have r1 := cell_of_heap' q2 1
  have r2 := cell_of_heap' q2 2
  have y0 := frozen_of_heap' q2 0
  have y1 := frozen_of_heap' q2 1
  have y2 := frozen_of_heap' q2 2
  simp at c0 c1 c2 r0 r1 r2
  clear b2 q2 hG2 a0 a1 a2
  have HB2 : Hid (Below w.heap.size w w2) := HG2.out.below
  cases hva : okC c
  · have HJ : Hid (conV c lo hi = (Cu.zero, 2)) := if_neg (by rw [hva]; simp)
    clear hva
    go_wp2_with fail
    refine bodyPost_ret (results40 (set3_heap HUR2.out _ _ _) _ _ _ _ _ _ _ _) rfl ?_
    refine ⟨none, 0, 0, by rw [HJ.out] <;> rfl, ?_, set3_below HB2.out (by omega) _ _ _⟩
    rw [HJ.out]
    exact World.ownsRow_nil _ _ _ _
  have HVA := hide hva
  have hn64 : n ≤ 64 := by have h1 := okC_len hva; have h2 := HX.out.sl.1; omega
  clear hva
  go_wp2_with fail
  refine (HWI.out _).mono ?_
  rintro e w3 ⟨rfl, hw3⟩
  subst hw3
  cases hib : inB lo 1048576
  · have HJ : Hid (conV c lo hi = (Cu.zero, 2)) := if_neg (by rw [hib]; simp)
    clear hib
    go_wp2_with fail
    refine bodyPost_ret (results40 (set3_heap HUR2.out _ _ _) _ _ _ _ _ _ _ _) rfl ?_
    refine ⟨none, 0, 0, by rw [HJ.out] <;> rfl, ?_, set3_below HB2.out (by omega) _ _ _⟩
    rw [HJ.out]
    exact World.ownsRow_nil _ _ _ _
  have hlr : -1048576 ≤ lo ∧ lo ≤ 1048576 := inB_true hib
  have HIB := hide hib
  clear hib
  by_cases hlh : hi < lo
  · have HJ : Hid (conV c lo hi = (Cu.zero, 2)) := if_neg (fun h => by omega)
    have hd1 : decide (hi < lo) = true := decide_eq_true hlh
    go_wp2_with fail
    refine bodyPost_ret (results40 (set3_heap HUR2.out _ _ _) _ _ _ _ _ _ _ _) rfl ?_
    refine ⟨none, 0, 0, by rw [HJ.out] <;> rfl, ?_, set3_below HB2.out (by omega) _ _ _⟩
    rw [HJ.out]
    exact World.ownsRow_nil _ _ _ _
  have hd1 : decide (hi < lo) = false := decide_eq_false hlh
  obtain ⟨t, ht⟩ : ∃ t, lo + 64 = t := ⟨_, rfl⟩
  have hwt : IntKind.i64.wrap (lo + 64) = t := by rw [IntKind.wrap_i64]; omega
  obtain ⟨mn, hmn⟩ : ∃ q : Int, min t 1048576 = q := ⟨_, rfl⟩
  have HMN : Hid (mn ≤ t ∧ mn ≤ 1048576 ∧ (mn = t ∨ mn = 1048576)) := by show _ ∧ _; rw [← hmn]; omega
  by_cases hmh : mn < hi
  · have HJ : Hid (conV c lo hi = (Cu.zero, 2)) := if_neg (fun h => by have := HMN.out; omega)
    have hd2 : decide (mn < hi) = true := decide_eq_true hmh
    clear ht
    go_wp2_with fail
    refine bodyPost_ret (results40 (set3_heap HUR2.out _ _ _) _ _ _ _ _ _ _ _) rfl ?_
    refine ⟨none, 0, 0, by rw [HJ.out] <;> rfl, ?_, set3_below HB2.out (by omega) _ _ _⟩
    rw [HJ.out]
    exact World.ownsRow_nil _ _ _ _
  have hd2 : decide (mn < hi) = false := decide_eq_false hmh
  have hhi : hi ≤ lo + 64 ∧ hi ≤ 1048576 := by have := HMN.out; omega
  have HJ : Hid (conV c lo hi = res2 (conC c lo hi)) := if_pos ⟨HVA.out, HIB.out, by omega, hhi.1, hhi.2⟩
  have HLH : Hid (lo ≤ hi) := by show lo ≤ hi; omega
  clear ht hlh hmh
  have e00 : c.fr + ((0 : Nat) : Int) = c.fr := by omega
  have hX2 := HX.out.gr HG2.out
  have HAT := hide (at_any c A n cap 0 w3 HVA.out hX2.sl hX2.old (Nat.zero_le _))
  rw [e00] at HAT
  clear hX2
  go_wp2_with fail
  refine HAT.out.mono ?_
  rintro e w4 ⟨rfl, hB4⟩
  have hwz : wkV c A n cap c.fr (valK c 0) = .agg #[.int .i64 c.fr, .int .i64 c.fst, .slice A n cap, .int .i64 c.fr, .int .i64 c.fst] := rfl
  rw [hwz]
  obtain ⟨g, hg⟩ : ∃ g, w4.heap.size = g := ⟨_, rfl⟩
  obtain ⟨W5, hW5⟩ : ∃ W5, (w4.alloc (.cells #[.int .i64 c.fr, .int .i64 c.fst, .slice A n cap, .int .i64 c.fr, .int .i64 c.fst] 61)) = W5 := ⟨_, rfl⟩
  have hG5 : Gr w4 W5 := by rw [← hW5]; exact (Gr.refl w4).alloc _
  have hb5 : W5.heap[g]? = some (.cells #[.int .i64 c.fr, .int .i64 c.fst, .slice A n cap, .int .i64 c.fr, .int .i64 c.fst] 61 (0, 0)) := by
    rw [← hW5, ← hg]
    exact heap_alloc_new w4 _
  have hs5 : W5.heap.size = g + 1 := by rw [← hW5, ← hg]; simp
  have hpg : p + 2 ≤ g := by have := hB4.size; omega
  have d0 := fun j => cell_of_heap' hb5 j
  have f0 := fun j => frozen_of_heap' hb5 j
  have hB4w := HB2.out.trans (hB4.mono HB2.out.size)
  have hX5 := HX.out.now (hB4w.trans (hG5.below.mono hB4w.size)) (Nat.le_refl _)
  have ON : OnWay W5 g 0 c A n cap 0 := by
    refine ⟨⟨by omega, by simpa using d0 0, by simpa using d0 1, by simpa using d0 2, ?_, ?_, f0 _, f0 _⟩, hX5.sl, fun hz ad e => by have := (HX.out.now hB4w (Nat.le_refl _)).old hz ad e; omega, Nat.zero_le _⟩
    · have := d0 3
      simp at this
      simpa using this
    · have := d0 4
      simp at this
      simpa [valK] using this
  have HCL := hide (climb_any g 0 c A n cap 0 lo W5 HVA.out ON)
  have HB5 : Hid (Below w.heap.size w W5) := hB4w.trans (hG5.below.mono hB4w.size)
  have HR5 : Hid (W5.heap[p + 1]? = some (.cells #[.int .i64 0, .int .i64 0, .slice none 0 0] 24 (0, 0))) := (hG5.block (k := p + 1) (by omega)).trans ((hB4.block (p + 1) (by omega)).trans HUR2.out)
  have HLN := hide HX.out.sl.1
  clear hB4 d0 f0 ON hX5 hb5 hG5 hB4w HAT c0 c1 c2 r0 r1 r2 y0 y1 y2 hwz
  go_wp2_with fail
  refine HCL.out.mono ?_
  rintro e w6 ⟨rfl, k1, hc1, ho, hk6⟩
  obtain rfl := clim_is HLN.out hc1
  have g3 := ho.wk.c3
  have g4 := ho.wk.c4
  simp only [Nat.zero_add] at g3 g4
  have hkl : climK c lo ≤ n := by have := climK_le c lo; have := HLN.out; omega
  have hfr := okC_fr HVA.out
  have hvr := okC_val HVA.out (k := climK c lo) (by have := HLN.out; omega)
  obtain ⟨x0, hx0⟩ : ∃ q, c.fr + (climK c lo : Int) = q := ⟨_, rfl⟩
  obtain ⟨v0, hv0⟩ : ∃ q, valK c (climK c lo) = q := ⟨_, rfl⟩
  rw [hx0] at g3
  rw [hv0] at g4 hvr
  have hmr := mul_bound (a := lo) (b := x0) (M := 1048576) (N := 2097152) (by omega) (by omega)
  obtain ⟨m0, hm0⟩ : ∃ q, lo * x0 = q := ⟨_, rfl⟩
  rw [hm0] at hmr
  have hw1 : IntKind.i64.wrap (lo * x0) = m0 := by rw [hm0, IntKind.wrap_i64]; omega
  obtain ⟨f0, hf0⟩ : ∃ q, m0 - v0 = q := ⟨_, rfl⟩
  have hw2 : IntKind.i64.wrap (m0 - v0) = f0 := by rw [IntKind.wrap_i64]; omega
  have HF0 : Hid (f0 = lo * (c.fr + climK c lo) - valK c (climK c lo)) := by show _ = _; rw [hx0, hv0, hm0, hf0]
  obtain ⟨gc, hgc⟩ : ∃ q, w6.heap.size = q := ⟨_, rfl⟩
  obtain ⟨W7, hW7⟩ : ∃ W7, (w6.alloc (.cells #[.int .i64 lo, .int .i64 f0, .slice none 0 0] 24)) = W7 := ⟨_, rfl⟩
  have hG7 : Gr w6 W7 := by rw [← hW7]; exact (Gr.refl w6).alloc _
  have hggc : g < gc := by have := ho.wk.lt; omega
  have hpw : w.heap.size ≤ g := by omega
  have HS0 : Hid (ConI w W7 g gc (p + 1) c A n cap lo f0 none 0 0) := by
    have hB6 := hk6.below HB5.out hpw HB5.out.size
    have hB7 := hB6.trans (hG7.below.mono hB6.size)
    refine ⟨?_, ?_, World.ownsRow_nil _ _ _ _, ?_, hB7, by rw [← hW7, World.size_alloc]; omega⟩
    · rw [show lo + ((0 : Nat) : Int) = lo by omega]
      exact ho.gr hG7
    · rw [← hW7, ← hgc]
      exact heap_alloc_new w6 _
    · exact (hG7.block (k := p + 1) (by omega)).trans ((hk6.block (p + 1) (by omega) (by omega)).trans HR5.out)
  clear hk6 hc1 ho hG7 HCL hx0 hv0 hm0 hf0 hvr hmr hkl hW5
  subst hW7
  go_wp2_with fail
  obtain ⟨i0, hi0, hz0, hz1, hz2⟩ := info_parts info3
  go_loopw [10] (fun vp wr => ∃ (N : Nat) (a : Option Addr) (cp : Nat), (N : Int) ≤ hi - lo ∧ vp = .int .i64 (lo + 1 + N) ∧ Hid (ConI w wr g gc (p + 1) c A n cap lo f0 a N cp)) (fun vp _ => (hi + 1 - intOf vp).toNat)
  case atStart => exact ⟨0, none, 0, by have := HLH.out; omega, by first | go_num | (rw [show lo + 1 + ((0 : Nat) : Int) = lo + 1 by omega]), HS0⟩
  case round =>
    obtain ⟨N, a, cp, hN, rfl, HC⟩ := hrel
    obtain ⟨P, hP⟩ : ∃ q, lo + 1 + (N : Int) = q := ⟨_, rfl⟩
    rw [hP]
    have hwP : IntKind.i64.wrap (P + 1) = P + 1 := by rw [IntKind.wrap_i64]; omega
    by_cases hlt : P ≤ hi
    · have hd3 : decide (P ≤ hi) = true := decide_eq_true hlt
      have HCL := hide (climb_any g 0 c A n cap (climK c (lo + N)) P wr HVA.out HC.out.walk)
      go_wp2_with fail
      refine HCL.out.mono ?_
      rintro e w7 ⟨rfl, k2, hc2, ho, hk7⟩
      obtain rfl := clim_is HLN.out (clim_on (clim_self HVA.out HLN.out _) hc2 (by omega))
      have g3 := ho.wk.c3
      simp only [Nat.zero_add] at g3
      have hsz := HC.out.size
      have hcb := (hk7.block gc (by omega) (by omega)).trans HC.out.conj
      have z2 := cell_of_heap' hcb 2
      simp at z2
      have e1 : P = lo + ((N + 1 : Nat) : Int) := by omega
      have HO7 : Hid (w7.ownsRow (gc + 1) 3 1 (.slice a N cp) N (((List.range N).map (fun (i : Nat) => c.fr + (climK c (lo + 1 + (i : Int)) : Int))).map (Value.int .i64))) := own_wkd HC.out.row hk7 (fun e => by have := (HC.out.row.lt g e).1; omega)
      have HNX := hide (fun (w8 : World) (a8 : Option Addr) (c8 : Nat) t h1 h2 => ConI.next (w8 := w8) (a8 := a8) (c8 := c8) HC.out HX.out.sl (by rw [← e1]; exact ho) hk7 hggc (by omega) hpw t h1 h2)
      rw [← e1] at HNX
      obtain ⟨xp, hxp⟩ : ∃ q, c.fr + (climK c P : Int) = q := ⟨_, rfl⟩
      rw [hxp] at g3 HNX
      have HB1 : Hid (N + 1 ≤ maxLen) := hide (by unfold maxLen; omega)
      have HBB : Hid ((N + 1) * 8 ≤ 140737488355328) := hide (by omega)
      have HB3 : Hid (gc + 1 ≤ (w7.alloc (.cells #[.int .i64 xp] 3)).heap.size) := by show _ ≤ _; rw [World.size_alloc]; have := hk7.size; omega
      have l2 : (w7.alloc (.cells #[.int .i64 xp] 3)).cell? ⟨gc, 2, none⟩ = some (.slice a N cp) := (World.cell?_alloc_lt _ _ _ (by show gc < _; have := hk7.size; omega)).trans z2
      clear hc2 ho hk7 HCL hcb hsz HC
      go_wp2_with (at_builtin; refine wpList_append_own_at _ rfl (.tmp 57) (.tmp 60) _ rfl (gc + 1) 3 i0 (.int .i64 0) 1 8 Try.underlying22 hi0 hz0 hz1 hz2 rfl (by decide) _ _ _ rfl (HO7.out.alloc _) ⟨w7.heap.size, 0, none⟩ 1 1 [.int .i64 xp] rfl rfl (cell_one_new _ _ _) (by simp [Value.oneCell']) HB1.out HBB.out HB3.out ?_; intro v8 w8 hown8 hgrow8 hnil8 hat8; obtain ⟨a8, c8, rfl⟩ := own_slice hown8; obtain ⟨hc8, hn8⟩ := HNX.out w8 a8 c8 _ hown8 hgrow8; have HN8 := hide hn8; have u2 := cell_of_heap' hc8 2; have f2 := frozen_of_heap' hc8 2; simp at u2; clear hown8 hgrow8 hnil8 hat8 hc8 hn8)
      go_roundw
      case rel => exact ⟨N + 1, a8, c8, by omega, by congr 1; omega, HN8⟩
      case measure => simp [intOf]; omega
    · have hd3 : decide (P ≤ hi) = false := decide_eq_false hlt
      have hNe : (hi - lo).toNat = N := by omega
      have HCE : Hid (conC c lo hi = ⟨lo, f0, (List.range N).map (fun (i : Nat) => c.fr + (climK c (lo + 1 + (i : Int)) : Int))⟩) := by show _ = _; unfold conC; rw [hNe, HF0.out]
      have HRS := hide (result_any ⟨lo, f0, (List.range N).map (fun (i : Nat) => c.fr + (climK c (lo + 1 + (i : Int)) : Int))⟩ a N cp wr (ints_of_own HC.out.row) (by omega))
      rw [← HCE.out] at HRS
      have HRS : Hid (Calls Try.prog 60 #[.agg #[.int .i64 lo, .int .i64 f0, .slice a N cp]] wr fun e w' => e = .returned (resV (conC c lo hi) a N cp) ∧ Below wr.heap.size wr w') := by rw [HCE.out] at HRS ⊢; exact HRS
      have za := fun i => cell_of_heap' HC.out.conj i
      have a0 := za 0
      have a1 := za 1
      have a2 := za 2
      simp at a0 a1 a2
      clear za
      go_wp2_with fail
      refine HRS.out.mono ?_
      rintro e w8 ⟨rfl, hb8⟩
      have hz8 := (hb8.block (p + 1) (by have := HC.out.size; omega)).trans HC.out.res
      have HZ8 := hide hz8
      have HB8 : Hid (Below w.heap.size w w8) := HC.out.below.trans (hb8.mono HC.out.below.size)
      have HT8 : Hid (w8.ownsRow (gc + 1) 3 1 (.slice a N cp) N ((conC c lo hi).sl.map (Value.int .i64))) := by
        show World.ownsRow _ _ _ _ _ _ _
        rw [HCE.out]
        exact own_below HC.out.row hb8
      have r0 := cell_of_heap' hz8 0
      have r1 := cell_of_heap' hz8 1
      have r2 := cell_of_heap' hz8 2
      have y0 := frozen_of_heap' hz8 0
      have y1 := frozen_of_heap' hz8 1
      have y2 := frozen_of_heap' hz8 2
      simp at r0 r1 r2
      clear hz8 hb8 a0 a1 a2
      unfold resV
      by_cases hok : okC (conC c lo hi) = true
      · rw [if_pos hok]
        have HJ2 : Hid (conV c lo hi = (conC c lo hi, 0)) := by show _ = _; rw [HJ.out, res2, if_pos hok]
        clear hok
        generalize conC c lo hi = cc at HT8 HJ2
        go_wp2_with fail
        refine bodyPost_ret (results40 (set3_heap HZ8.out _ _ _) _ _ _ _ _ _ _ _) rfl ?_
        refine ⟨a, N, cp, by rw [HJ2.out] <;> rfl, ?_, set3_below HB8.out (by omega) _ _ _⟩
        rw [HJ2.out]
        exact own_base (own_set3 HT8.out (by omega) _ _ _) (by omega)
      · rw [if_neg hok]
        have HJ2 : Hid (conV c lo hi = (Cu.zero, 4)) := by show _ = _; rw [HJ.out, res2, if_neg hok]
        clear hok
        go_wp2_with fail
        refine bodyPost_ret (results40 (set3_heap HZ8.out _ _ _) _ _ _ _ _ _ _ _) rfl ?_
        refine ⟨none, 0, 0, by rw [HJ2.out] <;> rfl, ?_, set3_below HB8.out (by omega) _ _ _⟩
        rw [HJ2.out]
        exact World.ownsRow_nil _ _ _ _

end Go.Proofs.Ytdepnhnpklbmiaa
/- Contracts of the specification's rows: To, Value, Out. -/
namespace Go.Proofs.Ytdepnhnpklbmiaa
open Go.RowKit Go.Sort

set_option maxHeartbeats 400000 in
theorem To_any (fr : Int) (A : Option Addr) (n cap : Nat) (w : World) (h0 : -2097152 ≤ fr ∧ fr ≤ 2097152) (hn : n ≤ 1000000) :
    Calls Try.prog 65 #[.agg #[.int .i64 fr, .slice A n cap]] w fun e w' => e = .returned (.int .i64 (fr + n - 1)) ∧ Gr w w' := by
  obtain ⟨h1, h2⟩ := h0
  go_enter Try.func65, Try.ntmps65
  go_wp2
  go_ret
  exact ⟨rfl, (Gr.refl _).alloc _⟩

set_option maxHeartbeats 1000000 in
set_option maxRecDepth 100000 in
theorem Value_any (fr x : Int) (A : Option Addr) (n cap k : Nat) (xs : List Int) (w : World) (hx : IntsAt w.heap.size w A n xs) (_h0 : -2097152 ≤ fr ∧ fr ≤ 2097152) (hk : k < n) (hn : n ≤ 1000000) (hxk : x = fr + k) :
    Calls Try.prog 54 #[.agg #[.int .i64 fr, .slice A n cap], .int .i64 x] w fun e w' => e = .returned (.int .i64 (iA xs k)) ∧ Gr w w' := by
  obtain ⟨W1, hW1⟩ : ∃ W1, w.alloc (.cells #[.int .i64 fr, .slice A n cap] 64) = W1 := ⟨_, rfl⟩
  have hG1 : Gr w W1 := by rw [← hW1]; exact (Gr.refl w).alloc _
  obtain ⟨b, off, rfl, hb, c0⟩ := (hx.gr hG1).at_ hk
  have hw1 : IntKind.i64.wrap (x - fr) = (k : Int) := by rw [IntKind.wrap_i64]; omega
  have hk' : (k : Int) < (n : Int) := by omega
  have a0 := heap_alloc_new w (.cells #[.int .i64 fr, .slice (some ⟨b, off, none⟩) n cap] 64)
  rw [hW1] at a0
  have d0 := cell_of_heap' a0 0
  have d1 := cell_of_heap' a0 1
  simp at d0 d1
  have HG := hide hG1
  generalize iA xs k = v at c0 ⊢
  clear hx hG1 hb a0 _h0 hxk
  go_enter Try.func54, Try.ntmps54
  go_wp2
  go_ret
  exact ⟨rfl, HG.out⟩

theorem results52 {W : World} {g : Nat} {a b : Value} {t : TypeId} (h : W.heap[g]? = some (.cells #[a, b] t (0, 0))) (x0 x1 : Value) (rest : List Value) :
    (results Try.f52 (x0 :: x1 :: .pointer (some ⟨g, 0, none⟩) :: rest).toArray).run Try.prog W = .ok (.agg #[a, b]) W := by
  have h0 := cell_of_heap' h 0
  have h1 := cell_of_heap' h 1
  simp at h0 h1
  simp [results, Try.results52, go_sem, h0, h1]

/-- the values of a curve, one behind the other -/
def vals (c : Cu) (k : Nat) : List Int := (List.range k).map (fun i => valK c i)
theorem vals_len (c : Cu) (k : Nat) : (vals c k).length = k := by simp [vals]
theorem vals_at {c : Cu} {k i : Nat} (h : i < k) : iA (vals c k) i = valK c i := by
  rw [iA_get (by rw [vals_len]; exact h)]
  simp [vals]
theorem vals_succ (c : Cu) (k : Nat) : vals c (k + 1) = vals c k ++ [valK c k] := by
  unfold vals
  rw [List.range_succ, List.map_append]
  rfl

/-- what stands when i slopes have been gone through -/
structure OutI (w W : World) (p : Nat) (c : Cu) (A : Option Addr) (n cap : Nat) (g i cp : Nat) : Prop where
  arg : W.heap[p]? = some (.cells #[.int .i64 c.fr, .int .i64 c.fst, .slice A n cap] 24 (0, 0))
  res : W.heap[p + 1]? = some (.cells #[.int .i64 0, .slice none 0 0] 64 (0, 0))
  var : W.heap[p + 1 + 1 + 1]? = some (.cells #[.int .i64 c.fr, .slice (some ⟨g, 0, none⟩) (i + 1) cp] 64 (0, 0))
  row : W.ownsRow (p + 1 + 1) 3 1 (.slice (some ⟨g, 0, none⟩) (i + 1) cp) (i + 1) ((vals c (i + 1)).map (Value.int .i64))
  ne : g ≠ p + 1 + 1 + 1
  below : Below w.heap.size w W
  size : p + 1 + 1 + 1 < W.heap.size

def OutPost (c : Cu) (w : World) (e : Ending) (w' : World) : Prop :=
  ∃ A cap, e = .returned (.agg #[.int .i64 c.fr, .slice A (c.sl.length + 1) cap]) ∧ w'.ownsRow w.heap.size 3 1 (.slice A (c.sl.length + 1) cap) (c.sl.length + 1) ((vals c (c.sl.length + 1)).map (Value.int .i64)) ∧ Below w.heap.size w w'

theorem OutI.next {w W w1 : World} {p : Nat} {c : Cu} {A : Option Addr} {n cap g i cp gg c2 : Nat} {t : Obj} (h : OutI w W p c A n cap g i cp) (hp : w.heap.size = p)
    (hown : w1.ownsRow (p + 1 + 1) 3 1 (.slice (some ⟨gg, 0, none⟩) (i + 1 + 1) c2) (i + 1 + 1) ((vals c (i + 1)).map (Value.int .i64) ++ [.int .i64 (valK c (i + 1))])) (hgrow : (W.alloc t).drew.grownBy w1 (Value.slice (some ⟨g, 0, none⟩) (i + 1) cp).ownBlock)
    (hat : (Value.slice (some ⟨g, 0, none⟩) (i + 1) cp).ownBlock = some gg ∨ gg = W.heap.size + 1) :
    OutI w (w1.setCell ⟨p + 1 + 1 + 1, 1, none⟩ (.slice (some ⟨gg, 0, none⟩) (i + 1 + 1) c2)) p c A n cap gg (i + 1) c2 ∧ w1.heap[p + 1 + 1 + 1]? = some (.cells #[.int .i64 c.fr, .slice (some ⟨g, 0, none⟩) (i + 1) cp] 64 (0, 0)) := by
  have hg : g ≠ p + 1 + 1 + 1 := h.ne
  have hgb : p + 1 + 1 ≤ g := (h.row.lt g rfl).1
  have keep : ∀ k, k < W.heap.size → k ≠ g → w1.heap[k]? = W.heap[k]? := fun k hk hkg => (hgrow.block k (by show k < (W.alloc t).heap.size; rw [World.size_alloc]; omega) (by simp [Value.ownBlock]; omega)).trans (Below.heap_alloc _ _ _ hk)
  have hsz : W.heap.size + 1 ≤ w1.heap.size := by have h1 : (W.alloc t).heap.size ≤ w1.heap.size := hgrow.size; rw [World.size_alloc] at h1; exact h1
  have hv1 := (keep (p + 1 + 1 + 1) h.size (by omega)).trans h.var
  have hs2 : (w1.setCell ⟨p + 1 + 1 + 1, 1, none⟩ (.slice (some ⟨gg, 0, none⟩) (i + 1 + 1) c2)).heap.size = w1.heap.size := by simp [World.setCell]
  have hne : gg ≠ p + 1 + 1 + 1 := by
    have := h.size
    rcases hat with h1 | h1
    · simp only [Value.ownBlock] at h1
      injection h1
      omega
    · omega
  have hsz2 := h.size
  refine ⟨⟨?_, ?_, ?_, ?_, hne, ?_, by rw [hs2]; omega⟩, hv1⟩
  · exact (Below.heap_setCell _ _ _ _ (by show p ≠ p + 1 + 1 + 1; omega)).trans ((keep p (by omega) (by omega)).trans h.arg)
  · exact (Below.heap_setCell _ _ _ _ (by show p + 1 ≠ p + 1 + 1 + 1; omega)).trans ((keep (p + 1) (by omega) (by omega)).trans h.res)
  · have := Joins.block_setCell hv1 (i := 1) (.slice (some ⟨gg, 0, none⟩) (i + 1 + 1) c2)
    simpa using this
  · rw [vals_succ, List.map_append]
    refine ownsRow_setCell_other hown ?_ _
    simp [Value.ownBlock]
    omega
  · have hb1 : Below w.heap.size w w1 := ((h.below.alloc h.below.size t).drew).grown hgrow (by show w.heap.size ≤ (W.alloc t).heap.size; rw [World.size_alloc]; have := h.below.size; omega) (fun k e => by simp only [Value.ownBlock] at e; injection e; omega)
    exact hb1.setCell (p := ⟨p + 1 + 1 + 1, 1, none⟩) (by show w.heap.size ≤ p + 1 + 1 + 1; omega) _

set_option maxHeartbeats 8000000 in
set_option maxRecDepth 100000 in
theorem Out_any (c : Cu) (A : Option Addr) (n cap : Nat) (w : World) (hc : okC c = true) (hx : CuAt w.heap.size w c A n cap) :
    Calls Try.prog 52 #[.agg #[.int .i64 c.fr, .int .i64 c.fst, .slice A n cap]] w (OutPost c w) := by
  have mixed := mixedOrders
  obtain ⟨i0, hi0, hz0, hz1, hz2⟩ := info_parts info3
  have hl := hx.sl.1
  have hn64 : n ≤ 64 := by have := okC_len hc; omega
  obtain ⟨p, hp⟩ : ∃ p, w.heap.size = p := ⟨_, rfl⟩
  have HS0 : Hid (OutI w ((((w.alloc (.cells #[.int .i64 c.fr, .int .i64 c.fst, .slice A n cap] 24)).alloc (.cells #[.int .i64 0, .slice none 0 0] 64)).alloc (.cells #[.int .i64 c.fst] 3)).alloc (.cells #[.int .i64 c.fr, .slice (some ⟨p + 1 + 1, 0, none⟩) 1 1] 64)) p c A n cap (p + 1 + 1) 0 1) := by
    have e0 : (w.alloc (.cells #[.int .i64 c.fr, .int .i64 c.fst, .slice A n cap] 24)).heap.size = p + 1 := by rw [World.size_alloc, hp]
    have e1 : ((w.alloc (.cells #[.int .i64 c.fr, .int .i64 c.fst, .slice A n cap] 24)).alloc (.cells #[.int .i64 0, .slice none 0 0] 64)).heap.size = p + 1 + 1 := by rw [World.size_alloc, e0]
    have e2 : (((w.alloc (.cells #[.int .i64 c.fr, .int .i64 c.fst, .slice A n cap] 24)).alloc (.cells #[.int .i64 0, .slice none 0 0] 64)).alloc (.cells #[.int .i64 c.fst] 3)).heap.size = p + 1 + 1 + 1 := by rw [World.size_alloc, e1]
    have hrow : (((w.alloc (.cells #[.int .i64 c.fr, .int .i64 c.fst, .slice A n cap] 24)).alloc (.cells #[.int .i64 0, .slice none 0 0] 64)).alloc (.cells #[.int .i64 c.fst] 3)).ownsRow (p + 1 + 1) 3 1 (.slice (some ⟨p + 1 + 1, 0, none⟩) 1 1) 1 ((vals c 1).map (Value.int .i64)) := by
      have := heap_alloc_new ((w.alloc (.cells #[.int .i64 c.fr, .int .i64 c.fst, .slice A n cap] 24)).alloc (.cells #[.int .i64 0, .slice none 0 0] 64)) (.cells #[.int .i64 c.fst] 3)
      rw [e1] at this
      refine ⟨by simp [vals], .inr ⟨p + 1 + 1, 1, #[.int .i64 c.fst], rfl, Nat.le_refl _, this, ?_⟩⟩
      constructor <;> simp [vals, valK]
      unfold maxLen
      omega
    refine ⟨?_, ?_, ?_, hrow.alloc _, by omega, ?_, by rw [World.size_alloc, e2]; omega⟩
    · refine (Below.heap_alloc _ _ _ (by rw [e2]; omega)).trans ((Below.heap_alloc _ _ _ (by rw [e1]; omega)).trans ((Below.heap_alloc _ _ _ (by rw [e0]; omega)).trans ?_))
      rw [← hp]
      exact heap_alloc_new w _
    · refine (Below.heap_alloc _ _ _ (by rw [e2]; omega)).trans ((Below.heap_alloc _ _ _ (by rw [e1]; omega)).trans ?_)
      rw [← e0]
      exact heap_alloc_new _ _
    · rw [← e2]
      exact heap_alloc_new _ _
    · exact (((((Gr.refl w).alloc _).alloc _).alloc _).alloc _).below
  have HX := hide hx
  have HC := hide hc
  have HL := hide hl
  obtain ⟨f, hf⟩ : ∃ f, c.fr = f := ⟨_, rfl⟩
  obtain ⟨f1, hf1⟩ : ∃ f, c.fst = f := ⟨_, rfl⟩
  rw [hf, hf1] at HS0
  rw [hf, hf1]
  have HFF := hide hf
  have HF1 := hide hf1
  clear hx hc hl hf hf1
  go_enter Try.func52, Try.ntmps52
  go_wp2_with fail
  try rw [hp]
  go_loopw [4] (fun vi wr => ∃ (i g cp : Nat), i ≤ n ∧ vi = .int .i64 i ∧ Hid (OutI w wr p c A n cap g i cp)) (fun vi _ => n - (intOf vi).toNat)
  case atStart => exact ⟨0, p + 1 + 1, 1, Nat.zero_le _, rfl, HS0⟩
  case round =>
    obtain ⟨i, g, cp, hi, rfl, HI⟩ := hrel
    have ha := HI.out.arg
    have hv := HI.out.var
    have a2 := cell_of_heap' ha 2
    have v0 := cell_of_heap' hv 0
    have v1 := cell_of_heap' hv 1
    have y1 := frozen_of_heap' hv 1
    simp at a2 v0 v1
    by_cases hlt : i < n
    · have hlt' : (i : Int) < (n : Int) := by omega
      obtain ⟨b, off, rfl, hb, c0⟩ := HX.out.sl.at_ hlt
      have d0 := (HI.out.below.cell (p := ⟨b, off + i, none⟩) hb).trans c0
      have hrg := own_cell HI.out.row (t := i) (by omega)
      have r0 := hrg.1
      rw [vals_at (by omega)] at r0
      have hir : (i : Int) < (i : Int) + 1 := by omega
      clear hrg
      have hvr := okC_val HC.out (k := i) (by have := HL.out; omega)
      have hsr := okC_sl HC.out (k := i) (by have := HL.out; omega)
      have HVS : Hid (valK c (i + 1) = valK c i + iA c.sl i) := rfl
      obtain ⟨z, hz⟩ : ∃ z, valK c i = z := ⟨_, rfl⟩
      obtain ⟨s, hs⟩ : ∃ s, iA c.sl i = s := ⟨_, rfl⟩
      rw [hz] at r0 hvr HVS
      rw [hs] at d0 hsr HVS
      obtain ⟨u, hu⟩ : ∃ u, z + s = u := ⟨_, rfl⟩
      have hwu : IntKind.i64.wrap (z + s) = u := by rw [IntKind.wrap_i64]; omega
      have HU : Hid (valK c (i + 1) = u) := by show _ = _; rw [HVS.out, hu]
      have hsz := HI.out.size
      have hgb := (HI.out.row.lt g rfl)
      have hN1 : i + 1 + 1 ≤ maxLen := by unfold maxLen; omega
      have hN2 : (i + 1 + 1) * 8 ≤ 140737488355328 := by omega
      have hbs : b < wr.heap.size := by have := HI.out.below.size; omega
      have hgne : g ≠ p + 1 + 1 + 1 := HI.out.ne
      have L0 : ∀ o, (wr.alloc o).cell? ⟨b, off + i, none⟩ = some (.int .i64 s) := fun o => (World.cell?_alloc_lt _ _ _ hbs).trans d0
      have hbw : b < p := by omega
      have KW : Hid (∀ W1 : World, (∀ k, k < wr.heap.size → k ≠ g → W1.heap[k]? = wr.heap[k]?) → W1.cell? ⟨p, 2, none⟩ = some (.slice (some ⟨b, off, none⟩) n cap) ∧ W1.cell? ⟨b, off + i, none⟩ = some (.int .i64 s) ∧ (∃ v, W1.cell? ⟨p + 1 + 1 + 1, 1, none⟩ = some v) ∧ W1.frozen? ⟨p + 1 + 1 + 1, 1, none⟩ = false) := fun W1 hk =>
        ⟨(World.cell?_of_block (hk p (by omega) (by omega))).trans a2, (World.cell?_of_block (hk b hbs (by omega))).trans d0, ⟨_, (World.cell?_of_block (hk (p + 1 + 1 + 1) hsz (Ne.symm hgne))).trans v1⟩, (World.frozen?_of_block (hk (p + 1 + 1 + 1) hsz (Ne.symm hgne))).trans y1⟩
      have KS : Hid (∀ (W1 : World) (v : Value), (∀ k, k < wr.heap.size → k ≠ g → W1.heap[k]? = wr.heap[k]?) → (W1.setCell ⟨p + 1 + 1 + 1, 1, none⟩ v).cell? ⟨p, 2, none⟩ = some (.slice (some ⟨b, off, none⟩) n cap) ∧ (W1.setCell ⟨p + 1 + 1 + 1, 1, none⟩ v).cell? ⟨b, off + i, none⟩ = some (.int .i64 s) ∧ (∃ u, (W1.setCell ⟨p + 1 + 1 + 1, 1, none⟩ v).cell? ⟨p + 1 + 1 + 1, 1, none⟩ = some u) ∧ (W1.setCell ⟨p + 1 + 1 + 1, 1, none⟩ v).frozen? ⟨p + 1 + 1 + 1, 1, none⟩ = false) := fun W1 v hk => by
        obtain ⟨q1, q2, ⟨u, q3⟩, q4⟩ := KW.out W1 hk
        exact ⟨(World.cell?_setCell_other _ _ _ _ (by intro e; simp only [Addr.mk.injEq] at e; omega)).trans q1, (World.cell?_setCell_other _ _ _ _ (by intro e; simp only [Addr.mk.injEq] at e; omega)).trans q2, ⟨_, World.cell?_setCell_same _ _ _ q3⟩, by rw [World.frozen?_setCell]; exact q4⟩
      have KA := hide (fun o => KW.out (wr.alloc o) (fun k hk _ => Below.heap_alloc wr o k hk))
      have K0 := hide (KW.out wr (fun k _ _ => rfl))
      clear hz hs hu hvr hsr HVS c0
      go_wp2_with fail
      go_region_law (refine step_append_lies _ (by rfl) _ _ _ (by rfl) (p + 1 + 1) 3 i0 _ 1 8 Try.underlying22 hi0 hz0 hz1 hz2 rfl (by omega) (.slice (some ⟨g, 0, none⟩) (i + 1) cp) (i + 1) ((vals c (i + 1)).map (Value.int .i64)) (by rfl) ((HI.out.row.alloc _).drew) ⟨wr.heap.size, 0, none⟩ 1 1 [.int .i64 u] (by rfl) (by rfl) (World.news_of_block (cs := #[.int .i64 u]) (t := 3) (fr := (0, 0)) (heap_alloc_new wr _)) (by simp [Value.oneCell']) (by omega) hN1 hN2 (by simp; omega) (wr.heap.size + 1) (by simp) ?_; intro gg c2 w1 hown1 hgrow hat hlt1; have hk1 : ∀ k, k < wr.heap.size → k ≠ g → w1.heap[k]? = wr.heap[k]? := (fun k hk hkg => (hgrow.block k (by show k < (wr.alloc _).heap.size; rw [World.size_alloc]; omega) (by simp [Value.ownBlock]; omega)).trans (Below.heap_alloc wr _ k hk)); obtain ⟨-, -, ⟨vv, g1⟩, y1'⟩ := KW.out _ hk1)
      all_goals
        obtain ⟨hn8, hv8⟩ := HI.out.next (t := .cells #[.int .i64 u] 3) hp (by rw [HU.out]; exact hown1) hgrow hat
        have HN8 := hide hn8
        clear hn8 hv8 hown1 hgrow hat hk1
        go_wp2
        go_roundw
        case rel => exact ⟨i + 1, gg, c2, by omega, by go_num, HN8⟩
        case measure => simp [intOf]; omega
    · obtain rfl : i = n := by omega
      have hr := HI.out.res
      have x0 := cell_of_heap' hr 0
      have x1 := cell_of_heap' hr 1
      have z0 := frozen_of_heap' hr 0
      have z1 := frozen_of_heap' hr 1
      simp at x0 x1
      have hii : ¬ ((i : Int) < (i : Int)) := by omega
      have HP : Hid (((wr.setCell ⟨p + 1, 0, none⟩ (.int .i64 f)).setCell ⟨p + 1, 1, none⟩ (.slice (some ⟨g, 0, none⟩) (i + 1) cp)).heap[p + 1]? = some (.cells #[.int .i64 f, .slice (some ⟨g, 0, none⟩) (i + 1) cp] 64 (0, 0))) := by
        show _ = _
        have h1 := Joins.block_setCell hr (i := 0) (.int .i64 f)
        have h2 := Joins.block_setCell h1 (i := 1) (.slice (some ⟨g, 0, none⟩) (i + 1) cp)
        simpa using h2
      rw [HFF.out] at v0
      clear hr
      go_wp2_with fail
      refine bodyPost_ret (results52 HP.out _ _ _) rfl ?_
      have hln := HL.out
      refine ⟨some ⟨g, 0, none⟩, cp, by rw [hln, HFF.out], ?_, ?_⟩
      · rw [hln]
        exact RowKit.ownsRow_setCell_below (RowKit.ownsRow_setCell_below (own_base HI.out.row (by omega : w.heap.size ≤ p + 1 + 1) |> fun _ => HI.out.row) (a := ⟨p + 1, 0, none⟩) (by show p + 1 < p + 1 + 1; omega) _) (a := ⟨p + 1, 1, none⟩) (by show p + 1 < p + 1 + 1; omega) _ |> fun h => own_base h (by omega)
      · exact (HI.out.below.setCell (p := ⟨p + 1, 0, none⟩) (by show w.heap.size ≤ p + 1; omega) _).setCell (p := ⟨p + 1, 1, none⟩) (by show w.heap.size ≤ p + 1; omega) _

end Go.Proofs.Ytdepnhnpklbmiaa
/- Contracts of the specification's Greatest, and of the law's greatest. -/
namespace Go.Proofs.Ytdepnhnpklbmiaa
open Go.RowKit Go.Sort

/-- the greatest over the first j numbers -/
def gB (c : Cu) (p : Int) : Nat → Int
  | 0 => p * c.fr - c.fst
  | j + 1 => max (gB c p j) (p * (c.fr + j) - valK c j)
theorem gB_le {c : Cu} {p : Int} : ∀ j, j ≤ c.sl.length + 1 → gB c p j ≤ gre c p
  | 0, _ => by
    have := gre_ge c p (k := 0) (Nat.zero_le _)
    have e : p * (c.fr + ((0 : Nat) : Int)) = p * c.fr := by rw [show c.fr + ((0 : Nat) : Int) = c.fr by omega]
    rw [e] at this
    exact this
  | j + 1, h => by
    have h1 := gB_le (c := c) (p := p) j (by omega)
    have h2 := gre_ge c p (k := j) (by omega)
    show max _ _ ≤ _
    omega
theorem gB_ge {c : Cu} {p : Int} : ∀ j i, i < j → p * (c.fr + i) - valK c i ≤ gB c p j
  | 0, _, h => absurd h (Nat.not_lt_zero _)
  | j + 1, i, h => by
    show _ ≤ max _ _
    rcases Nat.lt_or_ge i j with h1 | h1
    · have := gB_ge (c := c) (p := p) j i h1
      omega
    · obtain rfl : i = j := by omega
      omega
theorem gB_gre {c : Cu} (h : okC c = true) (p : Int) : gB c p (c.sl.length + 1) = gre c p := by
  have h1 := gB_le (c := c) (p := p) (c.sl.length + 1) (Nat.le_refl _)
  have h2 := gB_ge (c := c) (p := p) (c.sl.length + 1) (climK c p) (by have := climK_le c p; omega)
  rw [gre_clim (ok_asc h)] at h2
  omega

set_option maxHeartbeats 4000000 in
set_option maxRecDepth 100000 in
theorem Greatest_any (c : Cu) (A : Option Addr) (m cap : Nat) (p : Int) (w : World) (hc : okC c = true) (hm : m = c.sl.length + 1) (hx : IntsAt w.heap.size w A m (vals c m)) (hp : -1073741824 ≤ p ∧ p ≤ 1073741824) :
    Calls Try.prog 70 #[.agg #[.int .i64 c.fr, .slice A m cap], .int .i64 p] w fun e w' => e = .returned (.int .i64 (gre c p)) ∧ Gr w w' := by
  have mixed := mixedOrders
  obtain ⟨q, hq⟩ : ∃ q, w.heap.size = q := ⟨_, rfl⟩
  have hfr := okC_fr hc
  have hlen := okC_len hc
  obtain ⟨f, hf⟩ : ∃ f, c.fr = f := ⟨_, rfl⟩
  rw [hf]
  obtain ⟨W1, hW1⟩ : ∃ W1, w.alloc (.cells #[.int .i64 f, .slice A m cap] 64) = W1 := ⟨_, rfl⟩
  have hG1 : Gr w W1 := by rw [← hW1]; exact (Gr.refl w).alloc _
  have hb1 : W1.heap[q]? = some (.cells #[.int .i64 f, .slice A m cap] 64 (0, 0)) := by rw [← hW1, ← hq]; exact heap_alloc_new w _
  have HX1 := hide (hx.gr hG1)
  obtain ⟨b, off, rfl, hb, c0⟩ := HX1.out.at_ (k := 0) (by omega)
  rw [vals_at (by omega)] at c0
  have HB1 := hide hb1
  have HG1 := hide hG1
  have E0 : ∀ nq, (W1.drewN nq).cell? ⟨q, 0, none⟩ = some (.int .i64 f) := fun nq => by
    have := cell_of_heap' hb1 0
    simp at this
    exact this
  have E1 : ∀ nq, (W1.drewN nq).cell? ⟨q, 1, none⟩ = some (.slice (some ⟨b, off, none⟩) m cap) := fun nq => by
    have := cell_of_heap' hb1 1
    simp at this
    exact this
  have E2 : ∀ nq, (W1.drewN nq).cell? ⟨b, off + 0, none⟩ = some (.int .i64 c.fst) := fun nq => c0
  simp only [Nat.add_zero] at E2
  have hm0 : (0 : Int) < (m : Int) := by omega
  have hfs := inB_true (okC_true hc).2.1
  obtain ⟨s, hs⟩ : ∃ s, c.fst = s := ⟨_, rfl⟩
  rw [hs] at E2 hfs
  have hmb := mul_bound (a := p) (b := f) (M := 1073741824) (N := 2097152) (by omega) (by omega)
  obtain ⟨pf, hpf⟩ : ∃ z, p * f = z := ⟨_, rfl⟩
  rw [hpf] at hmb
  have hw1 : IntKind.i64.wrap (p * f) = pf := by rw [hpf, IntKind.wrap_i64]; omega
  obtain ⟨b0, hb0⟩ : ∃ z, pf - s = z := ⟨_, rfl⟩
  have hw2 : IntKind.i64.wrap (pf - s) = b0 := by rw [IntKind.wrap_i64]; omega
  have HG0 : Hid (gB c p 0 = b0) := by show p * c.fr - c.fst = b0; rw [hf, hs, hpf, hb0]
  have HGS : Hid (∀ j : Nat, gB c p (j + 1) = max (gB c p j) (p * (f + j) - valK c j)) := fun j => by rw [← hf]; rfl
  have HGE : Hid (gB c p m = gre c p) := by show _ = _; rw [hm]; exact gB_gre hc p
  have HV : Hid (∀ j, j < m → -1125899906842624 ≤ valK c j ∧ valK c j ≤ 1125899906842624) := fun j hj => okC_val hc (by omega)
  have HR := hide (show (-1048576 ≤ f ∧ f ≤ 1048576) ∧ m ≤ 65 ∧ (-1073741824 ≤ p ∧ p ≤ 1073741824) from ⟨by omega, by omega, hp⟩)
  have HT := hide (fun W' => To_any f (some ⟨b, off, none⟩) m cap W' (by omega) (by omega))
  have HVA := hide (fun W' (hg : Gr W1 W') (j : Nat) (hj : j < m) => Value_any f (f + j) (some ⟨b, off, none⟩) m cap j (vals c m) W' (HX1.out.gr hg) (by omega) hj (by omega) rfl)
  clear hx hfr hlen hf hb1 hG1 c0 hfs hs hmb hpf hb0 hp hm hb
  go_enter Try.func70, Try.ntmps70
  go_wp2_with fail
  try rw [hq]
  go_quiet (fail)
  have E3 := E0 nq
  have E4 := E1 nq
  have hG2 : Gr W1 (W1.drewN nq) := (Gr.refl W1).drewN nq
  have HG2 := hide hG2
  generalize W1.drewN nq = W2 at E3 E4 HG2 ⊢
  clear E0 E1 E2 hG2
  go_wp2_with fail
  go_loopw [5, 6] (fun vb vx wr => ∃ (j : Nat) , j ≤ m ∧ vb = .int .i64 (gB c p j) ∧ vx = .int .i64 (f + j) ∧ Hid (Gr W1 wr)) (fun _ vx _ => (f + m - intOf vx).toNat)
  case atStart => exact ⟨0, Nat.zero_le _, by rw [HG0.out], by congr 1; omega, HG2⟩
  case round =>
    obtain ⟨j, hj, rfl, rfl, HGr⟩ := hrel
    obtain ⟨hfr, hm65, hpr⟩ := HR.out
    obtain ⟨x, hx⟩ : ∃ x, f + (j : Int) = x := ⟨_, rfl⟩
    rw [hx]
    obtain ⟨t, ht⟩ : ∃ t, f + (m : Int) - 1 = t := ⟨_, rfl⟩
    rw [ht] at HT
    have hbr := (HGr.out.block (k := q) (Array.getElem?_eq_some_iff.1 HB1.out).1).trans HB1.out
    have d0 := cell_of_heap' hbr 0
    have d1 := cell_of_heap' hbr 1
    simp at d0 d1
    have HBR := hide hbr
    by_cases hlt : j < m
    · have hle : x ≤ t := by omega
      have hd : decide (x ≤ t) = true := decide_eq_true hle
      have hvr := HV.out j hlt
      have HVJ := hide (fun W' (hg : Gr W1 W') => HVA.out W' hg j hlt)
      rw [hx, vals_at hlt] at HVJ
      have hgs := HGS.out j
      rw [hx] at hgs
      obtain ⟨v, hv⟩ : ∃ v, valK c j = v := ⟨_, rfl⟩
      rw [hv] at HVJ hvr hgs
      have hmb := mul_bound (a := p) (b := x) (M := 1073741824) (N := 2097152) (by omega) (by omega)
      obtain ⟨px, hpx⟩ : ∃ z, p * x = z := ⟨_, rfl⟩
      rw [hpx] at hmb hgs
      have hw3 : IntKind.i64.wrap (p * x) = px := by rw [hpx, IntKind.wrap_i64]; omega
      obtain ⟨pm, hpm⟩ : ∃ z, px - v = z := ⟨_, rfl⟩
      have hw4 : IntKind.i64.wrap (px - v) = pm := by rw [IntKind.wrap_i64]; omega
      rw [hpm] at hgs
      obtain ⟨gj, hgj⟩ : ∃ z, gB c p j = z := ⟨_, rfl⟩
      rw [hgj] at hgs ⊢
      obtain ⟨gn, hgn⟩ : ∃ z, max gj pm = z := ⟨_, rfl⟩
      have HGN : Hid (gB c p (j + 1) = gn) := by show _ = _; rw [hgs, hgn]
      have hwx : IntKind.i64.wrap (x + 1) = x + 1 := by rw [IntKind.wrap_i64]; omega
      have e1 : x + 1 = f + ((j + 1 : Nat) : Int) := by omega
      have HE1 := hide e1
      clear hgs hgj hpm hpx hmb hvr hv e1 hx ht hbr hfr hm65 hpr
      go_wp2_with fail
      refine (HT.out _).mono ?_
      rintro e w3 ⟨rfl, hG3⟩
      have HG3 := hide (HGr.out.trans hG3)
      have hb3 := (hG3.block (k := q) (Array.getElem?_eq_some_iff.1 HBR.out).1).trans HBR.out
      have HV3 := hide (HVJ.out w3 HG3.out)
      clear d0 d1 hG3
      have d0 := cell_of_heap' hb3 0
      have d1 := cell_of_heap' hb3 1
      simp at d0 d1
      clear hb3
      go_wp2_with fail
      refine HV3.out.mono ?_
      rintro e w4 ⟨rfl, hG4⟩
      have HG4 := hide (HG3.out.trans hG4)
      clear hG4 d0 d1
      go_wp2_with fail
      obtain ⟨hfr, hm65, hpr⟩ := HR.out
      go_roundw
      case rel => exact ⟨j + 1, by omega, by rw [HGN.out], by rw [← HE1.out], HG4⟩
      case measure => simp [intOf]; have := HE1.out; omega
    · obtain rfl : j = m := by omega
      have hgt : ¬ (x ≤ t) := by omega
      have hd : decide (x ≤ t) = false := decide_eq_false hgt
      obtain ⟨gg, hgg⟩ : ∃ z, gre c p = z := ⟨_, rfl⟩
      rw [HGE.out, hgg]
      have HGG := hide hgg
      clear hgg
      clear hx ht hbr hfr hm65 hpr HGE HGS HG0
      go_wp2_with fail
      refine (HT.out _).mono ?_
      rintro e w3 ⟨rfl, hG3⟩
      have HG3 := hide (HG1.out.trans (HGr.out.trans hG3))
      clear hG3
      go_wp2_with fail
      go_ret
      exact ⟨by first | rfl | exact ret_int HGG.out.symm | (rw [HGG.out] <;> rfl), HG3.out⟩

set_option maxHeartbeats 2000000 in
set_option maxRecDepth 100000 in
theorem greatest_any (c : Cu) (A : Option Addr) (n cap : Nat) (p : Int) (w : World) (hc : okC c = true) (hx : CuAt w.heap.size w c A n cap) (hp : -1073741824 ≤ p ∧ p ≤ 1073741824) :
    Calls Try.prog 47 #[.agg #[.int .i64 c.fr, .int .i64 c.fst, .slice A n cap], .int .i64 p] w fun e w' => e = .returned (.int .i64 (gre c p)) ∧ Below w.heap.size w w' := by
  have mixed := mixedOrders
  obtain ⟨W1, hW1⟩ : ∃ W1, w.alloc (.cells #[.int .i64 c.fr, .int .i64 c.fst, .slice A n cap] 24) = W1 := ⟨_, rfl⟩
  obtain ⟨q, hq⟩ : ∃ q, w.heap.size = q := ⟨_, rfl⟩
  have hG1 : Gr w W1 := by rw [← hW1]; exact (Gr.refl w).alloc _
  have ua : W1.heap[q]? = some (.cells #[.int .i64 c.fr, .int .i64 c.fst, .slice A n cap] 24 (0, 0)) := by rw [← hW1, ← hq]; exact heap_alloc_new w _
  have HO := hide (Out_any c A n cap W1 hc (hx.gr hG1))
  have HG1 := hide hG1
  have a0 := cell_of_heap' ua 0
  have a1 := cell_of_heap' ua 1
  have a2 := cell_of_heap' ua 2
  simp at a0 a1 a2
  have HGG := hide (fun A' cap' W' (h : IntsAt W'.heap.size W' A' (c.sl.length + 1) (vals c (c.sl.length + 1))) => Greatest_any c A' (c.sl.length + 1) cap' p W' hc rfl h hp)
  obtain ⟨m, hm⟩ : ∃ m, c.sl.length + 1 = m := ⟨_, rfl⟩
  unfold OutPost at HO
  rw [hm] at HO HGG
  clear ua hx hG1 hp hm
  go_enter Try.func47, Try.ntmps47
  go_wp2_with fail
  try rw [hq]
  refine HO.out.mono ?_
  rintro e w2 ⟨A2, cap2, rfl, ho2, hb2⟩
  have HB2 := hide (HG1.out.below.trans (hb2.mono HG1.out.size))
  have HG3 := hide (HGG.out A2 cap2 w2 (ints_of_own ho2))
  clear ho2 hb2 HO a0 a1 a2
  go_wp2_with fail
  refine HG3.out.mono ?_
  rintro e w3 ⟨rfl, hG3⟩
  have HB3 := hide (HB2.out.trans (hG3.below.mono HB2.out.size))
  clear hG3
  go_wp2_with fail
  go_ret
  exact ⟨rfl, HB3.out⟩

end Go.Proofs.Ytdepnhnpklbmiaa
