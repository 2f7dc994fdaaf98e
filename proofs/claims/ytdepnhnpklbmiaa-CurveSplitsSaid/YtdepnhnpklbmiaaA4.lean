/- The mathematics of curves: sums of beginnings of sorted rows, joins, the division of Split and its price. -/
import Derived.Test.YtdepnhnpklbmiaaA3
namespace Go.Proofs.Ytdepnhnpklbmiaa
open Go.RowKit Go.Sort

/-! ### sorted rows, sums of beginnings -/
theorem asc_le {xs : List Int} (h : ascTo xs xs.length) : ∀ (d i : Nat), i + d < xs.length → iA xs i ≤ iA xs (i + d)
  | 0, i, _ => Int.le_refl _
  | d + 1, i, hi => Int.le_trans (asc_le h d i (by omega)) (h (i + d) (by omega))
theorem asc_mono {xs : List Int} (h : ascTo xs xs.length) {i j : Nat} (hij : i ≤ j) (hj : j < xs.length) : iA xs i ≤ iA xs j := by
  have := asc_le h (j - i) i (by omega)
  rwa [Nat.add_sub_cancel' hij] at this
theorem asc_pairwise {xs : List Int} (h : ascTo xs xs.length) : xs.Pairwise (fun x y => x ≤ y) := by
  rw [List.pairwise_iff_getElem]
  intro i j hi hj hij
  have := asc_mono h (Nat.le_of_lt hij) hj
  rwa [iA_get hi, iA_get hj] at this
theorem pairwise_asc {xs : List Int} (h : xs.Pairwise (fun x y => x ≤ y)) : ascTo xs xs.length := by
  intro i hi
  rw [List.pairwise_iff_getElem] at h
  have := h i (i + 1) (by omega) hi (by omega)
  rwa [iA_get (by omega), iA_get hi]
theorem sortI_perm (zs : List Int) : (sortI zs).Perm zs := List.mergeSort_perm _ _
theorem sortI_sorted (zs : List Int) : (sortI zs).Pairwise (fun x y => x ≤ y) := by
  have := List.pairwise_mergeSort (le := fun x y : Int => decide (x ≤ y)) (fun a b c h1 h2 => by simp at *; omega) (fun a b => by simp; omega) zs
  exact this.imp (fun h => by simpa using h)
theorem sortI_asc (zs : List Int) : ascTo (sortI zs) (sortI zs).length := pairwise_asc (sortI_sorted zs)
theorem sortI_unique {zs ys : List Int} (hp : ys.Perm zs) (hs : ys.Pairwise (fun x y => x ≤ y)) : sortI zs = ys :=
  List.Perm.eq_of_pairwise (le := fun x y => x ≤ y) (fun a b _ _ h1 h2 => by omega) (sortI_sorted zs) hs ((sortI_perm zs).trans hp.symm)
theorem sortI_congr {zs ys : List Int} (hp : ys.Perm zs) : sortI zs = sortI ys := sortI_unique ((sortI_perm ys).trans hp) (sortI_sorted ys)
theorem sortI_comm (xs ys : List Int) : sortI (xs ++ ys) = sortI (ys ++ xs) := sortI_congr List.perm_append_comm
theorem sortI_left (xs ys : List Int) : sortI (sortI xs ++ ys) = sortI (xs ++ ys) := sortI_congr ((sortI_perm xs).symm.append_right ys)
theorem sortI_right (xs ys : List Int) : sortI (xs ++ sortI ys) = sortI (xs ++ ys) := sortI_congr ((sortI_perm ys).symm.append_left xs)

/-- the sum of the first k -/
def pS (xs : List Int) : Nat → Int
  | 0 => 0
  | k + 1 => pS xs k + iA xs k
theorem valK_pS (c : Cu) : ∀ k, valK c k = c.fst + pS c.sl k
  | 0 => by simp [valK, pS]
  | k + 1 => by unfold valK pS; rw [valK_pS c k]; omega
theorem pS_cons (x : Int) (xs : List Int) : ∀ k, pS (x :: xs) (k + 1) = x + pS xs k
  | 0 => by simp [pS, iA]
  | k + 1 => by
    rw [show pS (x :: xs) (k + 1 + 1) = pS (x :: xs) (k + 1) + iA (x :: xs) (k + 1) from rfl, pS_cons x xs k, show pS xs (k + 1) = pS xs k + iA xs k from rfl, show iA (x :: xs) (k + 1) = iA xs k by simp [iA]]
    omega

/-- what the rows' numbers below p are below p -/
def cut (p : Int) : List Int → Int
  | [] => 0
  | x :: xs => (if x < p then x - p else 0) + cut p xs
theorem cut_append (p : Int) : ∀ xs ys, cut p (xs ++ ys) = cut p xs + cut p ys
  | [], ys => by simp [cut]
  | x :: xs, ys => by
    show (if x < p then x - p else 0) + cut p (xs ++ ys) = (if x < p then x - p else 0) + cut p xs + cut p ys
    rw [cut_append p xs ys]
    omega
theorem cut_perm (p : Int) {xs ys : List Int} (h : xs.Perm ys) : cut p xs = cut p ys := by
  induction h with
  | nil => rfl
  | cons x _ ih => show _ + cut p _ = _ + cut p _; rw [ih]
  | swap x y l =>
    show (if y < p then y - p else 0) + ((if x < p then x - p else 0) + cut p l) = (if x < p then x - p else 0) + ((if y < p then y - p else 0) + cut p l)
    omega
  | trans _ _ h1 h2 => exact h1.trans h2
/-- for every k, the first k cost no less than the cut -/
theorem cut_le (p : Int) : ∀ (xs : List Int) (k : Nat), k ≤ xs.length → cut p xs ≤ pS xs k - p * k
  | [], k, hk => by
    obtain rfl : k = 0 := by simpa using hk
    simp [cut, pS]
  | x :: xs, 0, _ => by
    have h := cut_le p xs 0 (Nat.zero_le _)
    simp [pS] at h ⊢
    show (if x < p then x - p else 0) + cut p xs ≤ 0
    split <;> omega
  | x :: xs, k + 1, hk => by
    have h := cut_le p xs k (by simpa using hk)
    rw [pS_cons]
    have e : p * ((k + 1 : Nat) : Int) = p * k + p := by rw [Int.natCast_add, Int.mul_add]; simp
    rw [e]
    show (if x < p then x - p else 0) + cut p xs ≤ _
    split <;> omega
theorem cut_eq (p : Int) : ∀ (xs : List Int) (k : Nat), k ≤ xs.length → (∀ j, j < k → iA xs j ≤ p) → (∀ j, k ≤ j → j < xs.length → p ≤ iA xs j) → pS xs k - p * k = cut p xs
  | [], k, hk, _, _ => by
    obtain rfl : k = 0 := by simpa using hk
    simp [cut, pS]
  | x :: xs, 0, _, _, h2 => by
    have h := cut_eq p xs 0 (Nat.zero_le _) (fun j hj => absurd hj (Nat.not_lt_zero _)) (fun j _ hj => by
      have := h2 (j + 1) (Nat.zero_le _) (by simpa using hj)
      simpa [iA] using this)
    have hx : p ≤ x := by simpa [iA] using h2 0 (Nat.le_refl _) (by simp)
    simp [pS] at h ⊢
    show 0 = (if x < p then x - p else 0) + cut p xs
    rw [if_neg (by omega)]
    omega
  | x :: xs, k + 1, hk, h1, h2 => by
    have h := cut_eq p xs k (by simpa using hk) (fun j hj => by
      have := h1 (j + 1) (by omega)
      simpa [iA] using this) (fun j hj hj2 => by
      have := h2 (j + 1) (by omega) (by simpa using hj2)
      simpa [iA] using this)
    have hx : x ≤ p := by simpa [iA] using h1 0 (by omega)
    rw [pS_cons]
    have e : p * ((k + 1 : Nat) : Int) = p * k + p := by rw [Int.natCast_add, Int.mul_add]; simp
    rw [e]
    show _ = (if x < p then x - p else 0) + cut p xs
    split <;> omega
/-- strictly: with the least k -/
theorem cut_lt (p : Int) : ∀ (xs : List Int) (k : Nat), k ≤ xs.length → (∃ j, (j < k ∧ p < iA xs j) ∨ (k ≤ j ∧ j < xs.length ∧ iA xs j < p)) → cut p xs < pS xs k - p * k
  | [], k, hk, h => by
    obtain rfl : k = 0 := by simpa using hk
    obtain ⟨j, h | h⟩ := h
    · omega
    · simp at h
  | x :: xs, 0, _, h => by
    have h0 := cut_le p xs 0 (Nat.zero_le _)
    obtain ⟨j, h | ⟨_, hj, hx⟩⟩ := h
    · omega
    cases j with
    | zero =>
      simp [pS, iA] at h0 hx ⊢
      show (if x < p then x - p else 0) + cut p xs < 0
      rw [if_pos hx]
      omega
    | succ j =>
      have h1 := cut_lt p xs 0 (Nat.zero_le _) ⟨j, .inr ⟨Nat.zero_le _, by simpa using hj, by simpa [iA] using hx⟩⟩
      simp [pS] at h1 ⊢
      show (if x < p then x - p else 0) + cut p xs < 0
      split <;> omega
  | x :: xs, k + 1, hk, h => by
    have h0 := cut_le p xs k (by simpa using hk)
    rw [pS_cons]
    have e : p * ((k + 1 : Nat) : Int) = p * k + p := by rw [Int.natCast_add, Int.mul_add]; simp
    rw [e]
    show (if x < p then x - p else 0) + cut p xs < _
    obtain ⟨j, h⟩ := h
    cases j with
    | zero =>
      rcases h with ⟨_, h⟩ | h
      · have h : p < x := by simpa [iA] using h
        rw [if_neg (by omega)]
        omega
      · omega
    | succ j =>
      have h1 := cut_lt p xs k (by simpa using hk) ⟨j, by
        rcases h with ⟨ha, h⟩ | ⟨ha, hb, h⟩
        · exact .inl ⟨by omega, by simpa [iA] using h⟩
        · exact .inr ⟨by omega, by simpa using hb, by simpa [iA] using h⟩⟩
      split <;> omega

/-- how many are below p -/
def cnt (p : Int) : List Int → Nat
  | [] => 0
  | x :: xs => (if x < p then 1 else 0) + cnt p xs
theorem cnt_append (p : Int) : ∀ xs ys, cnt p (xs ++ ys) = cnt p xs + cnt p ys
  | [], ys => by simp [cnt]
  | x :: xs, ys => by
    show (if x < p then 1 else 0) + cnt p (xs ++ ys) = (if x < p then 1 else 0) + cnt p xs + cnt p ys
    rw [cnt_append p xs ys]
    omega
theorem cnt_perm (p : Int) {xs ys : List Int} (h : xs.Perm ys) : cnt p xs = cnt p ys := by
  induction h with
  | nil => rfl
  | cons x _ ih => show _ + cnt p _ = _ + cnt p _; rw [ih]
  | swap x y l =>
    show (if y < p then 1 else 0) + ((if x < p then 1 else 0) + cnt p l) = (if x < p then 1 else 0) + ((if y < p then 1 else 0) + cnt p l)
    omega
  | trans _ _ h1 h2 => exact h1.trans h2
/-- a row of which the first k are below p, and no other: the count is k -/
theorem cnt_eq (p : Int) : ∀ (xs : List Int) (k : Nat), k ≤ xs.length → (∀ j, j < k → iA xs j < p) → (∀ j, k ≤ j → j < xs.length → p ≤ iA xs j) → cnt p xs = k
  | [], k, hk, _, _ => by
    obtain rfl : k = 0 := by simpa using hk
    rfl
  | x :: xs, 0, _, _, h2 => by
    have h := cnt_eq p xs 0 (Nat.zero_le _) (fun j hj => absurd hj (Nat.not_lt_zero _)) (fun j _ hj => by
      have := h2 (j + 1) (Nat.zero_le _) (by simpa using hj)
      simpa [iA] using this)
    have hx : p ≤ x := by simpa [iA] using h2 0 (Nat.le_refl _) (by simp)
    show (if x < p then 1 else 0) + cnt p xs = 0
    rw [if_neg (by omega), h]
  | x :: xs, k + 1, hk, h1, h2 => by
    have h := cnt_eq p xs k (by simpa using hk) (fun j hj => by
      have := h1 (j + 1) (by omega)
      simpa [iA] using this) (fun j hj hj2 => by
      have := h2 (j + 1) (by omega) (by simpa using hj2)
      simpa [iA] using this)
    have hx : x < p := by simpa [iA] using h1 0 (by omega)
    show (if x < p then 1 else 0) + cnt p xs = k + 1
    rw [if_pos hx, h]
    omega
/-- at least k of the row are below p -/
theorem cnt_ge (p : Int) : ∀ (xs : List Int) (k : Nat), k ≤ xs.length → (∀ j, j < k → iA xs j < p) → k ≤ cnt p xs
  | _, 0, _, _ => Nat.zero_le _
  | [], k + 1, hk, _ => by simp at hk
  | x :: xs, k + 1, hk, h1 => by
    have h := cnt_ge p xs k (by simpa using hk) (fun j hj => by
      have := h1 (j + 1) (by omega)
      simpa [iA] using this)
    have hx : x < p := by simpa [iA] using h1 0 (by omega)
    show k + 1 ≤ (if x < p then 1 else 0) + cnt p xs
    rw [if_pos hx]
    omega
theorem cnt_le (p : Int) : ∀ (xs : List Int) (k : Nat), (∀ j, k ≤ j → j < xs.length → p ≤ iA xs j) → cnt p xs ≤ k
  | [], k, _ => Nat.zero_le _
  | x :: xs, 0, h2 => by
    have h := cnt_le p xs 0 (fun j _ hj => by
      have := h2 (j + 1) (Nat.zero_le _) (by simpa using hj)
      simpa [iA] using this)
    have hx : p ≤ x := by simpa [iA] using h2 0 (Nat.le_refl _) (by simp)
    show (if x < p then 1 else 0) + cnt p xs ≤ 0
    rw [if_neg (by omega)]
    omega
  | x :: xs, k + 1, h2 => by
    have h := cnt_le p xs k (fun j hj hj2 => by
      have := h2 (j + 1) (by omega) (by simpa using hj2)
      simpa [iA] using this)
    show (if x < p then 1 else 0) + cnt p xs ≤ k + 1
    split <;> omega

theorem climK_lt {c : Cu} {p : Int} {j : Nat} (h : j < climK c p) : iA c.sl j < p := by
  have hl : j < c.sl.length := Nat.lt_of_lt_of_le h (climK_le c p)
  have h6 := List.not_of_lt_findIdx h
  rw [iA_get hl]
  have h7 := of_decide_eq_false (by simpa using h6 : decide (p ≤ c.sl[j]) = false)
  omega
theorem climK_ge {c : Cu} {p : Int} (ha : ascTo c.sl c.sl.length) {j : Nat} (h : climK c p ≤ j) (hj : j < c.sl.length) : p ≤ iA c.sl j := by
  have hlt : climK c p < c.sl.length := by omega
  have h6 := List.findIdx_getElem (w := hlt)
  have h8 : p ≤ c.sl[climK c p] := of_decide_eq_true h6
  have := asc_mono ha h hj
  rw [iA_get hlt] at this
  omega
theorem climK_cnt {c : Cu} {p : Int} (ha : ascTo c.sl c.sl.length) : climK c p = cnt p c.sl :=
  (cnt_eq p c.sl _ (climK_le c p) (fun _ h => climK_lt h) (fun _ h hj => climK_ge ha h hj)).symm
theorem climK_cut {c : Cu} {p : Int} (ha : ascTo c.sl c.sl.length) : pS c.sl (climK c p) - p * (climK c p : Int) = cut p c.sl :=
  cut_eq p c.sl _ (climK_le c p) (fun _ h => Int.le_of_lt (climK_lt h)) (fun _ h hj => climK_ge ha h hj)
/-! ### joins -/
theorem cnt_below {xs : List Int} {p : Int} (ha : ascTo xs xs.length) {j : Nat} (h : j < cnt p xs) : iA xs j < p := by
  have := climK_cnt (c := ⟨0, 0, xs⟩) (p := p) ha
  exact climK_lt (c := ⟨0, 0, xs⟩) (by rw [this]; exact h)
theorem cnt_above {xs : List Int} {p : Int} (ha : ascTo xs xs.length) {j : Nat} (h : cnt p xs ≤ j) (hj : j < xs.length) : p ≤ iA xs j := by
  have := climK_cnt (c := ⟨0, 0, xs⟩) (p := p) ha
  exact climK_ge (c := ⟨0, 0, xs⟩) ha (by rw [this]; exact h) hj
theorem cnt_len (p : Int) (xs : List Int) : cnt p xs ≤ xs.length := cnt_le p xs _ fun _ h1 h2 => by omega
theorem cnt_between {xs : List Int} {p : Int} (ha : ascTo xs xs.length) {k : Nat} (h0 : cnt p xs ≤ k) (h1 : k ≤ cnt (p + 1) xs) : pS xs k - p * (k : Int) = cut p xs := by
  have hl := cnt_len (p + 1) xs
  refine cut_eq p xs k (by omega) (fun j hj => ?_) fun j hj hl => cnt_above ha (by omega) hl
  have := cnt_below ha (p := p + 1) (j := j) (by omega)
  omega
/-- the price at the m-th step of a sorted row -/
theorem price_at {s : List Int} (hs : ascTo s s.length) {m : Nat} (h0 : 0 < m) (hm : m ≤ s.length) : pS s m - iA s (m - 1) * (m : Int) = cut (iA s (m - 1)) s :=
  cut_eq _ s m hm (fun j hj => asc_mono hs (by omega) (by omega)) (fun j hj hl => asc_mono hs (by omega) hl)
theorem joins_le {xs ys : List Int} {i j : Nat} (hi : i ≤ xs.length) (hj : j ≤ ys.length) : pS (sortI (xs ++ ys)) (i + j) ≤ pS xs i + pS ys j := by
  rcases Nat.eq_zero_or_pos (i + j) with h | h
  · obtain rfl : i = 0 := by omega
    obtain rfl : j = 0 := by omega
    simp [pS]
  · have hl : (sortI (xs ++ ys)).length = xs.length + ys.length := by rw [sortI_length, List.length_append]
    have h1 := price_at (sortI_asc (xs ++ ys)) h (by omega)
    generalize iA (sortI (xs ++ ys)) (i + j - 1) = p at h1
    rw [cut_perm p (sortI_perm (xs ++ ys)), cut_append] at h1
    have h2 := cut_le p xs i hi
    have h3 := cut_le p ys j hj
    have e : p * ((i + j : Nat) : Int) = p * i + p * j := by rw [Int.natCast_add, Int.mul_add]
    rw [e] at h1
    omega
theorem joins_eq {xs ys : List Int} (hx : ascTo xs xs.length) (hy : ascTo ys ys.length) {m : Nat} (hm : m ≤ xs.length + ys.length) : ∃ i j, i ≤ xs.length ∧ j ≤ ys.length ∧ i + j = m ∧ pS (sortI (xs ++ ys)) m = pS xs i + pS ys j := by
  rcases Nat.eq_zero_or_pos m with h | h
  · subst h
    exact ⟨0, 0, Nat.zero_le _, Nat.zero_le _, rfl, by simp [pS]⟩
  · have hs := sortI_asc (xs ++ ys)
    have hl : (sortI (xs ++ ys)).length = xs.length + ys.length := by rw [sortI_length, List.length_append]
    have h1 := price_at hs h (by omega)
    have hlo : cnt (iA (sortI (xs ++ ys)) (m - 1)) (sortI (xs ++ ys)) ≤ m - 1 := cnt_le _ _ _ fun j h1 h2 => asc_mono hs h1 h2
    have hhi : m ≤ cnt (iA (sortI (xs ++ ys)) (m - 1) + 1) (sortI (xs ++ ys)) := cnt_ge _ _ _ (by omega) fun j hj => by
      have := asc_mono hs (i := j) (j := m - 1) (by omega) (by omega)
      omega
    generalize iA (sortI (xs ++ ys)) (m - 1) = p at h1 hlo hhi
    rw [cut_perm p (sortI_perm (xs ++ ys)), cut_append] at h1
    rw [cnt_perm _ (sortI_perm (xs ++ ys)), cnt_append] at hlo hhi
    have l1 := cnt_len (p + 1) xs
    have l2 := cnt_len (p + 1) ys
    have mono : ∀ zs : List Int, ascTo zs zs.length → cnt p zs ≤ cnt (p + 1) zs := fun zs hz => cnt_ge (p + 1) zs _ (cnt_len p zs) fun j hj => by
      have := cnt_below hz hj
      omega
    have m1 := mono xs hx
    have m2 := mono ys hy
    obtain ⟨i, j, a1, a2, a3, a4, a5⟩ : ∃ i j : Nat, cnt p xs ≤ i ∧ i ≤ cnt (p + 1) xs ∧ cnt p ys ≤ j ∧ j ≤ cnt (p + 1) ys ∧ i + j = m := by
      by_cases hq : m ≤ cnt (p + 1) xs + cnt p ys
      · exact ⟨m - cnt p ys, cnt p ys, by omega, by omega, Nat.le_refl _, m2, by omega⟩
      · exact ⟨cnt (p + 1) xs, m - cnt (p + 1) xs, m1, Nat.le_refl _, by omega, by omega, by omega⟩
    have e1 := cnt_between hx a1 a2
    have e2 := cnt_between hy a3 a4
    refine ⟨i, j, by omega, by omega, a5, ?_⟩
    subst a5
    have e : p * ((i + j : Nat) : Int) = p * i + p * j := by rw [Int.natCast_add, Int.mul_add]
    rw [e] at h1
    omega

/-! ### the division of Split -/
theorem sumTo_congr {f g : Nat → Int} : ∀ n, (∀ j, j < n → f j = g j) → sumTo f n = sumTo g n
  | 0, _ => rfl
  | n + 1, h => by unfold sumTo; rw [sumTo_congr n fun j hj => h j (by omega), h n (by omega)]
theorem sumTo_add (f g : Nat → Int) : ∀ n, sumTo (fun j => f j + g j) n = sumTo f n + sumTo g n
  | 0 => rfl
  | n + 1 => by unfold sumTo; rw [sumTo_add f g n]; omega
theorem sumTo_mul (p : Int) (f : Nat → Int) : ∀ n, sumTo (fun j => p * f j) n = p * sumTo f n
  | 0 => by simp [sumTo]
  | n + 1 => by unfold sumTo; rw [sumTo_mul p f n, Int.mul_add]
theorem sumTo_le {f g : Nat → Int} : ∀ n, (∀ j, j < n → f j ≤ g j) → sumTo f n ≤ sumTo g n
  | 0, _ => Int.le_refl _
  | n + 1, h => by
    have h1 := sumTo_le n fun j hj => h j (by omega)
    have h2 := h n (by omega)
    unfold sumTo
    omega
theorem sumTo_back (f : Nat → Int) (n : Nat) : ∀ m, m ≤ n → sumTo (fun t => f (n - 1 - t)) m = sumTo f n - sumTo f (n - m)
  | 0, _ => by simp [sumTo]
  | m + 1, h => by
    have ih := sumTo_back f n m (by omega)
    show sumTo (fun t => f (n - 1 - t)) m + f (n - 1 - m) = _
    rw [ih]
    have e : n - m = n - (m + 1) + 1 := by omega
    rw [e, show sumTo f (n - (m + 1) + 1) = sumTo f (n - (m + 1)) + f (n - (m + 1)) from rfl, show n - 1 - m = n - (m + 1) by omega]
    omega
theorem sumTo_cut (p : Int) (cs : Nat → Cu) : ∀ n, sumTo (fun j => cut p (cs j).sl) n = cut p (catL cs n)
  | 0 => rfl
  | n + 1 => by unfold sumTo catL; rw [cut_append, sumTo_cut p cs n]
theorem sumTo_cnt (p : Int) (cs : Nat → Cu) : ∀ n, sumTo (fun j => (cnt p (cs j).sl : Int)) n = cnt p (catL cs n)
  | 0 => rfl
  | n + 1 => by unfold sumTo catL; rw [cnt_append, sumTo_cnt p cs n]; omega

structure Given (c : Cu) (p : Int) (k : Nat) (l : Int) (r : Nat × Int) : Prop where
  ge : k ≤ r.1
  le : r.1 ≤ c.sl.length
  left : r.2 = l - (r.1 - k : Int)
  pos : 0 ≤ r.2
  eq : ∀ j, k ≤ j → j < r.1 → iA c.sl j = p
  stop : r.2 = 0 ∨ r.1 = c.sl.length ∨ iA c.sl r.1 ≠ p
theorem giveF_given {c : Cu} {p : Int} : ∀ (f k : Nat) (l : Int), k + f = c.sl.length → 0 ≤ l → Given c p k l (giveF c p f k l)
  | 0, k, l, hk, hl => ⟨Nat.le_refl _, by show k ≤ _; omega, by show l = l - _; show l = l - ((k : Int) - k); omega, hl, fun j h1 h2 => by simp only [giveF] at h2; omega, .inr (.inl (by show k = _; omega))⟩
  | f + 1, k, l, hk, hl => by
    unfold giveF
    split
    · rename_i h
      have ih := giveF_given (c := c) (p := p) f (k + 1) (l - 1) (by omega) (by omega)
      refine ⟨by have := ih.ge; omega, ih.le, by have := ih.left; omega, ih.pos, fun j h1 h2 => ?_, ih.stop⟩
      rcases Nat.lt_or_ge k j with h3 | h3
      · exact ih.eq j h3 h2
      · obtain rfl : j = k := by omega
        exact h.2.2
    · rename_i h
      refine ⟨Nat.le_refl _, by show k ≤ _; omega, by show l = l - ((k : Int) - k); omega, hl, fun j h1 h2 => absurd h2 (by show ¬ j < k; omega), ?_⟩
      rcases Int.lt_or_le 0 l with h1 | h1
      · exact .inr (.inr fun h2 => h ⟨h1, by omega, h2⟩)
      · exact .inl (by show l = 0; omega)
theorem give_given (c : Cu) (p : Int) (l : Int) (hl : 0 ≤ l) : Given c p (climK c p) l (give c p (climK c p) l) :=
  giveF_given _ _ _ (by have := climK_le c p; omega) hl
theorem leftD_pos (cs : Nat → Cu) (p : Int) (n : Nat) (l0 : Int) (h0 : 0 ≤ l0) : ∀ m, 0 ≤ leftD cs p n l0 m
  | 0 => h0
  | m + 1 => (give_given (cs (n - 1 - m)) p _ (leftD_pos cs p n l0 h0 m)).pos
theorem leftD_sum (cs : Nat → Cu) (p : Int) (n : Nat) (l0 : Int) (h0 : 0 ≤ l0) : ∀ m, m ≤ n → leftD cs p n l0 m = l0 - sumTo (fun t => (kD cs p n l0 (n - 1 - t) : Int) - climK (cs (n - 1 - t)) p) m
  | 0, _ => by simp [leftD, sumTo]
  | m + 1, h => by
    have ih := leftD_sum cs p n l0 h0 m (by omega)
    have hg := (give_given (cs (n - 1 - m)) p _ (leftD_pos cs p n l0 h0 m)).left
    have e : n - 1 - (n - 1 - m) = m := by omega
    show (give (cs (n - 1 - m)) p (climK (cs (n - 1 - m)) p) (leftD cs p n l0 m)).2 = l0 - (sumTo (fun t => (kD cs p n l0 (n - 1 - t) : Int) - climK (cs (n - 1 - t)) p) m + ((kD cs p n l0 (n - 1 - m) : Int) - climK (cs (n - 1 - m)) p))
    rw [hg]
    have e2 : kD cs p n l0 (n - 1 - m) = (give (cs (n - 1 - m)) p (climK (cs (n - 1 - m)) p) (leftD cs p n l0 m)).1 := by unfold kD; rw [e]
    rw [e2, ih]
    omega
theorem leftD_end (cs : Nat → Cu) (p : Int) (n : Nat) (l0 : Int) (h0 : 0 ≤ l0) : leftD cs p n l0 n = l0 - (sumTo (fun j => (kD cs p n l0 j : Int)) n - sumTo (fun j => (climK (cs j) p : Int)) n) := by
  rw [leftD_sum cs p n l0 h0 n (Nat.le_refl _), sumTo_back (fun j => (kD cs p n l0 j : Int) - climK (cs j) p) n n (Nat.le_refl _), Nat.sub_self]
  have : sumTo (fun j => (kD cs p n l0 j : Int) - climK (cs j) p) n = sumTo (fun j => (kD cs p n l0 j : Int)) n - sumTo (fun j => (climK (cs j) p : Int)) n := by
    have h := sumTo_add (fun j => (kD cs p n l0 j : Int) - climK (cs j) p) (fun j => (climK (cs j) p : Int)) n
    have h2 : sumTo (fun j => ((kD cs p n l0 j : Int) - climK (cs j) p) + (climK (cs j) p : Int)) n = sumTo (fun j => (kD cs p n l0 j : Int)) n := sumTo_congr n fun j _ => by omega
    omega
  rw [this]
  simp [sumTo]
theorem leftD_mono (cs : Nat → Cu) (p : Int) (n : Nat) (l0 : Int) (h0 : 0 ≤ l0) (m : Nat) : ∀ d, leftD cs p n l0 (m + d) ≤ leftD cs p n l0 m
  | 0 => Int.le_refl _
  | d + 1 => by
    have hg := give_given (cs (n - 1 - (m + d))) p _ (leftD_pos cs p n l0 h0 (m + d))
    have h1 := hg.left
    have h2 := hg.ge
    have ih := leftD_mono cs p n l0 h0 m d
    show (give (cs (n - 1 - (m + d))) p (climK (cs (n - 1 - (m + d))) p) (leftD cs p n l0 (m + d))).2 ≤ _
    omega
theorem kD_given (cs : Nat → Cu) (p : Int) (n : Nat) (l0 : Int) (h0 : 0 ≤ l0) (j : Nat) : Given (cs j) p (climK (cs j) p) (leftD cs p n l0 (n - 1 - j)) (kD cs p n l0 j, (give (cs j) p (climK (cs j) p) (leftD cs p n l0 (n - 1 - j))).2) :=
  give_given (cs j) p _ (leftD_pos cs p n l0 h0 _)

/-- all that is said of a division with its price -/
structure Divided (cs : Nat → Cu) (n m : Nat) (p : Int) (K : Nat → Nat) : Prop where
  le : ∀ j, j < n → K j ≤ (cs j).sl.length
  sum : sumTo (fun j => (K j : Int)) n = m
  opt : ∀ j, j < n → pS (cs j).sl (K j) - p * (K j : Int) = cut p (cs j).sl
  low : ∀ j, j < n → ∀ i, i < K j → iA (cs j).sl i ≤ p
  high : ∀ j, j < n → ∀ i, K j ≤ i → i < (cs j).sl.length → p ≤ iA (cs j).sl i

theorem divided (cs : Nat → Cu) (n : Nat) (total : Int) (hok : ∀ j, j < n → okC (cs j) = true) (h0 : splitLo cs n ≤ total) (h1 : total ≤ sumTo (fun i => (cs i).fr + ((cs i).sl.length : Int)) n) :
    Divided cs n (total - splitLo cs n).toNat (priceV cs n total) (kV cs n total) := by
  have hasc : ∀ j, j < n → ascTo (cs j).sl (cs j).sl.length := fun j hj => (okC_true (hok j hj)).2.2.2.1
  obtain ⟨m, hm⟩ : ∃ m, (total - splitLo cs n).toNat = m := ⟨_, rfl⟩
  have hmt : total = splitLo cs n + m := by omega
  have hcat := catL_length cs n
  have hlen : m ≤ (catL cs n).length := by unfold splitLo at h0 hmt; omega
  have hs := sortI_asc (catL cs n)
  have hsl := sortI_length (catL cs n)
  -- the price lies where it should
  have hp : (m = 0 ∧ priceV cs n total = -1048576) ∨ (0 < m ∧ priceV cs n total = iA (sortI (catL cs n)) (m - 1)) := by
    unfold priceV
    rcases Nat.eq_zero_or_pos m with h | h
    · exact .inl ⟨h, if_neg (by omega)⟩
    · refine .inr ⟨h, ?_⟩
      rw [if_pos (by omega)]
      congr 1
      omega
  obtain ⟨p, hpe⟩ : ∃ p, priceV cs n total = p := ⟨_, rfl⟩
  rw [hpe] at hp
  have hclim : sumTo (fun j => (climK (cs j) p : Int)) n = cnt p (catL cs n) := by
    rw [← sumTo_cnt]
    exact sumTo_congr n fun j hj => by rw [climK_cnt (hasc j hj)]
  have hinB : ∀ j, j < n → ∀ i, i < (cs j).sl.length → -1048576 ≤ iA (cs j).sl i := fun j hj i hi => (inB_true ((okC_true (hok j hj)).2.2.2.2 i hi)).1
  have hcz : m = 0 → cnt p (catL cs n) = 0 := fun hz => by
    have hpv : p = -1048576 := by omega
    have : sumTo (fun j => (cnt p (cs j).sl : Int)) n = sumTo (fun _ => 0) n := sumTo_congr n fun j hj => by
      have := cnt_le p (cs j).sl 0 fun i _ hi => by have := hinB j hj i hi; omega
      omega
    have hz2 : ∀ k, sumTo (fun _ => 0) k = 0 := fun k => by induction k with | zero => rfl | succ k ih => unfold sumTo; rw [ih]; rfl
    rw [sumTo_cnt, hz2] at this
    omega
  have hcle : (cnt p (catL cs n) : Int) ≤ m := by
    rcases hp with ⟨h, _⟩ | ⟨h, hv⟩
    · have := hcz h
      omega
    · have h2 : cnt p (sortI (catL cs n)) ≤ m - 1 := cnt_le _ _ _ fun j h1 h2 => by rw [hv]; exact asc_mono hs h1 h2
      rw [cnt_perm p (sortI_perm _)] at h2
      omega
  have hleft : leftV cs n total = m - cnt p (catL cs n) := by
    unfold leftV
    rw [hpe, sumTo_add, hclim]
    unfold splitLo at hmt
    omega
  have hl0 : 0 ≤ leftV cs n total := by omega
  have hkv : ∀ j, kV cs n total j = kD cs p n (leftV cs n total) j := fun j => by unfold kV; rw [hpe]
  have hg := kD_given cs p n (leftV cs n total) hl0
  have hend := leftD_end cs p n (leftV cs n total) hl0
  have hpos := leftD_pos cs p n (leftV cs n total) hl0 n
  have hzero : leftD cs p n (leftV cs n total) n = 0 := by
    rcases hp with ⟨h, hv⟩ | ⟨h, hv⟩
    · have := hcz h
      have hm := leftD_mono cs p n (leftV cs n total) hl0 0 n
      rw [Nat.zero_add] at hm
      have : leftD cs p n (leftV cs n total) 0 = leftV cs n total := rfl
      omega
    · rcases Int.lt_or_le 0 (leftD cs p n (leftV cs n total) n) with hL | hL
      · exfalso
        have hk : ∀ j, j < n → (cnt (p + 1) (cs j).sl : Int) ≤ kD cs p n (leftV cs n total) j := fun j hj => by
          have g := hg j
          have hr : 0 < (give (cs j) p (climK (cs j) p) (leftD cs p n (leftV cs n total) (n - 1 - j))).2 := by
            have h2 := leftD_mono cs p n (leftV cs n total) hl0 (n - 1 - j + 1) j
            rw [show n - 1 - j + 1 + j = n by omega] at h2
            have h3 : leftD cs p n (leftV cs n total) (n - 1 - j + 1) = (give (cs (n - 1 - (n - 1 - j))) p (climK (cs (n - 1 - (n - 1 - j))) p) (leftD cs p n (leftV cs n total) (n - 1 - j))).2 := rfl
            rw [show n - 1 - (n - 1 - j) = j by omega] at h3
            omega
          have := cnt_le (p + 1) (cs j).sl (kD cs p n (leftV cs n total) j) fun i hi hil => by
            rcases g.stop with h | h | h
            · exfalso
              have h : (give (cs j) p (climK (cs j) p) (leftD cs p n (leftV cs n total) (n - 1 - j))).2 = 0 := h
              omega
            · have h : kD cs p n (leftV cs n total) j = _ := h
              omega
            · have h : iA (cs j).sl (kD cs p n (leftV cs n total) j) ≠ p := h
              have h4 := climK_ge (hasc j hj) (p := p) (j := kD cs p n (leftV cs n total) j) g.ge (by omega)
              have h5 := asc_mono (hasc j hj) hi hil
              omega
          omega
        have h2 := sumTo_le n hk
        rw [sumTo_cnt] at h2
        have h3 : m ≤ cnt (p + 1) (sortI (catL cs n)) := cnt_ge _ _ _ (by omega) fun j hj => by
          have := asc_mono hs (i := j) (j := m - 1) (by omega) (by omega)
          omega
        rw [cnt_perm _ (sortI_perm _)] at h3
        omega
      · omega
  rw [hm]
  have hlow : ∀ j, j < n → ∀ i, i < kV cs n total j → iA (cs j).sl i ≤ p := fun j hj i hi => by
    rw [hkv] at hi
    rcases Nat.lt_or_ge i (climK (cs j) p) with h | h
    · exact Int.le_of_lt (climK_lt h)
    · exact Int.le_of_eq ((hg j).eq i h hi)
  have hhigh : ∀ j, j < n → ∀ i, kV cs n total j ≤ i → i < (cs j).sl.length → p ≤ iA (cs j).sl i := fun j hj i hi hil => by
    rw [hkv] at hi
    have := (hg j).ge
    exact climK_ge (hasc j hj) (Nat.le_trans this hi) hil
  have hle : ∀ j, j < n → kV cs n total j ≤ (cs j).sl.length := fun j _ => by rw [hkv]; exact (hg j).le
  refine ⟨hle, ?_, fun j hj => by rw [hpe]; exact cut_eq p (cs j).sl _ (hle j hj) (hlow j hj) (hhigh j hj), by rw [hpe]; exact hlow, by rw [hpe]; exact hhigh⟩
  have : sumTo (fun j => (kV cs n total j : Int)) n = sumTo (fun j => (kD cs p n (leftV cs n total) j : Int)) n := sumTo_congr n fun j _ => by rw [hkv]
  omega

/-- the cost of a division is what the join of all has there -/
theorem divided_cost {cs : Nat → Cu} {n m : Nat} {p : Int} {K : Nat → Nat} (h : Divided cs n m p K) (hm : m ≤ (catL cs n).length) :
    sumTo (fun j => valK (cs j) (K j)) n = sumTo (fun j => (cs j).fst) n + pS (sortI (catL cs n)) m := by
  have h1 : sumTo (fun j => valK (cs j) (K j)) n = sumTo (fun j => (cs j).fst + (p * (K j : Int) + cut p (cs j).sl)) n := sumTo_congr n fun j hj => by
    have := h.opt j hj
    rw [valK_pS]
    omega
  rw [h1, sumTo_add, sumTo_add, sumTo_mul, h.sum, sumTo_cut]
  congr 1
  -- a price of the sum
  have key : ∀ k : Nat, k ≤ (catL cs n).length → cut p (catL cs n) ≤ pS (sortI (catL cs n)) k - p * k := fun k hk => by
    rw [← cut_perm p (sortI_perm (catL cs n))]
    exact cut_le p _ k (by rw [sortI_length]; exact hk)
  have h2 := key m hm
  -- no less: the sorted beginning is the least
  have key2 : ∀ k : Nat, ∀ (K : Nat → Nat), (∀ j, j < k → K j ≤ (cs j).sl.length) → ∀ t : Nat, sumTo (fun j => (K j : Int)) k = t → pS (sortI (catL cs k)) t ≤ sumTo (fun j => pS (cs j).sl (K j)) k := by
    intro k
    induction k with
    | zero =>
      intro K _ t ht
      obtain rfl : t = 0 := by simp [sumTo] at ht; omega
      simp [pS, sumTo]
    | succ k ih =>
      intro K hK t ht
      have ht : sumTo (fun j => (K j : Int)) k + K k = t := ht
      have h3 : ∀ k : Nat, (0 : Int) ≤ sumTo (fun j => (K j : Int)) k := fun k => by
        induction k with
        | zero => exact Int.le_refl _
        | succ k ih => unfold sumTo; omega
      have h3 := h3 k
      have h4 := ih K (fun j hj => hK j (by omega)) (t - K k) (by omega)
      have hlen : t - K k ≤ (sortI (catL cs k)).length := by
        have h5 : sumTo (fun j => (K j : Int)) k ≤ sumTo (fun j => ((cs j).sl.length : Int)) k := sumTo_le k fun j hj => by have := hK j (by omega); omega
        have h6 := catL_length cs k
        rw [sumTo_add] at h6
        rw [sortI_length]
        omega
      have h5 := joins_le (i := t - K k) (j := K k) hlen (hK k (by omega))
      rw [sortI_left, show t - K k + K k = t by omega] at h5
      show pS (sortI (catL cs k ++ (cs k).sl)) t ≤ sumTo (fun j => pS (cs j).sl (K j)) k + pS (cs k).sl (K k)
      omega
  have h5 := key2 n K h.le m h.sum
  have h6 : sumTo (fun j => pS (cs j).sl (K j)) n = p * (m : Int) + cut p (catL cs n) := by
    have : sumTo (fun j => pS (cs j).sl (K j)) n = sumTo (fun j => p * (K j : Int) + cut p (cs j).sl) n := sumTo_congr n fun j hj => by have := h.opt j hj; omega
    rw [this, sumTo_add, sumTo_mul, h.sum, sumTo_cut]
  omega

end Go.Proofs.Ytdepnhnpklbmiaa
/- The mathematics of conjugates. -/
namespace Go.Proofs.Ytdepnhnpklbmiaa
open Go.RowKit Go.Sort

/-! ### conjugates -/
/-- what Conj makes -/
def conC (c : Cu) (lo hi : Int) : Cu := ⟨lo, lo * (c.fr + climK c lo) - valK c (climK c lo), (List.range (hi - lo).toNat).map (fun (i : Nat) => c.fr + (climK c (lo + 1 + (i : Int)) : Int))⟩
def conV (c : Cu) (lo hi : Int) : Cu × Int := if okC c = true ∧ inB lo 1048576 = true ∧ lo ≤ hi ∧ hi ≤ lo + 64 ∧ hi ≤ 1048576 then res2 (conC c lo hi) else (Cu.zero, 2)
/-- the greatest of p*x - c(x) -/
def gre (c : Cu) (p : Int) : Int := p * c.fr - c.fst - cut p c.sl
theorem ok_asc {c : Cu} (h : okC c = true) : ascTo c.sl c.sl.length := (okC_true h).2.2.2.1
theorem gre_ge (c : Cu) (p : Int) {k : Nat} (hk : k ≤ c.sl.length) : p * (c.fr + k) - valK c k ≤ gre c p := by
  have := cut_le p c.sl k hk
  rw [valK_pS, Int.mul_add]
  unfold gre
  omega
theorem gre_eq {c : Cu} (p : Int) {k : Nat} (hk : k ≤ c.sl.length) (h1 : ∀ j, j < k → iA c.sl j ≤ p) (h2 : ∀ j, k ≤ j → j < c.sl.length → p ≤ iA c.sl j) : p * (c.fr + k) - valK c k = gre c p := by
  have := cut_eq p c.sl k hk h1 h2
  rw [valK_pS, Int.mul_add]
  unfold gre
  omega
theorem gre_lt {c : Cu} (p : Int) {k : Nat} (hk : k ≤ c.sl.length) (h : ∃ j, (j < k ∧ p < iA c.sl j) ∨ (k ≤ j ∧ j < c.sl.length ∧ iA c.sl j < p)) : p * (c.fr + k) - valK c k < gre c p := by
  have := cut_lt p c.sl k hk h
  rw [valK_pS, Int.mul_add]
  unfold gre
  omega
theorem gre_clim {c : Cu} (h : ascTo c.sl c.sl.length) (p : Int) : p * (c.fr + climK c p) - valK c (climK c p) = gre c p :=
  gre_eq p (climK_le c p) (fun _ h => Int.le_of_lt (climK_lt h)) fun _ h1 h2 => climK_ge h h1 h2
theorem cut_step (p : Int) : ∀ xs : List Int, cut (p + 1) xs = cut p xs - cnt (p + 1) xs
  | [] => rfl
  | x :: xs => by
    show (if x < p + 1 then x - (p + 1) else 0) + cut (p + 1) xs = (if x < p then x - p else 0) + cut p xs - ((if x < p + 1 then 1 else 0) + cnt (p + 1) xs : Nat)
    rw [cut_step p xs]
    split <;> split <;> omega
theorem gre_step {c : Cu} (h : ascTo c.sl c.sl.length) (p : Int) : gre c (p + 1) = gre c p + (c.fr + climK c (p + 1)) := by
  unfold gre
  rw [cut_step, climK_cnt h, Int.add_mul]
  omega
theorem con_sl {c : Cu} {lo hi : Int} {i : Nat} (hi' : (i : Int) < hi - lo) : iA (conC c lo hi).sl i = c.fr + climK c (lo + 1 + i) := by
  rw [iA_get (by simp [conC]; omega)]
  simp [conC]
theorem con_len (c : Cu) (lo hi : Int) : (conC c lo hi).sl.length = (hi - lo).toNat := by simp [conC]
theorem con_val {c : Cu} (h : ascTo c.sl c.sl.length) (lo hi : Int) : ∀ i : Nat, (i : Int) ≤ hi - lo → valK (conC c lo hi) i = gre c (lo + i)
  | 0, _ => by
    show lo * (c.fr + climK c lo) - valK c (climK c lo) = _
    rw [gre_clim h]
    simp
  | i + 1, hl => by
    unfold valK
    rw [con_val h lo hi i (by omega), con_sl (by omega)]
    have := gre_step h (lo + i)
    rw [show lo + ((i + 1 : Nat) : Int) = lo + i + 1 by omega, this, show lo + 1 + (i : Int) = lo + i + 1 by omega]
/-- the join's greatest is the sum of the greatest -/
theorem gre_join (a b : Cu) (p : Int) : gre ⟨a.fr + b.fr, a.fst + b.fst, sortI (a.sl ++ b.sl)⟩ p = gre a p + gre b p := by
  unfold gre
  show p * (a.fr + b.fr) - (a.fst + b.fst) - cut p (sortI (a.sl ++ b.sl)) = _
  rw [cut_perm p (sortI_perm _), cut_append, Int.mul_add]
  omega
theorem clim_join {a b : Cu} (ha : ascTo a.sl a.sl.length) (hb : ascTo b.sl b.sl.length) (p : Int) : climK ⟨a.fr + b.fr, a.fst + b.fst, sortI (a.sl ++ b.sl)⟩ p = climK a p + climK b p := by
  rw [climK_cnt (sortI_asc _), climK_cnt ha, climK_cnt hb]
  show cnt p (sortI (a.sl ++ b.sl)) = _
  rw [cnt_perm p (sortI_perm _), cnt_append]
/-- what Add makes -/
def addC (a b : Cu) : Cu := ⟨max a.fr b.fr, valK a (max a.fr b.fr - a.fr).toNat + valK b (max a.fr b.fr - b.fr).toNat, (List.range (min (a.fr + a.sl.length) (b.fr + b.sl.length) - max a.fr b.fr).toNat).map (fun i => iA a.sl ((max a.fr b.fr - a.fr).toNat + i) + iA b.sl ((max a.fr b.fr - b.fr).toNat + i))⟩
def addV (a b : Cu) : Cu × Int := if okC a = true ∧ okC b = true then (if max a.fr b.fr ≤ min (a.fr + a.sl.length) (b.fr + b.sl.length) then res2 (addC a b) else (Cu.zero, 6)) else (Cu.zero, 2)
theorem res2_ok {c d : Cu} (h : res2 c = (d, 0)) : d = c ∧ okC c = true := by
  unfold res2 at h
  split at h
  · rename_i h1
    injection h with h2 h3
    exact ⟨h2.symm, h1⟩
  · injection h with _ h3
    exact absurd h3 (by decide)
theorem res2_err (c : Cu) : (res2 c).2 = 0 ∧ (res2 c).1 = c ∧ okC c = true ∨ (res2 c).2 = 4 ∧ (res2 c).1 = Cu.zero ∧ okC c = false := by
  unfold res2
  split
  · rename_i h
    exact .inl ⟨rfl, rfl, h⟩
  · rename_i h
    exact .inr ⟨rfl, rfl, by simpa using h⟩
theorem cu_ext {a b : Cu} (h1 : a.fr = b.fr) (h2 : a.fst = b.fst) (h3 : a.sl = b.sl) : a = b := by
  cases a; cases b; simp_all
/-- the conjugate of a join is the sum of the conjugates -/
theorem dual {a b : Cu} {lo hi : Int} (ha : okC a = true) (hb : okC b = true) (hlh : lo ≤ hi) :
    addC (conC a lo hi) (conC b lo hi) = conC ⟨a.fr + b.fr, a.fst + b.fst, sortI (a.sl ++ b.sl)⟩ lo hi := by
  have e0 : max (conC a lo hi).fr (conC b lo hi).fr = lo := Int.max_self lo
  have e1 : min ((conC a lo hi).fr + (conC a lo hi).sl.length) ((conC b lo hi).fr + (conC b lo hi).sl.length) = hi := by
    rw [con_len, con_len]
    show min (lo + ((hi - lo).toNat : Int)) (lo + ((hi - lo).toNat : Int)) = hi
    omega
  have e2 : (lo - (conC a lo hi).fr).toNat = 0 := by show (lo - lo).toNat = 0; omega
  have e3 : (lo - (conC b lo hi).fr).toNat = 0 := by show (lo - lo).toNat = 0; omega
  apply cu_ext
  · exact e0
  · unfold addC
    show valK (conC a lo hi) _ + valK (conC b lo hi) _ = valK (conC ⟨a.fr + b.fr, a.fst + b.fst, sortI (a.sl ++ b.sl)⟩ lo hi) 0
    rw [e0, e2, e3, con_val (ok_asc ha) lo hi 0 (by simp; omega), con_val (ok_asc hb) lo hi 0 (by simp; omega), con_val (sortI_asc _) lo hi 0 (by simp; omega), gre_join]
  · unfold addC
    show List.map _ _ = List.map _ _
    rw [e0, e1, e2, e3]
    refine List.map_congr_left fun i hi' => ?_
    have hi' := List.mem_range.1 hi'
    rw [Nat.zero_add, con_sl (by omega), con_sl (by omega), clim_join (ok_asc ha) (ok_asc hb)]
    show _ = a.fr + b.fr + ((climK a _ + climK b _ : Nat) : Int)
    omega
/-- twice conjugate: a price at which x is best -/
theorem back_price {c : Cu} (h : okC c = true) {k : Nat} (hk : k ≤ c.sl.length) {lo hi : Int} (hlh : lo ≤ hi) (hin : ∀ i, i < c.sl.length → lo ≤ iA c.sl i ∧ iA c.sl i ≤ hi) :
    ∃ p, lo ≤ p ∧ p ≤ hi ∧ p * (c.fr + k) - gre c p = valK c k := by
  have ha := ok_asc h
  rcases Nat.eq_zero_or_pos c.sl.length with h0 | h0
  · refine ⟨lo, Int.le_refl _, hlh, ?_⟩
    have := gre_eq (c := c) lo hk (fun j hj => by omega) (fun j _ hj => by omega)
    omega
  · rcases Nat.eq_zero_or_pos k with hk0 | hk0
    · subst hk0
      have := gre_eq (c := c) (iA c.sl 0) hk (fun j hj => by omega) (fun j _ hj => asc_mono ha (Nat.zero_le _) hj)
      exact ⟨iA c.sl 0, (hin 0 h0).1, (hin 0 h0).2, by omega⟩
    · have := gre_eq (c := c) (iA c.sl (k - 1)) hk (fun j hj => asc_mono ha (by omega) (by omega)) (fun j _ hj => asc_mono ha (by omega) hj)
      exact ⟨iA c.sl (k - 1), (hin _ (by omega)).1, (hin _ (by omega)).2, by omega⟩
theorem back_le (c : Cu) {k : Nat} (hk : k ≤ c.sl.length) (p : Int) : p * (c.fr + k) - gre c p ≤ valK c k := by
  have := gre_ge c p hk
  omega

end Go.Proofs.Ytdepnhnpklbmiaa
