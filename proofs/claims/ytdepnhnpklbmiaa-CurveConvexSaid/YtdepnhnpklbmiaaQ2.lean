/- The mathematics of conjugates. -/
import Derived.Test.YtdepnhnpklbmiaaQ1
namespace Go.Proofs.Ytdepnhnpklbmiaa
open Go.RowKit Go.Sort

/-! ### conjugates -/
/-- what Conj makes -/
def conC (c : Cu) (lo hi : Int) : Cu := ⟨lo, lo * (c.fr + climK c lo) - valK c (climK c lo), (List.range (hi - lo).toNat).map (fun (i : Nat) => c.fr + (climK c (lo + 1 + (i : Int)) : Int))⟩
def conV (c : Cu) (lo hi : Int) : Cu × Int := if okC c = true ∧ inB lo 1048576 = true ∧ lo ≤ hi ∧ hi ≤ lo + 64 ∧ hi ≤ 1048576 then res2 (conC c lo hi) else (Cu.zero, 2)
/-- the greatest of p*x - c(x) -/
def gre (c : Cu) (p : Int) : Int := p * c.fr - c.fst - cut p c.sl
theorem ok_asc {c : Cu} (h : okC c = true) : ascTo c.sl c.sl.length := (okC_true h).2.2.2.1
theorem gre_ge (c : Cu) (p : Int) {k : Nat} (hk : k ≤ c.sl.length) : p * (c.fr + k) - valK c k ≤ gre c p := by
  have := cut_le p c.sl k hk
  rw [valK_pS, Int.mul_add]
  unfold gre
  omega
theorem gre_eq {c : Cu} (p : Int) {k : Nat} (hk : k ≤ c.sl.length) (h1 : ∀ j, j < k → iA c.sl j ≤ p) (h2 : ∀ j, k ≤ j → j < c.sl.length → p ≤ iA c.sl j) : p * (c.fr + k) - valK c k = gre c p := by
  have := cut_eq p c.sl k hk h1 h2
  rw [valK_pS, Int.mul_add]
  unfold gre
  omega
theorem gre_lt {c : Cu} (p : Int) {k : Nat} (hk : k ≤ c.sl.length) (h : ∃ j, (j < k ∧ p < iA c.sl j) ∨ (k ≤ j ∧ j < c.sl.length ∧ iA c.sl j < p)) : p * (c.fr + k) - valK c k < gre c p := by
  have := cut_lt p c.sl k hk h
  rw [valK_pS, Int.mul_add]
  unfold gre
  omega
theorem gre_clim {c : Cu} (h : ascTo c.sl c.sl.length) (p : Int) : p * (c.fr + climK c p) - valK c (climK c p) = gre c p :=
  gre_eq p (climK_le c p) (fun _ h => Int.le_of_lt (climK_lt h)) fun _ h1 h2 => climK_ge h h1 h2
theorem cut_step (p : Int) : ∀ xs : List Int, cut (p + 1) xs = cut p xs - cnt (p + 1) xs
  | [] => rfl
  | x :: xs => by
    show (if x < p + 1 then x - (p + 1) else 0) + cut (p + 1) xs = (if x < p then x - p else 0) + cut p xs - ((if x < p + 1 then 1 else 0) + cnt (p + 1) xs : Nat)
    rw [cut_step p xs]
    split <;> split <;> omega
theorem gre_step {c : Cu} (h : ascTo c.sl c.sl.length) (p : Int) : gre c (p + 1) = gre c p + (c.fr + climK c (p + 1)) := by
  unfold gre
  rw [cut_step, climK_cnt h, Int.add_mul]
  omega
theorem con_sl {c : Cu} {lo hi : Int} {i : Nat} (hi' : (i : Int) < hi - lo) : iA (conC c lo hi).sl i = c.fr + climK c (lo + 1 + i) := by
  rw [iA_get (by simp [conC]; omega)]
  simp [conC]
theorem con_len (c : Cu) (lo hi : Int) : (conC c lo hi).sl.length = (hi - lo).toNat := by simp [conC]
theorem con_val {c : Cu} (h : ascTo c.sl c.sl.length) (lo hi : Int) : ∀ i : Nat, (i : Int) ≤ hi - lo → valK (conC c lo hi) i = gre c (lo + i)
  | 0, _ => by
    show lo * (c.fr + climK c lo) - valK c (climK c lo) = _
    rw [gre_clim h]
    simp
  | i + 1, hl => by
    unfold valK
    rw [con_val h lo hi i (by omega), con_sl (by omega)]
    have := gre_step h (lo + i)
    rw [show lo + ((i + 1 : Nat) : Int) = lo + i + 1 by omega, this, show lo + 1 + (i : Int) = lo + i + 1 by omega]
/-- the join's greatest is the sum of the greatest -/
theorem gre_join (a b : Cu) (p : Int) : gre ⟨a.fr + b.fr, a.fst + b.fst, sortI (a.sl ++ b.sl)⟩ p = gre a p + gre b p := by
  unfold gre
  show p * (a.fr + b.fr) - (a.fst + b.fst) - cut p (sortI (a.sl ++ b.sl)) = _
  rw [cut_perm p (sortI_perm _), cut_append, Int.mul_add]
  omega
theorem clim_join {a b : Cu} (ha : ascTo a.sl a.sl.length) (hb : ascTo b.sl b.sl.length) (p : Int) : climK ⟨a.fr + b.fr, a.fst + b.fst, sortI (a.sl ++ b.sl)⟩ p = climK a p + climK b p := by
  rw [climK_cnt (sortI_asc _), climK_cnt ha, climK_cnt hb]
  show cnt p (sortI (a.sl ++ b.sl)) = _
  rw [cnt_perm p (sortI_perm _), cnt_append]
/-- what Add makes -/
def addC (a b : Cu) : Cu := ⟨max a.fr b.fr, valK a (max a.fr b.fr - a.fr).toNat + valK b (max a.fr b.fr - b.fr).toNat, (List.range (min (a.fr + a.sl.length) (b.fr + b.sl.length) - max a.fr b.fr).toNat).map (fun i => iA a.sl ((max a.fr b.fr - a.fr).toNat + i) + iA b.sl ((max a.fr b.fr - b.fr).toNat + i))⟩
def addV (a b : Cu) : Cu × Int := if okC a = true ∧ okC b = true then (if max a.fr b.fr ≤ min (a.fr + a.sl.length) (b.fr + b.sl.length) then res2 (addC a b) else (Cu.zero, 6)) else (Cu.zero, 2)
theorem res2_ok {c d : Cu} (h : res2 c = (d, 0)) : d = c ∧ okC c = true := by
  unfold res2 at h
  split at h
  · rename_i h1
    injection h with h2 h3
    exact ⟨h2.symm, h1⟩
  · injection h with _ h3
    exact absurd h3 (by decide)
theorem res2_err (c : Cu) : (res2 c).2 = 0 ∧ (res2 c).1 = c ∧ okC c = true ∨ (res2 c).2 = 4 ∧ (res2 c).1 = Cu.zero ∧ okC c = false := by
  unfold res2
  split
  · rename_i h
    exact .inl ⟨rfl, rfl, h⟩
  · rename_i h
    exact .inr ⟨rfl, rfl, by simpa using h⟩
theorem cu_ext {a b : Cu} (h1 : a.fr = b.fr) (h2 : a.fst = b.fst) (h3 : a.sl = b.sl) : a = b := by
  cases a; cases b; simp_all
/-- the conjugate of a join is the sum of the conjugates -/
theorem dual {a b : Cu} {lo hi : Int} (ha : okC a = true) (hb : okC b = true) (hlh : lo ≤ hi) :
    addC (conC a lo hi) (conC b lo hi) = conC ⟨a.fr + b.fr, a.fst + b.fst, sortI (a.sl ++ b.sl)⟩ lo hi := by
  have e0 : max (conC a lo hi).fr (conC b lo hi).fr = lo := Int.max_self lo
  have e1 : min ((conC a lo hi).fr + (conC a lo hi).sl.length) ((conC b lo hi).fr + (conC b lo hi).sl.length) = hi := by
    rw [con_len, con_len]
    show min (lo + ((hi - lo).toNat : Int)) (lo + ((hi - lo).toNat : Int)) = hi
    omega
  have e2 : (lo - (conC a lo hi).fr).toNat = 0 := by show (lo - lo).toNat = 0; omega
  have e3 : (lo - (conC b lo hi).fr).toNat = 0 := by show (lo - lo).toNat = 0; omega
  apply cu_ext
  · exact e0
  · unfold addC
    show valK (conC a lo hi) _ + valK (conC b lo hi) _ = valK (conC ⟨a.fr + b.fr, a.fst + b.fst, sortI (a.sl ++ b.sl)⟩ lo hi) 0
    rw [e0, e2, e3, con_val (ok_asc ha) lo hi 0 (by simp; omega), con_val (ok_asc hb) lo hi 0 (by simp; omega), con_val (sortI_asc _) lo hi 0 (by simp; omega), gre_join]
  · unfold addC
    show List.map _ _ = List.map _ _
    rw [e0, e1, e2, e3]
    refine List.map_congr_left fun i hi' => ?_
    have hi' := List.mem_range.1 hi'
    rw [Nat.zero_add, con_sl (by omega), con_sl (by omega), clim_join (ok_asc ha) (ok_asc hb)]
    show _ = a.fr + b.fr + ((climK a _ + climK b _ : Nat) : Int)
    omega
/-- twice conjugate: a price at which x is best -/
theorem back_price {c : Cu} (h : okC c = true) {k : Nat} (hk : k ≤ c.sl.length) {lo hi : Int} (hlh : lo ≤ hi) (hin : ∀ i, i < c.sl.length → lo ≤ iA c.sl i ∧ iA c.sl i ≤ hi) :
    ∃ p, lo ≤ p ∧ p ≤ hi ∧ p * (c.fr + k) - gre c p = valK c k := by
  have ha := ok_asc h
  rcases Nat.eq_zero_or_pos c.sl.length with h0 | h0
  · refine ⟨lo, Int.le_refl _, hlh, ?_⟩
    have := gre_eq (c := c) lo hk (fun j hj => by omega) (fun j _ hj => by omega)
    omega
  · rcases Nat.eq_zero_or_pos k with hk0 | hk0
    · subst hk0
      have := gre_eq (c := c) (iA c.sl 0) hk (fun j hj => by omega) (fun j _ hj => asc_mono ha (Nat.zero_le _) hj)
      exact ⟨iA c.sl 0, (hin 0 h0).1, (hin 0 h0).2, by omega⟩
    · have := gre_eq (c := c) (iA c.sl (k - 1)) hk (fun j hj => asc_mono ha (by omega) (by omega)) (fun j _ hj => asc_mono ha (by omega) hj)
      exact ⟨iA c.sl (k - 1), (hin _ (by omega)).1, (hin _ (by omega)).2, by omega⟩
theorem back_le (c : Cu) {k : Nat} (hk : k ≤ c.sl.length) (p : Int) : p * (c.fr + k) - gre c p ≤ valK c k := by
  have := gre_ge c p hk
  omega

end Go.Proofs.Ytdepnhnpklbmiaa
