/- What a buyer pays, and what the rest is worth without them. -/
import Derived.Test.YtpobfdhmggkbaaaV11
import Derived.Test.YtpobfdhmggkbaaaM5
namespace Go.Proofs.Ytpobfdhmggkbaaa
open Go.RowKit

theorem ofsF_snoc (fl : List Int) : ∀ (r i : Nat), ofsF fl i (r + 1) = ofsF fl i r ++ [offN fl (i + r)]
  | 0, i => rfl
  | r + 1, i => by
    rw [ofsF, ofsF_snoc fl r (i + 1), ofsF, List.cons_append, show i + 1 + r = i + (r + 1) by omega]
theorem getD_left {xs ys : List Int} {j : Nat} (h : j < xs.length) : (xs ++ ys).getD j 0 = xs.getD j 0 := by
  simp only [List.getD_eq_getElem?_getD, List.getElem?_append_left h]
theorem getD_right {xs ys : List Int} {j : Nat} : (xs ++ ys).getD (xs.length + j) 0 = ys.getD j 0 := by
  simp only [List.getD_eq_getElem?_getD, List.getElem?_append_right (Nat.le_add_right _ _), Nat.add_sub_cancel_left]
theorem offN_left {xs ys : List Int} {m j : Nat} (h : xs.length = 3 * m) (hj : j < m) : offN (xs ++ ys) j = offN xs j := by
  unfold offN
  rw [getD_left (by omega), getD_left (by omega), getD_left (by omega)]
theorem offN_last {xs : List Int} {m : Nat} {a b c : Int} (h : xs.length = 3 * m) : offN (xs ++ [a, b, c]) m = ⟨a, b, c⟩ := by
  unfold offN
  have h0 := getD_right (xs := xs) (ys := [a, b, c]) (j := 0)
  have h1 := getD_right (xs := xs) (ys := [a, b, c]) (j := 1)
  have h2 := getD_right (xs := xs) (ys := [a, b, c]) (j := 2)
  rw [h] at h0 h1 h2
  rw [Nat.add_zero] at h0
  rw [h0, h1, h2]
  rfl
theorem ofsF_left {xs ys : List Int} {m : Nat} (h : xs.length = 3 * m) : ∀ (r i : Nat), i + r ≤ m → ofsF (xs ++ ys) i r = ofsF xs i r
  | 0, _, _ => rfl
  | r + 1, i, hi => by rw [ofsF, ofsF, offN_left h (by omega), ofsF_left h r (i + 1) (by omega)]
/-- offers one behind the other -/
theorem ofsF_push {xs : List Int} {m : Nat} {a b c : Int} (h : xs.length = 3 * m) : ofsF (xs ++ [a, b, c]) 0 (m + 1) = ofsF xs 0 m ++ [⟨a, b, c⟩] := by
  rw [ofsF_snoc, ofsF_left h _ _ (by omega), Nat.zero_add, offN_last h]
theorem offN_eta (fl : List Int) (k : Nat) : offN fl k = ⟨fl.getD (3 * k) 0, fl.getD (3 * k + 1) 0, fl.getD (3 * k + 1 + 1) 0⟩ := rfl
theorem ofsF_wo (fl : List Int) (b : Int) : ∀ k, ofsF (wo fl b k) 0 (woN fl b k) = (ofsF fl 0 k).filter fun o => o.buyer != b
  | 0 => rfl
  | k + 1 => by
    have ih := ofsF_wo fl b k
    have hl := wo_len fl b k
    rw [ofsF_snoc, List.filter_append, Nat.zero_add, ← ih]
    by_cases h : ((offN fl k).buyer != b) = true
    · have e : wo fl b (k + 1) = wo fl b k ++ [fl.getD (3 * k) 0, fl.getD (3 * k + 1) 0, fl.getD (3 * k + 1 + 1) 0] := by rw [wo, if_pos h]
      have e' : woN fl b (k + 1) = woN fl b k + 1 := by rw [woN, if_pos h]
      rw [e, e', ofsF_push hl, List.filter_cons_of_pos (by exact h), List.filter_nil, ← offN_eta]
    · have e : wo fl b (k + 1) = wo fl b k := by rw [wo, if_neg h]
      have e' : woN fl b (k + 1) = woN fl b k := by rw [woN, if_neg h]
      rw [e, e', List.filter_cons_of_neg (by exact h), List.filter_nil, List.append_nil]
theorem check_iff {lots : Int} {fl : List Int} {n : Nat} : checkV lots fl n = 0 ↔ (1 ≤ lots ∧ lots ≤ 12) ∧ n ≤ 16 ∧ ∀ o ∈ ofsF fl 0 n, validO lots o = true := by
  constructor
  · intro h
    obtain ⟨h1, h2, h3⟩ := check_ok h
    refine ⟨h1, h2, fun o ho => ?_⟩
    obtain ⟨k, _, hk, rfl⟩ := ofsF_mem.1 ho
    exact h3 k (by omega)
  · rintro ⟨h1, h2, h3⟩
    rw [checkV, if_pos h1, if_pos h2, if_pos]
    exact allOk_iff.2 fun i hi => h3 _ (ofsF_mem.2 ⟨i, Nat.zero_le _, by omega, rfl⟩)
theorem check_okO {lots : Int} {fl : List Int} {n : Nat} (h : checkV lots fl n = 0) : ∀ o ∈ ofsF fl 0 n, okO o := fun o ho => by
  obtain ⟨h1, _, h3⟩ := check_iff.1 h
  have := valid_b h1 (h3 o ho)
  exact ⟨this.1.1, by omega⟩
theorem best_w {lots : Int} {fl : List Int} {n : Nat} (h : checkV lots fl n = 0) : (bestV lots fl n).2.1 = wT (ofsF fl 0 n) 0 0 := by rw [bestV, if_pos h, srch_wT]
theorem check_wo {lots : Int} {fl : List Int} {n : Nat} (b : Int) (h : checkV lots fl n = 0) : checkV lots (wo fl b n) (woN fl b n) = 0 := by
  obtain ⟨h1, h2, h3⟩ := check_iff.1 h
  refine check_iff.2 ⟨h1, Nat.le_trans (woN_le _ _ _) h2, fun o ho => ?_⟩
  rw [ofsF_wo] at ho
  exact h3 o (List.mem_filter.1 ho).1
theorem rest_w {lots : Int} {fl : List Int} {n : Nat} (b : Int) (h : checkV lots fl n = 0) : (bestV lots (wo fl b n) (woN fl b n)).2.1 = wT ((ofsF fl 0 n).filter fun o => o.buyer != b) 0 0 := by
  rw [best_w (check_wo b h), ofsF_wo]
theorem but_w {lots : Int} {fl : List Int} {n : Nat} {b : Int} (hb : 0 ≤ b) (h : checkV lots fl n = 0) : (srch fl n 0 0 (bit b)).2 = wT ((ofsF fl 0 n).filter fun o => o.buyer != b) 0 0 := by
  rw [srch_wT, wT_bar _ 0 0 (bit b) (Int.le_refl _) (bit_pos _) (check_okO h) (bar0 hb)]
theorem Cho_sub {xs ys : List Of} {g sv : Int} (h : xs.Sublist ys) (hc : Cho ys g sv) : Cho xs g sv := ⟨hc.1.sublist h, fun o ho => hc.2 o (h.subset ho)⟩
theorem sum_but {o : Of} : ∀ {ys : List Of}, ys.Pairwise cpt → o ∈ ys → sumP (ys.filter fun p => p.buyer != o.buyer) = sumP ys - o.price
  | [], _, h => absurd h List.not_mem_nil
  | y :: ys, hp, h => by
    rw [List.pairwise_cons] at hp
    rcases List.mem_cons.1 h with rfl | h
    · rw [List.filter_cons_of_neg (by simp), bar_none fun p hp' e => (hp.1 p hp').1 e.symm]
      show _ = sumP ys + o.price - o.price
      omega
    · have ih := sum_but hp.2 h
      have hne := (hp.1 o h).1
      rw [List.filter_cons_of_pos (by simpa using hne)]
      show _ + y.price = sumP ys + y.price - o.price
      rw [ih]
      omega
/-- what was taken, as offers -/
theorem took {lots : Int} {fl : List Int} {n : Nat} (h : checkV lots fl n = 0) : (pick fl (bestV lots fl n).1).Sublist (ofsF fl 0 n) ∧ Cho (pick fl (bestV lots fl n).1) 0 0 ∧ sumP (pick fl (bestV lots fl n).1) = (bestV lots fl n).2.1 ∧ ∀ y ∈ (bestV lots fl n).1, 0 ≤ y ∧ y < n := by
  obtain ⟨hl, hn, hv⟩ := check_ok h
  have h1 := worth_mine h
  rw [choice_chF hl hv] at h1
  cases hc : chF fl n (bestV lots fl n).1 0 0 0 with
  | none =>
    rw [hc] at h1
    have := congrArg Prod.snd h1
    cases this
  | some w =>
    rw [hc] at h1
    have h1 : w = (bestV lots fl n).2.1 := congrArg Prod.fst h1
    obtain ⟨a, b, c, d⟩ := chF_pick (fun i hi => (valid_b hl (hv i hi)).1.1) _ 0 n 0 0 w (Int.le_refl _) (Nat.zero_add _) hc
    exact ⟨a, b, c.trans h1, d⟩
theorem rest_le {lots : Int} {fl : List Int} {n : Nat} (b : Int) (h : checkV lots fl n = 0) : wT ((ofsF fl 0 n).filter fun o => o.buyer != b) 0 0 ≤ (bestV lots fl n).2.1 := by
  have hok := check_okO h
  obtain ⟨_, ys, h1, h2, h3⟩ := wT_max ((ofsF fl 0 n).filter fun o => o.buyer != b) 0 0 (Int.le_refl _) fun o ho => hok o (List.mem_filter.1 ho).1
  rw [← h3, best_w h]
  exact (wT_max _ 0 0 (Int.le_refl _) hok).1 ys (h1.trans List.filter_sublist) h2
theorem rest_ge {lots : Int} {fl : List Int} {n : Nat} (b : Int) (h : checkV lots fl n = 0) : sumP ((pick fl (bestV lots fl n).1).filter fun o => o.buyer != b) ≤ wT ((ofsF fl 0 n).filter fun o => o.buyer != b) 0 0 := by
  have hok := check_okO h
  obtain ⟨h1, h2, _, _⟩ := took h
  exact (wT_max ((ofsF fl 0 n).filter fun o => o.buyer != b) 0 0 (Int.le_refl _) fun o ho => hok o (List.mem_filter.1 ho).1).1 _ (h1.filter _) (Cho_sub List.filter_sublist h2)
theorem pay_w {lots : Int} {fl : List Int} {n : Nat} {i : Int} (h : checkV lots fl n = 0) (hi : 0 ≤ i ∧ i < n) : (offN fl i.toNat).price - payO fl n (bestV lots fl n).2.1 i = (bestV lots fl n).2.1 - wT ((ofsF fl 0 n).filter fun o => o.buyer != (offN fl i.toNat).buyer) 0 0 := by
  obtain ⟨hl, hn, hv⟩ := check_ok h
  have hb := (valid_b hl (hv i.toNat (by omega))).1.1
  rw [payO, but_w hb h]
  omega
theorem pay_bd {lots : Int} {fl : List Int} {n : Nat} {i : Int} (h : checkV lots fl n = 0) (hi : i ∈ (bestV lots fl n).1) : 0 ≤ payO fl n (bestV lots fl n).2.1 i ∧ payO fl n (bestV lots fl n).2.1 i ≤ (offN fl i.toNat).price := by
  obtain ⟨h1, h2, h3, h4⟩ := took h
  have hw := pay_w h (h4 i hi)
  have ha := rest_le (offN fl i.toNat).buyer h
  have hb := rest_ge (offN fl i.toNat).buyer h
  rw [sum_but h2.1 (List.mem_map.2 ⟨i, hi, rfl⟩), h3] at hb
  omega
/-- the margin of a buyer -/
def mgn (fl : List Int) (n : Nat) (W b : Int) (T : List Int) : Nat → Int
  | 0 => 0
  | k + 1 => if ((offN fl (T.getD k 0).toNat).buyer == b) = true then (offN fl (T.getD k 0).toNat).price - payO fl n W (T.getD k 0) else mgn fl n W b T k
theorem mgn_eq {lots : Int} {fl : List Int} {n : Nat} (b : Int) (h : checkV lots fl n = 0) : (bestV lots fl n).2.1 - (bestV lots (wo fl b n) (woN fl b n)).2.1 = mgn fl n (bestV lots fl n).2.1 b (bestV lots fl n).1 (bestV lots fl n).1.length := by
  obtain ⟨h1, h2, h3, h4⟩ := took h
  rw [rest_w b h]
  have key : ∀ k, k ≤ (bestV lots fl n).1.length → mgn fl n (bestV lots fl n).2.1 b (bestV lots fl n).1 k = (bestV lots fl n).2.1 - wT ((ofsF fl 0 n).filter fun o => o.buyer != b) 0 0 ∨ (mgn fl n (bestV lots fl n).2.1 b (bestV lots fl n).1 k = 0 ∧ ∀ j, j < k → (offN fl ((bestV lots fl n).1.getD j 0).toNat).buyer ≠ b) := by
    intro k
    induction k with
    | zero => exact fun _ => .inr ⟨rfl, fun j hj => absurd hj (Nat.not_lt_zero j)⟩
    | succ k ih =>
      intro hk
      have ih := ih (by omega)
      unfold mgn
      split
      · rename_i he
        have he := beq_iff_eq.1 he
        have := pay_w h (h4 _ (getD_memI (l := (bestV lots fl n).1) (k := k) (by omega)))
        rw [he] at this
        exact .inl this
      · rename_i he
        rcases ih with ih | ⟨ih1, ih2⟩
        · exact .inl ih
        · refine .inr ⟨ih1, fun j hj => ?_⟩
          by_cases hjk : j = k
          · subst hjk
            exact fun e => he (beq_iff_eq.2 e)
          · exact ih2 j (by omega)
  rcases key _ (Nat.le_refl _) with hk | ⟨hk1, hk2⟩
  · exact hk.symm
  · have hnone : ∀ o ∈ pick fl (bestV lots fl n).1, o.buyer ≠ b := by
      intro o ho
      obtain ⟨y, hy, rfl⟩ := List.mem_map.1 ho
      obtain ⟨j, hj, rfl⟩ := List.mem_iff_getElem.1 hy
      have := hk2 j hj
      rwa [List.getD_eq_getElem?_getD, List.getElem?_eq_getElem hj] at this
    have ha := rest_le b h
    have hb := rest_ge b h
    rw [bar_none hnone, h3] at hb
    rw [hk1]
    omega
end Go.Proofs.Ytpobfdhmggkbaaa
