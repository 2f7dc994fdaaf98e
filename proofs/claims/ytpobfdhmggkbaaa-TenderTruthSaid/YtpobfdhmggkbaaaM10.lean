/- The truth pays (2): the lists of the law. -/
import Derived.Test.YtpobfdhmggkbaaaV15
namespace Go.Proofs.Ytpobfdhmggkbaaa
open Go.RowKit

theorem ofsF_shift (fl : List Int) : ∀ (r i : Nat), ofsF fl i r = (List.range r).map fun j => offN fl (i + j)
  | 0, _ => rfl
  | r + 1, i => by
    rw [ofsF_snoc, ofsF_shift fl r i, List.range_succ, List.map_append]
    rfl
theorem ofsF_app {xs ys : List Int} {m : Nat} (h : xs.length = 3 * m) : ∀ r, ofsF (xs ++ ys) 0 (m + r) = ofsF xs 0 m ++ ofsF ys 0 r
  | 0 => by rw [Nat.add_zero, ofsF_left h _ _ (by omega)]; exact (List.append_nil _).symm
  | r + 1 => by
    have e : offN (xs ++ ys) (m + r) = offN ys r := by
      unfold offN
      rw [show 3 * (m + r) = xs.length + 3 * r by omega, show xs.length + 3 * r + 1 = xs.length + (3 * r + 1) by omega, show xs.length + 3 * r + 2 = xs.length + (3 * r + 2) by omega, getD_right, getD_right, getD_right]
    rw [← Nat.add_assoc, ofsF_snoc, ofsF_app h r, ofsF_snoc, Nat.zero_add, Nat.zero_add, e, List.append_assoc]
/-- offers of another's name -/
def asB (fl : List Int) (b : Int) : Nat → List Int
  | 0 => []
  | k + 1 => asB fl b k ++ [b, fl.getD (3 * k + 1) 0, fl.getD (3 * k + 1 + 1) 0]
theorem asB_len (fl : List Int) (b : Int) : ∀ k, (asB fl b k).length = 3 * k
  | 0 => rfl
  | k + 1 => by
    rw [asB, List.length_append, asB_len fl b k]
    show _ + 3 = _
    omega
theorem asB_mem {fl : List Int} {b : Int} {o : Of} : ∀ {k}, o ∈ ofsF (asB fl b k) 0 k → o.buyer = b
  | 0, h => absurd h List.not_mem_nil
  | k + 1, h => by
    rw [asB, ofsF_push (asB_len fl b k)] at h
    rcases List.mem_append.1 h with h | h
    · exact asB_mem h
    · have : o = ⟨b, fl.getD (3 * k + 1) 0, fl.getD (3 * k + 1 + 1) 0⟩ := by simpa using h
      rw [this]
theorem fst_none {ws : List Int} : ∀ (r k : Nat), (∀ j, k ≤ j → j < k + r → badW (ws.getD j 0) = false) → fstBad ws r k = -1
  | 0, _, _ => rfl
  | r + 1, k, h => by
    unfold fstBad
    rw [if_neg (by rw [h k (Nat.le_refl _) (by omega)]; decide)]
    exact fst_none r (k + 1) fun j h1 h2 => h j (by omega) (by omega)
section
variable {lots b : Int} {fl1 fl2 : List Int} {n1 n2 : Nat}
theorem asB_fine (hc : checkV lots (wo fl1 b n1 ++ asB fl2 b n2) (woN fl1 b n1 + n2) = 0) : ∀ i, i < n2 → 0 ≤ (offN (asB fl2 b n2) i).lots ∧ (offN (asB fl2 b n2) i).lots < 4096 ∧ 1 ≤ (offN (asB fl2 b n2) i).price ∧ (offN (asB fl2 b n2) i).price ≤ 1073741824 := by
  intro i hi
  obtain ⟨h1, _, h3⟩ := check_iff.1 hc
  rw [ofsF_app (wo_len fl1 b n1)] at h3
  have := valid_b h1 (h3 (offN (asB fl2 b n2) i) (List.mem_append_right _ (ofsF_mem.2 ⟨i, Nat.zero_le _, by omega, rfl⟩)))
  have e : (2 : Int) ^ 12 = 4096 := by decide
  omega
theorem worths_len (lots : Int) (fl : List Int) (n : Nat) : (worthsL lots fl n).length = (bit lots).toNat := mkR_len _ _
theorem worths_ok {fl : List Int} {n : Nat} (hl : 1 ≤ lots ∧ lots ≤ 12) (hb : 0 ≤ b ∧ b ≤ 7) (hv : ∀ i, i < n → 1 ≤ (offN fl i).price ∧ (offN fl i).price ≤ 1073741824) : gOk lots b (worthsL lots fl n) = true := by
  obtain ⟨h1, h2⟩ := bit_lots hl
  have hN : ((bit lots).toNat : Int) = bit lots := Int.toNat_of_nonneg (by omega)
  have hf : fstBad (worthsL lots fl n) (worthsL lots fl n).length 0 = -1 := fst_none _ _ fun j _ hj => by
    rw [worths_len] at hj
    rw [worthsL, mkR_get (by omega)]
    have := wset_bd (lots := lots) hv (j : Int) n (Nat.le_refl _)
    unfold badW
    rw [if_neg (by rw [decide_eq_true_eq]; omega)]
    exact decide_eq_false (by omega)
  unfold gOk
  rw [hf, worths_len, hN, decide_eq_true hb, beq_self_eq_true]
  rfl
theorem worths_Wo {fl : List Int} {n : Nat} (hl : 1 ≤ lots ∧ lots ≤ 12) : Wo lots (ofsF fl 0 n) (worthsL lots fl n) := by
  intro s hs hsb
  have hget : (worthsL lots fl n).getD s.toNat 0 = wset fl s n := by
    rw [worthsL, mkR_get (by omega), Int.toNat_of_nonneg hs]
  rw [hget]
  have key : ∀ k, k ≤ n → 0 ≤ wset fl s k ∧ (∀ i, i < k → iand (offN fl i).lots s = (offN fl i).lots → (offN fl i).price ≤ wset fl s k) ∧ (wset fl s k = 0 ∨ ∃ i, i < k ∧ iand (offN fl i).lots s = (offN fl i).lots ∧ wset fl s k = (offN fl i).price) := by
    intro k
    induction k with
    | zero => exact fun _ => ⟨Int.le_refl _, fun i h => absurd h (Nat.not_lt_zero i), .inl rfl⟩
    | succ k ih =>
      intro hk
      obtain ⟨p0, p1, p2⟩ := ih (by omega)
      unfold wset
      split
      · rename_i he
        have he := beq_iff_eq.1 he
        refine ⟨by omega, fun i hi h => ?_, ?_⟩
        · by_cases e : i = k
          · subst e
            omega
          · have := p1 i (by omega) h
            omega
        · by_cases hm : wset fl s k ≤ (offN fl k).price
          · exact .inr ⟨k, by omega, he, by omega⟩
          · have e : max (wset fl s k) (offN fl k).price = wset fl s k := by omega
            rw [e]
            rcases p2 with p2 | ⟨i, q1, q2⟩
            · exact .inl p2
            · exact .inr ⟨i, by omega, q2⟩
      · rename_i he
        refine ⟨p0, fun i hi h => ?_, ?_⟩
        · by_cases e : i = k
          · subst e
            exact absurd (beq_iff_eq.2 h) he
          · exact p1 i (by omega) h
        · rcases p2 with p2 | ⟨i, q1, q2⟩
          · exact .inl p2
          · exact .inr ⟨i, by omega, q2⟩
  obtain ⟨_, k1, k2⟩ := key n (Nat.le_refl _)
  refine ⟨fun f hf h => ?_, ?_⟩
  · obtain ⟨i, _, hi, rfl⟩ := ofsF_mem.1 hf
    exact k1 i (by omega) h
  · rcases k2 with k2 | ⟨i, q1, q2, q3⟩
    · exact .inl k2
    · exact .inr ⟨offN fl i, ofsF_mem.2 ⟨i, Nat.zero_le _, by omega, rfl⟩, q2, q3⟩
/-- what the law says of the two gains -/
theorem truth_law {fl3 : List Int} {n3 : Nat} (hb : 0 ≤ b ∧ b ≤ 7) (h : checkV lots (wo fl1 b n1 ++ asB fl2 b n2) (woN fl1 b n1 + n2) = 0) (k : checkV lots (wo fl1 b n1 ++ asB fl3 b n3) (woN fl1 b n1 + n3) = 0) :
    ∃ x y, gainV lots (wo fl1 b n1 ++ asB fl2 b n2) (woN fl1 b n1 + n2) b (worthsL lots (asB fl2 b n2) n2) = (x, 0) ∧ gainV lots (wo fl1 b n1 ++ asB fl3 b n3) (woN fl1 b n1 + n3) b (worthsL lots (asB fl2 b n2) n2) = (y, 0) ∧ 0 ≤ x ∧ y ≤ x := by
  have hl := (check_iff.1 h).1
  have hg : gOk lots b (worthsL lots (asB fl2 b n2) n2) = true := worths_ok hl hb fun i hi => (asB_fine h i hi).2.2
  refine ⟨_, _, by rw [gainV, if_pos h, if_pos hg], by rw [gainV, if_pos k, if_pos hg], ?_⟩
  exact truth_math h k (ofsF_app (wo_len fl1 b n1) n2) (ofsF_app (wo_len fl1 b n1) n3) (fun o ho => by
    rw [ofsF_wo] at ho
    simpa using (List.mem_filter.1 ho).2) (fun o ho => asB_mem ho) (fun o ho => asB_mem ho) (worths_Wo hl)
end
end Go.Proofs.Ytpobfdhmggkbaaa
