/- A choice by the specification's Choice, and by indexes from the front. -/
import Derived.Test.YtpobfdhmggkbaaaM4
namespace Go.Proofs.Ytpobfdhmggkbaaa
open Go.RowKit

/-- where the next index may stand -/
def nxt (acc : List Int) : Nat := if acc.length = 0 then 0 else (acc.getD (acc.length - 1) 0).toNat + 1
theorem nxt_app (acc : List Int) (y : Int) : nxt (acc ++ [y]) = y.toNat + 1 := by
  unfold nxt
  rw [if_neg (by simp)]
  simp [List.getD_eq_getElem?_getD]
theorem badO_clash {o : Of} {g sv : Int} (hs : 0 ≤ sv) (hb : 0 ≤ o.buyer) : badO o g sv = clash o g sv := by
  rw [badO, clash, shr_tb hs hb]
  congr 1
  have h := shr_nat hs o.buyer.toNat
  rw [Int.toNat_of_nonneg hb] at h
  rw [h, Nat.testBit_eq_decide_div_mod_eq]
  by_cases h1 : sv.toNat / 2 ^ o.buyer.toNat % 2 = 1
  · rw [decide_eq_true h1]
    exact beq_iff_eq.2 (by omega)
  · rw [decide_eq_false h1, Bool.eq_false_iff]
    intro h2
    have := beq_iff_eq.1 h2
    omega
theorem ch_chF {fl : List Int} {lots : Int} {n : Nat} (hl : 1 ≤ lots ∧ lots ≤ 12) (hv : ∀ i, i < n → validO lots (offN fl i) = true) : ∀ (ys acc : List Int) (W g sv : Int), ch fl n acc acc.length = some (W, g, sv) → (∀ x ∈ acc, 0 ≤ x) →
    choiceV fl n (acc ++ ys) = match chF fl n ys (nxt acc) g sv with | some w => (W + w, true) | none => (0, false)
  | [], acc, W, g, sv, h, _ => by
    rw [List.append_nil, choiceV, h]
    show (W, true) = (W + 0, true)
    rw [Int.add_zero]
  | y :: ys, acc, W, g, sv, h, hp => by
    have hget : (acc ++ y :: ys).getD acc.length 0 = y := by simp [List.getD_eq_getElem?_getD]
    have hch : ch fl n (acc ++ y :: ys) acc.length = some (W, g, sv) := by rw [ch_pre _ (Nat.le_refl _), h]
    have hgl : acc.length ≠ 0 → (acc ++ y :: ys).getD (acc.length - 1) 0 = acc.getD (acc.length - 1) 0 ∧ 0 ≤ acc.getD (acc.length - 1) 0 := by
      intro h0
      have e1 : (acc ++ y :: ys).getD (acc.length - 1) 0 = acc.getD (acc.length - 1) 0 := by
        simp only [List.getD_eq_getElem?_getD, List.getElem?_append_left (show acc.length - 1 < acc.length by omega)]
      refine ⟨e1, ?_⟩
      have e2 : acc.getD (acc.length - 1) 0 ∈ acc := by
        rw [List.getD_eq_getElem?_getD, List.getElem?_eq_getElem (by omega)]
        exact List.getElem_mem _
      exact hp _ e2
    have hbad : badX n (acc ++ y :: ys) acc.length = !decide ((nxt acc : Int) ≤ y ∧ y < n) := by
      unfold badX
      rw [hget]
      rw [Bool.eq_iff_iff, Bool.not_eq_true', decide_eq_false_iff_not, Bool.or_eq_true, Bool.or_eq_true, Bool.and_eq_true, decide_eq_true_eq, decide_eq_true_eq, decide_eq_true_eq, decide_eq_true_eq]
      unfold nxt
      by_cases h0 : acc.length = 0
      · rw [if_pos h0]
        omega
      · obtain ⟨e1, e2⟩ := hgl h0
        rw [if_neg h0, e1]
        omega
    have hlen : (acc ++ y :: ys).length = acc.length + 1 + ys.length := by
      rw [List.length_append, List.length_cons]
      omega
    have none_ : ch fl n (acc ++ y :: ys) (acc.length + 1) = none → choiceV fl n (acc ++ y :: ys) = (0, false) := fun hn => by rw [choiceV, hlen, ch_none hn]
    rw [chF]
    by_cases hr : (nxt acc : Int) ≤ y ∧ y < n
    · have hy : y.toNat < n := by omega
      have hv' := valid_b hl (hv _ hy)
      have hbd := ch_bd hl hv _ _ _ _ h
      rw [if_pos hr]
      have hbo : badO (offN fl y.toNat) g sv = clash (offN fl y.toNat) g sv := badO_clash hbd.2.2.1 hv'.1.1
      by_cases hc : clash (offN fl y.toNat) g sv = true
      · rw [if_pos hc]
        refine none_ ?_
        rw [ch, hch]
        dsimp only
        rw [hbad, decide_eq_true hr, if_neg (by decide), hget, hbo, if_pos hc]
      · rw [if_neg hc]
        have hcn : ch fl n (acc ++ [y]) (acc ++ [y]).length = some (W + (offN fl y.toNat).price, ior g (offN fl y.toNat).lots, ior sv (bit (offN fl y.toNat).buyer)) := by
          have e : ch fl n (acc ++ [y]) (acc.length + 1) = ch fl n (acc ++ [y] ++ ys) (acc.length + 1) := (ch_pre (acc.length + 1) (by simp)).symm
          rw [List.length_append, List.length_singleton, e, List.append_assoc, List.singleton_append, ch, hch]
          dsimp only
          rw [hbad, decide_eq_true hr, if_neg (by decide), hget, hbo, if_neg hc]
        have ih := ch_chF hl hv ys (acc ++ [y]) _ _ _ hcn fun x hx => by
          rcases List.mem_append.1 hx with h | h
          · exact hp x h
          · have : x = y := by simpa using h
            omega
        rw [nxt_app, List.append_assoc, List.singleton_append] at ih
        rw [ih]
        cases chF fl n ys (y.toNat + 1) (ior g (offN fl y.toNat).lots) (ior sv (bit (offN fl y.toNat).buyer)) with
        | none => rfl
        | some w =>
          show (W + (offN fl y.toNat).price + w, true) = (W + (w + (offN fl y.toNat).price), true)
          rw [Int.add_assoc, Int.add_comm w]
    · rw [if_neg hr]
      refine none_ ?_
      rw [ch, hch]
      dsimp only
      rw [hbad, decide_eq_false hr]
      rfl
theorem choice_chF {fl : List Int} {lots : Int} {n : Nat} (hl : 1 ≤ lots ∧ lots ≤ 12) (hv : ∀ i, i < n → validO lots (offN fl i) = true) (ys : List Int) : choiceV fl n ys = match chF fl n ys 0 0 0 with | some w => (w, true) | none => (0, false) := by
  have := ch_chF hl hv ys [] 0 0 0 rfl fun x hx => absurd hx List.not_mem_nil
  rw [List.nil_append] at this
  rw [this]
  show (match chF fl n ys 0 0 0 with | some w => (0 + w, true) | none => (0, false)) = _
  cases chF fl n ys 0 0 0 with
  | none => rfl
  | some w => show (0 + w, true) = (w, true); rw [Int.zero_add]
/-- what Best returns -/
theorem best_srL {lots : Int} {fl : List Int} {n : Nat} (h : checkV lots fl n = 0) : (bestV lots fl n).1 = (srL fl n 0 0 0).1 ∧ (bestV lots fl n).2.1 = (srL fl n 0 0 0).2 := by
  obtain ⟨hl, hn, hv⟩ := check_ok h
  have h8 := (srch_tk hl hn hv n 0 0 0 (by omega)).2
  have h9 := tk_split (srch fl n 0 0 0).1 n 0
  rw [Nat.zero_add] at h9
  rw [bestV, if_pos h]
  exact ⟨by rw [h9, h8]; rfl, by rw [srL_2]⟩
theorem worth_mine {lots : Int} {fl : List Int} {n : Nat} (h : checkV lots fl n = 0) : choiceV fl n (bestV lots fl n).1 = ((bestV lots fl n).2.1, true) := by
  obtain ⟨hl, hn, hv⟩ := check_ok h
  obtain ⟨h1, h2⟩ := best_srL h
  rw [choice_chF hl hv, h1, h2, srL_self n 0 0 0 (by omega)]
theorem worth_theirs {lots : Int} {fl : List Int} {n : Nat} (h : checkV lots fl n = 0) (ys : List Int) (h1 : (choiceV fl n ys).2 = true) : (choiceV fl n ys).1 ≤ (bestV lots fl n).2.1 ∧ ((choiceV fl n ys).1 = (bestV lots fl n).2.1 → ord (bestV lots fl n).1 ys) := by
  obtain ⟨hl, hn, hv⟩ := check_ok h
  obtain ⟨e1, e2⟩ := best_srL h
  have hp : ∀ i, i < n → 1 ≤ (offN fl i).price := fun i hi => (valid_b hl (hv i hi)).2.2.1
  rw [choice_chF hl hv] at h1 ⊢
  cases hc : chF fl n ys 0 0 0 with
  | none => rw [hc] at h1; cases h1
  | some w =>
    rw [e1, e2]
    exact srL_top hp n 0 0 0 ys w (by omega) hc
theorem ord_get : ∀ {xs ys : List Int}, ord xs ys → ∀ k, (∀ j, j < k → xs.getD j 0 = ys.getD j 0) → (k < xs.length → k < ys.length → xs.getD k 0 ≠ ys.getD k 0 → xs.getD k 0 < ys.getD k 0) ∧ (¬ (k < xs.length ∧ k < ys.length) → k ≤ xs.length → k ≤ ys.length → ys.length ≤ xs.length)
  | [], [], _, k, _ => ⟨fun h => absurd h (Nat.not_lt_zero k), fun _ _ h => by simp⟩
  | _ :: _, [], _, k, _ => ⟨fun _ h => absurd h (Nat.not_lt_zero k), fun _ _ _ => by simp⟩
  | [], y :: ys, h, k, _ => h.elim
  | x :: xs, y :: ys, h, 0, _ => by
    refine ⟨fun _ _ hne => ?_, fun h1 => absurd ⟨Nat.succ_pos _, Nat.succ_pos _⟩ h1⟩
    rcases h with h | ⟨h, _⟩
    · exact h
    · exact absurd h hne
  | x :: xs, y :: ys, h, k + 1, hj => by
    have h0 : x = y := hj 0 (Nat.succ_pos _)
    have h1 : ord xs ys := by
      rcases h with h | h
      · omega
      · exact h.2
    obtain ⟨a, b⟩ := ord_get h1 k fun j hjk => hj (j + 1) (by omega)
    refine ⟨fun p q r => a (by simpa using p) (by simpa using q) r, fun p q r => ?_⟩
    have := b (fun hh => p ⟨by simpa using hh.1, by simpa using hh.2⟩) (by simpa using q) (by simpa using r)
    simpa using this
end Go.Proofs.Ytpobfdhmggkbaaa
