/- The scan of all sets but for one buyer, and the search. -/
import Derived.Test.YtpobfdhmggkbaaaM4
namespace Go.Proofs.Ytpobfdhmggkbaaa
open Go.RowKit

theorem inn_evB {fl : List Int} {lots : Int} {n : Nat} (hl : 1 ≤ lots ∧ lots ≤ 12) (hv : ∀ i, i < n → validO lots (offN fl i) = true) (but : Int) (s : Nat) : ∀ (r i : Nat) (acc : List Int) (W g sv sv' : Int), i + r = n → inn fl n but s i = (acc, true, g, sv) → ch fl n acc acc.length = some (W, g, sv) → (∀ x ∈ acc, 0 ≤ x ∧ x < i) → 0 ≤ sv' → (∀ k : Nat, sv'.toNat.testBit k = (sv.toNat.testBit k || decide ((k : Int) = but))) →
    match evS fl r i g sv' (s % 2 ^ r) with
    | some c => (inn fl n but s n).1 = acc ++ c.1 ∧ (inn fl n but s n).2.1 = true ∧ (choiceV fl n (acc ++ c.1)).1 = W + c.2
    | none => (inn fl n but s n).2.1 = false
  | 0, i, acc, W, g, sv, sv', hi, h1, h2, _, _, _ => by
    obtain rfl : i = n := by omega
    show (inn fl i but s i).1 = acc ++ [] ∧ (inn fl i but s i).2.1 = true ∧ (choiceV fl i (acc ++ [])).1 = W + 0
    rw [h1, List.append_nil, choiceV, h2]
    exact ⟨rfl, rfl, (Int.add_zero W).symm⟩
  | r + 1, i, acc, W, g, sv, sv', hi, h1, h2, h3, hs0, hrel => by
    have hlt : s % 2 ^ r < 2 ^ r := Nat.mod_lt _ (Nat.pow_pos (by omega))
    have hm : s % 2 ^ (r + 1) = s % 2 ^ r + 2 ^ r * (s / 2 ^ r % 2) := by rw [Nat.pow_succ, Nat.mod_mul]
    have hfd : (s : Int).fdiv (2 ^ ((n : Int) - 1 - i).toNat) = ((s / 2 ^ r : Nat) : Int) := by
      rw [show ((n : Int) - 1 - i).toNat = r by omega]
      have := shr_nat (c := s) (by omega) r
      rw [Int.toNat_natCast] at this
      exact this
    have hv' := valid_b hl (hv i (by omega))
    have hbd := inn_bd (but := but) (s := s) hl hv i (by omega)
    rw [h1] at hbd
    dsimp only at hbd
    by_cases hb : s / 2 ^ r % 2 = 0
    · have hi1 : inn fl n but s (i + 1) = (acc, true, g, sv) := by
        rw [inn, h1, if_pos rfl, if_pos]
        rw [hfd]
        exact beq_iff_eq.2 (by omega)
      have hm0 : s % 2 ^ (r + 1) = s % 2 ^ r := by
        rw [hm, hb]
        simp
      rw [hm0, evS, if_pos hlt]
      exact inn_evB hl hv but s r (i + 1) acc W g sv sv' (by omega) hi1 h2 (fun x hx => ⟨(h3 x hx).1, by have := (h3 x hx).2; omega⟩) hs0 hrel
    · have hb1 : s / 2 ^ r % 2 = 1 := by omega
      rw [hb1, Nat.mul_one] at hm
      have hbn : ¬ ((s : Int).fdiv (2 ^ ((n : Int) - 1 - i).toNat) % 2 == 0) = true := by
        rw [hfd]
        intro h
        have := beq_iff_eq.1 h
        omega
      have hsh := shr_le (b := (offN fl i).buyer) hbd.2.2.1
      have hone : (iand (shr sv (offN fl i).buyer) 1 == 1) = !(shr sv (offN fl i).buyer % 2 == 0) := by
        generalize shr sv (offN fl i).buyer = y at hsh
        show ((((y.toNat &&& (1 : Int).toNat : Nat) : Int)) == 1) = _
        rw [show (1 : Int).toNat = 1 from rfl, Nat.and_one_is_mod]
        by_cases h : y % 2 = 0
        · have : y.toNat % 2 = 0 := by omega
          rw [h, this]
          rfl
        · have h5 : y.toNat % 2 = 1 := by omega
          have h6 : y % 2 = 1 := by omega
          rw [h5, h6]
          rfl
      have hcl : clash (offN fl i) g sv' = (clash (offN fl i) g sv || ((offN fl i).buyer == but)) := by
        rw [clash, clash, shr_tb hs0 hv'.1.1, shr_tb hbd.2.2.1 hv'.1.1, hrel, Int.toNat_of_nonneg hv'.1.1, Bool.or_assoc]
        congr 2
      have hok : ((offN fl i).buyer != but && (iand g (offN fl i).lots == 0) && (shr sv (offN fl i).buyer % 2 == 0)) = !clash (offN fl i) g sv' := by
        rw [hcl, clash, hone, bne, bne]
        cases (iand g (offN fl i).lots == 0) <;> cases (shr sv (offN fl i).buyer % 2 == 0) <;> cases ((offN fl i).buyer == but) <;> rfl
      have hi1 : inn fl n but s (i + 1) = (acc ++ [(i : Int)], !clash (offN fl i) g sv', ior g (offN fl i).lots, ior sv (bit (offN fl i).buyer)) := by
        rw [inn, h1, if_pos rfl, if_neg hbn]
        dsimp only
        rw [hok]
      rw [hm, evS, if_neg (by omega)]
      by_cases hc : clash (offN fl i) g sv' = true
      · rw [if_pos hc]
        rw [hc] at hi1
        have := inn_stop (k := i + 1) (by rw [hi1]; rfl) (n - (i + 1))
        rw [show i + 1 + (n - (i + 1)) = n by omega] at this
        show (inn fl n but s n).2.1 = false
        rw [this, hi1]
        rfl
      · have hcf : clash (offN fl i) g sv' = false := by simpa using hc
        have hcf2 : clash (offN fl i) g sv = false := by
          rw [hcl] at hcf
          exact (Bool.or_eq_false_iff.1 hcf).1
        rw [if_neg hc, show s % 2 ^ r + 2 ^ r - 2 ^ r = s % 2 ^ r by omega]
        rw [hcf] at hi1
        have hget : (acc ++ [(i : Int)]).getD acc.length 0 = i := by simp [List.getD_eq_getElem?_getD]
        have hbx : badX n (acc ++ [(i : Int)]) acc.length = false := by
          unfold badX
          rw [hget, decide_eq_false (show ¬ (i : Int) < 0 by omega), decide_eq_false (show ¬ (i : Int) ≥ n by omega)]
          by_cases h0 : acc.length = 0
          · rw [decide_eq_false (show ¬ (acc.length : Int) > 0 by omega)]
            rfl
          · have hmem : (acc ++ [(i : Int)]).getD (acc.length - 1) 0 ∈ acc := by
              rw [List.getD_eq_getElem?_getD, List.getElem?_append_left (by omega), List.getElem?_eq_getElem (by omega)]
              exact List.getElem_mem _
            rw [decide_eq_false (show ¬ (acc ++ [(i : Int)]).getD (acc.length - 1) 0 ≥ i by have := (h3 _ hmem).2; omega)]
            simp
        have hbo : badO (offN fl i) g sv = false := by
          rw [clash, hone] at hcf2
          rw [badO]
          have h5 : (shr sv (offN fl i).buyer % 2 == 1) = !(shr sv (offN fl i).buyer % 2 == 0) := by
            generalize shr sv (offN fl i).buyer = y at hsh
            by_cases h : y % 2 = 0
            · rw [h]
              rfl
            · rw [show y % 2 = 1 by omega]
              rfl
          rw [h5]
          exact hcf2
        have h2' : ch fl n (acc ++ [(i : Int)]) (acc ++ [(i : Int)]).length = some (W + (offN fl i).price, ior g (offN fl i).lots, ior sv (bit (offN fl i).buyer)) := by
          rw [List.length_append, List.length_singleton, ch, ch_pre _ (Nat.le_refl _), h2]
          dsimp only
          rw [hbx, if_neg (by decide), hget, Int.toNat_natCast, hbo, if_neg (by decide)]
        have ih := inn_evB hl hv but s r (i + 1) (acc ++ [(i : Int)]) (W + (offN fl i).price) _ _ (ior sv' (bit (offN fl i).buyer)) (by omega) hi1 h2' (fun x hx => by
          rcases List.mem_append.1 hx with h | h
          · have := h3 x h
            omega
          · have : x = i := by simpa using h
            omega) (ior_pos _ _) (fun k => by
          rw [ior_tb, ior_tb, hrel]
          cases sv.toNat.testBit k <;> cases (bit (offN fl i).buyer).toNat.testBit k <;> simp)
        revert ih
        cases evS fl r (i + 1) (ior g (offN fl i).lots) (ior sv' (bit (offN fl i).buyer)) (s % 2 ^ r) with
        | none => exact id
        | some c =>
          rintro ⟨h5, h6, h7⟩
          refine ⟨?_, h6, ?_⟩
          · rw [h5]
            simp
          · dsimp only
            rw [show acc ++ (i : Int) :: c.1 = acc ++ [(i : Int)] ++ c.1 by simp, h7]
            omega

def setB (fl : List Int) (n : Nat) (but : Int) (s : Nat) : Option Cand := if (inn fl n but s n).2.1 = true then some ((inn fl n but s n).1, (choiceV fl n (inn fl n but s n).1).1) else none
theorem outr_scanB (fl : List Int) (n : Nat) (but : Int) : ∀ j, j ≤ 2 ^ n → scan (setB fl n but) (2 ^ n) ([], -1) = scan (setB fl n but) (2 ^ n - j) (outr fl n but j)
  | 0, _ => rfl
  | j + 1, h => by
    rw [outr_scanB fl n but j (by omega)]
    have e : 2 ^ n - j = (2 ^ n - (j + 1)) + 1 := by omega
    rw [e]
    show scan (setB fl n but) (2 ^ n - (j + 1)) (upC (outr fl n but j) (setB fl n but (2 ^ n - (j + 1)))) = _
    congr 1
    have es : bit n - 1 - (j : Int) = ((2 ^ n - (j + 1) : Nat) : Int) := by
      show 1 * (2 : Int) ^ (n : Int).toNat - 1 - (j : Int) = _
      have h1 : ((2 ^ n : Nat) : Int) = 2 ^ n := by simp
      rw [Int.toNat_natCast, Int.one_mul, ← h1]
      omega
    rw [outr, es, setB]
    split
    · rfl
    · rfl
theorem math_but {lots : Int} {fl : List Int} {n : Nat} {b : Int} (hb : 0 ≤ b) (hl : 1 ≤ lots ∧ lots ≤ 12) (hv : ∀ i, i < n → validO lots (offN fl i) = true) : outr fl n b (2 ^ n) = srL fl n 0 0 (bit b) := by
  have h1 := outr_scanB fl n b (2 ^ n) (Nat.le_refl _)
  rw [Nat.sub_self] at h1
  have hp : ∀ i, i < n → 1 ≤ (offN fl i).price := fun i hi => (valid_b hl (hv i hi)).2.2.1
  have h2 := (scan_evS hp n 0 0 (bit b) (by omega)).2
  have h3 : scan (setB fl n b) (2 ^ n) ([], -1) = scan (evS fl n 0 0 (bit b)) (2 ^ n) ([], -1) := by
    refine scan_congr _ _ _ _ fun s hs => ?_
    have := inn_evB hl hv b s n 0 [] 0 0 0 (bit b) (by omega) rfl rfl (fun x hx => absurd hx (List.not_mem_nil)) (bit_pos _) (bar0 hb)
    rw [Nat.mod_eq_of_lt hs] at this
    revert this
    cases evS fl n 0 0 (bit b) s with
    | none =>
      intro h
      have h : (inn fl n b s n).2.1 = false := h
      rw [setB, if_neg (by rw [h]; decide)]
    | some c =>
      rintro ⟨h4, h5, h6⟩
      rw [setB, if_pos h5, h4, h6, List.nil_append, Int.zero_add]
  have h7 : scan (setB fl n b) 0 (outr fl n b (2 ^ n)) = outr fl n b (2 ^ n) := rfl
  rw [h7] at h1
  rw [← h1, h3, h2]
end Go.Proofs.Ytpobfdhmggkbaaa
