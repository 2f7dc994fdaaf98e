/- The scan of all sets and the search: the mathematics (2). -/
import Derived.Test.YtpobfdhmggkbaaaM1
import Derived.Test.YtpobfdhmggkbaaaV4
import Derived.Test.YtpobfdhmggkbaaaV9
namespace Go.Proofs.Ytpobfdhmggkbaaa
open Go.RowKit

def bitk (c : Int) (k : Nat) : Bool := iand (shr c k) 1 == 1
theorem shr_nat {c : Int} (hc : 0 ≤ c) (k : Nat) : shr c k = ((c.toNat / 2 ^ k : Nat) : Int) := by
  show c.fdiv (2 ^ (k : Int).toNat) = _
  have h3 : ((2 ^ (k : Int).toNat : Nat) : Int) = 2 ^ (k : Int).toNat := by simp
  have hp : 0 < (2 : Nat) ^ (k : Int).toNat := Nat.pow_pos (by omega)
  rw [Int.fdiv_eq_ediv_of_nonneg _ (by omega), Int.toNat_natCast]
  have h1 : ((2 ^ k : Nat) : Int) = 2 ^ k := by simp
  obtain ⟨m, rfl⟩ := Int.eq_ofNat_of_zero_le hc
  rw [← h1, Int.toNat_natCast]
  rfl
theorem bitk_eq {c : Int} (hc : 0 ≤ c) (k : Nat) : bitk c k = c.toNat.testBit k := by
  rw [bitk, shr_nat hc, Nat.testBit_eq_decide_div_mod_eq]
  show (((((c.toNat / 2 ^ k : Nat) : Int).toNat &&& (1 : Int).toNat : Nat) : Int) == 1) = _
  rw [Int.toNat_natCast, show (1 : Int).toNat = 1 from rfl, Nat.and_one_is_mod]
  by_cases h : c.toNat / 2 ^ k % 2 = 1
  · rw [decide_eq_true h, h]
    rfl
  · rw [decide_eq_false h]
    have : c.toNat / 2 ^ k % 2 = 0 := by omega
    rw [this]
    rfl
def tkF (c : Int) : Nat → Nat → List Int
  | _, 0 => []
  | i, r + 1 => if bitk c i = true then (i : Int) :: tkF c (i + 1) r else tkF c (i + 1) r
theorem tk_split (c : Int) : ∀ (r i : Nat), tk c (i + r) = tk c i ++ tkF c i r
  | 0, i => by simp [tkF]
  | r + 1, i => by
    rw [show i + (r + 1) = (i + 1) + r by omega, tk_split c r (i + 1)]
    show (if bitk c i = true then tk c i ++ [(i : Int)] else tk c i) ++ _ = tk c i ++ (if bitk c i = true then _ else _)
    split <;> simp
theorem tkF_congr {c d : Int} : ∀ (r i : Nat), (∀ k, i ≤ k → bitk c k = bitk d k) → tkF c i r = tkF d i r
  | 0, _, _ => rfl
  | r + 1, i, h => by
    rw [tkF, tkF, h i (Nat.le_refl _), tkF_congr r (i + 1) fun k hk => h k (by omega)]
theorem srch_tk {fl : List Int} {lots : Int} {n : Nat} (hl : 1 ≤ lots ∧ lots ≤ 12) (hn : n ≤ 16) (hv : ∀ i, i < n → validO lots (offN fl i) = true) : ∀ (r i : Nat) (g sv : Int), i + r = n → (∀ k, k < i → bitk (srch fl r i g sv).1 k = false) ∧ tkF (srch fl r i g sv).1 i r = (srL fl r i g sv).1
  | 0, i, g, sv, _ => ⟨fun k _ => by
      rw [bitk_eq (by exact Int.le_refl _)]
      simp [srch], rfl⟩
  | r + 1, i, g, sv, hi => by
    obtain ⟨h1, h2⟩ := srch_tk hl hn hv r (i + 1) g sv (by omega)
    obtain ⟨h3, h4⟩ := srch_tk hl hn hv r (i + 1) (ior g (offN fl i).lots) (ior sv (bit (offN fl i).buyer)) (by omega)
    have hb := (srch_bd hl hn hv r (i + 1) (ior g (offN fl i).lots) (ior sv (bit (offN fl i).buyer)) (by omega)).1.1
    have w : (∀ k, k < i → bitk (srch fl r (i + 1) g sv).1 k = false) ∧ tkF (srch fl r (i + 1) g sv).1 i (r + 1) = (srL fl r (i + 1) g sv).1 := by
      refine ⟨fun k hk => h1 k (by omega), ?_⟩
      rw [tkF, if_neg (by rw [h1 i (by omega)]; decide), h2]
    rw [srch, srL, srL_2, srL_2]
    split
    · exact w
    · split
      · exact w
      · dsimp only
        have hor : ∀ k, bitk (ior (srch fl r (i + 1) (ior g (offN fl i).lots) (ior sv (bit (offN fl i).buyer))).1 (bit i)) k = (bitk (srch fl r (i + 1) (ior g (offN fl i).lots) (ior sv (bit (offN fl i).buyer))).1 k || decide (i = k)) := by
          intro k
          rw [bitk_eq hb, bitk_eq (by show (0 : Int) ≤ ((_ : Nat) : Int); omega)]
          show ((((srch fl r (i + 1) (ior g (offN fl i).lots) (ior sv (bit (offN fl i).buyer))).1.toNat ||| (bit i).toNat : Nat) : Int)).toNat.testBit k = _
          have e : (bit i).toNat = 2 ^ i := by
            show (1 * (2 : Int) ^ (i : Int).toNat).toNat = 2 ^ i
            have : ((2 ^ i : Nat) : Int) = 2 ^ i := by simp
            rw [Int.toNat_natCast, Int.one_mul, ← this, Int.toNat_natCast]
          rw [Int.toNat_natCast, Nat.testBit_or, e, Nat.testBit_two_pow]
        refine ⟨fun k hk => ?_, ?_⟩
        · rw [hor, h3 k (by omega), decide_eq_false (by omega)]
          rfl
        · rw [tkF, if_pos (by rw [hor, decide_eq_true rfl]; simp), tkF_congr (d := (srch fl r (i + 1) (ior g (offN fl i).lots) (ior sv (bit (offN fl i).buyer))).1) r (i + 1) fun k hk => by rw [hor, decide_eq_false (by omega)]; simp, h4]
theorem ch_pre {fl : List Int} {n : Nat} {xs ys : List Int} : ∀ k, k ≤ xs.length → ch fl n (xs ++ ys) k = ch fl n xs k
  | 0, _ => rfl
  | k + 1, h => by
    have e : ∀ j, j < xs.length → (xs ++ ys).getD j 0 = xs.getD j 0 := fun j hj => by
      simp only [List.getD_eq_getElem?_getD, List.getElem?_append_left hj]
    rw [ch, ch, ch_pre k (by omega)]
    have eb : badX n (xs ++ ys) k = badX n xs k := by
      unfold badX
      rw [e k (by omega), e (k - 1) (by omega)]
    rw [eb, e k (by omega)]
theorem inn_evS {fl : List Int} {lots : Int} {n : Nat} (hl : 1 ≤ lots ∧ lots ≤ 12) (hv : ∀ i, i < n → validO lots (offN fl i) = true) (s : Nat) : ∀ (r i : Nat) (acc : List Int) (W g sv : Int), i + r = n → inn fl n (-1) s i = (acc, true, g, sv) → ch fl n acc acc.length = some (W, g, sv) → (∀ x ∈ acc, 0 ≤ x ∧ x < i) →
    match evS fl r i g sv (s % 2 ^ r) with
    | some c => (inn fl n (-1) s n).1 = acc ++ c.1 ∧ (inn fl n (-1) s n).2.1 = true ∧ (choiceV fl n (acc ++ c.1)).1 = W + c.2
    | none => (inn fl n (-1) s n).2.1 = false
  | 0, i, acc, W, g, sv, hi, h1, h2, _ => by
    obtain rfl : i = n := by omega
    show (inn fl i (-1) s i).1 = acc ++ [] ∧ (inn fl i (-1) s i).2.1 = true ∧ (choiceV fl i (acc ++ [])).1 = W + 0
    rw [h1, List.append_nil, choiceV, h2]
    exact ⟨rfl, rfl, (Int.add_zero W).symm⟩
  | r + 1, i, acc, W, g, sv, hi, h1, h2, h3 => by
    have hlt : s % 2 ^ r < 2 ^ r := Nat.mod_lt _ (Nat.pow_pos (by omega))
    have hm : s % 2 ^ (r + 1) = s % 2 ^ r + 2 ^ r * (s / 2 ^ r % 2) := by rw [Nat.pow_succ, Nat.mod_mul]
    have hfd : (s : Int).fdiv (2 ^ ((n : Int) - 1 - i).toNat) = ((s / 2 ^ r : Nat) : Int) := by
      rw [show ((n : Int) - 1 - i).toNat = r by omega]
      have := shr_nat (c := s) (by omega) r
      rw [Int.toNat_natCast] at this
      exact this
    have hv' := valid_b hl (hv i (by omega))
    have hbd := inn_bd (but := -1) (s := s) hl hv i (by omega)
    rw [h1] at hbd
    dsimp only at hbd
    by_cases hb : s / 2 ^ r % 2 = 0
    · have hi1 : inn fl n (-1) s (i + 1) = (acc, true, g, sv) := by
        rw [inn, h1, if_pos rfl, if_pos]
        rw [hfd]
        exact beq_iff_eq.2 (by omega)
      have hm0 : s % 2 ^ (r + 1) = s % 2 ^ r := by
        rw [hm, hb]
        simp
      rw [hm0, evS, if_pos hlt]
      exact inn_evS hl hv s r (i + 1) acc W g sv (by omega) hi1 h2 fun x hx => ⟨(h3 x hx).1, by have := (h3 x hx).2; omega⟩
    · have hb1 : s / 2 ^ r % 2 = 1 := by omega
      rw [hb1, Nat.mul_one] at hm
      have hbn : ¬ ((s : Int).fdiv (2 ^ ((n : Int) - 1 - i).toNat) % 2 == 0) = true := by
        rw [hfd]
        intro h
        have := beq_iff_eq.1 h
        omega
      have hsh := shr_le (b := (offN fl i).buyer) hbd.2.2.1
      have hone : (iand (shr sv (offN fl i).buyer) 1 == 1) = !(shr sv (offN fl i).buyer % 2 == 0) := by
        generalize shr sv (offN fl i).buyer = y at hsh
        show ((((y.toNat &&& (1 : Int).toNat : Nat) : Int)) == 1) = _
        rw [show (1 : Int).toNat = 1 from rfl, Nat.and_one_is_mod]
        by_cases h : y % 2 = 0
        · have : y.toNat % 2 = 0 := by omega
          rw [h, this]
          rfl
        · have h5 : y.toNat % 2 = 1 := by omega
          have h6 : y % 2 = 1 := by omega
          rw [h5, h6]
          rfl
      have hbuy : ((offN fl i).buyer != -1) = true := bne_iff_ne.2 (by omega)
      have hok : ((offN fl i).buyer != -1 && (iand g (offN fl i).lots == 0) && (shr sv (offN fl i).buyer % 2 == 0)) = !clash (offN fl i) g sv := by
        rw [clash, hone, hbuy, Bool.true_and, bne]
        cases (iand g (offN fl i).lots == 0) <;> cases (shr sv (offN fl i).buyer % 2 == 0) <;> rfl
      have hi1 : inn fl n (-1) s (i + 1) = (acc ++ [(i : Int)], !clash (offN fl i) g sv, ior g (offN fl i).lots, ior sv (bit (offN fl i).buyer)) := by
        rw [inn, h1, if_pos rfl, if_neg hbn]
        dsimp only
        rw [hok]
      rw [hm, evS, if_neg (by omega)]
      by_cases hc : clash (offN fl i) g sv = true
      · rw [if_pos hc]
        rw [hc] at hi1
        have := inn_stop (k := i + 1) (by rw [hi1]; rfl) (n - (i + 1))
        rw [show i + 1 + (n - (i + 1)) = n by omega] at this
        show (inn fl n (-1) s n).2.1 = false
        rw [this, hi1]
        rfl
      · have hcf : clash (offN fl i) g sv = false := by simpa using hc
        rw [if_neg hc, show s % 2 ^ r + 2 ^ r - 2 ^ r = s % 2 ^ r by omega]
        rw [hcf] at hi1
        have hget : (acc ++ [(i : Int)]).getD acc.length 0 = i := by simp [List.getD_eq_getElem?_getD]
        have hbx : badX n (acc ++ [(i : Int)]) acc.length = false := by
          unfold badX
          rw [hget, decide_eq_false (show ¬ (i : Int) < 0 by omega), decide_eq_false (show ¬ (i : Int) ≥ n by omega)]
          by_cases h0 : acc.length = 0
          · rw [decide_eq_false (show ¬ (acc.length : Int) > 0 by omega)]
            rfl
          · have hmem : (acc ++ [(i : Int)]).getD (acc.length - 1) 0 ∈ acc := by
              rw [List.getD_eq_getElem?_getD, List.getElem?_append_left (by omega), List.getElem?_eq_getElem (by omega)]
              exact List.getElem_mem _
            rw [decide_eq_false (show ¬ (acc ++ [(i : Int)]).getD (acc.length - 1) 0 ≥ i by have := (h3 _ hmem).2; omega)]
            simp
        have hbo : badO (offN fl i) g sv = false := by
          rw [clash, hone] at hcf
          rw [badO]
          have h5 : (shr sv (offN fl i).buyer % 2 == 1) = !(shr sv (offN fl i).buyer % 2 == 0) := by
            generalize shr sv (offN fl i).buyer = y at hsh
            by_cases h : y % 2 = 0
            · rw [h]
              rfl
            · rw [show y % 2 = 1 by omega]
              rfl
          rw [h5]
          exact hcf
        have h2' : ch fl n (acc ++ [(i : Int)]) (acc ++ [(i : Int)]).length = some (W + (offN fl i).price, ior g (offN fl i).lots, ior sv (bit (offN fl i).buyer)) := by
          rw [List.length_append, List.length_singleton, ch, ch_pre _ (Nat.le_refl _), h2]
          dsimp only
          rw [hbx, if_neg (by decide), hget, Int.toNat_natCast, hbo, if_neg (by decide)]
        have ih := inn_evS hl hv s r (i + 1) (acc ++ [(i : Int)]) (W + (offN fl i).price) _ _ (by omega) hi1 h2' fun x hx => by
          rcases List.mem_append.1 hx with h | h
          · have := h3 x h
            omega
          · have : x = i := by simpa using h
            omega
        revert ih
        cases evS fl r (i + 1) (ior g (offN fl i).lots) (ior sv (bit (offN fl i).buyer)) (s % 2 ^ r) with
        | none => exact id
        | some c =>
          rintro ⟨h5, h6, h7⟩
          refine ⟨?_, h6, ?_⟩
          · rw [h5]
            simp
          · dsimp only
            rw [show acc ++ (i : Int) :: c.1 = acc ++ [(i : Int)] ++ c.1 by simp, h7]
            omega
end Go.Proofs.Ytpobfdhmggkbaaa
