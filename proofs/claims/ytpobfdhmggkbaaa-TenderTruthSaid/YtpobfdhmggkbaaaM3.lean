/- The scan of all sets and the search: the mathematics (3). -/
import Derived.Test.YtpobfdhmggkbaaaM2
namespace Go.Proofs.Ytpobfdhmggkbaaa
open Go.RowKit

def setF (fl : List Int) (n : Nat) (s : Nat) : Option Cand := if (inn fl n (-1) s n).2.1 = true then some ((inn fl n (-1) s n).1, (choiceV fl n (inn fl n (-1) s n).1).1) else none
theorem outr_scan (fl : List Int) (n : Nat) : ∀ j, j ≤ 2 ^ n → scan (setF fl n) (2 ^ n) ([], -1) = scan (setF fl n) (2 ^ n - j) (outr fl n (-1) j)
  | 0, _ => rfl
  | j + 1, h => by
    rw [outr_scan fl n j (by omega)]
    have e : 2 ^ n - j = (2 ^ n - (j + 1)) + 1 := by omega
    rw [e]
    show scan (setF fl n) (2 ^ n - (j + 1)) (upC (outr fl n (-1) j) (setF fl n (2 ^ n - (j + 1)))) = _
    congr 1
    have es : bit n - 1 - (j : Int) = ((2 ^ n - (j + 1) : Nat) : Int) := by
      show 1 * (2 : Int) ^ (n : Int).toNat - 1 - (j : Int) = _
      have h1 : ((2 ^ n : Nat) : Int) = 2 ^ n := by simp
      rw [Int.toNat_natCast, Int.one_mul, ← h1]
      omega
    rw [outr, es, setF]
    split
    · rfl
    · rfl
theorem math_best {lots : Int} {fl : List Int} {n : Nat} (hl : 1 ≤ lots ∧ lots ≤ 12) (hn : n ≤ 16) (hv : ∀ i, i < n → validO lots (offN fl i) = true) : outr fl n (-1) (2 ^ n) = (tk (srch fl n 0 0 0).1 n, (srch fl n 0 0 0).2) := by
  have h1 := outr_scan fl n (2 ^ n) (Nat.le_refl _)
  rw [Nat.sub_self] at h1
  have hp : ∀ i, i < n → 1 ≤ (offN fl i).price := fun i hi => (valid_b hl (hv i hi)).2.2.1
  have h2 := (scan_evS hp n 0 0 0 (by omega)).2
  have h3 : scan (setF fl n) (2 ^ n) ([], -1) = scan (evS fl n 0 0 0) (2 ^ n) ([], -1) := by
    refine scan_congr _ _ _ _ fun s hs => ?_
    have := inn_evS hl hv s n 0 [] 0 0 0 (by omega) rfl rfl (fun x hx => absurd hx (List.not_mem_nil))
    rw [Nat.mod_eq_of_lt hs] at this
    revert this
    cases evS fl n 0 0 0 s with
    | none =>
      intro h
      have h : (inn fl n (-1) s n).2.1 = false := h
      rw [setF, if_neg (by rw [h]; decide)]
    | some c =>
      rintro ⟨h4, h5, h6⟩
      rw [setF, if_pos h5, h4, h6, List.nil_append, Int.zero_add]
  have h7 : scan (setF fl n) 0 (outr fl n (-1) (2 ^ n)) = outr fl n (-1) (2 ^ n) := rfl
  rw [h7] at h1
  rw [← h1, h3, h2]
  have h8 := (srch_tk hl hn hv n 0 0 0 (by omega)).2
  have h9 := tk_split (srch fl n 0 0 0).1 n 0
  rw [Nat.zero_add] at h9
  rw [h9, h8, ← srL_2]
  rfl
theorem best_math (lots : Int) (fl : List Int) (n : Nat) (h : checkV lots fl n = 0) : outr fl n (-1) (2 ^ n) = ((bestV lots fl n).1, (bestV lots fl n).2.1) := by
  obtain ⟨hl, hn, hv⟩ := check_ok h
  rw [math_best hl hn hv, bestV, if_pos h]
end Go.Proofs.Ytpobfdhmggkbaaa
