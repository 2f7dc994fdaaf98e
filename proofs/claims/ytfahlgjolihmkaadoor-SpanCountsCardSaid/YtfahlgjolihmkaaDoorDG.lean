/- Decimal numerals: what Digits lays is strconv's, and what Atoi reads of it is the number. -/
import Derived.Lib.ItoaNum
import Derived.Lib.Atoi
namespace Go.Proofs.YtfahlgjolihmkaaDoor
open Go.Lib
theorem dig_byte {d : Nat} (h : d < 10) : digitVal (UInt8.ofNat (48 + d)) = some d := by
  have key : ∀ k : Fin 10, digitVal (UInt8.ofNat (48 + k.val)) = some k.val := by decide +kernel
  exact key ⟨d, h⟩
theorem dig_ne {d : Nat} (h : d < 10) (b : UInt8) (hb : b.toNat < 48 ∨ 57 < b.toNat) : UInt8.ofNat (48 + d) ≠ b := by
  intro e
  have key : ∀ k : Fin 10, 48 ≤ (UInt8.ofNat (48 + k.val)).toNat ∧ (UInt8.ofNat (48 + k.val)).toNat ≤ 57 := by decide +kernel
  have := key ⟨d, h⟩
  dsimp only at this
  rw [e] at this
  omega
theorem decFrom_snoc : ∀ (l : List UInt8) (acc n : Nat) (b : UInt8) (d : Nat), decFrom acc l = some n → digitVal b = some d → decFrom acc (l ++ [b]) = some (n * 10 + d)
  | [], acc, n, b, d, h, hd => by
    simp only [decFrom, Option.some.injEq] at h
    subst h
    simp [decFrom, hd]
  | a :: l, acc, n, b, d, h, hd => by
    simp only [decFrom, List.cons_append] at h ⊢
    split at h
    · rename_i d' hd'
      exact decFrom_snoc l _ n b d h hd
    · cases h
/-- the digits' value -/
theorem decFrom_dec (u : Nat) : decFrom 0 (decDigits u) = some u := by
  induction u using Nat.strongRecOn with
  | _ u ih =>
    by_cases h : u < 10
    · rw [decDigits, dif_pos h]
      simp only [decFrom, dig_byte h, Nat.zero_mul, Nat.zero_add]
    · rw [decDigits, dif_neg h]
      have := decFrom_snoc _ _ _ _ _ (ih (u / 10) (by omega)) (dig_byte (d := u % 10) (by omega))
      rw [this]
      congr 1
      omega
/-- every byte of a numeral's digits is a digit -/
theorem dec_digit (u : Nat) : ∀ b ∈ decDigits u, 48 ≤ b.toNat ∧ b.toNat ≤ 57 := by
  have key : ∀ k : Fin 10, 48 ≤ (UInt8.ofNat (48 + k.val)).toNat ∧ (UInt8.ofNat (48 + k.val)).toNat ≤ 57 := by decide +kernel
  induction u using Nat.strongRecOn with
  | _ u ih =>
    intro b hb
    by_cases h : u < 10
    · rw [decDigits, dif_pos h] at hb
      rw [List.mem_singleton.1 hb]
      exact key ⟨u, h⟩
    · rw [decDigits, dif_neg h] at hb
      rcases List.mem_append.1 hb with hb | hb
      · exact ih (u / 10) (by omega) b hb
      · rw [List.mem_singleton.1 hb]
        exact key ⟨u % 10, by omega⟩
theorem dec_some (u : Nat) : decDigits u ≠ [] := by
  rw [decDigits]
  split <;> simp
theorem decNat_dec (u : Nat) : decNat (decDigits u) = some u := by
  unfold decNat
  rw [if_neg (by simpa using dec_some u), decFrom_dec]
/-- Atoi reads what Itoa writes -/
theorem atoi_itoa (n : Int) : atoi (itoa n) = some n := by
  unfold itoa
  split
  · rename_i h
    simp only [atoi]
    rw [if_pos (by rfl), decNat_dec]
    simp
    omega
  · rename_i h
    cases e : decDigits n.toNat with
    | nil => exact absurd e (dec_some _)
    | cons b r =>
      have hb := dec_digit n.toNat b (by rw [e]; exact List.mem_cons_self)
      have h1 : (b == 45) = false := by
        rw [beq_eq_false_iff_ne]
        intro h
        subst h
        exact absurd hb.1 (by decide)
      have h2 : (b == 43) = false := by
        rw [beq_eq_false_iff_ne]
        intro h
        subst h
        exact absurd hb.1 (by decide)
      simp only [atoi]
      rw [h1, h2]
      simp only [Bool.false_eq_true, if_false]
      rw [← e, decNat_dec]
      simp
      omega
/-- the loop of Digits: what has been laid, and what is left -/
def DgI (u v : Nat) (out : List UInt8) : Prop := decDigits u = if v = 0 ∧ out ≠ [] then out else decDigits v ++ out
theorem dgI_0 (u : Nat) : DgI u u [] := by
  unfold DgI
  rw [if_neg (fun h => h.2 rfl), List.append_nil]
theorem dgI_step {u v : Nat} {out : List UInt8} (h : DgI u v out) (hv : v ≠ 0 ∨ out = []) : DgI u (v / 10) (UInt8.ofNat (48 + v % 10) :: out) := by
  unfold DgI at h ⊢
  rw [if_neg (fun hh => hv.elim (fun q => q hh.1) hh.2)] at h
  rw [h]
  by_cases h10 : v < 10
  · have e : v / 10 = 0 := by omega
    rw [if_pos ⟨e, by simp⟩, decDigits, dif_pos h10, show v % 10 = v by omega]
    rfl
  · rw [if_neg (fun hh => by have := hh.1; omega)]
    rw [decDigits, dif_neg h10]
    simp
theorem dgI_end {u v : Nat} {out : List UInt8} (h : DgI u v out) (hv : ¬ (v ≠ 0 ∨ out = [])) : out = decDigits u := by
  unfold DgI at h
  rw [if_pos ⟨by omega, fun e => hv (.inr e)⟩] at h
  exact h.symm
/-- two numbers of one numeral are one -/
theorem itoa_inj {n m : Int} (h : itoa n = itoa m) : n = m := by
  have := atoi_itoa n
  rw [h, atoi_itoa] at this
  exact (Option.some.inj this).symm
/-- what a numeral has not: a blank, a point -/
theorem itoa_byte (n : Int) : ∀ b ∈ itoa n, b = 45 ∨ (48 ≤ b.toNat ∧ b.toNat ≤ 57) := by
  intro b hb
  unfold itoa at hb
  split at hb
  · rcases List.mem_cons.1 hb with e | hb
    · exact .inl e
    · exact .inr (dec_digit _ b hb)
  · exact .inr (dec_digit _ b hb)
theorem itoa_some (n : Int) : itoa n ≠ [] := by
  unfold itoa
  split
  · simp
  · exact dec_some _
end Go.Proofs.YtfahlgjolihmkaaDoor
