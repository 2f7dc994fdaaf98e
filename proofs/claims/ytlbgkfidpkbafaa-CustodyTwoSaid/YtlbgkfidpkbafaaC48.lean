/- Nobody opens alone. -/
import Derived.Test.YtlbgkfidpkbafaaC39
import Derived.Test.YtlbgkfidpkbafaaE20
namespace Go.Proofs.Ytlbgkfidpkbafaa
open Go.RowKit
set_option linter.unusedSimpArgs false
set_option linter.unusedVariables false
theorem brTT {b : Bool} {G G' : Prop} (h : b = true) (k : G) : (b = true → G) ∧ (b = false → G') := ⟨fun _ => k, fun h' => absurd (h.symm.trans h') (by decide)⟩
theorem brTF {b : Bool} {G G' : Prop} (h : b = false) (k : G') : (b = true → G) ∧ (b = false → G') := ⟨fun h' => absurd (h.symm.trans h') (by decide), fun _ => k⟩
theorem brFT {b : Bool} {G G' : Prop} (h : b = true) (k : G') : (b = false → G) ∧ (b = true → G') := ⟨fun h' => absurd (h.symm.trans h') (by decide), fun _ => k⟩
theorem brFF {b : Bool} {G G' : Prop} (h : b = false) (k : G) : (b = false → G) ∧ (b = true → G') := ⟨fun _ => k, fun h' => absurd (h.symm.trans h') (by decide)⟩
def stB (s : St) (no : Int) : Bool := inB s no && standsB s.d s.xs (no - 1).toNat
theorem Stands_a (s : St) (hs : Good s) (no : Int) : CallA Try.prog 28 [.t (.a (.s (.ptr 0 0))), .int .i64 no] (heap0 false s)
    (fun w H => w = tupOf [.a (.s (.v (.bool (stB s no)))), .a (.s (.v (.int .i64 (if inB s no = true then 0 else 6))))] ∧ H = heap0 false s) := by
  by_cases h : inB s no = true
  · have h1 := h
    unfold inB at h1
    rw [Bool.and_eq_true, decide_eq_true_eq, decide_eq_true_eq] at h1
    unfold stB
    rw [h, if_pos rfl, Bool.true_and]
    exact Stands_e s.d s.n s.xs s.m s.es hs.rng.wf (no - 1).toNat (by omega) no (by omega)
  · have h : inB s no = false := by simpa using h
    unfold stB
    rw [h, Bool.false_and, if_neg (by decide)]
    exact Stands_none s.d s.n s.xs s.m s.es no h
theorem hasOpen_and {r t : Int} (h1 : hasOpen r = true) (h2 : hasOpen t = true) : (((((r.toNat &&& t.toNat : Nat) : Int).toNat &&& 1 : Nat) : Int) == 0) = false := by
  unfold hasOpen at h1 h2
  rw [bne_iff_ne] at h1 h2
  rw [beq_eq_false_iff_ne, Int.toNat_natCast]
  have a1 : r.toNat &&& 1 = 1 := by have := Nat.and_one_is_mod r.toNat; omega
  have a2 : t.toNat &&& 1 = 1 := by have := Nat.and_one_is_mod t.toNat; omega
  rw [Nat.and_assoc, a2, a1]
  decide
theorem fd_pow (X q : Nat) : (X : Int).fdiv (2 ^ q) = ((X / 2 ^ q : Nat) : Int) := by
  have hp : (0 : Int) ≤ 2 ^ q := Int.le_of_lt (Int.pow_pos (by decide))
  rw [Int.fdiv_eq_ediv_of_nonneg _ hp]
  push_cast
  rfl
theorem hasV_bit {X : Nat} {a : Int} (h : hasV (X : Int) a = true) : X.testBit a.toNat = true := by
  unfold hasV at h
  have h := beq_iff_eq.1 h
  rw [fd_pow, Int.toNat_natCast, Nat.and_one_is_mod] at h
  rw [Nat.testBit_eq_decide_div_mod_eq]
  exact decide_eq_true (by exact_mod_cast h)
theorem hasV_and {v w a : Int} (v0 : 0 ≤ v) (w0 : 0 ≤ w) (h1 : hasV v a = true) (h2 : hasV w a = true) : ((((v.toNat &&& w.toNat : Nat) : Int).fdiv (2 ^ a.toNat)) % 2 == 0) = false := by
  obtain ⟨V, rfl⟩ := Int.eq_ofNat_of_zero_le v0
  obtain ⟨W, rfl⟩ := Int.eq_ofNat_of_zero_le w0
  have k3 : (V &&& W).testBit a.toNat = true := by rw [Nat.testBit_and, hasV_bit h1, hasV_bit h2]; rfl
  rw [Nat.testBit_eq_decide_div_mod_eq] at k3
  have k3 := of_decide_eq_true k3
  rw [beq_eq_false_iff_ne, Int.toNat_natCast, Int.toNat_natCast, fd_pow]
  omega
end Go.Proofs.Ytlbgkfidpkbafaa
