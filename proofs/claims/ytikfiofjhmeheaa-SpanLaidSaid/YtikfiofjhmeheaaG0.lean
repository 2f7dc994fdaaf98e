/- Contract of the library's exchange of two stretches of a row. -/
import Derived.Test.YtikfiofjhmeheaaS1
namespace Go.Proofs.Ytikfiofjhmeheaa
open Go.RowKit Go.Sort

/-- the stretches [a, a + k) and [b, b + k) exchanged -/
def swpB (d : Nat → Nat) (a b k : Nat) : Nat → Nat := fun x => if a ≤ x ∧ x < a + k then d (x - a + b) else if b ≤ x ∧ x < b + k then d (x - b + a) else d x
theorem swpB_zero (d : Nat → Nat) (a b : Nat) : swpB d a b 0 = d := by
  funext x
  unfold swpB
  rw [if_neg (by omega), if_neg (by omega)]
theorem swpB_step (d : Nat → Nat) {a b k : Nat} (h : a + k < b ∨ b + k < a) : swpF (swpB d a b k) (a + k) (b + k) = swpB d a b (k + 1) := by
  funext x
  by_cases h1 : x = a + k
  · subst h1
    rw [swpF_left]
    unfold swpB
    rw [if_neg (by omega), if_neg (by omega), if_pos (by omega)]
    congr 1
    omega
  · by_cases h2 : x = b + k
    · subst h2
      rw [swpF_right]
      unfold swpB
      rw [if_neg (by omega), if_neg (by omega), if_neg (by omega), if_pos (by omega)]
      congr 1
      omega
    · rw [swpF_other _ h1 h2]
      unfold swpB
      by_cases h3 : a ≤ x ∧ x < a + k
      · rw [if_pos h3, if_pos (by omega)]
      · by_cases h4 : b ≤ x ∧ x < b + k
        · rw [if_neg h3, if_pos h4, if_neg (by omega), if_pos (by omega)]
        · rw [if_neg h3, if_neg h4, if_neg (by omega), if_neg (by omega)]

set_option maxHeartbeats 2000000 in
set_option maxRecDepth 100000 in
theorem swapRange_any (cmp : Value) (w0 w : World) (blk n cap a b k : Nat) (d : Nat → Nat) (hR : Row w0 w blk n d) (hn : n ≤ 1000000) (ha : a + k ≤ n) (hb : b + k ≤ n) (hd : a + k ≤ b ∨ b + k ≤ a) :
    Calls Try.prog 116 #[.slice (some ⟨blk, 0, none⟩) n cap, .int .i64 a, .int .i64 b, .int .i64 k, cmp] w fun e w' => e = .returned (.tuple #[]) ∧ Row w0 w' blk n (swpB d a b k) := by
  have mixed := mixedOrders
  have HR := hide hR
  clear hR
  go_enter Try.func116, Try.ntmps116
  go_wp2
  go_loopw [10] (fun vi wr => ∃ i : Nat, i ≤ k ∧ vi = .int .i64 i ∧ Hid (Row w0 wr blk n (swpB d a b i))) (fun vi _ => k - (intOf vi).toNat)
  case atStart => exact ⟨0, Nat.zero_le _, rfl, by rw [swpB_zero]; exact HR⟩
  case round =>
    obtain ⟨i, hi, rfl, R1⟩ := hrel
    by_cases hik : i < k
    · have hik' : (i : Int) < (k : Int) := by omega
      obtain ⟨p, hp⟩ : ∃ p, p = a + i := ⟨_, rfl⟩
      obtain ⟨q, hq⟩ : ∃ q, q = b + i := ⟨_, rfl⟩
      have hpe : (a : Int) + (i : Int) = (p : Int) := by omega
      have hqe : (b : Int) + (i : Int) = (q : Int) := by omega
      have hpn : (p : Int) < (n : Int) := by omega
      have hqn : (q : Int) < (n : Int) := by omega
      have hpq : p ≠ q := by omega
      have m1 := R1.out.cell p (by omega)
      have m2 := R1.out.cell q (by omega)
      have f1 := R1.out.free p
      have f2 := R1.out.free q
      have R4 := hide (R1.out.swap (i := p) (j := q) (by omega) (by omega))
      rw [hp, hq, swpB_step d (by omega), ← hp, ← hq] at R4
      generalize swpB d a b i p = x at m1 R4
      generalize swpB d a b i q = y at m2 R4
      have m3 : (wr.setCell ⟨blk, p, none⟩ (.int .i64 y)).cell? ⟨blk, q, none⟩ = some (.int .i64 y) := (World.cell?_setCell_other _ _ _ _ (by intro e'; simp only [Addr.mk.injEq] at e'; omega)).trans m2
      clear hp hq
      go_wp2_with fail
      go_big_region
      go_wp2
      go_roundw
      case rel => exact ⟨i + 1, by omega, by go_num, R4⟩
      case measure => simp [intOf]; omega
    · obtain rfl : i = k := by omega
      go_wp2
      go_end0
      exact ⟨rfl, R1.out⟩

end Go.Proofs.Ytikfiofjhmeheaa
