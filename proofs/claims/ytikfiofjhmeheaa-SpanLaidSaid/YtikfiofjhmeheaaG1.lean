/- Contract of the library's rotation of a stretch of a row. -/
import Derived.Test.YtikfiofjhmeheaaG0
namespace Go.Proofs.Ytikfiofjhmeheaa
open Go.RowKit Go.Sort

/-- [a, m) and [m, b) change their order -/
def rotF (d : Nat → Nat) (a m b : Nat) : Nat → Nat := fun x => if a ≤ x ∧ x < a + (b - m) then d (x + (m - a)) else if a + (b - m) ≤ x ∧ x < b then d (x - (b - m)) else d x
theorem rot_left (d : Nat → Nat) {i j m : Nat} (h1 : j < i) (h2 : i ≤ m) (h3 : 0 < j) : rotF (swpB d (m - i) m j) (m - (i - j)) m (m + j) = rotF d (m - i) m (m + j) := by
  funext x
  unfold rotF swpB
  repeat' split
  all_goals first | rfl | (exfalso; omega) | (congr 1; omega)
theorem rot_right (d : Nat → Nat) {i j m : Nat} (h1 : i < j) (h2 : i ≤ m) (h3 : 0 < i) : rotF (swpB d (m - i) (m + j - i) i) (m - i) m (m + (j - i)) = rotF d (m - i) m (m + j) := by
  funext x
  unfold rotF swpB
  repeat' split
  all_goals first | rfl | (exfalso; omega) | (congr 1; omega)
theorem rot_end (d : Nat → Nat) {i m : Nat} (h2 : i ≤ m) (h3 : 0 < i) : swpB d (m - i) m i = rotF d (m - i) m (m + i) := by
  funext x
  unfold rotF swpB
  repeat' split
  all_goals first | rfl | (exfalso; omega) | (congr 1; omega)

set_option maxHeartbeats 2000000 in
set_option maxRecDepth 100000 in
theorem rotate_any (cmp : Value) (w0 w : World) (blk n cap a m b : Nat) (d : Nat → Nat) (hR : Row w0 w blk n d) (hn : n ≤ 1000000) (ha : a < m) (hm : m < b) (hb : b ≤ n) :
    Calls Try.prog 115 #[.slice (some ⟨blk, 0, none⟩) n cap, .int .i64 a, .int .i64 m, .int .i64 b, cmp] w fun e w' => e = .returned (.tuple #[]) ∧ Row w0 w' blk n (rotF d a m b) := by
  have mixed := mixedOrders
  have HR := hide hR
  clear hR
  have e1 : (m : Int) - (a : Int) = ((m - a : Nat) : Int) := by omega
  have e2 : (b : Int) - (m : Int) = ((b - m : Nat) : Int) := by omega
  go_enter Try.func115, Try.ntmps115
  go_wp2
  clear e1 e2
  go_loopw [10, 11] (fun vi vj wr => ∃ (i j : Nat) (dk : Nat → Nat), vi = .int .i64 i ∧ vj = .int .i64 j ∧ 0 < i ∧ 0 < j ∧ a ≤ m - i ∧ i ≤ m ∧ m + j ≤ b ∧ Hid (Row w0 wr blk n dk) ∧ Hid (rotF dk (m - i) m (m + j) = rotF d a m b)) (fun vi vj _ => (intOf vi).toNat + (intOf vj).toNat)
  case atStart => exact ⟨m - a, b - m, d, rfl, rfl, by omega, by omega, by omega, by omega, by omega, HR, by rw [show m - (m - a) = a by omega, show m + (b - m) = b by omega]; rfl⟩
  case round =>
    obtain ⟨i, j, dk, rfl, rfl, hi, hj, hai, him, hjb, R1, HE⟩ := hrel
    by_cases hij : i = j
    · subst hij
      have hne : ((i : Int) != (i : Int)) = false := by simp
      have e1 : (m : Int) - (i : Int) = ((m - i : Nat) : Int) := by omega
      have HS := hide (swapRange_any cmp w0 wr blk n cap (m - i) m i dk R1.out hn (by omega) (by omega) (.inl (by omega)))
      rw [rot_end dk him hi, HE.out] at HS
      go_wp2_with fail
      refine HS.out.mono ?_
      rintro e w2 ⟨rfl, h2⟩
      have H2 := hide h2
      clear h2 HS
      go_wp2
      go_end0
      exact ⟨rfl, H2.out⟩
    · have hne : ((i : Int) != (j : Int)) = true := by rw [bne_iff_ne]; omega
      by_cases hlt : j < i
      · have hd : decide ((j : Int) < (i : Int)) = true := decide_eq_true (by omega)
        have e1 : (m : Int) - (i : Int) = ((m - i : Nat) : Int) := by omega
        have e2 : (i : Int) - (j : Int) = ((i - j : Nat) : Int) := by omega
        have HS := hide (swapRange_any cmp w0 wr blk n cap (m - i) m j dk R1.out hn (by omega) (by omega) (.inl (by omega)))
        have HN := hide ((rot_left dk hlt him hj).trans HE.out)
        go_wp2_with fail
        refine HS.out.mono ?_
        rintro e w2 ⟨rfl, h2⟩
        have H2 := hide h2
        clear h2 HS
        go_wp2
        go_roundw
        case rel => exact ⟨i - j, j, _, rfl, rfl, by omega, hj, by omega, by omega, hjb, H2, HN⟩
        case measure => simp [intOf]; omega
      · have hd : decide ((j : Int) < (i : Int)) = false := decide_eq_false (by omega)
        have e1 : (m : Int) - (i : Int) = ((m - i : Nat) : Int) := by omega
        have e2 : (j : Int) - (i : Int) = ((j - i : Nat) : Int) := by omega
        have e3 : (m : Int) + (j : Int) - (i : Int) = ((m + j - i : Nat) : Int) := by omega
        have HS := hide (swapRange_any cmp w0 wr blk n cap (m - i) (m + j - i) i dk R1.out hn (by omega) (by omega) (.inl (by omega)))
        have HN := hide ((rot_right dk (show i < j by omega) him hi).trans HE.out)
        go_wp2_with fail
        refine HS.out.mono ?_
        rintro e w2 ⟨rfl, h2⟩
        have H2 := hide h2
        clear h2 HS
        go_wp2
        go_roundw
        case rel => exact ⟨i, j - i, _, rfl, rfl, hi, by omega, hai, him, by omega, H2, HN⟩
        case measure => simp [intOf]; omega

end Go.Proofs.Ytikfiofjhmeheaa
