/- Contracts of within, of the tests of slopes and values, of IndexFunc and ContainsFunc at them. -/
import Derived.Test.YtdepnhnpklbmiaaK
namespace Go.Proofs.Ytdepnhnpklbmiaa
open Go.RowKit Go.Sort

set_option maxHeartbeats 400000 in
theorem within_any (n m : Int) (w : World) (h0 : 0 ≤ m) (h1 : m ≤ 1099511627776) :
    Calls Try.prog 56 #[.int .i64 n, .int .i64 m] w fun e w' => e = .returned (.bool (inB n m)) ∧ w' = w := by
  by_cases h : -m ≤ n
  · have d1 : decide (-m ≤ n) = true := decide_eq_true h
    by_cases h2 : n ≤ m
    · have d2 : decide (n ≤ m) = true := decide_eq_true h2
      have HB : Hid (inB n m = true) := decide_eq_true ⟨h, h2⟩
      clear h h2
      go_enter Try.func56, Try.ntmps56
      go_wp2
      go_ret
      exact ⟨ret_bool HB.out.symm, rfl⟩
    · have d2 : decide (n ≤ m) = false := decide_eq_false h2
      have HB : Hid (inB n m = false) := decide_eq_false fun h => h2 h.2
      clear h h2
      go_enter Try.func56, Try.ntmps56
      go_wp2
      go_ret
      exact ⟨ret_bool HB.out.symm, rfl⟩
  · have d1 : decide (-m ≤ n) = false := decide_eq_false h
    have HB : Hid (inB n m = false) := decide_eq_false fun h' => h h'.1
    clear h
    go_enter Try.func56, Try.ntmps56
    go_wp2
    go_ret
    exact ⟨ret_bool HB.out.symm, rfl⟩

set_option maxHeartbeats 400000 in
theorem steep_any (x : Int) (w : World) : Calls Try.prog 55 #[.int .i64 x] w fun e w' => e = .returned (.bool (!inB x 1048576)) ∧ w' = w := by
  have HW := hide (within_any x 1048576 w (by decide) (by decide))
  go_enter Try.func55, Try.ntmps55
  go_wp2_with fail
  refine HW.out.mono ?_
  rintro e w' ⟨rfl, rfl⟩
  go_wp2
  go_ret
  exact ⟨rfl, rfl⟩
set_option maxHeartbeats 400000 in
theorem far_any (x : Int) (w : World) : Calls Try.prog 59 #[.int .i64 x] w fun e w' => e = .returned (.bool (!inB x 1099511627776)) ∧ w' = w := by
  have HW := hide (within_any x 1099511627776 w (by decide) (by decide))
  go_enter Try.func59, Try.ntmps59
  go_wp2_with fail
  refine HW.out.mono ?_
  rintro e w' ⟨rfl, rfl⟩
  go_wp2
  go_ret
  exact ⟨rfl, rfl⟩

/-- a test of one number that leaves the world -/
def Tests (g : Nat) (p : Int → Bool) : Prop := (∀ args w, (callFunc g args).run Try.prog w = .ok (.enter g args) w) ∧ ∀ x w, Calls Try.prog g #[.int .i64 x] w fun e w' => e = .returned (.bool (p x)) ∧ w' = w
theorem tests55 : Tests 55 (fun x => !inB x 1048576) := ⟨enters_of Try.func55 (by kernel_rfl) rfl, steep_any⟩
theorem tests59 : Tests 59 (fun x => !inB x 1099511627776) := ⟨enters_of Try.func59 (by kernel_rfl) rfl, far_any⟩

/-- has one of the first n numbers p? -/
def someB (p : Int → Bool) (xs : List Int) (n : Nat) : Bool := decide (∃ i, i < n ∧ p (iA xs i) = true)

set_option maxHeartbeats 2000000 in
set_option maxRecDepth 100000 in
theorem index_any (g : Nat) (p : Int → Bool) (hg : Tests g p) (A : Option Addr) (n cap : Nat) (xs : List Int) (w : World) (hx : IntsAt w.heap.size w A n xs) (hn : n ≤ 4398046511104) :
    Calls Try.prog 78 #[.slice A n cap, .func (.func g) #[] #[]] w fun e w' => ∃ r : Int, e = .returned (.int .i64 r) ∧ w' = w ∧ (decide (0 ≤ r) = someB p xs n) := by
  have HX := hide hx
  have HG := hide hg.2
  have eg := hg.1
  clear hx hg
  go_enter Try.func78, Try.ntmps78
  go_wp2
  go_loop [8] (fun i => ∃ k : Nat, k ≤ n ∧ i = .int .i64 k ∧ Hid (∀ j, j < k → p (iA xs j) = false)) (fun i => n - (intOf i).toNat)
  case atStart => exact ⟨0, Nat.zero_le _, rfl, hide fun j hj => by omega⟩
  case round =>
    obtain ⟨k, hk, rfl, HA⟩ := hrel
    by_cases hlt : k < n
    · obtain ⟨b, off, rfl, hb, c0⟩ := HX.out.at_ hlt
      have hlt' : (k : Int) < (n : Int) := by omega
      have HF := hide (HG.out (iA xs k) w)
      cases hv : p (iA xs k)
      · rw [hv] at HF
        have HA2 : Hid (∀ j, j < k + 1 → p (iA xs j) = false) := fun j hj => by
          rcases Nat.lt_or_ge j k with h | h
          · exact HA.out j h
          · obtain rfl : j = k := by omega
            exact hv
        clear hv
        go_wp2_with fail
        refine HF.out.mono ?_
        rintro e w' ⟨rfl, rfl⟩
        go_wp2
        go_round
        case rel => exact ⟨k + 1, by omega, by go_num, HA2⟩
        case measure => simp [intOf]; omega
      · rw [hv] at HF
        have HB : Hid (someB p xs n = true) := decide_eq_true ⟨k, hlt, hv⟩
        clear hv
        go_wp2_with fail
        refine HF.out.mono ?_
        rintro e w' ⟨rfl, rfl⟩
        go_wp2
        go_ret
        exact ⟨_, rfl, rfl, by rw [HB.out]; exact decide_eq_true (by omega)⟩
    · obtain rfl : k = n := by omega
      have HB : Hid (someB p xs k = false) := decide_eq_false fun ⟨i, h1, h2⟩ => by rw [HA.out i h1] at h2; cases h2
      go_wp2
      go_ret
      exact ⟨_, rfl, rfl, by rw [HB.out]; rfl⟩

set_option maxHeartbeats 1000000 in
theorem some_any (g : Nat) (p : Int → Bool) (hg : Tests g p) (A : Option Addr) (n cap : Nat) (xs : List Int) (w : World) (hx : IntsAt w.heap.size w A n xs) (hn : n ≤ 4398046511104) :
    Calls Try.prog 58 #[.slice A n cap, .func (.func g) #[] #[]] w fun e w' => e = .returned (.bool (someB p xs n)) ∧ w' = w := by
  have HI := hide (index_any g p hg A n cap xs w hx hn)
  clear hx
  go_enter Try.func58, Try.ntmps58
  go_wp2_with fail
  refine HI.out.mono ?_
  rintro e w' ⟨r, rfl, rfl, hr⟩
  go_wp2
  go_ret
  exact ⟨by first | rfl | exact ret_bool hr, rfl⟩

end Go.Proofs.Ytdepnhnpklbmiaa
