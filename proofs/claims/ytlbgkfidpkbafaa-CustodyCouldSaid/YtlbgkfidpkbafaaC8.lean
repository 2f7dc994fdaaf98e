/- What is asked of numbers; what is needed. -/
import Derived.Test.YtlbgkfidpkbafaaE21
import Derived.Test.YtlbgkfidpkbafaaC4
namespace Go.Proofs.Ytlbgkfidpkbafaa
open Go.RowKit
set_option linter.unusedSimpArgs false
set_option linter.unusedVariables false
theorem need_t (e : Int) : CallA Try.prog 53 [.boo true, .int .i64 e] [] (fun v H => v = tupOf [] ∧ H = []) :=
  callR_ok' (z := true) TYok mixedO noDF_ok noK_ok 4 3 53 _ _ (.ret (tupOf [])) _ (by kernel_rfl)
theorem need_f (e : Int) : CallE Try.prog 53 [.boo false, .int .i64 e] [] (fun _ _ => False) (fun pv H => pv = .iface 110 (.int .i64 e) ∧ H = []) :=
  callR_ok' (z := true) TYok mixedO noDF_ok noK_ok 4 3 53 _ _ (.pan (.iface 110 (.int .i64 e))) _ (by kernel_rfl)
def isPer (x : Int) : Bool := if decide (0 ≤ x) = true then decide (x ≤ 15) else false
def isDy (x : Int) : Bool := if decide (0 ≤ x) = true then decide (x ≤ 1073741824) else false
def isUs (x : Int) : Bool := if (x == -1) = true then true else if decide (1 ≤ x) = true then decide (x ≤ 1048576) else false
theorem isPerson_c (x : Int) : CallA Try.prog 66 [.int .i64 x] [] (fun v H => v = .boo (isPer x) ∧ H = []) := by
  refine call_of_vc TYok mixedO Try.func66 rfl rfl (Nat.le_of_ble_eq_true rfl) ?_
  (repeat (first | refine aC ?_ | refine aK ?_ | refine ⟨fun _ => ?_, fun h => absurd h (by decide)⟩ | refine ⟨fun h => absurd h (by decide), fun _ => ?_⟩))
  unfold isPer
  refine ⟨fun h1 => ?_, fun h1 => ?_⟩
  · rw [if_pos h1]
    (repeat (first | refine aC ?_ | refine aK ?_ | refine ⟨fun _ => ?_, fun h => absurd h (by decide)⟩ | refine ⟨fun h => absurd h (by decide), fun _ => ?_⟩))
    exact ⟨some, .boo _, [], by exact wI, rfl, rfl⟩
  · rw [if_neg (by rw [h1]; decide)]
    (repeat (first | refine aC ?_ | refine aK ?_ | refine ⟨fun _ => ?_, fun h => absurd h (by decide)⟩ | refine ⟨fun h => absurd h (by decide), fun _ => ?_⟩))
    exact ⟨some, .boo false, [], by exact wI, rfl, rfl⟩
theorem isDay_c (x : Int) : CallA Try.prog 84 [.int .i64 x] [] (fun v H => v = .boo (isDy x) ∧ H = []) := by
  refine call_of_vc TYok mixedO Try.func84 rfl rfl (Nat.le_of_ble_eq_true rfl) ?_
  (repeat (first | refine aC ?_ | refine aK ?_ | refine ⟨fun _ => ?_, fun h => absurd h (by decide)⟩ | refine ⟨fun h => absurd h (by decide), fun _ => ?_⟩))
  unfold isDy
  refine ⟨fun h1 => ?_, fun h1 => ?_⟩
  · rw [if_pos h1]
    (repeat (first | refine aC ?_ | refine aK ?_ | refine ⟨fun _ => ?_, fun h => absurd h (by decide)⟩ | refine ⟨fun h => absurd h (by decide), fun _ => ?_⟩))
    exact ⟨some, .boo _, [], by exact wI, rfl, rfl⟩
  · rw [if_neg (by rw [h1]; decide)]
    (repeat (first | refine aC ?_ | refine aK ?_ | refine ⟨fun _ => ?_, fun h => absurd h (by decide)⟩ | refine ⟨fun h => absurd h (by decide), fun _ => ?_⟩))
    exact ⟨some, .boo false, [], by exact wI, rfl, rfl⟩
theorem isUses_c (x : Int) : CallA Try.prog 97 [.int .i64 x] [] (fun v H => v = .boo (isUs x) ∧ H = []) := by
  refine call_of_vc TYok mixedO Try.func97 rfl rfl (Nat.le_of_ble_eq_true rfl) ?_
  (repeat (first | refine aC ?_ | refine aK ?_ | refine ⟨fun _ => ?_, fun h => absurd h (by decide)⟩ | refine ⟨fun h => absurd h (by decide), fun _ => ?_⟩))
  unfold isUs
  refine ⟨fun h1 => ?_, fun h1 => ?_⟩
  · rw [if_neg (by rw [h1]; decide)]
    (repeat (first | refine aC ?_ | refine aK ?_ | refine ⟨fun _ => ?_, fun h => absurd h (by decide)⟩ | refine ⟨fun h => absurd h (by decide), fun _ => ?_⟩))
    refine ⟨fun h2 => ?_, fun h2 => ?_⟩
    · rw [if_pos h2]
      (repeat (first | refine aC ?_ | refine aK ?_ | refine ⟨fun _ => ?_, fun h => absurd h (by decide)⟩ | refine ⟨fun h => absurd h (by decide), fun _ => ?_⟩))
      exact ⟨some, .boo _, [], by exact wI, rfl, rfl⟩
    · rw [if_neg (by rw [h2]; decide)]
      (repeat (first | refine aC ?_ | refine aK ?_ | refine ⟨fun _ => ?_, fun h => absurd h (by decide)⟩ | refine ⟨fun h => absurd h (by decide), fun _ => ?_⟩))
      exact ⟨some, .boo false, [], by exact wI, rfl, rfl⟩
  · rw [if_pos (show (x == -1) = true from h1)]
    (repeat (first | refine aC ?_ | refine aK ?_ | refine ⟨fun _ => ?_, fun h => absurd h (by decide)⟩ | refine ⟨fun h => absurd h (by decide), fun _ => ?_⟩))
    exact ⟨some, .boo true, [], by exact wI, rfl, rfl⟩
/- What a grant must be. -/
def validG (h v r u s : Int) : Bool := isPer h && decide (1 ≤ v) && decide (v ≤ 65535) && decide (1 ≤ r) && decide (r ≤ 3) && isDy u && isUs s
set_option maxRecDepth 20000 in
theorem isValid_c (no ab ro h v r u s : Int) (x : Bool) : CallA Try.prog 62 [.t (.agg [.s (.v (.int .i64 no)), .s (.v (.int .i64 ab)), .s (.v (.int .i64 ro)), .s (.v (.int .i64 h)), .s (.v (.int .i64 v)), .s (.v (.int .i64 r)), .s (.v (.int .i64 u)), .s (.v (.int .i64 s)), .s (.v (.bool x))])] [] (fun w H => w = .boo (validG h v r u s) ∧ H = []) := by
  refine call_of_vc TYok mixedO Try.func62 rfl rfl (Nat.le_of_ble_eq_true rfl) ?_
  (repeat (first | refine aC ?_ | refine aK ?_ | refine ⟨fun _ => ?_, fun h => absurd h (by decide)⟩ | refine ⟨fun h => absurd h (by decide), fun _ => ?_⟩))
  (refine call_lift (isPerson_c h) (fun i => match i with | 0 => none | _ => none) rfl rfl hI rfl rfl rfl ?_; rintro v H1 ⟨rfl, rfl⟩; refine ⟨⟨rfl, rfl, rfl, rfl⟩, ?_⟩; (try simp only [two]); (try simp only [AV.ren]); (try simp only [renT]); (try simp only [AT.ren]); (try simp only [A.ren]); (try (rw [ptr_ren]; rotate_left; exact rfl)); (try (rw [slc_ren]; rotate_left; exact rfl)); (try simp only [S.ren]))
  (repeat (first | refine aC ?_ | refine aK ?_ | refine ⟨fun _ => ?_, fun h => absurd h (by decide)⟩ | refine ⟨fun h => absurd h (by decide), fun _ => ?_⟩))
  refine ⟨fun g0 => ?_, fun g0 => ?_⟩
  · have g0 : (isPer h) = true := by simpa using g0
    (repeat (first | refine aC ?_ | refine aK ?_ | refine ⟨fun _ => ?_, fun h => absurd h (by decide)⟩ | refine ⟨fun h => absurd h (by decide), fun _ => ?_⟩))
    refine ⟨fun g1 => ?_, fun g1 => ?_⟩
    · have g1 : (decide (1 ≤ v)) = true := by simpa using g1
      (repeat (first | refine aC ?_ | refine aK ?_ | refine ⟨fun _ => ?_, fun h => absurd h (by decide)⟩ | refine ⟨fun h => absurd h (by decide), fun _ => ?_⟩))
      refine ⟨fun g2 => ?_, fun g2 => ?_⟩
      · have g2 : (decide (v ≤ 65535)) = true := by simpa using g2
        (repeat (first | refine aC ?_ | refine aK ?_ | refine ⟨fun _ => ?_, fun h => absurd h (by decide)⟩ | refine ⟨fun h => absurd h (by decide), fun _ => ?_⟩))
        refine ⟨fun g3 => ?_, fun g3 => ?_⟩
        · have g3 : (decide (1 ≤ r)) = true := by simpa using g3
          (repeat (first | refine aC ?_ | refine aK ?_ | refine ⟨fun _ => ?_, fun h => absurd h (by decide)⟩ | refine ⟨fun h => absurd h (by decide), fun _ => ?_⟩))
          refine ⟨fun g4 => ?_, fun g4 => ?_⟩
          · have g4 : (decide (r ≤ 3)) = true := by simpa using g4
            (repeat (first | refine aC ?_ | refine aK ?_ | refine ⟨fun _ => ?_, fun h => absurd h (by decide)⟩ | refine ⟨fun h => absurd h (by decide), fun _ => ?_⟩))
            (refine call_lift (isDay_c u) (fun i => match i with | 0 => none | _ => none) rfl rfl hI rfl rfl rfl ?_; rintro v H1 ⟨rfl, rfl⟩; refine ⟨⟨rfl, rfl, rfl, rfl⟩, ?_⟩; (try simp only [two]); (try simp only [AV.ren]); (try simp only [renT]); (try simp only [AT.ren]); (try simp only [A.ren]); (try (rw [ptr_ren]; rotate_left; exact rfl)); (try (rw [slc_ren]; rotate_left; exact rfl)); (try simp only [S.ren]))
            (repeat (first | refine aC ?_ | refine aK ?_ | refine ⟨fun _ => ?_, fun h => absurd h (by decide)⟩ | refine ⟨fun h => absurd h (by decide), fun _ => ?_⟩))
            refine ⟨fun g5 => ?_, fun g5 => ?_⟩
            · have g5 : (isDy u) = true := by simpa using g5
              (repeat (first | refine aC ?_ | refine aK ?_ | refine ⟨fun _ => ?_, fun h => absurd h (by decide)⟩ | refine ⟨fun h => absurd h (by decide), fun _ => ?_⟩))
              (refine call_lift (isUses_c s) (fun i => match i with | 0 => none | _ => none) rfl rfl hI rfl rfl rfl ?_; rintro v H1 ⟨rfl, rfl⟩; refine ⟨⟨rfl, rfl, rfl, rfl⟩, ?_⟩; (try simp only [two]); (try simp only [AV.ren]); (try simp only [renT]); (try simp only [AT.ren]); (try simp only [A.ren]); (try (rw [ptr_ren]; rotate_left; exact rfl)); (try (rw [slc_ren]; rotate_left; exact rfl)); (try simp only [S.ren]))
              (repeat (first | refine aC ?_ | refine aK ?_ | refine ⟨fun _ => ?_, fun h => absurd h (by decide)⟩ | refine ⟨fun h => absurd h (by decide), fun _ => ?_⟩))
              exact ⟨some, .boo _, [], by exact wI, congrArg AV.boo (by simp [validG, g0, g1, g2, g3, g4, g5]), rfl⟩
            · have g5 : (isDy u) = false := by simpa using g5
              (repeat (first | refine aC ?_ | refine aK ?_ | refine ⟨fun _ => ?_, fun h => absurd h (by decide)⟩ | refine ⟨fun h => absurd h (by decide), fun _ => ?_⟩))
              exact ⟨some, .boo _, [], by exact wI, congrArg AV.boo (by simp [validG, g0, g1, g2, g3, g4, g5]), rfl⟩
          · have g4 : (decide (r ≤ 3)) = false := by simpa using g4
            (repeat (first | refine aC ?_ | refine aK ?_ | refine ⟨fun _ => ?_, fun h => absurd h (by decide)⟩ | refine ⟨fun h => absurd h (by decide), fun _ => ?_⟩))
            exact ⟨some, .boo _, [], by exact wI, congrArg AV.boo (by simp [validG, g0, g1, g2, g3, g4]), rfl⟩
        · have g3 : (decide (1 ≤ r)) = false := by simpa using g3
          (repeat (first | refine aC ?_ | refine aK ?_ | refine ⟨fun _ => ?_, fun h => absurd h (by decide)⟩ | refine ⟨fun h => absurd h (by decide), fun _ => ?_⟩))
          exact ⟨some, .boo _, [], by exact wI, congrArg AV.boo (by simp [validG, g0, g1, g2, g3]), rfl⟩
      · have g2 : (decide (v ≤ 65535)) = false := by simpa using g2
        (repeat (first | refine aC ?_ | refine aK ?_ | refine ⟨fun _ => ?_, fun h => absurd h (by decide)⟩ | refine ⟨fun h => absurd h (by decide), fun _ => ?_⟩))
        exact ⟨some, .boo _, [], by exact wI, congrArg AV.boo (by simp [validG, g0, g1, g2]), rfl⟩
    · have g1 : (decide (1 ≤ v)) = false := by simpa using g1
      (repeat (first | refine aC ?_ | refine aK ?_ | refine ⟨fun _ => ?_, fun h => absurd h (by decide)⟩ | refine ⟨fun h => absurd h (by decide), fun _ => ?_⟩))
      exact ⟨some, .boo _, [], by exact wI, congrArg AV.boo (by simp [validG, g0, g1]), rfl⟩
  · have g0 : (isPer h) = false := by simpa using g0
    (repeat (first | refine aC ?_ | refine aK ?_ | refine ⟨fun _ => ?_, fun h => absurd h (by decide)⟩ | refine ⟨fun h => absurd h (by decide), fun _ => ?_⟩))
    exact ⟨some, .boo _, [], by exact wI, congrArg AV.boo (by simp [validG, g0]), rfl⟩
/- A book that was made. -/
/-- the kinds of a grant's cells -/
abbrev kG : List RK := [.int .i64, .int .i64, .int .i64, .int .i64, .int .i64, .int .i64, .int .i64, .int .i64, .bool]
/-- a book's memory: the day, the grants (nine cells each), the entries (four cells each) -/
abbrev bookR (q : Bool) (d : Int) (n : Nat) (xs : List Int) (m : Nat) (es : List Int) : AH :=
  [⟨q, true, 45, 1, .cells [.s (.v (.bool true)), .s (.v (.int .i64 d)), .s (.slc 1 0 n), .s (.slc 2 0 m)]⟩, ⟨q, false, 50, 9, .recs kG xs⟩, ⟨q, false, 67, 4, .rows (.int .i64) es⟩]
set_option maxRecDepth 20000 in
theorem isMade_c (d : Int) (n : Nat) (xs : List Int) (m : Nat) (es : List Int) : CallA Try.prog 58 [.t (.a (.s (.ptr 0 0)))] (bookR false d n xs m es) (fun v H => v = .boo true ∧ H = bookR false d n xs m es) := by
  refine call_of_vc TYok mixedO Try.func58 rfl rfl (Nat.le_of_ble_eq_true rfl) ?_
  (repeat (first | refine aC ?_ | refine aK ?_ | refine ⟨fun _ => ?_, fun h => absurd h (by decide)⟩ | refine ⟨fun h => absurd h (by decide), fun _ => ?_⟩))
  exact ⟨some, .boo true, bookR false d n xs m es, by exact wI, rfl, rfl⟩
set_option maxRecDepth 20000 in
theorem needMade_c (d : Int) (n : Nat) (xs : List Int) (m : Nat) (es : List Int) : CallA Try.prog 52 [.t (.a (.s (.ptr 0 0)))] (bookR false d n xs m es) (fun v H => v = tupOf [] ∧ H = bookR false d n xs m es) := by
  refine call_of_vc TYok mixedO Try.func52 rfl rfl (Nat.le_of_ble_eq_true rfl) ?_
  (repeat (first | refine aC ?_ | refine aK ?_ | refine ⟨fun _ => ?_, fun h => absurd h (by decide)⟩ | refine ⟨fun h => absurd h (by decide), fun _ => ?_⟩))
  (refine call_lift (isMade_c d n xs m es) (fun i => match i with | 0 => some 0 | 1 => some 1 | 2 => some 2 | _ => none) rfl rfl hI rfl rfl rfl ?_; rintro v H1 ⟨rfl, rfl⟩; refine ⟨⟨rfl, rfl, rfl, rfl⟩, ?_⟩; (try simp only [two]); (try simp only [AV.ren]); (try simp only [renT]); (try simp only [AT.ren]); (try simp only [A.ren]); (try (rw [ptr_ren]; rotate_left; exact rfl)); (try (rw [slc_ren]; rotate_left; exact rfl)); (try simp only [S.ren]))
  (repeat (first | refine aC ?_ | refine aK ?_ | refine ⟨fun _ => ?_, fun h => absurd h (by decide)⟩ | refine ⟨fun h => absurd h (by decide), fun _ => ?_⟩))
  (refine call_lift (need_t 1) (fun i => match i with | 0 => none | _ => none) rfl rfl hI rfl rfl rfl ?_; rintro v H1 ⟨rfl, rfl⟩; refine ⟨⟨rfl, rfl, rfl, rfl⟩, ?_⟩; (try simp only [two]); (try simp only [AV.ren]); (try simp only [renT]); (try simp only [AT.ren]); (try simp only [A.ren]); (try (rw [ptr_ren]; rotate_left; exact rfl)); (try (rw [slc_ren]; rotate_left; exact rfl)); (try simp only [S.ren]))
  (repeat (first | refine aC ?_ | refine aK ?_ | refine ⟨fun _ => ?_, fun h => absurd h (by decide)⟩ | refine ⟨fun h => absurd h (by decide), fun _ => ?_⟩))
  exact ⟨some, tupOf [], bookR false d n xs m es, by exact wI, rfl, rfl⟩
end Go.Proofs.Ytlbgkfidpkbafaa
