/- The day, a grant, whether it stands. -/
import Derived.Test.YtlbgkfidpkbafaaC23
namespace Go.Proofs.Ytlbgkfidpkbafaa
open Go.RowKit
set_option linter.unusedSimpArgs false
set_option linter.unusedVariables false
def nextE (d e : Int) : Int := if isDy e = false then 2 else if e < d then 9 else 0
set_option maxRecDepth 20000 in
theorem next_c (d : Int) (n : Nat) (xs : List Int) (m : Nat) (es : List Int) (e : Int) : CallA Try.prog 31 [.t (.a (.s (.ptr 0 0))), .int .i64 e] (bookR true d n xs m es)
    (fun w H => w = .int .i64 (nextE d e) ∧ H = bookR true (if nextE d e = 0 then e else d) n xs m es) := by
  refine call_defer TYok mixedO Try.func31 rfl rfl (Nat.le_of_ble_eq_true rfl) (df_ok 83 rfl) ?_
  (repeat (first | refine aC ?_ | refine aK ?_ | refine ⟨fun _ => ?_, fun h => absurd h (by decide)⟩ | refine ⟨fun h => absurd h (by decide), fun _ => ?_⟩))
  refine And.intro ?_ ?_
  · exact ⟨rfl, rfl, rfl⟩
  (repeat (first | refine aC ?_ | refine aK ?_ | refine ⟨fun _ => ?_, fun h => absurd h (by decide)⟩ | refine ⟨fun h => absurd h (by decide), fun _ => ?_⟩))
  (refine call_lift (needMade_c d n xs m es) (fun i => match i with | 0 => some 0 | 1 => some 1 | 2 => some 2 | _ => none) rfl rfl hI rfl rfl rfl ?_; rintro v H1 ⟨rfl, rfl⟩; refine ⟨⟨rfl, rfl, rfl, rfl⟩, ?_⟩; (try simp only [two]); (try simp only [AV.ren]); (try simp only [renT]); (try simp only [AT.ren]); (try simp only [A.ren]); (try (rw [ptr_ren]; rotate_left; exact rfl)); (try (rw [slc_ren]; rotate_left; exact rfl)); (try simp only [S.ren]))
  (repeat (first | refine aC ?_ | refine aK ?_ | refine ⟨fun _ => ?_, fun h => absurd h (by decide)⟩ | refine ⟨fun h => absurd h (by decide), fun _ => ?_⟩))
  (refine call_lift (isDay_c e) (fun i => match i with | 0 => none | _ => none) rfl rfl hI rfl rfl rfl ?_; rintro v H1 ⟨rfl, rfl⟩; refine ⟨⟨rfl, rfl, rfl, rfl⟩, ?_⟩; (try simp only [two]); (try simp only [AV.ren]); (try simp only [renT]); (try simp only [AT.ren]); (try simp only [A.ren]); (try (rw [ptr_ren]; rotate_left; exact rfl)); (try (rw [slc_ren]; rotate_left; exact rfl)); (try simp only [S.ren]))
  by_cases g0 : isDy e = true
  · (refine call_lift (need_tb (isDy e) 2 g0) (fun i => match i with | 0 => none | _ => none) rfl rfl hI rfl rfl rfl ?_; rintro v H1 ⟨rfl, rfl⟩; refine ⟨⟨rfl, rfl, rfl, rfl⟩, ?_⟩; (try simp only [two]); (try simp only [AV.ren]); (try simp only [renT]); (try simp only [AT.ren]); (try simp only [A.ren]); (try (rw [ptr_ren]; rotate_left; exact rfl)); (try (rw [slc_ren]; rotate_left; exact rfl)); (try simp only [S.ren]))
    by_cases g1 : e < d
    · (repeat (first | refine aC ?_ | refine aK ?_ | refine ⟨fun _ => ?_, fun h => absurd h (by decide)⟩ | refine ⟨fun h => absurd h (by decide), fun _ => ?_⟩))
      (refine call_liftE (need_fb (decide (e ≥ d)) 9 (decide_eq_false (by omega))) (fun i => match i with | 0 => none | _ => none) rfl rfl hI rfl rfl rfl (fun _ _ h => h.elim) ?_; rintro pv H1 ⟨rfl, rfl⟩; refine ⟨⟨rfl, rfl, rfl⟩, ?_⟩)
      have h : nextE d e = 9 := by unfold nextE; rw [if_neg (by rw [g0]; decide), if_pos g1]
      rw [h]
      refine And.intro rfl (And.intro rfl (And.intro rfl ?_))
      exact ⟨some, .int .i64 9, bookR true d n xs m es, by exact wI, rfl, rfl⟩
    · (repeat (first | refine aC ?_ | refine aK ?_ | refine ⟨fun _ => ?_, fun h => absurd h (by decide)⟩ | refine ⟨fun h => absurd h (by decide), fun _ => ?_⟩))
      (refine call_lift (need_tb (decide (e ≥ d)) 9 (decide_eq_true (by omega))) (fun i => match i with | 0 => none | _ => none) rfl rfl hI rfl rfl rfl ?_; rintro v H1 ⟨rfl, rfl⟩; refine ⟨⟨rfl, rfl, rfl, rfl⟩, ?_⟩; (try simp only [two]); (try simp only [AV.ren]); (try simp only [renT]); (try simp only [AT.ren]); (try simp only [A.ren]); (try (rw [ptr_ren]; rotate_left; exact rfl)); (try (rw [slc_ren]; rotate_left; exact rfl)); (try simp only [S.ren]))
      (repeat (first | refine aC ?_ | refine aK ?_ | refine ⟨fun _ => ?_, fun h => absurd h (by decide)⟩ | refine ⟨fun h => absurd h (by decide), fun _ => ?_⟩))
      have h : nextE d e = 0 := by unfold nextE; rw [if_neg (by rw [g0]; decide), if_neg g1]
      rw [h]
      exact ⟨some, .int .i64 0, bookR true e n xs m es, by exact wI, rfl, rfl⟩
  · have g0 : isDy e = false := by simpa using g0
    (refine call_liftE (need_fb (isDy e) 2 g0) (fun i => match i with | 0 => none | _ => none) rfl rfl hI rfl rfl rfl (fun _ _ h => h.elim) ?_; rintro pv H1 ⟨rfl, rfl⟩; refine ⟨⟨rfl, rfl, rfl⟩, ?_⟩)
    have h : nextE d e = 2 := by unfold nextE; rw [if_pos g0]
    rw [h]
    refine And.intro rfl (And.intro rfl (And.intro rfl ?_))
    exact ⟨some, .int .i64 2, bookR true d n xs m es, by exact wI, rfl, rfl⟩
/-- a grant's cells -/
abbrev gCells (xs : List Int) (k : Nat) : List A := [.s (.v (.int .i64 (fG xs k 0))), .s (.v (.int .i64 (fG xs k 1))), .s (.v (.int .i64 (fG xs k 2))), .s (.v (.int .i64 (fG xs k 3))), .s (.v (.int .i64 (fG xs k 4))), .s (.v (.int .i64 (fG xs k 5))), .s (.v (.int .i64 (fG xs k 6))), .s (.v (.int .i64 (fG xs k 7))), .s (.v (.bool (revG xs k)))]
abbrev noCells : List A := [.s (.v (.int .i64 0)), .s (.v (.int .i64 0)), .s (.v (.int .i64 0)), .s (.v (.int .i64 0)), .s (.v (.int .i64 0)), .s (.v (.int .i64 0)), .s (.v (.int .i64 0)), .s (.v (.int .i64 0)), .s (.v (.bool false))]
set_option maxRecDepth 20000 in
theorem get_c (d : Int) (n : Nat) (xs : List Int) (m : Nat) (es : List Int) (hw : Wf n xs) (k : Nat) (hk : k < n) : CallA Try.prog 27 [.t (.a (.s (.ptr 0 0))), .int .i64 ((k : Int) + 1)] (bookR false d n xs m es)
    (fun w H => w = tupOf [.agg (gCells xs k), .a (.s (.v (.int .i64 0)))] ∧ H = bookR false d n xs m es) := by
  refine call_defer TYok mixedO Try.func27 rfl rfl (Nat.le_of_ble_eq_true rfl) (df_ok 75 rfl) ?_
  (repeat (first | refine aC ?_ | refine aK ?_ | refine ⟨fun _ => ?_, fun h => absurd h (by decide)⟩ | refine ⟨fun h => absurd h (by decide), fun _ => ?_⟩))
  refine And.intro ?_ ?_
  · exact ⟨rfl, rfl, rfl⟩
  (repeat (first | refine aC ?_ | refine aK ?_ | refine ⟨fun _ => ?_, fun h => absurd h (by decide)⟩ | refine ⟨fun h => absurd h (by decide), fun _ => ?_⟩))
  (refine call_lift (find_c d n xs m es hw.len hw.few ((k : Int) + 1) (by omega) (by omega)) (fun i => match i with | 0 => some 0 | 1 => some 1 | 2 => some 2 | _ => none) rfl rfl hI rfl rfl rfl ?_; rintro v H1 ⟨rfl, rfl⟩; refine ⟨⟨rfl, rfl, rfl, rfl⟩, ?_⟩; (try simp only [two]); (try simp only [AV.ren]); (try simp only [renT]); (try simp only [AT.ren]); (try simp only [A.ren]); (try (rw [ptr_ren]; rotate_left; exact rfl)); (try (rw [slc_ren]; rotate_left; exact rfl)); (try simp only [S.ren]))
  rw [succ_k]
  (repeat (first | refine aC ?_ | refine aK ?_ | refine ⟨fun _ => ?_, fun h => absurd h (by decide)⟩ | refine ⟨fun h => absurd h (by decide), fun _ => ?_⟩))
  refine And.intro (rec_t hk hw.len rfl rfl) ?_
  (repeat (first | refine aC ?_ | refine aK ?_ | refine ⟨fun _ => ?_, fun h => absurd h (by decide)⟩ | refine ⟨fun h => absurd h (by decide), fun _ => ?_⟩))
  exact ⟨some, tupOf [.agg (gCells xs k), .a (.s (.v (.int .i64 0)))], bookR false d n xs m es, by exact wI, rfl, rfl⟩
set_option maxRecDepth 20000 in
theorem get_none (d : Int) (n : Nat) (xs : List Int) (m : Nat) (es : List Int) (no : Int) (hno : (decide (1 ≤ no) && decide (no ≤ (n : Int))) = false) : CallA Try.prog 27 [.t (.a (.s (.ptr 0 0))), .int .i64 no] (bookR false d n xs m es)
    (fun w H => w = tupOf [.agg noCells, .a (.s (.v (.int .i64 6)))] ∧ H = bookR false d n xs m es) := by
  refine call_defer TYok mixedO Try.func27 rfl rfl (Nat.le_of_ble_eq_true rfl) (df_ok 75 rfl) ?_
  (repeat (first | refine aC ?_ | refine aK ?_ | refine ⟨fun _ => ?_, fun h => absurd h (by decide)⟩ | refine ⟨fun h => absurd h (by decide), fun _ => ?_⟩))
  refine And.intro ?_ ?_
  · exact ⟨rfl, rfl, rfl⟩
  (repeat (first | refine aC ?_ | refine aK ?_ | refine ⟨fun _ => ?_, fun h => absurd h (by decide)⟩ | refine ⟨fun h => absurd h (by decide), fun _ => ?_⟩))
  (refine call_liftE (find_f d n xs m es no hno) (fun i => match i with | 0 => some 0 | 1 => some 1 | 2 => some 2 | _ => none) rfl rfl hI rfl rfl rfl (fun _ _ h => h.elim) ?_; rintro pv H1 ⟨rfl, rfl⟩; refine ⟨⟨rfl, rfl, rfl⟩, ?_⟩)
  refine And.intro rfl (And.intro rfl (And.intro rfl ?_))
  exact ⟨some, tupOf [.agg noCells, .a (.s (.v (.int .i64 6)))], bookR false d n xs m es, by exact wI, rfl, rfl⟩
set_option maxRecDepth 20000 in
theorem Stands_c (d : Int) (n : Nat) (xs : List Int) (m : Nat) (es : List Int) (hw : Wf n xs) (k : Nat) (hk : k < n) : CallA Try.prog 28 [.t (.a (.s (.ptr 0 0))), .int .i64 ((k : Int) + 1)] (bookR false d n xs m es)
    (fun w H => w = tupOf [.a (.s (.v (.bool (standsB d xs k)))), .a (.s (.v (.int .i64 0)))] ∧ H = bookR false d n xs m es) := by
  refine call_defer TYok mixedO Try.func28 rfl rfl (Nat.le_of_ble_eq_true rfl) (df_ok 76 rfl) ?_
  (repeat (first | refine aC ?_ | refine aK ?_ | refine ⟨fun _ => ?_, fun h => absurd h (by decide)⟩ | refine ⟨fun h => absurd h (by decide), fun _ => ?_⟩))
  refine And.intro ?_ ?_
  · exact ⟨rfl, rfl, rfl⟩
  (repeat (first | refine aC ?_ | refine aK ?_ | refine ⟨fun _ => ?_, fun h => absurd h (by decide)⟩ | refine ⟨fun h => absurd h (by decide), fun _ => ?_⟩))
  (refine call_lift (find_c d n xs m es hw.len hw.few ((k : Int) + 1) (by omega) (by omega)) (fun i => match i with | 0 => some 0 | 1 => some 1 | 2 => some 2 | _ => none) rfl rfl hI rfl rfl rfl ?_; rintro v H1 ⟨rfl, rfl⟩; refine ⟨⟨rfl, rfl, rfl, rfl⟩, ?_⟩; (try simp only [two]); (try simp only [AV.ren]); (try simp only [renT]); (try simp only [AT.ren]); (try simp only [A.ren]); (try (rw [ptr_ren]; rotate_left; exact rfl)); (try (rw [slc_ren]; rotate_left; exact rfl)); (try simp only [S.ren]))
  rw [succ_k]
  (repeat (first | refine aC ?_ | refine aK ?_ | refine ⟨fun _ => ?_, fun h => absurd h (by decide)⟩ | refine ⟨fun h => absurd h (by decide), fun _ => ?_⟩))
  (refine call_lift (stands_c d n xs m es k hw hk) (fun i => match i with | 0 => some 0 | 1 => some 1 | 2 => some 2 | _ => none) rfl rfl hI rfl rfl rfl ?_; rintro v H1 ⟨rfl, rfl⟩; refine ⟨⟨rfl, rfl, rfl, rfl⟩, ?_⟩; (try simp only [two]); (try simp only [AV.ren]); (try simp only [renT]); (try simp only [AT.ren]); (try simp only [A.ren]); (try (rw [ptr_ren]; rotate_left; exact rfl)); (try (rw [slc_ren]; rotate_left; exact rfl)); (try simp only [S.ren]))
  (repeat (first | refine aC ?_ | refine aK ?_ | refine ⟨fun _ => ?_, fun h => absurd h (by decide)⟩ | refine ⟨fun h => absurd h (by decide), fun _ => ?_⟩))
  exact ⟨some, tupOf [.a (.s (.v (.bool (standsB d xs k)))), .a (.s (.v (.int .i64 0)))], bookR false d n xs m es, by exact wI, rfl, rfl⟩
set_option maxRecDepth 20000 in
theorem Stands_none (d : Int) (n : Nat) (xs : List Int) (m : Nat) (es : List Int) (no : Int) (hno : (decide (1 ≤ no) && decide (no ≤ (n : Int))) = false) : CallA Try.prog 28 [.t (.a (.s (.ptr 0 0))), .int .i64 no] (bookR false d n xs m es)
    (fun w H => w = tupOf [.a (.s (.v (.bool false))), .a (.s (.v (.int .i64 6)))] ∧ H = bookR false d n xs m es) := by
  refine call_defer TYok mixedO Try.func28 rfl rfl (Nat.le_of_ble_eq_true rfl) (df_ok 76 rfl) ?_
  (repeat (first | refine aC ?_ | refine aK ?_ | refine ⟨fun _ => ?_, fun h => absurd h (by decide)⟩ | refine ⟨fun h => absurd h (by decide), fun _ => ?_⟩))
  refine And.intro ?_ ?_
  · exact ⟨rfl, rfl, rfl⟩
  (repeat (first | refine aC ?_ | refine aK ?_ | refine ⟨fun _ => ?_, fun h => absurd h (by decide)⟩ | refine ⟨fun h => absurd h (by decide), fun _ => ?_⟩))
  (refine call_liftE (find_f d n xs m es no hno) (fun i => match i with | 0 => some 0 | 1 => some 1 | 2 => some 2 | _ => none) rfl rfl hI rfl rfl rfl (fun _ _ h => h.elim) ?_; rintro pv H1 ⟨rfl, rfl⟩; refine ⟨⟨rfl, rfl, rfl⟩, ?_⟩)
  refine And.intro rfl (And.intro rfl (And.intro rfl ?_))
  exact ⟨some, tupOf [.a (.s (.v (.bool false))), .a (.s (.v (.int .i64 6)))], bookR false d n xs m es, by exact wI, rfl, rfl⟩
theorem Day_c (d : Int) (n : Nat) (xs : List Int) (m : Nat) (es : List Int) : CallA Try.prog 32 [.t (.a (.s (.ptr 0 0)))] (bookR false d n xs m es) (fun w H => w = .int .i64 d ∧ H = bookR false d n xs m es) := by
  refine call_of_vc TYok mixedO Try.func32 rfl rfl (Nat.le_of_ble_eq_true rfl) ?_
  (repeat (first | refine aC ?_ | refine aK ?_ | refine ⟨fun _ => ?_, fun h => absurd h (by decide)⟩ | refine ⟨fun h => absurd h (by decide), fun _ => ?_⟩))
  (refine call_lift (isMade_c d n xs m es) (fun i => match i with | 0 => some 0 | 1 => some 1 | 2 => some 2 | _ => none) rfl rfl hI rfl rfl rfl ?_; rintro v H1 ⟨rfl, rfl⟩; refine ⟨⟨rfl, rfl, rfl, rfl⟩, ?_⟩; (try simp only [two]); (try simp only [AV.ren]); (try simp only [renT]); (try simp only [AT.ren]); (try simp only [A.ren]); (try (rw [ptr_ren]; rotate_left; exact rfl)); (try (rw [slc_ren]; rotate_left; exact rfl)); (try simp only [S.ren]))
  (repeat (first | refine aC ?_ | refine aK ?_ | refine ⟨fun _ => ?_, fun h => absurd h (by decide)⟩ | refine ⟨fun h => absurd h (by decide), fun _ => ?_⟩))
  exact ⟨some, .int .i64 d, bookR false d n xs m es, by exact wI, rfl, rfl⟩
end Go.Proofs.Ytlbgkfidpkbafaa
