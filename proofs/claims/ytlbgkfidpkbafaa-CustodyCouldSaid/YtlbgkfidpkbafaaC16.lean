/- A grant passed on. -/
import Derived.Test.YtlbgkfidpkbafaaC15
namespace Go.Proofs.Ytlbgkfidpkbafaa
open Go.RowKit
set_option linter.unusedSimpArgs false
set_option linter.unusedVariables false
abbrev fG (xs : List Int) (k o : Nat) : Int := xs.getD (k * 9 + o) 0
def standsB (d : Int) (xs : List Int) (k : Nat) : Bool := decide (d ≤ fG xs k 6) && !(line xs k).any (revG xs)
def hasPass (r : Int) : Bool := (((r.toNat &&& 2 : Nat) : Int) != 0)
def passB (d : Int) (xs : List Int) (k : Nat) (by_ v r u s : Int) : Bool := (by_ == fG xs k 3) && standsB d xs k && hasPass (fG xs k 5) && wthn v r u s (fG xs k 4) (fG xs k 5) (fG xs k 6) (fG xs k 7)
theorem succ_k (k : Nat) : (((k : Int) + 1) - 1).toNat = k := by omega
set_option maxRecDepth 20000 in
set_option maxHeartbeats 2000000 in
theorem pass_none (d : Int) (n : Nat) (xs : List Int) (m : Nat) (es : List Int) (no by_ h v r u s : Int) (hno : (decide (1 ≤ no) && decide (no ≤ (n : Int))) = false) : CallA Try.prog 25 [.t (.a (.s (.ptr 0 0))), .int .i64 no, .int .i64 by_, .int .i64 h, .int .i64 v, .int .i64 r, .int .i64 u, .int .i64 s] (bookR true d n xs m es)
    (fun w H => w = tupOf [.a (.s (.v (.int .i64 0))), .a (.s (.v (.int .i64 6)))] ∧ H = bookR true d n xs m es) := by
  refine call_defer TYok mixedO Try.func25 rfl rfl (Nat.le_of_ble_eq_true rfl) (df_ok 64 rfl) ?_
  (repeat (first | refine aC ?_ | refine aK ?_ | refine ⟨fun _ => ?_, fun h => absurd h (by decide)⟩ | refine ⟨fun h => absurd h (by decide), fun _ => ?_⟩))
  refine And.intro ?_ ?_
  · exact ⟨rfl, rfl, rfl⟩
  (repeat (first | refine aC ?_ | refine aK ?_ | refine ⟨fun _ => ?_, fun h => absurd h (by decide)⟩ | refine ⟨fun h => absurd h (by decide), fun _ => ?_⟩))
  (refine call_liftE (find_f d n xs m es no hno) (fun i => match i with | 0 => some 0 | 1 => some 1 | 2 => some 2 | _ => none) rfl rfl hI rfl rfl rfl (fun _ _ h => h.elim) ?_; rintro pv H1 ⟨rfl, rfl⟩; refine ⟨⟨rfl, rfl, rfl⟩, ?_⟩)
  (repeat (first | refine aC ?_ | refine aK ?_ | refine ⟨fun _ => ?_, fun h => absurd h (by decide)⟩ | refine ⟨fun h => absurd h (by decide), fun _ => ?_⟩))
  refine And.intro rfl (And.intro rfl ?_)
  exact ⟨some, tupOf [.a (.s (.v (.int .i64 0))), .a (.s (.v (.int .i64 6)))], bookR true d n xs m es, by exact wI, rfl, rfl⟩
set_option maxRecDepth 20000 in
set_option maxHeartbeats 2000000 in
theorem pass_arg (d : Int) (n : Nat) (xs : List Int) (m : Nat) (es : List Int) (hw : Wf n xs) (k : Nat) (hk : k < n) (by_ h v r u s : Int) (hb : (validG h v r u s && isPer by_) = false) : CallA Try.prog 25 [.t (.a (.s (.ptr 0 0))), .int .i64 ((k : Int) + 1), .int .i64 by_, .int .i64 h, .int .i64 v, .int .i64 r, .int .i64 u, .int .i64 s] (bookR true d n xs m es)
    (fun w H => w = tupOf [.a (.s (.v (.int .i64 0))), .a (.s (.v (.int .i64 2)))] ∧ H = bookR true d n xs m es) := by
  refine call_defer TYok mixedO Try.func25 rfl rfl (Nat.le_of_ble_eq_true rfl) (df_ok 64 rfl) ?_
  (repeat (first | refine aC ?_ | refine aK ?_ | refine ⟨fun _ => ?_, fun h => absurd h (by decide)⟩ | refine ⟨fun h => absurd h (by decide), fun _ => ?_⟩))
  refine And.intro ?_ ?_
  · exact ⟨rfl, rfl, rfl⟩
  (repeat (first | refine aC ?_ | refine aK ?_ | refine ⟨fun _ => ?_, fun h => absurd h (by decide)⟩ | refine ⟨fun h => absurd h (by decide), fun _ => ?_⟩))
  (refine call_lift (find_c d n xs m es hw.len hw.few ((k : Int) + 1) (by omega) (by omega)) (fun i => match i with | 0 => some 0 | 1 => some 1 | 2 => some 2 | _ => none) rfl rfl hI rfl rfl rfl ?_; rintro v H1 ⟨rfl, rfl⟩; refine ⟨⟨rfl, rfl, rfl, rfl⟩, ?_⟩; (try simp only [two]); (try simp only [AV.ren]); (try simp only [renT]); (try simp only [AT.ren]); (try simp only [A.ren]); (try (rw [ptr_ren]; rotate_left; exact rfl)); (try (rw [slc_ren]; rotate_left; exact rfl)); (try simp only [S.ren]))
  rw [succ_k]
  (repeat (first | refine aC ?_ | refine aK ?_ | refine ⟨fun _ => ?_, fun h => absurd h (by decide)⟩ | refine ⟨fun h => absurd h (by decide), fun _ => ?_⟩))
  (refine drawn_rule TYok mixedO [] [(true, 0, []), (true, 1, []), (true, 2, []), (true, 3, []), (true, 4, []), (true, 5, []), (true, 6, []), (true, 7, []), (true, 8, []), (true, 9, []), (true, 10, []), (true, 11, []), (true, 12, []), (true, 13, []), (false, 14, []), (false, 15, [])] (by kernel_rfl) ?_)
  (repeat (first | refine aC ?_ | refine aK ?_ | refine ⟨fun _ => ?_, fun h => absurd h (by decide)⟩ | refine ⟨fun h => absurd h (by decide), fun _ => ?_⟩))
  refine And.intro (fld_t (o := 0) (by decide) rfl hk hw.len) ?_
  (repeat (first | refine aC ?_ | refine aK ?_ | refine ⟨fun _ => ?_, fun h => absurd h (by decide)⟩ | refine ⟨fun h => absurd h (by decide), fun _ => ?_⟩))
  refine And.intro (fld_t (o := 2) (by decide) rfl hk hw.len) ?_
  (repeat (first | refine aC ?_ | refine aK ?_ | refine ⟨fun _ => ?_, fun h => absurd h (by decide)⟩ | refine ⟨fun h => absurd h (by decide), fun _ => ?_⟩))
  (refine call_lift (isValid_c 0 (fG xs k 0) (fG xs k 2) h v r u s false) (fun i => match i with | 0 => none | _ => none) rfl rfl hI rfl rfl rfl ?_; rintro v H1 ⟨rfl, rfl⟩; refine ⟨⟨rfl, rfl, rfl, rfl⟩, ?_⟩; (try simp only [two]); (try simp only [AV.ren]); (try simp only [renT]); (try simp only [AT.ren]); (try simp only [A.ren]); (try (rw [ptr_ren]; rotate_left; exact rfl)); (try (rw [slc_ren]; rotate_left; exact rfl)); (try simp only [S.ren]))
  (repeat (first | refine aC ?_ | refine aK ?_ | refine ⟨fun _ => ?_, fun h => absurd h (by decide)⟩ | refine ⟨fun h => absurd h (by decide), fun _ => ?_⟩))
  refine ⟨fun g => ?_, fun g => ?_⟩
  · have g1 : validG h v r u s = true := g
    rw [g1, Bool.true_and] at hb
    (repeat (first | refine aC ?_ | refine aK ?_ | refine ⟨fun _ => ?_, fun h => absurd h (by decide)⟩ | refine ⟨fun h => absurd h (by decide), fun _ => ?_⟩))
    (refine call_lift (isPerson_c by_) (fun i => match i with | 0 => none | _ => none) rfl rfl hI rfl rfl rfl ?_; rintro v H1 ⟨rfl, rfl⟩; refine ⟨⟨rfl, rfl, rfl, rfl⟩, ?_⟩; (try simp only [two]); (try simp only [AV.ren]); (try simp only [renT]); (try simp only [AT.ren]); (try simp only [A.ren]); (try (rw [ptr_ren]; rotate_left; exact rfl)); (try (rw [slc_ren]; rotate_left; exact rfl)); (try simp only [S.ren]))
    (repeat (first | refine aC ?_ | refine aK ?_ | refine ⟨fun _ => ?_, fun h => absurd h (by decide)⟩ | refine ⟨fun h => absurd h (by decide), fun _ => ?_⟩))
    rw [hb]
    (refine call_liftE (need_f 2) (fun i => match i with | 0 => none | _ => none) rfl rfl hI rfl rfl rfl (fun _ _ h => h.elim) ?_; rintro pv H1 ⟨rfl, rfl⟩; refine ⟨⟨rfl, rfl, rfl⟩, ?_⟩)
    (repeat (first | refine aC ?_ | refine aK ?_ | refine ⟨fun _ => ?_, fun h => absurd h (by decide)⟩ | refine ⟨fun h => absurd h (by decide), fun _ => ?_⟩))
    refine And.intro rfl (And.intro rfl ?_)
    exact ⟨some, tupOf [.a (.s (.v (.int .i64 0))), .a (.s (.v (.int .i64 2)))], bookR true d n xs m es, by exact wI, rfl, rfl⟩
  · (repeat (first | refine aC ?_ | refine aK ?_ | refine ⟨fun _ => ?_, fun h => absurd h (by decide)⟩ | refine ⟨fun h => absurd h (by decide), fun _ => ?_⟩))
    (refine call_liftE (need_f 2) (fun i => match i with | 0 => none | _ => none) rfl rfl hI rfl rfl rfl (fun _ _ h => h.elim) ?_; rintro pv H1 ⟨rfl, rfl⟩; refine ⟨⟨rfl, rfl, rfl⟩, ?_⟩)
    (repeat (first | refine aC ?_ | refine aK ?_ | refine ⟨fun _ => ?_, fun h => absurd h (by decide)⟩ | refine ⟨fun h => absurd h (by decide), fun _ => ?_⟩))
    refine And.intro rfl (And.intro rfl ?_)
    exact ⟨some, tupOf [.a (.s (.v (.int .i64 0))), .a (.s (.v (.int .i64 2)))], bookR true d n xs m es, by exact wI, rfl, rfl⟩
end Go.Proofs.Ytlbgkfidpkbafaa
