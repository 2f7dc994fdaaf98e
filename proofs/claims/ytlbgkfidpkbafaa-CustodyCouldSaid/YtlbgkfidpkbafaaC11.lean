/- A grant put into a book. -/
import Derived.Test.YtlbgkfidpkbafaaC8
namespace Go.Proofs.Ytlbgkfidpkbafaa
open Go.RowKit
set_option linter.unusedSimpArgs false
set_option linter.unusedVariables false
theorem apR_t {kl js jb L n xl : Nat} (h1 : kl = js) (hL : L = 1) (hj : js = 9) (hb : jb = 72) (h3 : n * 9 = xl) (hn : n < 128) : decide (kl = js ∧ 0 < L ∧ n * js = xl ∧ (n + L) * jb ≤ 140737488355328 ∧ n + L ≤ 9223372036854775807 ∧ 0 < js) = true := by
  subst hL hj hb h1
  exact decide_eq_true ⟨rfl, by omega, h3, by omega, by omega, by omega⟩
set_option maxRecDepth 20000 in
theorem add_c (d : Int) (n : Nat) (xs : List Int) (m : Nat) (es : List Int) (hx : n * 9 = xs.length) (hn : n < 128) (no ab ro h v r u s : Int) (x : Bool) : CallA Try.prog 63 [.t (.a (.s (.ptr 0 0))), .t (.agg [.s (.v (.int .i64 no)), .s (.v (.int .i64 ab)), .s (.v (.int .i64 ro)), .s (.v (.int .i64 h)), .s (.v (.int .i64 v)), .s (.v (.int .i64 r)), .s (.v (.int .i64 u)), .s (.v (.int .i64 s)), .s (.v (.bool x))])] (bookR true d n xs m es)
    (fun w H => w = .int .i64 (n + 1) ∧ H = [⟨true, true, 45, 1, .cells [.s (.v (.bool true)), .s (.v (.int .i64 d)), .s (.slc 3 0 (n + 1)), .s (.slc 2 0 m)]⟩, ⟨true, false, 50, 9, .dead⟩, ⟨true, false, 67, 4, .rows (.int .i64) es⟩, ⟨true, false, 50, 9, .recs kG (xs ++ [(n : Int) + 1, ab, if ab = 0 then (n : Int) + 1 else ro, h, v, r, u, s, if x then 1 else 0])⟩]) := by
  refine call_of_vc TYok mixedO Try.func63 rfl rfl (Nat.le_of_ble_eq_true rfl) ?_
  have q0 : decide ((n : Int) < 128) = true := decide_eq_true (by omega)
  (repeat (first | refine aC ?_ | refine aK ?_ | refine ⟨fun _ => ?_, fun h => absurd h (by decide)⟩ | refine ⟨fun h => absurd h (by decide), fun _ => ?_⟩))
  rw [q0]
  (repeat (first | refine aC ?_ | refine aK ?_ | refine ⟨fun _ => ?_, fun h => absurd h (by decide)⟩ | refine ⟨fun h => absurd h (by decide), fun _ => ?_⟩))
  (refine call_lift (need_t 8) (fun i => match i with | 0 => none | _ => none) rfl rfl hI rfl rfl rfl ?_; rintro v H1 ⟨rfl, rfl⟩; refine ⟨⟨rfl, rfl, rfl, rfl⟩, ?_⟩; (try simp only [two]); (try simp only [AV.ren]); (try simp only [renT]); (try simp only [AT.ren]); (try simp only [A.ren]); (try (rw [ptr_ren]; rotate_left; exact rfl)); (try (rw [slc_ren]; rotate_left; exact rfl)); (try simp only [S.ren]))
  (repeat (first | refine aC ?_ | refine aK ?_ | refine ⟨fun _ => ?_, fun h => absurd h (by decide)⟩ | refine ⟨fun h => absurd h (by decide), fun _ => ?_⟩))
  refine ⟨fun g => ?_, fun g => ?_⟩
  · (repeat (first | refine aC ?_ | refine aK ?_ | refine ⟨fun _ => ?_, fun h => absurd h (by decide)⟩ | refine ⟨fun h => absurd h (by decide), fun _ => ?_⟩))
    (refine drawn_rule TYok mixedO [(1, 7), (0, 10)] [(true, 0, [1]), (true, 1, []), (true, 2, []), (true, 3, []), (true, 4, []), (true, 5, []), (false, 6, []), (false, 7, [1]), (true, 8, [1]), (true, 9, [1]), (false, 10, [0, 1])] (by kernel_rfl) ?_)
    (repeat (first | refine aC ?_ | refine aK ?_ | refine ⟨fun _ => ?_, fun h => absurd h (by decide)⟩ | refine ⟨fun h => absurd h (by decide), fun _ => ?_⟩))
    refine And.intro ?_ ?_
    · exact and_t (and_t (and_t (and_t rfl rfl) rfl) rfl) (apR_t rfl rfl rfl rfl hx hn)
    (repeat (first | refine aC ?_ | refine aK ?_ | refine ⟨fun _ => ?_, fun h => absurd h (by decide)⟩ | refine ⟨fun h => absurd h (by decide), fun _ => ?_⟩))
    exact ⟨(fun i => match i with | 0 => some 0 | 1 => some 1 | 2 => some 2 | 3 => some 5 | _ => none), .int .i64 ((n : Int) + 1), [⟨true, true, 45, 1, .cells [.s (.v (.bool true)), .s (.v (.int .i64 d)), .s (.slc 3 0 (n + 1)), .s (.slc 2 0 m)]⟩, ⟨true, false, 50, 9, .dead⟩, ⟨true, false, 67, 4, .rows (.int .i64) es⟩, ⟨true, false, 50, 9, .recs kG (xs ++ [(n : Int) + 1, ab, (n : Int) + 1, h, v, r, u, s, if x then 1 else 0])⟩], by exact wI, rfl, by rw [if_pos (c := ab = 0) (by simpa using g)]⟩
  · (repeat (first | refine aC ?_ | refine aK ?_ | refine ⟨fun _ => ?_, fun h => absurd h (by decide)⟩ | refine ⟨fun h => absurd h (by decide), fun _ => ?_⟩))
    (refine drawn_rule TYok mixedO [(1, 7), (0, 10)] [(true, 0, [1]), (true, 1, []), (true, 2, []), (true, 3, []), (true, 4, []), (true, 5, []), (false, 6, []), (false, 7, [1]), (true, 8, [1]), (true, 9, [1]), (false, 10, [0, 1])] (by kernel_rfl) ?_)
    (repeat (first | refine aC ?_ | refine aK ?_ | refine ⟨fun _ => ?_, fun h => absurd h (by decide)⟩ | refine ⟨fun h => absurd h (by decide), fun _ => ?_⟩))
    refine And.intro ?_ ?_
    · exact and_t (and_t (and_t (and_t rfl rfl) rfl) rfl) (apR_t rfl rfl rfl rfl hx hn)
    (repeat (first | refine aC ?_ | refine aK ?_ | refine ⟨fun _ => ?_, fun h => absurd h (by decide)⟩ | refine ⟨fun h => absurd h (by decide), fun _ => ?_⟩))
    exact ⟨(fun i => match i with | 0 => some 0 | 1 => some 1 | 2 => some 2 | 3 => some 5 | _ => none), .int .i64 ((n : Int) + 1), [⟨true, true, 45, 1, .cells [.s (.v (.bool true)), .s (.v (.int .i64 d)), .s (.slc 3 0 (n + 1)), .s (.slc 2 0 m)]⟩, ⟨true, false, 50, 9, .dead⟩, ⟨true, false, 67, 4, .rows (.int .i64) es⟩, ⟨true, false, 50, 9, .recs kG (xs ++ [(n : Int) + 1, ab, ro, h, v, r, u, s, if x then 1 else 0])⟩], by exact wI, rfl, by rw [if_neg (c := ab = 0) (by simpa using g)]⟩
/- A root made. -/
set_option maxRecDepth 20000 in
set_option maxHeartbeats 2000000 in
theorem grant_c (d : Int) (n : Nat) (xs : List Int) (m : Nat) (es : List Int) (hx : n * 9 = xs.length) (hn : n < 128) (h v r u s : Int) (hv : validG h v r u s = true) : CallA Try.prog 24 [.t (.a (.s (.ptr 0 0))), .int .i64 h, .int .i64 v, .int .i64 r, .int .i64 u, .int .i64 s] (bookR true d n xs m es)
    (fun w H => w = tupOf [.a (.s (.v (.int .i64 (n + 1)))), .a (.s (.v (.int .i64 0)))] ∧ H = [⟨true, true, 45, 1, .cells [.s (.v (.bool true)), .s (.v (.int .i64 d)), .s (.slc 3 0 (n + 1)), .s (.slc 2 0 m)]⟩, ⟨true, false, 50, 9, .dead⟩, ⟨true, false, 67, 4, .rows (.int .i64) es⟩, ⟨true, false, 50, 9, .recs kG (xs ++ [(n : Int) + 1, 0, (n : Int) + 1, h, v, r, u, s, 0])⟩]) := by
  refine call_defer TYok mixedO Try.func24 rfl rfl (Nat.le_of_ble_eq_true rfl) (df_ok 61 rfl) ?_
  (repeat (first | refine aC ?_ | refine aK ?_ | refine ⟨fun _ => ?_, fun h => absurd h (by decide)⟩ | refine ⟨fun h => absurd h (by decide), fun _ => ?_⟩))
  refine And.intro ?_ ?_
  · exact ⟨rfl, rfl, rfl⟩
  (repeat (first | refine aC ?_ | refine aK ?_ | refine ⟨fun _ => ?_, fun h => absurd h (by decide)⟩ | refine ⟨fun h => absurd h (by decide), fun _ => ?_⟩))
  (refine call_lift (needMade_c d n xs m es) (fun i => match i with | 0 => some 0 | 1 => some 1 | 2 => some 2 | _ => none) rfl rfl hI rfl rfl rfl ?_; rintro v H1 ⟨rfl, rfl⟩; refine ⟨⟨rfl, rfl, rfl, rfl⟩, ?_⟩; (try simp only [two]); (try simp only [AV.ren]); (try simp only [renT]); (try simp only [AT.ren]); (try simp only [A.ren]); (try (rw [ptr_ren]; rotate_left; exact rfl)); (try (rw [slc_ren]; rotate_left; exact rfl)); (try simp only [S.ren]))
  (repeat (first | refine aC ?_ | refine aK ?_ | refine ⟨fun _ => ?_, fun h => absurd h (by decide)⟩ | refine ⟨fun h => absurd h (by decide), fun _ => ?_⟩))
  (refine call_lift (isValid_c 0 0 0 h v r u s false) (fun i => match i with | 0 => none | _ => none) rfl rfl hI rfl rfl rfl ?_; rintro v H1 ⟨rfl, rfl⟩; refine ⟨⟨rfl, rfl, rfl, rfl⟩, ?_⟩; (try simp only [two]); (try simp only [AV.ren]); (try simp only [renT]); (try simp only [AT.ren]); (try simp only [A.ren]); (try (rw [ptr_ren]; rotate_left; exact rfl)); (try (rw [slc_ren]; rotate_left; exact rfl)); (try simp only [S.ren]))
  (repeat (first | refine aC ?_ | refine aK ?_ | refine ⟨fun _ => ?_, fun h => absurd h (by decide)⟩ | refine ⟨fun h => absurd h (by decide), fun _ => ?_⟩))
  rw [hv]
  (refine call_lift (need_t 2) (fun i => match i with | 0 => none | _ => none) rfl rfl hI rfl rfl rfl ?_; rintro v H1 ⟨rfl, rfl⟩; refine ⟨⟨rfl, rfl, rfl, rfl⟩, ?_⟩; (try simp only [two]); (try simp only [AV.ren]); (try simp only [renT]); (try simp only [AT.ren]); (try simp only [A.ren]); (try (rw [ptr_ren]; rotate_left; exact rfl)); (try (rw [slc_ren]; rotate_left; exact rfl)); (try simp only [S.ren]))
  (repeat (first | refine aC ?_ | refine aK ?_ | refine ⟨fun _ => ?_, fun h => absurd h (by decide)⟩ | refine ⟨fun h => absurd h (by decide), fun _ => ?_⟩))
  (refine call_lift (add_c d n xs m es hx hn 0 0 0 h v r u s false) (fun i => match i with | 0 => some 0 | 1 => some 1 | 2 => some 2 | _ => none) rfl rfl hI rfl rfl rfl ?_; rintro v H1 ⟨rfl, rfl⟩; refine ⟨⟨rfl, rfl, rfl, rfl⟩, ?_⟩; (try simp only [two]); (try simp only [AV.ren]); (try simp only [renT]); (try simp only [AT.ren]); (try simp only [A.ren]); (try (rw [ptr_ren]; rotate_left; exact rfl)); (try (rw [slc_ren]; rotate_left; exact rfl)); (try simp only [S.ren]))
  (repeat (first | refine aC ?_ | refine aK ?_ | refine ⟨fun _ => ?_, fun h => absurd h (by decide)⟩ | refine ⟨fun h => absurd h (by decide), fun _ => ?_⟩))
  exact ⟨(fun i => match i with | 0 => some 0 | 1 => some 1 | 2 => some 2 | 3 => some 5 | _ => none), tupOf [.a (.s (.v (.int .i64 (n + 1)))), .a (.s (.v (.int .i64 0)))], [⟨true, true, 45, 1, .cells [.s (.v (.bool true)), .s (.v (.int .i64 d)), .s (.slc 3 0 (n + 1)), .s (.slc 2 0 m)]⟩, ⟨true, false, 50, 9, .dead⟩, ⟨true, false, 67, 4, .rows (.int .i64) es⟩, ⟨true, false, 50, 9, .recs kG (xs ++ [(n : Int) + 1, 0, if (0 : Int) = 0 then (n : Int) + 1 else 0, h, v, r, u, s, if false = true then 1 else 0])⟩], by exact wI, rfl, by simp⟩
/- A full book. -/
set_option maxRecDepth 20000 in
theorem add_full (d : Int) (n : Nat) (xs : List Int) (m : Nat) (es : List Int) (hn : 128 ≤ n) (no ab ro h v r u s : Int) (x : Bool) : CallE Try.prog 63 [.t (.a (.s (.ptr 0 0))), .t (.agg [.s (.v (.int .i64 no)), .s (.v (.int .i64 ab)), .s (.v (.int .i64 ro)), .s (.v (.int .i64 h)), .s (.v (.int .i64 v)), .s (.v (.int .i64 r)), .s (.v (.int .i64 u)), .s (.v (.int .i64 s)), .s (.v (.bool x))])] (bookR true d n xs m es)
    (fun _ _ => False) (fun pv H => pv = .iface 110 (.int .i64 8) ∧ H = bookR true d n xs m es) := by
  refine call_of_vcE TYok mixedO Try.func63 rfl rfl (Nat.le_of_ble_eq_true rfl) ?_
  have q0 : decide ((n : Int) < 128) = false := decide_eq_false (by omega)
  (repeat (first | refine aC ?_ | refine aK ?_ | refine ⟨fun _ => ?_, fun h => absurd h (by decide)⟩ | refine ⟨fun h => absurd h (by decide), fun _ => ?_⟩))
  rw [q0]
  (refine call_liftE (need_f 8) (fun i => match i with | 0 => none | _ => none) rfl rfl hI rfl rfl rfl (fun _ _ h => h.elim) ?_; rintro pv H1 ⟨rfl, rfl⟩; refine ⟨⟨rfl, rfl, rfl⟩, ?_⟩)
  exact ⟨some, bookR true d n xs m es, by exact wI, rfl, rfl⟩
set_option maxRecDepth 20000 in
set_option maxHeartbeats 2000000 in
theorem grant_full (d : Int) (n : Nat) (xs : List Int) (m : Nat) (es : List Int) (hn : 128 ≤ n) (h v r u s : Int) (hv : validG h v r u s = true) : CallA Try.prog 24 [.t (.a (.s (.ptr 0 0))), .int .i64 h, .int .i64 v, .int .i64 r, .int .i64 u, .int .i64 s] (bookR true d n xs m es)
    (fun w H => w = tupOf [.a (.s (.v (.int .i64 0))), .a (.s (.v (.int .i64 8)))] ∧ H = bookR true d n xs m es) := by
  refine call_defer TYok mixedO Try.func24 rfl rfl (Nat.le_of_ble_eq_true rfl) (df_ok 61 rfl) ?_
  (repeat (first | refine aC ?_ | refine aK ?_ | refine ⟨fun _ => ?_, fun h => absurd h (by decide)⟩ | refine ⟨fun h => absurd h (by decide), fun _ => ?_⟩))
  refine And.intro ?_ ?_
  · exact ⟨rfl, rfl, rfl⟩
  (repeat (first | refine aC ?_ | refine aK ?_ | refine ⟨fun _ => ?_, fun h => absurd h (by decide)⟩ | refine ⟨fun h => absurd h (by decide), fun _ => ?_⟩))
  (refine call_lift (needMade_c d n xs m es) (fun i => match i with | 0 => some 0 | 1 => some 1 | 2 => some 2 | _ => none) rfl rfl hI rfl rfl rfl ?_; rintro v H1 ⟨rfl, rfl⟩; refine ⟨⟨rfl, rfl, rfl, rfl⟩, ?_⟩; (try simp only [two]); (try simp only [AV.ren]); (try simp only [renT]); (try simp only [AT.ren]); (try simp only [A.ren]); (try (rw [ptr_ren]; rotate_left; exact rfl)); (try (rw [slc_ren]; rotate_left; exact rfl)); (try simp only [S.ren]))
  (repeat (first | refine aC ?_ | refine aK ?_ | refine ⟨fun _ => ?_, fun h => absurd h (by decide)⟩ | refine ⟨fun h => absurd h (by decide), fun _ => ?_⟩))
  (refine call_lift (isValid_c 0 0 0 h v r u s false) (fun i => match i with | 0 => none | _ => none) rfl rfl hI rfl rfl rfl ?_; rintro v H1 ⟨rfl, rfl⟩; refine ⟨⟨rfl, rfl, rfl, rfl⟩, ?_⟩; (try simp only [two]); (try simp only [AV.ren]); (try simp only [renT]); (try simp only [AT.ren]); (try simp only [A.ren]); (try (rw [ptr_ren]; rotate_left; exact rfl)); (try (rw [slc_ren]; rotate_left; exact rfl)); (try simp only [S.ren]))
  (repeat (first | refine aC ?_ | refine aK ?_ | refine ⟨fun _ => ?_, fun h => absurd h (by decide)⟩ | refine ⟨fun h => absurd h (by decide), fun _ => ?_⟩))
  rw [hv]
  (refine call_lift (need_t 2) (fun i => match i with | 0 => none | _ => none) rfl rfl hI rfl rfl rfl ?_; rintro v H1 ⟨rfl, rfl⟩; refine ⟨⟨rfl, rfl, rfl, rfl⟩, ?_⟩; (try simp only [two]); (try simp only [AV.ren]); (try simp only [renT]); (try simp only [AT.ren]); (try simp only [A.ren]); (try (rw [ptr_ren]; rotate_left; exact rfl)); (try (rw [slc_ren]; rotate_left; exact rfl)); (try simp only [S.ren]))
  (repeat (first | refine aC ?_ | refine aK ?_ | refine ⟨fun _ => ?_, fun h => absurd h (by decide)⟩ | refine ⟨fun h => absurd h (by decide), fun _ => ?_⟩))
  (refine call_liftE (add_full d n xs m es hn 0 0 0 h v r u s false) (fun i => match i with | 0 => some 0 | 1 => some 1 | 2 => some 2 | _ => none) rfl rfl hI rfl rfl rfl (fun _ _ h => h.elim) ?_; rintro pv H1 ⟨rfl, rfl⟩; refine ⟨⟨rfl, rfl, rfl⟩, ?_⟩)
  (repeat (first | refine aC ?_ | refine aK ?_ | refine ⟨fun _ => ?_, fun h => absurd h (by decide)⟩ | refine ⟨fun h => absurd h (by decide), fun _ => ?_⟩))
  refine And.intro rfl (And.intro rfl ?_)
  exact ⟨some, tupOf [.a (.s (.v (.int .i64 0))), .a (.s (.v (.int .i64 8)))], bookR true d n xs m es, by exact wI, rfl, rfl⟩
end Go.Proofs.Ytlbgkfidpkbafaa
