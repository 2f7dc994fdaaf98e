/- A grant passed on, or not. -/
import Derived.Test.YtlbgkfidpkbafaaC16
namespace Go.Proofs.Ytlbgkfidpkbafaa
open Go.RowKit
set_option linter.unusedSimpArgs false
set_option linter.unusedVariables false
/-- the memory behind a new grant -/
abbrev bookA (d : Int) (n : Nat) (xs : List Int) (m : Nat) (es : List Int) (ys : List Int) : AH := [⟨true, true, 45, 1, .cells [.s (.v (.bool true)), .s (.v (.int .i64 d)), .s (.slc 3 0 (n + 1)), .s (.slc 2 0 m)]⟩, ⟨true, false, 50, 9, .dead⟩, ⟨true, false, 67, 4, .rows (.int .i64) es⟩, ⟨true, false, 50, 9, .recs kG (xs ++ ys)⟩]
def PassPost (d : Int) (n : Nat) (xs : List Int) (m : Nat) (es : List Int) (k : Nat) (by_ h v r u s : Int) (w : AV) (H : AH) : Prop :=
  (passB d xs k by_ v r u s = false ∧ w = tupOf [.a (.s (.v (.int .i64 0))), .a (.s (.v (.int .i64 12)))] ∧ H = bookR true d n xs m es) ∨
  (passB d xs k by_ v r u s = true ∧ 128 ≤ n ∧ w = tupOf [.a (.s (.v (.int .i64 0))), .a (.s (.v (.int .i64 8)))] ∧ H = bookR true d n xs m es) ∨
  (passB d xs k by_ v r u s = true ∧ n < 128 ∧ w = tupOf [.a (.s (.v (.int .i64 (n + 1)))), .a (.s (.v (.int .i64 0)))] ∧ H = bookA d n xs m es [(n : Int) + 1, fG xs k 0, if fG xs k 0 = 0 then (n : Int) + 1 else fG xs k 2, h, v, r, u, s, 0])
theorem rec_t {n k xl sz pl : Nat} (hk : k < n) (hx : n * 9 = xl) (hs : sz = 9) (hp : pl = 9) : (decide ((k * 9) % pl = 0) && decide (k * 9 + sz ≤ xl) && decide (sz = pl)) = true := by
  subst hs hp
  exact and_t (and_t (decide_eq_true (by omega)) (decide_eq_true (by omega))) rfl
set_option maxRecDepth 20000 in
set_option maxHeartbeats 8000000 in
theorem pass_c (d : Int) (n : Nat) (xs : List Int) (m : Nat) (es : List Int) (hw : Wf n xs) (k : Nat) (hk : k < n) (hV : natOk .i64 (fG xs k 4) = true) (hR : natOk .i64 (fG xs k 5) = true) (by_ h v r u s : Int) (hv : natOk .i64 v = true) (hr : natOk .i64 r = true) (hb : (validG h v r u s && isPer by_) = true) : CallA Try.prog 25 [.t (.a (.s (.ptr 0 0))), .int .i64 ((k : Int) + 1), .int .i64 by_, .int .i64 h, .int .i64 v, .int .i64 r, .int .i64 u, .int .i64 s] (bookR true d n xs m es)
    (PassPost d n xs m es k by_ h v r u s) := by
  refine call_defer TYok mixedO Try.func25 rfl rfl (Nat.le_of_ble_eq_true rfl) (df_ok 64 rfl) ?_
  (repeat (first | refine aC ?_ | refine aK ?_ | refine ⟨fun _ => ?_, fun h => absurd h (by decide)⟩ | refine ⟨fun h => absurd h (by decide), fun _ => ?_⟩))
  refine And.intro ?_ ?_
  · exact ⟨rfl, rfl, rfl⟩
  (repeat (first | refine aC ?_ | refine aK ?_ | refine ⟨fun _ => ?_, fun h => absurd h (by decide)⟩ | refine ⟨fun h => absurd h (by decide), fun _ => ?_⟩))
  (refine call_lift (find_c d n xs m es hw.len hw.few ((k : Int) + 1) (by omega) (by omega)) (fun i => match i with | 0 => some 0 | 1 => some 1 | 2 => some 2 | _ => none) rfl rfl hI rfl rfl rfl ?_; rintro v H1 ⟨rfl, rfl⟩; refine ⟨⟨rfl, rfl, rfl, rfl⟩, ?_⟩; (try simp only [two]); (try simp only [AV.ren]); (try simp only [renT]); (try simp only [AT.ren]); (try simp only [A.ren]); (try (rw [ptr_ren]; rotate_left; exact rfl)); (try (rw [slc_ren]; rotate_left; exact rfl)); (try simp only [S.ren]))
  rw [succ_k]
  (repeat (first | refine aC ?_ | refine ⟨fun _ => ?_, fun h => absurd h (by decide)⟩ | refine ⟨fun h => absurd h (by decide), fun _ => ?_⟩))
  refine cut_rule [(0, .t (.a (.s (.ptr 0 0)))), (2, .int .i64 by_), (3, .int .i64 h), (4, .int .i64 v), (5, .int .i64 r), (6, .int .i64 u), (7, .int .i64 s), (16, .int .i64 0), (17, .t (.a (.s (.ptr 3 0)))), (18, .t (.a (.s (.ptr 1 (k * 9)))))] (bookR true d n xs m es ++ [⟨true, true, 39, 1, .cells [.s (.v (.int .i64 0))]⟩]) some (by exact wI) ?_
  (refine drawn_rule TYok mixedO [] [(true, 0, []), (true, 1, []), (true, 2, []), (true, 3, []), (true, 4, []), (true, 5, []), (true, 6, []), (true, 7, []), (true, 8, []), (true, 9, []), (true, 10, []), (true, 11, []), (true, 12, []), (true, 13, []), (false, 14, []), (false, 15, [])] (by kernel_rfl) ?_)
  (repeat (first | refine aC ?_ | refine aK ?_ | refine ⟨fun _ => ?_, fun h => absurd h (by decide)⟩ | refine ⟨fun h => absurd h (by decide), fun _ => ?_⟩))
  refine And.intro (fld_t (o := 0) (by decide) rfl hk hw.len) ?_
  (repeat (first | refine aC ?_ | refine aK ?_ | refine ⟨fun _ => ?_, fun h => absurd h (by decide)⟩ | refine ⟨fun h => absurd h (by decide), fun _ => ?_⟩))
  refine And.intro (fld_t (o := 2) (by decide) rfl hk hw.len) ?_
  (repeat (first | refine aC ?_ | refine aK ?_ | refine ⟨fun _ => ?_, fun h => absurd h (by decide)⟩ | refine ⟨fun h => absurd h (by decide), fun _ => ?_⟩))
  (refine call_lift (isValid_c 0 (fG xs k 0) (fG xs k 2) h v r u s false) (fun i => match i with | 0 => none | _ => none) rfl rfl hI rfl rfl rfl ?_; rintro v H1 ⟨rfl, rfl⟩; refine ⟨⟨rfl, rfl, rfl, rfl⟩, ?_⟩; (try simp only [two]); (try simp only [AV.ren]); (try simp only [renT]); (try simp only [AT.ren]); (try simp only [A.ren]); (try (rw [ptr_ren]; rotate_left; exact rfl)); (try (rw [slc_ren]; rotate_left; exact rfl)); (try simp only [S.ren]))
  rw [Bool.and_eq_true] at hb
  rw [hb.1]
  (repeat (first | refine aC ?_ | refine aK ?_ | refine ⟨fun _ => ?_, fun h => absurd h (by decide)⟩ | refine ⟨fun h => absurd h (by decide), fun _ => ?_⟩))
  (refine call_lift (isPerson_c by_) (fun i => match i with | 0 => none | _ => none) rfl rfl hI rfl rfl rfl ?_; rintro v H1 ⟨rfl, rfl⟩; refine ⟨⟨rfl, rfl, rfl, rfl⟩, ?_⟩; (try simp only [two]); (try simp only [AV.ren]); (try simp only [renT]); (try simp only [AT.ren]); (try simp only [A.ren]); (try (rw [ptr_ren]; rotate_left; exact rfl)); (try (rw [slc_ren]; rotate_left; exact rfl)); (try simp only [S.ren]))
  rw [hb.2]
  (repeat (first | refine aC ?_ | refine aK ?_ | refine ⟨fun _ => ?_, fun h => absurd h (by decide)⟩ | refine ⟨fun h => absurd h (by decide), fun _ => ?_⟩))
  (refine call_lift (need_t 2) (fun i => match i with | 0 => none | _ => none) rfl rfl hI rfl rfl rfl ?_; rintro v H1 ⟨rfl, rfl⟩; refine ⟨⟨rfl, rfl, rfl, rfl⟩, ?_⟩; (try simp only [two]); (try simp only [AV.ren]); (try simp only [renT]); (try simp only [AT.ren]); (try simp only [A.ren]); (try (rw [ptr_ren]; rotate_left; exact rfl)); (try (rw [slc_ren]; rotate_left; exact rfl)); (try simp only [S.ren]))
  (repeat (first | refine aC ?_ | refine ⟨fun _ => ?_, fun h => absurd h (by decide)⟩ | refine ⟨fun h => absurd h (by decide), fun _ => ?_⟩))
  refine Or.inr (cut_rule [(0, .t (.a (.s (.ptr 0 0)))), (2, .int .i64 by_), (16, .int .i64 0), (17, .t (.a (.s (.ptr 3 0)))), (18, .t (.a (.s (.ptr 1 (k * 9))))), (19, .t (.a (.s (.ptr 4 0))))] (bookR true d n xs m es ++ [⟨true, true, 39, 1, .cells [.s (.v (.int .i64 0))]⟩, ⟨true, true, 50, 1, .cells [.s (.v (.int .i64 0)), .s (.v (.int .i64 (fG xs k 0))), .s (.v (.int .i64 (fG xs k 2))), .s (.v (.int .i64 h)), .s (.v (.int .i64 v)), .s (.v (.int .i64 r)), .s (.v (.int .i64 u)), .s (.v (.int .i64 s)), .s (.v (.bool false))]⟩]) some (by exact wI) ?_)
  (refine drawn_rule TYok mixedO [] [(true, 0, []), (true, 1, []), (true, 2, []), (true, 3, []), (true, 4, []), (true, 5, []), (true, 6, []), (true, 7, []), (true, 8, []), (false, 9, []), (true, 10, []), (true, 11, []), (true, 12, []), (true, 13, []), (true, 14, []), (true, 15, []), (true, 16, []), (true, 17, []), (true, 18, []), (true, 19, []), (true, 20, []), (true, 21, []), (true, 22, []), (true, 23, []), (false, 24, []), (true, 25, []), (false, 26, [])] (by kernel_rfl) ?_)
  (repeat (first | refine aC ?_ | refine aK ?_ | refine ⟨fun _ => ?_, fun h => absurd h (by decide)⟩ | refine ⟨fun h => absurd h (by decide), fun _ => ?_⟩))
  refine And.intro (fld_t (o := 3) (by decide) rfl hk hw.len) ?_
  (repeat (first | refine aC ?_ | refine aK ?_ | refine ⟨fun _ => ?_, fun h => absurd h (by decide)⟩ | refine ⟨fun h => absurd h (by decide), fun _ => ?_⟩))
  refine ⟨fun g => ?_, fun g => ?_⟩
  · have g1 : (by_ == fG xs k 3) = true := g
    (repeat (first | refine aC ?_ | refine aK ?_ | refine ⟨fun _ => ?_, fun h => absurd h (by decide)⟩ | refine ⟨fun h => absurd h (by decide), fun _ => ?_⟩))
    (refine call_lift (stands_c d n xs m es k hw hk) (fun i => match i with | 0 => some 0 | 1 => some 1 | 2 => some 2 | _ => none) rfl rfl hI rfl rfl rfl ?_; rintro v H1 ⟨rfl, rfl⟩; refine ⟨⟨rfl, rfl, rfl, rfl⟩, ?_⟩; (try simp only [two]); (try simp only [AV.ren]); (try simp only [renT]); (try simp only [AT.ren]); (try simp only [A.ren]); (try (rw [ptr_ren]; rotate_left; exact rfl)); (try (rw [slc_ren]; rotate_left; exact rfl)); (try simp only [S.ren]))
    refine And.intro ?_ ?_
    · refine bkP ?_
      rfl
    (repeat (first | refine aC ?_ | refine aK ?_ | refine ⟨fun _ => ?_, fun h => absurd h (by decide)⟩ | refine ⟨fun h => absurd h (by decide), fun _ => ?_⟩))
    refine ⟨fun g => ?_, fun g => ?_⟩
    · have g2 : standsB d xs k = true := g
      (repeat (first | refine aC ?_ | refine aK ?_ | refine ⟨fun _ => ?_, fun h => absurd h (by decide)⟩ | refine ⟨fun h => absurd h (by decide), fun _ => ?_⟩))
      refine And.intro (fld_t (o := 5) (by decide) rfl hk hw.len) ?_
      (repeat (first | refine aC ?_ | refine aK ?_ | refine ⟨fun _ => ?_, fun h => absurd h (by decide)⟩ | refine ⟨fun h => absurd h (by decide), fun _ => ?_⟩))
      refine And.intro (and_t hR rfl) ?_
      (repeat (first | refine aC ?_ | refine aK ?_ | refine ⟨fun _ => ?_, fun h => absurd h (by decide)⟩ | refine ⟨fun h => absurd h (by decide), fun _ => ?_⟩))
      refine ⟨fun g => ?_, fun g => ?_⟩
      · have g3 : hasPass (fG xs k 5) = true := g
        (repeat (first | refine aC ?_ | refine aK ?_ | refine ⟨fun _ => ?_, fun h => absurd h (by decide)⟩ | refine ⟨fun h => absurd h (by decide), fun _ => ?_⟩))
        refine And.intro (rec_t hk hw.len rfl rfl) ?_
        (repeat (first | refine aC ?_ | refine aK ?_ | refine ⟨fun _ => ?_, fun h => absurd h (by decide)⟩ | refine ⟨fun h => absurd h (by decide), fun _ => ?_⟩))
        (refine call_lift (isWithin_c 0 (fG xs k 0) (fG xs k 2) h v r u s (fG xs k 0) (fG xs k 1) (fG xs k 2) (fG xs k 3) (fG xs k 4) (fG xs k 5) (fG xs k 6) (fG xs k 7) false (xs.getD (k * 9 + 8) 0 != 0) hv hr hV hR) (fun i => match i with | 0 => none | _ => none) rfl rfl hI rfl rfl rfl ?_; rintro v H1 ⟨rfl, rfl⟩; refine ⟨⟨rfl, rfl, rfl, rfl⟩, ?_⟩; (try simp only [two]); (try simp only [AV.ren]); (try simp only [renT]); (try simp only [AT.ren]); (try simp only [A.ren]); (try (rw [ptr_ren]; rotate_left; exact rfl)); (try (rw [slc_ren]; rotate_left; exact rfl)); (try simp only [S.ren]))
        refine And.intro ?_ ?_
        · refine bkP ?_
          rfl
        by_cases g4 : wthn v r u s (fG xs k 4) (fG xs k 5) (fG xs k 6) (fG xs k 7) = true
        · rw [g4]
          (repeat (first | refine aC ?_ | refine aK ?_ | refine ⟨fun _ => ?_, fun h => absurd h (by decide)⟩ | refine ⟨fun h => absurd h (by decide), fun _ => ?_⟩))
          (refine call_lift (need_t 12) (fun i => match i with | 0 => none | _ => none) rfl rfl hI rfl rfl rfl ?_; rintro v H1 ⟨rfl, rfl⟩; refine ⟨⟨rfl, rfl, rfl, rfl⟩, ?_⟩; (try simp only [two]); (try simp only [AV.ren]); (try simp only [renT]); (try simp only [AT.ren]); (try simp only [A.ren]); (try (rw [ptr_ren]; rotate_left; exact rfl)); (try (rw [slc_ren]; rotate_left; exact rfl)); (try simp only [S.ren]))
          refine And.intro ?_ ?_
          · refine bkP ?_
            rfl
          have hp : passB d xs k by_ v r u s = true := by simp only [passB, g1, g2, g3, g4]; rfl
          by_cases hn : n < 128
          · (repeat (first | refine aC ?_ | refine aK ?_ | refine ⟨fun _ => ?_, fun h => absurd h (by decide)⟩ | refine ⟨fun h => absurd h (by decide), fun _ => ?_⟩))
            (refine call_lift (add_c d n xs m es hw.len hn 0 (fG xs k 0) (fG xs k 2) h v r u s false) (fun i => match i with | 0 => some 0 | 1 => some 1 | 2 => some 2 | _ => none) rfl rfl hI rfl rfl rfl ?_; rintro v H1 ⟨rfl, rfl⟩; refine ⟨⟨rfl, rfl, rfl, rfl⟩, ?_⟩; (try simp only [two]); (try simp only [AV.ren]); (try simp only [renT]); (try simp only [AT.ren]); (try simp only [A.ren]); (try (rw [ptr_ren]; rotate_left; exact rfl)); (try (rw [slc_ren]; rotate_left; exact rfl)); (try simp only [S.ren]))
            (repeat (first | refine aC ?_ | refine aK ?_ | refine ⟨fun _ => ?_, fun h => absurd h (by decide)⟩ | refine ⟨fun h => absurd h (by decide), fun _ => ?_⟩))
            exact ⟨(fun i => match i with | 0 => some 0 | 1 => some 1 | 2 => some 2 | 3 => some 5 | _ => none), tupOf [.a (.s (.v (.int .i64 (n + 1)))), .a (.s (.v (.int .i64 0)))], bookA d n xs m es [(n : Int) + 1, fG xs k 0, if fG xs k 0 = 0 then (n : Int) + 1 else fG xs k 2, h, v, r, u, s, if false = true then 1 else 0], by exact wI, .inr (.inr ⟨hp, hn, rfl, rfl⟩)⟩
          · (repeat (first | refine aC ?_ | refine aK ?_ | refine ⟨fun _ => ?_, fun h => absurd h (by decide)⟩ | refine ⟨fun h => absurd h (by decide), fun _ => ?_⟩))
            (refine call_liftE (add_full d n xs m es (by omega) 0 (fG xs k 0) (fG xs k 2) h v r u s false) (fun i => match i with | 0 => some 0 | 1 => some 1 | 2 => some 2 | _ => none) rfl rfl hI rfl rfl rfl (fun _ _ h => h.elim) ?_; rintro pv H1 ⟨rfl, rfl⟩; refine ⟨⟨rfl, rfl, rfl⟩, ?_⟩)
            (repeat (first | refine aC ?_ | refine aK ?_ | refine ⟨fun _ => ?_, fun h => absurd h (by decide)⟩ | refine ⟨fun h => absurd h (by decide), fun _ => ?_⟩))
            refine And.intro rfl (And.intro rfl ?_)
            exact ⟨some, tupOf [.a (.s (.v (.int .i64 0))), .a (.s (.v (.int .i64 8)))], bookR true d n xs m es, by exact wI, .inr (.inl ⟨hp, by omega, rfl, rfl⟩)⟩
        · have g4 : wthn v r u s (fG xs k 4) (fG xs k 5) (fG xs k 6) (fG xs k 7) = false := by simpa using g4
          rw [g4]
          (repeat (first | refine aC ?_ | refine aK ?_ | refine ⟨fun _ => ?_, fun h => absurd h (by decide)⟩ | refine ⟨fun h => absurd h (by decide), fun _ => ?_⟩))
          (refine call_liftE (need_f 12) (fun i => match i with | 0 => none | _ => none) rfl rfl hI rfl rfl rfl (fun _ _ h => h.elim) ?_; rintro pv H1 ⟨rfl, rfl⟩; refine ⟨⟨rfl, rfl, rfl⟩, ?_⟩)
          refine And.intro ?_ ?_
          · refine bkP ?_
            rfl
          refine And.intro rfl (And.intro rfl (And.intro rfl ?_))
          exact ⟨some, tupOf [.a (.s (.v (.int .i64 0))), .a (.s (.v (.int .i64 12)))], bookR true d n xs m es, by exact wI, .inl ⟨by simp only [passB, g1, g2, g3, g4]; rfl, rfl, rfl⟩⟩
      · have g3 : hasPass (fG xs k 5) = false := g
        (repeat (first | refine aC ?_ | refine aK ?_ | refine ⟨fun _ => ?_, fun h => absurd h (by decide)⟩ | refine ⟨fun h => absurd h (by decide), fun _ => ?_⟩))
        (refine call_liftE (need_f 12) (fun i => match i with | 0 => none | _ => none) rfl rfl hI rfl rfl rfl (fun _ _ h => h.elim) ?_; rintro pv H1 ⟨rfl, rfl⟩; refine ⟨⟨rfl, rfl, rfl⟩, ?_⟩)
        refine And.intro ?_ ?_
        · refine bkP ?_
          rfl
        refine And.intro rfl (And.intro rfl (And.intro rfl ?_))
        exact ⟨some, tupOf [.a (.s (.v (.int .i64 0))), .a (.s (.v (.int .i64 12)))], bookR true d n xs m es, by exact wI, .inl ⟨by simp only [passB, g1, g2, g3]; rfl, rfl, rfl⟩⟩
    · have g2 : standsB d xs k = false := g
      (repeat (first | refine aC ?_ | refine aK ?_ | refine ⟨fun _ => ?_, fun h => absurd h (by decide)⟩ | refine ⟨fun h => absurd h (by decide), fun _ => ?_⟩))
      (refine call_liftE (need_f 12) (fun i => match i with | 0 => none | _ => none) rfl rfl hI rfl rfl rfl (fun _ _ h => h.elim) ?_; rintro pv H1 ⟨rfl, rfl⟩; refine ⟨⟨rfl, rfl, rfl⟩, ?_⟩)
      refine And.intro ?_ ?_
      · refine bkP ?_
        rfl
      refine And.intro rfl (And.intro rfl (And.intro rfl ?_))
      exact ⟨some, tupOf [.a (.s (.v (.int .i64 0))), .a (.s (.v (.int .i64 12)))], bookR true d n xs m es, by exact wI, .inl ⟨by simp only [passB, g1, g2]; rfl, rfl, rfl⟩⟩
  · have g1 : (by_ == fG xs k 3) = false := g
    (repeat (first | refine aC ?_ | refine aK ?_ | refine ⟨fun _ => ?_, fun h => absurd h (by decide)⟩ | refine ⟨fun h => absurd h (by decide), fun _ => ?_⟩))
    (refine call_liftE (need_f 12) (fun i => match i with | 0 => none | _ => none) rfl rfl hI rfl rfl rfl (fun _ _ h => h.elim) ?_; rintro pv H1 ⟨rfl, rfl⟩; refine ⟨⟨rfl, rfl, rfl⟩, ?_⟩)
    refine And.intro ?_ ?_
    · refine bkP ?_
      rfl
    refine And.intro rfl (And.intro rfl (And.intro rfl ?_))
    exact ⟨some, tupOf [.a (.s (.v (.int .i64 0))), .a (.s (.v (.int .i64 12)))], bookR true d n xs m es, by exact wI, .inl ⟨by simp only [passB, g1]; rfl, rfl, rfl⟩⟩
end Go.Proofs.Ytlbgkfidpkbafaa
