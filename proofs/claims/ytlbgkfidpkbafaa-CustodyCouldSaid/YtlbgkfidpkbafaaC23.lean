/- A vault opened (2). -/
import Derived.Test.YtlbgkfidpkbafaaC22
namespace Go.Proofs.Ytlbgkfidpkbafaa
open Go.RowKit
set_option linter.unusedSimpArgs false
set_option linter.unusedVariables false
def openE (d : Int) (n : Nat) (xs : List Int) (m : Nat) (a f fb s sb : Int) : Int :=
  if isVt a = false then 2 else if keyE d n xs a f fb ≠ 0 then keyE d n xs a f fb else if keyE d n xs a s sb ≠ 0 then keyE d n xs a s sb else if ((fb != sb) && (fG xs (f - 1).toNat 2 != fG xs (s - 1).toNat 2)) = false then 13 else if 4096 ≤ m then 8 else 0
theorem keyE_in {d : Int} {n : Nat} {xs : List Int} {a no by_ : Int} (h : keyE d n xs a no by_ = 0) : (1 ≤ no ∧ no ≤ (n : Int)) ∧ keyC d xs (no - 1).toNat a by_ = true ∧ spentB xs (no - 1).toNat = false := by
  unfold keyE at h
  split at h
  · cases h
  · rename_i h1
    split at h
    · cases h
    · rename_i h2
      split at h
      · cases h
      · rename_i h3
        have h1 : (decide (1 ≤ no) && decide (no ≤ (n : Int))) = true := by simpa using h1
        rw [Bool.and_eq_true, decide_eq_true_eq, decide_eq_true_eq] at h1
        exact ⟨h1, by simpa using h2, by simpa using h3⟩
abbrev bookO (d : Int) (n : Nat) (xs : List Int) (m : Nat) (es ys : List Int) : AH := [⟨true, true, 45, 1, .cells [.s (.v (.bool true)), .s (.v (.int .i64 d)), .s (.slc 1 0 n), .s (.slc 3 0 (m + 1))]⟩, ⟨true, false, 50, 9, .recs kG xs⟩, ⟨true, false, 67, 4, .dead⟩, ⟨true, false, 67, 4, .rows (.int .i64) (es ++ ys)⟩]
def OpenPost (d : Int) (n : Nat) (xs : List Int) (m : Nat) (es : List Int) (a f fb s sb : Int) (w : AV) (H : AH) : Prop :=
  w = .int .i64 (openE d n xs m a f fb s sb) ∧ ((openE d n xs m a f fb s sb ≠ 0 ∧ H = bookR true d n xs m es) ∨
    (openE d n xs m a f fb s sb = 0 ∧ H = bookO d n (useG (useG xs (f - 1).toNat) (s - 1).toNat) m es [d, a, f, s]))
theorem apO_t {js jb L m xl : Nat} (hL : L = 1) (hj : js = 4) (hb : jb = 32) (h3 : m * 4 = xl) (hm : m < 4096) : decide (0 < L ∧ m * js = xl ∧ (m + L) * jb ≤ 140737488355328 ∧ m + L ≤ 9223372036854775807 ∧ 0 < js) = true := by
  subst hL hj hb
  exact decide_eq_true ⟨by omega, h3, by omega, by omega, by omega⟩
set_option maxRecDepth 20000 in
set_option maxHeartbeats 8000000 in
theorem open_c (d : Int) (n : Nat) (xs : List Int) (m : Nat) (es : List Int) (hR : Rng n xs) (he : m * 4 = es.length) (hm : m ≤ 4096) (a f fb s sb : Int) : CallA Try.prog 30 [.t (.a (.s (.ptr 0 0))), .int .i64 a, .int .i64 f, .int .i64 fb, .int .i64 s, .int .i64 sb] (bookR true d n xs m es)
    (OpenPost d n xs m es a f fb s sb) := by
  refine call_defer TYok mixedO Try.func30 rfl rfl (Nat.le_of_ble_eq_true rfl) (df_ok 79 rfl) ?_
  (repeat (first | refine aC ?_ | refine aK ?_ | refine ⟨fun _ => ?_, fun h => absurd h (by decide)⟩ | refine ⟨fun h => absurd h (by decide), fun _ => ?_⟩))
  refine And.intro ?_ ?_
  · exact ⟨rfl, rfl, rfl⟩
  (repeat (first | refine aC ?_ | refine aK ?_ | refine ⟨fun _ => ?_, fun h => absurd h (by decide)⟩ | refine ⟨fun h => absurd h (by decide), fun _ => ?_⟩))
  (refine call_lift (needMade_c d n xs m es) (fun i => match i with | 0 => some 0 | 1 => some 1 | 2 => some 2 | _ => none) rfl rfl hI rfl rfl rfl ?_; rintro v H1 ⟨rfl, rfl⟩; refine ⟨⟨rfl, rfl, rfl, rfl⟩, ?_⟩; (try simp only [two]); (try simp only [AV.ren]); (try simp only [renT]); (try simp only [AT.ren]); (try simp only [A.ren]); (try (rw [ptr_ren]; rotate_left; exact rfl)); (try (rw [slc_ren]; rotate_left; exact rfl)); (try simp only [S.ren]))
  (repeat (first | refine aC ?_ | refine aK ?_ | refine ⟨fun _ => ?_, fun h => absurd h (by decide)⟩ | refine ⟨fun h => absurd h (by decide), fun _ => ?_⟩))
  (refine call_lift (isVault_c a) (fun i => match i with | 0 => none | _ => none) rfl rfl hI rfl rfl rfl ?_; rintro v H1 ⟨rfl, rfl⟩; refine ⟨⟨rfl, rfl, rfl, rfl⟩, ?_⟩; (try simp only [two]); (try simp only [AV.ren]); (try simp only [renT]); (try simp only [AT.ren]); (try simp only [A.ren]); (try (rw [ptr_ren]; rotate_left; exact rfl)); (try (rw [slc_ren]; rotate_left; exact rfl)); (try simp only [S.ren]))
  (repeat (first | refine aC ?_ | refine aK ?_ | refine ⟨fun _ => ?_, fun h => absurd h (by decide)⟩ | refine ⟨fun h => absurd h (by decide), fun _ => ?_⟩))
  by_cases g0 : isVt a = true
  · (refine call_lift (need_tb (isVt a) 2 g0) (fun i => match i with | 0 => none | _ => none) rfl rfl hI rfl rfl rfl ?_; rintro v H1 ⟨rfl, rfl⟩; refine ⟨⟨rfl, rfl, rfl, rfl⟩, ?_⟩; (try simp only [two]); (try simp only [AV.ren]); (try simp only [renT]); (try simp only [AT.ren]); (try simp only [A.ren]); (try (rw [ptr_ren]; rotate_left; exact rfl)); (try (rw [slc_ren]; rotate_left; exact rfl)); (try simp only [S.ren]))
    (repeat (first | refine aC ?_ | refine aK ?_ | refine ⟨fun _ => ?_, fun h => absurd h (by decide)⟩ | refine ⟨fun h => absurd h (by decide), fun _ => ?_⟩))
    (refine call_liftE (key_all d n xs m es hR a f fb g0) (fun i => match i with | 0 => some 0 | 1 => some 1 | 2 => some 2 | _ => none) rfl rfl hI rfl rfl rfl ?_ ?_)
    · rintro v H1 ⟨g1, rfl, rfl⟩
      refine ⟨⟨rfl, rfl, rfl, rfl⟩, ?_⟩
      ((try simp only [two]); (try simp only [AV.ren]); (try simp only [renT]); (try simp only [AT.ren]); (try simp only [A.ren]); (try (rw [ptr_ren]; rotate_left; exact rfl)); (try (rw [slc_ren]; rotate_left; exact rfl)); (try simp only [S.ren]))
      obtain ⟨⟨f1, f2⟩, _, _⟩ := keyE_in g1
      have hkf : (f - 1).toNat < n := by omega
      generalize hkk : (f - 1).toNat = k1 at *
      (repeat (first | refine aC ?_ | refine aK ?_ | refine ⟨fun _ => ?_, fun h => absurd h (by decide)⟩ | refine ⟨fun h => absurd h (by decide), fun _ => ?_⟩))
      (refine call_liftE (key_all d n xs m es hR a s sb g0) (fun i => match i with | 0 => some 0 | 1 => some 1 | 2 => some 2 | _ => none) rfl rfl hI rfl rfl rfl ?_ ?_)
      · rintro v H1 ⟨g2, rfl, rfl⟩
        refine ⟨⟨rfl, rfl, rfl, rfl⟩, ?_⟩
        ((try simp only [two]); (try simp only [AV.ren]); (try simp only [renT]); (try simp only [AT.ren]); (try simp only [A.ren]); (try (rw [ptr_ren]; rotate_left; exact rfl)); (try (rw [slc_ren]; rotate_left; exact rfl)); (try simp only [S.ren]))
        obtain ⟨⟨s1, s2⟩, _, _⟩ := keyE_in g2
        have hks : (s - 1).toNat < n := by omega
        generalize hkk2 : (s - 1).toNat = k2 at *
        (repeat (first | refine aC ?_ | refine ⟨fun _ => ?_, fun h => absurd h (by decide)⟩ | refine ⟨fun h => absurd h (by decide), fun _ => ?_⟩))
        refine Or.inr (cut_rule [(0, .t (.a (.s (.ptr 0 0)))), (1, .int .i64 a), (2, .int .i64 f), (3, .int .i64 fb), (4, .int .i64 s), (5, .int .i64 sb), (12, .t (.a (.s (.ptr 3 0)))), (13, .t (.a (.s (.ptr 1 (k1 * 9))))), (14, .t (.a (.s (.ptr 1 (k2 * 9)))))] (bookR true d n xs m es ++ [⟨true, true, 39, 1, .cells [.s (.v (.int .i64 0))]⟩]) some (by exact wI) ?_)
        (refine drawn_rule TYok mixedO [] [(true, 0, []), (true, 1, []), (true, 2, []), (true, 3, []), (true, 4, []), (true, 5, []), (true, 6, []), (true, 7, []), (true, 8, []), (true, 9, []), (true, 10, []), (true, 11, []), (true, 12, []), (true, 13, []), (false, 14, [])] (by kernel_rfl) ?_)
        (repeat (first | refine aC ?_ | refine aK ?_ | refine ⟨fun _ => ?_, fun h => absurd h (by decide)⟩ | refine ⟨fun h => absurd h (by decide), fun _ => ?_⟩))
        refine ⟨fun g => ?_, fun g => ?_⟩
        · have g4 : (fb != sb) = true := g
          (repeat (first | refine aC ?_ | refine aK ?_ | refine ⟨fun _ => ?_, fun h => absurd h (by decide)⟩ | refine ⟨fun h => absurd h (by decide), fun _ => ?_⟩))
          refine And.intro (fld_t (o := 2) (by decide) rfl hkf hR.wf.len) ?_
          (repeat (first | refine aC ?_ | refine aK ?_ | refine ⟨fun _ => ?_, fun h => absurd h (by decide)⟩ | refine ⟨fun h => absurd h (by decide), fun _ => ?_⟩))
          refine And.intro (fld_t (o := 2) (by decide) rfl hks hR.wf.len) ?_
          by_cases g3 : (fG xs k1 2 != fG xs k2 2) = true
          · (repeat (first | refine aC ?_ | refine aK ?_ | refine ⟨fun _ => ?_, fun h => absurd h (by decide)⟩ | refine ⟨fun h => absurd h (by decide), fun _ => ?_⟩))
            (refine call_lift (need_tb (fG xs k1 2 != fG xs k2 2) 13 g3) (fun i => match i with | 0 => none | _ => none) rfl rfl hI rfl rfl rfl ?_; rintro v H1 ⟨rfl, rfl⟩; refine ⟨⟨rfl, rfl, rfl, rfl⟩, ?_⟩; (try simp only [two]); (try simp only [AV.ren]); (try simp only [renT]); (try simp only [AT.ren]); (try simp only [A.ren]); (try (rw [ptr_ren]; rotate_left; exact rfl)); (try (rw [slc_ren]; rotate_left; exact rfl)); (try simp only [S.ren]))
            refine And.intro ?_ ?_
            · refine bkP ?_
              rfl
            by_cases g5 : m < 4096
            · have e0 : openE d n xs m a f fb s sb = 0 := by unfold openE; rw [if_neg (by rw [g0]; decide), if_neg (by rw [g1]; decide), if_neg (by rw [g2]; decide), hkk, hkk2, g4, g3, if_neg (by decide), if_neg (by omega)]
              (repeat (first | refine aC ?_ | refine aK ?_ | refine ⟨fun _ => ?_, fun h => absurd h (by decide)⟩ | refine ⟨fun h => absurd h (by decide), fun _ => ?_⟩))
              (refine call_lift (need_tb (decide ((m : Int) < 4096)) 8 (decide_eq_true (by omega))) (fun i => match i with | 0 => none | _ => none) rfl rfl hI rfl rfl rfl ?_; rintro v H1 ⟨rfl, rfl⟩; refine ⟨⟨rfl, rfl, rfl, rfl⟩, ?_⟩; (try simp only [two]); (try simp only [AV.ren]); (try simp only [renT]); (try simp only [AT.ren]); (try simp only [A.ren]); (try (rw [ptr_ren]; rotate_left; exact rfl)); (try (rw [slc_ren]; rotate_left; exact rfl)); (try simp only [S.ren]))
              (repeat (first | refine aC ?_ | refine aK ?_ | refine ⟨fun _ => ?_, fun h => absurd h (by decide)⟩ | refine ⟨fun h => absurd h (by decide), fun _ => ?_⟩))
              (refine call_lift (use_c d n xs m es k1 hR.wf hkf hR.u) (fun i => match i with | 0 => some 0 | 1 => some 1 | 2 => some 2 | _ => none) rfl rfl hI rfl rfl rfl ?_; rintro v H1 ⟨rfl, rfl⟩; refine ⟨⟨rfl, rfl, rfl, rfl⟩, ?_⟩; (try simp only [two]); (try simp only [AV.ren]); (try simp only [renT]); (try simp only [AT.ren]); (try simp only [A.ren]); (try (rw [ptr_ren]; rotate_left; exact rfl)); (try (rw [slc_ren]; rotate_left; exact rfl)); (try simp only [S.ren]))
              (repeat (first | refine aC ?_ | refine aK ?_ | refine ⟨fun _ => ?_, fun h => absurd h (by decide)⟩ | refine ⟨fun h => absurd h (by decide), fun _ => ?_⟩))
              (refine call_lift (use_c d n (useG xs k1) m es k2 (useG_rng hR hkf).wf hks (useG_rng hR hkf).u) (fun i => match i with | 0 => some 0 | 1 => some 1 | 2 => some 2 | _ => none) rfl rfl hI rfl rfl rfl ?_; rintro v H1 ⟨rfl, rfl⟩; refine ⟨⟨rfl, rfl, rfl, rfl⟩, ?_⟩; (try simp only [two]); (try simp only [AV.ren]); (try simp only [renT]); (try simp only [AT.ren]); (try simp only [A.ren]); (try (rw [ptr_ren]; rotate_left; exact rfl)); (try (rw [slc_ren]; rotate_left; exact rfl)); (try simp only [S.ren]))
              (repeat (first | refine aC ?_ | refine ⟨fun _ => ?_, fun h => absurd h (by decide)⟩ | refine ⟨fun h => absurd h (by decide), fun _ => ?_⟩))
              refine cut_rule [(0, .t (.a (.s (.ptr 0 0)))), (1, .int .i64 a), (2, .int .i64 f), (4, .int .i64 s), (12, .t (.a (.s (.ptr 3 0))))] (bookR true d n (useG (useG xs k1) k2) m es ++ [⟨true, true, 39, 1, .cells [.s (.v (.int .i64 0))]⟩]) some (by exact wI) ?_
              (refine drawn_rule TYok mixedO [(2, 14), (0, 17)] [(true, 0, [2]), (true, 1, []), (true, 2, []), (true, 3, []), (true, 4, []), (true, 5, []), (true, 6, []), (true, 7, []), (true, 8, []), (true, 9, []), (true, 10, []), (true, 11, []), (true, 12, []), (false, 13, []), (false, 14, [2]), (true, 15, [2]), (true, 16, [2]), (false, 17, [0, 2])] (by kernel_rfl) ?_)
              (repeat (first | refine aC ?_ | refine aK ?_ | refine ⟨fun _ => ?_, fun h => absurd h (by decide)⟩ | refine ⟨fun h => absurd h (by decide), fun _ => ?_⟩))
              refine And.intro ?_ ?_
              · exact and_t (and_t (and_t (and_t rfl rfl) rfl) rfl) (apO_t rfl rfl rfl he g5)
              (repeat (first | refine aC ?_ | refine aK ?_ | refine ⟨fun _ => ?_, fun h => absurd h (by decide)⟩ | refine ⟨fun h => absurd h (by decide), fun _ => ?_⟩))
              exact ⟨(fun i => match i with | 0 => some 0 | 1 => some 1 | 2 => some 2 | 3 => some 5 | _ => none), .int .i64 0, bookO d n (useG (useG xs k1) k2) m es [d, a, f, s], by exact wI, by rw [e0], .inr ⟨e0, by rw [hkk, hkk2]⟩⟩
            · have e0 : openE d n xs m a f fb s sb = 8 := by unfold openE; rw [if_neg (by rw [g0]; decide), if_neg (by rw [g1]; decide), if_neg (by rw [g2]; decide), hkk, hkk2, g4, g3, if_neg (by decide), if_pos (by omega)]
              (repeat (first | refine aC ?_ | refine aK ?_ | refine ⟨fun _ => ?_, fun h => absurd h (by decide)⟩ | refine ⟨fun h => absurd h (by decide), fun _ => ?_⟩))
              (refine call_liftE (need_fb (decide ((m : Int) < 4096)) 8 (decide_eq_false (by omega))) (fun i => match i with | 0 => none | _ => none) rfl rfl hI rfl rfl rfl (fun _ _ h => h.elim) ?_; rintro pv H1 ⟨rfl, rfl⟩; refine ⟨⟨rfl, rfl, rfl⟩, ?_⟩)
              refine And.intro rfl (And.intro rfl (And.intro rfl ?_))
              exact ⟨some, .int .i64 8, bookR true d n xs m es, by exact wI, by rw [e0], .inl ⟨by rw [e0]; decide, rfl⟩⟩
          · have g3 : (fG xs k1 2 != fG xs k2 2) = false := by simpa using g3
            have e0 : openE d n xs m a f fb s sb = 13 := by unfold openE; rw [if_neg (by rw [g0]; decide), if_neg (by rw [g1]; decide), if_neg (by rw [g2]; decide), hkk, hkk2, g3, Bool.and_false, if_pos rfl]
            (repeat (first | refine aC ?_ | refine aK ?_ | refine ⟨fun _ => ?_, fun h => absurd h (by decide)⟩ | refine ⟨fun h => absurd h (by decide), fun _ => ?_⟩))
            (refine call_liftE (need_fb (fG xs k1 2 != fG xs k2 2) 13 g3) (fun i => match i with | 0 => none | _ => none) rfl rfl hI rfl rfl rfl (fun _ _ h => h.elim) ?_; rintro pv H1 ⟨rfl, rfl⟩; refine ⟨⟨rfl, rfl, rfl⟩, ?_⟩)
            refine And.intro ?_ ?_
            · refine bkP ?_
              rfl
            refine And.intro rfl (And.intro rfl (And.intro rfl ?_))
            exact ⟨some, .int .i64 13, bookR true d n xs m es, by exact wI, by rw [e0], .inl ⟨by rw [e0]; decide, rfl⟩⟩
        · have g4 : (fb != sb) = false := g
          have e0 : openE d n xs m a f fb s sb = 13 := by unfold openE; rw [if_neg (by rw [g0]; decide), if_neg (by rw [g1]; decide), if_neg (by rw [g2]; decide), hkk, hkk2, g4, Bool.false_and, if_pos rfl]
          (repeat (first | refine aC ?_ | refine aK ?_ | refine ⟨fun _ => ?_, fun h => absurd h (by decide)⟩ | refine ⟨fun h => absurd h (by decide), fun _ => ?_⟩))
          (refine call_liftE (need_f 13) (fun i => match i with | 0 => none | _ => none) rfl rfl hI rfl rfl rfl (fun _ _ h => h.elim) ?_; rintro pv H1 ⟨rfl, rfl⟩; refine ⟨⟨rfl, rfl, rfl⟩, ?_⟩)
          refine And.intro ?_ ?_
          · refine bkP ?_
            rfl
          refine And.intro rfl (And.intro rfl (And.intro rfl ?_))
          exact ⟨some, .int .i64 13, bookR true d n xs m es, by exact wI, by rw [e0], .inl ⟨by rw [e0]; decide, rfl⟩⟩
      · rintro pv H1 ⟨hne, rfl, rfl⟩
        refine ⟨⟨rfl, rfl, rfl⟩, ?_⟩
        have e : openE d n xs m a f fb s sb = keyE d n xs a s sb := by unfold openE; rw [if_neg (by rw [g0]; decide), if_neg (by rw [g1]; decide), if_pos hne]
        refine And.intro rfl (And.intro rfl (And.intro rfl ?_))
        exact ⟨some, .int .i64 (keyE d n xs a s sb), bookR true d n xs m es, by exact wI, by rw [e], .inl ⟨by rw [e]; exact hne, rfl⟩⟩
    · rintro pv H1 ⟨hne, rfl, rfl⟩
      refine ⟨⟨rfl, rfl, rfl⟩, ?_⟩
      have e : openE d n xs m a f fb s sb = keyE d n xs a f fb := by unfold openE; rw [if_neg (by rw [g0]; decide), if_pos hne]
      refine And.intro rfl (And.intro rfl (And.intro rfl ?_))
      exact ⟨some, .int .i64 (keyE d n xs a f fb), bookR true d n xs m es, by exact wI, by rw [e], .inl ⟨by rw [e]; exact hne, rfl⟩⟩
  · have g0 : isVt a = false := by simpa using g0
    (refine call_liftE (need_fb (isVt a) 2 g0) (fun i => match i with | 0 => none | _ => none) rfl rfl hI rfl rfl rfl (fun _ _ h => h.elim) ?_; rintro pv H1 ⟨rfl, rfl⟩; refine ⟨⟨rfl, rfl, rfl⟩, ?_⟩)
    (repeat (first | refine aC ?_ | refine aK ?_ | refine ⟨fun _ => ?_, fun h => absurd h (by decide)⟩ | refine ⟨fun h => absurd h (by decide), fun _ => ?_⟩))
    have e : openE d n xs m a f fb s sb = 2 := by unfold openE; rw [if_pos g0]
    refine And.intro rfl (And.intro rfl ?_)
    exact ⟨some, .int .i64 2, bookR true d n xs m es, by exact wI, by rw [e], .inl ⟨by rw [e]; decide, rfl⟩⟩
end Go.Proofs.Ytlbgkfidpkbafaa
