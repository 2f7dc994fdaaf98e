/- One act, on a book and on the specification's. -/
import Derived.Test.YtlbgkfidpkbafaaG7
namespace Go.Proofs.Ytlbgkfidpkbafaa
open Go.RowKit
set_option linter.unusedSimpArgs false
set_option linter.unusedVariables false
abbrev refN (X Y n m : Nat) (d : Int) : AT := .agg [.s (.slc X 0 n), .s (.slc Y 0 m), .s (.v (.int .i64 d))]
abbrev booA (b : Bool) : AT := .a (.s (.v (.bool b)))
abbrev bookX (G E : Nat) (s : St) : Blk := ⟨true, true, 45, 1, .cells [.s (.v (.bool true)), .s (.v (.int .i64 s.d)), .s (.slc G 0 s.n), .s (.slc E 0 s.m)]⟩
abbrev xsB (s : St) : Blk := ⟨true, false, 50, 9, .recs kG s.xs⟩
abbrev xsD : Blk := ⟨true, false, 50, 9, .dead⟩
abbrev esD : Blk := ⟨true, false, 67, 4, .dead⟩
abbrev gsR (gs : List Int) : Blk := ⟨false, false, 50, 9, .recs kG gs⟩
abbrev H1s (s : St) (gs : List Int) : AH := [bookX 1 2 s, xsB s, entB true s.es, gsR gs, enB s.es]
abbrev H2s (s : St) (gs : List Int) : AH := [bookX 5 2 s, xsD, entB true s.es, gsR gs, enB s.es, xsB s]
abbrev H3s (s : St) (gs : List Int) : AH := [bookX 1 5 s, xsB s, esD, gsR gs, enB s.es, entB true s.es]
abbrev H4s (s : St) (gs g0 e0 : List Int) : AH := [bookX 1 2 s, xsB s, entB true s.es, gsR g0, enB e0, gsB gs, entB true s.es]
abbrev H5s (s : St) (gs g0 e0 : List Int) : AH := [bookX 5 2 s, xsD, entB true s.es, gsR g0, enB e0, xsB s, gsB gs, entB true s.es]
abbrev H6s (s : St) (gs g0 e0 : List Int) : AH := [bookX 1 5 s, xsB s, esD, gsR g0, enB e0, entB true s.es, gsB gs, entB true s.es]
def DoPost (s : St) (g0 : List Int) (s' : St) (w : AV) (H : AH) : Prop := ∃ gs, Rf s' gs ∧
  ((s' = s ∧ gs = g0 ∧ w = tupOf [refN 3 4 s'.n s'.m s'.d, booA true] ∧ H = H1s s' gs) ∨ (s' = s ∧ gs = g0 ∧ w = tupOf [refN 3 4 s'.n s'.m s'.d, booA true] ∧ H = H2s s' gs) ∨ (s' = s ∧ gs = g0 ∧ w = tupOf [refN 3 4 s'.n s'.m s'.d, booA true] ∧ H = H3s s' gs) ∨
   (w = tupOf [refN 5 6 s'.n s'.m s'.d, booA true] ∧ H = H4s s' gs g0 s.es) ∨ (w = tupOf [refN 6 7 s'.n s'.m s'.d, booA true] ∧ H = H5s s' gs g0 s.es) ∨ (w = tupOf [refN 6 7 s'.n s'.m s'.d, booA true] ∧ H = H6s s' gs g0 s.es))
theorem actS_0 {s : St} {a : Ac} (h : a.k % 8 = 0) : (actS s a).1 = (grantS s a.a a.v a.r a.u a.s).1 := by unfold actS; rw [if_pos h]
theorem actS_1 {s : St} {a : Ac} (h : a.k % 8 = 1 ∨ a.k % 8 = 2) : (actS s a).1 = (passS s a.g a.a a.b a.v a.r a.u a.s).1 := by unfold actS; rw [if_neg (by omega), if_pos h]
theorem actS_3 {s : St} {a : Ac} (h : a.k % 8 = 3) : (actS s a).1 = (revokeS s a.g a.a).1 := by unfold actS; rw [if_neg (by omega), if_neg (by omega), if_pos h]
theorem actS_7 {s : St} {a : Ac} (h : a.k % 8 = 7) : (actS s a).1 = (nextS s a.n).1 := by unfold actS; rw [if_neg (by omega), if_neg (by omega), if_neg (by omega), if_pos h]
theorem actS_4 {s : St} {a : Ac} (h0 : ¬ a.k % 8 = 0) (h1 : ¬ a.k % 8 = 1) (h2 : ¬ a.k % 8 = 2) (h3 : ¬ a.k % 8 = 3) (h7 : ¬ a.k % 8 = 7) : (actS s a).1 = (openS s a.n a.g a.a a.h a.b).1 := by unfold actS; rw [if_neg h0, if_neg (fun h => h.elim h1 h2), if_neg h3, if_neg h7]
set_option maxRecDepth 20000 in
set_option maxHeartbeats 16000000 in
theorem do_c (s : St) (gs : List Int) (hr : Rf s gs) (a : Ac) (hk0 : 0 ≤ a.k) : CallA Try.prog 18 [.t (.a (.s (.ptr 0 0))), ref3 s.n s.m s.d, .t (.agg a.cells)] (H1s s gs) (DoPost s gs (actS s a).1) := by
  refine call_of_vc TYok mixedO Try.func18 rfl rfl (Nat.le_of_ble_eq_true rfl) ?_
  have hs := hr.good
  (repeat (first | refine aC ?_ | refine aK ?_ | refine ⟨fun _ => ?_, fun h => absurd h (by decide)⟩ | refine ⟨fun h => absurd h (by decide), fun _ => ?_⟩))
  by_cases h0 : a.k % 8 = 0
  · have g0 : (a.k % 8 == 0) = true := beq_iff_eq.2 h0
    (first | refine brTT (g0) ?_ | refine brTF (g0) ?_ | refine brFT (g0) ?_ | refine brFF (g0) ?_)
    (repeat (first | refine aC ?_ | refine aK ?_ | refine ⟨fun _ => ?_, fun h => absurd h (by decide)⟩ | refine ⟨fun h => absurd h (by decide), fun _ => ?_⟩))
    rw [actS_0 h0]
    have hC := grant_all s hs a.a a.v a.r a.u a.s
    have hR := rgrant_c s gs hr a.a a.v a.r a.u a.s
    generalize grantS s a.a a.v a.r a.u a.s = p at *
    obtain ⟨s', no, er⟩ := p
    have qn : (no == no) = true := beq_self_eq_true no
    have qe : (er == er) = true := beq_self_eq_true er
    (refine call_lift (hC) (fun i => match i with | 0 => some 0 | 1 => some 1 | 2 => some 2 | _ => none) rfl rfl hI rfl rfl rfl ?_)
    rintro v1 H1 ⟨rfl, (rfl | rfl)⟩
    · refine ⟨⟨rfl, rfl, rfl, rfl⟩, ?_⟩
      ((try simp only [two]); (try simp only [AV.ren]); (try simp only [renT]); (try simp only [AT.ren]); (try simp only [A.ren]); (try (rw [ptr_ren]; rotate_left; exact rfl)); (try (rw [slc_ren]; rotate_left; exact rfl)); (try simp only [S.ren]))
      (repeat (first | refine aC ?_ | refine aK ?_ | refine ⟨fun _ => ?_, fun h => absurd h (by decide)⟩ | refine ⟨fun h => absurd h (by decide), fun _ => ?_⟩))
      (refine call_lift (hR) (fun i => match i with | 0 => some 3 | 1 => some 4 | _ => none) rfl rfl hI rfl rfl rfl ?_)
      rintro v2 H2 (⟨hq, rfl, rfl⟩ | ⟨gs', hR', rfl, rfl⟩)
      · refine ⟨⟨rfl, rfl, rfl, rfl⟩, ?_⟩
        have hq : s' = s := hq
        subst hq
        ((try simp only [two]); (try simp only [AV.ren]); (try simp only [renT]); (try simp only [AT.ren]); (try simp only [A.ren]); (try (rw [ptr_ren]; rotate_left; exact rfl)); (try (rw [slc_ren]; rotate_left; exact rfl)); (try simp only [S.ren]))
        (repeat (first | refine aC ?_ | refine aK ?_ | refine ⟨fun _ => ?_, fun h => absurd h (by decide)⟩ | refine ⟨fun h => absurd h (by decide), fun _ => ?_⟩))
        (first | refine brTT (qn) ?_ | refine brTF (qn) ?_ | refine brFT (qn) ?_ | refine brFF (qn) ?_)
        (repeat (first | refine aC ?_ | refine aK ?_ | refine ⟨fun _ => ?_, fun h => absurd h (by decide)⟩ | refine ⟨fun h => absurd h (by decide), fun _ => ?_⟩))
        exact ⟨(fun i => match i with | 0 => some 0 | 1 => some 1 | 2 => some 2 | 3 => some 3 | 4 => some 4 | _ => none), tupOf [refN 3 4 s'.n s'.m s'.d, booA (er == er)], H1s s' gs, by exact wI, gs, hr, .inl ⟨rfl, rfl, by rw [qe], rfl⟩⟩
      · refine ⟨⟨rfl, rfl, rfl, rfl⟩, ?_⟩
        have hR' : Rf s' gs' := hR'
        ((try simp only [two]); (try simp only [AV.ren]); (try simp only [renT]); (try simp only [AT.ren]); (try simp only [A.ren]); (try (rw [ptr_ren]; rotate_left; exact rfl)); (try (rw [slc_ren]; rotate_left; exact rfl)); (try simp only [S.ren]))
        (repeat (first | refine aC ?_ | refine aK ?_ | refine ⟨fun _ => ?_, fun h => absurd h (by decide)⟩ | refine ⟨fun h => absurd h (by decide), fun _ => ?_⟩))
        (first | refine brTT (qn) ?_ | refine brTF (qn) ?_ | refine brFT (qn) ?_ | refine brFF (qn) ?_)
        (repeat (first | refine aC ?_ | refine aK ?_ | refine ⟨fun _ => ?_, fun h => absurd h (by decide)⟩ | refine ⟨fun h => absurd h (by decide), fun _ => ?_⟩))
        exact ⟨(fun i => match i with | 0 => some 0 | 1 => some 1 | 2 => some 2 | 3 => some 3 | 4 => some 4 | 5 => some 8 | 6 => some 9 | _ => none), tupOf [refN 5 6 s'.n s'.m s'.d, booA (er == er)], H4s s' gs' gs s.es, by exact wI, gs', hR', .inr (.inr (.inr (.inl ⟨by rw [qe], rfl⟩)))⟩
    · refine ⟨⟨rfl, rfl, rfl, rfl⟩, ?_⟩
      ((try simp only [two]); (try simp only [AV.ren]); (try simp only [renT]); (try simp only [AT.ren]); (try simp only [A.ren]); (try (rw [ptr_ren]; rotate_left; exact rfl)); (try (rw [slc_ren]; rotate_left; exact rfl)); (try simp only [S.ren]))
      (repeat (first | refine aC ?_ | refine aK ?_ | refine ⟨fun _ => ?_, fun h => absurd h (by decide)⟩ | refine ⟨fun h => absurd h (by decide), fun _ => ?_⟩))
      (refine call_lift (hR) (fun i => match i with | 0 => some 3 | 1 => some 4 | _ => none) rfl rfl hI rfl rfl rfl ?_)
      rintro v2 H2 (⟨hq, rfl, rfl⟩ | ⟨gs', hR', rfl, rfl⟩)
      · refine ⟨⟨rfl, rfl, rfl, rfl⟩, ?_⟩
        have hq : s' = s := hq
        subst hq
        ((try simp only [two]); (try simp only [AV.ren]); (try simp only [renT]); (try simp only [AT.ren]); (try simp only [A.ren]); (try (rw [ptr_ren]; rotate_left; exact rfl)); (try (rw [slc_ren]; rotate_left; exact rfl)); (try simp only [S.ren]))
        (repeat (first | refine aC ?_ | refine aK ?_ | refine ⟨fun _ => ?_, fun h => absurd h (by decide)⟩ | refine ⟨fun h => absurd h (by decide), fun _ => ?_⟩))
        (first | refine brTT (qn) ?_ | refine brTF (qn) ?_ | refine brFT (qn) ?_ | refine brFF (qn) ?_)
        (repeat (first | refine aC ?_ | refine aK ?_ | refine ⟨fun _ => ?_, fun h => absurd h (by decide)⟩ | refine ⟨fun h => absurd h (by decide), fun _ => ?_⟩))
        exact ⟨(fun i => match i with | 0 => some 0 | 1 => some 1 | 2 => some 2 | 3 => some 3 | 4 => some 4 | 5 => some 8 | _ => none), tupOf [refN 3 4 s'.n s'.m s'.d, booA (er == er)], H2s s' gs, by exact wI, gs, hr, .inr (.inl ⟨rfl, rfl, by rw [qe], rfl⟩)⟩
      · refine ⟨⟨rfl, rfl, rfl, rfl⟩, ?_⟩
        have hR' : Rf s' gs' := hR'
        ((try simp only [two]); (try simp only [AV.ren]); (try simp only [renT]); (try simp only [AT.ren]); (try simp only [A.ren]); (try (rw [ptr_ren]; rotate_left; exact rfl)); (try (rw [slc_ren]; rotate_left; exact rfl)); (try simp only [S.ren]))
        (repeat (first | refine aC ?_ | refine aK ?_ | refine ⟨fun _ => ?_, fun h => absurd h (by decide)⟩ | refine ⟨fun h => absurd h (by decide), fun _ => ?_⟩))
        (first | refine brTT (qn) ?_ | refine brTF (qn) ?_ | refine brFT (qn) ?_ | refine brFF (qn) ?_)
        (repeat (first | refine aC ?_ | refine aK ?_ | refine ⟨fun _ => ?_, fun h => absurd h (by decide)⟩ | refine ⟨fun h => absurd h (by decide), fun _ => ?_⟩))
        exact ⟨(fun i => match i with | 0 => some 0 | 1 => some 1 | 2 => some 2 | 3 => some 3 | 4 => some 4 | 5 => some 8 | 6 => some 9 | 7 => some 10 | _ => none), tupOf [refN 6 7 s'.n s'.m s'.d, booA (er == er)], H5s s' gs' gs s.es, by exact wI, gs', hR', .inr (.inr (.inr (.inr (.inl ⟨by rw [qe], rfl⟩))))⟩
  · have g0 : (a.k % 8 == 0) = false := beq_eq_false_iff_ne.2 h0
    (first | refine brTT (g0) ?_ | refine brTF (g0) ?_ | refine brFT (g0) ?_ | refine brFF (g0) ?_)
    (repeat (first | refine aC ?_ | refine aK ?_ | refine ⟨fun _ => ?_, fun h => absurd h (by decide)⟩ | refine ⟨fun h => absurd h (by decide), fun _ => ?_⟩))
    by_cases h1 : a.k % 8 = 1
    · have g1 : (a.k % 8 == 1) = true := beq_iff_eq.2 h1
      (first | refine brTT (g1) ?_ | refine brTF (g1) ?_ | refine brFT (g1) ?_ | refine brFF (g1) ?_)
      (repeat (first | refine aC ?_ | refine aK ?_ | refine ⟨fun _ => ?_, fun h => absurd h (by decide)⟩ | refine ⟨fun h => absurd h (by decide), fun _ => ?_⟩))
      (try ((first | refine brTT (g1) ?_ | refine brTF (g1) ?_ | refine brFT (g1) ?_ | refine brFF (g1) ?_)))
      (repeat (first | refine aC ?_ | refine aK ?_ | refine ⟨fun _ => ?_, fun h => absurd h (by decide)⟩ | refine ⟨fun h => absurd h (by decide), fun _ => ?_⟩))
      rw [actS_1 (.inl h1)]
      have hC := pass_all s hs a.g a.a a.b a.v a.r a.u a.s
      have hR := rpass_c s gs hr a.g a.a a.b a.v a.r a.u a.s
      generalize passS s a.g a.a a.b a.v a.r a.u a.s = p at *
      obtain ⟨s', no, er⟩ := p
      have qn : (no == no) = true := beq_self_eq_true no
      have qe : (er == er) = true := beq_self_eq_true er
      (refine call_lift (hC) (fun i => match i with | 0 => some 0 | 1 => some 1 | 2 => some 2 | _ => none) rfl rfl hI rfl rfl rfl ?_)
      rintro v1 H1 ⟨rfl, (rfl | rfl)⟩
      · refine ⟨⟨rfl, rfl, rfl, rfl⟩, ?_⟩
        ((try simp only [two]); (try simp only [AV.ren]); (try simp only [renT]); (try simp only [AT.ren]); (try simp only [A.ren]); (try (rw [ptr_ren]; rotate_left; exact rfl)); (try (rw [slc_ren]; rotate_left; exact rfl)); (try simp only [S.ren]))
        (repeat (first | refine aC ?_ | refine aK ?_ | refine ⟨fun _ => ?_, fun h => absurd h (by decide)⟩ | refine ⟨fun h => absurd h (by decide), fun _ => ?_⟩))
        (refine call_lift (hR) (fun i => match i with | 0 => some 3 | 1 => some 4 | _ => none) rfl rfl hI rfl rfl rfl ?_)
        rintro v2 H2 (⟨hq, rfl, rfl⟩ | ⟨gs', hR', rfl, rfl⟩)
        · refine ⟨⟨rfl, rfl, rfl, rfl⟩, ?_⟩
          have hq : s' = s := hq
          subst hq
          ((try simp only [two]); (try simp only [AV.ren]); (try simp only [renT]); (try simp only [AT.ren]); (try simp only [A.ren]); (try (rw [ptr_ren]; rotate_left; exact rfl)); (try (rw [slc_ren]; rotate_left; exact rfl)); (try simp only [S.ren]))
          (repeat (first | refine aC ?_ | refine aK ?_ | refine ⟨fun _ => ?_, fun h => absurd h (by decide)⟩ | refine ⟨fun h => absurd h (by decide), fun _ => ?_⟩))
          (first | refine brTT (qn) ?_ | refine brTF (qn) ?_ | refine brFT (qn) ?_ | refine brFF (qn) ?_)
          (repeat (first | refine aC ?_ | refine aK ?_ | refine ⟨fun _ => ?_, fun h => absurd h (by decide)⟩ | refine ⟨fun h => absurd h (by decide), fun _ => ?_⟩))
          exact ⟨(fun i => match i with | 0 => some 0 | 1 => some 1 | 2 => some 2 | 3 => some 3 | 4 => some 4 | _ => none), tupOf [refN 3 4 s'.n s'.m s'.d, booA (er == er)], H1s s' gs, by exact wI, gs, hr, .inl ⟨rfl, rfl, by rw [qe], rfl⟩⟩
        · refine ⟨⟨rfl, rfl, rfl, rfl⟩, ?_⟩
          have hR' : Rf s' gs' := hR'
          ((try simp only [two]); (try simp only [AV.ren]); (try simp only [renT]); (try simp only [AT.ren]); (try simp only [A.ren]); (try (rw [ptr_ren]; rotate_left; exact rfl)); (try (rw [slc_ren]; rotate_left; exact rfl)); (try simp only [S.ren]))
          (repeat (first | refine aC ?_ | refine aK ?_ | refine ⟨fun _ => ?_, fun h => absurd h (by decide)⟩ | refine ⟨fun h => absurd h (by decide), fun _ => ?_⟩))
          (first | refine brTT (qn) ?_ | refine brTF (qn) ?_ | refine brFT (qn) ?_ | refine brFF (qn) ?_)
          (repeat (first | refine aC ?_ | refine aK ?_ | refine ⟨fun _ => ?_, fun h => absurd h (by decide)⟩ | refine ⟨fun h => absurd h (by decide), fun _ => ?_⟩))
          exact ⟨(fun i => match i with | 0 => some 0 | 1 => some 1 | 2 => some 2 | 3 => some 3 | 4 => some 4 | 5 => some 8 | 6 => some 9 | _ => none), tupOf [refN 5 6 s'.n s'.m s'.d, booA (er == er)], H4s s' gs' gs s.es, by exact wI, gs', hR', .inr (.inr (.inr (.inl ⟨by rw [qe], rfl⟩)))⟩
      · refine ⟨⟨rfl, rfl, rfl, rfl⟩, ?_⟩
        ((try simp only [two]); (try simp only [AV.ren]); (try simp only [renT]); (try simp only [AT.ren]); (try simp only [A.ren]); (try (rw [ptr_ren]; rotate_left; exact rfl)); (try (rw [slc_ren]; rotate_left; exact rfl)); (try simp only [S.ren]))
        (repeat (first | refine aC ?_ | refine aK ?_ | refine ⟨fun _ => ?_, fun h => absurd h (by decide)⟩ | refine ⟨fun h => absurd h (by decide), fun _ => ?_⟩))
        (refine call_lift (hR) (fun i => match i with | 0 => some 3 | 1 => some 4 | _ => none) rfl rfl hI rfl rfl rfl ?_)
        rintro v2 H2 (⟨hq, rfl, rfl⟩ | ⟨gs', hR', rfl, rfl⟩)
        · refine ⟨⟨rfl, rfl, rfl, rfl⟩, ?_⟩
          have hq : s' = s := hq
          subst hq
          ((try simp only [two]); (try simp only [AV.ren]); (try simp only [renT]); (try simp only [AT.ren]); (try simp only [A.ren]); (try (rw [ptr_ren]; rotate_left; exact rfl)); (try (rw [slc_ren]; rotate_left; exact rfl)); (try simp only [S.ren]))
          (repeat (first | refine aC ?_ | refine aK ?_ | refine ⟨fun _ => ?_, fun h => absurd h (by decide)⟩ | refine ⟨fun h => absurd h (by decide), fun _ => ?_⟩))
          (first | refine brTT (qn) ?_ | refine brTF (qn) ?_ | refine brFT (qn) ?_ | refine brFF (qn) ?_)
          (repeat (first | refine aC ?_ | refine aK ?_ | refine ⟨fun _ => ?_, fun h => absurd h (by decide)⟩ | refine ⟨fun h => absurd h (by decide), fun _ => ?_⟩))
          exact ⟨(fun i => match i with | 0 => some 0 | 1 => some 1 | 2 => some 2 | 3 => some 3 | 4 => some 4 | 5 => some 8 | _ => none), tupOf [refN 3 4 s'.n s'.m s'.d, booA (er == er)], H2s s' gs, by exact wI, gs, hr, .inr (.inl ⟨rfl, rfl, by rw [qe], rfl⟩)⟩
        · refine ⟨⟨rfl, rfl, rfl, rfl⟩, ?_⟩
          have hR' : Rf s' gs' := hR'
          ((try simp only [two]); (try simp only [AV.ren]); (try simp only [renT]); (try simp only [AT.ren]); (try simp only [A.ren]); (try (rw [ptr_ren]; rotate_left; exact rfl)); (try (rw [slc_ren]; rotate_left; exact rfl)); (try simp only [S.ren]))
          (repeat (first | refine aC ?_ | refine aK ?_ | refine ⟨fun _ => ?_, fun h => absurd h (by decide)⟩ | refine ⟨fun h => absurd h (by decide), fun _ => ?_⟩))
          (first | refine brTT (qn) ?_ | refine brTF (qn) ?_ | refine brFT (qn) ?_ | refine brFF (qn) ?_)
          (repeat (first | refine aC ?_ | refine aK ?_ | refine ⟨fun _ => ?_, fun h => absurd h (by decide)⟩ | refine ⟨fun h => absurd h (by decide), fun _ => ?_⟩))
          exact ⟨(fun i => match i with | 0 => some 0 | 1 => some 1 | 2 => some 2 | 3 => some 3 | 4 => some 4 | 5 => some 8 | 6 => some 9 | 7 => some 10 | _ => none), tupOf [refN 6 7 s'.n s'.m s'.d, booA (er == er)], H5s s' gs' gs s.es, by exact wI, gs', hR', .inr (.inr (.inr (.inr (.inl ⟨by rw [qe], rfl⟩))))⟩
    · have g1 : (a.k % 8 == 1) = false := beq_eq_false_iff_ne.2 h1
      (first | refine brTT (g1) ?_ | refine brTF (g1) ?_ | refine brFT (g1) ?_ | refine brFF (g1) ?_)
      (repeat (first | refine aC ?_ | refine aK ?_ | refine ⟨fun _ => ?_, fun h => absurd h (by decide)⟩ | refine ⟨fun h => absurd h (by decide), fun _ => ?_⟩))
      by_cases h2 : a.k % 8 = 2
      · have g2 : (a.k % 8 == 2) = true := beq_iff_eq.2 h2
        (first | refine brTT (g2) ?_ | refine brTF (g2) ?_ | refine brFT (g2) ?_ | refine brFF (g2) ?_)
        (repeat (first | refine aC ?_ | refine aK ?_ | refine ⟨fun _ => ?_, fun h => absurd h (by decide)⟩ | refine ⟨fun h => absurd h (by decide), fun _ => ?_⟩))
        rw [actS_1 (.inr h2)]
        have hC := pass_all s hs a.g a.a a.b a.v a.r a.u a.s
        have hR := rpass_c s gs hr a.g a.a a.b a.v a.r a.u a.s
        generalize passS s a.g a.a a.b a.v a.r a.u a.s = p at *
        obtain ⟨s', no, er⟩ := p
        have qn : (no == no) = true := beq_self_eq_true no
        have qe : (er == er) = true := beq_self_eq_true er
        (refine call_lift (hC) (fun i => match i with | 0 => some 0 | 1 => some 1 | 2 => some 2 | _ => none) rfl rfl hI rfl rfl rfl ?_)
        rintro v1 H1 ⟨rfl, (rfl | rfl)⟩
        · refine ⟨⟨rfl, rfl, rfl, rfl⟩, ?_⟩
          ((try simp only [two]); (try simp only [AV.ren]); (try simp only [renT]); (try simp only [AT.ren]); (try simp only [A.ren]); (try (rw [ptr_ren]; rotate_left; exact rfl)); (try (rw [slc_ren]; rotate_left; exact rfl)); (try simp only [S.ren]))
          (repeat (first | refine aC ?_ | refine aK ?_ | refine ⟨fun _ => ?_, fun h => absurd h (by decide)⟩ | refine ⟨fun h => absurd h (by decide), fun _ => ?_⟩))
          (refine call_lift (hR) (fun i => match i with | 0 => some 3 | 1 => some 4 | _ => none) rfl rfl hI rfl rfl rfl ?_)
          rintro v2 H2 (⟨hq, rfl, rfl⟩ | ⟨gs', hR', rfl, rfl⟩)
          · refine ⟨⟨rfl, rfl, rfl, rfl⟩, ?_⟩
            have hq : s' = s := hq
            subst hq
            ((try simp only [two]); (try simp only [AV.ren]); (try simp only [renT]); (try simp only [AT.ren]); (try simp only [A.ren]); (try (rw [ptr_ren]; rotate_left; exact rfl)); (try (rw [slc_ren]; rotate_left; exact rfl)); (try simp only [S.ren]))
            (repeat (first | refine aC ?_ | refine aK ?_ | refine ⟨fun _ => ?_, fun h => absurd h (by decide)⟩ | refine ⟨fun h => absurd h (by decide), fun _ => ?_⟩))
            (first | refine brTT (qn) ?_ | refine brTF (qn) ?_ | refine brFT (qn) ?_ | refine brFF (qn) ?_)
            (repeat (first | refine aC ?_ | refine aK ?_ | refine ⟨fun _ => ?_, fun h => absurd h (by decide)⟩ | refine ⟨fun h => absurd h (by decide), fun _ => ?_⟩))
            exact ⟨(fun i => match i with | 0 => some 0 | 1 => some 1 | 2 => some 2 | 3 => some 3 | 4 => some 4 | _ => none), tupOf [refN 3 4 s'.n s'.m s'.d, booA (er == er)], H1s s' gs, by exact wI, gs, hr, .inl ⟨rfl, rfl, by rw [qe], rfl⟩⟩
          · refine ⟨⟨rfl, rfl, rfl, rfl⟩, ?_⟩
            have hR' : Rf s' gs' := hR'
            ((try simp only [two]); (try simp only [AV.ren]); (try simp only [renT]); (try simp only [AT.ren]); (try simp only [A.ren]); (try (rw [ptr_ren]; rotate_left; exact rfl)); (try (rw [slc_ren]; rotate_left; exact rfl)); (try simp only [S.ren]))
            (repeat (first | refine aC ?_ | refine aK ?_ | refine ⟨fun _ => ?_, fun h => absurd h (by decide)⟩ | refine ⟨fun h => absurd h (by decide), fun _ => ?_⟩))
            (first | refine brTT (qn) ?_ | refine brTF (qn) ?_ | refine brFT (qn) ?_ | refine brFF (qn) ?_)
            (repeat (first | refine aC ?_ | refine aK ?_ | refine ⟨fun _ => ?_, fun h => absurd h (by decide)⟩ | refine ⟨fun h => absurd h (by decide), fun _ => ?_⟩))
            exact ⟨(fun i => match i with | 0 => some 0 | 1 => some 1 | 2 => some 2 | 3 => some 3 | 4 => some 4 | 5 => some 8 | 6 => some 9 | _ => none), tupOf [refN 5 6 s'.n s'.m s'.d, booA (er == er)], H4s s' gs' gs s.es, by exact wI, gs', hR', .inr (.inr (.inr (.inl ⟨by rw [qe], rfl⟩)))⟩
        · refine ⟨⟨rfl, rfl, rfl, rfl⟩, ?_⟩
          ((try simp only [two]); (try simp only [AV.ren]); (try simp only [renT]); (try simp only [AT.ren]); (try simp only [A.ren]); (try (rw [ptr_ren]; rotate_left; exact rfl)); (try (rw [slc_ren]; rotate_left; exact rfl)); (try simp only [S.ren]))
          (repeat (first | refine aC ?_ | refine aK ?_ | refine ⟨fun _ => ?_, fun h => absurd h (by decide)⟩ | refine ⟨fun h => absurd h (by decide), fun _ => ?_⟩))
          (refine call_lift (hR) (fun i => match i with | 0 => some 3 | 1 => some 4 | _ => none) rfl rfl hI rfl rfl rfl ?_)
          rintro v2 H2 (⟨hq, rfl, rfl⟩ | ⟨gs', hR', rfl, rfl⟩)
          · refine ⟨⟨rfl, rfl, rfl, rfl⟩, ?_⟩
            have hq : s' = s := hq
            subst hq
            ((try simp only [two]); (try simp only [AV.ren]); (try simp only [renT]); (try simp only [AT.ren]); (try simp only [A.ren]); (try (rw [ptr_ren]; rotate_left; exact rfl)); (try (rw [slc_ren]; rotate_left; exact rfl)); (try simp only [S.ren]))
            (repeat (first | refine aC ?_ | refine aK ?_ | refine ⟨fun _ => ?_, fun h => absurd h (by decide)⟩ | refine ⟨fun h => absurd h (by decide), fun _ => ?_⟩))
            (first | refine brTT (qn) ?_ | refine brTF (qn) ?_ | refine brFT (qn) ?_ | refine brFF (qn) ?_)
            (repeat (first | refine aC ?_ | refine aK ?_ | refine ⟨fun _ => ?_, fun h => absurd h (by decide)⟩ | refine ⟨fun h => absurd h (by decide), fun _ => ?_⟩))
            exact ⟨(fun i => match i with | 0 => some 0 | 1 => some 1 | 2 => some 2 | 3 => some 3 | 4 => some 4 | 5 => some 8 | _ => none), tupOf [refN 3 4 s'.n s'.m s'.d, booA (er == er)], H2s s' gs, by exact wI, gs, hr, .inr (.inl ⟨rfl, rfl, by rw [qe], rfl⟩)⟩
          · refine ⟨⟨rfl, rfl, rfl, rfl⟩, ?_⟩
            have hR' : Rf s' gs' := hR'
            ((try simp only [two]); (try simp only [AV.ren]); (try simp only [renT]); (try simp only [AT.ren]); (try simp only [A.ren]); (try (rw [ptr_ren]; rotate_left; exact rfl)); (try (rw [slc_ren]; rotate_left; exact rfl)); (try simp only [S.ren]))
            (repeat (first | refine aC ?_ | refine aK ?_ | refine ⟨fun _ => ?_, fun h => absurd h (by decide)⟩ | refine ⟨fun h => absurd h (by decide), fun _ => ?_⟩))
            (first | refine brTT (qn) ?_ | refine brTF (qn) ?_ | refine brFT (qn) ?_ | refine brFF (qn) ?_)
            (repeat (first | refine aC ?_ | refine aK ?_ | refine ⟨fun _ => ?_, fun h => absurd h (by decide)⟩ | refine ⟨fun h => absurd h (by decide), fun _ => ?_⟩))
            exact ⟨(fun i => match i with | 0 => some 0 | 1 => some 1 | 2 => some 2 | 3 => some 3 | 4 => some 4 | 5 => some 8 | 6 => some 9 | 7 => some 10 | _ => none), tupOf [refN 6 7 s'.n s'.m s'.d, booA (er == er)], H5s s' gs' gs s.es, by exact wI, gs', hR', .inr (.inr (.inr (.inr (.inl ⟨by rw [qe], rfl⟩))))⟩
      · have g2 : (a.k % 8 == 2) = false := beq_eq_false_iff_ne.2 h2
        (first | refine brTT (g2) ?_ | refine brTF (g2) ?_ | refine brFT (g2) ?_ | refine brFF (g2) ?_)
        (repeat (first | refine aC ?_ | refine aK ?_ | refine ⟨fun _ => ?_, fun h => absurd h (by decide)⟩ | refine ⟨fun h => absurd h (by decide), fun _ => ?_⟩))
        by_cases h3 : a.k % 8 = 3
        · have g3 : (a.k % 8 == 3) = true := beq_iff_eq.2 h3
          (first | refine brTT (g3) ?_ | refine brTF (g3) ?_ | refine brFT (g3) ?_ | refine brFF (g3) ?_)
          (repeat (first | refine aC ?_ | refine aK ?_ | refine ⟨fun _ => ?_, fun h => absurd h (by decide)⟩ | refine ⟨fun h => absurd h (by decide), fun _ => ?_⟩))
          rw [actS_3 h3]
          have hC := revoke_all s hs a.g a.a
          have hR := rrevoke_c s gs hr a.g a.a
          generalize revokeS s a.g a.a = p at *
          obtain ⟨s', no, er⟩ := p
          have qn : (no == no) = true := beq_self_eq_true no
          have qe : (er == er) = true := beq_self_eq_true er
          (refine call_lift (hC) (fun i => match i with | 0 => some 0 | 1 => some 1 | 2 => some 2 | _ => none) rfl rfl hI rfl rfl rfl ?_)
          rintro v1 H1 ⟨rfl, rfl⟩
          · refine ⟨⟨rfl, rfl, rfl, rfl⟩, ?_⟩
            ((try simp only [two]); (try simp only [AV.ren]); (try simp only [renT]); (try simp only [AT.ren]); (try simp only [A.ren]); (try (rw [ptr_ren]; rotate_left; exact rfl)); (try (rw [slc_ren]; rotate_left; exact rfl)); (try simp only [S.ren]))
            (repeat (first | refine aC ?_ | refine aK ?_ | refine ⟨fun _ => ?_, fun h => absurd h (by decide)⟩ | refine ⟨fun h => absurd h (by decide), fun _ => ?_⟩))
            (refine call_lift (hR) (fun i => match i with | 0 => some 3 | 1 => some 4 | _ => none) rfl rfl hI rfl rfl rfl ?_)
            rintro v2 H2 (⟨hq, rfl, rfl⟩ | ⟨gs', hR', rfl, rfl⟩)
            · refine ⟨⟨rfl, rfl, rfl, rfl⟩, ?_⟩
              have hq : s' = s := hq
              subst hq
              ((try simp only [two]); (try simp only [AV.ren]); (try simp only [renT]); (try simp only [AT.ren]); (try simp only [A.ren]); (try (rw [ptr_ren]; rotate_left; exact rfl)); (try (rw [slc_ren]; rotate_left; exact rfl)); (try simp only [S.ren]))
              (repeat (first | refine aC ?_ | refine aK ?_ | refine ⟨fun _ => ?_, fun h => absurd h (by decide)⟩ | refine ⟨fun h => absurd h (by decide), fun _ => ?_⟩))
              (first | refine brTT (qn) ?_ | refine brTF (qn) ?_ | refine brFT (qn) ?_ | refine brFF (qn) ?_)
              (repeat (first | refine aC ?_ | refine aK ?_ | refine ⟨fun _ => ?_, fun h => absurd h (by decide)⟩ | refine ⟨fun h => absurd h (by decide), fun _ => ?_⟩))
              exact ⟨(fun i => match i with | 0 => some 0 | 1 => some 1 | 2 => some 2 | 3 => some 3 | 4 => some 4 | _ => none), tupOf [refN 3 4 s'.n s'.m s'.d, booA (er == er)], H1s s' gs, by exact wI, gs, hr, .inl ⟨rfl, rfl, by rw [qe], rfl⟩⟩
            · refine ⟨⟨rfl, rfl, rfl, rfl⟩, ?_⟩
              have hR' : Rf s' gs' := hR'
              ((try simp only [two]); (try simp only [AV.ren]); (try simp only [renT]); (try simp only [AT.ren]); (try simp only [A.ren]); (try (rw [ptr_ren]; rotate_left; exact rfl)); (try (rw [slc_ren]; rotate_left; exact rfl)); (try simp only [S.ren]))
              (repeat (first | refine aC ?_ | refine aK ?_ | refine ⟨fun _ => ?_, fun h => absurd h (by decide)⟩ | refine ⟨fun h => absurd h (by decide), fun _ => ?_⟩))
              (first | refine brTT (qn) ?_ | refine brTF (qn) ?_ | refine brFT (qn) ?_ | refine brFF (qn) ?_)
              (repeat (first | refine aC ?_ | refine aK ?_ | refine ⟨fun _ => ?_, fun h => absurd h (by decide)⟩ | refine ⟨fun h => absurd h (by decide), fun _ => ?_⟩))
              exact ⟨(fun i => match i with | 0 => some 0 | 1 => some 1 | 2 => some 2 | 3 => some 3 | 4 => some 4 | 5 => some 8 | 6 => some 9 | _ => none), tupOf [refN 5 6 s'.n s'.m s'.d, booA (er == er)], H4s s' gs' gs s.es, by exact wI, gs', hR', .inr (.inr (.inr (.inl ⟨by rw [qe], rfl⟩)))⟩
        · have g3 : (a.k % 8 == 3) = false := beq_eq_false_iff_ne.2 h3
          (first | refine brTT (g3) ?_ | refine brTF (g3) ?_ | refine brFT (g3) ?_ | refine brFF (g3) ?_)
          (repeat (first | refine aC ?_ | refine aK ?_ | refine ⟨fun _ => ?_, fun h => absurd h (by decide)⟩ | refine ⟨fun h => absurd h (by decide), fun _ => ?_⟩))
          by_cases h7 : a.k % 8 = 7
          · have g7 : (a.k % 8 == 7) = true := beq_iff_eq.2 h7
            (first | refine brTT (g7) ?_ | refine brTF (g7) ?_ | refine brFT (g7) ?_ | refine brFF (g7) ?_)
            (repeat (first | refine aC ?_ | refine aK ?_ | refine ⟨fun _ => ?_, fun h => absurd h (by decide)⟩ | refine ⟨fun h => absurd h (by decide), fun _ => ?_⟩))
            rw [actS_7 h7]
            have hC := next_all s a.n
            have hR := rnext_c s gs hr a.n
            generalize nextS s a.n = p at *
            obtain ⟨s', er⟩ := p
            have qe : (er == er) = true := beq_self_eq_true er
            (refine call_lift (hC) (fun i => match i with | 0 => some 0 | 1 => some 1 | 2 => some 2 | _ => none) rfl rfl hI rfl rfl rfl ?_)
            rintro v1 H1 ⟨rfl, rfl⟩
            · refine ⟨⟨rfl, rfl, rfl, rfl⟩, ?_⟩
              ((try simp only [two]); (try simp only [AV.ren]); (try simp only [renT]); (try simp only [AT.ren]); (try simp only [A.ren]); (try (rw [ptr_ren]; rotate_left; exact rfl)); (try (rw [slc_ren]; rotate_left; exact rfl)); (try simp only [S.ren]))
              (repeat (first | refine aC ?_ | refine aK ?_ | refine ⟨fun _ => ?_, fun h => absurd h (by decide)⟩ | refine ⟨fun h => absurd h (by decide), fun _ => ?_⟩))
              (refine call_lift (hR) (fun i => match i with | 0 => some 3 | 1 => some 4 | _ => none) rfl rfl hI rfl rfl rfl ?_)
              rintro v2 H2 (⟨hq, rfl, rfl⟩ | ⟨gs', hR', rfl, rfl⟩)
              · refine ⟨⟨rfl, rfl, rfl, rfl⟩, ?_⟩
                have hq : s' = s := hq
                subst hq
                ((try simp only [two]); (try simp only [AV.ren]); (try simp only [renT]); (try simp only [AT.ren]); (try simp only [A.ren]); (try (rw [ptr_ren]; rotate_left; exact rfl)); (try (rw [slc_ren]; rotate_left; exact rfl)); (try simp only [S.ren]))
                (repeat (first | refine aC ?_ | refine aK ?_ | refine ⟨fun _ => ?_, fun h => absurd h (by decide)⟩ | refine ⟨fun h => absurd h (by decide), fun _ => ?_⟩))
                exact ⟨(fun i => match i with | 0 => some 0 | 1 => some 1 | 2 => some 2 | 3 => some 3 | 4 => some 4 | _ => none), tupOf [refN 3 4 s'.n s'.m s'.d, booA (er == er)], H1s s' gs, by exact wI, gs, hr, .inl ⟨rfl, rfl, by rw [qe], rfl⟩⟩
              · refine ⟨⟨rfl, rfl, rfl, rfl⟩, ?_⟩
                have hR' : Rf s' gs' := hR'
                ((try simp only [two]); (try simp only [AV.ren]); (try simp only [renT]); (try simp only [AT.ren]); (try simp only [A.ren]); (try (rw [ptr_ren]; rotate_left; exact rfl)); (try (rw [slc_ren]; rotate_left; exact rfl)); (try simp only [S.ren]))
                (repeat (first | refine aC ?_ | refine aK ?_ | refine ⟨fun _ => ?_, fun h => absurd h (by decide)⟩ | refine ⟨fun h => absurd h (by decide), fun _ => ?_⟩))
                exact ⟨(fun i => match i with | 0 => some 0 | 1 => some 1 | 2 => some 2 | 3 => some 3 | 4 => some 4 | 5 => some 8 | 6 => some 9 | _ => none), tupOf [refN 5 6 s'.n s'.m s'.d, booA (er == er)], H4s s' gs' gs s.es, by exact wI, gs', hR', .inr (.inr (.inr (.inl ⟨by rw [qe], rfl⟩)))⟩
          · have g7 : (a.k % 8 == 7) = false := beq_eq_false_iff_ne.2 h7
            (first | refine brTT (g7) ?_ | refine brTF (g7) ?_ | refine brFT (g7) ?_ | refine brFF (g7) ?_)
            (repeat (first | refine aC ?_ | refine aK ?_ | refine ⟨fun _ => ?_, fun h => absurd h (by decide)⟩ | refine ⟨fun h => absurd h (by decide), fun _ => ?_⟩))
            rw [actS_4 h0 h1 h2 h3 h7]
            have hC := open_all s hs a.n a.g a.a a.h a.b
            have hR := ropen_c s gs hr a.n a.g a.a a.h a.b
            generalize openS s a.n a.g a.a a.h a.b = p at *
            obtain ⟨s', er⟩ := p
            have qe : (er == er) = true := beq_self_eq_true er
            (refine call_lift (hC) (fun i => match i with | 0 => some 0 | 1 => some 1 | 2 => some 2 | _ => none) rfl rfl hI rfl rfl rfl ?_)
            rintro v1 H1 ⟨rfl, (rfl | rfl)⟩
            · refine ⟨⟨rfl, rfl, rfl, rfl⟩, ?_⟩
              ((try simp only [two]); (try simp only [AV.ren]); (try simp only [renT]); (try simp only [AT.ren]); (try simp only [A.ren]); (try (rw [ptr_ren]; rotate_left; exact rfl)); (try (rw [slc_ren]; rotate_left; exact rfl)); (try simp only [S.ren]))
              (repeat (first | refine aC ?_ | refine aK ?_ | refine ⟨fun _ => ?_, fun h => absurd h (by decide)⟩ | refine ⟨fun h => absurd h (by decide), fun _ => ?_⟩))
              (refine call_lift (hR) (fun i => match i with | 0 => some 3 | 1 => some 4 | _ => none) rfl rfl hI rfl rfl rfl ?_)
              rintro v2 H2 (⟨hq, rfl, rfl⟩ | ⟨gs', hR', rfl, rfl⟩)
              · refine ⟨⟨rfl, rfl, rfl, rfl⟩, ?_⟩
                have hq : s' = s := hq
                subst hq
                ((try simp only [two]); (try simp only [AV.ren]); (try simp only [renT]); (try simp only [AT.ren]); (try simp only [A.ren]); (try (rw [ptr_ren]; rotate_left; exact rfl)); (try (rw [slc_ren]; rotate_left; exact rfl)); (try simp only [S.ren]))
                (repeat (first | refine aC ?_ | refine aK ?_ | refine ⟨fun _ => ?_, fun h => absurd h (by decide)⟩ | refine ⟨fun h => absurd h (by decide), fun _ => ?_⟩))
                exact ⟨(fun i => match i with | 0 => some 0 | 1 => some 1 | 2 => some 2 | 3 => some 3 | 4 => some 4 | _ => none), tupOf [refN 3 4 s'.n s'.m s'.d, booA (er == er)], H1s s' gs, by exact wI, gs, hr, .inl ⟨rfl, rfl, by rw [qe], rfl⟩⟩
              · refine ⟨⟨rfl, rfl, rfl, rfl⟩, ?_⟩
                have hR' : Rf s' gs' := hR'
                ((try simp only [two]); (try simp only [AV.ren]); (try simp only [renT]); (try simp only [AT.ren]); (try simp only [A.ren]); (try (rw [ptr_ren]; rotate_left; exact rfl)); (try (rw [slc_ren]; rotate_left; exact rfl)); (try simp only [S.ren]))
                (repeat (first | refine aC ?_ | refine aK ?_ | refine ⟨fun _ => ?_, fun h => absurd h (by decide)⟩ | refine ⟨fun h => absurd h (by decide), fun _ => ?_⟩))
                exact ⟨(fun i => match i with | 0 => some 0 | 1 => some 1 | 2 => some 2 | 3 => some 3 | 4 => some 4 | 5 => some 8 | 6 => some 9 | _ => none), tupOf [refN 5 6 s'.n s'.m s'.d, booA (er == er)], H4s s' gs' gs s.es, by exact wI, gs', hR', .inr (.inr (.inr (.inl ⟨by rw [qe], rfl⟩)))⟩
            · refine ⟨⟨rfl, rfl, rfl, rfl⟩, ?_⟩
              ((try simp only [two]); (try simp only [AV.ren]); (try simp only [renT]); (try simp only [AT.ren]); (try simp only [A.ren]); (try (rw [ptr_ren]; rotate_left; exact rfl)); (try (rw [slc_ren]; rotate_left; exact rfl)); (try simp only [S.ren]))
              (repeat (first | refine aC ?_ | refine aK ?_ | refine ⟨fun _ => ?_, fun h => absurd h (by decide)⟩ | refine ⟨fun h => absurd h (by decide), fun _ => ?_⟩))
              (refine call_lift (hR) (fun i => match i with | 0 => some 3 | 1 => some 4 | _ => none) rfl rfl hI rfl rfl rfl ?_)
              rintro v2 H2 (⟨hq, rfl, rfl⟩ | ⟨gs', hR', rfl, rfl⟩)
              · refine ⟨⟨rfl, rfl, rfl, rfl⟩, ?_⟩
                have hq : s' = s := hq
                subst hq
                ((try simp only [two]); (try simp only [AV.ren]); (try simp only [renT]); (try simp only [AT.ren]); (try simp only [A.ren]); (try (rw [ptr_ren]; rotate_left; exact rfl)); (try (rw [slc_ren]; rotate_left; exact rfl)); (try simp only [S.ren]))
                (repeat (first | refine aC ?_ | refine aK ?_ | refine ⟨fun _ => ?_, fun h => absurd h (by decide)⟩ | refine ⟨fun h => absurd h (by decide), fun _ => ?_⟩))
                exact ⟨(fun i => match i with | 0 => some 0 | 1 => some 1 | 2 => some 2 | 3 => some 3 | 4 => some 4 | 5 => some 8 | _ => none), tupOf [refN 3 4 s'.n s'.m s'.d, booA (er == er)], H3s s' gs, by exact wI, gs, hr, .inr (.inr (.inl ⟨rfl, rfl, by rw [qe], rfl⟩))⟩
              · refine ⟨⟨rfl, rfl, rfl, rfl⟩, ?_⟩
                have hR' : Rf s' gs' := hR'
                ((try simp only [two]); (try simp only [AV.ren]); (try simp only [renT]); (try simp only [AT.ren]); (try simp only [A.ren]); (try (rw [ptr_ren]; rotate_left; exact rfl)); (try (rw [slc_ren]; rotate_left; exact rfl)); (try simp only [S.ren]))
                (repeat (first | refine aC ?_ | refine aK ?_ | refine ⟨fun _ => ?_, fun h => absurd h (by decide)⟩ | refine ⟨fun h => absurd h (by decide), fun _ => ?_⟩))
                exact ⟨(fun i => match i with | 0 => some 0 | 1 => some 1 | 2 => some 2 | 3 => some 3 | 4 => some 4 | 5 => some 8 | 6 => some 9 | 7 => some 10 | _ => none), tupOf [refN 6 7 s'.n s'.m s'.d, booA (er == er)], H6s s' gs' gs s.es, by exact wI, gs', hR', .inr (.inr (.inr (.inr (.inr ⟨by rw [qe], rfl⟩))))⟩
end Go.Proofs.Ytlbgkfidpkbafaa
/- Any acts leave a book as the specification says. -/
namespace Go.Proofs.Ytlbgkfidpkbafaa
open Go.RowKit
set_option linter.unusedSimpArgs false
set_option linter.unusedVariables false
theorem Rf_0 (ys : List Int) : Rf (runS ys 0) [] :=
  ⟨runS_good ys 0, rfl, fun _ _ h => absurd h (Nat.not_lt_zero _), fun _ h => absurd h (Nat.not_lt_zero _), ⟨fun _ h => absurd h (Nat.not_lt_zero _), fun _ h => absurd h (Nat.not_lt_zero _)⟩, fun _ h => absurd h (Nat.not_lt_zero _), fun _ h => absurd h (Nat.not_lt_zero _)⟩
abbrev newB : Blk := ⟨true, true, 45, 1, .cells [.s (.v (.bool true)), .s (.v (.int .i64 0)), .s (.v (.slice none 0 0)), .s (.v (.slice none 0 0))]⟩
theorem shows_0 : CallA Try.prog 17 [.t (.a (.s (.ptr 0 0))), .t (.agg [.s (.v (.slice none 0 0)), .s (.v (.slice none 0 0)), .s (.v (.int .i64 0))])] [newB] (fun w H => w = .boo true ∧ H = [newB]) :=
  call_runD TYok mixedO df_ok 40 20 (by kernel_rfl)
abbrev varR (s : St) : Blk := ⟨true, true, 30, 1, .cells [.s (.slc 5 0 s.n), .s (.slc 6 0 s.m), .s (.v (.int .i64 s.d))]⟩
set_option maxRecDepth 20000 in
set_option maxHeartbeats 16000000 in
theorem law3 (N : Nat) (ys : List Int) (hy : N * 11 = ys.length) (hk : ∀ j, j < N → 0 ≤ ys.getD (j * 11) 0) : CallA Try.prog 3 [.t (.a (.s (.slc 0 0 N)))] [actsB ys] (fun w H => w = .boo true ∧ H = [actsB ys]) := by
  refine call_of_vc TYok mixedO Try.func3 rfl rfl (Nat.le_of_ble_eq_true rfl) ?_
  (repeat (first | refine aC ?_ | refine aK ?_ | refine ⟨fun _ => ?_, fun h => absurd h (by decide)⟩ | refine ⟨fun h => absurd h (by decide), fun _ => ?_⟩))
  (refine call_lift (few_c N ys) (fun i => match i with | 0 => some 0 | _ => none) rfl rfl hI rfl rfl rfl ?_; rintro v H1 ⟨rfl, rfl⟩; refine ⟨⟨rfl, rfl, rfl, rfl⟩, ?_⟩; (try simp only [two]); (try simp only [AV.ren]); (try simp only [renT]); (try simp only [AT.ren]); (try simp only [A.ren]); (try (rw [ptr_ren]; rotate_left; exact rfl)); (try (rw [slc_ren]; rotate_left; exact rfl)); (try simp only [S.ren]))
  (repeat (first | refine aC ?_ | refine aK ?_ | refine ⟨fun _ => ?_, fun h => absurd h (by decide)⟩ | refine ⟨fun h => absurd h (by decide), fun _ => ?_⟩))
  by_cases hN : N ≤ 40
  · have q1 : (!decide ((N : Int) ≤ 40)) = false := by rw [decide_eq_true (by omega)]; rfl
    (first | refine brTT (q1) ?_ | refine brTF (q1) ?_ | refine brFT (q1) ?_ | refine brFF (q1) ?_)
    (repeat (first | refine aC ?_ | refine aK ?_ | refine ⟨fun _ => ?_, fun h => absurd h (by decide)⟩ | refine ⟨fun h => absurd h (by decide), fun _ => ?_⟩))
    (refine call_lift (new_c) (fun i => match i with | 0 => none | _ => none) rfl rfl hI rfl rfl rfl ?_; rintro v H1 ⟨rfl, rfl⟩; refine ⟨⟨rfl, rfl, rfl, rfl⟩, ?_⟩; (try simp only [two]); (try simp only [AV.ren]); (try simp only [renT]); (try simp only [AT.ren]); (try simp only [A.ren]); (try (rw [ptr_ren]; rotate_left; exact rfl)); (try (rw [slc_ren]; rotate_left; exact rfl)); (try simp only [S.ren]))
    (repeat (first | refine aC ?_ | refine aK ?_ | refine ⟨fun _ => ?_, fun h => absurd h (by decide)⟩ | refine ⟨fun h => absurd h (by decide), fun _ => ?_⟩))
    (refine call_lift (shows_0) (fun i => match i with | 0 => some 1 | _ => none) rfl rfl hI rfl rfl rfl ?_; rintro v H1 ⟨rfl, rfl⟩; refine ⟨⟨rfl, rfl, rfl, rfl⟩, ?_⟩; (try simp only [two]); (try simp only [AV.ren]); (try simp only [renT]); (try simp only [AT.ren]); (try simp only [A.ren]); (try (rw [ptr_ren]; rotate_left; exact rfl)); (try (rw [slc_ren]; rotate_left; exact rfl)); (try simp only [S.ren]))
    (repeat (first | refine aC ?_ | refine aK ?_ | refine ⟨fun _ => ?_, fun h => absurd h (by decide)⟩ | refine ⟨fun h => absurd h (by decide), fun _ => ?_⟩))
    refine loop_rule TYok mixedO (ι := Nat × List Int) (fun q => [(0, .t (.a (.s (.slc 0 0 N)))), (3, .t (.a (.s (.ptr 1 0)))), (4, .t (.a (.s (.ptr 4 0)))), (6, .int .i64 (q.1 : Int))]) (fun q => actsB ys :: heap1 true (runS ys q.1) ++ [varR (runS ys q.1), gsR q.2, enB (runS ys q.1).es]) (fun q => q.1 ≤ N ∧ Rf (runS ys q.1) q.2) (fun q => N - q.1) (0, []) ⟨Nat.zero_le _, Rf_0 ys⟩ (fun i => match i with | 0 => some 0 | 1 => some 1 | 4 => some 2 | _ => none) (by exact wI) ?_
    rintro ⟨j, g⟩ ⟨hj, hr⟩
    dsimp only at hj hr ⊢
    (repeat (first | refine aC ?_ | refine aK ?_ | refine ⟨fun _ => ?_, fun h => absurd h (by decide)⟩ | refine ⟨fun h => absurd h (by decide), fun _ => ?_⟩))
    refine ⟨fun h => ?_, fun h => ?_⟩
    · have h := of_decide_eq_true h
      have hlt : j < N := by omega
      have h0 : 0 ≤ (acAt ys j).k := hk j hlt
      have e1 : 0 + ((j : Nat) : Int).toNat * ti35.size = j * 11 := by
        rw [siz35]
        simp
      (repeat (first | refine aC ?_ | refine ⟨fun _ => ?_, fun h => absurd h (by decide)⟩ | refine ⟨fun h => absurd h (by decide), fun _ => ?_⟩))
      refine cut_rule [(0, .t (.a (.s (.slc 0 0 N)))), (3, .t (.a (.s (.ptr 1 0)))), (4, .t (.a (.s (.ptr 4 0)))), (6, .int .i64 (j : Int))] (actsB ys :: heap1 true (runS ys j) ++ [varR (runS ys j), gsR g, enB (runS ys j).es]) some (by exact wI) ?_
      (refine drawn_rule TYok mixedO [(1, 6), (2, 6), (3, 6), (4, 10)] [(true, 0, []), (true, 1, []), (true, 2, []), (true, 3, []), (true, 4, []), (true, 5, []), (false, 6, [1, 2, 3]), (true, 7, [1, 2, 3]), (true, 8, [1, 2, 3]), (true, 9, [1, 2, 3, 4]), (false, 10, [1, 2, 3, 4]), (true, 11, [1, 2, 3, 4])] (by kernel_rfl) ?_)
      (repeat (first | refine aC ?_ | refine aK ?_ | refine ⟨fun _ => ?_, fun h => absurd h (by decide)⟩ | refine ⟨fun h => absurd h (by decide), fun _ => ?_⟩))
      rw [e1]
      refine And.intro (rec11_t hlt hy rfl rfl) ?_
      (repeat (first | refine aC ?_ | refine aK ?_ | refine ⟨fun _ => ?_, fun h => absurd h (by decide)⟩ | refine ⟨fun h => absurd h (by decide), fun _ => ?_⟩))
      have hD := do_c (runS ys j) g hr (acAt ys j) h0
      obtain ⟨s', es'⟩ : ∃ s', (actS (runS ys j) (acAt ys j)).1 = s' := ⟨_, rfl⟩
      have hst : runS ys (j + 1) = s' := es'
      rw [es'] at hD
      clear es'
      (refine call_lift (hD) (fun i => match i with | 0 => some 1 | 1 => some 2 | 2 => some 3 | 3 => some 5 | 4 => some 6 | _ => none) rfl rfl hI rfl rfl rfl ?_)
      rintro v H1 ⟨g', hR', (⟨hs', hg', rfl, rfl⟩ | ⟨hs', hg', rfl, rfl⟩ | ⟨hs', hg', rfl, rfl⟩ | ⟨rfl, rfl⟩ | ⟨rfl, rfl⟩ | ⟨rfl, rfl⟩)⟩
      · refine ⟨⟨rfl, rfl, rfl, rfl⟩, ?_⟩
        subst hs' hg'
        ((try simp only [two]); (try simp only [AV.ren]); (try simp only [renT]); (try simp only [AT.ren]); (try simp only [A.ren]); (try (rw [ptr_ren]; rotate_left; exact rfl)); (try (rw [slc_ren]; rotate_left; exact rfl)); (try simp only [S.ren]))
        refine And.intro ?_ ?_
        · refine bkP ?_
          rfl
        (repeat (first | refine aC ?_ | refine aK ?_ | refine ⟨fun _ => ?_, fun h => absurd h (by decide)⟩ | refine ⟨fun h => absurd h (by decide), fun _ => ?_⟩))
        (refine call_lift (shows_c _ g' hR') (fun i => match i with | 0 => some 1 | 1 => some 2 | 2 => some 3 | 3 => some 5 | 4 => some 6 | _ => none) rfl rfl hI rfl rfl rfl ?_; rintro v H1 ⟨rfl, rfl⟩; refine ⟨⟨rfl, rfl, rfl, rfl⟩, ?_⟩; (try simp only [two]); (try simp only [AV.ren]); (try simp only [renT]); (try simp only [AT.ren]); (try simp only [A.ren]); (try (rw [ptr_ren]; rotate_left; exact rfl)); (try (rw [slc_ren]; rotate_left; exact rfl)); (try simp only [S.ren]))
        (repeat (first | refine aC ?_ | refine aK ?_ | refine ⟨fun _ => ?_, fun h => absurd h (by decide)⟩ | refine ⟨fun h => absurd h (by decide), fun _ => ?_⟩))
        exact ⟨(j + 1, g'), ⟨hlt, by rw [hst]; exact hR'⟩, by show N - (j + 1) < N - j; omega, (fun i => match i with | 0 => some 0 | 1 => some 1 | 2 => some 2 | 3 => some 3 | 4 => some 4 | 5 => some 5 | 6 => some 6 | _ => none), by dsimp only; simp only [hst]; exact wI⟩
      · refine ⟨⟨rfl, rfl, rfl, rfl⟩, ?_⟩
        subst hs' hg'
        ((try simp only [two]); (try simp only [AV.ren]); (try simp only [renT]); (try simp only [AT.ren]); (try simp only [A.ren]); (try (rw [ptr_ren]; rotate_left; exact rfl)); (try (rw [slc_ren]; rotate_left; exact rfl)); (try simp only [S.ren]))
        refine And.intro ?_ ?_
        · refine bkP ?_
          rfl
        (repeat (first | refine aC ?_ | refine aK ?_ | refine ⟨fun _ => ?_, fun h => absurd h (by decide)⟩ | refine ⟨fun h => absurd h (by decide), fun _ => ?_⟩))
        (refine call_lift (shows_c _ g' hR') (fun i => match i with | 0 => some 1 | 1 => some 7 | 2 => some 3 | 3 => some 5 | 4 => some 6 | _ => none) rfl rfl hI rfl rfl rfl ?_; rintro v H1 ⟨rfl, rfl⟩; refine ⟨⟨rfl, rfl, rfl, rfl⟩, ?_⟩; (try simp only [two]); (try simp only [AV.ren]); (try simp only [renT]); (try simp only [AT.ren]); (try simp only [A.ren]); (try (rw [ptr_ren]; rotate_left; exact rfl)); (try (rw [slc_ren]; rotate_left; exact rfl)); (try simp only [S.ren]))
        (repeat (first | refine aC ?_ | refine aK ?_ | refine ⟨fun _ => ?_, fun h => absurd h (by decide)⟩ | refine ⟨fun h => absurd h (by decide), fun _ => ?_⟩))
        exact ⟨(j + 1, g'), ⟨hlt, by rw [hst]; exact hR'⟩, by show N - (j + 1) < N - j; omega, (fun i => match i with | 0 => some 0 | 1 => some 1 | 2 => some 7 | 3 => some 3 | 4 => some 4 | 5 => some 5 | 6 => some 6 | _ => none), by dsimp only; simp only [hst]; exact wI⟩
      · refine ⟨⟨rfl, rfl, rfl, rfl⟩, ?_⟩
        subst hs' hg'
        ((try simp only [two]); (try simp only [AV.ren]); (try simp only [renT]); (try simp only [AT.ren]); (try simp only [A.ren]); (try (rw [ptr_ren]; rotate_left; exact rfl)); (try (rw [slc_ren]; rotate_left; exact rfl)); (try simp only [S.ren]))
        refine And.intro ?_ ?_
        · refine bkP ?_
          rfl
        (repeat (first | refine aC ?_ | refine aK ?_ | refine ⟨fun _ => ?_, fun h => absurd h (by decide)⟩ | refine ⟨fun h => absurd h (by decide), fun _ => ?_⟩))
        (refine call_lift (shows_c _ g' hR') (fun i => match i with | 0 => some 1 | 1 => some 2 | 2 => some 7 | 3 => some 5 | 4 => some 6 | _ => none) rfl rfl hI rfl rfl rfl ?_; rintro v H1 ⟨rfl, rfl⟩; refine ⟨⟨rfl, rfl, rfl, rfl⟩, ?_⟩; (try simp only [two]); (try simp only [AV.ren]); (try simp only [renT]); (try simp only [AT.ren]); (try simp only [A.ren]); (try (rw [ptr_ren]; rotate_left; exact rfl)); (try (rw [slc_ren]; rotate_left; exact rfl)); (try simp only [S.ren]))
        (repeat (first | refine aC ?_ | refine aK ?_ | refine ⟨fun _ => ?_, fun h => absurd h (by decide)⟩ | refine ⟨fun h => absurd h (by decide), fun _ => ?_⟩))
        exact ⟨(j + 1, g'), ⟨hlt, by rw [hst]; exact hR'⟩, by show N - (j + 1) < N - j; omega, (fun i => match i with | 0 => some 0 | 1 => some 1 | 2 => some 2 | 3 => some 7 | 4 => some 4 | 5 => some 5 | 6 => some 6 | _ => none), by dsimp only; simp only [hst]; exact wI⟩
      · refine ⟨⟨rfl, rfl, rfl, rfl⟩, ?_⟩
        ((try simp only [two]); (try simp only [AV.ren]); (try simp only [renT]); (try simp only [AT.ren]); (try simp only [A.ren]); (try (rw [ptr_ren]; rotate_left; exact rfl)); (try (rw [slc_ren]; rotate_left; exact rfl)); (try simp only [S.ren]))
        refine And.intro ?_ ?_
        · refine bkP ?_
          rfl
        (repeat (first | refine aC ?_ | refine aK ?_ | refine ⟨fun _ => ?_, fun h => absurd h (by decide)⟩ | refine ⟨fun h => absurd h (by decide), fun _ => ?_⟩))
        (refine call_lift (shows_c _ g' hR') (fun i => match i with | 0 => some 1 | 1 => some 2 | 2 => some 3 | 3 => some 7 | 4 => some 8 | _ => none) rfl rfl hI rfl rfl rfl ?_; rintro v H1 ⟨rfl, rfl⟩; refine ⟨⟨rfl, rfl, rfl, rfl⟩, ?_⟩; (try simp only [two]); (try simp only [AV.ren]); (try simp only [renT]); (try simp only [AT.ren]); (try simp only [A.ren]); (try (rw [ptr_ren]; rotate_left; exact rfl)); (try (rw [slc_ren]; rotate_left; exact rfl)); (try simp only [S.ren]))
        (repeat (first | refine aC ?_ | refine aK ?_ | refine ⟨fun _ => ?_, fun h => absurd h (by decide)⟩ | refine ⟨fun h => absurd h (by decide), fun _ => ?_⟩))
        exact ⟨(j + 1, g'), ⟨hlt, by rw [hst]; exact hR'⟩, by show N - (j + 1) < N - j; omega, (fun i => match i with | 0 => some 0 | 1 => some 1 | 2 => some 2 | 3 => some 3 | 4 => some 4 | 5 => some 7 | 6 => some 8 | _ => none), by dsimp only; simp only [hst]; exact wI⟩
      · refine ⟨⟨rfl, rfl, rfl, rfl⟩, ?_⟩
        ((try simp only [two]); (try simp only [AV.ren]); (try simp only [renT]); (try simp only [AT.ren]); (try simp only [A.ren]); (try (rw [ptr_ren]; rotate_left; exact rfl)); (try (rw [slc_ren]; rotate_left; exact rfl)); (try simp only [S.ren]))
        refine And.intro ?_ ?_
        · refine bkP ?_
          rfl
        (repeat (first | refine aC ?_ | refine aK ?_ | refine ⟨fun _ => ?_, fun h => absurd h (by decide)⟩ | refine ⟨fun h => absurd h (by decide), fun _ => ?_⟩))
        (refine call_lift (shows_c _ g' hR') (fun i => match i with | 0 => some 1 | 1 => some 7 | 2 => some 3 | 3 => some 8 | 4 => some 9 | _ => none) rfl rfl hI rfl rfl rfl ?_; rintro v H1 ⟨rfl, rfl⟩; refine ⟨⟨rfl, rfl, rfl, rfl⟩, ?_⟩; (try simp only [two]); (try simp only [AV.ren]); (try simp only [renT]); (try simp only [AT.ren]); (try simp only [A.ren]); (try (rw [ptr_ren]; rotate_left; exact rfl)); (try (rw [slc_ren]; rotate_left; exact rfl)); (try simp only [S.ren]))
        (repeat (first | refine aC ?_ | refine aK ?_ | refine ⟨fun _ => ?_, fun h => absurd h (by decide)⟩ | refine ⟨fun h => absurd h (by decide), fun _ => ?_⟩))
        exact ⟨(j + 1, g'), ⟨hlt, by rw [hst]; exact hR'⟩, by show N - (j + 1) < N - j; omega, (fun i => match i with | 0 => some 0 | 1 => some 1 | 2 => some 7 | 3 => some 3 | 4 => some 4 | 5 => some 8 | 6 => some 9 | _ => none), by dsimp only; simp only [hst]; exact wI⟩
      · refine ⟨⟨rfl, rfl, rfl, rfl⟩, ?_⟩
        ((try simp only [two]); (try simp only [AV.ren]); (try simp only [renT]); (try simp only [AT.ren]); (try simp only [A.ren]); (try (rw [ptr_ren]; rotate_left; exact rfl)); (try (rw [slc_ren]; rotate_left; exact rfl)); (try simp only [S.ren]))
        refine And.intro ?_ ?_
        · refine bkP ?_
          rfl
        (repeat (first | refine aC ?_ | refine aK ?_ | refine ⟨fun _ => ?_, fun h => absurd h (by decide)⟩ | refine ⟨fun h => absurd h (by decide), fun _ => ?_⟩))
        (refine call_lift (shows_c _ g' hR') (fun i => match i with | 0 => some 1 | 1 => some 2 | 2 => some 7 | 3 => some 8 | 4 => some 9 | _ => none) rfl rfl hI rfl rfl rfl ?_; rintro v H1 ⟨rfl, rfl⟩; refine ⟨⟨rfl, rfl, rfl, rfl⟩, ?_⟩; (try simp only [two]); (try simp only [AV.ren]); (try simp only [renT]); (try simp only [AT.ren]); (try simp only [A.ren]); (try (rw [ptr_ren]; rotate_left; exact rfl)); (try (rw [slc_ren]; rotate_left; exact rfl)); (try simp only [S.ren]))
        (repeat (first | refine aC ?_ | refine aK ?_ | refine ⟨fun _ => ?_, fun h => absurd h (by decide)⟩ | refine ⟨fun h => absurd h (by decide), fun _ => ?_⟩))
        exact ⟨(j + 1, g'), ⟨hlt, by rw [hst]; exact hR'⟩, by show N - (j + 1) < N - j; omega, (fun i => match i with | 0 => some 0 | 1 => some 1 | 2 => some 2 | 3 => some 7 | 4 => some 4 | 5 => some 8 | 6 => some 9 | _ => none), by dsimp only; simp only [hst]; exact wI⟩
    · (repeat (first | refine aC ?_ | refine aK ?_ | refine ⟨fun _ => ?_, fun h => absurd h (by decide)⟩ | refine ⟨fun h => absurd h (by decide), fun _ => ?_⟩))
      (refine call_lift (alive_c) (fun i => match i with | 0 => none | _ => none) rfl rfl hI rfl rfl rfl ?_; rintro v H1 ⟨rfl, rfl⟩; refine ⟨⟨rfl, rfl, rfl, rfl⟩, ?_⟩; (try simp only [two]); (try simp only [AV.ren]); (try simp only [renT]); (try simp only [AT.ren]); (try simp only [A.ren]); (try (rw [ptr_ren]; rotate_left; exact rfl)); (try (rw [slc_ren]; rotate_left; exact rfl)); (try simp only [S.ren]))
      (repeat (first | refine aC ?_ | refine aK ?_ | refine ⟨fun _ => ?_, fun h => absurd h (by decide)⟩ | refine ⟨fun h => absurd h (by decide), fun _ => ?_⟩))
      exact ⟨(fun i => match i with | 0 => some 0 | _ => none), .boo true, [actsB ys], by exact wI, rfl, rfl⟩
  · have q1 : (!decide ((N : Int) ≤ 40)) = true := by rw [decide_eq_false (by omega)]; rfl
    (first | refine brTT (q1) ?_ | refine brTF (q1) ?_ | refine brFT (q1) ?_ | refine brFF (q1) ?_)
    (repeat (first | refine aC ?_ | refine aK ?_ | refine ⟨fun _ => ?_, fun h => absurd h (by decide)⟩ | refine ⟨fun h => absurd h (by decide), fun _ => ?_⟩))
    (refine call_lift (alive_c) (fun i => match i with | 0 => none | _ => none) rfl rfl hI rfl rfl rfl ?_; rintro v H1 ⟨rfl, rfl⟩; refine ⟨⟨rfl, rfl, rfl, rfl⟩, ?_⟩; (try simp only [two]); (try simp only [AV.ren]); (try simp only [renT]); (try simp only [AT.ren]); (try simp only [A.ren]); (try (rw [ptr_ren]; rotate_left; exact rfl)); (try (rw [slc_ren]; rotate_left; exact rfl)); (try simp only [S.ren]))
    (repeat (first | refine aC ?_ | refine aK ?_ | refine ⟨fun _ => ?_, fun h => absurd h (by decide)⟩ | refine ⟨fun h => absurd h (by decide), fun _ => ?_⟩))
    exact ⟨(fun i => match i with | 0 => some 0 | _ => none), .boo true, [actsB ys], by exact wI, rfl, rfl⟩
end Go.Proofs.Ytlbgkfidpkbafaa
