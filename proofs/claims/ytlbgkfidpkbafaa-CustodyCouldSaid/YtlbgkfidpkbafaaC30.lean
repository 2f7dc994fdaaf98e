/- One act. -/
import Derived.Test.YtlbgkfidpkbafaaC29
namespace Go.Proofs.Ytlbgkfidpkbafaa
open Go.RowKit
set_option linter.unusedSimpArgs false
set_option linter.unusedVariables false
structure Ac where
  k : Int
  g : Int
  h : Int
  a : Int
  b : Int
  c : Int
  v : Int
  r : Int
  u : Int
  s : Int
  n : Int
abbrev Ac.cells (a : Ac) : List A := [.s (.v (.int .u8 a.k)), .s (.v (.int .i64 a.g)), .s (.v (.int .i64 a.h)), .s (.v (.int .i64 a.a)), .s (.v (.int .i64 a.b)), .s (.v (.int .i64 a.c)), .s (.v (.int .i64 a.v)), .s (.v (.int .i64 a.r)), .s (.v (.int .i64 a.u)), .s (.v (.int .i64 a.s)), .s (.v (.int .i64 a.n))]
def actS (s : St) (a : Ac) : St × Int :=
  if a.k % 8 = 0 then ((grantS s a.a a.v a.r a.u a.s).1, (grantS s a.a a.v a.r a.u a.s).2.2)
  else if a.k % 8 = 1 ∨ a.k % 8 = 2 then ((passS s a.g a.a a.b a.v a.r a.u a.s).1, (passS s a.g a.a a.b a.v a.r a.u a.s).2.2)
  else if a.k % 8 = 3 then ((revokeS s a.g a.a).1, (revokeS s a.g a.a).2.2)
  else if a.k % 8 = 7 then nextS s a.n
  else openS s a.n a.g a.a a.h a.b
theorem actS_good {s : St} (hs : Good s) (a : Ac) : Good (actS s a).1 := by
  unfold actS
  split
  · exact grantS_good hs _ _ _ _ _
  · split
    · exact passS_good hs _ _ _ _ _ _ _
    · split
      · exact revokeS_good hs _ _
      · split
        · exact nextS_good hs _
        · exact openS_good hs _ _ _ _ _
set_option maxRecDepth 20000 in
set_option maxHeartbeats 4000000 in
theorem act_c (s : St) (hs : Good s) (a : Ac) (h0 : 0 ≤ a.k) : CallA Try.prog 36 [.t (.a (.s (.ptr 0 0))), .t (.agg a.cells)] (heap0 true s)
    (fun w H => w = .int .i64 (actS s a).2 ∧ (H = heap0 true (actS s a).1 ∨ H = heapA (actS s a).1 ∨ H = heapO (actS s a).1)) := by
  refine call_of_vc TYok mixedO Try.func36 rfl rfl (Nat.le_of_ble_eq_true rfl) ?_
  (repeat (first | refine aC ?_ | refine aK ?_ | refine ⟨fun _ => ?_, fun h => absurd h (by decide)⟩ | refine ⟨fun h => absurd h (by decide), fun _ => ?_⟩))
  refine ⟨fun g => ?_, fun g => ?_⟩
  · have g0 : (a.k % 8 == 0) = true := g
    have e : actS s a = ((grantS s a.a a.v a.r a.u a.s).1, (grantS s a.a a.v a.r a.u a.s).2.2) := by unfold actS; rw [if_pos (by simpa using g0)]
    rw [e]
    (repeat (first | refine aC ?_ | refine aK ?_ | refine ⟨fun _ => ?_, fun h => absurd h (by decide)⟩ | refine ⟨fun h => absurd h (by decide), fun _ => ?_⟩))
    (refine call_lift (grant_all s hs a.a a.v a.r a.u a.s) (fun i => match i with | 0 => some 0 | 1 => some 1 | 2 => some 2 | _ => none) rfl rfl hI rfl rfl rfl ?_)
    generalize grantS s a.a a.v a.r a.u a.s = p
    obtain ⟨s', no, er⟩ := p
    rintro v H1 ⟨rfl, (rfl | rfl)⟩
    · refine ⟨⟨rfl, rfl, rfl, rfl⟩, ?_⟩
      ((try simp only [two]); (try simp only [AV.ren]); (try simp only [renT]); (try simp only [AT.ren]); (try simp only [A.ren]); (try (rw [ptr_ren]; rotate_left; exact rfl)); (try (rw [slc_ren]; rotate_left; exact rfl)); (try simp only [S.ren]))
      (repeat (first | refine aC ?_ | refine aK ?_ | refine ⟨fun _ => ?_, fun h => absurd h (by decide)⟩ | refine ⟨fun h => absurd h (by decide), fun _ => ?_⟩))
      exact ⟨some, .int .i64 er, heap0 true s', by exact wI, rfl, .inl rfl⟩
    · refine ⟨⟨rfl, rfl, rfl, rfl⟩, ?_⟩
      ((try simp only [two]); (try simp only [AV.ren]); (try simp only [renT]); (try simp only [AT.ren]); (try simp only [A.ren]); (try (rw [ptr_ren]; rotate_left; exact rfl)); (try (rw [slc_ren]; rotate_left; exact rfl)); (try simp only [S.ren]))
      (repeat (first | refine aC ?_ | refine aK ?_ | refine ⟨fun _ => ?_, fun h => absurd h (by decide)⟩ | refine ⟨fun h => absurd h (by decide), fun _ => ?_⟩))
      exact ⟨(fun i => match i with | 0 => some 0 | 1 => some 1 | 2 => some 2 | 3 => some 4 | _ => none), .int .i64 er, heapA s', by exact wI, rfl, .inr (.inl rfl)⟩
  · have g0 : (a.k % 8 == 0) = false := g
    have g0' : ¬ a.k % 8 = 0 := by simpa using g0
    (repeat (first | refine aC ?_ | refine aK ?_ | refine ⟨fun _ => ?_, fun h => absurd h (by decide)⟩ | refine ⟨fun h => absurd h (by decide), fun _ => ?_⟩))
    refine ⟨fun g => ?_, fun g => ?_⟩
    · have g1 : (a.k % 8 == 1) = true := g
      have e : actS s a = ((passS s a.g a.a a.b a.v a.r a.u a.s).1, (passS s a.g a.a a.b a.v a.r a.u a.s).2.2) := by unfold actS; rw [if_neg g0', if_pos (.inl (by simpa using g1))]
      rw [e]
      (repeat (first | refine aC ?_ | refine aK ?_ | refine ⟨fun _ => ?_, fun h => absurd h (by decide)⟩ | refine ⟨fun h => absurd h (by decide), fun _ => ?_⟩))
      refine ⟨fun _ => ?_, fun h => absurd (g1.symm.trans h) (by decide)⟩
      (repeat (first | refine aC ?_ | refine aK ?_ | refine ⟨fun _ => ?_, fun h => absurd h (by decide)⟩ | refine ⟨fun h => absurd h (by decide), fun _ => ?_⟩))
      (refine call_lift (pass_all s hs a.g a.a a.b a.v a.r a.u a.s) (fun i => match i with | 0 => some 0 | 1 => some 1 | 2 => some 2 | _ => none) rfl rfl hI rfl rfl rfl ?_)
      generalize passS s a.g a.a a.b a.v a.r a.u a.s = p
      obtain ⟨s', no, er⟩ := p
      rintro v H1 ⟨rfl, (rfl | rfl)⟩
      · refine ⟨⟨rfl, rfl, rfl, rfl⟩, ?_⟩
        ((try simp only [two]); (try simp only [AV.ren]); (try simp only [renT]); (try simp only [AT.ren]); (try simp only [A.ren]); (try (rw [ptr_ren]; rotate_left; exact rfl)); (try (rw [slc_ren]; rotate_left; exact rfl)); (try simp only [S.ren]))
        (repeat (first | refine aC ?_ | refine aK ?_ | refine ⟨fun _ => ?_, fun h => absurd h (by decide)⟩ | refine ⟨fun h => absurd h (by decide), fun _ => ?_⟩))
        exact ⟨some, .int .i64 er, heap0 true s', by exact wI, rfl, .inl rfl⟩
      · refine ⟨⟨rfl, rfl, rfl, rfl⟩, ?_⟩
        ((try simp only [two]); (try simp only [AV.ren]); (try simp only [renT]); (try simp only [AT.ren]); (try simp only [A.ren]); (try (rw [ptr_ren]; rotate_left; exact rfl)); (try (rw [slc_ren]; rotate_left; exact rfl)); (try simp only [S.ren]))
        (repeat (first | refine aC ?_ | refine aK ?_ | refine ⟨fun _ => ?_, fun h => absurd h (by decide)⟩ | refine ⟨fun h => absurd h (by decide), fun _ => ?_⟩))
        exact ⟨(fun i => match i with | 0 => some 0 | 1 => some 1 | 2 => some 2 | 3 => some 4 | _ => none), .int .i64 er, heapA s', by exact wI, rfl, .inr (.inl rfl)⟩
    · have g1 : (a.k % 8 == 1) = false := g
      have g1' : ¬ a.k % 8 = 1 := by simpa using g1
      (repeat (first | refine aC ?_ | refine aK ?_ | refine ⟨fun _ => ?_, fun h => absurd h (by decide)⟩ | refine ⟨fun h => absurd h (by decide), fun _ => ?_⟩))
      refine ⟨fun g => ?_, fun g => ?_⟩
      · have g2 : (a.k % 8 == 2) = true := g
        have e : actS s a = ((passS s a.g a.a a.b a.v a.r a.u a.s).1, (passS s a.g a.a a.b a.v a.r a.u a.s).2.2) := by unfold actS; rw [if_neg g0', if_pos (.inr (by simpa using g2))]
        rw [e]
        (repeat (first | refine aC ?_ | refine aK ?_ | refine ⟨fun _ => ?_, fun h => absurd h (by decide)⟩ | refine ⟨fun h => absurd h (by decide), fun _ => ?_⟩))
        (refine call_lift (pass_all s hs a.g a.a a.b a.v a.r a.u a.s) (fun i => match i with | 0 => some 0 | 1 => some 1 | 2 => some 2 | _ => none) rfl rfl hI rfl rfl rfl ?_)
        generalize passS s a.g a.a a.b a.v a.r a.u a.s = p
        obtain ⟨s', no, er⟩ := p
        rintro v H1 ⟨rfl, (rfl | rfl)⟩
        · refine ⟨⟨rfl, rfl, rfl, rfl⟩, ?_⟩
          ((try simp only [two]); (try simp only [AV.ren]); (try simp only [renT]); (try simp only [AT.ren]); (try simp only [A.ren]); (try (rw [ptr_ren]; rotate_left; exact rfl)); (try (rw [slc_ren]; rotate_left; exact rfl)); (try simp only [S.ren]))
          (repeat (first | refine aC ?_ | refine aK ?_ | refine ⟨fun _ => ?_, fun h => absurd h (by decide)⟩ | refine ⟨fun h => absurd h (by decide), fun _ => ?_⟩))
          exact ⟨some, .int .i64 er, heap0 true s', by exact wI, rfl, .inl rfl⟩
        · refine ⟨⟨rfl, rfl, rfl, rfl⟩, ?_⟩
          ((try simp only [two]); (try simp only [AV.ren]); (try simp only [renT]); (try simp only [AT.ren]); (try simp only [A.ren]); (try (rw [ptr_ren]; rotate_left; exact rfl)); (try (rw [slc_ren]; rotate_left; exact rfl)); (try simp only [S.ren]))
          (repeat (first | refine aC ?_ | refine aK ?_ | refine ⟨fun _ => ?_, fun h => absurd h (by decide)⟩ | refine ⟨fun h => absurd h (by decide), fun _ => ?_⟩))
          exact ⟨(fun i => match i with | 0 => some 0 | 1 => some 1 | 2 => some 2 | 3 => some 4 | _ => none), .int .i64 er, heapA s', by exact wI, rfl, .inr (.inl rfl)⟩
      · have g2 : (a.k % 8 == 2) = false := g
        have g2' : ¬ a.k % 8 = 2 := by simpa using g2
        have g12 : ¬ (a.k % 8 = 1 ∨ a.k % 8 = 2) := fun h => h.elim g1' g2'
        (repeat (first | refine aC ?_ | refine aK ?_ | refine ⟨fun _ => ?_, fun h => absurd h (by decide)⟩ | refine ⟨fun h => absurd h (by decide), fun _ => ?_⟩))
        refine ⟨fun g => ?_, fun g => ?_⟩
        · have g3 : (a.k % 8 == 3) = true := g
          have e : actS s a = ((revokeS s a.g a.a).1, (revokeS s a.g a.a).2.2) := by unfold actS; rw [if_neg g0', if_neg g12, if_pos (by simpa using g3)]
          rw [e]
          (repeat (first | refine aC ?_ | refine aK ?_ | refine ⟨fun _ => ?_, fun h => absurd h (by decide)⟩ | refine ⟨fun h => absurd h (by decide), fun _ => ?_⟩))
          (refine call_lift (revoke_all s hs a.g a.a) (fun i => match i with | 0 => some 0 | 1 => some 1 | 2 => some 2 | _ => none) rfl rfl hI rfl rfl rfl ?_)
          generalize revokeS s a.g a.a = p
          obtain ⟨s', no, er⟩ := p
          rintro v H1 ⟨rfl, rfl⟩
          refine ⟨⟨rfl, rfl, rfl, rfl⟩, ?_⟩
          ((try simp only [two]); (try simp only [AV.ren]); (try simp only [renT]); (try simp only [AT.ren]); (try simp only [A.ren]); (try (rw [ptr_ren]; rotate_left; exact rfl)); (try (rw [slc_ren]; rotate_left; exact rfl)); (try simp only [S.ren]))
          (repeat (first | refine aC ?_ | refine aK ?_ | refine ⟨fun _ => ?_, fun h => absurd h (by decide)⟩ | refine ⟨fun h => absurd h (by decide), fun _ => ?_⟩))
          exact ⟨some, .int .i64 er, heap0 true s', by exact wI, rfl, .inl rfl⟩
        · have g3 : (a.k % 8 == 3) = false := g
          have g3' : ¬ a.k % 8 = 3 := by simpa using g3
          (repeat (first | refine aC ?_ | refine aK ?_ | refine ⟨fun _ => ?_, fun h => absurd h (by decide)⟩ | refine ⟨fun h => absurd h (by decide), fun _ => ?_⟩))
          refine ⟨fun g => ?_, fun g => ?_⟩
          · have g4 : (a.k % 8 == 7) = true := g
            have e : actS s a = nextS s a.n := by unfold actS; rw [if_neg g0', if_neg g12, if_neg g3', if_pos (by simpa using g4)]
            rw [e]
            (repeat (first | refine aC ?_ | refine aK ?_ | refine ⟨fun _ => ?_, fun h => absurd h (by decide)⟩ | refine ⟨fun h => absurd h (by decide), fun _ => ?_⟩))
            (refine call_lift (next_all s a.n) (fun i => match i with | 0 => some 0 | 1 => some 1 | 2 => some 2 | _ => none) rfl rfl hI rfl rfl rfl ?_)
            generalize nextS s a.n = p
            obtain ⟨s', er⟩ := p
            rintro v H1 ⟨rfl, rfl⟩
            refine ⟨⟨rfl, rfl, rfl, rfl⟩, ?_⟩
            ((try simp only [two]); (try simp only [AV.ren]); (try simp only [renT]); (try simp only [AT.ren]); (try simp only [A.ren]); (try (rw [ptr_ren]; rotate_left; exact rfl)); (try (rw [slc_ren]; rotate_left; exact rfl)); (try simp only [S.ren]))
            (repeat (first | refine aC ?_ | refine aK ?_ | refine ⟨fun _ => ?_, fun h => absurd h (by decide)⟩ | refine ⟨fun h => absurd h (by decide), fun _ => ?_⟩))
            exact ⟨some, .int .i64 er, heap0 true s', by exact wI, rfl, .inl rfl⟩
          · have g4 : (a.k % 8 == 7) = false := g
            have g4' : ¬ a.k % 8 = 7 := by simpa using g4
            have e : actS s a = openS s a.n a.g a.a a.h a.b := by unfold actS; rw [if_neg g0', if_neg g12, if_neg g3', if_neg g4']
            rw [e]
            (repeat (first | refine aC ?_ | refine aK ?_ | refine ⟨fun _ => ?_, fun h => absurd h (by decide)⟩ | refine ⟨fun h => absurd h (by decide), fun _ => ?_⟩))
            (refine call_lift (open_all s hs a.n a.g a.a a.h a.b) (fun i => match i with | 0 => some 0 | 1 => some 1 | 2 => some 2 | _ => none) rfl rfl hI rfl rfl rfl ?_)
            generalize openS s a.n a.g a.a a.h a.b = p
            obtain ⟨s', er⟩ := p
            rintro v H1 ⟨rfl, (rfl | rfl)⟩
            · refine ⟨⟨rfl, rfl, rfl, rfl⟩, ?_⟩
              ((try simp only [two]); (try simp only [AV.ren]); (try simp only [renT]); (try simp only [AT.ren]); (try simp only [A.ren]); (try (rw [ptr_ren]; rotate_left; exact rfl)); (try (rw [slc_ren]; rotate_left; exact rfl)); (try simp only [S.ren]))
              (repeat (first | refine aC ?_ | refine aK ?_ | refine ⟨fun _ => ?_, fun h => absurd h (by decide)⟩ | refine ⟨fun h => absurd h (by decide), fun _ => ?_⟩))
              exact ⟨some, .int .i64 er, heap0 true s', by exact wI, rfl, .inl rfl⟩
            · refine ⟨⟨rfl, rfl, rfl, rfl⟩, ?_⟩
              ((try simp only [two]); (try simp only [AV.ren]); (try simp only [renT]); (try simp only [AT.ren]); (try simp only [A.ren]); (try (rw [ptr_ren]; rotate_left; exact rfl)); (try (rw [slc_ren]; rotate_left; exact rfl)); (try simp only [S.ren]))
              (repeat (first | refine aC ?_ | refine aK ?_ | refine ⟨fun _ => ?_, fun h => absurd h (by decide)⟩ | refine ⟨fun h => absurd h (by decide), fun _ => ?_⟩))
              exact ⟨(fun i => match i with | 0 => some 0 | 1 => some 1 | 2 => some 2 | 3 => some 4 | _ => none), .int .i64 er, heapO s', by exact wI, rfl, .inr (.inr rfl)⟩
end Go.Proofs.Ytlbgkfidpkbafaa
