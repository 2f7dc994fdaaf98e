/- A grant that is within another. -/
import Derived.Test.YtlbgkfidpkbafaaC14
namespace Go.Proofs.Ytlbgkfidpkbafaa
open Go.RowKit
set_option linter.unusedSimpArgs false
set_option linter.unusedVariables false
def subI (a b : Int) : Bool := (((a.toNat &&& (2 ^ 64 - 1 - b.toNat) : Nat) : Int) == 0)
def wthn (v r u s V R U S : Int) : Bool := subI v V && subI r R && decide (u ≤ U) && ((S == -1) || ((s != -1) && decide (s ≤ S)))
set_option maxRecDepth 20000 in
set_option maxHeartbeats 2000000 in
theorem isWithin_c (a0 a1 a2 a3 v r u s b0 b1 b2 b3 V R U S : Int) (a8 b8 : Bool) (hv : natOk .i64 v = true) (hr : natOk .i64 r = true) (hV : natOk .i64 V = true) (hR : natOk .i64 R = true) : CallA Try.prog 68 [.t (.agg [.s (.v (.int .i64 a0)), .s (.v (.int .i64 a1)), .s (.v (.int .i64 a2)), .s (.v (.int .i64 a3)), .s (.v (.int .i64 v)), .s (.v (.int .i64 r)), .s (.v (.int .i64 u)), .s (.v (.int .i64 s)), .s (.v (.bool a8))]), .t (.agg [.s (.v (.int .i64 b0)), .s (.v (.int .i64 b1)), .s (.v (.int .i64 b2)), .s (.v (.int .i64 b3)), .s (.v (.int .i64 V)), .s (.v (.int .i64 R)), .s (.v (.int .i64 U)), .s (.v (.int .i64 S)), .s (.v (.bool b8))])] [] (fun w H => w = .boo (wthn v r u s V R U S) ∧ H = []) := by
  refine call_of_vc TYok mixedO Try.func68 rfl rfl (Nat.le_of_ble_eq_true rfl) ?_
  (repeat (first | refine aC ?_ | refine aK ?_ | refine ⟨fun _ => ?_, fun h => absurd h (by decide)⟩ | refine ⟨fun h => absurd h (by decide), fun _ => ?_⟩))
  refine ⟨fun g => ?_, fun g => ?_⟩
  · have g1 : subI v V = true := g
    (repeat (first | refine aC ?_ | refine aK ?_ | refine ⟨fun _ => ?_, fun h => absurd h (by decide)⟩ | refine ⟨fun h => absurd h (by decide), fun _ => ?_⟩))
    refine ⟨fun g => ?_, fun g => ?_⟩
    · have g2 : subI r R = true := g
      (repeat (first | refine aC ?_ | refine aK ?_ | refine ⟨fun _ => ?_, fun h => absurd h (by decide)⟩ | refine ⟨fun h => absurd h (by decide), fun _ => ?_⟩))
      refine ⟨fun g => ?_, fun g => ?_⟩
      · have g3 : decide (u ≤ U) = true := g
        (repeat (first | refine aC ?_ | refine aK ?_ | refine ⟨fun _ => ?_, fun h => absurd h (by decide)⟩ | refine ⟨fun h => absurd h (by decide), fun _ => ?_⟩))
        refine ⟨fun g => ?_, fun g => ?_⟩
        · have g4 : (S == (-1 : Int)) = false := g
          (repeat (first | refine aC ?_ | refine aK ?_ | refine ⟨fun _ => ?_, fun h => absurd h (by decide)⟩ | refine ⟨fun h => absurd h (by decide), fun _ => ?_⟩))
          refine ⟨fun g => ?_, fun g => ?_⟩
          · have g5 : (s != (-1 : Int)) = true := g
            (repeat (first | refine aC ?_ | refine aK ?_ | refine ⟨fun _ => ?_, fun h => absurd h (by decide)⟩ | refine ⟨fun h => absurd h (by decide), fun _ => ?_⟩))
            exact ⟨some, .boo _, [], by exact wI, congrArg AV.boo (by simp only [wthn, g1, g2, g3, g4, g5]; rfl), rfl⟩
          · have g5 : (s != (-1 : Int)) = false := g
            (repeat (first | refine aC ?_ | refine aK ?_ | refine ⟨fun _ => ?_, fun h => absurd h (by decide)⟩ | refine ⟨fun h => absurd h (by decide), fun _ => ?_⟩))
            exact ⟨some, .boo _, [], by exact wI, congrArg AV.boo (by simp only [wthn, g1, g2, g3, g4, g5]; rfl), rfl⟩
        · have g4 : (S == (-1 : Int)) = true := g
          (repeat (first | refine aC ?_ | refine aK ?_ | refine ⟨fun _ => ?_, fun h => absurd h (by decide)⟩ | refine ⟨fun h => absurd h (by decide), fun _ => ?_⟩))
          exact ⟨some, .boo _, [], by exact wI, congrArg AV.boo (by simp only [wthn, g1, g2, g3, g4]; rfl), rfl⟩
      · have g3 : decide (u ≤ U) = false := g
        (repeat (first | refine aC ?_ | refine aK ?_ | refine ⟨fun _ => ?_, fun h => absurd h (by decide)⟩ | refine ⟨fun h => absurd h (by decide), fun _ => ?_⟩))
        exact ⟨some, .boo _, [], by exact wI, congrArg AV.boo (by simp only [wthn, g1, g2, g3]; rfl), rfl⟩
    · have g2 : subI r R = false := g
      (repeat (first | refine aC ?_ | refine aK ?_ | refine ⟨fun _ => ?_, fun h => absurd h (by decide)⟩ | refine ⟨fun h => absurd h (by decide), fun _ => ?_⟩))
      exact ⟨some, .boo _, [], by exact wI, congrArg AV.boo (by simp only [wthn, g1, g2]; rfl), rfl⟩
  · have g1 : subI v V = false := g
    (repeat (first | refine aC ?_ | refine aK ?_ | refine ⟨fun _ => ?_, fun h => absurd h (by decide)⟩ | refine ⟨fun h => absurd h (by decide), fun _ => ?_⟩))
    exact ⟨some, .boo _, [], by exact wI, congrArg AV.boo (by simp only [wthn, g1]; rfl), rfl⟩
theorem find_f (d : Int) (n : Nat) (xs : List Int) (m : Nat) (es : List Int) (no : Int) (h : (decide (1 ≤ no) && decide (no ≤ (n : Int))) = false) : CallE Try.prog 65 [.t (.a (.s (.ptr 0 0))), .int .i64 no] (bookR false d n xs m es) (fun _ _ => False) (fun pv H => pv = .iface 110 (.int .i64 6) ∧ H = bookR false d n xs m es) := by
  refine call_of_vcE TYok mixedO Try.func65 rfl rfl (Nat.le_of_ble_eq_true rfl) ?_
  (repeat (first | refine aC ?_ | refine aK ?_ | refine ⟨fun _ => ?_, fun h => absurd h (by decide)⟩ | refine ⟨fun h => absurd h (by decide), fun _ => ?_⟩))
  (refine call_lift (needMade_c d n xs m es) (fun i => match i with | 0 => some 0 | 1 => some 1 | 2 => some 2 | _ => none) rfl rfl hI rfl rfl rfl ?_; rintro v H1 ⟨rfl, rfl⟩; refine ⟨⟨rfl, rfl, rfl, rfl⟩, ?_⟩; (try simp only [two]); (try simp only [AV.ren]); (try simp only [renT]); (try simp only [AT.ren]); (try simp only [A.ren]); (try (rw [ptr_ren]; rotate_left; exact rfl)); (try (rw [slc_ren]; rotate_left; exact rfl)); (try simp only [S.ren]))
  (repeat (first | refine aC ?_ | refine aK ?_ | refine ⟨fun _ => ?_, fun h => absurd h (by decide)⟩ | refine ⟨fun h => absurd h (by decide), fun _ => ?_⟩))
  refine ⟨fun g => ?_, fun g => ?_⟩
  · have g1 : decide (1 ≤ no) = true := g
    rw [g1, Bool.true_and] at h
    (repeat (first | refine aC ?_ | refine aK ?_ | refine ⟨fun _ => ?_, fun h => absurd h (by decide)⟩ | refine ⟨fun h => absurd h (by decide), fun _ => ?_⟩))
    rw [h]
    (repeat (first | refine aC ?_ | refine aK ?_ | refine ⟨fun _ => ?_, fun h => absurd h (by decide)⟩ | refine ⟨fun h => absurd h (by decide), fun _ => ?_⟩))
    (refine call_liftE (need_f 6) (fun i => match i with | 0 => none | _ => none) rfl rfl hI rfl rfl rfl (fun _ _ h => h.elim) ?_; rintro pv H1 ⟨rfl, rfl⟩; refine ⟨⟨rfl, rfl, rfl⟩, ?_⟩)
    exact ⟨some, bookR false d n xs m es, by exact wI, rfl, rfl⟩
  · (repeat (first | refine aC ?_ | refine aK ?_ | refine ⟨fun _ => ?_, fun h => absurd h (by decide)⟩ | refine ⟨fun h => absurd h (by decide), fun _ => ?_⟩))
    (refine call_liftE (need_f 6) (fun i => match i with | 0 => none | _ => none) rfl rfl hI rfl rfl rfl (fun _ _ h => h.elim) ?_; rintro pv H1 ⟨rfl, rfl⟩; refine ⟨⟨rfl, rfl, rfl⟩, ?_⟩)
    exact ⟨some, bookR false d n xs m es, by exact wI, rfl, rfl⟩
end Go.Proofs.Ytlbgkfidpkbafaa
