/- GradeOrder. -/
import Derived.Test.YtpbenjpponbjjaaGX
import Derived.ChangeKeysEq
set_option linter.unusedSimpArgs false
set_option linter.unusedVariables false
namespace Go.Proofs.Ytpbenjpponbjjaa
open Go.RowKit Go.Sort Go.BigFrame
theorem eqG (x y z : Int) (w : World) : (binOp .eql 23 (gdV (x, y, z)) (gdV (x, y, z))).run Try.prog w = .ok (.bool true) w := by
  obtain ⟨i, hi, hs⟩ : ∃ i, Try.prog.info? 3 = some i ∧ i.size = 1 := by
    obtain ⟨i, h1, _, h2, _⟩ := info_parts info3
    exact ⟨i, h1, h2⟩
  have hce : Try.prog.cellsOf 3 = 1 := by simp [Program.cellsOf, hi, hs]
  rw [run_eql_struct, run_equalIn_array (w := w) 9999 _ _ Try.underlying23 hi]
  simp [List.range_succ, go_sem, Op.eqItems, hce, part, run_equalIn_int (w := w) 9998 3 .i64 .i64 _ _ Try.underlying3, hi, hs, isAgg, run_underlying Try.underlying3]
set_option maxHeartbeats 4000000 in
theorem law3 (a b : Gd) (w : World) : Calls Try.prog 3 #[gdV a, gdV b] w fun e w' => e = .returned (.bool true) ∧ Below w.heap.size w w' := by
  have mixed := mixedOrders
  obtain ⟨p, hp⟩ : ∃ p, w.heap.size = p := ⟨_, rfl⟩
  obtain ⟨W1, hW1⟩ : ∃ W1, w.alloc (.cells #[.int .i64 a.1, .int .i64 a.2.1, .int .i64 a.2.2] 23) = W1 := ⟨_, rfl⟩
  obtain ⟨q, hq⟩ : ∃ q, W1.heap.size = q := ⟨_, rfl⟩
  obtain ⟨W2, hW2⟩ : ∃ W2, W1.alloc (.cells #[.int .i64 b.1, .int .i64 b.2.1, .int .i64 b.2.2] 23) = W2 := ⟨_, rfl⟩
  have g1 : Gr w W1 := by rw [← hW1]; exact (Gr.refl w).alloc _
  have g2 : Gr W1 W2 := by rw [← hW2]; exact (Gr.refl W1).alloc _
  have e1 : W1.heap[p]? = some (.cells #[.int .i64 a.1, .int .i64 a.2.1, .int .i64 a.2.2] 23 (0, 0)) := by rw [← hW1, ← hp]; exact heap_alloc_new _ _
  have e2 : W2.heap[q]? = some (.cells #[.int .i64 b.1, .int .i64 b.2.1, .int .i64 b.2.2] 23 (0, 0)) := by rw [← hW2, ← hq]; exact heap_alloc_new _ _
  have e12 := (g2.block (lt_of_heap e1)).trans e1
  have C0 : ∀ r : BelOf W2, r.w'.cell? ⟨p, 0, none⟩ = some (.int .i64 a.1) := fun r => (box3 ((r.h.block p (lt_of_heap e12)).trans e12)).1
  have C1 : ∀ r : BelOf W2, r.w'.cell? ⟨p, 1, none⟩ = some (.int .i64 a.2.1) := fun r => (box3 ((r.h.block p (lt_of_heap e12)).trans e12)).2.1
  have C2 : ∀ r : BelOf W2, r.w'.cell? ⟨p, 2, none⟩ = some (.int .i64 a.2.2) := fun r => (box3 ((r.h.block p (lt_of_heap e12)).trans e12)).2.2
  have D0 : ∀ r : BelOf W2, r.w'.cell? ⟨q, 0, none⟩ = some (.int .i64 b.1) := fun r => (box3 ((r.h.block q (lt_of_heap e2)).trans e2)).1
  have D1 : ∀ r : BelOf W2, r.w'.cell? ⟨q, 1, none⟩ = some (.int .i64 b.2.1) := fun r => (box3 ((r.h.block q (lt_of_heap e2)).trans e2)).2.1
  have D2 : ∀ r : BelOf W2, r.w'.cell? ⟨q, 2, none⟩ = some (.int .i64 b.2.2) := fun r => (box3 ((r.h.block q (lt_of_heap e2)).trans e2)).2.2
  have K1 := hide (fun r : BelOf W2 => bel_call r ((Below_any a b r.w').mono fun _ _ ⟨x, y⟩ => ⟨x, y.below⟩))
  have K2 := hide (fun r : BelOf W2 => bel_call r ((rBelow_any a b r.w').mono fun _ _ ⟨x, y⟩ => ⟨x, y.below⟩))
  have K3 := hide (fun r : BelOf W2 => bel_call r (Meet_any a b r.w'))
  have K4 := hide (fun r : BelOf W2 => bel_call r (rMeet_any a b r.w'))
  have K5 := hide (fun r : BelOf W2 => bel_call r (Join_any a b r.w'))
  have K6 := hide (fun r : BelOf W2 => bel_call r (rJoin_any a b r.w'))
  have K7 := hide (fun r : BelOf W2 => bel_call r (alive_any r.w'))
  have HB := hide (g1.trans g2).below
  generalize meetG a b = m at K3 K4
  generalize joinG a b = j at K5 K6
  generalize belowG a b = bl at K1 K2
  obtain ⟨a0, a1, a2⟩ := a
  obtain ⟨b0, b1, b2⟩ := b
  obtain ⟨m0, m1, m2⟩ := m
  obtain ⟨j0, j1, j2⟩ := j
  dsimp only at *
  have EM := eqG m0 m1 m2
  have EJ := eqG j0 j1 j2
  clear g1 g2 e1 e2 e12
  go_enter Try.func3, Try.ntmps3
  go_wp2_with fail
  cases bl with
  | false =>
    refine wp_region_quiet_bel (by assumption) (by kernel_rfl) ?_
    repeat (go_big_quiet_step (first | (go_at_call 15; with_reducible exact K1.out _) | (go_at_call 16; with_reducible exact K2.out _) | (go_at_call 17; with_reducible exact K3.out _) | (go_at_call 18; with_reducible exact K4.out _) | (go_at_call 19; with_reducible exact K5.out _) | (go_at_call 20; with_reducible exact K6.out _) | (go_at_call 21; with_reducible exact K7.out _)))
    refine wpQuiet_nil ?_
    rintro _ ⟨⟨wq, hq⟩, rfl⟩
    have HQ := hide (bel_next HB.out hq)
    clear hq K1 K2 K3 K4 K5 K6 K7 C0 C1 C2 D0 D1 D2
    go_wp2_with fail
    go_ret
    exact ⟨rfl, HQ.out⟩
  | true =>
    refine wp_region_quiet_bel (by assumption) (by kernel_rfl) ?_
    repeat (go_big_quiet_step (first | (go_at_call 15; with_reducible exact K1.out _) | (go_at_call 16; with_reducible exact K2.out _) | (go_at_call 17; with_reducible exact K3.out _) | (go_at_call 18; with_reducible exact K4.out _) | (go_at_call 19; with_reducible exact K5.out _) | (go_at_call 20; with_reducible exact K6.out _) | (go_at_call 21; with_reducible exact K7.out _)))
    refine wpQuiet_nil ?_
    rintro _ ⟨⟨wq, hq⟩, rfl⟩
    have HQ := hide (bel_next HB.out hq)
    clear hq K1 K2 K3 K4 K5 K6 K7 C0 C1 C2 D0 D1 D2
    go_wp2_with fail
    go_ret
    exact ⟨rfl, HQ.out⟩
end Go.Proofs.Ytpbenjpponbjjaa
