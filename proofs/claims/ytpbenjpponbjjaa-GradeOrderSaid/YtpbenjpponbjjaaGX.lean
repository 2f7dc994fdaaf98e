/- alive. -/
import Derived.Test.YtpbenjpponbjjaaGW
import Derived.Test.YtpbenjpponbjjaaK4
set_option linter.unusedSimpArgs false
set_option linter.unusedVariables false
namespace Go.Proofs.Ytpbenjpponbjjaa
open Go.RowKit Go.Sort Go.BigFrame
def aG : List Gd := [(11, 11, 10)]
def aQ : List Qt := [((0, 0, 0), 10, 1), ((1, 0, 0), 4, 1)]
theorem aG_anti : antiG aG = true := by kernel_rfl
theorem aG_count : countG aG = 2 := by kernel_rfl
theorem aQ_check : checkQ aQ = 0 := by kernel_rfl
theorem aQ_strain : strainQ aQ = 3 := by kernel_rfl
theorem aQ_fit : fitV 2 (levelF aQ) = #[.int .i64 7, .int .i64 7] := by kernel_rfl
theorem ints2 {W : World} {f : Nat} {x y : Int} {ty : TypeId} (h : W.heap[f]? = some (.cells #[.int .i64 x, .int .i64 y] ty (0, 0))) : IntsAt W.heap.size W (some ⟨f, 0, none⟩) 2 [x, y] := by
  refine ⟨rfl, .inr ⟨f, 0, rfl, lt_of_heap h, fun i hi => ?_⟩⟩
  have hcase : i = 0 ∨ i = 1 := by omega
  rcases hcase with rfl | rfl <;> simp [World.cell?, h, iA]
set_option maxHeartbeats 4000000 in
theorem alive_any (w : World) : Calls Try.prog 21 #[] w fun e w' => e = .returned (.bool true) ∧ Below w.heap.size w w' := by
  have mixed := mixedOrders
  obtain ⟨p, hp⟩ : ∃ p, w.heap.size = p := ⟨_, rfl⟩
  obtain ⟨W1, hW1⟩ : ∃ W1, w.alloc (.cells #[.int .i64 11, .int .i64 11, .int .i64 10] 23) = W1 := ⟨_, rfl⟩
  have hb1 : Below w.heap.size w W1 := by rw [← hW1]; exact (Below.refl _ _).alloc (Nat.le_refl _) _
  have e1 : W1.heap[p]? = some (.cells #[.int .i64 11, .int .i64 11, .int .i64 10] 23 (0, 0)) := by rw [← hW1, ← hp]; exact heap_alloc_new _ _
  have hx1 : GdAt W1.heap.size W1 (some ⟨p, 0, none⟩) 1 aG := ⟨rfl, .inr ⟨p, 0, rfl, lt_of_heap e1, fun i hi => by
    obtain rfl : i = 0 := by omega
    exact box3 e1⟩⟩
  have HC := hide (Count_any (some ⟨p, 0, none⟩) 1 1 aG W1 hx1 (by decide) (by decide))
  rw [aG_anti, aG_count] at HC
  have HB1 := hide hb1
  clear hb1 e1 hx1
  go_enter Try.func21, Try.ntmps21
  go_wp2_with fail
  refine HC.out.mono ?_
  rintro e w2 ⟨rfl, hb2⟩
  have HB2 := hide (bel_next HB1.out hb2)
  clear hb2 HC HB1 hW1 hp
  obtain ⟨p2, hp2⟩ : ∃ p2, w2.heap.size = p2 := ⟨_, rfl⟩
  obtain ⟨W3, hW3⟩ : ∃ W3, w2.alloc (.cells #[.int .i64 0, .int .i64 0, .int .i64 0, .int .i64 10, .int .i64 1, .int .i64 1, .int .i64 0, .int .i64 0, .int .i64 4, .int .i64 1] 60) = W3 := ⟨_, rfl⟩
  have hb3 : Below w2.heap.size w2 W3 := by rw [← hW3]; exact (Below.refl _ _).alloc (Nat.le_refl _) _
  have e3 : W3.heap[p2]? = some (.cells #[.int .i64 0, .int .i64 0, .int .i64 0, .int .i64 10, .int .i64 1, .int .i64 1, .int .i64 0, .int .i64 0, .int .i64 4, .int .i64 1] 60 (0, 0)) := by rw [← hW3, ← hp2]; exact heap_alloc_new _ _
  have hx3 : QtAt W3.heap.size W3 (some ⟨p2, 0, none⟩) 2 aQ := ⟨rfl, .inr ⟨p2, 0, rfl, lt_of_heap e3, fun i hi => by
    have hcase : i = 0 ∨ i = 1 := by omega
    rcases hcase with rfl | rfl <;> refine ⟨?_, ?_, ?_, ?_, ?_⟩ <;> simp [World.cell?, e3, qA, aQ]⟩⟩
  have HL := hide (Level_any (some ⟨p2, 0, none⟩) 2 2 aQ W3 hx3 (by decide))
  have HB3 := hide (bel_next HB2.out hb3)
  clear hb3 e3 hx3 HB2
  go_wp2_with fail
  refine HL.out.mono ?_
  rintro e w4 ⟨hb4, hor⟩
  rcases hor with ⟨_, f, rfl, hf, hrow⟩ | ⟨hne, _⟩
  case inr => exact absurd aQ_check hne
  rw [aQ_strain]
  rw [aQ_fit] at hrow
  have HB4 := hide (bel_next HB3.out hb4)
  have HROW := hide hrow
  clear hb4 HL HB3 hW3 hp2 hf hrow
  obtain ⟨p3, hp3⟩ : ∃ p3, w4.heap.size = p3 := ⟨_, rfl⟩
  obtain ⟨W5, hW5⟩ : ∃ W5, w4.alloc (.cells #[.int .i64 0, .int .i64 0, .int .i64 1, .int .i64 0, .int .i64 1, .int .i64 0, .int .i64 0, .int .i64 1, .int .i64 1] 23) = W5 := ⟨_, rfl⟩
  have hb5 : Below w4.heap.size w4 W5 := by rw [← hW5]; exact (Below.refl _ _).alloc (Nat.le_refl _) _
  have e5 : W5.heap[p3]? = some (.cells #[.int .i64 0, .int .i64 0, .int .i64 1, .int .i64 0, .int .i64 1, .int .i64 0, .int .i64 0, .int .i64 1, .int .i64 1] 23 (0, 0)) := by rw [← hW5, ← hp3]; exact heap_alloc_new _ _
  have hx5 : GdAt W5.heap.size W5 (some ⟨p3, 0, none⟩) 3 En.gW := ⟨rfl, .inr ⟨p3, 0, rfl, lt_of_heap e5, fun i hi => by
    have hcase : i = 0 ∨ i = 1 ∨ i = 2 := by omega
    rcases hcase with rfl | rfl | rfl <;> refine ⟨?_, ?_, ?_⟩ <;> simp [World.cell?, e5, gA, En.gW]⟩⟩
  have HW := hide (En.Width3_any W5 (some ⟨p3, 0, none⟩) 3 hx5 (by decide) (by decide))
  have HB5 := hide (bel_next HB4.out hb5)
  have HROW5 : Hid (W5.heap[f]? = some (.cells #[.int .i64 7, .int .i64 7] 3 (0, 0))) := (hb5.block f (lt_of_heap HROW.out)).trans HROW.out
  clear hb5 e5 hx5 HB4 HROW
  go_wp2_with fail
  refine HW.out.mono ?_
  rintro e w6 ⟨A', c', rfl, hin, hb6⟩
  have HB6 := hide (bel_next HB5.out hb6)
  have HROW6 : Hid (w6.heap[f]? = some (.cells #[.int .i64 7, .int .i64 7] 3 (0, 0))) := (hb6.block f (lt_of_heap HROW5.out)).trans HROW5.out
  have HIN := hide hin
  clear hb6 hin HB5 HROW5 HW hW5 hp3
  -- the two comparisons
  obtain ⟨p4, hp4⟩ : ∃ p4, w6.heap.size = p4 := ⟨_, rfl⟩
  obtain ⟨W7, hW7⟩ : ∃ W7, w6.alloc (.cells #[.int .i64 7, .int .i64 7] 3) = W7 := ⟨_, rfl⟩
  have hb7 : Below w6.heap.size w6 W7 := by rw [← hW7]; exact (Below.refl _ _).alloc (Nat.le_refl _) _
  have e7 : W7.heap[p4]? = some (.cells #[.int .i64 7, .int .i64 7] 3 (0, 0)) := by rw [← hW7, ← hp4]; exact heap_alloc_new _ _
  have HS1 := hide (same_any (some ⟨f, 0, none⟩) (some ⟨p4, 0, none⟩) 2 2 2 2 [7, 7] [7, 7] W7 (ints2 ((hb7.block f (lt_of_heap HROW6.out)).trans HROW6.out)) (ints2 e7) (by decide) (by decide))
  have t77 : decide (([7, 7] : List Int) = [7, 7]) = true := by decide
  rw [t77] at HS1
  clear t77
  have HB7 := hide (bel_next HB6.out hb7)
  have HIN7 := hide (HIN.out.now hb7 (Nat.le_refl _))
  clear hb7 e7 HB6 HIN HROW6
  go_wp2_with fail
  refine HS1.out.mono ?_
  rintro e w8 ⟨rfl, hg8⟩
  have HB8 := hide (bel_next HB7.out hg8.below)
  have HIN8 := hide (HIN7.out.now hg8.below (Nat.le_refl _))
  clear hg8 HS1 HB7 HIN7 hW7 hp4
  obtain ⟨p5, hp5⟩ : ∃ p5, w8.heap.size = p5 := ⟨_, rfl⟩
  obtain ⟨W9, hW9⟩ : ∃ W9, w8.alloc (.cells #[.int .i64 0, .int .i64 1] 3) = W9 := ⟨_, rfl⟩
  have hb9 : Below w8.heap.size w8 W9 := by rw [← hW9]; exact (Below.refl _ _).alloc (Nat.le_refl _) _
  have e9 : W9.heap[p5]? = some (.cells #[.int .i64 0, .int .i64 1] 3 (0, 0)) := by rw [← hW9, ← hp5]; exact heap_alloc_new _ _
  have HS2 := hide (same_any A' (some ⟨p5, 0, none⟩) 2 2 c' 2 [0, 1] [0, 1] W9 (HIN8.out.now hb9 (Nat.le_refl _)) (ints2 e9) (by decide) (by decide))
  have HB9 := hide (bel_next HB8.out hb9)
  clear hb9 e9 HB8 HIN8
  have t01 : decide (([0, 1] : List Int) = [0, 1]) = true := by decide
  rw [t01] at HS2
  go_wp2_with fail
  refine HS2.out.mono ?_
  rintro e w10 ⟨rfl, hg10⟩
  have HB10 := hide (bel_next HB9.out hg10.below)
  clear hg10 HS2 HB9 hW9 hp5
  go_wp2_with fail
  go_ret
  exact ⟨rfl, HB10.out⟩
end Go.Proofs.Ytpbenjpponbjjaa
