/- ProofNobody: a log that was not made. -/
import Derived.Test.YtbinmkigolkhcaaDoorPW
set_option linter.unusedSimpArgs false
set_option linter.unusedVariables false
namespace Go.Proofs.YtbinmkigolkhcaaDoor
open Go.RowKit Go.Sort
attribute [local go_sem] Oper.semAt_some

/-- at this pointer lies no log that was made -/
def NotMade (P : Option Addr) (w : World) : Prop := Calls Tryd.prog 82 #[.pointer P] w fun e w' => e = .returned (.bool false) ∧ w = w'
theorem notMade_nil (w : World) : NotMade none w := isMade_nil w
theorem notMade_zero (b : Nat) (w : World) (c0 : w.cell? ⟨b, 0, none⟩ = some (.bool false)) : NotMade (some ⟨b, 0, none⟩) w := by
  unfold NotMade
  go_enter Tryd.func82, Tryd.ntmps82
  go_wp2
  go_ret
  exact ⟨rfl, rfl⟩
theorem Add_not (P : Option Addr) (v : Value) (w : World) (h : NotMade P w) : Calls Tryd.prog 44 #[.pointer P, v] w fun e w' => e = .returned (.tuple #[.int .i64 0, .int .i64 1]) ∧ w = w' := by
  have HM := hide h
  clear h
  unfold NotMade at HM
  go_enter Tryd.func44, Tryd.ntmps44
  go_wp2_with fail
  refine HM.out.mono ?_
  rintro e w1 ⟨rfl, rfl⟩
  go_wp2_with fail
  go_ret2
  exact ⟨rfl, rfl⟩
theorem RootAt_not (P : Option Addr) (v : Value) (w : World) (h : NotMade P w) : Calls Tryd.prog 45 #[.pointer P, v] w fun e w' => e = .returned (.tuple #[.int .u64 0, .int .i64 1]) ∧ w = w' := by
  have HM := hide h
  clear h
  unfold NotMade at HM
  go_enter Tryd.func45, Tryd.ntmps45
  go_wp2_with fail
  refine HM.out.mono ?_
  rintro e w1 ⟨rfl, rfl⟩
  go_wp2_with fail
  go_ret2
  exact ⟨rfl, rfl⟩
theorem Entry_not (P : Option Addr) (v : Value) (w : World) (h : NotMade P w) : Calls Tryd.prog 46 #[.pointer P, v] w fun e w' => e = .returned (.tuple #[.slice none 0 0, .int .i64 1]) ∧ w = w' := by
  have HM := hide h
  clear h
  unfold NotMade at HM
  go_enter Tryd.func46, Tryd.ntmps46
  go_wp2_with fail
  refine HM.out.mono ?_
  rintro e w1 ⟨rfl, rfl⟩
  go_wp2_with fail
  go_ret2
  exact ⟨rfl, rfl⟩
theorem Include_not (P : Option Addr) (u v : Value) (w : World) (h : NotMade P w) : Calls Tryd.prog 47 #[.pointer P, u, v] w fun e w' => e = .returned (.tuple #[.slice none 0 0, .int .i64 1]) ∧ w = w' := by
  have HM := hide h
  clear h
  unfold NotMade at HM
  go_enter Tryd.func47, Tryd.ntmps47
  go_wp2_with fail
  refine HM.out.mono ?_
  rintro e w1 ⟨rfl, rfl⟩
  go_wp2_with fail
  go_ret2
  exact ⟨rfl, rfl⟩
theorem Extend_not (P : Option Addr) (u v : Value) (w : World) (h : NotMade P w) : Calls Tryd.prog 48 #[.pointer P, u, v] w fun e w' => e = .returned (.tuple #[.slice none 0 0, .int .i64 1]) ∧ w = w' := by
  have HM := hide h
  clear h
  unfold NotMade at HM
  go_enter Tryd.func48, Tryd.ntmps48
  go_wp2_with fail
  refine HM.out.mono ?_
  rintro e w1 ⟨rfl, rfl⟩
  go_wp2_with fail
  go_ret2
  exact ⟨rfl, rfl⟩
theorem Len_not (P : Option Addr) (w : World) (h : NotMade P w) : Calls Tryd.prog 49 #[.pointer P] w fun e w' => e = .returned (.int .i64 0) ∧ w = w' := by
  have HM := hide h
  clear h
  unfold NotMade at HM
  go_enter Tryd.func49, Tryd.ntmps49
  go_wp2_with fail
  refine HM.out.mono ?_
  rintro e w1 ⟨rfl, rfl⟩
  go_wp2_with fail
  go_ret
  exact ⟨rfl, rfl⟩
theorem Root_not (P : Option Addr) (w : World) (h : NotMade P w) : Calls Tryd.prog 50 #[.pointer P] w fun e w' => e = .returned (.int .u64 0) ∧ w = w' := by
  have HL := hide (Len_not P w h)
  clear h
  refine (callsIn_wide (n := 10)).1 ?_
  refine callsIn_of_wp_marks Tryd.func50 rfl trivial ?_ rfl
  simp only [Tryd.ntmps50, List.size_toArray, List.length_cons, List.length_nil, Nat.reduceAdd, Nat.reduceSub, Array.replicate_succ, Array.replicate_zero, List.push_toArray, List.append_toArray, List.nil_append, List.cons_append]
  gi_wp2_with fail
  refine ⟨trivial, (callsIn_wide (n := 9).2 HL.out).mono ?_⟩
  rintro e w2 ⟨rfl, rfl⟩
  gi_wp2_with fail
  exact ⟨_, results_tmp rfl _ _ _, rfl, rfl⟩
theorem Copy_not (P : Option Addr) (w : World) (h : NotMade P w) : Calls Tryd.prog 43 #[.pointer P] w fun e w' => e = .returned (.pointer none) ∧ w = w' := by
  have HM := hide h
  clear h
  unfold NotMade at HM
  go_enter Tryd.func43, Tryd.ntmps43
  go_wp2_with fail
  refine HM.out.mono ?_
  rintro e w1 ⟨rfl, rfl⟩
  go_wp2_with fail
  go_ret
  exact ⟨rfl, rfl⟩

set_option maxHeartbeats 4000000 in
set_option maxRecDepth 100000 in
theorem nobody_law (v : Value) (i n : Int) (q : Bool) (w : World) (hw1 : 1 < w.heap.size) (hT : TabAt 1 Lib.deBruijn64tab w) :
    Calls Tryd.prog 8 #[v, .int .i64 i, .int .i64 n, .bool q] w fun e w' => e = .returned (.bool true) ∧ Below w.heap.size w w' := by
  have mixed := mixedOrders
  cases q
  · have HA := hide (alive_any w hw1 hT)
    have H1 := hide (notMade_nil w)
    clear hw1 hT
    go_enter Tryd.func8, Tryd.ntmps8
    go_wp2_with fail
    refine (Add_not _ _ _ H1.out).mono ?_
    rintro e w1 ⟨rfl, rfl⟩
    go_wp2_with fail
    refine (RootAt_not _ _ _ H1.out).mono ?_
    rintro e w1 ⟨rfl, rfl⟩
    go_wp2_with fail
    refine (Entry_not _ _ _ H1.out).mono ?_
    rintro e w1 ⟨rfl, rfl⟩
    go_wp2_with fail
    refine (Include_not _ _ _ _ H1.out).mono ?_
    rintro e w1 ⟨rfl, rfl⟩
    go_wp2_with fail
    refine (Extend_not _ _ _ _ H1.out).mono ?_
    rintro e w1 ⟨rfl, rfl⟩
    go_wp2_with fail
    refine (Len_not _ _ H1.out).mono ?_
    rintro e w1 ⟨rfl, rfl⟩
    go_wp2_with fail
    refine (Root_not _ _ H1.out).mono ?_
    rintro e w1 ⟨rfl, rfl⟩
    go_wp2_with fail
    refine (Copy_not _ _ H1.out).mono ?_
    rintro e w1 ⟨rfl, rfl⟩
    go_wp2_with fail
    refine HA.out.mono ?_
    rintro e w1 ⟨rfl, hb⟩
    go_wp2_with fail
    go_ret
    exact ⟨rfl, hb⟩
  · have hal : Below w.heap.size w (w.alloc (.cells #[.bool false, .slice none 0 0, .slice none 0 0] 65)) := (Below.refl _ w).alloc (Nat.le_refl _) _
    have HAL := hide hal
    have HA := hide (alive_any (w.alloc (.cells #[.bool false, .slice none 0 0, .slice none 0 0] 65)) (by simp; omega) (fun j hj => (hal.cell (p := ⟨1, j, none⟩) hw1).trans (hT j hj)))
    have H1 := hide (notMade_zero w.heap.size (w.alloc (.cells #[.bool false, .slice none 0 0, .slice none 0 0] 65)) (by simp))
    clear hw1 hT hal
    go_enter Tryd.func8, Tryd.ntmps8
    go_wp2_with fail
    refine (Add_not _ _ _ H1.out).mono ?_
    rintro e w1 ⟨rfl, rfl⟩
    go_wp2_with fail
    refine (RootAt_not _ _ _ H1.out).mono ?_
    rintro e w1 ⟨rfl, rfl⟩
    go_wp2_with fail
    refine (Entry_not _ _ _ H1.out).mono ?_
    rintro e w1 ⟨rfl, rfl⟩
    go_wp2_with fail
    refine (Include_not _ _ _ _ H1.out).mono ?_
    rintro e w1 ⟨rfl, rfl⟩
    go_wp2_with fail
    refine (Extend_not _ _ _ _ H1.out).mono ?_
    rintro e w1 ⟨rfl, rfl⟩
    go_wp2_with fail
    refine (Len_not _ _ H1.out).mono ?_
    rintro e w1 ⟨rfl, rfl⟩
    go_wp2_with fail
    refine (Root_not _ _ H1.out).mono ?_
    rintro e w1 ⟨rfl, rfl⟩
    go_wp2_with fail
    refine (Copy_not _ _ H1.out).mono ?_
    rintro e w1 ⟨rfl, rfl⟩
    go_wp2_with fail
    refine HA.out.mono ?_
    rintro e w1 ⟨rfl, hb⟩
    go_wp2_with fail
    go_ret
    exact ⟨rfl, HAL.out.trans (hb.mono HAL.out.size)⟩
end Go.Proofs.YtbinmkigolkhcaaDoor
