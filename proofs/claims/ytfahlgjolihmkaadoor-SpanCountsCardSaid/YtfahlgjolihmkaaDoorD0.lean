/- Contracts of choose and of the two rules that steps hands it. -/
import Derived.Test.YtfahlgjolihmkaaDoorZ2
namespace Go.Proofs.YtfahlgjolihmkaaDoor
open Go.RowKit Go.Sort

/-- the best span of the first k that has x: its index, or -1 -/
def bestTo (xs : List Sp) (x : Int) : Nat → Int
  | 0 => -1
  | k + 1 => if loA xs k ≤ x ∧ x < hiA xs k ∧ (bestTo xs x k < 0 ∨ hiA xs (bestTo xs x k).toNat < hiA xs k) then k else bestTo xs x k
theorem bestTo_range (xs : List Sp) (x : Int) : ∀ k, -1 ≤ bestTo xs x k ∧ bestTo xs x k < k
  | 0 => by simp [bestTo]
  | k + 1 => by
    have := bestTo_range xs x k
    unfold bestTo
    split <;> omega
theorem bestTo_has (xs : List Sp) (x : Int) : ∀ k, 0 ≤ bestTo xs x k → loA xs (bestTo xs x k).toNat ≤ x ∧ x < hiA xs (bestTo xs x k).toNat
  | 0 => by simp [bestTo]
  | k + 1 => by
    have ih := bestTo_has xs x k
    unfold bestTo
    split
    · rename_i h
      intro _
      exact ⟨h.1, h.2.1⟩
    · exact ih

set_option maxHeartbeats 400000 in
theorem fits_any (a b x : Int) (Bx : Nat) (w : World) (hc : w.cell? ⟨Bx, 0, none⟩ = some (.int .i64 x)) (hl : Bx < w.heap.size) :
    Calls Tryd.prog 69 #[.agg #[.int .i64 a, .int .i64 b], .pointer (some ⟨Bx, 0, none⟩)] w fun e w' => e = .returned (.bool (hasB a b x)) ∧ Gr w w' := by
  have hc' : (w.alloc (.cells #[.int .i64 a, .int .i64 b] 41)).cell? ⟨Bx, 0, none⟩ = some (.int .i64 x) := (World.cell?_alloc_lt w _ ⟨Bx, 0, none⟩ hl).trans hc
  go_enter Tryd.func69, Tryd.ntmps69
  go_wp2_with (go_at_call 70; refine (contains_any _ _ _ _).mono ?_; rintro e w' ⟨rfl, rfl⟩)
  go_ret
  exact ⟨rfl, ((Gr.refl _).alloc _).alloc _⟩

set_option maxHeartbeats 400000 in
theorem better_any (a b c d : Int) (w : World) :
    Calls Tryd.prog 71 #[.agg #[.int .i64 a, .int .i64 b], .agg #[.int .i64 c, .int .i64 d]] w fun e w' => e = .returned (.bool (decide (d < b))) ∧ Gr w w' := by
  go_enter Tryd.func71, Tryd.ntmps71
  go_wp2
  go_ret
  exact ⟨rfl, ((Gr.refl _).alloc _).alloc _⟩

theorem bet_call {a b c d : Int} {w : World} {n : Nat} {os : Array Obj} : Calls Tryd.prog 71 #[.agg #[.int .i64 a, .int .i64 b], .agg #[.int .i64 c, .int .i64 d]] (grow (w.drewN n) os) fun e w'' => e = .returned (.bool (decide (d < b))) ∧ ∃ p : GrownBy, w'' = grow (w.drewN p.n) p.os :=
  Calls.grown_of ((better_any a b c d _).mono fun _ _ ⟨he, q, os', hw⟩ => ⟨he, q, os', hw⟩)
theorem gr_call {f : FuncId} {args : Array Value} {w : World} {n : Nat} {os : Array Obj} {v : Value}
    (h : Calls Tryd.prog f args (grow (w.drewN n) os) fun e w' => e = .returned v ∧ Gr (grow (w.drewN n) os) w') : Calls Tryd.prog f args (grow (w.drewN n) os) fun e w'' => e = .returned v ∧ ∃ p : GrownBy, w'' = grow (w.drewN p.n) p.os :=
  Calls.grown_of (h.mono fun _ _ ⟨he, q, os', hw⟩ => ⟨he, q, os', hw⟩)
theorem grown_gr (w : World) (n : Nat) (os : Array Obj) : Gr w (grow (w.drewN n) os) := ⟨n, os, rfl⟩

set_option maxHeartbeats 2000000 in
set_option maxRecDepth 100000 in
theorem choose_any (A : Option Addr) (n cap Bx : Nat) (x : Int) (xs : List Sp) (w : World) (hx : SpansAt w.heap.size w A n xs) (hn : n ≤ 1000000) (hc : w.cell? ⟨Bx, 0, none⟩ = some (.int .i64 x)) (hl : Bx < w.heap.size) :
    Calls Tryd.prog 68 #[.slice A n cap, .func (.func 69) #[] #[.pointer (some ⟨Bx, 0, none⟩)], .func (.func 71) #[] #[]] w fun e w' => e = .returned (.int .i64 (bestTo xs x n)) ∧ Gr w w' := by
  have mixed := mixedOrders
  have HX := hide hx
  have HC := hide hc
  clear hx hc
  go_enter Tryd.func68, Tryd.ntmps68
  go_wp2
  go_loopw [7, 12] (fun vb i wr => ∃ k : Nat, k ≤ n ∧ i = .int .i64 k ∧ vb = .int .i64 (bestTo xs x k) ∧ Gr w wr) (fun _ i _ => n - (intOf i).toNat)
  case atStart => exact ⟨0, Nat.zero_le _, rfl, rfl, Gr.refl _⟩
  case round =>
    obtain ⟨k, hk, rfl, rfl, hG⟩ := hrel
    by_cases hlt : k < n
    · obtain ⟨b, off, rfl, hb, c0, c1⟩ := HX.out.at_ hlt
      have d0 := (hG.cell (p := ⟨b, off + k * 2, none⟩) hb).trans c0
      have d1 := (hG.cell (p := ⟨b, off + k * 2 + 1, none⟩) hb).trans c1
      clear c0 c1
      have HB := hide (bestTo_range xs x k)
      have HE : Hid (bestTo xs x (k + 1) = if loA xs k ≤ x ∧ x < hiA xs k ∧ (bestTo xs x k < 0 ∨ hiA xs (bestTo xs x k).toNat < hiA xs k) then (k : Int) else bestTo xs x k) := rfl
      generalize bestTo xs x k = bst at HB HE ⊢
      go_wp2_with fail
      have hG1 := hG.alloc (.cells #[.int .i64 (loA xs k), .int .i64 (hiA xs k)] 41)
      have s1 : wr.heap.size < (wr.alloc (.cells #[.int .i64 (loA xs k), .int .i64 (hiA xs k)] 41)).heap.size := by simp
      have e0 : (wr.alloc (.cells #[.int .i64 (loA xs k), .int .i64 (hiA xs k)] 41)).cell? ⟨wr.heap.size, 0, none⟩ = some (.int .i64 (loA xs k)) := by simp
      have e1 : (wr.alloc (.cells #[.int .i64 (loA xs k), .int .i64 (hiA xs k)] 41)).cell? ⟨wr.heap.size, 1, none⟩ = some (.int .i64 (hiA xs k)) := by simp
      clear d0 d1
      generalize wr.alloc (.cells #[.int .i64 (loA xs k), .int .i64 (hiA xs k)] 41) = w1 at hG1 s1 e0 e1 ⊢
      generalize wr.heap.size = bb at s1 e0 e1 ⊢
      clear hG
      have E0 := fun n os => cell_grown (n := n) (os := os) (a := ⟨bb, 0, none⟩) s1 e0
      have E1 := fun n os => cell_grown (n := n) (os := os) (a := ⟨bb, 1, none⟩) s1 e1
      have EF : Hid (∀ (q : Nat) (os : Array Obj), Calls Tryd.prog 69 #[.agg #[.int .i64 (loA xs k), .int .i64 (hiA xs k)], .pointer (some ⟨Bx, 0, none⟩)] (grow (w1.drewN q) os) fun e w'' => e = .returned (.bool (hasB (loA xs k) (hiA xs k) x)) ∧ ∃ p : GrownBy, w'' = grow (w1.drewN p.n) p.os) := fun q os =>
        gr_call (fits_any _ _ _ _ _ (((hG1.trans (grown_gr w1 q os)).cell (p := ⟨Bx, 0, none⟩) hl).trans HC.out) (Nat.lt_of_lt_of_le hl (hG1.trans (grown_gr w1 q os)).size))
      clear e0 e1
      cases hv : hasB (loA xs k) (hiA xs k) x
      · have hne : ¬ (loA xs k ≤ x ∧ x < hiA xs k) := of_decide_eq_false hv
        have HE2 : Hid (bestTo xs x (k + 1) = bst) := by show bestTo xs x (k + 1) = bst; rw [HE.out, if_neg (fun h => hne ⟨h.1, h.2.1⟩)]
        clear hne HE
        refine wp_region_quiet_grown (by assumption) (by kernel_rfl) ?_
        repeat (first | go_big_quiet_step ((go_at_call 69; exact EF.out _ _)) | quiet_step ((go_at_call 69; exact EF.out _ _)))
        refine wpQuiet_nil ?_
        intro _ hw'
        obtain ⟨⟨nq, osq⟩, hw''⟩ := hw'
        subst hw''
        go_wp2
        go_roundw
        case rel => exact ⟨k + 1, by omega, by go_num, by rw [HE2.out], hG1.grow _ _⟩
        case measure => simp [intOf]; omega
      · have hhv := of_decide_eq_true hv
        by_cases hb0 : bst < 0
        · have hd : decide (bst < 0) = true := decide_eq_true hb0
          have HE2 : Hid (bestTo xs x (k + 1) = (k : Int)) := by show bestTo xs x (k + 1) = (k : Int); rw [HE.out, if_pos ⟨hhv.1, hhv.2, .inl hb0⟩]
          clear hhv HE hb0
          refine wp_region_quiet_grown (by assumption) (by kernel_rfl) ?_
          repeat (first | go_big_quiet_step ((first | (go_at_call 69; exact EF.out _ _) | (go_at_call 71; exact bet_call))) | quiet_step ((first | (go_at_call 69; exact EF.out _ _) | (go_at_call 71; exact bet_call))))
          refine wpQuiet_nil ?_
          intro _ hw'
          obtain ⟨⟨nq, osq⟩, hw''⟩ := hw'
          subst hw''
          go_wp2
          go_roundw
          case rel => exact ⟨k + 1, by omega, by go_num, by rw [HE2.out], hG1.grow _ _⟩
          case measure => simp [intOf]; omega
        · have hb1 := HB.out
          obtain ⟨j, rfl⟩ : ∃ j : Nat, bst = (j : Int) := ⟨bst.toNat, by omega⟩
          have hjk : j < k := by omega
          have hjn : (j : Int) < (n : Int) := by omega
          have hd : decide ((j : Int) < 0) = false := decide_eq_false hb0
          obtain ⟨g0, g1⟩ := HX.out.at2 (k := j) (by omega)
          have E2 := fun n os => cell_grown (n := n) (os := os) (a := ⟨b, off + j * 2, none⟩) (Nat.lt_of_lt_of_le hb hG1.size) ((hG1.cell (p := ⟨b, off + j * 2, none⟩) hb).trans g0)
          have E3 := fun n os => cell_grown (n := n) (os := os) (a := ⟨b, off + j * 2 + 1, none⟩) (Nat.lt_of_lt_of_le hb hG1.size) ((hG1.cell (p := ⟨b, off + j * 2 + 1, none⟩) hb).trans g1)
          have HE' := hide HE.out
          rw [Int.toNat_natCast] at HE'
          clear g0 g1 hb1 HE HB
          by_cases hbt : hiA xs j < hiA xs k
          · have hd2 : decide (hiA xs j < hiA xs k) = true := decide_eq_true hbt
            have HE2 : Hid (bestTo xs x (k + 1) = (k : Int)) := by show bestTo xs x (k + 1) = (k : Int); rw [HE'.out, if_pos ⟨hhv.1, hhv.2, .inr hbt⟩]
            clear hhv HE'
            refine wp_region_quiet_grown (by assumption) (by kernel_rfl) ?_
            repeat (first | go_big_quiet_step ((first | (go_at_call 69; exact EF.out _ _) | (go_at_call 71; exact bet_call))) | quiet_step ((first | (go_at_call 69; exact EF.out _ _) | (go_at_call 71; exact bet_call))))
            refine wpQuiet_nil ?_
            intro _ hw'
            obtain ⟨⟨nq, osq⟩, hw''⟩ := hw'
            subst hw''
            go_wp2
            go_roundw
            case rel => exact ⟨k + 1, by omega, by go_num, by rw [HE2.out], hG1.grow _ _⟩
            case measure => simp [intOf]; omega
          · have hd2 : decide (hiA xs j < hiA xs k) = false := decide_eq_false hbt
            have HE2 : Hid (bestTo xs x (k + 1) = (j : Int)) := by show bestTo xs x (k + 1) = (j : Int); rw [HE'.out, if_neg (fun h => by rcases h.2.2 with h | h; exact hb0 h; exact hbt h)]
            clear hhv HE'
            refine wp_region_quiet_grown (by assumption) (by kernel_rfl) ?_
            repeat (first | go_big_quiet_step ((first | (go_at_call 69; exact EF.out _ _) | (go_at_call 71; exact bet_call))) | quiet_step ((first | (go_at_call 69; exact EF.out _ _) | (go_at_call 71; exact bet_call))))
            refine wpQuiet_nil ?_
            intro _ hw'
            obtain ⟨⟨nq, osq⟩, hw''⟩ := hw'
            subst hw''
            go_wp2
            go_roundw
            case rel => exact ⟨k + 1, by omega, by go_num, by rw [HE2.out], hG1.grow _ _⟩
            case measure => simp [intOf]; omega
    · obtain rfl : k = n := by omega
      go_wp2
      go_ret
      exact ⟨rfl, hG⟩

end Go.Proofs.YtfahlgjolihmkaaDoor
