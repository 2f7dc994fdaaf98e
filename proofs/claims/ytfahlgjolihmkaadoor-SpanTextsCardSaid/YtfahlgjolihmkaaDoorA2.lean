/- Contracts of the two functions Valid: each says whether the list is a set, and that the world has only grown. -/
import Derived.Test.YtfahlgjolihmkaaDoorA1
namespace Go.Proofs.YtfahlgjolihmkaaDoor
open Go.RowKit Go.Sort

theorem valid_grown (a b : Int) (w : World) (n : Nat) (os : Array Obj) :
    Calls Tryd.prog 40 #[.agg #[.int .i64 a, .int .i64 b]] (grow (w.drewN n) os) fun e w'' => e = .returned (.bool (okB a b)) ∧ ∃ p : GrownBy, w'' = grow (w.drewN p.n) p.os :=
  Calls.grown_of ((valid_any a b _).mono fun _ _ ⟨he, hw⟩ => ⟨he, 0, #[.cells #[.int .i64 a, .int .i64 b] 41], hw.symm.trans (alloc_eq_grow _ _)⟩)
theorem good_grown (a b : Int) (w : World) (n : Nat) (os : Array Obj) :
    Calls Tryd.prog 45 #[.agg #[.int .i64 a, .int .i64 b]] (grow (w.drewN n) os) fun e w'' => e = .returned (.bool (okB a b)) ∧ ∃ p : GrownBy, w'' = grow (w.drewN p.n) p.os :=
  Calls.grown_of ((good_any a b _).mono fun _ _ ⟨he, hw⟩ => ⟨he, 0, #[.cells #[.int .i64 a, .int .i64 b] 41], hw.symm.trans (alloc_eq_grow _ _)⟩)

theorem setB_cases {xs : List Sp} {n : Nat} (hlen : xs.length = n) (h128 : ¬ 128 < n) (k : Nat) (hk : k ≤ n) (hok : setTo xs k) :
    (k = n → setB xs = true) ∧ (k < n → okB (loA xs k) (hiA xs k) = false → setB xs = false) ∧ (k < n → 0 < k → loA xs k ≤ hiA xs (k - 1) → setB xs = false) := by
  refine ⟨fun e => ?_, fun hlt hf => ?_, fun hlt h0 hf => ?_⟩
  · subst e
    exact decide_eq_true ⟨by omega, by rw [hlen]; exact hok⟩
  · refine decide_eq_false fun h => ?_
    have := (h.2 k (by omega)).1
    rw [hf] at this
    cases this
  · refine decide_eq_false fun h => ?_
    have := (h.2 k (by omega)).2 h0
    omega
theorem setTo_succ {xs : List Sp} {k : Nat} (h : setTo xs k) (hv : okB (loA xs k) (hiA xs k) = true) (hc : 0 < k → hiA xs (k - 1) < loA xs k) : setTo xs (k + 1) := by
  intro i hi
  rcases Nat.lt_or_ge i k with h1 | h1
  · exact h i h1
  · obtain rfl : i = k := by omega
    exact ⟨hv, hc⟩

set_option maxHeartbeats 400000 in
set_option maxRecDepth 100000 in
theorem Valid_any (A : Option Addr) (n cap : Nat) (xs : List Sp) (w : World) (hx : SpansAt w.heap.size w A n xs) :
    Calls Tryd.prog 22 #[.slice A n cap] w fun e w' => e = .returned (.bool (setB xs)) ∧ Gr w w' := by
  have hlen := hx.1
  have mixed := mixedOrders
  by_cases h128 : 128 < n
  · have H : Hid (setB xs = false) := decide_eq_false (by omega)
    clear hlen
    have h128' : (128 : Int) < (n : Int) := by omega
    go_enter Tryd.func22, Tryd.ntmps22
    go_wp2
    go_ret
    exact ⟨ret_bool H.out.symm, Gr.refl _⟩
  · have h128' : ¬ (128 : Int) < (n : Int) := by omega
    have HX := hide hx
    have HE := hide (setB_cases hlen h128)
    clear hx hlen
    go_enter Tryd.func22, Tryd.ntmps22
    go_wp2
    go_loopw [10] (fun i wr => ∃ k : Nat, k ≤ n ∧ i = .int .i64 k ∧ Hid (setTo xs k) ∧ Gr w wr) (fun i _ => n - (intOf i).toNat)
    case atStart => exact ⟨0, Nat.zero_le _, rfl, fun i hi => absurd hi (Nat.not_lt_zero _), Gr.refl _⟩
    case round =>
      obtain ⟨k, hk, rfl, HO, hG⟩ := hrel
      by_cases hlt : k < n
      · obtain ⟨b, off, rfl, hb, c0, c1⟩ := HX.out.at_ hlt
        have d0 := (hG.cell (p := ⟨b, off + k * 2, none⟩) hb).trans c0
        have d1 := (hG.cell (p := ⟨b, off + k * 2 + 1, none⟩) hb).trans c1
        clear c0 c1
        go_wp2_with fail
        have hG1 := hG.alloc (.cells #[.int .i64 (loA xs k), .int .i64 (hiA xs k)] 41)
        have s1 : wr.heap.size < (wr.alloc (.cells #[.int .i64 (loA xs k), .int .i64 (hiA xs k)] 41)).heap.size := by simp
        have e0 : (wr.alloc (.cells #[.int .i64 (loA xs k), .int .i64 (hiA xs k)] 41)).cell? ⟨wr.heap.size, 0, none⟩ = some (.int .i64 (loA xs k)) := by simp
        have e1 : (wr.alloc (.cells #[.int .i64 (loA xs k), .int .i64 (hiA xs k)] 41)).cell? ⟨wr.heap.size, 1, none⟩ = some (.int .i64 (hiA xs k)) := by simp
        clear d0 d1
        generalize wr.alloc (.cells #[.int .i64 (loA xs k), .int .i64 (hiA xs k)] 41) = w1 at hG1 s1 e0 e1 ⊢
        generalize wr.heap.size = bb at s1 e0 e1 ⊢
        clear hG
        have E0 := fun n os => cell_grown (n := n) (os := os) (a := ⟨bb, 0, none⟩) s1 e0
        have E1 := fun n os => cell_grown (n := n) (os := os) (a := ⟨bb, 1, none⟩) s1 e1
        clear e0 e1
        cases hv : okB (loA xs k) (hiA xs k)
        · refine wp_region_quiet_grown (by assumption) (by kernel_rfl) ?_
          repeat (first | go_big_quiet_step ((go_at_call 40; exact valid_grown _ _ _ _ _)) | quiet_step ((go_at_call 40; exact valid_grown _ _ _ _ _)))
          refine wpQuiet_nil ?_
          intro _ hw'
          obtain ⟨⟨nq, osq⟩, hw''⟩ := hw'
          subst hw''
          go_wp2
          go_ret
          exact ⟨ret_bool ((HE.out k hk HO.out).2.1 hlt hv).symm, hG1.grow _ _⟩
        · by_cases hk0 : k = 0
          · have HK := hide hk0
            have hk0' : ¬ 0 < k := by omega
            have hd : decide (0 < k) = false := decide_eq_false hk0'
            have HS := hide (setTo_succ HO.out hv (fun h => by omega))
            clear hk0
            refine wp_region_quiet_grown (by assumption) (by kernel_rfl) ?_
            repeat (first | go_big_quiet_step ((go_at_call 40; exact valid_grown _ _ _ _ _)) | quiet_step ((go_at_call 40; exact valid_grown _ _ _ _ _)))
            refine wpQuiet_nil ?_
            intro _ hw'
            obtain ⟨⟨nq, osq⟩, hw''⟩ := hw'
            subst hw''
            go_wp2
            go_roundw
            case rel => exact ⟨k + 1, by omega, by go_num, HS, hG1.grow _ _⟩
            case measure => simp [intOf]; omega
          · obtain ⟨kp, rfl⟩ : ∃ kp, k = kp + 1 := ⟨k - 1, by omega⟩
            have p1 := hG1.below
            obtain ⟨c2, c3⟩ := HX.out.at2 (k := kp) (by omega)
            have g3 := fun n os => cell_grown (n := n) (os := os) (a := ⟨b, off + kp * 2 + 1, none⟩) (Nat.lt_of_lt_of_le hb hG1.size) ((p1.cell (p := ⟨b, off + kp * 2 + 1, none⟩) hb).trans c3)
            clear c2 c3 p1 hk0
            have hlt' : kp < n := by omega
            by_cases hcc : hiA xs kp < loA xs (kp + 1)
            · have HS := hide (setTo_succ HO.out hv (fun _ => hcc))
              have hd : decide (hiA xs kp ≥ loA xs (kp + 1)) = false := decide_eq_false (by omega)
              have hd' : decide (loA xs (kp + 1) ≤ hiA xs kp) = false := decide_eq_false (by omega)
              refine wp_region_quiet_grown (by assumption) (by kernel_rfl) ?_
              repeat (first | go_big_quiet_step ((go_at_call 40; exact valid_grown _ _ _ _ _)) | quiet_step ((go_at_call 40; exact valid_grown _ _ _ _ _)))
              refine wpQuiet_nil ?_
              intro _ hw'
              obtain ⟨⟨nq, osq⟩, hw''⟩ := hw'
              subst hw''
              go_wp2
              go_roundw
              case rel => exact ⟨kp + 1 + 1, by omega, by go_num, HS, hG1.grow _ _⟩
              case measure => simp [intOf]; omega
            · have HS := hide ((HE.out (kp + 1) hk HO.out).2.2 hlt (by omega) (show loA xs (kp + 1) ≤ hiA xs kp from by omega))
              have hd : decide (hiA xs kp ≥ loA xs (kp + 1)) = true := decide_eq_true (by omega)
              have hd' : decide (loA xs (kp + 1) ≤ hiA xs kp) = true := decide_eq_true (by omega)
              refine wp_region_quiet_grown (by assumption) (by kernel_rfl) ?_
              repeat (first | go_big_quiet_step ((go_at_call 40; exact valid_grown _ _ _ _ _)) | quiet_step ((go_at_call 40; exact valid_grown _ _ _ _ _)))
              refine wpQuiet_nil ?_
              intro _ hw'
              obtain ⟨⟨nq, osq⟩, hw''⟩ := hw'
              subst hw''
              go_wp2
              go_ret
              exact ⟨ret_bool HS.out.symm, hG1.grow _ _⟩
      · go_wp2
        go_ret
        exact ⟨ret_bool ((HE.out k hk HO.out).1 (by omega)).symm, hG⟩

set_option maxHeartbeats 400000 in
set_option maxRecDepth 100000 in
theorem refValid_any (A : Option Addr) (n cap : Nat) (xs : List Sp) (w : World) (hx : SpansAt w.heap.size w A n xs) :
    Calls Tryd.prog 25 #[.slice A n cap] w fun e w' => e = .returned (.bool (setB xs)) ∧ Gr w w' := by
  have hlen := hx.1
  have mixed := mixedOrders
  by_cases h128 : 128 < n
  · have H : Hid (setB xs = false) := decide_eq_false (by omega)
    clear hlen
    have h128' : (128 : Int) < (n : Int) := by omega
    go_enter Tryd.func25, Tryd.ntmps25
    go_wp2
    go_ret
    exact ⟨ret_bool H.out.symm, Gr.refl _⟩
  · have h128' : ¬ (128 : Int) < (n : Int) := by omega
    have HX := hide hx
    have HE := hide (setB_cases hlen h128)
    clear hx hlen
    go_enter Tryd.func25, Tryd.ntmps25
    go_wp2
    go_loopw [3] (fun i wr => ∃ k : Nat, k ≤ n ∧ i = .int .i64 k ∧ Hid (setTo xs k) ∧ Gr w wr) (fun i _ => n - (intOf i).toNat)
    case atStart => exact ⟨0, Nat.zero_le _, rfl, fun i hi => absurd hi (Nat.not_lt_zero _), Gr.refl _⟩
    case round =>
      obtain ⟨k, hk, rfl, HO, hG⟩ := hrel
      by_cases hlt : k < n
      · obtain ⟨b, off, rfl, hb, c0, c1⟩ := HX.out.at_ hlt
        have d0 := (hG.cell (p := ⟨b, off + k * 2, none⟩) hb).trans c0
        have d1 := (hG.cell (p := ⟨b, off + k * 2 + 1, none⟩) hb).trans c1
        clear c0 c1
        have hG1 := hG
        have E0 := fun n os => cell_grown (n := n) (os := os) (a := ⟨b, off + k * 2, none⟩) (Nat.lt_of_lt_of_le hb hG.size) d0
        have E1 := fun n os => cell_grown (n := n) (os := os) (a := ⟨b, off + k * 2 + 1, none⟩) (Nat.lt_of_lt_of_le hb hG.size) d1
        clear d0 d1 hG
        go_wp2_with fail
        cases hv : okB (loA xs k) (hiA xs k)
        · refine wp_region_quiet_grown (by assumption) (by kernel_rfl) ?_
          repeat (first | go_big_quiet_step ((go_at_call 45; exact good_grown _ _ _ _ _)) | quiet_step ((go_at_call 45; exact good_grown _ _ _ _ _)))
          refine wpQuiet_nil ?_
          intro _ hw'
          obtain ⟨⟨nq, osq⟩, hw''⟩ := hw'
          subst hw''
          go_wp2
          go_ret
          exact ⟨ret_bool ((HE.out k hk HO.out).2.1 hlt hv).symm, hG1.grow _ _⟩
        · by_cases hk0 : k = 0
          · have HK := hide hk0
            have hk0' : ¬ 0 < k := by omega
            have hd : decide (0 < k) = false := decide_eq_false hk0'
            have HS := hide (setTo_succ HO.out hv (fun h => by omega))
            clear hk0
            refine wp_region_quiet_grown (by assumption) (by kernel_rfl) ?_
            repeat (first | go_big_quiet_step ((go_at_call 45; exact good_grown _ _ _ _ _)) | quiet_step ((go_at_call 45; exact good_grown _ _ _ _ _)))
            refine wpQuiet_nil ?_
            intro _ hw'
            obtain ⟨⟨nq, osq⟩, hw''⟩ := hw'
            subst hw''
            go_wp2
            go_roundw
            case rel => exact ⟨k + 1, by omega, by go_num, HS, hG1.grow _ _⟩
            case measure => simp [intOf]; omega
          · obtain ⟨kp, rfl⟩ : ∃ kp, k = kp + 1 := ⟨k - 1, by omega⟩
            have p1 := hG1.below
            obtain ⟨c2, c3⟩ := HX.out.at2 (k := kp) (by omega)
            have g3 := fun n os => cell_grown (n := n) (os := os) (a := ⟨b, off + kp * 2 + 1, none⟩) (Nat.lt_of_lt_of_le hb hG1.size) ((p1.cell (p := ⟨b, off + kp * 2 + 1, none⟩) hb).trans c3)
            clear c2 c3 p1 hk0
            have hlt' : kp < n := by omega
            by_cases hcc : hiA xs kp < loA xs (kp + 1)
            · have HS := hide (setTo_succ HO.out hv (fun _ => hcc))
              have hd : decide (hiA xs kp ≥ loA xs (kp + 1)) = false := decide_eq_false (by omega)
              have hd' : decide (loA xs (kp + 1) ≤ hiA xs kp) = false := decide_eq_false (by omega)
              refine wp_region_quiet_grown (by assumption) (by kernel_rfl) ?_
              repeat (first | go_big_quiet_step ((go_at_call 45; exact good_grown _ _ _ _ _)) | quiet_step ((go_at_call 45; exact good_grown _ _ _ _ _)))
              refine wpQuiet_nil ?_
              intro _ hw'
              obtain ⟨⟨nq, osq⟩, hw''⟩ := hw'
              subst hw''
              go_wp2
              go_roundw
              case rel => exact ⟨kp + 1 + 1, by omega, by go_num, HS, hG1.grow _ _⟩
              case measure => simp [intOf]; omega
            · have HS := hide ((HE.out (kp + 1) hk HO.out).2.2 hlt (by omega) (show loA xs (kp + 1) ≤ hiA xs kp from by omega))
              have hd : decide (hiA xs kp ≥ loA xs (kp + 1)) = true := decide_eq_true (by omega)
              have hd' : decide (loA xs (kp + 1) ≤ hiA xs kp) = true := decide_eq_true (by omega)
              refine wp_region_quiet_grown (by assumption) (by kernel_rfl) ?_
              repeat (first | go_big_quiet_step ((go_at_call 45; exact good_grown _ _ _ _ _)) | quiet_step ((go_at_call 45; exact good_grown _ _ _ _ _)))
              refine wpQuiet_nil ?_
              intro _ hw'
              obtain ⟨⟨nq, osq⟩, hw''⟩ := hw'
              subst hw''
              go_wp2
              go_ret
              exact ⟨ret_bool HS.out.symm, hG1.grow _ _⟩
      · go_wp2
        go_ret
        exact ⟨ret_bool ((HE.out k hk HO.out).1 (by omega)).symm, hG⟩

end Go.Proofs.YtfahlgjolihmkaaDoor
