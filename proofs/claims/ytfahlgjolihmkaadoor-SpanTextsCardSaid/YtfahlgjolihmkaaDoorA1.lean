/- Contracts of valid, Good, contains, check, List, few: each says what the call returns and that the world has only grown. -/
import Derived.Test.YtfahlgjolihmkaaDoorK
namespace Go.Proofs.YtfahlgjolihmkaaDoor
open Go.RowKit Go.Sort

set_option maxHeartbeats 400000 in
theorem valid_any (a b : Int) (w : World) :
    Calls Tryd.prog 40 #[.agg #[.int .i64 a, .int .i64 b]] w fun e w' => e = .returned (.bool (okB a b)) ∧ w.alloc (.cells #[.int .i64 a, .int .i64 b] 41) = w' := by
  by_cases h1 : -1099511627776 ≤ a
  · by_cases h2 : a < b
    · by_cases h3 : b ≤ 1099511627776
      · have hh : okB a b = true := decide_eq_true ⟨h1, h2, h3⟩
        rw [hh]
        go_enter Tryd.func40, Tryd.ntmps40
        go_wp2
        go_ret
        exact ⟨rfl, rfl⟩
      · have hh : okB a b = false := decide_eq_false (by omega)
        rw [hh]
        go_enter Tryd.func40, Tryd.ntmps40
        go_wp2
        go_ret
        exact ⟨rfl, rfl⟩
    · have hh : okB a b = false := decide_eq_false (by omega)
      rw [hh]
      go_enter Tryd.func40, Tryd.ntmps40
      go_wp2
      go_ret
      exact ⟨rfl, rfl⟩
  · have hh : okB a b = false := decide_eq_false (by omega)
    rw [hh]
    go_enter Tryd.func40, Tryd.ntmps40
    go_wp2
    go_ret
    exact ⟨rfl, rfl⟩

set_option maxHeartbeats 400000 in
theorem good_any (a b : Int) (w : World) :
    Calls Tryd.prog 45 #[.agg #[.int .i64 a, .int .i64 b]] w fun e w' => e = .returned (.bool (okB a b)) ∧ w.alloc (.cells #[.int .i64 a, .int .i64 b] 41) = w' := by
  by_cases h1 : -1099511627776 ≤ a
  · by_cases h2 : a < b
    · by_cases h3 : b ≤ 1099511627776
      · have hh : okB a b = true := decide_eq_true ⟨h1, h2, h3⟩
        rw [hh]
        go_enter Tryd.func45, Tryd.ntmps45
        go_wp2
        go_ret
        exact ⟨rfl, rfl⟩
      · have hh : okB a b = false := decide_eq_false (by omega)
        rw [hh]
        go_enter Tryd.func45, Tryd.ntmps45
        go_wp2
        go_ret
        exact ⟨rfl, rfl⟩
    · have hh : okB a b = false := decide_eq_false (by omega)
      rw [hh]
      go_enter Tryd.func45, Tryd.ntmps45
      go_wp2
      go_ret
      exact ⟨rfl, rfl⟩
  · have hh : okB a b = false := decide_eq_false (by omega)
    rw [hh]
    go_enter Tryd.func45, Tryd.ntmps45
    go_wp2
    go_ret
    exact ⟨rfl, rfl⟩

/-- has a span a number? -/
def hasB (a b x : Int) : Bool := decide (a ≤ x ∧ x < b)
set_option maxHeartbeats 400000 in
theorem contains_any (a b x : Int) (w : World) :
    Calls Tryd.prog 70 #[.agg #[.int .i64 a, .int .i64 b], .int .i64 x] w fun e w' => e = .returned (.bool (hasB a b x)) ∧ w.alloc (.cells #[.int .i64 a, .int .i64 b] 41) = w' := by
  by_cases h1 : a ≤ x
  · by_cases h2 : x < b
    · have hh : hasB a b x = true := decide_eq_true ⟨h1, h2⟩
      rw [hh]
      go_enter Tryd.func70, Tryd.ntmps70
      go_wp2
      go_ret
      exact ⟨rfl, rfl⟩
    · have hh : hasB a b x = false := decide_eq_false (by omega)
      rw [hh]
      go_enter Tryd.func70, Tryd.ntmps70
      go_wp2
      go_ret
      exact ⟨rfl, rfl⟩
  · have hh : hasB a b x = false := decide_eq_false (by omega)
    rw [hh]
    go_enter Tryd.func70, Tryd.ntmps70
    go_wp2
    go_ret
    exact ⟨rfl, rfl⟩

theorem few_any (A : Option Addr) (n cap : Nat) (w : World) :
    Calls Tryd.prog 5 #[.slice A n cap] w fun e w' => e = .returned (.bool (decide ((n : Int) ≤ 140))) ∧ w = w' := by
  go_enter Tryd.func5, Tryd.ntmps5
  go_wp2
  go_ret
  exact ⟨rfl, rfl⟩

theorem checkE_cases {xs : List Sp} {n : Nat} (hlen : xs.length = n) (h128 : ¬ 128 < n) (k : Nat) (hk : k ≤ n) (hok : okTo xs k) :
    (k = n ∧ checkE xs = 0) ∨ (k < n ∧ (okB (loA xs k) (hiA xs k) = false → checkE xs = 2)) := by
  rcases Nat.lt_or_ge k n with hlt | hge
  · refine .inr ⟨hlt, fun hf => ?_⟩
    unfold checkE
    rw [if_neg (by omega), if_neg]
    intro hall
    have := hall k (by omega)
    rw [hf] at this
    cases this
  · obtain rfl : k = n := by omega
    refine .inl ⟨rfl, ?_⟩
    unfold checkE
    rw [if_neg (by omega), if_pos (by rw [hlen]; exact hok)]
theorem okTo_succ {xs : List Sp} {k : Nat} (h : okTo xs k) (hv : okB (loA xs k) (hiA xs k) = true) : okTo xs (k + 1) := by
  intro i hi
  rcases Nat.lt_or_ge i k with h1 | h1
  · exact h i h1
  · obtain rfl : i = k := by omega
    exact hv

set_option maxHeartbeats 1000000 in
theorem check_any (A : Option Addr) (n cap : Nat) (xs : List Sp) (w : World) (hx : SpansAt w.heap.size w A n xs) :
    Calls Tryd.prog 35 #[.slice A n cap] w fun e w' => e = .returned (.int .i64 (checkE xs)) ∧ Gr w w' := by
  have hlen := hx.1
  by_cases h128 : 128 < n
  · have H : Hid (checkE xs = 3) := by show checkE xs = 3; unfold checkE; rw [if_pos (by omega)]
    clear hlen
    have h128' : (128 : Int) < (n : Int) := by omega
    go_enter Tryd.func35, Tryd.ntmps35
    go_wp2
    go_ret
    exact ⟨ret_int H.out.symm, Gr.refl _⟩
  · have h128' : ¬ (128 : Int) < (n : Int) := by omega
    have HX := hide hx
    have HE := hide (checkE_cases hlen h128)
    clear hx hlen
    go_enter Tryd.func35, Tryd.ntmps35
    go_wp2
    go_loopw [10] (fun i wr => ∃ k : Nat, k ≤ n ∧ i = .int .i64 k ∧ Hid (okTo xs k) ∧ Gr w wr) (fun i _ => n - (intOf i).toNat)
    case atStart => exact ⟨0, Nat.zero_le _, rfl, fun i hi => absurd hi (Nat.not_lt_zero _), Gr.refl _⟩
    case round =>
      obtain ⟨k, hk, rfl, HO, hG⟩ := hrel
      by_cases hlt : k < n
      · obtain ⟨b, off, rfl, hb, c0, c1⟩ := HX.out.at_ hlt
        have d0 := (hG.cell (p := ⟨b, off + k * 2, none⟩) hb).trans c0
        have d1 := (hG.cell (p := ⟨b, off + k * 2 + 1, none⟩) hb).trans c1
        clear c0 c1
        cases hv : okB (loA xs k) (hiA xs k)
        · go_wp2_with (go_at_call 40; refine (valid_any _ _ _).mono ?_; rintro e w' ⟨rfl, rfl⟩)
          go_ret
          rcases HE.out k hk HO.out with ⟨h1, _⟩ | ⟨_, h2⟩
          · omega
          · exact ⟨ret_int (h2 hv).symm, (hG.alloc _).alloc _⟩
        · have HS := hide (okTo_succ HO.out hv)
          go_wp2_with (go_at_call 40; refine (valid_any _ _ _).mono ?_; rintro e w' ⟨rfl, rfl⟩)
          go_roundw
          case rel => exact ⟨k + 1, by omega, by go_num, HS, (hG.alloc _).alloc _⟩
          case measure => simp [intOf]; omega
      · go_wp2
        go_ret
        rcases HE.out k hk HO.out with ⟨_, h1⟩ | ⟨h2, _⟩
        · exact ⟨ret_int h1.symm, hG⟩
        · omega

end Go.Proofs.YtfahlgjolihmkaaDoor
