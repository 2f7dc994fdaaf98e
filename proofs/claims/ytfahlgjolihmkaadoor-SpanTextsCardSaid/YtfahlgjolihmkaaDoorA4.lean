/- Contracts of same, alike. -/
import Derived.Test.YtfahlgjolihmkaaDoorA3
namespace Go.Proofs.YtfahlgjolihmkaaDoor
open Go.RowKit Go.Sort

theorem spans_ext {xs ys : List Sp} (hl : xs.length = ys.length) (h : ∀ k, k < xs.length → loA xs k = loA ys k ∧ hiA xs k = hiA ys k) : xs = ys := by
  refine List.ext_getElem hl fun i h1 h2 => ?_
  have := h i h1
  simp only [loA, hiA, List.getD_eq_getElem?_getD, List.getElem?_eq_getElem h1, List.getElem?_eq_getElem h2, Option.getD_some] at this
  exact Prod.ext this.1 this.2

theorem differ_false {xs ys : List Sp} {k : Nat} (h : ¬ (loA xs k = loA ys k ∧ hiA xs k = hiA ys k)) : decide (xs = ys) = false :=
  decide_eq_false fun e => h (by rw [e]; exact ⟨rfl, rfl⟩)
theorem differ_ints {xs ys : List Int} {k : Nat} (h : iA xs k ≠ iA ys k) : decide (xs = ys) = false :=
  decide_eq_false fun e => h (by rw [e])
theorem ints_ext {xs ys : List Int} (hl : xs.length = ys.length) (h : ∀ k, k < xs.length → iA xs k = iA ys k) : xs = ys := by
  refine List.ext_getElem hl fun i h1 h2 => ?_
  have := h i h1
  simpa only [iA, List.getD_eq_getElem?_getD, List.getElem?_eq_getElem h1, List.getElem?_eq_getElem h2, Option.getD_some] using this

set_option maxHeartbeats 400000 in
set_option maxRecDepth 100000 in
theorem same_any (A A' : Option Addr) (n cap m cap' : Nat) (xs ys : List Sp) (w : World) (hx : SpansAt w.heap.size w A n xs) (hy : SpansAt w.heap.size w A' m ys) (hn : n ≤ 1000000) (hm : m ≤ 1000000) :
    Calls Tryd.prog 11 #[.slice A n cap, .slice A' m cap'] w fun e w' => e = .returned (.bool (decide (xs = ys))) ∧ ∃ q, w' = w.drewN q := by
  have mixed := mixedOrders
  by_cases hnm : n = m
  · subst hnm
    have HX := hide hx
    have HY := hide hy
    clear hx hy
    go_enter Tryd.func11, Tryd.ntmps11
    go_wp2
    go_loopw [5] (fun i wr => ∃ k : Nat, k ≤ n ∧ i = .int .i64 k ∧ Hid (∀ j, j < k → loA xs j = loA ys j ∧ hiA xs j = hiA ys j) ∧ Hid (∃ q, wr = w.drewN q)) (fun i _ => n - (intOf i).toNat)
    case atStart => exact ⟨0, Nat.zero_le _, rfl, fun j hj => absurd hj (Nat.not_lt_zero _), ⟨0, rfl⟩⟩
    case round =>
      obtain ⟨k, hk, rfl, HN, HW⟩ := hrel
      by_cases hlt : k < n
      · obtain ⟨b, off, rfl, hb, c0, c1⟩ := HX.out.at_ hlt
        obtain ⟨b', off', rfl, hb', c0', c1'⟩ := HY.out.at_ hlt
        have hlt' : (k : Int) < (n : Int) := by omega
        have E0 : ∀ nq, (wr.drewN nq).cell? ⟨b, off + k * 2, none⟩ = some (.int .i64 (loA xs k)) := fun nq => by obtain ⟨q, rfl⟩ := HW.out; exact c0
        have E1 : ∀ nq, (wr.drewN nq).cell? ⟨b, off + k * 2 + 1, none⟩ = some (.int .i64 (hiA xs k)) := fun nq => by obtain ⟨q, rfl⟩ := HW.out; exact c1
        have E2 : ∀ nq, (wr.drewN nq).cell? ⟨b', off' + k * 2, none⟩ = some (.int .i64 (loA ys k)) := fun nq => by obtain ⟨q, rfl⟩ := HW.out; exact c0'
        have E3 : ∀ nq, (wr.drewN nq).cell? ⟨b', off' + k * 2 + 1, none⟩ = some (.int .i64 (hiA ys k)) := fun nq => by obtain ⟨q, rfl⟩ := HW.out; exact c1'
        clear c0 c1 c0' c1'
        by_cases h1 : loA xs k = loA ys k
        · have b1 : (loA xs k == loA ys k) = true := beq_iff_eq.2 h1
          by_cases h2 : hiA xs k = hiA ys k
          · have b2 : (hiA xs k == hiA ys k) = true := beq_iff_eq.2 h2
            have HS : Hid (∀ j, j < k + 1 → loA xs j = loA ys j ∧ hiA xs j = hiA ys j) := by
              intro j hj
              rcases Nat.lt_or_ge j k with h | h
              · exact HN.out j h
              · obtain rfl : j = k := by omega
                exact ⟨h1, h2⟩
            clear h1 h2
            go_wp2_with fail
            go_quiet (fail)
            go_wp2
            go_roundw
            case rel => exact ⟨k + 1, by omega, by go_num, HS, by obtain ⟨q, rfl⟩ := HW.out; exact ⟨q + nq, World.drewN_drewN _ _ _⟩⟩
            case measure => simp [intOf]; omega
          · have b2 : (hiA xs k == hiA ys k) = false := beq_eq_false_iff_ne.2 h2
            have HD := hide (differ_false (xs := xs) (ys := ys) (k := k) (fun e => h2 e.2))
            clear h1 h2
            go_wp2_with fail
            go_quiet (fail)
            go_wp2
            go_ret
            exact ⟨ret_bool HD.out.symm, by obtain ⟨q, rfl⟩ := HW.out; exact ⟨q + nq, World.drewN_drewN _ _ _⟩⟩
        · have b1 : (loA xs k == loA ys k) = false := beq_eq_false_iff_ne.2 h1
          have HD := hide (differ_false (xs := xs) (ys := ys) (k := k) (fun e => h1 e.1))
          clear h1
          go_wp2_with fail
          go_quiet (fail)
          go_wp2
          go_ret
          exact ⟨ret_bool HD.out.symm, by obtain ⟨q, rfl⟩ := HW.out; exact ⟨q + nq, World.drewN_drewN _ _ _⟩⟩
      · have HD := hide (spans_ext (xs := xs) (ys := ys) (by rw [HX.out.1, HY.out.1]) (fun j hj => HN.out j (by have := HX.out.1; omega)))
        go_wp2
        go_ret
        exact ⟨ret_bool (decide_eq_true HD.out).symm, HW.out⟩
  · have HD : Hid (xs ≠ ys) := by
      intro e
      exact hnm (by rw [← hx.1, ← hy.1, e])
    clear hx hy
    have hb : ((n : Int) == (m : Int)) = false := beq_eq_false_iff_ne.2 (by omega)
    have hb' : ((n : Int) != (m : Int)) = true := by rw [bne_iff_ne]; omega
    go_enter Tryd.func11, Tryd.ntmps11
    go_wp2
    go_ret
    exact ⟨ret_bool (decide_eq_false HD.out).symm, 0, rfl⟩


set_option maxHeartbeats 400000 in
set_option maxRecDepth 100000 in
theorem alike_any (A A' : Option Addr) (n cap m cap' : Nat) (xs ys : List Int) (w : World) (hx : IntsAt w.heap.size w A n xs) (hy : IntsAt w.heap.size w A' m ys) (hn : n ≤ 1000000) (hm : m ≤ 1000000) :
    Calls Tryd.prog 21 #[.slice A n cap, .slice A' m cap'] w fun e w' => e = .returned (.bool (decide (xs = ys))) ∧ ∃ q, w' = w.drewN q := by
  have mixed := mixedOrders
  by_cases hnm : n = m
  · subst hnm
    have HX := hide hx
    have HY := hide hy
    clear hx hy
    go_enter Tryd.func21, Tryd.ntmps21
    go_wp2
    go_loopw [5] (fun i wr => ∃ k : Nat, k ≤ n ∧ i = .int .i64 k ∧ Hid (∀ j, j < k → iA xs j = iA ys j) ∧ Hid (∃ q, wr = w.drewN q)) (fun i _ => n - (intOf i).toNat)
    case atStart => exact ⟨0, Nat.zero_le _, rfl, fun j hj => absurd hj (Nat.not_lt_zero _), ⟨0, rfl⟩⟩
    case round =>
      obtain ⟨k, hk, rfl, HN, HW⟩ := hrel
      by_cases hlt : k < n
      · obtain ⟨b, off, rfl, hb, c0⟩ := HX.out.at_ hlt
        obtain ⟨b', off', rfl, hb', c0'⟩ := HY.out.at_ hlt
        have hlt' : (k : Int) < (n : Int) := by omega
        have E0 : ∀ nq, (wr.drewN nq).cell? ⟨b, off + k, none⟩ = some (.int .i64 (iA xs k)) := fun nq => by obtain ⟨q, rfl⟩ := HW.out; exact c0
        have E2 : ∀ nq, (wr.drewN nq).cell? ⟨b', off' + k, none⟩ = some (.int .i64 (iA ys k)) := fun nq => by obtain ⟨q, rfl⟩ := HW.out; exact c0'
        clear c0 c0'
        by_cases h1 : iA xs k = iA ys k
        · have b1 : (iA xs k == iA ys k) = true := beq_iff_eq.2 h1
          have b2 : (iA xs k != iA ys k) = false := by rw [h1]; simp
          have HS : Hid (∀ j, j < k + 1 → iA xs j = iA ys j) := by
            intro j hj
            rcases Nat.lt_or_ge j k with h | h
            · exact HN.out j h
            · obtain rfl : j = k := by omega
              exact h1
          clear h1
          go_wp2_with fail
          go_quiet (fail)
          go_wp2
          go_roundw
          case rel => exact ⟨k + 1, by omega, by go_num, HS, by obtain ⟨q, rfl⟩ := HW.out; exact ⟨q + nq, World.drewN_drewN _ _ _⟩⟩
          case measure => simp [intOf]; omega
        · have b1 : (iA xs k == iA ys k) = false := beq_eq_false_iff_ne.2 h1
          have b2 : (iA xs k != iA ys k) = true := by rw [bne_iff_ne]; exact h1
          have HD := hide (differ_ints (xs := xs) (ys := ys) (k := k) h1)
          clear h1
          go_wp2_with fail
          go_quiet (fail)
          go_wp2
          go_ret
          exact ⟨ret_bool HD.out.symm, by obtain ⟨q, rfl⟩ := HW.out; exact ⟨q + nq, World.drewN_drewN _ _ _⟩⟩
      · have HD := hide (ints_ext (xs := xs) (ys := ys) (by rw [HX.out.1, HY.out.1]) (fun j hj => HN.out j (by have := HX.out.1; omega)))
        go_wp2
        go_ret
        exact ⟨ret_bool (decide_eq_true HD.out).symm, HW.out⟩
  · have HD : Hid (xs ≠ ys) := by
      intro e
      exact hnm (by rw [← hx.1, ← hy.1, e])
    clear hx hy
    have hb : ((n : Int) == (m : Int)) = false := beq_eq_false_iff_ne.2 (by omega)
    have hb' : ((n : Int) != (m : Int)) = true := by rw [bne_iff_ne]; omega
    go_enter Tryd.func21, Tryd.ntmps21
    go_wp2
    go_ret
    exact ⟨ret_bool (decide_eq_false HD.out).symm, 0, rfl⟩

end Go.Proofs.YtfahlgjolihmkaaDoor
