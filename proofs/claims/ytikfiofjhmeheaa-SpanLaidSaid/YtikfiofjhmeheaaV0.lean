/- The walk of the law on covers. -/
import Derived.Test.YtikfiofjhmeheaaQ1
namespace Go.Proofs.Ytikfiofjhmeheaa
open Go.RowKit Go.Sort

theorem Below.toGrown {w w' : World} (h : Below w.heap.size w w') (row : Option Nat) : w.grownBy w' row :=
  ⟨h.os, h.tape, h.output, h.size, fun k hk _ => h.block k hk⟩
theorem Mark.below {w w' : World} {base g n : Nat} {xs : List Sp} (h : Mark w base g n xs) (hb : Below w.heap.size w w') : Mark w' base g n xs :=
  World.ownsRow.kept h (Below.toGrown hb none) (.inr (by simp [Value.ownBlock]))
theorem drewN_below (w : World) (q : Nat) : Below w.heap.size w (w.drewN q) := ((Gr.refl w).drewN q).below

/-- what the law leaves -/
def LawPost (w : World) (e : Ending) (w' : World) : Prop := e = .returned (.bool true) ∧ Below w.heap.size w w'

set_option maxHeartbeats 400000 in
set_option maxRecDepth 100000 in
theorem alike_wide (A A' : Option Addr) (n cap m cap' : Nat) (xs ys : List Int) (w : World) (hx : IntsAt w.heap.size w A n xs) (hy : IntsAt w.heap.size w A' m ys) (hn : n ≤ 4398046511104) (hm : m ≤ 4398046511104) :
    Calls Try.prog 46 #[.slice A n cap, .slice A' m cap'] w fun e w' => e = .returned (.bool (decide (xs = ys))) ∧ ∃ q, w' = w.drewN q := by
  have mixed := mixedOrders
  by_cases hnm : n = m
  · subst hnm
    have HX := hide hx
    have HY := hide hy
    clear hx hy
    go_enter Try.func46, Try.ntmps46
    go_wp2
    go_loopw [5] (fun i wr => ∃ k : Nat, k ≤ n ∧ i = .int .i64 k ∧ Hid (∀ j, j < k → iA xs j = iA ys j) ∧ Hid (∃ q, wr = w.drewN q)) (fun i _ => n - (intOf i).toNat)
    case atStart => exact ⟨0, Nat.zero_le _, rfl, fun j hj => absurd hj (Nat.not_lt_zero _), ⟨0, rfl⟩⟩
    case round =>
      obtain ⟨k, hk, rfl, HN, HW⟩ := hrel
      by_cases hlt : k < n
      · obtain ⟨b, off, rfl, hb, c0⟩ := HX.out.at_ hlt
        obtain ⟨b', off', rfl, hb', c0'⟩ := HY.out.at_ hlt
        have hlt' : (k : Int) < (n : Int) := by omega
        have E0 : ∀ nq, (wr.drewN nq).cell? ⟨b, off + k, none⟩ = some (.int .i64 (iA xs k)) := fun nq => by obtain ⟨q, rfl⟩ := HW.out; exact c0
        have E2 : ∀ nq, (wr.drewN nq).cell? ⟨b', off' + k, none⟩ = some (.int .i64 (iA ys k)) := fun nq => by obtain ⟨q, rfl⟩ := HW.out; exact c0'
        clear c0 c0'
        by_cases h1 : iA xs k = iA ys k
        · have b1 : (iA xs k == iA ys k) = true := beq_iff_eq.2 h1
          have b2 : (iA xs k != iA ys k) = false := by rw [h1]; simp
          have HS : Hid (∀ j, j < k + 1 → iA xs j = iA ys j) := by
            intro j hj
            rcases Nat.lt_or_ge j k with h | h
            · exact HN.out j h
            · obtain rfl : j = k := by omega
              exact h1
          clear h1
          go_wp2_with fail
          go_quiet (fail)
          go_wp2
          go_roundw
          case rel => exact ⟨k + 1, by omega, by go_num, HS, by obtain ⟨q, rfl⟩ := HW.out; exact ⟨q + nq, World.drewN_drewN _ _ _⟩⟩
          case measure => simp [intOf]; omega
        · have b1 : (iA xs k == iA ys k) = false := beq_eq_false_iff_ne.2 h1
          have b2 : (iA xs k != iA ys k) = true := by rw [bne_iff_ne]; exact h1
          have HD := hide (differ_ints (xs := xs) (ys := ys) (k := k) h1)
          clear h1
          go_wp2_with fail
          go_quiet (fail)
          go_wp2
          go_ret
          exact ⟨ret_bool HD.out.symm, by obtain ⟨q, rfl⟩ := HW.out; exact ⟨q + nq, World.drewN_drewN _ _ _⟩⟩
      · have HD := hide (ints_ext (xs := xs) (ys := ys) (by rw [HX.out.1, HY.out.1]) (fun j hj => HN.out j (by have := HX.out.1; omega)))
        go_wp2
        go_ret
        exact ⟨ret_bool (decide_eq_true HD.out).symm, HW.out⟩
  · have HD : Hid (xs ≠ ys) := by
      intro e
      exact hnm (by rw [← hx.1, ← hy.1, e])
    clear hx hy
    have hb : ((n : Int) == (m : Int)) = false := beq_eq_false_iff_ne.2 (by omega)
    have hb' : ((n : Int) != (m : Int)) = true := by rw [bne_iff_ne]; omega
    go_enter Try.func46, Try.ntmps46
    go_wp2
    go_ret
    exact ⟨ret_bool (decide_eq_false HD.out).symm, 0, rfl⟩

theorem covL_length (xs : List Sp) (tlo thi : Int) : (covT xs tlo thi).length ≤ 4398046511104 ∧ (covS xs tlo thi).length ≤ 4398046511104 := by
  by_cases h : covE xs tlo thi = 0
  · have h1 := runF_length xs thi (thi - tlo).toNat tlo
    have ht : okB tlo thi = true := by
      by_cases ht : okB tlo thi = true
      · exact ht
      · have : covE xs tlo thi = 2 := by unfold covE; rw [if_pos (by simpa using ht)]
        omega
    obtain ⟨a, b, c⟩ := okB_true ht
    unfold covT covS covL
    rw [if_pos h, if_pos h, List.length_map, List.length_map]
    omega
  · unfold covT covS
    rw [if_neg h, if_neg h]
    simp

set_option maxHeartbeats 2000000 in
set_option maxRecDepth 100000 in
theorem covers_law (tlo thi : Int) (A : Option Addr) (n cap : Nat) (xs : List Sp) (w : World) (hx : SpansAt w.heap.size w A n xs) :
    Calls Try.prog 7 #[.agg #[.int .i64 tlo, .int .i64 thi], .slice A n cap] w (LawPost w) := by
  obtain ⟨W1, hW1⟩ : ∃ W1, w.alloc (.cells #[.int .i64 tlo, .int .i64 thi] 42) = W1 := ⟨_, rfl⟩
  have hB1 : Below w.heap.size w W1 := by rw [← hW1]; exact (Below.refl _ w).alloc (Nat.le_refl _) _
  have hT0 : W1.cell? ⟨w.heap.size, 0, none⟩ = some (.int .i64 tlo) ∧ W1.cell? ⟨w.heap.size, 1, none⟩ = some (.int .i64 thi) ∧ w.heap.size < W1.heap.size := by
    rw [← hW1]
    exact ⟨by simp, by simp, by simp⟩
  have HT := hide hT0
  have HB1 := hide hB1
  have HX1 := hide (hx.now hB1 (Nat.le_refl _))
  clear hx hB1 hT0
  go_enter Try.func7, Try.ntmps7
  go_wp2_with fail
  refine (few_any A n cap W1).mono ?_
  rintro e w2 ⟨rfl, rfl⟩
  by_cases hn : (n : Int) ≤ 140
  · have hd : decide ((n : Int) ≤ 140) = true := decide_eq_true hn
    have hn' : n ≤ 1000000 := by omega
    go_wp2_with fail
    refine (own_any A n cap xs W1 HX1.out hn').mono ?_
    rintro e w2 ⟨rfl, hm, hb⟩
    obtain ⟨hs2, -, -, hg1, hg2⟩ := hm.spans HX1.out.1
    have HM2 := hide hm
    have HS2 := hide hs2
    have HX2 := hide (HX1.out.now hb (Nat.le_refl _))
    have HB2 := hide (HB1.out.trans (hb.mono HB1.out.size))
    have t0 := (hb.cell (p := ⟨w.heap.size, 0, none⟩) HT.out.2.2).trans HT.out.1
    have t1 := (hb.cell (p := ⟨w.heap.size, 1, none⟩) HT.out.2.2).trans HT.out.2.1
    have HT2 : Hid (w2.cell? ⟨w.heap.size, 0, none⟩ = some (.int .i64 tlo) ∧ w2.cell? ⟨w.heap.size, 1, none⟩ = some (.int .i64 thi) ∧ w.heap.size < w2.heap.size) := ⟨t0, t1, Nat.lt_of_lt_of_le HT.out.2.2 hb.size⟩
    generalize W1.heap.size = g at HM2 HS2 hg1 hg2 ⊢
    clear hm hb hs2 HT HB1 HX1 hW1 hg1 hg2
    go_wp2_with fail
    refine (Cover_any tlo thi _ n (n + 1) xs w2 HS2.out).mono ?_
    rintro e w3 ⟨A3, n3, c3, rfl, hi3, hb⟩
    have HM3 := hide (HM2.out.below hb)
    have HS3 := hide (HS2.out.now hb (Nat.le_refl _))
    have HX3 := hide (HX2.out.now hb (Nat.le_refl _))
    have HB3 := hide (HB2.out.trans (hb.mono HB2.out.size))
    have u0 := (hb.cell (p := ⟨w.heap.size, 0, none⟩) HT2.out.2.2).trans HT2.out.1
    have u1 := (hb.cell (p := ⟨w.heap.size, 1, none⟩) HT2.out.2.2).trans HT2.out.2.1
    have HT3 : Hid (w3.cell? ⟨w.heap.size, 0, none⟩ = some (.int .i64 tlo) ∧ w3.cell? ⟨w.heap.size, 1, none⟩ = some (.int .i64 thi) ∧ w.heap.size < w3.heap.size) := ⟨u0, u1, Nat.lt_of_lt_of_le HT2.out.2.2 hb.size⟩
    have HI3 := hide hi3
    clear t0 t1 hb hi3 HM2 HS2 HX2 HB2 HT2
    go_wp2_with fail
    refine (Apart_any tlo thi _ n (n + 1) xs w3 HS3.out).mono ?_
    rintro e w4 ⟨A4, n4, c4, rfl, hi4, hb⟩
    have HM4 := hide (HM3.out.below hb)
    have HX4 := hide (HX3.out.now hb (Nat.le_refl _))
    have HB4 := hide (HB3.out.trans (hb.mono HB3.out.size))
    have t0 := (hb.cell (p := ⟨w.heap.size, 0, none⟩) HT3.out.2.2).trans HT3.out.1
    have t1 := (hb.cell (p := ⟨w.heap.size, 1, none⟩) HT3.out.2.2).trans HT3.out.2.1
    have HI3b := hide (HI3.out.now hb (Nat.le_refl _))
    have HI4 := hide hi4
    clear u0 u1 hb hi4 HM3 HS3 HX3 HB3 HT3 HI3
    go_wp2_with fail
    refine (steps_ref tlo thi A n cap xs w4 HX4.out).mono ?_
    rintro e w5 ⟨A5, A6, n5, c5, n6, c6, rfl, hi5, hi6, hb⟩
    have HM5 := hide (HM4.out.below hb)
    have HX5 := hide (HX4.out.now hb (Nat.le_refl _))
    have HB5 := hide (HB4.out.trans (hb.mono HB4.out.size))
    have HI3c := hide (HI3b.out.now hb (Nat.le_refl _))
    have HI4c := hide (HI4.out.now hb (Nat.le_refl _))
    have HI5 := hide hi5
    have HI6 := hide hi6
    clear t0 t1 hb hi5 hi6 HM4 HX4 HB4 HI3b HI4
    have hL := covL_length xs tlo thi
    have HA := hide (alike_wide A3 A5 n3 c3 n5 c5 _ _ w5 HI3c.out HI5.out (by rw [← HI3c.out.1]; exact hL.1) (by rw [← HI5.out.1]; exact hL.1))
    have HB := hide (fun q => alike_wide A4 A6 n4 c4 n6 c6 _ _ (w5.drewN q) (HI4c.out.now (drewN_below w5 q) (Nat.le_refl _)) (HI6.out.now (drewN_below w5 q) (Nat.le_refl _)) (by rw [← HI4c.out.1]; exact hL.2) (by rw [← HI6.out.1]; exact hL.2))
    clear hL HI3c HI4c HI5 HI6
    rw [decide_eq_true rfl] at HA
    have HB' : Hid (∀ q, Calls Try.prog 46 #[.slice A4 n4 c4, .slice A6 n6 c6] (w5.drewN q) fun e w' => e = .returned (.bool true) ∧ ∃ r, w' = (w5.drewN q).drewN r) := fun q => by have := HB.out q; rw [decide_eq_true rfl] at this; exact this
    clear HB
    generalize hce : covE xs tlo thi = ce
    clear hce
    go_wp2_with fail
    refine HA.out.mono ?_
    rintro e w6 ⟨rfl, q, rfl⟩
    go_wp2_with fail
    refine (HB'.out q).mono ?_
    rintro e w6 ⟨rfl, r, rfl⟩
    clear HA HB'
    have HK := hide (kept_any A n cap g g xs ((w5.drewN q).drewN r) ((HX5.out.now (drewN_below _ q) (Nat.le_refl _)).now (drewN_below _ r) (Nat.le_refl _)) ((HM5.out.below (drewN_below _ q)).below (drewN_below _ r)) hn')
    have HB6 := hide ((HB5.out.trans ((drewN_below w5 q).mono HB5.out.size)).trans ((drewN_below (w5.drewN q) r).mono HB5.out.size))
    clear HB5 HX5 HM5
    generalize (w5.drewN q).drewN r = w6 at HK HB6 ⊢
    go_wp2_with fail
    refine HK.out.mono ?_
    rintro e w7 ⟨rfl, hb⟩
    have HB7 := hide (HB6.out.trans (hb.mono HB6.out.size))
    clear hb HB6 HK
    go_wp2_with fail
    refine (alive_any w7).mono ?_
    rintro e w8 ⟨rfl, hb⟩
    have HB8 := hide (HB7.out.trans (hb.mono HB7.out.size))
    clear hb HB7
    go_wp2
    go_ret
    exact ⟨rfl, HB8.out⟩
  · have hd : decide ((n : Int) ≤ 140) = false := decide_eq_false hn
    go_wp2_with fail
    refine (alive_any W1).mono ?_
    rintro e w8 ⟨rfl, hb⟩
    have HB8 := hide (HB1.out.trans (hb.mono HB1.out.size))
    clear hb HB1 HX1 HT
    go_wp2
    go_ret
    exact ⟨rfl, HB8.out⟩

end Go.Proofs.Ytikfiofjhmeheaa
