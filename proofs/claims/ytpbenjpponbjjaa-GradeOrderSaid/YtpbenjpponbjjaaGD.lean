/- The specification's Below, Meet, Join; the order of grades. -/
import Derived.Test.YtpbenjpponbjjaaGC
namespace Go.Proofs.Ytpbenjpponbjjaa
open Go.RowKit Go.Sort Go.BigFrame
set_option maxHeartbeats 1000000 in
theorem rBelow_any (a b : Gd) (w : World) : Calls Try.prog 16 #[gdV a, gdV b] w fun e w' => e = .returned (.bool (belowG a b)) ∧ Gr w w' := by
  have mixed := mixedOrders
  obtain ⟨p, hp⟩ : ∃ p, w.heap.size = p := ⟨_, rfl⟩
  obtain ⟨W1, hW1⟩ : ∃ W1, (w.alloc (.cells #[.int .i64 a.1, .int .i64 a.2.1, .int .i64 a.2.2] 23)).alloc (.cells #[.int .i64 b.1, .int .i64 b.2.1, .int .i64 b.2.2] 23) = W1 := ⟨_, rfl⟩
  obtain ⟨h1, h2, h3⟩ := two_boxes a b w W1 hW1
  rw [hp] at h2 h3
  have HG := hide h1
  obtain ⟨x0, x1, x2⟩ := box3 h2
  obtain ⟨y0, y1, y2⟩ := box3 h3
  clear h1 h2 h3
  have hB : belowG a b = (decide (a.1 ≤ b.1) && (decide (a.2.1 ≤ b.2.1) && decide (a.2.2 ≤ b.2.2))) := rfl
  rw [hB]
  obtain ⟨a0, a1, a2⟩ := a
  obtain ⟨b0, b1, b2⟩ := b
  dsimp only at *
  clear hB
  by_cases h0 : a0 ≤ b0
  · rw [decide_eq_true h0]
    by_cases h1 : a1 ≤ b1
    · rw [decide_eq_true h1]
      by_cases h2 : a2 ≤ b2
      · rw [decide_eq_true h2]
        go_enter Try.func16, Try.ntmps16
        go_upto_region 1 with (fail)
        clear hW1 hp
        go_wp2_with fail
        go_ret
        exact ⟨rfl, HG.out⟩
      · rw [decide_eq_false h2]
        go_enter Try.func16, Try.ntmps16
        go_upto_region 1 with (fail)
        clear hW1 hp
        go_wp2_with fail
        go_ret
        exact ⟨rfl, HG.out⟩
    · rw [decide_eq_false h1]
      go_enter Try.func16, Try.ntmps16
      go_upto_region 1 with (fail)
      clear hW1 hp
      go_wp2_with fail
      go_ret
      exact ⟨rfl, HG.out⟩
  · rw [decide_eq_false h0]
    go_enter Try.func16, Try.ntmps16
    go_upto_region 1 with (fail)
    clear hW1 hp
    go_wp2_with fail
    go_ret
    exact ⟨rfl, HG.out⟩
set_option maxHeartbeats 1000000 in
theorem rMeet_any (a b : Gd) (w : World) : Calls Try.prog 18 #[gdV a, gdV b] w fun e w' => e = .returned (gdV (meetG a b)) ∧ Below w.heap.size w w' := by
  have mixed := mixedOrders
  obtain ⟨p, hp⟩ : ∃ p, w.heap.size = p := ⟨_, rfl⟩
  obtain ⟨W1, hW1⟩ : ∃ W1, (w.alloc (.cells #[.int .i64 a.1, .int .i64 a.2.1, .int .i64 a.2.2] 23)).alloc (.cells #[.int .i64 b.1, .int .i64 b.2.1, .int .i64 b.2.2] 23) = W1 := ⟨_, rfl⟩
  obtain ⟨W2, hW2⟩ : ∃ W2, W1.alloc (.cells #[.int .i64 0, .int .i64 0, .int .i64 0] 23) = W2 := ⟨_, rfl⟩
  obtain ⟨h1, h2, h3⟩ := two_boxes a b w W1 hW1
  have hs1 : W1.heap.size = p + 2 := by rw [← hW1, ← hp]; simp
  have hb2 : Below W1.heap.size W1 W2 := by rw [← hW2]; exact (Below.refl _ _).alloc (Nat.le_refl _) _
  rw [hp] at h2 h3
  have HBL : Hid (Below p w W2) := by have := h1.below.trans (hb2.mono h1.size); rw [hp] at this; exact this
  obtain ⟨x0, x1, x2⟩ := box3 ((hb2.block p (by omega)).trans h2)
  obtain ⟨y0, y1, y2⟩ := box3 ((hb2.block (p + 1) (by omega)).trans h3)
  have HC : W2.heap[p + 2]? = some (.cells #[.int .i64 0, .int .i64 0, .int .i64 0] 23 (0, 0)) := by rw [← hW2, ← hs1]; exact heap_alloc_new _ _
  have HP := hide hp
  obtain ⟨r, hr⟩ : ∃ r, W1.heap.size = r := ⟨_, rfl⟩
  have HR : Hid (r = p + 2) := by show r = _; omega
  rw [← hs1, hr] at HC
  obtain ⟨z0, z1, z2⟩ := box3 HC
  have f0 : ∀ k, W2.frozen? ⟨r, k, none⟩ = false := fun k => by simp [World.frozen?, HC]
  have HCC := hide HC
  clear h1 h2 h3 hs1 hb2 HC
  obtain ⟨a0, a1, a2⟩ := a
  obtain ⟨b0, b1, b2⟩ := b
  have hX : meetG (a0, a1, a2) (b0, b1, b2) = (min a0 b0, min a1 b1, min a2 b2) := rfl
  rw [hX]
  obtain ⟨m0, hm0⟩ : ∃ m, min a0 b0 = m := ⟨_, rfl⟩
  obtain ⟨m1, hm1⟩ : ∃ m, min a1 b1 = m := ⟨_, rfl⟩
  obtain ⟨m2, hm2⟩ : ∃ m, min a2 b2 = m := ⟨_, rfl⟩
  rw [hm0, hm1, hm2]
  have i0 : (if b0 < a0 then b0 else a0) = m0 := by rw [← hm0, Int.min_def]; split <;> split <;> omega
  have i1 : (if b1 < a1 then b1 else a1) = m1 := by rw [← hm1, Int.min_def]; split <;> split <;> omega
  have i2 : (if b2 < a2 then b2 else a2) = m2 := by rw [← hm2, Int.min_def]; split <;> split <;> omega
  dsimp only at *
  clear hX hm0 hm1 hm2
  go_enter Try.func18, Try.ntmps18
  go_upto_region 1 with (fail)
  clear hW1 hW2 hp hr
  go_wp2_with fail
  have HS := hide (set3 HCC.out (.int .i64 m0) (.int .i64 m1) (.int .i64 m2))
  obtain ⟨W7, hW7⟩ : ∃ W7, (((W2.setCell ⟨r, 0, none⟩ (.int .i64 m0)).setCell ⟨r, 1, none⟩ (.int .i64 m1)).setCell ⟨r, 2, none⟩ (.int .i64 m2)) = W7 := ⟨_, rfl⟩
  rw [hW7] at HS ⊢
  (try simp only [Exit.inBlock, Exit.then])
  refine bodyPost_ret (results_cell0 rfl rfl (load23 HS.out.1)) rfl ?_
  have hne := HR.out
  refine ⟨rfl, ?_⟩
  rw [HP.out]
  exact HBL.out.grown HS.out.2 (by have := (Array.getElem?_eq_some_iff.1 HCC.out).1; omega) (fun k e => by injection e with e; omega)
set_option maxHeartbeats 1000000 in
theorem rJoin_any (a b : Gd) (w : World) : Calls Try.prog 20 #[gdV a, gdV b] w fun e w' => e = .returned (gdV (joinG a b)) ∧ Below w.heap.size w w' := by
  have mixed := mixedOrders
  obtain ⟨p, hp⟩ : ∃ p, w.heap.size = p := ⟨_, rfl⟩
  obtain ⟨W1, hW1⟩ : ∃ W1, (w.alloc (.cells #[.int .i64 a.1, .int .i64 a.2.1, .int .i64 a.2.2] 23)).alloc (.cells #[.int .i64 b.1, .int .i64 b.2.1, .int .i64 b.2.2] 23) = W1 := ⟨_, rfl⟩
  obtain ⟨W2, hW2⟩ : ∃ W2, W1.alloc (.cells #[.int .i64 0, .int .i64 0, .int .i64 0] 23) = W2 := ⟨_, rfl⟩
  obtain ⟨h1, h2, h3⟩ := two_boxes a b w W1 hW1
  have hs1 : W1.heap.size = p + 2 := by rw [← hW1, ← hp]; simp
  have hb2 : Below W1.heap.size W1 W2 := by rw [← hW2]; exact (Below.refl _ _).alloc (Nat.le_refl _) _
  rw [hp] at h2 h3
  have HBL : Hid (Below p w W2) := by have := h1.below.trans (hb2.mono h1.size); rw [hp] at this; exact this
  obtain ⟨x0, x1, x2⟩ := box3 ((hb2.block p (by omega)).trans h2)
  obtain ⟨y0, y1, y2⟩ := box3 ((hb2.block (p + 1) (by omega)).trans h3)
  have HC : W2.heap[p + 2]? = some (.cells #[.int .i64 0, .int .i64 0, .int .i64 0] 23 (0, 0)) := by rw [← hW2, ← hs1]; exact heap_alloc_new _ _
  have HP := hide hp
  obtain ⟨r, hr⟩ : ∃ r, W1.heap.size = r := ⟨_, rfl⟩
  have HR : Hid (r = p + 2) := by show r = _; omega
  rw [← hs1, hr] at HC
  obtain ⟨z0, z1, z2⟩ := box3 HC
  have f0 : ∀ k, W2.frozen? ⟨r, k, none⟩ = false := fun k => by simp [World.frozen?, HC]
  have HCC := hide HC
  clear h1 h2 h3 hs1 hb2 HC
  obtain ⟨a0, a1, a2⟩ := a
  obtain ⟨b0, b1, b2⟩ := b
  have hX : joinG (a0, a1, a2) (b0, b1, b2) = (max a0 b0, max a1 b1, max a2 b2) := rfl
  rw [hX]
  obtain ⟨m0, hm0⟩ : ∃ m, max a0 b0 = m := ⟨_, rfl⟩
  obtain ⟨m1, hm1⟩ : ∃ m, max a1 b1 = m := ⟨_, rfl⟩
  obtain ⟨m2, hm2⟩ : ∃ m, max a2 b2 = m := ⟨_, rfl⟩
  rw [hm0, hm1, hm2]
  have i0 : (if a0 < b0 then b0 else a0) = m0 := by rw [← hm0, Int.max_def]; split <;> split <;> omega
  have i1 : (if a1 < b1 then b1 else a1) = m1 := by rw [← hm1, Int.max_def]; split <;> split <;> omega
  have i2 : (if a2 < b2 then b2 else a2) = m2 := by rw [← hm2, Int.max_def]; split <;> split <;> omega
  dsimp only at *
  clear hX hm0 hm1 hm2
  go_enter Try.func20, Try.ntmps20
  go_upto_region 1 with (fail)
  clear hW1 hW2 hp hr
  go_wp2_with fail
  have HS := hide (set3 HCC.out (.int .i64 m0) (.int .i64 m1) (.int .i64 m2))
  obtain ⟨W7, hW7⟩ : ∃ W7, (((W2.setCell ⟨r, 0, none⟩ (.int .i64 m0)).setCell ⟨r, 1, none⟩ (.int .i64 m1)).setCell ⟨r, 2, none⟩ (.int .i64 m2)) = W7 := ⟨_, rfl⟩
  rw [hW7] at HS ⊢
  (try simp only [Exit.inBlock, Exit.then])
  refine bodyPost_ret (results_cell0 rfl rfl (load23 HS.out.1)) rfl ?_
  have hne := HR.out
  refine ⟨rfl, ?_⟩
  rw [HP.out]
  exact HBL.out.grown HS.out.2 (by have := (Array.getElem?_eq_some_iff.1 HCC.out).1; omega) (fun k e => by injection e with e; omega)
def cmpI (a b : Int) : Int := if a < b then -1 else if b < a then 1 else 0
theorem isNaN_any (a : Int) (w : World) : Calls Try.prog 142 #[.int .i64 a] w fun e w' => e = .returned (.bool false) ∧ w' = w := by
  have hq : (a != a) = false := by simp
  go_enter Try.func142, Try.ntmps142
  go_wp2_with fail
  go_ret
  exact ⟨rfl, rfl⟩
theorem Compare_any (a b : Int) (w : World) : Calls Try.prog 123 #[.int .i64 a, .int .i64 b] w fun e w' => e = .returned (.int .i64 (cmpI a b)) ∧ w' = w := by
  have mixed := mixedOrders
  have HA := hide (isNaN_any a w)
  have HB := hide (isNaN_any b w)
  unfold cmpI
  rcases Int.lt_trichotomy a b with h | h | h
  · rw [if_pos h]
    have q1 : (a : Int) < b := h
    clear h
    go_enter Try.func123, Try.ntmps123
    go_wp2_with fail
    refine HA.out.mono ?_
    rintro e w1 ⟨rfl, rfl⟩
    go_wp2_with fail
    refine HB.out.mono ?_
    rintro e w2 ⟨rfl, rfl⟩
    go_wp2_with fail
    go_ret
    exact ⟨rfl, rfl⟩
  · rw [if_neg (by omega), if_neg (by omega)]
    subst h
    have q1 : ¬ (a : Int) < a := by omega
    go_enter Try.func123, Try.ntmps123
    go_wp2_with fail
    refine HA.out.mono ?_
    rintro e w1 ⟨rfl, rfl⟩
    go_wp2_with fail
    refine HB.out.mono ?_
    rintro e w2 ⟨rfl, rfl⟩
    go_wp2_with fail
    go_ret
    exact ⟨rfl, rfl⟩
  · rw [if_neg (by omega), if_pos h]
    have q1 : ¬ (a : Int) < b := by omega
    have q2 : (b : Int) < a := h
    clear h
    go_enter Try.func123, Try.ntmps123
    go_wp2_with fail
    refine HA.out.mono ?_
    rintro e w1 ⟨rfl, rfl⟩
    go_wp2_with fail
    refine HB.out.mono ?_
    rintro e w2 ⟨rfl, rfl⟩
    go_wp2_with fail
    go_ret
    exact ⟨rfl, rfl⟩
def cmpG (a b : Gd) : Int := if cmpI a.1 b.1 ≠ 0 then cmpI a.1 b.1 else if cmpI a.2.1 b.2.1 ≠ 0 then cmpI a.2.1 b.2.1 else cmpI a.2.2 b.2.2
theorem cmpI_zero {a b : Int} : cmpI a b = 0 ↔ a = b := by
  unfold cmpI
  split
  · constructor <;> intro h <;> omega
  · split
    · constructor <;> intro h <;> omega
    · constructor <;> intro h <;> omega
theorem cmpG_at {a b : Gd} {i : Nat} (hi : i < 3) (h : ∀ j, j < i → comp a j = comp b j) (hn : comp a i ≠ comp b i) : cmpG a b = cmpI (comp a i) (comp b i) := by
  have hz : ∀ {x y : Int}, x = y → cmpI x y = 0 := fun e => cmpI_zero.2 e
  have hcase : i = 0 ∨ i = 1 ∨ i = 2 := by omega
  unfold cmpG
  rcases hcase with rfl | rfl | rfl
  · rw [if_pos (show cmpI a.1 b.1 ≠ 0 from fun e => hn (cmpI_zero.1 e))]
    rfl
  · rw [if_neg (show ¬ cmpI a.1 b.1 ≠ 0 from fun q => q (hz (h 0 (by decide)))), if_pos (show cmpI a.2.1 b.2.1 ≠ 0 from fun e => hn (cmpI_zero.1 e))]
    rfl
  · rw [if_neg (show ¬ cmpI a.1 b.1 ≠ 0 from fun q => q (hz (h 0 (by decide)))), if_neg (show ¬ cmpI a.2.1 b.2.1 ≠ 0 from fun q => q (hz (h 1 (by decide))))]
    rfl
theorem cmpG_eq {a b : Gd} (h : ∀ j, j < 3 → comp a j = comp b j) : cmpG a b = 0 := by
  have h0 : a.1 = b.1 := h 0 (by decide)
  have h1 : a.2.1 = b.2.1 := h 1 (by decide)
  have h2 : a.2.2 = b.2.2 := h 2 (by decide)
  unfold cmpG
  rw [if_neg (fun q => q (cmpI_zero.2 h0)), if_neg (fun q => q (cmpI_zero.2 h1)), cmpI_zero.2 h2]
set_option maxHeartbeats 1000000 in
theorem sCompare_any (a b : Gd) (p q : Nat) (w : World) (hA : ∀ i, i < 3 → w.cell? ⟨p, i, none⟩ = some (.int .i64 (comp a i))) (hB : ∀ i, i < 3 → w.cell? ⟨q, i, none⟩ = some (.int .i64 (comp b i))) :
    Calls Try.prog 114 #[.slice (some ⟨p, 0, none⟩) 3 3, .slice (some ⟨q, 0, none⟩) 3 3] w fun e w' => e = .returned (.int .i64 (cmpG a b)) ∧ w' = w := by
  have mixed := mixedOrders
  have HA := hide hA
  have HB := hide hB
  clear hA hB
  go_enter Try.func114, Try.ntmps114
  go_upto_region 2 with (fail)
  go_loopw [11] (fun vi wr => ∃ i : Nat, vi = .int .i64 i ∧ i ≤ 3 ∧ Hid (∀ j, j < i → comp a j = comp b j) ∧ wr = w) (fun vi _ => 3 - (intOf vi).toNat)
  case atStart => exact ⟨0, rfl, by decide, fun j hj => absurd hj (Nat.not_lt_zero _), rfl⟩
  case round =>
    obtain ⟨i, rfl, hi, HI, rfl⟩ := hrel
    by_cases hlt : i < 3
    · have hlt' : (i : Int) < 3 := by omega
      have HL := hide hlt
      have c0 := HA.out i hlt
      have c1 := HB.out i hlt
      obtain ⟨x, hx⟩ : ∃ x, comp a i = x := ⟨_, rfl⟩
      obtain ⟨y, hy⟩ : ∃ y, comp b i = y := ⟨_, rfl⟩
      rw [hx] at c0
      rw [hy] at c1
      have HXY : Hid (comp a i = x ∧ comp b i = y) := ⟨hx, hy⟩
      have HC := hide (Compare_any x y wr)
      have hge : ¬ (3 : Int) ≤ (i : Int) := by omega
      clear hx hy hi hlt
      go_wp2_with fail
      refine HC.out.mono ?_
      rintro e w2 ⟨rfl, rfl⟩
      by_cases hxy : x = y
      · have hz : cmpI x y = 0 := cmpI_zero.2 hxy
        have HIN : Hid (∀ j, j < i + 1 → comp a j = comp b j) := fun j hj => by
          rcases Nat.lt_or_ge j i with q | q
          · exact HI.out j q
          · obtain rfl : j = i := by omega
            rw [HXY.out.1, HXY.out.2]
            exact hxy
        have HI3 : Hid (i + 1 ≤ 3) := HL.out
        rw [hz]
        clear hxy hz HC c0 c1
        go_wp2_with fail
        go_roundw
        case rel => exact ⟨i + 1, by go_num, HI3.out, HIN, by first | rfl | trivial⟩
        case measure => have := HI3.out; simp [intOf]; omega
      · have HE : Hid (cmpG a b = cmpI x y) := by
          have := cmpG_at HL.out HI.out (by rw [HXY.out.1, HXY.out.2]; exact hxy)
          rw [HXY.out.1, HXY.out.2] at this
          exact this
        have hq : (cmpI x y != 0) = true := bne_iff_ne.2 (fun e => hxy (cmpI_zero.1 e))
        clear hxy HC c0 c1
        obtain ⟨z, hz⟩ : ∃ z, cmpI x y = z := ⟨_, rfl⟩
        rw [hz] at hq HE ⊢
        clear hz
        go_wp2_with fail
        go_ret
        exact ⟨by rw [HE.out]; rfl, rfl⟩
    · obtain rfl : i = 3 := by omega
      have hd : ¬ (3 : Int) < 3 := by omega
      have HE : Hid (cmpG a b = 0) := cmpG_eq HI.out
      clear hi hlt
      go_wp2_with fail
      go_ret
      exact ⟨by rw [HE.out]; rfl, rfl⟩
set_option maxHeartbeats 1000000 in
theorem compare_any (a b : Gd) (w : World) : Calls Try.prog 101 #[gdV a, gdV b] w fun e w' => e = .returned (.int .i64 (cmpG a b)) ∧ Gr w w' := by
  have mixed := mixedOrders
  obtain ⟨p, hp⟩ : ∃ p, w.heap.size = p := ⟨_, rfl⟩
  obtain ⟨W1, hW1⟩ : ∃ W1, (w.alloc (.cells #[.int .i64 a.1, .int .i64 a.2.1, .int .i64 a.2.2] 23)).alloc (.cells #[.int .i64 b.1, .int .i64 b.2.1, .int .i64 b.2.2] 23) = W1 := ⟨_, rfl⟩
  obtain ⟨h1, h2, h3⟩ := two_boxes a b w W1 hW1
  rw [hp] at h2 h3
  have HG := hide h1
  have HC : Hid (∀ w2, Gr W1 w2 → Calls Try.prog 114 #[.slice (some ⟨p, 0, none⟩) 3 3, .slice (some ⟨p + 1, 0, none⟩) 3 3] w2 fun e w' => e = .returned (.int .i64 (cmpG a b)) ∧ w' = w2) := fun w2 hg => sCompare_any a b p (p + 1) w2 (fun i hi => by rw [← boxc h2 hi]; exact hg.cell (p := ⟨p, i, none⟩) (Array.getElem?_eq_some_iff.1 h2).1) (fun i hi => by rw [← boxc h3 hi]; exact hg.cell (p := ⟨p + 1, i, none⟩) (Array.getElem?_eq_some_iff.1 h3).1)
  clear h1 h2 h3
  obtain ⟨z, hz⟩ : ∃ z, cmpG a b = z := ⟨_, rfl⟩
  rw [hz] at HC ⊢
  have K1 : ∀ n, Calls Try.prog 114 #[.slice (some ⟨p, 0, none⟩) 3 3, .slice (some ⟨p + 1, 0, none⟩) 3 3] (W1.drewN n) fun e w' => e = .returned (.int .i64 z) ∧ ∃ m, w' = W1.drewN m := fun n => (HC.out _ ((Gr.refl W1).drewN n)).mono fun _ _ ⟨he, hw⟩ => ⟨he, n, hw⟩
  have HK := hide K1
  clear K1 hz
  go_enter Try.func101, Try.ntmps101
  go_upto_region 1 with (fail)
  clear hW1 hp
  go_quiet (first | (go_at_call 114; with_reducible exact HK.out _))
  obtain ⟨W4, hW4⟩ : ∃ W4, W1.drewN nq = W4 := ⟨_, rfl⟩
  have HG4 : Hid (Gr w W4) := by show Gr _ _; rw [← hW4]; exact HG.out.drewN nq
  rw [hW4]
  clear hW4
  go_wp2_with fail
  go_ret
  exact ⟨rfl, HG4.out⟩
end Go.Proofs.Ytpbenjpponbjjaa
