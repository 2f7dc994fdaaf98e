/- The specification's place, Lefts, sides, Levels, Follow, Included. -/
import Derived.Test.YtbinmkigolkhcaaDoorHR
import Derived.Test.YtbinmkigolkhcaaDoorZB
set_option linter.unusedSimpArgs false
set_option linter.unusedVariables false
namespace Go.Proofs.YtbinmkigolkhcaaDoor
open Go.RowKit Go.Sort
attribute [local go_sem] Oper.semAt_some

theorem place_any (i n : Int) (w : World) :
    Calls Tryd.prog 69 #[.int .i64 i, .int .i64 n] w fun e w' => e = .returned (.bool (placeB i n)) ∧ w = w' := by
  have mixed := mixedOrders
  by_cases h1 : 1 ≤ n
  · by_cases h2 : n ≤ 4096
    · by_cases h3 : 0 ≤ i
      · by_cases h4 : i < n
        · rw [show placeB i n = true from decide_eq_true (by omega)]
          go_enter Tryd.func69, Tryd.ntmps69
          go_wp2
          go_ret
          exact ⟨rfl, rfl⟩
        · rw [show placeB i n = false from decide_eq_false (by omega)]
          have g4 : decide (i < n) = false := decide_eq_false h4
          go_enter Tryd.func69, Tryd.ntmps69
          go_wp2
          go_ret
          exact ⟨rfl, rfl⟩
      · rw [show placeB i n = false from decide_eq_false (by omega)]
        go_enter Tryd.func69, Tryd.ntmps69
        go_wp2
        go_ret
        exact ⟨rfl, rfl⟩
    · rw [show placeB i n = false from decide_eq_false (by omega)]
      go_enter Tryd.func69, Tryd.ntmps69
      go_wp2
      go_ret
      exact ⟨rfl, rfl⟩
  · rw [show placeB i n = false from decide_eq_false (by omega)]
    go_enter Tryd.func69, Tryd.ntmps69
    go_wp2
    go_ret
    exact ⟨rfl, rfl⟩

set_option maxHeartbeats 2000000 in
set_option maxRecDepth 100000 in
theorem Lefts_any : ∀ (N n i : Nat) (w : World), n ≤ N → 1 ≤ n → i < n → n ≤ 1000000 → Calls Tryd.prog 95 #[.int .i64 i, .int .i64 n] w (SidesPost i n w) := by
  have mixed := mixedOrders
  obtain ⟨i0, hi0, hz0, hz1, hz2⟩ := info_parts info4
  intro N
  induction N with
  | zero => intro n i w hN h1; omega
  | succ N ih =>
    intro n i w hN h1 hi hm
    rcases Nat.lt_or_ge n 2 with hs | hs
    · obtain rfl : n = 1 := by omega
      go_enter Tryd.func95, Tryd.ntmps95
      go_wp2
      go_ret
      exact ⟨none, 0, rfl, World.ownsRow_nil _ _ _ _, Below.refl _ _⟩
    · have HH := hide (refhalf_any n hs hm w)
      obtain ⟨p1, p2⟩ := halfN_lt hs
      have z1 : ¬ (n : Int) < 2 := by omega
      rcases Nat.lt_or_ge i (halfN n) with hi2 | hi2
      · have HE := hide (sides_lo hs hi2)
        have HL := hide (sides_len i (halfN n))
        obtain ⟨m, hmm⟩ : ∃ m, halfN n = m := ⟨_, rfl⟩
        rw [hmm] at p1 p2 HH HE hi2 HL
        have IH := hide (ih m i w (by omega) p2 hi2 (by omega))
        have q1 : (i : Int) < (m : Int) := by omega
        have HB := hide (show m ≤ 1000000 by omega)
        clear ih hN h1 hi hm hs p1 p2 hi2 hmm
        unfold SidesPost at IH ⊢
        obtain ⟨L, hL⟩ : ∃ L, sidesV i m = L := ⟨_, rfl⟩
        rw [hL] at IH HE HL
        rw [HE.out]
        have hk := HL.out
        have hk2 := HB.out
        clear HE HL HB hL
        go_enter Tryd.func95, Tryd.ntmps95
        go_wp2_with fail
        refine HH.out.mono ?_
        rintro e w1 ⟨rfl, rfl⟩
        go_wp2_with fail
        refine IH.out.mono ?_
        rintro e w2 ⟨a, c, rfl, ho, hb⟩
        have hb4 : w.heap.size ≤ (w2.alloc (.cells #[.bool false] 4)).heap.size := by have := hb.size; simp; omega
        have hbb1 : L.length + 1 ≤ maxLen := by unfold maxLen; omega
        have hbb2 : (L.length + 1) * 1 ≤ 140737488355328 := by omega
        have HO := hide ho
        have HB := hide hb
        clear ho hb IH HH hk hk2
        go_wp2_with (at_builtin; refine wpList_append_own_at _ rfl (.tmp 15) (.tmp 16) _ rfl w.heap.size 4 i0 (.bool false) 1 1 Tryd.underlying116 hi0 hz0 hz1 hz2 rfl (by decide) _ _ _ rfl (HO.out.alloc _) ⟨w2.heap.size, 0, none⟩ 1 1 [.bool false] rfl rfl (cell_one_at _ _ rfl) (by simp [Value.oneCell']) hbb1 hbb2 hb4 ?_; intro v1 w5 hown1 hgrow1 hnil1 hat1)
        obtain ⟨a2, c2, rfl⟩ := own_slice hown1
        go_ret
        refine ⟨a2, c2, by rw [List.length_append]; rfl, ?_, ?_⟩
        · rw [List.length_append, cellsL_snoc]
          exact hown1
        · have h1 := HB.out.alloc HB.out.size (.cells #[.bool false] 4)
          exact h1.trans (below_own (HO.out.alloc _) hgrow1 (Nat.le_refl _) h1.size)
      · have HE := hide (sides_hi hs hi2)
        have HL := hide (sides_len (i - halfN n) (n - halfN n))
        obtain ⟨m, hmm⟩ : ∃ m, halfN n = m := ⟨_, rfl⟩
        rw [hmm] at p1 p2 HH HE hi2 HL
        have IH := hide (ih (n - m) (i - m) w (by omega) (by omega) (by omega) (by omega))
        have q1 : ¬ (i : Int) < (m : Int) := by omega
        have s1 : wrap64 ((i : Int) - (m : Int)) = ((i - m : Nat) : Int) := by rw [IntWalk.wrap64_in _ (by omega)]; omega
        have s2 : wrap64 ((n : Int) - (m : Int)) = ((n - m : Nat) : Int) := by rw [IntWalk.wrap64_in _ (by omega)]; omega
        have HB := hide (show n - m ≤ 1000000 by omega)
        obtain ⟨n2, hn2⟩ : ∃ n2, n - m = n2 := ⟨_, rfl⟩
        obtain ⟨i2, hi3⟩ : ∃ i2, i - m = i2 := ⟨_, rfl⟩
        rw [hn2] at IH s2 HB HE HL
        rw [hi3] at IH s1 HE HL
        clear ih hN h1 hi hm hs p1 p2 hi2 hmm hn2 hi3
        unfold SidesPost at IH ⊢
        obtain ⟨L, hL⟩ : ∃ L, sidesV i2 n2 = L := ⟨_, rfl⟩
        rw [hL] at IH HE HL
        rw [HE.out]
        have hk := HL.out
        have hk2 := HB.out
        clear HE HL HB hL
        go_enter Tryd.func95, Tryd.ntmps95
        go_wp2_with fail
        refine HH.out.mono ?_
        rintro e w1 ⟨rfl, rfl⟩
        go_wp2_with fail
        refine IH.out.mono ?_
        rintro e w2 ⟨a, c, rfl, ho, hb⟩
        have hb4 : w.heap.size ≤ (w2.alloc (.cells #[.bool true] 4)).heap.size := by have := hb.size; simp; omega
        have hbb1 : L.length + 1 ≤ maxLen := by unfold maxLen; omega
        have hbb2 : (L.length + 1) * 1 ≤ 140737488355328 := by omega
        have HO := hide ho
        have HB := hide hb
        clear ho hb IH HH hk hk2
        go_wp2_with (at_builtin; refine wpList_append_own_at _ rfl (.tmp 24) (.tmp 25) _ rfl w.heap.size 4 i0 (.bool false) 1 1 Tryd.underlying116 hi0 hz0 hz1 hz2 rfl (by decide) _ _ _ rfl (HO.out.alloc _) ⟨w2.heap.size, 0, none⟩ 1 1 [.bool true] rfl rfl (cell_one_at _ _ rfl) (by simp [Value.oneCell']) hbb1 hbb2 hb4 ?_; intro v1 w5 hown1 hgrow1 hnil1 hat1)
        obtain ⟨a2, c2, rfl⟩ := own_slice hown1
        go_ret
        refine ⟨a2, c2, by rw [List.length_append]; rfl, ?_, ?_⟩
        · rw [List.length_append, cellsL_snoc]
          exact hown1
        · have h1 := HB.out.alloc HB.out.size (.cells #[.bool true] 4)
          exact h1.trans (below_own (HO.out.alloc _) hgrow1 (Nat.le_refl _) h1.size)

set_option maxHeartbeats 2000000 in
set_option maxRecDepth 100000 in
theorem refSides_any (i n : Nat) (S : Option Addr) (m d : Nat) (ss : List St) (w : World) (h1 : i < n) (h2 : n ≤ 1000000) (hs : StepsAt w.heap.size w S m ss) (hm : m ≤ 1000000) :
    Calls Tryd.prog 70 #[.int .i64 i, .int .i64 n, .slice S m d] w fun e w' => e = .returned (.bool (leadB ss (sidesV i n))) ∧ Below w.heap.size w w' := by
  have mixed := mixedOrders
  have HC := hide (Lefts_any n n i w (Nat.le_refl _) (by omega) h1 h2)
  have HS := hide hs
  have HL := hide (sides_len i n)
  have l1 := hs.1
  clear hs
  unfold SidesPost at HC
  obtain ⟨L, hL⟩ : ∃ L, sidesV i n = L := ⟨_, rfl⟩
  rw [hL] at HC HL ⊢
  obtain ⟨p, hp⟩ : ∃ p, L.length = p := ⟨_, rfl⟩
  rw [hp] at HC HL
  have HP := hide (And.intro (show p ≤ 1000000 by have := HL.out; omega) hm)
  have HL1 := hide (And.intro l1 hp)
  clear hL h1 h2 HL hm l1 hp
  by_cases hpm : p = m
  · subst hpm
    go_enter Tryd.func70, Tryd.ntmps70
    go_wp2_with fail
    refine HC.out.mono ?_
    rintro e w1 ⟨a, c, rfl, ho, hb⟩
    have HB := hide hb
    have HQ := hide (bools_of_own ho)
    have HS1 := hide (HS.out.now hb (Nat.le_refl _))
    clear ho hb HC
    go_wp2_with fail
    go_loopw [8] (fun vi wr => ∃ i : Nat, i ≤ p ∧ vi = .int .i64 i ∧ Hid ((∀ j, j < i → stL ss j = L.getD j false) ∧ ∃ k, wr = w1.drewN k)) (fun vi _ => p - (intOf vi).toNat)
    case atStart => exact ⟨0, Nat.zero_le _, rfl, fun j hj => absurd hj (Nat.not_lt_zero _), 0, rfl⟩
    case round =>
      obtain ⟨i, hi, rfl, HI⟩ := hrel
      obtain ⟨kk, rfl⟩ := HI.out.2
      have HA := hide HI.out.1
      by_cases hlt : i < p
      · have hlt' : (i : Int) < (p : Int) := by omega
        obtain ⟨b, off, rfl, hb, c0, c1, -⟩ := HS1.out.at_ hlt
        obtain ⟨b2, off2, rfl, hb2, c2⟩ := HQ.out.at_ hlt
        obtain ⟨y, hyy⟩ : ∃ y, stL ss i = y := ⟨_, rfl⟩
        obtain ⟨z, hzz⟩ : ∃ z, L.getD i false = z := ⟨_, rfl⟩
        rw [hyy] at c1
        rw [hzz] at c2
        have c1q : ∀ nq, (w1.drewN nq).cell? ⟨b, off + i * 2 + 1, none⟩ = some (.bool y) := fun _ => c1
        have c2q : ∀ nq, (w1.drewN nq).cell? ⟨b2, off2 + i, none⟩ = some (.bool z) := fun _ => c2
        have HY := hide (And.intro hyy hzz)
        have hpb := HP.out.1
        have HI1 := hide hi
        clear hyy hzz c0 c1 c2 hi
        by_cases hyz : y = z
        · have HYZ : Hid (stL ss i = L.getD i false) := by show stL ss i = _; rw [HY.out.1, HY.out.2]; exact hyz
          have HLT := hide hlt
          subst hyz
          clear hlt HY
          cases y
          all_goals
            go_wp2_with fail
            go_quiet (fail)
            go_wp2_with fail
            go_roundw
            case measure => have := HLT.out; simp [intOf]; omega
            refine ⟨i + 1, by have := HLT.out; omega, by go_num, ?_⟩
            refine ⟨fun j hj => ?_, _, rfl⟩
            rcases Nat.lt_or_ge j i with h | h
            · exact HA.out j h
            · obtain rfl : j = i := by omega
              exact HYZ.out
        · have HR := hide (lead_ne (ss := ss) (l := L) (i := i) (by rw [HL1.out.1]; exact hlt) (by rw [HL1.out.2]; exact hlt) (by rw [HY.out.1, HY.out.2]; exact hyz))
          clear hlt HY
          cases y <;> cases z <;> try exact absurd rfl hyz
          all_goals
            clear hyz
            go_wp2_with fail
            go_quiet (fail)
            go_wp2_with fail
            go_ret
            refine ⟨by rw [HR.out]; rfl, HB.out.trans ?_⟩
            (try rw [World.drewN_drewN])
            exact ((Gr.refl w1).drewN _).below.mono HB.out.size
      · obtain rfl : i = p := by omega
        have HR := hide (lead_all (ss := ss) (l := L) (by rw [HL1.out.1, HL1.out.2]) (by rw [HL1.out.1]; exact HA.out))
        go_wp2_with fail
        go_ret
        exact ⟨by rw [HR.out]; rfl, HB.out.trans (((Gr.refl w1).drewN _).below.mono HB.out.size)⟩
  · have z1 : ((p : Int) != (m : Int)) = true := bne_iff_ne.2 (by omega)
    rw [lead_len (by have := HL1.out.1; have := HL1.out.2; omega)]
    go_enter Tryd.func70, Tryd.ntmps70
    go_wp2_with fail
    refine HC.out.mono ?_
    rintro e w1 ⟨a, c, rfl, ho, hb⟩
    have HB := hide hb
    clear ho hb HC
    go_wp2_with fail
    go_ret
    exact ⟨rfl, HB.out⟩
end Go.Proofs.YtbinmkigolkhcaaDoor
