/- The specification's Extended; ProofJudges. -/
import Derived.Test.YtbinmkigolkhcaaDoorIA
import Derived.Test.YtbinmkigolkhcaaDoorHZ
import Derived.Test.YtbinmkigolkhcaaDoorHU
set_option linter.unusedSimpArgs false
set_option linter.unusedVariables false
namespace Go.Proofs.YtbinmkigolkhcaaDoor
open Go.RowKit Go.Sort
attribute [local go_sem] Oper.semAt_some

set_option maxHeartbeats 2000000 in
set_option maxRecDepth 100000 in
theorem refExtended_any (m n : Int) (old root : Nat) (A : Option Addr) (k c : Nat) (hs : List Nat) (w : World) (hx : HashesAt w.heap.size w A k hs) (hk : k ≤ 1000000) (ho : old < 18446744073709551616) :
    Calls Tryd.prog 37 #[.int .i64 m, .int .i64 n, .int .u64 old, .int .u64 root, .slice A k c] w (TwoPost (extendedV m n old root hs) w) := by
  have mixed := mixedOrders
  unfold extendedV
  by_cases c1 : n < 1
  · rw [if_pos (by omega)]
    clear hx hk ho
    go_enter Tryd.func37, Tryd.ntmps37
    go_wp2_with fail
    go_ret2
    exact ⟨rfl, Below.refl _ _⟩
  by_cases c3 : 4096 < n
  · rw [if_pos (.inr (.inr c3))]
    clear hx hk ho
    go_enter Tryd.func37, Tryd.ntmps37
    go_wp2_with fail
    go_ret2
    exact ⟨rfl, Below.refl _ _⟩
  by_cases c2 : m < 1
  · rw [if_pos (.inl c2)]
    clear hx hk ho
    go_enter Tryd.func37, Tryd.ntmps37
    go_wp2_with fail
    go_ret2
    exact ⟨rfl, Below.refl _ _⟩
  by_cases c4 : n < m
  · rw [if_pos (.inr (.inl c4))]
    clear hx hk ho
    go_enter Tryd.func37, Tryd.ntmps37
    go_wp2_with fail
    go_ret2
    exact ⟨rfl, Below.refl _ _⟩
  rw [if_neg (by omega)]
  obtain ⟨m', rfl⟩ : ∃ k : Nat, m = k := ⟨m.toNat, by omega⟩
  obtain ⟨n', rfl⟩ : ∃ k : Nat, n = k := ⟨n.toNat, by omega⟩
  rw [Int.toNat_natCast, Int.toNat_natCast]
  have HC := hide (made_any n' n' m' old true A k c hs w (Nat.le_refl _) (by omega) (by omega) (by omega) hx hk ho)
  have hj := made_judge (m := m') (n := n') (old := old) (root := root) (hs := hs) (by omega) (by omega)
  rw [← hj, hx.1]
  obtain ⟨T, hT⟩ : ∃ T, madeV m' n' old true hs = T := ⟨_, rfl⟩
  rw [hT] at HC ⊢
  obtain ⟨T1, T2, T3, T4⟩ := T
  have HC1 : Hid (Calls Tryd.prog 73 #[.int .i64 m', .int .i64 n', .int .u64 old, .bool true, .slice A k c] w fun e w' => e = .returned (.agg #[.int .u64 (T1 : Nat), .int .u64 (T2 : Nat), .int .i64 (T3 : Nat), .bool T4]) ∧ Below w.heap.size w w') := HC.out
  clear hT hx hk ho HC hj
  show Calls _ _ _ _ (TwoPost (!T4 && decide (T3 = k) && decide (T1 = old) && decide (T2 = root), 0) w)
  cases T4
  · by_cases q1 : T3 = k
    · rw [decide_eq_true q1]
      have zq1 : ((T3 : Int) == (k : Int)) = true := beq_iff_eq.2 (by omega)
      clear q1
      by_cases q2 : T1 = old
      · rw [decide_eq_true q2]
        have zq2 : ((T1 : Int) == (old : Int)) = true := beq_iff_eq.2 (by omega)
        clear q2
        by_cases q3 : T2 = root
        · rw [decide_eq_true q3]
          have zq3 : ((T2 : Int) == (root : Int)) = true := beq_iff_eq.2 (by omega)
          clear q3
          go_enter Tryd.func37, Tryd.ntmps37
          go_wp2_with fail
          refine HC1.out.mono ?_
          rintro e w1 ⟨rfl, hb⟩
          have HB := hide hb
          clear hb
          go_wp2_with fail
          go_ret2
          exact ⟨rfl, HB.out.alloc HB.out.size _⟩
        · rw [decide_eq_false q3]
          have zq3 : ((T2 : Int) == (root : Int)) = false := beq_eq_false_iff_ne.2 (by omega)
          clear q3
          go_enter Tryd.func37, Tryd.ntmps37
          go_wp2_with fail
          refine HC1.out.mono ?_
          rintro e w1 ⟨rfl, hb⟩
          have HB := hide hb
          clear hb
          go_wp2_with fail
          go_ret2
          exact ⟨rfl, HB.out.alloc HB.out.size _⟩
      · rw [decide_eq_false q2]
        have zq2 : ((T1 : Int) == (old : Int)) = false := beq_eq_false_iff_ne.2 (by omega)
        clear q2
        go_enter Tryd.func37, Tryd.ntmps37
        go_wp2_with fail
        refine HC1.out.mono ?_
        rintro e w1 ⟨rfl, hb⟩
        have HB := hide hb
        clear hb
        go_wp2_with fail
        go_ret2
        exact ⟨rfl, HB.out.alloc HB.out.size _⟩
    · rw [decide_eq_false q1]
      have zq1 : ((T3 : Int) == (k : Int)) = false := beq_eq_false_iff_ne.2 (by omega)
      clear q1
      go_enter Tryd.func37, Tryd.ntmps37
      go_wp2_with fail
      refine HC1.out.mono ?_
      rintro e w1 ⟨rfl, hb⟩
      have HB := hide hb
      clear hb
      go_wp2_with fail
      go_ret2
      exact ⟨rfl, HB.out.alloc HB.out.size _⟩
  · go_enter Tryd.func37, Tryd.ntmps37
    go_wp2_with fail
    refine HC1.out.mono ?_
    rintro e w1 ⟨rfl, hb⟩
    have HB := hide hb
    clear hb
    go_wp2_with fail
    go_ret2
    exact ⟨rfl, HB.out.alloc HB.out.size _⟩

set_option maxHeartbeats 4000000 in
set_option maxRecDepth 100000 in
theorem judges_law (A : Option Addr) (n c : Nat) (l : List UInt8) (i j : Int) (r : Nat) (S : Option Addr) (q d : Nat) (ss : List St) (m : Int) (old : Nat) (B : Option Addr) (k e : Nat) (hs : List Nat) (w : World) (hE : Env w)
    (hx : BytesAt w.heap.size w A n l) (hS : StepsAt w.heap.size w S q ss) (hH : HashesAt w.heap.size w B k hs) (hke : k ≤ e) (ho : old < 18446744073709551616) :
    Calls Tryd.prog 5 #[.slice A n c, .int .i64 i, .int .i64 j, .int .u64 r, .slice S q d, .int .i64 m, .int .u64 old, .slice B k e] w (TrueP w) := by
  have mixed := mixedOrders
  have HA := hide (alive_env hE)
  by_cases b1 : 400 < n
  · have g : (400 : Int) < (n : Int) := by omega
    clear hx hS hH hke ho b1 hE
    go_enter Tryd.func5, Tryd.ntmps5
    go_wp2_with fail
    refine HA.out.mono ?_
    rintro e w1 ⟨rfl, hb⟩
    go_wp2_with fail
    go_ret
    exact ⟨rfl, hb⟩
  have g1 : ¬ (400 : Int) < (n : Int) := by omega
  by_cases b2 : 100 < q
  · have g : (100 : Int) < (q : Int) := by omega
    clear hx hS hH hke ho b1 b2 hE
    go_enter Tryd.func5, Tryd.ntmps5
    go_wp2_with fail
    refine HA.out.mono ?_
    rintro e w1 ⟨rfl, hb⟩
    go_wp2_with fail
    go_ret
    exact ⟨rfl, hb⟩
  have g2 : ¬ (100 : Int) < (q : Int) := by omega
  by_cases b3 : 100 < k
  · have g : (100 : Int) < (k : Int) := by omega
    clear hx hS hH hke ho b1 b2 b3 hE
    go_enter Tryd.func5, Tryd.ntmps5
    go_wp2_with fail
    refine HA.out.mono ?_
    rintro e w1 ⟨rfl, hb⟩
    go_wp2_with fail
    go_ret
    exact ⟨rfl, hb⟩
  have g3 : ¬ (100 : Int) < (k : Int) := by omega
  have I1 := hide (Included_any A n c l i j r S q d ss w hx hS (by omega))
  have I2 : Hid (∀ w1, Below w.heap.size w w1 → Calls Tryd.prog 33 #[.slice A n c, .int .i64 i, .int .i64 j, .int .u64 r, .slice S q d] w1 (TwoPost (includedV l i j r ss) w1)) := fun w1 hb => refIncluded_any A n c l i j r S q d ss w1 (hx.now hb (Nat.le_refl _)) (hS.now hb (Nat.le_refl _)) (by omega)
  have F1 : Hid (∀ w1, Below w.heap.size w w1 → Calls Tryd.prog 34 #[.slice A n c, .slice S q d] w1 fun e w' => e = .returned (.int .u64 (followV l ss : Nat)) ∧ Below w1.heap.size w1 w') := fun w1 hb => Follow_any A n c l S q d ss w1 (hx.now hb (Nat.le_refl _)) (by omega) (hS.now hb (Nat.le_refl _)) (by omega)
  have F2 : Hid (∀ w1, Below w.heap.size w w1 → Calls Tryd.prog 35 #[.slice A n c, .slice S q d] w1 fun e w' => e = .returned (.int .u64 (followV l ss : Nat)) ∧ Below w1.heap.size w1 w') := fun w1 hb => refFollow_any A n c l S q d ss w1 (hx.now hb (Nat.le_refl _)) (by omega) (hS.now hb (Nat.le_refl _)) (by omega)
  have X1 : Hid (∀ w1, Below w.heap.size w w1 → Calls Tryd.prog 36 #[.int .i64 m, .int .i64 j, .int .u64 old, .int .u64 r, .slice B k e] w1 (TwoPost (extendedV m j old r hs) w1)) := fun w1 hb => Extended_any m j old r B k e hs w1 (hH.now hb (Nat.le_refl _)) hke (by omega) ho
  have X2 : Hid (∀ w1, Below w.heap.size w w1 → Calls Tryd.prog 37 #[.int .i64 m, .int .i64 j, .int .u64 old, .int .u64 r, .slice B k e] w1 (TwoPost (extendedV m j old r hs) w1)) := fun w1 hb => refExtended_any m j old r B k e hs w1 (hH.now hb (Nat.le_refl _)) (by omega) ho
  obtain ⟨P, hP⟩ : ∃ P, includedV l i j r ss = P := ⟨_, rfl⟩
  obtain ⟨Q, hQ⟩ : ∃ Q, extendedV m j old r hs = Q := ⟨_, rfl⟩
  obtain ⟨f, hf⟩ : ∃ f, followV l ss = f := ⟨_, rfl⟩
  rw [hP] at I1 I2
  rw [hQ] at X1 X2
  rw [hf] at F1 F2
  obtain ⟨P1, P2⟩ := P
  obtain ⟨Q1, Q2⟩ := Q
  have I1' : Hid (Calls Tryd.prog 32 #[.slice A n c, .int .i64 i, .int .i64 j, .int .u64 r, .slice S q d] w fun e w' => e = .returned (.tuple #[.bool P1, .int .i64 P2]) ∧ Below w.heap.size w w') := I1.out
  have I2' : Hid (∀ w1, Below w.heap.size w w1 → Calls Tryd.prog 33 #[.slice A n c, .int .i64 i, .int .i64 j, .int .u64 r, .slice S q d] w1 fun e w' => e = .returned (.tuple #[.bool P1, .int .i64 P2]) ∧ Below w1.heap.size w1 w') := I2.out
  have X1' : Hid (∀ w1, Below w.heap.size w w1 → Calls Tryd.prog 36 #[.int .i64 m, .int .i64 j, .int .u64 old, .int .u64 r, .slice B k e] w1 fun e w' => e = .returned (.tuple #[.bool Q1, .int .i64 Q2]) ∧ Below w1.heap.size w1 w') := X1.out
  have X2' : Hid (∀ w1, Below w.heap.size w w1 → Calls Tryd.prog 37 #[.int .i64 m, .int .i64 j, .int .u64 old, .int .u64 r, .slice B k e] w1 fun e w' => e = .returned (.tuple #[.bool Q1, .int .i64 Q2]) ∧ Below w1.heap.size w1 w') := X2.out
  have HE := hide hE
  have z1 : (P2 != P2) = false := by simp
  have z2 : ((f : Int) != (f : Int)) = false := by simp
  have z3 : (Q2 == Q2) = true := by simp
  clear hx hS hH hke ho hE b1 b2 b3 I1 I2 X1 X2 hP hQ hf HA
  cases P1 <;> cases Q1
  all_goals
    go_enter Tryd.func5, Tryd.ntmps5
    go_wp2_with fail
    refine I1'.out.mono ?_
    rintro e w1 ⟨rfl, hb⟩
    have HB1 := hide hb
    clear hb
    go_wp2_with fail
    refine (I2'.out w1 HB1.out).mono ?_
    rintro e w2 ⟨rfl, hb⟩
    have HB2 := hide (HB1.out.trans (hb.mono HB1.out.size))
    clear hb
    go_wp2_with fail
    refine (F1.out w2 HB2.out).mono ?_
    rintro e w3 ⟨rfl, hb⟩
    have HB3 := hide (HB2.out.trans (hb.mono HB2.out.size))
    clear hb
    go_wp2_with fail
    refine (F2.out w3 HB3.out).mono ?_
    rintro e w4 ⟨rfl, hb⟩
    have HB4 := hide (HB3.out.trans (hb.mono HB3.out.size))
    clear hb
    go_wp2_with fail
    refine (X1'.out w4 HB4.out).mono ?_
    rintro e w5 ⟨rfl, hb⟩
    have HB5 := hide (HB4.out.trans (hb.mono HB4.out.size))
    clear hb
    go_wp2_with fail
    refine (X2'.out w5 HB5.out).mono ?_
    rintro e w6 ⟨rfl, hb⟩
    have HB6 := hide (HB5.out.trans (hb.mono HB5.out.size))
    have HAL := hide (alive_env (HE.out.after HB6.out))
    clear hb
    go_wp2_with fail
    refine HAL.out.mono ?_
    rintro e w7 ⟨rfl, hb⟩
    go_wp2_with fail
    go_ret
    exact ⟨rfl, HB6.out.trans (hb.mono HB6.out.size)⟩
end Go.Proofs.YtbinmkigolkhcaaDoor
