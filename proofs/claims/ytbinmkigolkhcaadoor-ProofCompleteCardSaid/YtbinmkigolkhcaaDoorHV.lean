/- ProofComplete. -/
import Derived.Test.YtbinmkigolkhcaaDoorHU
set_option linter.unusedSimpArgs false
set_option linter.unusedVariables false
namespace Go.Proofs.YtbinmkigolkhcaaDoor
open Go.RowKit Go.Sort
attribute [local go_sem] Oper.semAt_some

set_option maxHeartbeats 4000000 in
set_option maxRecDepth 100000 in
theorem complete_law (A : Option Addr) (n c : Nat) (ls : List (List UInt8)) (i m : Int) (w : World) (hE : Env w) (hx : ListsIn w.heap.size w A n ls) (hc : n ≤ c) (hn : n ≤ 9223372036854775807) :
    Calls Tryd.prog 9 #[.slice A n c, .int .i64 i, .int .i64 m] w (TrueP w) := by
  have mixed := mixedOrders
  have HF := hide (few_any A n c ls w hx hn)
  cases hf : fewB ls
  · rw [hf] at HF
    have HA := hide (alive_env hE)
    clear hf hx hc hn hE
    go_enter Tryd.func9, Tryd.ntmps9
    go_wp2_with fail
    refine HF.out.mono ?_
    rintro e w1 ⟨rfl, rfl⟩
    go_wp2_with fail
    refine HA.out.mono ?_
    rintro e w1 ⟨rfl, hb⟩
    go_wp2_with fail
    go_ret
    exact ⟨rfl, hb⟩
  rw [hf] at HF
  obtain ⟨h1, h2⟩ := few_true hf
  have hlen := hx.1
  have hX := hx.to (fun l hl => Nat.le_trans (h2 l hl) (by decide))
  have HRO := hide (pRoot_any A n c ls w hX (by omega) hc)
  have HE := hide hE
  cases hlg : longB ls
  · have e1 : pRootV ls = (rootV ls, 0) := by unfold pRootV; rw [hlg, if_neg (by decide)]
    have hrl := rootV_lt ls
    obtain ⟨R, hR⟩ : ∃ R, rootV ls = R := ⟨_, rfl⟩
    rw [e1, hR] at HRO
    rw [hR] at hrl
    have HRO1 : Hid (Calls Tryd.prog 18 #[.slice A n c] w fun e w' => e = .returned (.tuple #[.int .u64 (R : Nat), .int .i64 0]) ∧ Below w.heap.size w w') := HRO.out
    have HI : Hid (∀ w1, Below w.heap.size w w1 → Calls Tryd.prog 28 #[.slice A n c, .int .i64 i] w1 (TwoSteps (pIncludeV ls i) w1)) := fun w1 hb => pInclude_any A n c ls i w1 (hX.now hb (Nat.le_refl _)) (by omega) hc
    have HX2 : Hid (∀ w1, Below w.heap.size w w1 → Calls Tryd.prog 30 #[.slice A n c, .int .i64 m] w1 (TwoHashes (extendV ls m) w1)) := fun w1 hb => pExtend_any A n c ls m w1 (hX.now hb (Nat.le_refl _)) (by omega) hc
    have HR := hide hR
    have HLG := hide hlg
    have HLEN := hide hlen
    have HX := hide hX
    have HN : Hid (n ≤ 100) := by show n ≤ 100; omega
    have HCC := hide hc
    have HRL := hide hrl
    clear hf hx hn hE h1 h2 hlen hX hR hlg hc hrl e1 HRO
    go_enter Tryd.func9, Tryd.ntmps9
    go_wp2_with fail
    refine HF.out.mono ?_
    rintro e w1 ⟨rfl, rfl⟩
    go_wp2_with fail
    refine HRO1.out.mono ?_
    rintro e w2 ⟨rfl, hb2⟩
    have HB2 := hide hb2
    clear hb2
    by_cases k1 : i < 0 ∨ (n : Int) ≤ i
    · have e2 : pIncludeV ls i = ([], 6) := by unfold pIncludeV; rw [HLG.out, if_neg (by decide), HLEN.out, if_pos k1]
      have CI := hide (HI.out w2 HB2.out)
      rw [e2] at CI
      clear e2 k1
      go_wp2_with fail
      refine CI.out.mono ?_
      rintro e w3 ⟨a3, c3, rfl, ho, hb⟩
      have HB3 := hide (HB2.out.trans (hb.mono HB2.out.size))
      clear ho hb CI
      (try dsimp only)
      by_cases g1 : m < 1
      · have e2 : extendV ls m = ([], 2) := by unfold extendV; rw [HLG.out, if_neg (by decide), if_pos (.inl g1)]
        have HC := hide (HX2.out w3 HB3.out)
        rw [e2] at HC
        clear e2
        have g1' : ¬ 1 ≤ m := by omega
        go_wp2_with fail
        refine HC.out.mono ?_
        rintro e w5 ⟨a5, c5, rfl, ho, hb⟩
        have HB5 := hide (HB3.out.trans (hb.mono HB3.out.size))
        have HAL := hide (alive_env (HE.out.after HB5.out))
        clear ho hb HC
        go_wp2_with fail
        refine HAL.out.mono ?_
        rintro e w6 ⟨rfl, hb6⟩
        go_wp2_with fail
        go_ret
        exact ⟨rfl, HB5.out.trans (hb6.mono HB5.out.size)⟩
      by_cases g2 : (n : Int) < m
      · have e2 : extendV ls m = ([], 2) := by unfold extendV; rw [HLG.out, if_neg (by decide), HLEN.out, if_pos (.inr g2)]
        have HC := hide (HX2.out w3 HB3.out)
        rw [e2] at HC
        clear e2
        have g1' : 1 ≤ m := by omega
        have g2' : decide (m ≤ (n : Int)) = false := decide_eq_false (by omega)
        go_wp2_with fail
        refine HC.out.mono ?_
        rintro e w5 ⟨a5, c5, rfl, ho, hb⟩
        have HB5 := hide (HB3.out.trans (hb.mono HB3.out.size))
        have HAL := hide (alive_env (HE.out.after HB5.out))
        clear ho hb HC
        go_wp2_with fail
        refine HAL.out.mono ?_
        rintro e w6 ⟨rfl, hb6⟩
        go_wp2_with fail
        go_ret
        exact ⟨rfl, HB5.out.trans (hb6.mono HB5.out.size)⟩
      obtain ⟨m', rfl⟩ : ∃ k : Nat, m = k := ⟨m.toNat, by omega⟩
      have e2 : extendV ls (m' : Int) = (growthV ls m' true, 0) := by unfold extendV; rw [HLG.out, if_neg (by decide), HLEN.out, if_neg (by omega)]; rfl
      have e3 := extend_taken (ls := ls) (m := m') (by omega) (by rw [HLEN.out]; omega) (by rw [HLEN.out]; have := HN.out; omega)
      rw [HLEN.out] at e3
      have e4 := growth_bound ls m' true
      have e5 := growth_len ls m' true
      rw [HLEN.out] at e5
      have HC := hide (HX2.out w3 HB3.out)
      obtain ⟨b, off, -, -, -, rfl, hbl, -, -, -⟩ := HX.out.at_ (i := 0) (by omega)
      have HTK := hide (HX.out.take (k := m') (by omega))
      have hlt : longB (ls.take m') = false := long_no fun j hj => by
        have h6 := long_false HLG.out
        rw [List.length_take] at hj
        have e6 : (ls.take m').getD j [] = ls.getD j [] := by simp [List.getD_eq_getElem?_getD]; rw [List.getElem?_take_of_lt (by omega)]
        rw [e6, List.getD_eq_getElem?_getD, List.getElem?_eq_getElem (by omega)]
        exact h6 _ (List.getElem_mem _)
      have e7 : pRootV (ls.take m') = (rootV (ls.take m'), 0) := by unfold pRootV; rw [hlt, if_neg (by decide)]
      have e8 := rootV_lt (ls.take m')
      obtain ⟨O, hO⟩ : ∃ O, rootV (ls.take m') = O := ⟨_, rfl⟩
      rw [hO] at e7 e3 e8
      obtain ⟨G, hG⟩ : ∃ G, growthV ls m' true = G := ⟨_, rfl⟩
      rw [hG] at e2 e3 e4 e5
      rw [HR.out] at e3
      rw [e2] at HC
      have HNC := hide (show m' ≤ n ∧ n ≤ c from ⟨by omega, HCC.out⟩)
      have HRT : Hid (∀ w1, Below w.heap.size w w1 → Calls Tryd.prog 18 #[.slice (some ⟨b, off, none⟩) m' c] w1 fun e w' => e = .returned (.tuple #[.int .u64 (O : Nat), .int .i64 0]) ∧ Below w1.heap.size w1 w') := by
        intro w1 hb
        have := pRoot_any (some ⟨b, off, none⟩) m' c (ls.take m') w1 (HTK.out.now hb (Nat.le_refl _)) (by have := HN.out; have := HNC.out; omega) (by have := HNC.out; omega)
        rw [e7] at this
        exact this
      have HEX : Hid (∀ (w1 : World) A5 c5, HashesAt w1.heap.size w1 A5 G.length G → G.length ≤ c5 → Calls Tryd.prog 36 #[.int .i64 m', .int .i64 n, .int .u64 O, .int .u64 R, .slice A5 G.length c5] w1 fun e w' => e = .returned (.tuple #[.bool true, .int .i64 0]) ∧ Below w1.heap.size w1 w') := by
        intro w1 A5 c5 h h2
        have := Extended_any m' n O R A5 G.length c5 G w1 h h2 (by have := HN.out; omega) e8
        rw [e3] at this
        exact this
      have HGB := hide e4
      obtain ⟨gl, hgl⟩ : ∃ gl, G.length = gl := ⟨_, rfl⟩
      have HGL := hide hgl
      have g1' : (1 : Int) ≤ (m' : Int) := by omega
      have g2' : (m' : Int) ≤ (n : Int) := by omega
      have g3' : (m' : Int) ≤ (c : Int) := by have := HNC.out; omega
      have HG1 := hide g1
      clear e2 e3 e4 e5 e7 e8 hlt hO hG hbl g1 g2 hgl
      go_wp2_with fail
      refine HC.out.mono ?_
      rintro e w5 ⟨a5, c5, rfl, ho, hb⟩
      have HB5 := hide (HB3.out.trans (hb.mono HB3.out.size))
      have hle : G.length ≤ c5 := by
        rcases ho.2 with ⟨e, h0⟩ | ⟨g, cap, cur, hv, _, hg, hle, _⟩
        · have : ((G, (0 : Int)).1).length = 0 := h0
          have : G.length = 0 := this
          omega
        · injection hv with h1 h2 h3
          subst h3
          exact hle
      have HEX1 : Hid (∀ w1, Below w5.heap.size w5 w1 → _) := fun w1 hb1 => HEX.out w1 a5 c5 ((hashes_of_own ho HGB.out).now hb1 (Nat.le_refl _)) hle
      have CR := hide (HRT.out w5 HB5.out)
      clear ho hb HC hle
      (try dsimp only at HEX1 ⊢)
      go_wp2_with fail
      refine CR.out.mono ?_
      rintro e w6 ⟨rfl, hb6⟩
      have HB6 := hide (HB5.out.trans (hb6.mono HB5.out.size))
      have CX := hide (HEX1.out w6 hb6)
      clear hb6 CR HEX1
      go_wp2_with fail
      refine CX.out.mono ?_
      rintro e w7 ⟨rfl, hb7⟩
      have HB7 := hide (HB6.out.trans (hb7.mono HB6.out.size))
      have HAL := hide (alive_env (HE.out.after HB7.out))
      clear hb7 CX
      go_wp2_with fail
      refine HAL.out.mono ?_
      rintro e w8 ⟨rfl, hb8⟩
      go_wp2_with fail
      go_ret
      exact ⟨rfl, HB7.out.trans (hb8.mono HB7.out.size)⟩
    · obtain ⟨i', rfl⟩ : ∃ k : Nat, i = k := ⟨i.toNat, by omega⟩
      have e2 : pIncludeV ls (i' : Int) = (stepsV ls i', 0) := by unfold pIncludeV; rw [HLG.out, if_neg (by decide), HLEN.out, if_neg k1]; rfl
      have hi' : i' < n := by omega
      have e3 := include_taken (ls := ls) (i := i') (by rw [HLEN.out]; exact hi') (long_false HLG.out) (by rw [HLEN.out]; have := HN.out; omega)
      have e4 := follow_steps ls.length ls i' (Nat.le_refl _) (by rw [HLEN.out]; exact hi')
      have e5 := steps_bound ls i'
      have e6 := steps_len ls i'
      rw [HLEN.out] at e3 e6
      rw [HR.out] at e3 e4
      obtain ⟨b, off, Ai, ni, ci, rfl, hbl, c0, hB, hni⟩ := HX.out.at_ (i := i') hi'
      obtain ⟨E, hEE⟩ : ∃ E, ls.getD i' [] = E := ⟨_, rfl⟩
      obtain ⟨L, hL⟩ : ∃ L, stepsV ls i' = L := ⟨_, rfl⟩
      rw [hEE] at e3 e4 hB
      rw [hL] at e2 e3 e4 e5 e6
      have HLL : Hid (L.length ≤ 1000000) := by show _ ≤ _; have := HN.out; omega
      have HIN : Hid (∀ (w1 : World) A5 c5, Below w.heap.size w w1 → StepsAt w1.heap.size w1 A5 L.length L → Calls Tryd.prog 32 #[.slice Ai ni ci, .int .i64 i', .int .i64 n, .int .u64 R, .slice A5 L.length c5] w1 fun e w' => e = .returned (.tuple #[.bool true, .int .i64 0]) ∧ Below w1.heap.size w1 w') := by
        intro w1 A5 c5 hb h
        have := Included_any Ai ni ci E i' n R A5 L.length c5 L w1 (hB.now hb (Nat.le_refl _)) h HLL.out
        rw [e3] at this
        exact this
      have HFO : Hid (∀ (w1 : World) A5 c5, Below w.heap.size w w1 → StepsAt w1.heap.size w1 A5 L.length L → Calls Tryd.prog 34 #[.slice Ai ni ci, .slice A5 L.length c5] w1 fun e w' => e = .returned (.int .u64 (R : Nat)) ∧ Below w1.heap.size w1 w') := by
        intro w1 A5 c5 hb h
        have := Follow_any Ai ni ci E A5 L.length c5 L w1 (hB.now hb (Nat.le_refl _)) hni h HLL.out
        rw [e4] at this
        exact this
      have HSB := hide e5
      have CI := hide (HI.out w2 HB2.out)
      rw [e2] at CI
      have g5 : (i' : Int) < (n : Int) := by omega
      have HBL := hide hbl
      have HC0 := hide c0
      clear e2 k1 e3 e4 e5 e6 hEE hL hB hni hi' hbl c0
      go_wp2_with fail
      refine CI.out.mono ?_
      rintro e w3 ⟨a3, c3, rfl, ho, hb⟩
      have HB3 := hide (HB2.out.trans (hb.mono HB2.out.size))
      have HST : Hid (StepsAt w3.heap.size w3 a3 L.length L) := steps_of_own ho HSB.out
      have c3' := (HB3.out.cell (p := ⟨b, off + i', none⟩) HBL.out).trans HC0.out
      have CN := hide (HIN.out w3 a3 c3 HB3.out HST.out)
      clear ho hb CI
      (try dsimp only)
      go_wp2_with fail
      refine CN.out.mono ?_
      rintro e w4 ⟨rfl, hb4⟩
      have HB4 := hide (HB3.out.trans (hb4.mono HB3.out.size))
      have c4' := (HB4.out.cell (p := ⟨b, off + i', none⟩) HBL.out).trans HC0.out
      have CF := hide (HFO.out w4 a3 c3 HB4.out (HST.out.now hb4 (Nat.le_refl _)))
      clear hb4 CN c3'
      go_wp2_with fail
      refine CF.out.mono ?_
      rintro e w9 ⟨rfl, hb9⟩
      have HB9 := hide (HB4.out.trans (hb9.mono HB4.out.size))
      have zR : ((R : Int) != (R : Int)) = false := by simp
      clear hb9 CF c4' HIN HFO HST
      by_cases g1 : m < 1
      · have e2 : extendV ls m = ([], 2) := by unfold extendV; rw [HLG.out, if_neg (by decide), if_pos (.inl g1)]
        have HC := hide (HX2.out w9 HB9.out)
        rw [e2] at HC
        clear e2
        have g1' : ¬ 1 ≤ m := by omega
        go_wp2_with fail
        refine HC.out.mono ?_
        rintro e w5 ⟨a5, c5, rfl, ho, hb⟩
        have HB5 := hide (HB9.out.trans (hb.mono HB9.out.size))
        have HAL := hide (alive_env (HE.out.after HB5.out))
        clear ho hb HC
        go_wp2_with fail
        refine HAL.out.mono ?_
        rintro e w6 ⟨rfl, hb6⟩
        go_wp2_with fail
        go_ret
        exact ⟨rfl, HB5.out.trans (hb6.mono HB5.out.size)⟩
      by_cases g2 : (n : Int) < m
      · have e2 : extendV ls m = ([], 2) := by unfold extendV; rw [HLG.out, if_neg (by decide), HLEN.out, if_pos (.inr g2)]
        have HC := hide (HX2.out w9 HB9.out)
        rw [e2] at HC
        clear e2
        have g1' : 1 ≤ m := by omega
        have g2' : decide (m ≤ (n : Int)) = false := decide_eq_false (by omega)
        go_wp2_with fail
        refine HC.out.mono ?_
        rintro e w5 ⟨a5, c5, rfl, ho, hb⟩
        have HB5 := hide (HB9.out.trans (hb.mono HB9.out.size))
        have HAL := hide (alive_env (HE.out.after HB5.out))
        clear ho hb HC
        go_wp2_with fail
        refine HAL.out.mono ?_
        rintro e w6 ⟨rfl, hb6⟩
        go_wp2_with fail
        go_ret
        exact ⟨rfl, HB5.out.trans (hb6.mono HB5.out.size)⟩
      obtain ⟨m', rfl⟩ : ∃ k : Nat, m = k := ⟨m.toNat, by omega⟩
      have e2 : extendV ls (m' : Int) = (growthV ls m' true, 0) := by unfold extendV; rw [HLG.out, if_neg (by decide), HLEN.out, if_neg (by omega)]; rfl
      have e3 := extend_taken (ls := ls) (m := m') (by omega) (by rw [HLEN.out]; omega) (by rw [HLEN.out]; have := HN.out; omega)
      rw [HLEN.out] at e3
      have e4 := growth_bound ls m' true
      have e5 := growth_len ls m' true
      rw [HLEN.out] at e5
      have HC := hide (HX2.out w9 HB9.out)
      have hbl := HBL.out
      have HTK := hide (HX.out.take (k := m') (by omega))
      have hlt : longB (ls.take m') = false := long_no fun j hj => by
        have h6 := long_false HLG.out
        rw [List.length_take] at hj
        have e6 : (ls.take m').getD j [] = ls.getD j [] := by simp [List.getD_eq_getElem?_getD]; rw [List.getElem?_take_of_lt (by omega)]
        rw [e6, List.getD_eq_getElem?_getD, List.getElem?_eq_getElem (by omega)]
        exact h6 _ (List.getElem_mem _)
      have e7 : pRootV (ls.take m') = (rootV (ls.take m'), 0) := by unfold pRootV; rw [hlt, if_neg (by decide)]
      have e8 := rootV_lt (ls.take m')
      obtain ⟨O, hO⟩ : ∃ O, rootV (ls.take m') = O := ⟨_, rfl⟩
      rw [hO] at e7 e3 e8
      obtain ⟨G, hG⟩ : ∃ G, growthV ls m' true = G := ⟨_, rfl⟩
      rw [hG] at e2 e3 e4 e5
      rw [HR.out] at e3
      rw [e2] at HC
      have HNC := hide (show m' ≤ n ∧ n ≤ c from ⟨by omega, HCC.out⟩)
      have HRT : Hid (∀ w1, Below w.heap.size w w1 → Calls Tryd.prog 18 #[.slice (some ⟨b, off, none⟩) m' c] w1 fun e w' => e = .returned (.tuple #[.int .u64 (O : Nat), .int .i64 0]) ∧ Below w1.heap.size w1 w') := by
        intro w1 hb
        have := pRoot_any (some ⟨b, off, none⟩) m' c (ls.take m') w1 (HTK.out.now hb (Nat.le_refl _)) (by have := HN.out; have := HNC.out; omega) (by have := HNC.out; omega)
        rw [e7] at this
        exact this
      have HEX : Hid (∀ (w1 : World) A5 c5, HashesAt w1.heap.size w1 A5 G.length G → G.length ≤ c5 → Calls Tryd.prog 36 #[.int .i64 m', .int .i64 n, .int .u64 O, .int .u64 R, .slice A5 G.length c5] w1 fun e w' => e = .returned (.tuple #[.bool true, .int .i64 0]) ∧ Below w1.heap.size w1 w') := by
        intro w1 A5 c5 h h2
        have := Extended_any m' n O R A5 G.length c5 G w1 h h2 (by have := HN.out; omega) e8
        rw [e3] at this
        exact this
      have HGB := hide e4
      obtain ⟨gl, hgl⟩ : ∃ gl, G.length = gl := ⟨_, rfl⟩
      have HGL := hide hgl
      have g1' : (1 : Int) ≤ (m' : Int) := by omega
      have g2' : (m' : Int) ≤ (n : Int) := by omega
      have g3' : (m' : Int) ≤ (c : Int) := by have := HNC.out; omega
      have HG1 := hide g1
      clear e2 e3 e4 e5 e7 e8 hlt hO hG hbl g1 g2 hgl
      go_wp2_with fail
      refine HC.out.mono ?_
      rintro e w5 ⟨a5, c5, rfl, ho, hb⟩
      have HB5 := hide (HB9.out.trans (hb.mono HB9.out.size))
      have hle : G.length ≤ c5 := by
        rcases ho.2 with ⟨e, h0⟩ | ⟨g, cap, cur, hv, _, hg, hle, _⟩
        · have : ((G, (0 : Int)).1).length = 0 := h0
          have : G.length = 0 := this
          omega
        · injection hv with h1 h2 h3
          subst h3
          exact hle
      have HEX1 : Hid (∀ w1, Below w5.heap.size w5 w1 → _) := fun w1 hb1 => HEX.out w1 a5 c5 ((hashes_of_own ho HGB.out).now hb1 (Nat.le_refl _)) hle
      have CR := hide (HRT.out w5 HB5.out)
      clear ho hb HC hle
      (try dsimp only at HEX1 ⊢)
      go_wp2_with fail
      refine CR.out.mono ?_
      rintro e w6 ⟨rfl, hb6⟩
      have HB6 := hide (HB5.out.trans (hb6.mono HB5.out.size))
      have CX := hide (HEX1.out w6 hb6)
      clear hb6 CR HEX1
      go_wp2_with fail
      refine CX.out.mono ?_
      rintro e w7 ⟨rfl, hb7⟩
      have HB7 := hide (HB6.out.trans (hb7.mono HB6.out.size))
      have HAL := hide (alive_env (HE.out.after HB7.out))
      clear hb7 CX
      go_wp2_with fail
      refine HAL.out.mono ?_
      rintro e w8 ⟨rfl, hb8⟩
      go_wp2_with fail
      go_ret
      exact ⟨rfl, HB7.out.trans (hb8.mono HB7.out.size)⟩
  · have e1 : pRootV ls = (0, 3) := by unfold pRootV; rw [hlg, if_pos rfl]
    rw [e1] at HRO
    have HRO1 : Hid (Calls Tryd.prog 18 #[.slice A n c] w fun e w' => e = .returned (.tuple #[.int .u64 0, .int .i64 3]) ∧ Below w.heap.size w w') := HRO.out
    clear hf hx hn hE h1 h2 hlen hX hlg hc e1 HRO
    go_enter Tryd.func9, Tryd.ntmps9
    go_wp2_with fail
    refine HF.out.mono ?_
    rintro e w1 ⟨rfl, rfl⟩
    go_wp2_with fail
    refine HRO1.out.mono ?_
    rintro e w2 ⟨rfl, hb2⟩
    have HB2 := hide hb2
    have HAL := hide (alive_env (HE.out.after hb2))
    clear hb2
    go_wp2_with fail
    refine HAL.out.mono ?_
    rintro e w6 ⟨rfl, hb6⟩
    go_wp2_with fail
    go_ret
    exact ⟨rfl, HB2.out.trans (hb6.mono HB2.out.size)⟩
end Go.Proofs.YtbinmkigolkhcaaDoor
