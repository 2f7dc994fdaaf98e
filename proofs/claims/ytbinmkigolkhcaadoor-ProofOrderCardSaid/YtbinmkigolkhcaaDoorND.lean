/- ProofOrder. -/
import Derived.Test.YtbinmkigolkhcaaDoorNC
set_option linter.unusedSimpArgs false
set_option linter.unusedVariables false
namespace Go.Proofs.YtbinmkigolkhcaaDoor
open Go.RowKit Go.Sort
attribute [local go_sem] Oper.semAt_some

/-- the list of the call's own -/
structure OrderI (w wx : World) (g n c : Nat) (vs : List Value) : Prop where
  bl : Below w.heap.size w wx
  own : wx.ownsRow w.heap.size 23 1 (.slice (some ⟨g, 0, none⟩) n c) n vs
theorem OrderI.later {w wx w' : World} {g n c : Nat} {vs : List Value} (h : OrderI w wx g n c vs) (hb : Below wx.heap.size wx w') : OrderI w w' g n c vs :=
  ⟨h.bl.trans (hb.mono h.bl.size), own_keep h.own hb (Nat.le_refl _)⟩
theorem own_block0' {w : World} {base k c : Nat} {e : TypeId} {size : Nat} {a : Option Addr} {xs : List Value} (h : w.ownsRow base e size (.slice a k c) k xs) (hk : 0 < k) : ∃ g, a = some ⟨g, 0, none⟩ ∧ base ≤ g := by
  rcases h.2 with ⟨_, h0⟩ | ⟨g, cap, cur, hv, hb, _⟩
  · omega
  · injection hv with h1 h2 h3
    exact ⟨g, h1, hb⟩
theorem own_lt1 {w : World} {b k : Nat} {v : Value} (h : w.cell? ⟨b, k, none⟩ = some v) : b < w.heap.size := by
  unfold World.cell? at h
  rcases Nat.lt_or_ge b w.heap.size with h1 | h1
  · exact h1
  · rw [Array.getElem?_eq_none h1] at h
    cases h

set_option maxHeartbeats 4000000 in
set_option maxRecDepth 100000 in
theorem order_law (A : Option Addr) (n c : Nat) (ls : List (List UInt8)) (i k : Int) (w : World) (hE : Env w) (hx : ListsIn w.heap.size w A n ls) (hc : n ≤ c) (hn : n ≤ 9223372036854775807) :
    Calls Tryd.prog 14 #[.slice A n c, .int .i64 i, .int .i64 k] w (TrueP w) := by
  have mixed := mixedOrders
  have HF := hide (few_any A n c ls w hx hn)
  have HA := hide (alive_env hE)
  by_cases hg : ¬ (fewB ls = true ∧ 0 ≤ i ∧ i < n ∧ 0 ≤ k ∧ k < n)
  · as_aux_lemma =>
    cases hf : fewB ls
    · rw [hf] at HF
      clear hf hx hc hn hE hg
      go_enter Tryd.func14, Tryd.ntmps14
      go_wp2_with fail
      refine HF.out.mono ?_
      rintro e w1 ⟨rfl, rfl⟩
      go_wp2_with fail
      refine HA.out.mono ?_
      rintro e w1 ⟨rfl, hb⟩
      go_wp2_with fail
      go_ret
      exact ⟨rfl, hb⟩
    · rw [hf] at HF
      by_cases g1 : i < 0
      · clear hf hx hc hn hE hg
        go_enter Tryd.func14, Tryd.ntmps14
        go_wp2_with fail
        refine HF.out.mono ?_
        rintro e w1 ⟨rfl, rfl⟩
        go_wp2_with fail
        refine HA.out.mono ?_
        rintro e w1 ⟨rfl, hb⟩
        go_wp2_with fail
        go_ret
        exact ⟨rfl, hb⟩
      · by_cases g2 : (n : Int) ≤ i
        · clear hf hx hc hn hE hg
          go_enter Tryd.func14, Tryd.ntmps14
          go_wp2_with fail
          refine HF.out.mono ?_
          rintro e w1 ⟨rfl, rfl⟩
          go_wp2_with fail
          refine HA.out.mono ?_
          rintro e w1 ⟨rfl, hb⟩
          go_wp2_with fail
          go_ret
          exact ⟨rfl, hb⟩
        · by_cases g3 : k < 0
          · clear hf hx hc hn hE hg
            go_enter Tryd.func14, Tryd.ntmps14
            go_wp2_with fail
            refine HF.out.mono ?_
            rintro e w1 ⟨rfl, rfl⟩
            go_wp2_with fail
            refine HA.out.mono ?_
            rintro e w1 ⟨rfl, hb⟩
            go_wp2_with fail
            go_ret
            exact ⟨rfl, hb⟩
          · have g4 : (n : Int) ≤ k := by
              rcases Int.lt_or_le k (n : Int) with h | h
              · exact absurd ⟨hf, by omega, by omega, by omega, h⟩ hg
              · exact h
            clear hf hx hc hn hE hg
            go_enter Tryd.func14, Tryd.ntmps14
            go_wp2_with fail
            refine HF.out.mono ?_
            rintro e w1 ⟨rfl, rfl⟩
            go_wp2_with fail
            refine HA.out.mono ?_
            rintro e w1 ⟨rfl, hb⟩
            go_wp2_with fail
            go_ret
            exact ⟨rfl, hb⟩
  have hg' : fewB ls = true ∧ 0 ≤ i ∧ i < n ∧ 0 ≤ k ∧ k < n := Classical.not_not.1 hg
  obtain ⟨hf, g1, g2, g3, g4⟩ := hg'
  clear hg
  rw [hf] at HF
  obtain ⟨h1, h2⟩ := few_true hf
  have hlen := hx.1
  obtain ⟨i', rfl⟩ : ∃ k : Nat, i = k := ⟨i.toNat, by omega⟩
  obtain ⟨k', rfl⟩ : ∃ j : Nat, k = j := ⟨k.toNat, by omega⟩
  have hX := hx.to (fun l hl => Nat.le_trans (h2 l hl) (by decide))
  have hil : i' < ls.length := by omega
  have hkl : k' < ls.length := by omega
  have hn4 : ls.length ≤ 4096 := by omega
  obtain ⟨bb, off, Ai, ni, ci, rfl, hbb, ki, kb, -⟩ := hX.at_ (i := i') (by omega)
  obtain ⟨bb2, off2, Ak, nk, ck, e, -, kk, kbk, -⟩ := hX.at_ (i := k') (by omega)
  injection e with e
  injection e with e3 e4
  subst e3; subst e4
  obtain ⟨vs, hR, hvs⟩ := hX.row
  have hvi : vs[i']? = some (.slice Ai ni ci) := by
    obtain ⟨B, m, d, e1, -, -⟩ := hR.2 i' hil
    have := (hvs i' _ e1).1
    rw [add_none, ki] at this
    rw [e1, this]
  have hvk : vs[k']? = some (.slice Ak nk ck) := by
    obtain ⟨B, m, d, e1, -, -⟩ := hR.2 k' hkl
    have := (hvs k' _ e1).1
    rw [add_none, kk] at this
    rw [e1, this]
  have HRS := hide (hR.swap hil hkl hvi hvk)
  have HRO : Hid (∀ w1, Below w.heap.size w w1 → Calls Tryd.prog 18 #[.slice (some ⟨bb, off, none⟩) n c] w1 (RootP (pRootV ls) w1)) := fun w1 hb => pRoot_any (some ⟨bb, off, none⟩) n c ls w1 (hX.now hb (Nat.le_refl _)) (by omega) hc
  have HI : Hid (∀ w1, Below w.heap.size w w1 → Calls Tryd.prog 28 #[.slice (some ⟨bb, off, none⟩) n c, .int .i64 i'] w1 (TwoSteps (pIncludeV ls i') w1)) := fun w1 hb => pInclude_any (some ⟨bb, off, none⟩) n c ls i' w1 (hX.now hb (Nat.le_refl _)) (by omega) hc
  have HE := hide hE
  have HVI := hide hvi
  have HVK := hide hvk
  have HKI := hide ki
  have HKB := hide kb
  have HKB2 := hide kbk
  have HKK := hide kk
  have HIL := hide (And.intro hil (And.intro hkl (And.intro hlen (And.intro h1 hc))))
  obtain ⟨i0, hi0, hz0, hz1, hz2⟩ := info_parts info23
  have hvl : vs.length = n * 1 := by have := hR.1; omega
  have hbb1 : 0 + n ≤ maxLen := by unfold maxLen; omega
  have hbb2 : (0 + n) * 24 ≤ 140737488355328 := by omega
  have hnew : ∀ j u, vs[j]? = some u → w.cell? ((⟨bb, off, none⟩ : Addr).add j) = some u := fun j u h => (hvs j u h).1
  have hone : ∀ u ∈ vs, u.oneCell' = true := fun u hu => by
    obtain ⟨j, hj, rfl⟩ := List.getElem_of_mem hu
    exact (hvs j _ (List.getElem?_eq_getElem hj)).2
  have b1 : ¬ (i' : Int) < 0 := by omega
  have b2 : ¬ (n : Int) ≤ (i' : Int) := by omega
  have b3 : ¬ (k' : Int) < 0 := by omega
  have b4 : ¬ (n : Int) ≤ (k' : Int) := by omega
  clear hx hE HA hf h1 h2 hX hil hkl hn4 hbb ki kb kk kbk hR hvi hvk hn hlen hc g1 g3 g2 g4
  go_enter Tryd.func14, Tryd.ntmps14
  go_wp2_with fail
  refine HF.out.mono ?_
  rintro e w1 ⟨rfl, rfl⟩
  go_upto_region 4 with fail
  clear b1 b2 b3 b4 HF
  go_wp2_with (at_builtin; refine wpList_append_own_at _ rfl (.tmp 40) (.tmp 41) _ rfl w.heap.size 23 i0 (.slice none 0 0) 1 24 Tryd.underlying22 hi0 hz0 hz1 hz2 rfl (by decide) _ _ _ rfl (World.ownsRow_nil _ _ _ _) ⟨bb, off, none⟩ n c vs rfl hvl hnew hone hbb1 hbb2 (Nat.le_refl _) ?_; intro v1 w5 hown1 hgrow1 hnil1 hat1; refine Hid.out ?_)
  refine Lib.hid ?_
  obtain ⟨g, c1, rfl⟩ : ∃ g c1, v1 = .slice (some ⟨g, 0, none⟩) n c1 := by
    obtain ⟨a, c1, rfl⟩ := own_slice hown1
    rcases hown1.2 with ⟨_, h0⟩ | ⟨g, cap, cur, hv, _⟩
    · have := HIL.out.1; have := HIL.out.2.2.1; omega
    · injection hv with h1 h2 h3
      exact ⟨g, c1, by rw [h1, Nat.zero_add]⟩
  have hown2 : w5.ownsRow w.heap.size 23 1 (.slice (some ⟨g, 0, none⟩) n c1) n vs := by
    have := hown1
    rw [List.nil_append, Nat.zero_add] at this
    exact this
  have HJ5 : Hid (OrderI w w5 g n c1 vs) := ⟨Below.of_grown hgrow1 (Nat.le_refl _), hown2⟩
  have gi : (i' : Int) < (n : Int) := by have := HIL.out; omega
  have gk : (k' : Int) < (n : Int) := by have := HIL.out; omega
  clear hown1 hown2 hgrow1 hnil1 hat1 hi0 hz0 hz1 hz2 hvl hbb1 hbb2 hnew hone hvs
  go_upto_region 5 with fail
  go_cut [] (fun wx => Hid (OrderI w wx g n c1 ((vs.set i' (.slice Ak nk ck)).set k' (.slice Ai ni ci))))
  case first => as_aux_lemma =>
    have u1 := HJ5.out.own.cellAt i' (by have := HIL.out; omega)
    rw [HVI.out] at u1
    have u2 := HJ5.out.own.cellAt k' (by have := HIL.out; omega)
    rw [HVK.out] at u2
    have u3 := HJ5.out.own.frozenAt i'
    have u4 := HJ5.out.own.frozenAt k'
    by_cases hik : i' = k'
    · subst hik
      have hs : OrderI w ((w5.setCell ⟨g, i', none⟩ (.slice Ai ni ci)).setCell ⟨g, i', none⟩ (.slice Ai ni ci)).drew g n c1 ((vs.set i' (.slice Ak nk ck)).set i' (.slice Ai ni ci)) := by
        have e := HVI.out.symm.trans HVK.out
        injection e with e
        rw [← e]
        have h1 := (HJ5.out.own.stored i' (.slice Ai ni ci)).1
        have h2 := (h1.stored i' (.slice Ai ni ci)).1
        obtain ⟨g', hg', hb⟩ := own_block0' HJ5.out.own (by have := HIL.out; omega)
        injection hg' with hg'
        injection hg' with hg'
        subst hg'
        have b1 := (HJ5.out.bl.setCell (p := ⟨g, i', none⟩) hb (.slice Ai ni ci)).setCell (p := ⟨g, i', none⟩) hb (.slice Ai ni ci)
        exact ⟨b1.trans (((Gr.refl _).drew).below.mono b1.size), own_keep h2 ((Gr.refl _).drew).below (Nat.le_refl _)⟩
      have HS := hide hs
      clear hs
      go_region
      all_goals go_wp2_with fail
      all_goals go_meet
      all_goals exact HS
    · have hs : OrderI w ((w5.setCell ⟨g, i', none⟩ (.slice Ak nk ck)).setCell ⟨g, k', none⟩ (.slice Ai ni ci)).drew g n c1 ((vs.set i' (.slice Ak nk ck)).set k' (.slice Ai ni ci)) := by
        have h1 := (HJ5.out.own.stored i' (.slice Ak nk ck)).1
        have h2 := (h1.stored k' (.slice Ai ni ci)).1
        obtain ⟨g', hg', hb⟩ := own_block0' HJ5.out.own (by have := HIL.out; omega)
        injection hg' with hg'
        injection hg' with hg'
        subst hg'
        have b1 := (HJ5.out.bl.setCell (p := ⟨g, i', none⟩) hb (.slice Ak nk ck)).setCell (p := ⟨g, k', none⟩) hb (.slice Ai ni ci)
        exact ⟨b1.trans (((Gr.refl _).drew).below.mono b1.size), own_keep h2 ((Gr.refl _).drew).below (Nat.le_refl _)⟩
      have HS := hide hs
      clear hs
      go_region
      all_goals go_wp2_with fail
      all_goals go_meet
      all_goals exact HS
  case rest => as_aux_lemma =>
    have HJ6 := hcut
    obtain ⟨w6, rfl⟩ : ∃ w6, w6 = wc := ⟨_, rfl⟩
    clear hcut HJ5
    have HLM : Hid (∀ w1, Below w6.heap.size w6 w1 → ListsAt w1.heap.size w1 (some ⟨g, 0, none⟩) n (swapL ls i' k')) := fun w1 hb =>
      (lists_of_own HJ6.out.own (HRS.out.now HJ6.out.bl)).now hb (Nat.le_refl _)
    have HRM : Hid (∀ w1, Below w6.heap.size w6 w1 → Calls Tryd.prog 18 #[.slice (some ⟨g, 0, none⟩) n c1] w1 (RootP (pRootV (swapL ls i' k')) w1)) := fun w1 hb =>
      pRoot_any (some ⟨g, 0, none⟩) n c1 (swapL ls i' k') w1 (HLM.out w1 hb) (by have := HIL.out; omega) (own_addr HJ6.out.own).1
    have HIM : Hid (∀ w1, Below w6.heap.size w6 w1 → Calls Tryd.prog 28 #[.slice (some ⟨g, 0, none⟩) n c1, .int .i64 i'] w1 (TwoSteps (pIncludeV (swapL ls i' k') i') w1)) := fun w1 hb =>
      pInclude_any (some ⟨g, 0, none⟩) n c1 (swapL ls i' k') i' w1 (HLM.out w1 hb) (by have := HIL.out; omega) (own_addr HJ6.out.own).1
    have hsl := swap_long HIL.out.1 HIL.out.2.1
    have hB6 := HJ6.out.bl
    cases hlg : longB ls
    · rw [hlg] at hsl
      have e1 : pRootV ls = (rootV ls, 0) := by unfold pRootV; rw [hlg, if_neg (by decide)]
      have e2 : pRootV (swapL ls i' k') = (rootV (swapL ls i' k'), 0) := by unfold pRootV; rw [hsl, if_neg (by decide)]
      obtain ⟨R, hR⟩ : ∃ R, rootV ls = R := ⟨_, rfl⟩
      obtain ⟨T, hT⟩ : ∃ T, rootV (swapL ls i' k') = T := ⟨_, rfl⟩
      have C6 : Hid (Calls Tryd.prog 18 #[.slice (some ⟨bb, off, none⟩) n c] w6 fun e w' => e = .returned (.tuple #[.int .u64 R, .int .i64 0]) ∧ Below w6.heap.size w6 w') := by
        have := HRO.out w6 hB6
        rw [e1, hR] at this
        exact this
      have C7 : Hid (∀ w1, Below w6.heap.size w6 w1 → Calls Tryd.prog 18 #[.slice (some ⟨g, 0, none⟩) n c1] w1 fun e w' => e = .returned (.tuple #[.int .u64 T, .int .i64 0]) ∧ Below w1.heap.size w1 w') := fun w1 hb => by
        have := HRM.out w1 hb
        rw [e2, hT] at this
        exact this
      have HRR := hide hR
      have HTT := hide hT
      have HLG := hide hlg
      have HSL := hide hsl
      clear hsl e1 e2 hR hT hlg hB6
      go_wp2_with fail
      refine C6.out.mono ?_
      rintro e w7 ⟨rfl, hb⟩
      have HJ7 := hide (HJ6.out.later hb)
      have HB7 := hide hb
      have D7 := hide (C7.out w7 hb)
      clear hb C6 C7
      go_wp2_with fail
      refine D7.out.mono ?_
      rintro e w8 ⟨rfl, hb⟩
      have HJ8 := hide (HJ7.out.later hb)
      have HB8 := hide (HB7.out.trans (hb.mono HB7.out.size))
      clear hb D7
      obtain ⟨be, hbe⟩ : ∃ be : Bool, be = decide (ls.getD i' [] = ls.getD k' []) := ⟨_, rfl⟩
      have HBE := hide hbe
      clear hbe
      go_upto_region 10 with fail
      go_cut [90] (fun sv wx => sv = .bool be ∧ Hid (OrderI w wx g n c1 ((vs.set i' (.slice Ak nk ck)).set k' (.slice Ai ni ci)) ∧ Below w6.heap.size w6 wx))
      case first => as_aux_lemma =>
        have hB := HKB.out.now HJ8.out.bl (Nat.le_refl _)
        have hO := HKB2.out.now HJ8.out.bl (Nat.le_refl _)
        have k4 := (HJ8.out.bl.cell (p := ⟨bb, off + i', none⟩) (own_lt1 HKI.out)).trans HKI.out
        have k5 := (HJ8.out.bl.cell (p := ⟨bb, off + k', none⟩) (own_lt1 HKI.out)).trans HKK.out
        have r1 : ∀ nq, (w8.drewN nq).cell? ⟨bb, off + i', none⟩ = some (.slice Ai ni ci) := fun _ => k4
        have r2 : ∀ nq, (w8.drewN nq).cell? ⟨bb, off + k', none⟩ = some (.slice Ak nk ck) := fun _ => k5
        have q1 : ∀ nq, (convert 23 9 (.slice Ai ni ci)).run Tryd.prog (w8.drewN nq) = .ok (.string (strOfNums (numsB (ls.getD i' [])))) (w8.drewN nq) := fun nq => conv_any (hB.now ((Gr.refl w8).drewN nq).below (Nat.le_refl _)) ci
        have q2 : ∀ nq, (convert 23 9 (.slice Ak nk ck)).run Tryd.prog (w8.drewN nq) = .ok (.string (strOfNums (numsB (ls.getD k' [])))) (w8.drewN nq) := fun nq => conv_any (hO.now ((Gr.refl w8).drewN nq).below (Nat.le_refl _)) ck
        have hsb := strB_beq (ls.getD i' []) (ls.getD k' [])
        unfold strB at hsb
        obtain ⟨t1, ht1⟩ : ∃ s, strOfNums (numsB (ls.getD i' [])) = s := ⟨_, rfl⟩
        obtain ⟨t2, ht2⟩ : ∃ s, strOfNums (numsB (ls.getD k' [])) = s := ⟨_, rfl⟩
        simp only [ht1] at q1
        simp only [ht2] at q2
        rw [ht1, ht2, ← HBE.out] at hsb
        clear ht1 ht2 hB hO k4 k5
        go_wp2_with fail
        go_quiet (fail)
        go_wp2_with fail
        go_meet
        exact ⟨rfl, HJ8.out.later ((Gr.refl w8).drewN nq).below, HB8.out.trans (((Gr.refl w8).drewN nq).below.mono HB8.out.size)⟩
      case rest => as_aux_lemma =>
        obtain ⟨rfl, HJ9⟩ := hcut
        obtain ⟨w9, rfl⟩ : ∃ w9, w9 = wc := ⟨_, rfl⟩
        clear HJ8 HB8 HB7 HJ7
        have HAL := hide (alive_env (HE.out.after HJ9.out.1.bl))
        cases be
        · have hne : ls.getD i' [] ≠ ls.getD k' [] := of_decide_eq_false HBE.out.symm
          by_cases hRT : R = T
          · subst hRT
            have e3 : pIncludeV ls (i' : Int) = (stepsV ls i', 0) := by unfold pIncludeV; rw [HLG.out, if_neg (by decide), if_neg (by have := HIL.out; omega)]; rfl
            have e4 : pIncludeV (swapL ls i' k') (i' : Int) = (stepsV (swapL ls i' k') i', 0) := by unfold pIncludeV; rw [HSL.out, if_neg (by decide), swap_len, if_neg (by have := HIL.out; omega)]; rfl
            have hacc := swap_blame HIL.out.1 HIL.out.2.1 (long_false HLG.out) (by have := HIL.out; omega) hne (by rw [HTT.out, HRR.out])
            rw [HIL.out.2.2.1] at hacc
            have hb1 := steps_bound ls i'
            have hb2 := steps_bound (swapL ls i' k') i'
            have hl1 : (stepsV ls i').length ≤ 1000000 := by have := steps_len ls i'; have := HIL.out; omega
            have hl2 : (stepsV (swapL ls i' k') i').length ≤ 1000000 := by have := steps_len (swapL ls i' k') i'; rw [swap_len] at this; have := HIL.out; omega
            obtain ⟨L1, hL1⟩ : ∃ L, stepsV ls i' = L := ⟨_, rfl⟩
            obtain ⟨L2, hL2⟩ : ∃ L, stepsV (swapL ls i' k') i' = L := ⟨_, rfl⟩
            rw [hL1] at e3 hacc hb1 hl1
            rw [hL2] at e4 hacc hb2 hl2
            obtain ⟨p1, hp1⟩ : ∃ p, L1.length = p := ⟨_, rfl⟩
            obtain ⟨p2, hp2⟩ : ∃ p, L2.length = p := ⟨_, rfl⟩
            have C9 : Hid (Calls Tryd.prog 28 #[.slice (some ⟨bb, off, none⟩) n c, .int .i64 i'] w9 fun e w' => ∃ a c, e = .returned (.tuple #[.slice a p1 c, .int .i64 0]) ∧ w'.ownsRow w9.heap.size 41 2 (.slice a p1 c) p1 (cellsS L1) ∧ Below w9.heap.size w9 w') := by
              have := HI.out w9 HJ9.out.1.bl
              rw [e3] at this
              rw [← hp1]
              exact this
            have C10 : Hid (∀ w1, Below w9.heap.size w9 w1 → Calls Tryd.prog 28 #[.slice (some ⟨g, 0, none⟩) n c1, .int .i64 i'] w1 fun e w' => ∃ a c, e = .returned (.tuple #[.slice a p2 c, .int .i64 0]) ∧ w'.ownsRow w1.heap.size 41 2 (.slice a p2 c) p2 (cellsS L2) ∧ Below w1.heap.size w1 w') := fun w1 hb => by
              have := HIM.out w1 (HJ9.out.2.trans (hb.mono HJ9.out.2.size))
              rw [e4] at this
              rw [← hp2]
              exact this
            rw [hp1] at hl1
            rw [hp2] at hl2
            have HBD := hide (And.intro hb1 (And.intro hb2 (And.intro hl1 hl2)))
            have HACC := hide hacc
            have z : ((R : Int) != (R : Int)) = false := by simp
            clear e3 e4 hacc hb1 hb2 hl1 hl2 hp1 hp2 hL1 hL2 hne
            go_wp2_with fail
            refine C9.out.mono ?_
            rintro e w10 ⟨a10, c10, rfl, ho, hb⟩
            have HS10 : Hid (StepsAt w10.heap.size w10 a10 p1 L1) := steps_of_own ho HBD.out.1
            have HB10 := hide hb
            have D10 := hide (C10.out w10 hb)
            clear ho hb C9 C10
            go_wp2_with fail
            refine D10.out.mono ?_
            rintro e w11 ⟨a11, c11, rfl, ho, hb⟩
            have HT11 : Hid (StepsAt w11.heap.size w11 a11 p2 L2) := steps_of_own ho HBD.out.2.1
            have HS11 := hide (HS10.out.now hb (Nat.le_refl _))
            have HJ11 := hide (HJ9.out.1.later (HB10.out.trans (hb.mono HB10.out.size)))
            clear ho hb D10 HS10 HB10
            have AL : Hid (∀ w', Below w11.heap.size w11 w' → Calls Tryd.prog 17 #[] w' (TrueP w')) := fun w' hb => alive_env (HE.out.after (HJ11.out.later hb).bl)
            have C11 : Hid (∀ w', Below w11.heap.size w11 w' → Calls Tryd.prog 51 #[.int .i64 i', .int .i64 n, .slice Ai ni ci, .slice a10 p1 c10, .slice Ak nk ck, .slice a11 p2 c11] w' fun e w'' => e = .returned (.bool true) ∧ Below w11.heap.size w11 w'') := fun w' hbq => by
              have hJq := HJ11.out.later hbq
              have := blamed_any i' n Ai ni ci (ls.getD i' []) a10 p1 c10 L1 Ak nk ck (ls.getD k' []) a11 p2 c11 L2 w' (HKB.out.now hJq.bl (Nat.le_refl _)) (HS11.out.now hbq (Nat.le_refl _)) HBD.out.2.2.1 (HKB2.out.now hJq.bl (Nat.le_refl _)) (HT11.out.now hbq (Nat.le_refl _)) HBD.out.2.2.2
              rw [decide_eq_true HACC.out] at this
              exact this.mono fun e w'' h => ⟨h.1, hbq.trans (h.2.mono hbq.size)⟩
            have HD := hide (((Gr.refl w11).drew).below)
            have KK : Hid (∀ w', Below w11.heap.size w11 w' → w'.cell? ⟨bb, off + i', none⟩ = some (.slice Ai ni ci) ∧ w'.cell? ⟨g, i', none⟩ = some (.slice Ak nk ck)) := fun w' hb => by
              have hJq := HJ11.out.later hb
              refine ⟨(hJq.bl.cell (p := ⟨bb, off + i', none⟩) (own_lt1 HKI.out)).trans HKI.out, ?_⟩
              have := hJq.own.cellAt i' (by have := HIL.out; omega)
              rw [List.getElem?_set, List.getElem?_set] at this
              have hvl : i' < vs.length := by
                rcases Nat.lt_or_ge i' vs.length with h | h
                · exact h
                · have := HVI.out; rw [List.getElem?_eq_none h] at this; cases this
              split at this
              · rename_i e1
                subst e1
                rw [if_pos (by rw [List.length_set]; exact hvl)] at this
                have e := HVI.out.symm.trans HVK.out
                rw [this, e]
              · simp [hvl] at this
                exact this
            clear HT11 HS11 HAL
            go_wp2_with fail
            go_region_held3 (fun w' => w'.cell? ⟨bb, off + i', none⟩ = some (.slice Ai ni ci) ∧ w'.cell? ⟨g, i', none⟩ = some (.slice Ak nk ck)) (first | exact KK.out _ HD.out | exact KK.out _ HB12.out | exact KK.out _ HB13.out) (first | (go_at_call 51; (with_reducible refine (C11.out _ HD.out).mono ?_); rintro e w12 ⟨rfl, hb12⟩; have HB12 := hide hb12; clear hb12) | (go_at_call 17; (with_reducible refine (AL.out _ HB12.out).mono ?_); rintro e w13 ⟨rfl, hb13⟩; have HB13 := hide (HB12.out.trans (hb13.mono HB12.out.size)); clear hb13))
            go_wp2_with fail
            go_ret
            exact ⟨rfl, HJ11.out.bl.trans (HB13.out.mono HJ11.out.bl.size)⟩
          · have z : ((R : Int) != (T : Int)) = true := bne_iff_ne.2 (by omega)
            clear hRT hne
            go_wp2_with fail
            refine HAL.out.mono ?_
            rintro e w10 ⟨rfl, hb⟩
            go_wp2_with fail
            go_ret
            exact ⟨rfl, HJ9.out.1.bl.trans (hb.mono HJ9.out.1.bl.size)⟩
        · have he : ls.getD i' [] = ls.getD k' [] := of_decide_eq_true HBE.out.symm
          have hs := swap_same HIL.out.1 HIL.out.2.1 he
          obtain rfl : R = T := by rw [← HRR.out, ← HTT.out, hs]
          have z : ((R : Int) == (R : Int)) = true := by simp
          clear he hs
          go_wp2_with fail
          refine HAL.out.mono ?_
          rintro e w10 ⟨rfl, hb⟩
          go_wp2_with fail
          go_ret
          exact ⟨rfl, HJ9.out.1.bl.trans (hb.mono HJ9.out.1.bl.size)⟩
    · rw [hlg] at hsl
      have e1 : pRootV ls = (0, 3) := by unfold pRootV; rw [hlg, if_pos rfl]
      have e2 : pRootV (swapL ls i' k') = (0, 3) := by unfold pRootV; rw [hsl, if_pos rfl]
      have C6 : Hid (Calls Tryd.prog 18 #[.slice (some ⟨bb, off, none⟩) n c] w6 fun e w' => e = .returned (.tuple #[.int .u64 0, .int .i64 3]) ∧ Below w6.heap.size w6 w') := by
        have := HRO.out w6 hB6
        rw [e1] at this
        exact this
      have C7 : Hid (∀ w1, Below w6.heap.size w6 w1 → Calls Tryd.prog 18 #[.slice (some ⟨g, 0, none⟩) n c1] w1 fun e w' => e = .returned (.tuple #[.int .u64 0, .int .i64 3]) ∧ Below w1.heap.size w1 w') := fun w1 hb => by
        have := HRM.out w1 hb
        rw [e2] at this
        exact this
      clear hsl e1 e2 hlg hB6
      go_wp2_with fail
      refine C6.out.mono ?_
      rintro e w7 ⟨rfl, hb⟩
      have HJ7 := hide (HJ6.out.later hb)
      have D7 := hide (C7.out w7 hb)
      clear hb C6 C7
      go_wp2_with fail
      refine D7.out.mono ?_
      rintro e w8 ⟨rfl, hb⟩
      have HJ8 := hide (HJ7.out.later hb)
      have HAL := hide (alive_env (HE.out.after HJ8.out.bl))
      clear hb D7
      go_wp2_with fail
      refine HAL.out.mono ?_
      rintro e w10 ⟨rfl, hb⟩
      go_wp2_with fail
      go_ret
      exact ⟨rfl, HJ8.out.bl.trans (hb.mono HJ8.out.bl.size)⟩
end Go.Proofs.YtbinmkigolkhcaaDoor
