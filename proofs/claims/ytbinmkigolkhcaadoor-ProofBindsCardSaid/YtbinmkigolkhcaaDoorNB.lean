/- ProofBinds. -/
import Derived.Test.YtbinmkigolkhcaaDoorNA
import Derived.Deep.DeepCutAuto
import Derived.Deep.RegionHeld3
import Derived.StillTailTactics
import Derived.Laws.OwnMore
set_option linter.unusedSimpArgs false
set_option linter.unusedVariables false
namespace Go.Proofs.YtbinmkigolkhcaaDoor
open Go.RowKit Go.Sort
attribute [local go_sem] Oper.semAt_some

/-- the world behind Include: its row of steps is there -/
structure BindI (w wx : World) (S : Option Addr) (p cS : Nat) (L : List St) : Prop where
  bl : Below w.heap.size w wx
  own : wx.ownsRow w.heap.size 41 2 (.slice S p cS) p (cellsS L)
theorem BindI.later {w wx w' : World} {S : Option Addr} {p cS : Nat} {L : List St} (h : BindI w wx S p cS L) (hb : Below wx.heap.size wx w') : BindI w w' S p cS L :=
  ⟨h.bl.trans (hb.mono h.bl.size), own_keep h.own hb (Nat.le_refl _)⟩

theorem own_lt0 {w : World} {b k : Nat} {v : Value} (h : w.cell? ⟨b, k, none⟩ = some v) : b < w.heap.size := by
  unfold World.cell? at h
  rcases Nat.lt_or_ge b w.heap.size with h1 | h1
  · exact h1
  · rw [Array.getElem?_eq_none h1] at h
    cases h
theorem shift_nat (bit : Int) : ∃ b v : Nat, (IntKind.u64.wrap bit).tmod 64 = ((b : Nat) : Int) ∧ IntKind.u64.wrap (2 ^ min b 64) = (v : Int) ∧ 0 < v ∧ v < 18446744073709551616 := by
  have h : 0 ≤ IntKind.u64.wrap bit := by rw [IntKind.wrap_u64]; omega
  obtain ⟨k, hk⟩ : ∃ k : Nat, IntKind.u64.wrap bit = k := ⟨(IntKind.u64.wrap bit).toNat, by omega⟩
  rw [hk]
  obtain ⟨v, h1, h2, h3⟩ := flip_val k
  refine ⟨k % 64, v, by rfl, ?_, h2, h3⟩
  rw [Nat.min_eq_left (by have := Nat.mod_lt k (show 0 < 64 by decide); omega)]
  exact h1
theorem rem_nat (a : Int) {n : Nat} (h0 : 0 < n) (h1 : n ≤ 1000000) : ∃ j : Nat, j < n ∧ IntKind.u64.wrap (n : Int) = (n : Int) ∧ (IntKind.u64.wrap a).tmod (n : Int) = (j : Int) ∧ wrap64 (j : Int) = (j : Int) := by
  have h : 0 ≤ IntKind.u64.wrap a := by rw [IntKind.wrap_u64]; omega
  obtain ⟨k, hk⟩ : ∃ k : Nat, IntKind.u64.wrap a = k := ⟨(IntKind.u64.wrap a).toNat, by omega⟩
  rw [hk]
  have hl := Nat.mod_lt k h0
  refine ⟨k % n, hl, ?_, by rfl, ?_⟩
  · rw [IntKind.wrap_u64]; omega
  · unfold wrap64
    omega
theorem own_block0 {w : World} {base k c : Nat} {e : TypeId} {size : Nat} {a : Option Addr} {xs : List Value} (h : w.ownsRow base e size (.slice a k c) k xs) (hk : 0 < k) : ∃ g, a = some ⟨g, 0, none⟩ ∧ base ≤ g := by
  rcases h.2 with ⟨_, h0⟩ | ⟨g, cap, cur, hv, hb, _⟩
  · omega
  · injection hv with h1 h2 h3
    exact ⟨g, h1, hb⟩
theorem cellsS_set : ∀ (ss : List St) (q : Nat) (b : Bool), q < ss.length → (cellsS ss).set (q * 2 + 1) (.bool b) = cellsS (ss.set q (stH ss q, b))
  | [], q, b, h => by simp at h
  | s :: ss, 0, b, h => rfl
  | s :: ss, q + 1, b, h => by
    have e : (q + 1) * 2 + 1 = (q * 2 + 1) + 1 + 1 := by omega
    have ih := cellsS_set ss q b (by simpa using h)
    rw [e]
    show _ :: _ :: (cellsS ss).set (q * 2 + 1) (.bool b) = _ :: _ :: cellsS (ss.set q (stH ss q, b))
    rw [ih]
set_option maxHeartbeats 4000000 in
set_option maxRecDepth 100000 in
theorem binds_law (A : Option Addr) (n c : Nat) (ls : List (List UInt8)) (i : Int) (O : Option Addr) (m d : Nat) (o : List UInt8) (at_ bit : Int) (w : World) (hE : Env w) (hx : ListsIn w.heap.size w A n ls) (hc : n ≤ c) (hn : n ≤ 9223372036854775807) (ho : BytesAt w.heap.size w O m o) :
    Calls Tryd.prog 10 #[.slice A n c, .int .i64 i, .slice O m d, .int .i64 at_, .int .i64 bit] w (TrueP w) := by
  have mixed := mixedOrders
  have HF := hide (few_any A n c ls w hx hn)
  have HA := hide (alive_env hE)
  cases hf : fewB ls
  · rw [hf] at HF
    clear hf hx hc hn hE ho
    go_enter Tryd.func10, Tryd.ntmps10
    go_wp2_with fail
    refine HF.out.mono ?_
    rintro e w1 ⟨rfl, rfl⟩
    go_wp2_with fail
    refine HA.out.mono ?_
    rintro e w1 ⟨rfl, hb⟩
    go_wp2_with fail
    go_ret
    exact ⟨rfl, hb⟩
  rw [hf] at HF
  obtain ⟨h1, h2⟩ := few_true hf
  have hlen := hx.1
  have hol := ho.1
  by_cases hm : 256 < m
  · have gm : (256 : Int) < (m : Int) := by omega
    clear hf hx hc hn hE ho h1 h2 hlen hol hm
    go_enter Tryd.func10, Tryd.ntmps10
    go_wp2_with fail
    refine HF.out.mono ?_
    rintro e w1 ⟨rfl, rfl⟩
    go_wp2_with fail
    refine HA.out.mono ?_
    rintro e w1 ⟨rfl, hb⟩
    go_wp2_with fail
    go_ret
    exact ⟨rfl, hb⟩
  have gm : ¬ (256 : Int) < (m : Int) := by omega
  have hX := hx.to (fun l hl => Nat.le_trans (h2 l hl) (by decide))
  have HRO := hide (pRoot_any A n c ls w hX (by omega) hc)
  have HI : Hid (∀ i w1, Below w.heap.size w w1 → Calls Tryd.prog 28 #[.slice A n c, .int .i64 i] w1 (TwoSteps (pIncludeV ls i) w1)) := fun i w1 hb => pInclude_any A n c ls i w1 (hX.now hb (Nat.le_refl _)) (by omega) hc
  have HE := hide hE
  cases hlg : longB ls
  · have HLG := hide hlg
    by_cases k1 : i < 0 ∨ (n : Int) ≤ i
    · have e1 : pRootV ls = (rootV ls, 0) := by unfold pRootV; rw [hlg, if_neg (by decide)]
      have e2 : pIncludeV ls i = ([], 6) := by unfold pIncludeV; rw [hlg, if_neg (by decide), hlen, if_pos k1]
      obtain ⟨R, hR⟩ : ∃ R, rootV ls = R := ⟨_, rfl⟩
      rw [e1, hR] at HRO
      have HI1 : Hid (∀ w1, Below w.heap.size w w1 → Calls Tryd.prog 28 #[.slice A n c, .int .i64 i] w1 (TwoSteps ([], 6) w1)) := fun w1 hb => by
        have := HI.out i w1 hb
        rw [e2] at this
        exact this
      have HRO1 : Hid (Calls Tryd.prog 18 #[.slice A n c] w fun e w' => e = .returned (.tuple #[.int .u64 R, .int .i64 0]) ∧ Below w.heap.size w w') := HRO.out
      clear hf hx hc hn hE ho h1 h2 hlen hol hm hX hlg e1 e2 HRO HI HA hR k1
      go_enter Tryd.func10, Tryd.ntmps10
      go_wp2_with fail
      refine HF.out.mono ?_
      rintro e w1 ⟨rfl, rfl⟩
      go_wp2_with fail
      refine HRO1.out.mono ?_
      rintro e w2 ⟨rfl, hb2⟩
      have C2 := hide (HI1.out w2 hb2)
      have HB2 := hide hb2
      clear hb2
      go_wp2_with fail
      refine C2.out.mono ?_
      rintro e w3 ⟨a3, c3, rfl, ho, hb⟩
      have HB3 := hide (HB2.out.trans (hb.mono HB2.out.size))
      have HAL := hide (alive_env (HE.out.after HB3.out))
      clear ho hb C2
      go_wp2_with fail
      refine HAL.out.mono ?_
      rintro e w6 ⟨rfl, hb6⟩
      go_wp2_with fail
      go_ret
      exact ⟨rfl, HB3.out.trans (hb6.mono HB3.out.size)⟩
    obtain ⟨i', rfl⟩ : ∃ k : Nat, i = k := ⟨i.toNat, by omega⟩
    have hi' : i' < n := by omega
    have hil : i' < ls.length := by omega
    have hl256 := long_false hlg
    have hn4 : ls.length ≤ 4096 := by omega
    have e1 : pRootV ls = (rootV ls, 0) := by unfold pRootV; rw [hlg, if_neg (by decide)]
    have e2 : ∀ j : Nat, j < n → pIncludeV ls (j : Int) = (stepsV ls j, 0) := fun j hj => by unfold pIncludeV; rw [hlg, if_neg (by decide), hlen, if_neg (by omega)]; rfl
    have b1 : ∀ r, r ≠ rootV ls → includedV (ls.getD i' []) i' n r (stepsV ls i') = (false, 0) := fun r hr => by rw [← hlen]; exact bind_root hil hl256 hn4 hr
    have b2 : o ≠ ls.getD i' [] → ∃ b, includedV o i' n (rootV ls) (stepsV ls i') = (b, 0) ∧ (b = true → accE i' n (ls.getD i' []) (stepsV ls i') o (stepsV ls i') = 0) := fun h => by rw [← hlen]; exact bind_other hil hl256 hn4 (by omega) h
    have b3 : ∀ j, j < n → ls.getD j [] ≠ ls.getD i' [] → ∃ b, includedV (ls.getD i' []) j n (rootV ls) (stepsV ls i') = (b, 0) ∧ (b = true → accE j n (ls.getD j []) (stepsV ls j) (ls.getD i' []) (stepsV ls i') = 0) := fun j hj h => by rw [← hlen]; exact bind_place hil (by omega) hl256 hn4 h
    have b4 : ∀ q r, q < (stepsV ls i').length → includedV (ls.getD i' []) i' n r (flipS (stepsV ls i') q) = (false, 0) := fun q r hq => by rw [← hlen]; exact bind_side hil hl256 hn4 hq
    have hbd := steps_bound ls i'
    have hln := steps_len ls i'
    have hrl := rootV_lt ls
    obtain ⟨bb, off, -, -, -, rfl, -, -, -, -⟩ := hx.at_ (i := i') hi'
    have hat : ∀ j, j < n → ∃ Aj nj cj, w.cell? ⟨bb, off + j, none⟩ = some (.slice Aj nj cj) ∧ BytesAt w.heap.size w Aj nj (ls.getD j []) := fun j hj => by
      obtain ⟨b2, off2, Aj, nj, cj, e, -, k2, k3, -⟩ := hx.at_ (i := j) hj
      injection e with e
      injection e with e3 e4
      subst e3; subst e4
      exact ⟨Aj, nj, cj, k2, k3⟩
    obtain ⟨R, hR⟩ : ∃ R, rootV ls = R := ⟨_, rfl⟩
    obtain ⟨L, hL⟩ : ∃ L, stepsV ls i' = L := ⟨_, rfl⟩
    have HI1 : Hid (∀ j : Nat, j < n → ∀ w1, Below w.heap.size w w1 → Calls Tryd.prog 28 #[.slice (some ⟨bb, off, none⟩) n c, .int .i64 j] w1 (TwoSteps (stepsV ls j, 0) w1)) := fun j hj w1 hb => by
      have := HI.out j w1 hb
      rw [e2 j hj] at this
      exact this
    rw [hR] at e1 b1 b2 b3 hrl
    rw [hL] at b1 b2 b3 b4 hbd hln
    rw [e1] at HRO
    have HRO1 : Hid (Calls Tryd.prog 18 #[.slice (some ⟨bb, off, none⟩) n c] w fun e w' => e = .returned (.tuple #[.int .u64 R, .int .i64 0]) ∧ Below w.heap.size w w') := HRO.out
    have HL2 : Hid (∀ w1, Below w.heap.size w w1 → Calls Tryd.prog 28 #[.slice (some ⟨bb, off, none⟩) n c, .int .i64 i'] w1 (TwoSteps (L, 0) w1)) := fun w1 hb => by rw [← hL]; exact HI1.out i' hi' w1 hb
    obtain ⟨p, hp⟩ : ∃ p, L.length = p := ⟨_, rfl⟩
    have HL3 : Hid (∀ w1, Below w.heap.size w w1 → Calls Tryd.prog 28 #[.slice (some ⟨bb, off, none⟩) n c, .int .i64 i'] w1 fun e w' => ∃ a c, e = .returned (.tuple #[.slice a p c, .int .i64 0]) ∧ w'.ownsRow w1.heap.size 41 2 (.slice a p c) p (cellsS L) ∧ Below w1.heap.size w1 w') := fun w1 hb => by rw [← hp]; exact HL2.out w1 hb
    have HP := hide hp
    have HBD := hide hbd
    have HPN : Hid (p ≤ 1000000) := by show p ≤ _; omega
    have HB1 := hide b1
    have HB2 := hide b2
    have HB3 := hide b3
    have HB4 := hide b4
    have HAT := hide hat
    have HO := hide ho
    have HRL := hide hrl
    have HN := hide (And.intro hi' (And.intro (show n ≤ 100 by omega) hc))
    have HLI := hide hL
    have HLE := hide (show ls.length ≤ 100 from h1)
    obtain ⟨Ai, ni, ci, ki, kb⟩ := hat i' hi'
    have KI := hide ki
    have KB := hide kb
    clear hf hx hc hn hE ho h1 h2 hlen hol hm hX hlg e1 e2 HRO HI HA hR k1 hi' hil hl256 hn4 b1 b2 b3 b4 hbd hln hrl hat hL HL2 hp ki kb
    go_enter Tryd.func10, Tryd.ntmps10
    go_wp2_with fail
    refine HF.out.mono ?_
    rintro e w1 ⟨rfl, rfl⟩
    go_wp2_with fail
    refine HRO1.out.mono ?_
    rintro e w2 ⟨rfl, hb2⟩
    have C2 := hide (HL3.out w2 hb2)
    have HBa := hide hb2
    clear hb2
    go_wp2_with fail
    refine C2.out.mono ?_
    rintro e w3 ⟨S, cS, rfl, hown, hb⟩
    have HJ3 : Hid (BindI w w3 S p cS L) := ⟨HBa.out.trans (hb.mono HBa.out.size), own_keep hown (Below.refl _ _) HBa.out.size⟩
    clear hown hb C2 HL3 HRO1 HF HBa
    obtain ⟨bs, v, hbs, hv1, hv2, hv3⟩ := shift_nat bit
    have hbs0 : ¬ (bs : Int) < 0 := by omega
    have HXR : Hid (bits .xor .u64 (R : Int) (v : Int) = ((R ^^^ v : Nat) : Int)) := bits_xor_u64_nat R v HRL.out hv3
    have HV1 := hide hv1
    have C3 : Hid (Calls Tryd.prog 32 #[.slice Ai ni ci, .int .i64 i', .int .i64 n, .int .u64 (R ^^^ v : Nat), .slice S p cS] w3 fun e w' => e = .returned (.tuple #[.bool false, .int .i64 0]) ∧ Below w3.heap.size w3 w') := by
      have := Included_any Ai ni ci (ls.getD i' []) i' n (R ^^^ v) S p cS L w3 (KB.out.now HJ3.out.bl (Nat.le_refl _)) (steps_of_own HJ3.out.own HBD.out) HPN.out
      rw [HB1.out _ (xor_ne hv2)] at this
      exact this
    clear hv1 hv2 hv3
    go_upto_region 9 with fail
    have k3 := (HJ3.out.bl.cell (p := ⟨bb, off + i', none⟩) (own_lt0 KI.out)).trans KI.out
    have gi : (i' : Int) < (n : Int) := by have := HN.out.1; omega
    clear hbs hbs0
    rw [HV1.out]
    go_wp2_with fail
    rw [HXR.out]
    refine C3.out.mono ?_
    rintro e w4 ⟨rfl, hb⟩
    have HJ4 := hide (HJ3.out.later hb)
    clear hb HJ3 C3 HV1 HXR k3
    obtain ⟨be, hbe⟩ : ∃ be : Bool, be = decide (o ≠ ls.getD i' []) := ⟨_, rfl⟩
    have HBE := hide hbe
    clear hbe
    go_upto_region 12 with fail
    go_cut [80] (fun sv wx => sv = .bool be ∧ Hid (BindI w wx S p cS L))
    case first =>
      as_aux_lemma =>
        have hB := KB.out.now HJ4.out.bl (Nat.le_refl _)
        have hO := HO.out.now HJ4.out.bl (Nat.le_refl _)
        have k4 := (HJ4.out.bl.cell (p := ⟨bb, off + i', none⟩) (own_lt0 KI.out)).trans KI.out
        have r1 : ∀ nq, (w4.drewN nq).cell? ⟨bb, off + i', none⟩ = some (.slice Ai ni ci) := fun _ => k4
        have q1 : ∀ nq, (convert 23 9 (.slice Ai ni ci)).run Tryd.prog (w4.drewN nq) = .ok (.string (strOfNums (numsB (ls.getD i' [])))) (w4.drewN nq) := fun nq => conv_any (hB.now ((Gr.refl w4).drewN nq).below (Nat.le_refl _)) ci
        have q2 : ∀ nq, (convert 23 9 (.slice O m d)).run Tryd.prog (w4.drewN nq) = .ok (.string (strOfNums (numsB o))) (w4.drewN nq) := fun nq => conv_any (hO.now ((Gr.refl w4).drewN nq).below (Nat.le_refl _)) d
        have hsb := strB_beq o (ls.getD i' [])
        unfold strB at hsb
        obtain ⟨t1, ht1⟩ : ∃ s, strOfNums (numsB (ls.getD i' [])) = s := ⟨_, rfl⟩
        obtain ⟨t2, ht2⟩ : ∃ s, strOfNums (numsB o) = s := ⟨_, rfl⟩
        simp only [ht1] at q1
        simp only [ht2] at q2
        rw [ht1, ht2] at hsb
        have y : (t2.toList == t1.toList) = !be := by
          rw [hsb, HBE.out]
          by_cases h : o = ls.getD i' [] <;> simp [h]
        clear hsb ht1 ht2 hB hO k4
        go_wp2_with fail
        go_quiet (fail)
        go_wp2_with fail
        go_meet
        exact ⟨rfl, HJ4.out.later ((Gr.refl w4).drewN nq).below⟩
    case rest =>
      as_aux_lemma =>
        obtain ⟨rfl, HJ5⟩ := hcut
        clear HJ4
        obtain ⟨w5, rfl⟩ : ∃ w5, w5 = wc := ⟨_, rfl⟩
        go_upto_if 80 with fail
        go_cut [] (fun wx => Hid (BindI w wx S p cS L))
        case first =>
          as_aux_lemma =>
            cases be
            · go_wp2_with fail
              go_meet
              exact HJ5
            · obtain ⟨b, eb, ab⟩ := HB2.out (of_decide_eq_true HBE.out.symm)
              have C5 : Hid (Calls Tryd.prog 32 #[.slice O m d, .int .i64 i', .int .i64 n, .int .u64 R, .slice S p cS] w5 fun e w' => e = .returned (.tuple #[.bool b, .int .i64 0]) ∧ Below w5.heap.size w5 w') := by
                have := Included_any O m d o i' n R S p cS L w5 (HO.out.now HJ5.out.bl (Nat.le_refl _)) (steps_of_own HJ5.out.own HBD.out) HPN.out
                rw [eb] at this
                exact this
              have HAB := hide ab
              clear eb ab
              go_wp2_with fail
              refine C5.out.mono ?_
              rintro e w6 ⟨rfl, hb⟩
              have HJ6 := hide (HJ5.out.later hb)
              clear hb C5 HJ5
              cases b
              · go_wp2_with fail
                go_meet
                exact HJ6
              · have C6 : Hid (Calls Tryd.prog 51 #[.int .i64 i', .int .i64 n, .slice Ai ni ci, .slice S p cS, .slice O m d, .slice S p cS] w6 fun e w' => e = .returned (.bool true) ∧ Below w6.heap.size w6 w') := by
                  have hst := steps_of_own HJ6.out.own HBD.out
                  have := blamed_any i' n Ai ni ci (ls.getD i' []) S p cS L O m d o S p cS L w6 (KB.out.now HJ6.out.bl (Nat.le_refl _)) hst HPN.out (HO.out.now HJ6.out.bl (Nat.le_refl _)) hst HPN.out
                  rw [decide_eq_true (HAB.out rfl)] at this
                  exact this
                have k6 := (HJ6.out.bl.cell (p := ⟨bb, off + i', none⟩) (own_lt0 KI.out)).trans KI.out
                go_wp2_with fail
                refine C6.out.mono ?_
                rintro e w7 ⟨rfl, hb⟩
                have HJ7 := hide (HJ6.out.later hb)
                clear hb C6 HJ6 k6
                go_wp2_with fail
                go_meet
                exact HJ7
        case rest =>
          as_aux_lemma =>
            have HJ6 := hcut
            obtain ⟨w6, rfl⟩ : ∃ w6, w6 = wc := ⟨_, rfl⟩
            clear hcut HJ5 HBE
            have hn100 := HN.out.2.1
            obtain ⟨j, hj, hj1, hj2, hj3⟩ := rem_nat at_ (n := n) (by have := HN.out.1; omega) (by omega)
            have HJN := hide hj
            have hn0 : ¬ (n : Int) = 0 := by omega
            have hnb : ((n : Int) == 0) = false := beq_eq_false_iff_ne.2 hn0
            obtain ⟨Aj, nj, cj, kj, bj⟩ := HAT.out j hj
            have KJ := hide kj
            have BJ := hide bj
            obtain ⟨be2, hbe⟩ : ∃ be : Bool, be = decide (ls.getD j [] ≠ ls.getD i' []) := ⟨_, rfl⟩
            have HBE := hide hbe
            have HJ3 := hide hj3
            clear hj hn100 kj bj hbe hj3
            go_upto_region 17 with fail
            rw [HJ3.out]
            clear hj1 hj2 hn0 hnb
            have gj : (j : Int) < (n : Int) := by have := HJN.out; omega
            --PARTC
            go_cut [124] (fun sv wx => sv = .bool be2 ∧ Hid (BindI w wx S p cS L))
            case first =>
              as_aux_lemma =>
                have hB := KB.out.now HJ6.out.bl (Nat.le_refl _)
                have hO := BJ.out.now HJ6.out.bl (Nat.le_refl _)
                have k4 := (HJ6.out.bl.cell (p := ⟨bb, off + i', none⟩) (own_lt0 KI.out)).trans KI.out
                have k5 := (HJ6.out.bl.cell (p := ⟨bb, off + j, none⟩) (own_lt0 KJ.out)).trans KJ.out
                have r1 : ∀ nq, (w6.drewN nq).cell? ⟨bb, off + i', none⟩ = some (.slice Ai ni ci) := fun _ => k4
                have r2 : ∀ nq, (w6.drewN nq).cell? ⟨bb, off + j, none⟩ = some (.slice Aj nj cj) := fun _ => k5
                have q1 : ∀ nq, (convert 23 9 (.slice Ai ni ci)).run Tryd.prog (w6.drewN nq) = .ok (.string (strOfNums (numsB (ls.getD i' [])))) (w6.drewN nq) := fun nq => conv_any (hB.now ((Gr.refl w6).drewN nq).below (Nat.le_refl _)) ci
                have q2 : ∀ nq, (convert 23 9 (.slice Aj nj cj)).run Tryd.prog (w6.drewN nq) = .ok (.string (strOfNums (numsB (ls.getD j [])))) (w6.drewN nq) := fun nq => conv_any (hO.now ((Gr.refl w6).drewN nq).below (Nat.le_refl _)) cj
                have hsb := strB_beq (ls.getD j []) (ls.getD i' [])
                unfold strB at hsb
                obtain ⟨t1, ht1⟩ : ∃ s, strOfNums (numsB (ls.getD i' [])) = s := ⟨_, rfl⟩
                obtain ⟨t2, ht2⟩ : ∃ s, strOfNums (numsB (ls.getD j [])) = s := ⟨_, rfl⟩
                simp only [ht1] at q1
                simp only [ht2] at q2
                rw [ht1, ht2] at hsb
                have y : (t2.toList == t1.toList) = !be2 := by
                  rw [hsb, HBE.out]
                  by_cases h : ls.getD j [] = ls.getD i' [] <;> simp [h]
                clear hsb ht1 ht2 hB hO k4 k5
                go_wp2_with fail
                go_quiet (fail)
                go_wp2_with fail
                go_meet
                exact ⟨rfl, HJ6.out.later ((Gr.refl w6).drewN nq).below⟩
            case rest =>
              as_aux_lemma =>
                obtain ⟨rfl, HJ7⟩ := hcut
                clear HJ6
                obtain ⟨w7, rfl⟩ : ∃ w7, w7 = wc := ⟨_, rfl⟩
                go_upto_if 124 with fail
                go_cut [] (fun wx => Hid (BindI w wx S p cS L))
                case first =>
                  as_aux_lemma =>
                    cases be2
                    · go_wp2_with fail
                      go_meet
                      exact HJ7
                    · obtain ⟨b, eb, ab⟩ := HB3.out j HJN.out (of_decide_eq_true HBE.out.symm)
                      have C5 : Hid (Calls Tryd.prog 32 #[.slice Ai ni ci, .int .i64 j, .int .i64 n, .int .u64 R, .slice S p cS] w7 fun e w' => e = .returned (.tuple #[.bool b, .int .i64 0]) ∧ Below w7.heap.size w7 w') := by
                        have := Included_any Ai ni ci (ls.getD i' []) j n R S p cS L w7 (KB.out.now HJ7.out.bl (Nat.le_refl _)) (steps_of_own HJ7.out.own HBD.out) HPN.out
                        rw [eb] at this
                        exact this
                      have HAB := hide ab
                      clear eb ab
                      have k7 := (HJ7.out.bl.cell (p := ⟨bb, off + i', none⟩) (own_lt0 KI.out)).trans KI.out
                      go_wp2_with fail
                      refine C5.out.mono ?_
                      rintro e w8 ⟨rfl, hb⟩
                      have HJ8 := hide (HJ7.out.later hb)
                      have CI := hide (HI1.out j HJN.out w8 HJ8.out.bl)
                      have hsbd := steps_bound ls j
                      have hsl : (stepsV ls j).length ≤ 1000000 := by have := steps_len ls j; have := HLE.out; omega
                      obtain ⟨T, hT⟩ : ∃ T, stepsV ls j = T := ⟨_, rfl⟩
                      rw [hT] at CI HAB hsbd hsl
                      obtain ⟨tl, htl⟩ : ∃ tl, T.length = tl := ⟨_, rfl⟩
                      rw [htl] at hsl
                      have CI1 : Hid (Calls Tryd.prog 28 #[.slice (some ⟨bb, off, none⟩) n c, .int .i64 j] w8 fun e w' => ∃ a c, e = .returned (.tuple #[.slice a tl c, .int .i64 0]) ∧ w'.ownsRow w8.heap.size 41 2 (.slice a tl c) tl (cellsS T) ∧ Below w8.heap.size w8 w') := by rw [← htl]; exact CI.out
                      have HTB := hide (And.intro hsbd hsl)
                      clear hb C5 HJ7 k7 CI hT htl hsbd hsl
                      go_wp2_with fail
                      refine CI1.out.mono ?_
                      rintro e w9 ⟨T9, c9, rfl, hown, hb⟩
                      have HJ9 := hide (HJ8.out.later hb)
                      have HT9 : Hid (StepsAt w9.heap.size w9 T9 tl T) := steps_of_own hown HTB.out.1
                      clear hown hb CI1 HJ8
                      have r1 : ∀ nq, (w9.drewN nq).cell? ⟨bb, off + i', none⟩ = some (.slice Ai ni ci) := fun _ => (HJ9.out.bl.cell (p := ⟨bb, off + i', none⟩) (own_lt0 KI.out)).trans KI.out
                      have r2 : ∀ nq, (w9.drewN nq).cell? ⟨bb, off + j, none⟩ = some (.slice Aj nj cj) := fun _ => (HJ9.out.bl.cell (p := ⟨bb, off + j, none⟩) (own_lt0 KJ.out)).trans KJ.out
                      cases b
                      · clear HAB
                        go_wp2_with fail
                        go_quiet (fail)
                        go_wp2_with fail
                        go_meet
                        exact HJ9.out.later ((Gr.refl w9).drewN nq).below
                      · have C6 : Hid (∀ w', Below w9.heap.size w9 w' → Calls Tryd.prog 51 #[.int .i64 j, .int .i64 n, .slice Aj nj cj, .slice T9 tl c9, .slice Ai ni ci, .slice S p cS] w' fun e w'' => e = .returned (.bool true) ∧ Below w9.heap.size w9 w'') := fun w' hbq => by
                          have hJq := HJ9.out.later hbq
                          have hst := steps_of_own hJq.own HBD.out
                          have := blamed_any j n Aj nj cj (ls.getD j []) T9 tl c9 T Ai ni ci (ls.getD i' []) S p cS L w' (BJ.out.now hJq.bl (Nat.le_refl _)) (HT9.out.now hbq (Nat.le_refl _)) HTB.out.2 (KB.out.now hJq.bl (Nat.le_refl _)) hst HPN.out
                          rw [decide_eq_true (HAB.out rfl)] at this
                          exact this.mono fun e w'' h => ⟨h.1, hbq.trans (h.2.mono hbq.size)⟩
                        have HD := hide (((Gr.refl w9).drew).below)
                        have KK : Hid (∀ w', Below w9.heap.size w9 w' → w'.cell? ⟨bb, off + i', none⟩ = some (.slice Ai ni ci) ∧ w'.cell? ⟨bb, off + j, none⟩ = some (.slice Aj nj cj)) := fun w' hb =>
                          ⟨((HJ9.out.later hb).bl.cell (p := ⟨bb, off + i', none⟩) (own_lt0 KI.out)).trans KI.out, ((HJ9.out.later hb).bl.cell (p := ⟨bb, off + j, none⟩) (own_lt0 KJ.out)).trans KJ.out⟩
                        clear HAB HT9 r1 r2
                        go_wp2_with fail
                        go_region_held3 (fun w' => w'.cell? ⟨bb, off + i', none⟩ = some (.slice Ai ni ci) ∧ w'.cell? ⟨bb, off + j, none⟩ = some (.slice Aj nj cj)) (first | exact KK.out _ HD.out | exact KK.out _ HB10.out) (first | (go_at_call 51; (with_reducible refine (C6.out _ HD.out).mono ?_); rintro e w10 ⟨rfl, hb10⟩; have HB10 := hide hb10; clear hb10))
                        go_wp2_with fail
                        go_meet
                        exact HJ9.out.later HB10.out
                case rest =>
                  as_aux_lemma =>
                    have HJ8 := hcut
                    obtain ⟨w8, rfl⟩ : ∃ w8, w8 = wc := ⟨_, rfl⟩
                    clear hcut HJ7 HBE HB3 HJ3 KJ BJ HJN gj
                    by_cases hp0 : p = 0
                    · subst hp0
                      have HAL := hide (alive_env (HE.out.after HJ8.out.bl))
                      go_wp2_with fail
                      refine HAL.out.mono ?_
                      rintro e w9 ⟨rfl, hb⟩
                      go_wp2_with fail
                      go_ret
                      exact ⟨rfl, HJ8.out.bl.trans (hb.mono HJ8.out.bl.size)⟩
                    · have hp1 : (0 : Int) < (p : Int) := by omega
                      obtain ⟨q, hq, hq1, hq2, hq3⟩ := rem_nat at_ (n := p) (by omega) HPN.out
                      obtain ⟨g, rfl, hg⟩ := own_block0 HJ8.out.own (by omega)
                      have hqL : q < L.length := by rw [HP.out]; exact hq
                      have hcell := HJ8.out.own.cellAt (q * 2 + 1) (by omega)
                      rw [(cellsS_at L q hqL).2] at hcell
                      have hfr := HJ8.out.own.frozenAt (q * 2 + 1)
                      have hst := (HJ8.out.own.stored (q * 2 + 1) (.bool (!stL L q))).1
                      rw [cellsS_set L q _ hqL] at hst
                      have HJF : Hid (BindI w (w8.drew.setCell ⟨g, q * 2 + 1, none⟩ (.bool (!stL L q))) (some ⟨g, 0, none⟩) p cS (flipS L q)) :=
                        ⟨(HJ8.out.bl.trans (((Gr.refl w8).drew).below.mono HJ8.out.bl.size)).setCell (p := ⟨g, q * 2 + 1, none⟩) hg _, hst⟩
                      have u0 : w8.cell? ⟨g, q * 2 + 1, none⟩ = some (.bool (stL L q)) := hcell
                      have u1 : w8.frozen? ⟨g, q * 2 + 1, none⟩ = false := hfr
                      have HQB4 := hide (HB4.out q R hqL)
                      have gq : (q : Int) < (p : Int) := by omega
                      have hp2 : ¬ (p : Int) = 0 := by omega
                      have hp3 : ((p : Int) == 0) = false := beq_eq_false_iff_ne.2 hp2
                      have hpn := HPN.out
                      obtain ⟨sb, hsb⟩ : ∃ sb, stL L q = sb := ⟨_, rfl⟩
                      rw [hsb] at u0 HJF
                      clear hcell hfr hst hsb hq hqL hg
                      go_upto_region 23 with fail
                      have hq4 : IntKind.i64.wrap (q : Int) = (q : Int) := IntWalk.i64_in _ (by omega)
                      have hq5 : (0 : Int) ≤ (q : Int) := by omega
                      go_still_tail 22, (by kernel_rfl)
                      change wpList _ _ _ _ _ w8.drew
                      have v1 : w8.drew.frozen? ⟨g, q * 2 + 1, none⟩ = false := u1
                      have v0 : w8.drew.cell? ⟨g, q * 2 + 1, none⟩ = some (.bool sb) := u0
                      obtain ⟨w9, hw9⟩ : ∃ w9, w8.drew = w9 := ⟨_, rfl⟩
                      rw [hw9] at v0 v1 HJF ⊢
                      clear hw9 u0 u1 hq1 hq2 hq3 hq4 hp0 hp1 hp2 hp3 hpn HJ8 gm
                      go_upto_region 24 with fail
                      clear v0 v1
                      obtain ⟨w10, hw10⟩ : ∃ w10, w9.setCell ⟨g, q * 2 + 1, none⟩ (.bool !sb) = w10 := ⟨_, rfl⟩
                      rw [hw10] at HJF ⊢
                      have C10 : Hid (Calls Tryd.prog 32 #[.slice Ai ni ci, .int .i64 i', .int .i64 n, .int .u64 R, .slice (some ⟨g, 0, none⟩) p cS] w10 fun e w' => e = .returned (.tuple #[.bool false, .int .i64 0]) ∧ Below w10.heap.size w10 w') := by
                        have := Included_any Ai ni ci (ls.getD i' []) i' n R (some ⟨g, 0, none⟩) p cS (flipS L q) w10 (KB.out.now HJF.out.bl (Nat.le_refl _)) (steps_of_own HJF.out.own (flip_bound HBD.out q)) HPN.out
                        rw [HQB4.out] at this
                        exact this
                      have k10 := (HJF.out.bl.cell (p := ⟨bb, off + i', none⟩) (own_lt0 KI.out)).trans KI.out
                      clear hw10
                      go_wp2_with fail
                      refine C10.out.mono ?_
                      rintro e w11 ⟨rfl, hb⟩
                      have HJ11 := hide (HJF.out.later hb)
                      have HAL := hide (alive_env (HE.out.after HJ11.out.bl))
                      clear hb C10 HJF k10
                      go_wp2_with fail
                      refine HAL.out.mono ?_
                      rintro e w12 ⟨rfl, hb⟩
                      go_wp2_with fail
                      go_ret
                      exact ⟨rfl, HJ11.out.bl.trans (hb.mono HJ11.out.bl.size)⟩
  · have e1 : pRootV ls = (0, 3) := by unfold pRootV; rw [hlg, if_pos rfl]
    have e2 : pIncludeV ls i = ([], 3) := by unfold pIncludeV; rw [hlg, if_pos rfl]
    rw [e1] at HRO
    have HI1 : Hid (∀ w1, Below w.heap.size w w1 → Calls Tryd.prog 28 #[.slice A n c, .int .i64 i] w1 (TwoSteps ([], 3) w1)) := fun w1 hb => by
      have := HI.out i w1 hb
      rw [e2] at this
      exact this
    have HRO1 : Hid (Calls Tryd.prog 18 #[.slice A n c] w fun e w' => e = .returned (.tuple #[.int .u64 0, .int .i64 3]) ∧ Below w.heap.size w w') := HRO.out
    clear hf hx hc hn hE ho h1 h2 hlen hol hm hX hlg e1 e2 HRO HI HA
    go_enter Tryd.func10, Tryd.ntmps10
    go_wp2_with fail
    refine HF.out.mono ?_
    rintro e w1 ⟨rfl, rfl⟩
    go_wp2_with fail
    refine HRO1.out.mono ?_
    rintro e w2 ⟨rfl, hb2⟩
    have C2 := hide (HI1.out w2 hb2)
    have HB2 := hide hb2
    clear hb2
    go_wp2_with fail
    refine C2.out.mono ?_
    rintro e w3 ⟨a3, c3, rfl, ho, hb⟩
    have HB3 := hide (HB2.out.trans (hb.mono HB2.out.size))
    have HAL := hide (alive_env (HE.out.after HB3.out))
    clear ho hb C2
    go_wp2_with fail
    refine HAL.out.mono ?_
    rintro e w6 ⟨rfl, hb6⟩
    go_wp2_with fail
    go_ret
    exact ⟨rfl, HB3.out.trans (hb6.mono HB3.out.size)⟩
end Go.Proofs.YtbinmkigolkhcaaDoor
