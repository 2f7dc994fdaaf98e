/- The specification's Parse: the walk. -/
import Derived.Test.YtfahlgjolihmkaaDoorTK
import Derived.Test.YtfahlgjolihmkaaDoorTE
import Derived.Test.YtfahlgjolihmkaaDoorTG
namespace Go.Proofs.YtfahlgjolihmkaaDoor
open Go.RowKit Go.Sort
attribute [local go_sem] Oper.semAt_some

structure RLoop (l : List UInt8) (w W : World) (ys : List Sp) (a : Option Addr) (c : Nat) (fr i : Nat) : Prop where
  inv : RInv l ys fr i
  size : i ≤ l.length + 1
  frs : fr ≤ l.length + 1
  few : ys.length ≤ 128
  own : W.ownsRow w.heap.size 41 2 (.slice a ys.length c) ys.length (flat ys)
  below : Below w.heap.size w W
/-- where the first two points stand, as far as one has looked -/
def DInv (p : List UInt8) (k : Nat) (dd : Int) : Prop := (dd = -1 ∧ ∀ j, j < k → ¬ Dd p j) ∨ ∃ d : Nat, dd = d ∧ Dd p d ∧ ∀ j, j < d → ¬ Dd p j
theorem DInv.none {p : List UInt8} {k : Nat} (h : DInv p k (-1)) (hk : p.length ≤ k + 1) : ∀ j, ¬ Dd p j := by
  rcases h with ⟨-, h⟩ | ⟨d, h, -⟩
  · intro j hj
    by_cases e : j < k
    · exact h j e hj
    · have := (List.getElem?_eq_some_iff.1 hj.2).1
      omega
  · omega

theorem meas_step {n i : Nat} (h : i ≤ n) : n + 1 - (intOf (.int .i64 ((i : Int) + 1))).toNat < n + 1 - (intOf (.int .i64 (i : Int))).toNat := by
  show n + 1 - ((i : Int) + 1).toNat < n + 1 - ((i : Int)).toNat
  omega

set_option maxHeartbeats 8000000 in
set_option maxRecDepth 100000 in
theorem refParse_any (s : ByteArray) (hs : s.size ≤ 1000000) (w : World) : Calls Tryd.prog 10 #[.string s] w (ParsePost s.data.toList w) := by
  have mixed := mixedOrders
  obtain ⟨i0, hi0, hz0, hz1, hz2⟩ := info_parts info42
  have hll : s.data.toList.length = s.size := (Lib.size_eq s).symm
  by_cases hm : s.data.toList = [45]
  · have hb : (s.toList == [45]) = true := by rw [Lib.toList_data, hm]; rfl
    go_enter Tryd.func10, Tryd.ntmps10
    go_wp2_with fail
    go_ret2
    exact ⟨.inl ⟨[], none, 0, by decide, hm.symm, rfl, ⟨rfl, .inl rfl⟩⟩, Below.refl _ _⟩
  have hb : (s.toList == [45]) = false := by rw [Lib.toList_data]; exact beq_eq_false_iff_ne.2 hm
  have HL0 : Hid (RLoop s.data.toList w w [] none 0 0 0) := ⟨RInv.start hm, by omega, by omega, by simp, World.ownsRow_nil _ _ _ _, Below.refl _ _⟩
  have HLL := hide hll
  clear hm hll
  go_enter Tryd.func10, Tryd.ntmps10
  go_wp2_with fail
  go_loopw [4, 5, 6] (fun va vf vi wr => ∃ (ys : List Sp) (a : Option Addr) (c fr i : Nat), va = .slice a ys.length c ∧ vf = .int .i64 fr ∧ vi = .int .i64 i ∧ Hid (RLoop s.data.toList w wr ys a c fr i)) (fun _ _ vi _ => s.size + 1 - (intOf vi).toNat)
  case atStart => exact ⟨[], none, 0, 0, 0, rfl, rfl, rfl, HL0⟩
  case round =>
    obtain ⟨ys, a, c, fr, i, rfl, rfl, rfl, HI⟩ := hrel
    by_cases hle : i ≤ s.size
    · have hle' : (i : Int) ≤ (s.size : Int) := by omega
      obtain ⟨nb, hnb⟩ : ∃ nb : Bool, nb = decide (i < s.size ∧ s.data.toList[i]? ≠ some 32) := ⟨_, rfl⟩
      have HNB := hide hnb
      clear hnb
      go_upto_region 8 with fail
      go_cut [33] (fun sv wx => sv = .bool nb ∧ wr = wx)
      case first =>
        by_cases hlt : i < s.size
        · have hlt' : (i : Int) < (s.size : Int) := by omega
          have hbi := byte_at s hlt
          by_cases h32 : s[i].toNat = 32
          · have e1 : ((s[i].toNat : Int) == 32) = true := by rw [h32]; rfl
            have e2 : nb = false := by
              rw [HNB.out]
              refine decide_eq_false fun h => h.2 ?_
              rw [hbi]
              exact congrArg some (UInt8.toNat_inj.1 h32)
            clear h32 hbi
            go_wp2
            go_meet
            exact ⟨by rw [e2]; show Value.bool (!(_ == _)) = _; rw [e1]; rfl, rfl⟩
          · have e1 : ((s[i].toNat : Int) == 32) = false := beq_eq_false_iff_ne.2 (by omega)
            have e2 : nb = true := by
              rw [HNB.out]
              refine decide_eq_true ⟨hlt, fun h => h32 ?_⟩
              rw [hbi] at h
              rw [Option.some.inj h]
              rfl
            clear h32 hbi
            go_wp2
            go_meet
            exact ⟨by rw [e2]; show Value.bool (!(_ == _)) = _; rw [e1]; rfl, rfl⟩
        · have hlt' : ¬ (i : Int) < (s.size : Int) := by omega
          have e2 : nb = false := by rw [HNB.out]; exact decide_eq_false fun h => hlt h.1
          go_wp2
          go_meet
          exact ⟨by rw [e2], rfl⟩
      case rest =>
        obtain ⟨rfl, rfl⟩ := hcut
        cases nb
        · have hnot : Hid (i < s.data.toList.length → s.data.toList[i]? = some 32) := fun h => by
            have h2 := of_decide_eq_false HNB.out.symm
            by_cases h3 : s.data.toList[i]? = some 32
            · exact h3
            · exact absurd ⟨by rw [← HLL.out]; exact h, h3⟩ h2
          have hlei : i ≤ s.data.toList.length := by rw [HLL.out]; exact hle
          have hfi := (HI.out.inv.a hlei).1
          have hfi' : (fr : Int) ≤ (i : Int) := by omega
          obtain ⟨p, hp⟩ : ∃ p, s.extract fr i = p := ⟨_, rfl⟩
          have HP : Hid (p.data.toList = (s.data.toList.drop fr).take (i - fr)) := by rw [← hp]; exact Lib.extract_data s fr i
          have hps : p.size ≤ 1000000 := by rw [Lib.size_eq, HP.out]; have := HLL.out; simp; omega
          clear hlei hfi
          go_wp2_with fail
          go_loopw [8, 9] (fun vd vk wx => ∃ (k : Nat) (dd : Int), k ≤ p.size ∧ vd = .int .i64 dd ∧ vk = .int .i64 k ∧ Hid (DInv p.data.toList k dd) ∧ wr = wx) (fun _ vk _ => p.size - (intOf vk).toNat)
          case atStart => exact ⟨0, -1, Nat.zero_le _, rfl, rfl, .inl ⟨rfl, fun j hj => absurd hj (Nat.not_lt_zero _)⟩, rfl⟩
          case round =>
            obtain ⟨k, dd, hk, rfl, rfl, HD, hW⟩ := hrel
            have hwk : wrap64 ((k : Int) + 1) = (k : Int) + 1 := IntWalk.wrap64_in _ (by omega)
            obtain ⟨go, hgo⟩ : ∃ go : Bool, go = decide (k + 1 < p.size ∧ dd < 0) := ⟨_, rfl⟩
            have HGO := hide hgo
            clear hgo
            go_upto_region 13 with fail
            go_cut [48] (fun sv wx => sv = .bool go ∧ wr = wx)
            case first =>
              by_cases hk1 : k + 1 < p.size
              · have hk1' : (k : Int) + 1 < (p.size : Int) := by omega
                by_cases hdd : dd < 0
                · have e2 : go = true := by rw [HGO.out]; exact decide_eq_true ⟨hk1, hdd⟩
                  go_wp2
                  go_meet
                  exact ⟨by rw [e2], rfl⟩
                · have e2 : go = false := by rw [HGO.out]; exact decide_eq_false fun h => hdd h.2
                  go_wp2
                  go_meet
                  exact ⟨by rw [e2], rfl⟩
              · have hk1' : ¬ (k : Int) + 1 < (p.size : Int) := by omega
                have e2 : go = false := by rw [HGO.out]; exact decide_eq_false fun h => hk1 h.1
                go_wp2
                go_meet
                exact ⟨by rw [e2], rfl⟩
            case rest =>
              obtain ⟨rfl, rfl⟩ := hcut
              cases go
              · by_cases hdd : dd < 0
                · have hn1 : dd = -1 := by
                    rcases HD.out with h | ⟨d, h, -⟩
                    · exact h.1
                    · omega
                  have HN : Hid (NoText s.data.toList) := HI.out.inv.nodots (by rw [HLL.out]; exact hle) hnot.out (by
                    rw [← HP.out]
                    refine DInv.none (k := k) (by rw [← hn1]; exact HD.out) ?_
                    have h2 := of_decide_eq_false HGO.out.symm
                    rw [← Lib.size_eq]
                    by_cases h3 : k + 1 < p.size
                    · exact absurd ⟨h3, hdd⟩ h2
                    · omega)
                  go_wp2
                  go_ret2
                  exact ⟨.inr ⟨HN.out, rfl⟩, by first | exact HI.out.below | (rw [← hW]; exact HI.out.below) | (rw [hW]; exact HI.out.below)⟩
                · obtain ⟨d, hd0, hd1, hd2⟩ : ∃ d : Nat, dd = d ∧ Dd p.data.toList d ∧ ∀ j, j < d → ¬ Dd p.data.toList j := by
                    rcases HD.out with h | h
                    · omega
                    · exact h
                  subst hd0
                  have HI2 : Hid (RLoop s.data.toList w wr ys a c fr i) := by first | exact HI | (rw [← hW]; exact HI) | (rw [hW]; exact HI)
                  have hlei : i ≤ s.data.toList.length := by rw [HLL.out]; exact hle
                  have hnd : ¬ (d : Int) < 0 := by omega
                  by_cases hfull : 128 ≤ ys.length
                  · have hf' : (128 : Int) ≤ (ys.length : Int) := by omega
                    have HN := hide (HI2.out.inv.full hlei hfull)
                    clear hlei
                    go_wp2
                    go_ret2
                    exact ⟨.inr ⟨HN.out, rfl⟩, HI2.out.below⟩
                  · have hf' : ¬ (128 : Int) ≤ (ys.length : Int) := by omega
                    have hd3 : d + 2 ≤ p.size := by
                      have := (List.getElem?_eq_some_iff.1 hd1.2).1
                      rw [← Lib.size_eq] at this
                      omega
                    have hd4 : (d : Int) ≤ (p.size : Int) := by omega
                    have hd5 : (d : Int) + 2 ≤ (p.size : Int) := by omega
                    have hw2 : wrap64 ((d : Int) + 2) = (d : Int) + 2 := IntWalk.wrap64_in _ (by omega)
                    obtain ⟨p1, hp1⟩ : ∃ q, p.extract 0 d = q := ⟨_, rfl⟩
                    obtain ⟨p2, hp2⟩ : ∃ q, p.extract (d + 2) p.size = q := ⟨_, rfl⟩
                    have HP1 : Hid (p1.data.toList = p.data.toList.take d) := by
                      show _ = _
                      rw [← hp1, Lib.extract_data]; simp
                    have HP2 : Hid (p2.data.toList = p.data.toList.drop (d + 2)) := by
                      show _ = _
                      rw [← hp2, Lib.extract_data]
                      exact List.take_of_length_le (by rw [List.length_drop, ← Lib.size_eq]; omega)
                    have HD1 := hide hd1
                    have HD2 := hide hd2
                    have HLE := hide hlei
                    clear hd1 hd2 hlei
                    go_wp2_with fail
                    refine (Number_any p1 wr).mono ?_
                    rintro e w1 ⟨⟨lo, is, rfl, hn1⟩, rfl⟩
                    rw [HP1.out] at hn1
                    have HN1 := hide hn1
                    have HFEW := hide (show ys.length < 128 by omega)
                    have HLEI := hide hle
                    have hwi : wrap64 ((i : Int) + 1) = (i : Int) + 1 := IntWalk.wrap64_in _ (by omega)
                    clear hn1 hd4 hd3 hps hk hwk hp1 hfull hf' hnd hle hle' hfi' hp
                    go_wp2_with fail
                    refine (Number_any p2 wr).mono ?_
                    rintro e w1 ⟨⟨hi', has, rfl, hn2⟩, rfl⟩
                    rw [HP2.out] at hn2
                    have hn1 := HN1.out
                    have hd1 := HD1.out
                    have hd2 := HD2.out
                    rw [HP.out] at hn1 hn2 hd1 hd2
                    have HNUM := hide (HI2.out.inv.nums HLE.out hnot.out hd1 hd2 hn1 hn2)
                    clear hn1 hn2 hd1 hd2
                    cases is
                    · have HN : Hid (NoText s.data.toList) := fun xs hs' ht => by have := (HNUM.out xs hs' ht).1; cases this
                      go_wp2
                      go_ret2
                      exact ⟨.inr ⟨HN.out, rfl⟩, HI2.out.below⟩
                    cases has
                    · have HN : Hid (NoText s.data.toList) := fun xs hs' ht => by have := (HNUM.out xs hs' ht).2.1; cases this
                      go_wp2
                      go_ret2
                      exact ⟨.inr ⟨HN.out, rfl⟩, HI2.out.below⟩
                    have HST := hide (RInv.step (fr := fr) (ys := ys) (x := (lo, hi')) HLE.out fun xs hs' ht => (HNUM.out xs hs' ht).2.2)
                    have hb4 : w.heap.size ≤ (wr.alloc (.cells #[.int .i64 lo, .int .i64 hi'] 41)).heap.size := by have := HI2.out.below.size; simp; omega
                    have hbb1 : ys.length + 1 ≤ maxLen := by have := HFEW.out; unfold maxLen; omega
                    have hbb2 : (ys.length + 1) * 16 ≤ 140737488355328 := by have := HFEW.out; omega
                    go_wp2_with (at_builtin; refine wpList_append_own_at _ rfl (.tmp 91) (.tmp 95) _ rfl w.heap.size 41 i0 (.agg #[.int .i64 0, .int .i64 0]) 2 16 Tryd.underlying22 hi0 hz0 hz1 hz2 rfl (by decide) _ _ _ rfl (HI2.out.own.alloc _) ⟨wr.heap.size, 0, none⟩ 1 1 [.int .i64 lo, .int .i64 hi'] rfl rfl (cell_two_new _ _ _ _) (by simp [Value.oneCell']) hbb1 hbb2 hb4 ?_; intro v1 w5 hown1 hgrow1 hnil1 hat1)
                    obtain ⟨a', c', rfl⟩ := own_slice hown1
                    have hB5 : Below w.heap.size w w5 := by
                      have h1 := HI2.out.below.alloc HI2.out.below.size (.cells #[.int .i64 lo, .int .i64 hi'] 41)
                      refine h1.trans ⟨hgrow1.os, hgrow1.tape, hgrow1.output, hgrow1.size, fun k hk => hgrow1.block k (Nat.lt_of_lt_of_le hk h1.size) fun e => ?_⟩
                      have := (own_lt HI2.out.own k e.symm).1
                      omega
                    refine ⟨⟨ys ++ [(lo, hi')], a', c', i + 1, i + 1, by simp, by go_num, by go_num, hide ⟨HST.out, Nat.succ_le_succ HLE.out, Nat.succ_le_succ HLE.out, ?_, ?_, hB5⟩⟩, by rw [hwi]; exact meas_step HLEI.out⟩
                    · rw [List.length_append]; exact HFEW.out
                    · rw [flat_snoc, List.length_append]
                      exact hown1
              · have hgd := of_decide_eq_true HGO.out.symm
                have hk1 : k + 1 < p.size := hgd.1
                have hn : Hid (dd = -1 ∧ ∀ j, j < k → ¬ Dd p.data.toList j) := by
                  rcases HD.out with h | ⟨d, h, -⟩
                  · exact h
                  · omega
                have hklt : (k : Int) < (p.size : Int) := by omega
                have hb0 := byte_at p (i := k) (by omega)
                have hb1 := byte_at p (i := k + 1) hk1
                have HH := hide (show wr = wr ∧ True from ⟨rfl, trivial⟩)
                go_wp2_with fail
                · rename_i g1 g2 g3
                  have d0 : Dd p.data.toList k := ⟨by rw [hb0]; exact congrArg some (UInt8.toNat_inj.1 (by show p[k].toNat = 46; omega)), by rw [hb1]; exact congrArg some (UInt8.toNat_inj.1 (by have := eq_of_beq g3; show p[k + 1].toNat = 46; omega))⟩
                  exact ⟨⟨k + 1, k, by omega, rfl, by go_num, .inr ⟨k, rfl, d0, hn.out.2⟩, by first | exact hW | rfl⟩, by simp [intOf]; omega⟩
                · rename_i g1 g2 g3
                  refine ⟨⟨k + 1, dd, by omega, rfl, by go_num, .inl ⟨hn.out.1, fun j hj hdj => ?_⟩, by first | exact hW | rfl⟩, by simp [intOf]; omega⟩
                  by_cases e : j = k
                  · subst e
                    have := hdj.2
                    rw [hb1] at this
                    have e2 := congrArg UInt8.toNat (Option.some.inj this)
                    rw [e2] at g3
                    cases g3
                  · exact hn.out.2 j (by omega) hdj
                · rename_i g1
                  refine ⟨⟨k + 1, dd, by omega, rfl, by go_num, .inl ⟨hn.out.1, fun j hj hdj => ?_⟩, by first | exact hW | rfl⟩, by simp [intOf]; omega⟩
                  by_cases e : j = k
                  · subst e
                    have := hdj.1
                    rw [hb0] at this
                    have e2 := congrArg UInt8.toNat (Option.some.inj this)
                    rw [e2] at g1
                    exact g1 rfl
                  · exact hn.out.2 j (by omega) hdj
        · have hlt := (of_decide_eq_true HNB.out.symm)
          have HS := hide (HI.out.inv.skip (by rw [HLL.out]; exact hlt.1) hlt.2)
          have hlt' : i < s.size := hlt.1
          clear hlt
          go_wp2
          go_roundw
          case rel => exact ⟨ys, a, c, fr, i + 1, rfl, rfl, by go_num, ⟨HS.out, by rw [HLL.out]; omega, HI.out.frs, HI.out.few, HI.out.own, HI.out.below⟩⟩
          case measure => simp [intOf]; omega
    · have hle' : ¬ (i : Int) ≤ (s.size : Int) := by omega
      have HF := hide (HI.out.inv.fin (by rw [HLL.out]; exact hle))
      have HSP := hide (spans_of_own HI.out.own rfl)
      have HT := hide (refText_any a ys.length c ys wr HSP.out)
      go_wp2_with fail
      refine HT.out.mono ?_
      rintro e w2 ⟨rfl, hg2⟩
      have hb2 := hg2.below
      have HB2 := hide (HI.out.below.trans (hb2.mono HI.out.below.size))
      have HS2 := hide (HSP.out.now hb2 (Nat.le_refl _))
      by_cases hok : setB ys = true ∧ txtS ys = s.data.toList
      · have ht : textS ys = s := by unfold textS; rw [if_pos hok.1, hok.2, bstr_of]
        rw [if_pos hok.1, ht]
        have HOK := hide hok
        clear hok hb2
        go_wp2
        go_ret2
        exact ⟨.inl ⟨ys, a, c, HOK.out.1, HOK.out.2, rfl, HS2.out⟩, HB2.out⟩
      · have HN := hide (HF.out hok)
        by_cases hsb : setB ys = true
        · have ht : ((textS ys).toList == s.toList) = false := by
            rw [beq_eq_false_iff_ne]
            intro h
            rw [Lib.toList_data, Lib.toList_data] at h
            unfold textS at h
            rw [if_pos hsb, bstr_list] at h
            exact hok ⟨hsb, h⟩
          rw [if_pos hsb]
          obtain ⟨tt, htt⟩ : ∃ q, textS ys = q := ⟨_, rfl⟩
          rw [htt] at ht ⊢
          clear hok hb2 hsb
          go_wp2
          go_ret2
          exact ⟨.inr ⟨HN.out, rfl⟩, HB2.out⟩
        · rw [if_neg hsb]
          clear hok hb2 hsb
          go_wp2
          go_ret2
          exact ⟨.inr ⟨HN.out, rfl⟩, HB2.out⟩
end Go.Proofs.YtfahlgjolihmkaaDoor
