/- Parse: the walk. -/
import Derived.Test.YtfahlgjolihmkaaDoorTD
import Derived.Test.YtfahlgjolihmkaaDoorL0
import Derived.Deep.DeepCutAuto
namespace Go.Proofs.YtfahlgjolihmkaaDoor
open Go.RowKit Go.Sort
attribute [local go_sem] Oper.semAt_some

def lenOf : Value → Nat
  | .slice _ n _ => n
  | _ => 0
/-- what has been read, and what is left -/
structure PLoop (l : List UInt8) (w W : World) (ys : List Sp) (a : Option Addr) (c : Nat) (rest : ByteArray) (more : Bool) : Prop where
  inv : PInv l ys rest.data.toList more
  size : rest.size ≤ l.length
  few : ys.length ≤ 129
  own : W.ownsRow w.heap.size 41 2 (.slice a ys.length c) ys.length (flat ys)
  below : Below w.heap.size w W
theorem own_below {W W' : World} {b : Nat} {e : TypeId} {size n : Nat} {v : Value} {xs : List Value} (h : W.ownsRow b e size v n xs) (hb : Below W.heap.size W W') : W'.ownsRow b e size v n xs :=
  World.ownsRow.kept h (row := none) ⟨hb.os, hb.tape, hb.output, hb.size, fun k hk _ => hb.block k hk⟩ (by cases hv : v.ownBlock with | none => exact .inl rfl | some g => exact .inr (by simp))
theorem flat_snoc (ys : List Sp) (z : Sp) : flat (ys ++ [z]) = flat ys ++ [.int .i64 z.1, .int .i64 z.2] := by
  induction ys with
  | nil => rfl
  | cons y ys ih => simp [flat] at ih ⊢

set_option maxHeartbeats 4000000 in
set_option maxRecDepth 100000 in
theorem Parse_any (s : ByteArray) (hs : s.size ≤ 1000000) (w : World) (he : Env w) :
    Calls Tryd.prog 9 #[.string s] w (ParsePost s.data.toList w) := by
  have mixed := mixedOrders
  obtain ⟨i0, hi0, hz0, hz1, hz2⟩ := info_parts info42
  have HE := hide he
  clear he
  have hl : s.data.toList.length = s.size := (Lib.size_eq s).symm
  have HI0 : Hid (PLoop s.data.toList w w [] none 0 s (!(s.toList == [45]))) := ⟨PInv.start (by
    rw [Lib.toList_data]
    by_cases h : s.data.toList = [45]
    · rw [h]; rfl
    · rw [decide_eq_false h, beq_eq_false_iff_ne.2 h]), by omega, by simp, World.ownsRow_nil _ _ _ _, Below.refl _ _⟩
  go_enter Tryd.func9, Tryd.ntmps9
  go_wp2_with fail
  go_loopw [4, 5, 6] (fun va vr vm wr => ∃ (ys : List Sp) (a : Option Addr) (c : Nat) (rest : ByteArray) (more : Bool), va = .slice a ys.length c ∧ vr = .string rest ∧ vm = .bool more ∧ Hid (PLoop s.data.toList w wr ys a c rest more)) (fun va _ _ _ => 130 - lenOf va)
  case atStart => exact ⟨[], none, 0, s, _, rfl, rfl, rfl, HI0⟩
  case round =>
    obtain ⟨ys, a, c, rest, more, rfl, rfl, rfl, HI⟩ := hrel
    by_cases hgo : more = true ∧ ys.length ≤ 128
    · obtain ⟨rfl, hle⟩ := hgo
      have hd : decide ((ys.length : Int) ≤ 128) = true := decide_eq_true (by omega)
      obtain ⟨m, hm⟩ := (HE.out.on HI.out.below).here.max
      have HC := hide (Tryd.strings_Cut rest (bstr [32]) m wr (by have := HI.out.size; omega) hm)
      obtain ⟨c1, c2⟩ := cut_len rest.data.toList [32]
      have hrs : rest.data.toList.length = rest.size := (Lib.size_eq rest).symm
      have HPS := hide (fun W (hW : Env W) => parseSpan_any (bstr (Lib.cut rest.data.toList [32]).1) (by have := HI.out.size; rw [bstr_size]; omega) W hW)
      clear hm
      go_wp2_with fail
      refine HC.out.mono ?_
      rintro e w1 ⟨rfl, k, rfl⟩
      have hb1 : Below wr.heap.size wr (wr.drewN k) := ((Gr.refl wr).drewN k).below
      obtain ⟨w1, hw1⟩ : ∃ w1, wr.drewN k = w1 := ⟨_, rfl⟩
      rw [hw1] at hb1 ⊢
      have HB1 := hide (HI.out.below.trans (hb1.mono HI.out.below.size))
      go_wp2_with fail
      refine (HPS.out w1 (HE.out.on HB1.out)).mono ?_
      rintro e w2 ⟨rfl, hb2⟩
      rw [bstr_list]
      cases hp : pSp (Lib.cut rest.data.toList [32]).1 with
      | none =>
        rw [pSv_no hp]
        have HB2 := hide (HB1.out.trans (hb2.mono HB1.out.size))
        have HN := hide (HI.out.inv.bad hp)
        go_wp2
        go_ret2
        exact ⟨.inr ⟨HN.out, rfl⟩, HB2.out.alloc HB2.out.size _⟩
      | some z =>
        rw [pSv_yes hp]
        have HN := hide (HI.out.inv.step hp)
        have hb3 := HB1.out.trans (hb2.mono HB1.out.size)
        have hO := (own_below (own_below HI.out.own hb1) hb2).alloc (.cells #[.int .i64 z.1, .int .i64 z.2] 41)
        have hG := hb3.alloc hb3.size (.cells #[.int .i64 z.1, .int .i64 z.2] 41)
        have d0 : (w2.alloc (.cells #[.int .i64 z.1, .int .i64 z.2] 41)).cell? ⟨w2.heap.size, 0, none⟩ = some (.int .i64 z.1) := by simp
        have d1 : (w2.alloc (.cells #[.int .i64 z.1, .int .i64 z.2] 41)).cell? ⟨w2.heap.size, 1, none⟩ = some (.int .i64 z.2) := by simp
        go_upto_region 9 with fail
        obtain ⟨W3, hW3⟩ : ∃ W3, w2.alloc (.cells #[.int .i64 z.1, .int .i64 z.2] 41) = W3 := ⟨_, rfl⟩
        obtain ⟨p, hp3⟩ : ∃ p, w2.heap.size = p := ⟨_, rfl⟩
        rw [hW3] at d0 d1 hO hG ⊢
        rw [hp3] at d0 d1 ⊢
        have HO := hide hO
        have HG := hide hG
        have hb4 : w.heap.size ≤ (W3.alloc (.cells #[.int .i64 z.1, .int .i64 z.2] 41)).heap.size := by have := HG.out.size; simp; omega
        have hbb1 : ys.length + 1 ≤ maxLen := by unfold maxLen; omega
        have hbb2 : (ys.length + 1) * 16 ≤ 140737488355328 := by omega
        clear hO hG hW3 hp3 hb3 HB1 hb2 hw1 hb1
        go_wp2_with (at_builtin; refine wpList_append_own_at _ rfl (.tmp 34) (.tmp 36) _ rfl w.heap.size 41 i0 (.agg #[.int .i64 0, .int .i64 0]) 2 16 Tryd.underlying22 hi0 hz0 hz1 hz2 rfl (by decide) _ _ _ rfl (HO.out.alloc _) ⟨W3.heap.size, 0, none⟩ 1 1 [.int .i64 z.1, .int .i64 z.2] rfl rfl (cell_two_new _ _ _ _) (by simp [Value.oneCell']) hbb1 hbb2 hb4 ?_; intro v1 w5 hown1 hgrow1 hnil1 hat1)
        obtain ⟨a', c', rfl⟩ := own_slice hown1
        have hB5 : Below w.heap.size w w5 := by
          have h1 := HG.out.alloc HG.out.size (.cells #[.int .i64 z.1, .int .i64 z.2] 41)
          refine h1.trans ⟨hgrow1.os, hgrow1.tape, hgrow1.output, hgrow1.size, fun k hk => hgrow1.block k (Nat.lt_of_lt_of_le hk h1.size) fun e => ?_⟩
          have := (own_lt HO.out k e.symm).1
          omega
        refine ⟨⟨ys ++ [z], a', c', _, _, by simp, rfl, rfl, hide ⟨?_, ?_, ?_, ?_, hB5⟩⟩, ?_⟩
        · rw [bstr_list]; exact HN.out
        · rw [bstr_size]; exact Nat.le_trans (Nat.le_trans c2 (Nat.le_of_eq hrs)) HI.out.size
        · simp; omega
        · rw [flat_snoc, List.length_append]; exact hown1
        · simp only [lenOf]; omega
    · have hex : more = false ∨ 128 < ys.length := by
        cases more with
        | false => exact .inl rfl
        | true => exact .inr (by have := not_and.1 hgo rfl; omega)
      have HF := hide (HI.out.inv.fin hex)
      have HSP := hide (spans_of_own HI.out.own rfl)
      have HT := hide (Text_any a ys.length c ys wr HSP.out (HE.out.on HI.out.below))
      have hcond : more = false ∨ more = true ∧ decide ((ys.length : Int) ≤ 128) = false := by
        rcases hex with rfl | h
        · exact .inl rfl
        · cases more with
          | false => exact .inl rfl
          | true => exact .inr ⟨rfl, decide_eq_false (by omega)⟩
      rcases hcond with rfl | ⟨rfl, hd⟩
      · go_wp2_with fail
        refine HT.out.mono ?_
        rintro e w2 ⟨rfl, hb2⟩
        have HB2 := hide (HI.out.below.trans (hb2.mono HI.out.below.size))
        have HS2 := hide (HSP.out.now hb2 (Nat.le_refl _))
        by_cases hok : setB ys = true ∧ txtS ys = s.data.toList
        · have ht : textS ys = s := by unfold textS; rw [if_pos hok.1, hok.2, bstr_of]
          rw [if_pos hok.1, ht]
          have HOK := hide hok
          clear hok hb2
          go_wp2
          go_ret2
          exact ⟨.inl ⟨ys, a, c, HOK.out.1, HOK.out.2, rfl, HS2.out⟩, HB2.out⟩
        · have HN := hide (HF.out hok)
          by_cases hsb : setB ys = true
          · have ht : ((textS ys).toList == s.toList) = false := by
              rw [beq_eq_false_iff_ne]
              intro h
              rw [Lib.toList_data, Lib.toList_data] at h
              unfold textS at h
              rw [if_pos hsb, bstr_list] at h
              exact hok ⟨hsb, h⟩
            rw [if_pos hsb]
            obtain ⟨tt, htt⟩ : ∃ q, textS ys = q := ⟨_, rfl⟩
            rw [htt] at ht ⊢
            clear hok hb2 hsb
            go_wp2
            go_ret2
            exact ⟨.inr ⟨HN.out, rfl⟩, HB2.out⟩
          · rw [if_neg hsb]
            clear hok hb2 hsb
            go_wp2
            go_ret2
            exact ⟨.inr ⟨HN.out, rfl⟩, HB2.out⟩
      · go_wp2_with fail
        refine HT.out.mono ?_
        rintro e w2 ⟨rfl, hb2⟩
        have HB2 := hide (HI.out.below.trans (hb2.mono HI.out.below.size))
        have HS2 := hide (HSP.out.now hb2 (Nat.le_refl _))
        by_cases hok : setB ys = true ∧ txtS ys = s.data.toList
        · have ht : textS ys = s := by unfold textS; rw [if_pos hok.1, hok.2, bstr_of]
          rw [if_pos hok.1, ht]
          have HOK := hide hok
          clear hok hb2
          go_wp2
          go_ret2
          exact ⟨.inl ⟨ys, a, c, HOK.out.1, HOK.out.2, rfl, HS2.out⟩, HB2.out⟩
        · have HN := hide (HF.out hok)
          by_cases hsb : setB ys = true
          · have ht : ((textS ys).toList == s.toList) = false := by
              rw [beq_eq_false_iff_ne]
              intro h
              rw [Lib.toList_data, Lib.toList_data] at h
              unfold textS at h
              rw [if_pos hsb, bstr_list] at h
              exact hok ⟨hsb, h⟩
            rw [if_pos hsb]
            obtain ⟨tt, htt⟩ : ∃ q, textS ys = q := ⟨_, rfl⟩
            rw [htt] at ht ⊢
            clear hok hb2 hsb
            go_wp2
            go_ret2
            exact ⟨.inr ⟨HN.out, rfl⟩, HB2.out⟩
          · rw [if_neg hsb]
            clear hok hb2 hsb
            go_wp2
            go_ret2
            exact ⟨.inr ⟨HN.out, rfl⟩, HB2.out⟩
end Go.Proofs.YtfahlgjolihmkaaDoor
