/- The specification's Number. -/
import Derived.Test.YtfahlgjolihmkaaDoorTF
import Derived.Test.YtfahlgjolihmkaaDoorTI
namespace Go.Proofs.YtfahlgjolihmkaaDoor
open Go.RowKit Go.Sort
attribute [local go_sem] Oper.semAt_some

/-- what Number hands back -/
def NumPost (l : List UInt8) (v : Int) (ok : Bool) : Prop :=
  (ok = true → Lib.itoa v = l) ∧ (∀ m, (Lib.itoa m).length ≤ 17 → Lib.itoa m = l → ok = true ∧ v = m) ∧ -9223372036854775808 ≤ v ∧ v ≤ 9223372036854775807
def NumRet (l : List UInt8) (w : World) (e : Ending) (w' : World) : Prop := (∃ v ok, e = .returned (.tuple #[.int .i64 v, .bool ok]) ∧ NumPost l v ok) ∧ w = w'
theorem NumPost.no {l : List UInt8} (h : ∀ m, (Lib.itoa m).length ≤ 17 → Lib.itoa m ≠ l) : NumPost l 0 false :=
  ⟨fun h => (by cases h), fun m h1 h2 => absurd h2 (h m h1), by decide, by decide⟩
theorem byte_at (s : ByteArray) {i : Nat} (h : i < s.size) : s.data.toList[i]? = some s[i] := by
  rw [Array.getElem?_toList]
  exact Array.getElem?_eq_getElem h
theorem pow_le17 {i : Nat} (h : i ≤ 16) : (10 : Nat) ^ i ≤ 10000000000000000 := Nat.pow_le_pow_right (by decide) h
theorem pow_le18 {i : Nat} (h : i ≤ 17) : (10 : Nat) ^ i ≤ 100000000000000000 := Nat.pow_le_pow_right (by decide) h

set_option maxHeartbeats 4000000 in
set_option maxRecDepth 100000 in
theorem Number_any (s : ByteArray) (w : World) :
    Calls Tryd.prog 29 #[.string s] w (NumRet s.data.toList w) := by
  have mixed := mixedOrders
  have hll : s.data.toList.length = s.size := (Lib.size_eq s).symm
  by_cases hlen : s.size ≤ 17
  · have hl : ¬ (17 : Int) < (s.size : Int) := by omega
    have HLL := hide hll
    clear hll
    go_enter Tryd.func29, Tryd.ntmps29
    go_wp2_with fail
    go_loopw [4, 5, 6] (fun vn vs vi wr => ∃ (i : Nat) (v sg : Int), i ≤ s.size ∧ vn = .int .i64 v ∧ vs = .int .i64 sg ∧ vi = .int .i64 i ∧ Hid (NInv s.data.toList i v sg) ∧ w = wr) (fun _ _ vi _ => s.size - (intOf vi).toNat)
    case atStart => exact ⟨0, 0, 1, by omega, rfl, rfl, rfl, NInv.start _, rfl⟩
    case round =>
      obtain ⟨i, v, sg, hi, rfl, rfl, rfl, HI, hG⟩ := hrel
      by_cases hlt : i < s.size
      · by_cases h45 : i = 0 ∧ s.data.toList[0]? = some 45
        · obtain ⟨rfl, h45⟩ := h45
          have hlt' : (0 : Int) < (s.size : Int) := by omega
          have HM := hide (HI.out.minus h45)
          have hb : s[0] = 45 := by
            have := byte_at s hlt
            rw [h45] at this
            exact (Option.some.inj this).symm
          have hb2 : ((s[0].toNat : Int) == 45) = true := by rw [hb]; rfl
          clear hb h45
          go_wp2_with fail
          exact ⟨⟨1, v, -1, by omega, rfl, rfl, rfl, HM, by first | exact hG | rfl⟩, by simp [intOf] <;> omega⟩
        · by_cases h0 : i = 0
          · subst h0
            have hlt' : (0 : Int) < (s.size : Int) := by omega
            have hbi := byte_at s hlt
            have hb2 : ((s[0].toNat : Int) == 45) = false := by
              rw [beq_eq_false_iff_ne]
              intro e
              have e2 : s[0].toNat = 45 := by omega
              exact h45 ⟨rfl, by rw [hbi]; congr 1; exact UInt8.toNat_inj.1 e2⟩
            have HZ : Hid (0 = 0 → s[0] ≠ 45) := fun _ e => h45 ⟨rfl, by rw [hbi, e]⟩
            by_cases hd : 48 ≤ s[0].toNat ∧ s[0].toNat ≤ 57
            · have HM := hide (HI.out.digit hbi hd.1 hd.2)
              have g1 : ¬ ((s[0].toNat : Int) < 48) := by omega
              have g2 : ¬ (57 < (s[0].toNat : Int)) := by omega
              have HW : Hid (wrap64 (wrap64 ((10 : Int) * v) + ((s[0].toNat : Int) - 48)) = (10 : Int) * v + ((s[0].toNat : Int) - 48)) := by
                have hp := pow_le17 (i := 0) (by omega)
                have h1 := HI.out.ge
                have h2 := HI.out.lt
                show _ = _
                rw [IntWalk.wrap64_in (10 * v) (by omega), IntWalk.wrap64_in _ (by omega)]
              clear hd hbi
              go_wp2_with fail
              exact ⟨⟨0 + 1, _, sg, by omega, by rw [HW.out], rfl, by first | rfl | simp, HM, by first | exact hG | rfl⟩, by simp [intOf] <;> omega⟩
            · have HN := hide (fun m (_ : (Lib.itoa m).length ≤ 17) => no_num hbi (by omega) HZ.out m)
              rcases Nat.lt_or_ge s[0].toNat 48 with hc | hc
              · have g1 : ((s[0].toNat : Int) < 48) := by omega
                clear hd hbi hc
                go_wp2_with fail
                go_ret2
                exact ⟨⟨0, false, rfl, NumPost.no HN.out⟩, by first | exact hG | rfl⟩
              · have g1 : ¬ ((s[0].toNat : Int) < 48) := by omega
                have g2 : (57 < (s[0].toNat : Int)) := by omega
                clear hd hbi hc
                go_wp2_with fail
                go_ret2
                exact ⟨⟨0, false, rfl, NumPost.no HN.out⟩, by first | exact hG | rfl⟩
          · have hlt' : (i : Int) < (s.size : Int) := by omega
            have hb0 : ((i : Int) == 0) = false := beq_eq_false_iff_ne.2 (by omega)
            have hbi := byte_at s hlt
            have HZ : Hid (i = 0 → s[i] ≠ 45) := fun e => absurd e h0
            by_cases hd : 48 ≤ s[i].toNat ∧ s[i].toNat ≤ 57
            · have HM := hide (HI.out.digit hbi hd.1 hd.2)
              have g1 : ¬ ((s[i].toNat : Int) < 48) := by omega
              have g2 : ¬ (57 < (s[i].toNat : Int)) := by omega
              have HW : Hid (wrap64 (wrap64 ((10 : Int) * v) + ((s[i].toNat : Int) - 48)) = (10 : Int) * v + ((s[i].toNat : Int) - 48)) := by
                have hp := pow_le17 (i := i) (by omega)
                have h1 := HI.out.ge
                have h2 := HI.out.lt
                show _ = _
                rw [IntWalk.wrap64_in (10 * v) (by omega), IntWalk.wrap64_in _ (by omega)]
              clear hd hbi
              go_wp2_with fail
              exact ⟨⟨i + 1, _, sg, by omega, by rw [HW.out], rfl, by first | rfl | simp, HM, by first | exact hG | rfl⟩, by simp [intOf] <;> omega⟩
            · have HN := hide (fun m (_ : (Lib.itoa m).length ≤ 17) => no_num hbi (by omega) HZ.out m)
              rcases Nat.lt_or_ge s[i].toNat 48 with hc | hc
              · have g1 : ((s[i].toNat : Int) < 48) := by omega
                clear hd hbi hc
                go_wp2_with fail
                go_ret2
                exact ⟨⟨0, false, rfl, NumPost.no HN.out⟩, by first | exact hG | rfl⟩
              · have g1 : ¬ ((s[i].toNat : Int) < 48) := by omega
                have g2 : (57 < (s[i].toNat : Int)) := by omega
                clear hd hbi hc
                go_wp2_with fail
                go_ret2
                exact ⟨⟨0, false, rfl, NumPost.no HN.out⟩, by first | exact hG | rfl⟩
      · obtain rfl : i = s.size := by omega
        have hp := pow_le18 (i := s.size) (by omega)
        have h1 := HI.out.ge
        have h2 := HI.out.lt
        have hsg : sg = 1 ∨ sg = -1 := by
          rcases Nat.eq_zero_or_pos s.size with h | h
          · exact .inl ((HI.out.zero h).2)
          · have := (HI.out.pos h).1
            cases hn : negL s.data.toList
            · rw [hn] at this; exact .inl this
            · rw [hn] at this; exact .inr this
        have hsv : -100000000000000000 ≤ sg * v ∧ sg * v ≤ 100000000000000000 := by
          rcases hsg with rfl | rfl <;> omega
        obtain ⟨x, hx⟩ : ∃ x, sg * v = x := ⟨_, rfl⟩
        have HF := hide (fun m (e : Lib.itoa m = s.data.toList) => (by rw [← hx]; exact NInv.fin (by rw [HLL.out]; exact HI.out) m e : x = m))
        rw [hx] at hsv
        have hw : wrap64 (sg * v) = x := by rw [hx]; exact IntWalk.wrap64_in _ (by omega)
        have HD := hide (Digits_any x (by omega) (by omega) wr)
        have HX := hide hsv
        clear hx hsv hsg hp h1 h2
        go_wp2_with fail
        refine HD.out.mono ?_
        rintro e w2 ⟨rfl, rfl⟩
        go_wp2_with fail
        go_ret2
        refine ⟨⟨x, _, rfl, ⟨fun h => ?_, fun m h1 h2 => ?_, by have := HX.out; omega, by have := HX.out; omega⟩⟩, by first | exact hG | rfl⟩
        · have h2 := eq_of_beq h
          rw [Lib.toList_data] at h2
          exact h2
        · have h3 := HF.out m h2
          subst h3
          refine ⟨?_, rfl⟩
          rw [Lib.toList_data, h2]
          exact beq_self_eq_true _
  · have hl : (17 : Int) < (s.size : Int) := by omega
    go_enter Tryd.func29, Tryd.ntmps29
    go_wp2_with fail
    go_ret2
    exact ⟨⟨0, false, rfl, NumPost.no fun m h1 h2 => by rw [h2, hll] at h1; exact hlen h1⟩, rfl⟩
end Go.Proofs.YtfahlgjolihmkaaDoor
