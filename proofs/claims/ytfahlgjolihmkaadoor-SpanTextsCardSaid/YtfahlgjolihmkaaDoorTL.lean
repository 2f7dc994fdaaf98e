/- The walk of SpanTexts. -/
import Derived.Test.YtfahlgjolihmkaaDoorTJ
namespace Go.Proofs.YtfahlgjolihmkaaDoor
open Go.RowKit Go.Sort
attribute [local go_sem] Oper.semAt_some

/-- what a law hands back -/
def LawPost (w : World) (e : Ending) (w' : World) : Prop := e = .returned (.bool true) ∧ Below w.heap.size w w'
theorem txtS_inj {xs ys : List Sp} (h : txtS xs = txtS ys) : xs = ys := by
  by_cases hx : xs = []
  · by_cases hy : ys = []
    · rw [hx, hy]
    · exfalso
      obtain ⟨y, ys', rfl⟩ := List.exists_cons_of_ne_nil hy
      rw [hx] at h
      exact txt_minus y ys' (by rw [show txtS [] = [45] from rfl] at h; rw [h]; exact (if_neg hy).symm)
  · by_cases hy : ys = []
    · exfalso
      obtain ⟨x, xs', rfl⟩ := List.exists_cons_of_ne_nil hx
      rw [hy] at h
      exact txt_minus x xs' (by rw [show txtS [] = [45] from rfl] at h; rw [← h]; exact (if_neg hx).symm)
    · unfold txtS at h
      rw [if_neg hx, if_neg hy] at h
      exact txt_inj xs ys hx hy h

set_option maxHeartbeats 4000000 in
set_option maxRecDepth 100000 in
theorem texts_law (A : Option Addr) (n cap : Nat) (xs : List Sp) (s : ByteArray) (w : World) (hx : SpansAt w.heap.size w A n xs) (he : Env w) :
    Calls Tryd.prog 3 #[.slice A n cap, .string s] w (LawPost w) := by
  have mixed := mixedOrders
  have HX := hide hx
  have HE := hide he
  clear hx he
  have HAL : Hid (∀ W, Calls Tryd.prog 6 #[] W fun e w' => e = .returned (.bool true) ∧ Below W.heap.size W w') := alive_any
  by_cases hfew : (n : Int) ≤ 140
  · have d1 : decide ((n : Int) ≤ 140) = true := decide_eq_true hfew
    by_cases hsz : s.size ≤ 6000
    · have h1 : ¬ (6000 : Int) < (s.size : Int) := by omega
      have HSZ := hide hsz
      have HT := hide (Text_any A n cap xs w HX.out HE.out)
      clear hfew hsz
      go_enter Tryd.func3, Tryd.ntmps3
      go_wp2_with fail
      refine (few_any A n cap w).mono ?_
      rintro e w1 ⟨rfl, rfl⟩
      rw [d1]
      go_wp2_with fail
      refine HT.out.mono ?_
      rintro e w1 ⟨rfl, hb1⟩
      obtain ⟨tt, htt⟩ : ∃ q, textS xs = q := ⟨_, rfl⟩
      obtain ⟨ee, hee⟩ : ∃ q : Int, (if setB xs then 0 else 2) = q := ⟨_, rfl⟩
      have HX1 := HX.out.now hb1 (Nat.le_refl _)
      have HRT := hide (refText_any A n cap xs w1 HX1)
      rw [htt, hee] at HRT ⊢
      have HB1 := hide hb1
      clear HX1 hb1 htt hee
      go_wp2_with fail
      refine HRT.out.mono ?_
      rintro e w2 ⟨rfl, hg2⟩
      have HB2 := hide (HB1.out.trans (hg2.below.mono HB1.out.size))
      have HP := hide (Parse_any s (by have := HSZ.out; omega) w2 (HE.out.on HB2.out))
      clear hg2 HB1 HRT HT
      go_wp2_with fail
      refine HP.out.mono ?_
      rintro e w3 ⟨h3, hb3⟩
      have HB3 := hide (HB2.out.trans (hb3.mono HB2.out.size))
      have HR := hide (refParse_any s (by have := HSZ.out; omega) w3)
      clear HB2 HP hb3
      rcases h3 with ⟨ys, a, c, hys, hyt, rfl, hya⟩ | ⟨hno, rfl⟩
      · have HY := hide (show setB ys = true ∧ txtS ys = s.data.toList ∧ SpansAt w3.heap.size w3 a ys.length ys from ⟨hys, hyt, hya⟩)
        clear hys hyt hya
        go_wp2_with fail
        refine HR.out.mono ?_
        rintro e w4 ⟨h4, hb4⟩
        have HB4 := hide (HB3.out.trans (hb4.mono HB3.out.size))
        have HY4 := hide (HY.out.2.2.now hb4 (Nat.le_refl _))
        rcases h4 with ⟨zs, a', c', hzs, hzt, rfl, hza⟩ | ⟨hno, rfl⟩
        · have hzy : ys = zs := txtS_inj (HY.out.2.1.trans hzt.symm)
          subst hzy
          have HZ := hide hza
          have HL := hide ((setB_true hzs).1)
          clear hzs hzt hza hb4
          go_wp2_with fail
          refine (same_any a a' ys.length c ys.length c' ys ys w4 HY4.out HZ.out (by have := HL.out; omega) (by have := HL.out; omega)).mono ?_
          rintro e w5 ⟨rfl, q, rfl⟩
          rw [decide_eq_true (rfl : ys = ys)]
          go_wp2_with fail
          refine (HAL.out _).mono ?_
          rintro e w6 ⟨rfl, hb6⟩
          go_wp2
          go_ret
          exact ⟨rfl, (HB4.out.trans (((Gr.refl w4).drewN q).below.mono HB4.out.size)).trans (hb6.mono HB4.out.size)⟩
        · exact absurd HY.out.2.1 (hno ys HY.out.1)
      · have HN := hide hno
        clear hno
        go_wp2_with fail
        refine HR.out.mono ?_
        rintro e w4 ⟨h4, hb4⟩
        have HB4 := hide (HB3.out.trans (hb4.mono HB3.out.size))
        rcases h4 with ⟨zs, a', c', hzs, hzt, rfl, hza⟩ | ⟨hno, rfl⟩
        · exact absurd hzt (HN.out zs hzs)
        · clear hno hb4
          go_wp2_with fail
          refine (same_any none none 0 0 0 0 [] [] w4 ⟨rfl, .inl rfl⟩ ⟨rfl, .inl rfl⟩ (by omega) (by omega)).mono ?_
          rintro e w5 ⟨rfl, q, rfl⟩
          rw [decide_eq_true (rfl : ([] : List Sp) = [])]
          go_wp2_with fail
          refine (HAL.out _).mono ?_
          rintro e w6 ⟨rfl, hb6⟩
          go_wp2
          go_ret
          exact ⟨rfl, (HB4.out.trans (((Gr.refl w4).drewN q).below.mono HB4.out.size)).trans (hb6.mono HB4.out.size)⟩
    · have h1 : (6000 : Int) < (s.size : Int) := by omega
      clear hsz
      go_enter Tryd.func3, Tryd.ntmps3
      go_wp2_with fail
      refine (few_any A n cap w).mono ?_
      rintro e w1 ⟨rfl, rfl⟩
      rw [d1]
      go_wp2_with fail
      refine (HAL.out _).mono ?_
      rintro e w6 ⟨rfl, hb6⟩
      go_wp2
      go_ret
      exact ⟨rfl, hb6⟩
  · have d1 : decide ((n : Int) ≤ 140) = false := decide_eq_false hfew
    clear hfew
    go_enter Tryd.func3, Tryd.ntmps3
    go_wp2_with fail
    refine (few_any A n cap w).mono ?_
    rintro e w1 ⟨rfl, rfl⟩
    rw [d1]
    go_wp2_with fail
    refine (HAL.out _).mono ?_
    rintro e w6 ⟨rfl, hb6⟩
    go_wp2
    go_ret
    exact ⟨rfl, hb6⟩
end Go.Proofs.YtfahlgjolihmkaaDoor
