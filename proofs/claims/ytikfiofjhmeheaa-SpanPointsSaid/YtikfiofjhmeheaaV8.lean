/- The walk of SpanPoints. -/
import Derived.Test.YtikfiofjhmeheaaN31
import Derived.Test.YtikfiofjhmeheaaN27
import Derived.Test.YtikfiofjhmeheaaV0
namespace Go.Proofs.Ytikfiofjhmeheaa
open Go.RowKit Go.Sort

theorem stab_lengths (xs : List Sp) (h : xs.length ≤ 1000000) : (stabP xs).length ≤ 4398046511104 ∧ (stabO xs).length ≤ 4398046511104 ∧ (trayL xs).length ≤ 4398046511104 := by
  have h1 := stabTo_length xs (ups xs.length xs.length)
  have h2 := layTo_length xs (ups xs.length xs.length)
  rw [ups_length (Nat.le_refl _)] at h1
  unfold stabP stabO trayL
  split
  · omega
  · simp

set_option maxHeartbeats 8000000 in
set_option maxRecDepth 100000 in
theorem points_law (A : Option Addr) (n cap : Nat) (xs : List Sp) (w : World) (hx : SpansAt w.heap.size w A n xs) :
    Calls Try.prog 8 #[.slice A n cap] w (LawPost w) := by
  have HX := hide hx
  have HDONE : Hid (∀ W, Below w.heap.size w W → Calls Try.prog 16 #[] W fun e w' => e = .returned (.bool true) ∧ Below w.heap.size w w') := fun W hb => (alive_any W).mono fun _ _ ⟨he, h⟩ => ⟨he, hb.trans (h.mono hb.size)⟩
  clear hx
  go_enter Try.func8, Try.ntmps8
  go_wp2_with fail
  refine (few_any A n cap w).mono ?_
  rintro e w1 ⟨rfl, hw1⟩
  obtain rfl : w = w1 := hw1
  by_cases hn : (n : Int) ≤ 140
  · have hd : decide ((n : Int) ≤ 140) = true := decide_eq_true hn
    have hn' : n ≤ 1000000 := by omega
    go_wp2_with fail
    refine (own_any A n cap xs w HX.out hn').mono ?_
    rintro e w2 ⟨rfl, hm, hb⟩
    obtain ⟨hs2, -, -, hg1, hg2⟩ := hm.spans HX.out.1
    have HM2 := hide hm
    have HS2 := hide hs2
    have HX2 := hide (HX.out.now hb (Nat.le_refl _))
    have HB2 := hide hb
    generalize hgg : w.heap.size = g at HM2 HS2 hg1 hg2 ⊢
    clear hm hb hs2 hg1 hg2
    go_wp2_with fail
    refine (Stab_any _ n (n + 1) xs w2 HS2.out).mono ?_
    rintro e w3 ⟨A3, n3, c3, rfl, hi3, hb⟩
    have HM3 := hide (HM2.out.below hb)
    have HS3 := hide (HS2.out.now hb (Nat.le_refl _))
    have HX3 := hide (HX2.out.now hb (Nat.le_refl _))
    have HB3 := hide (HB2.out.trans (hb.mono HB2.out.size))
    have HI3 := hide hi3
    clear hb hi3 HM2 HS2 HX2 HB2
    go_wp2_with fail
    refine (Disjoint_any _ n (n + 1) xs w3 HS3.out).mono ?_
    rintro e w4 ⟨A4, n4, c4, rfl, hi4, hb⟩
    have HM4 := hide (HM3.out.below hb)
    have HS4 := hide (HS3.out.now hb (Nat.le_refl _))
    have HX4 := hide (HX3.out.now hb (Nat.le_refl _))
    have HB4 := hide (HB3.out.trans (hb.mono HB3.out.size))
    have HI3b := hide (HI3.out.now hb (Nat.le_refl _))
    have HI4 := hide hi4
    clear hb hi4 HM3 HS3 HX3 HB3 HI3
    go_wp2_with fail
    refine (refPoints_any A n cap xs w4 HX4.out).mono ?_
    rintro e w5 ⟨A5, A6, n5, c5, n6, c6, rfl, hi5, hi6, hb⟩
    have HM5 := hide (HM4.out.below hb)
    have HS5 := hide (HS4.out.now hb (Nat.le_refl _))
    have HX5 := hide (HX4.out.now hb (Nat.le_refl _))
    have HB5 := hide (HB4.out.trans (hb.mono HB4.out.size))
    have HI3c := hide (HI3b.out.now hb (Nat.le_refl _))
    have HI4c := hide (HI4.out.now hb (Nat.le_refl _))
    have HI5 := hide hi5
    have HI6 := hide hi6
    clear hb hi5 hi6 HM4 HS4 HX4 HB4 HI3b HI4
    have hL := stab_lengths xs (by rw [HX.out.1]; exact hn')
    have HLL := hide hL
    have HA := hide (alike_wide A3 A5 n3 c3 n5 c5 _ _ w5 HI3c.out HI5.out (by rw [← HI3c.out.1]; exact hL.1) (by rw [← HI5.out.1]; exact hL.1))
    have HB := hide (fun q => alike_wide A4 A6 n4 c4 n6 c6 _ _ (w5.drewN q) (HI4c.out.now (drewN_below w5 q) (Nat.le_refl _)) (HI6.out.now (drewN_below w5 q) (Nat.le_refl _)) (by rw [← HI4c.out.1]; exact hL.2.1) (by rw [← HI6.out.1]; exact hL.2.1))
    clear hL HI3c HI4c HI5 HI6
    rw [decide_eq_true rfl] at HA
    have HB' : Hid (∀ q, Calls Try.prog 46 #[.slice A4 n4 c4, .slice A6 n6 c6] (w5.drewN q) fun e w' => e = .returned (.bool true) ∧ ∃ r, w' = (w5.drewN q).drewN r) := fun q => by have := HB.out q; rw [decide_eq_true rfl] at this; exact this
    clear HB
    generalize hce : checkE xs = ce
    go_wp2_with fail
    refine HA.out.mono ?_
    rintro e w6 ⟨rfl, q, rfl⟩
    go_wp2_with fail
    refine (HB'.out q).mono ?_
    rintro e w6 ⟨rfl, r, rfl⟩
    clear HA HB'
    have HX6 := hide ((HX5.out.now (drewN_below _ q) (Nat.le_refl _)).now (drewN_below _ r) (Nat.le_refl _))
    have HS6 := hide ((HS5.out.now (drewN_below _ q) (Nat.le_refl _)).now (drewN_below _ r) (Nat.le_refl _))
    have HM6 := hide ((HM5.out.below (drewN_below _ q)).below (drewN_below _ r))
    have HB6 := hide ((HB5.out.trans ((drewN_below w5 q).mono HB5.out.size)).trans ((drewN_below (w5.drewN q) r).mono HB5.out.size))
    clear HB5 HX5 HM5 HS5
    generalize (w5.drewN q).drewN r = w6 at HX6 HS6 HM6 HB6 ⊢
    go_wp2_with fail
    refine (Trays_any _ n (n + 1) xs w6 HS6.out).mono ?_
    rintro e w7 ⟨A7, n7, c7, rfl, hi7, hb⟩
    have HM7 := hide (HM6.out.below hb)
    have HS7 := hide (HS6.out.now hb (Nat.le_refl _))
    have HX7 := hide (HX6.out.now hb (Nat.le_refl _))
    have HB7 := hide (HB6.out.trans (hb.mono HB6.out.size))
    have HI7 := hide hi7
    clear hb hi7 HM6 HS6 HX6 HB6
    rw [hce]
    go_wp2_with fail
    refine (refTrays_any A n cap xs w7 HX7.out).mono ?_
    rintro e w8 ⟨A8, n8, c8, rfl, hi8, hb⟩
    have HM8 := hide (HM7.out.below hb)
    have HS8 := hide (HS7.out.now hb (Nat.le_refl _))
    have HX8 := hide (HX7.out.now hb (Nat.le_refl _))
    have HB8 := hide (HB7.out.trans (hb.mono HB7.out.size))
    have HC := hide (alike_wide A7 A8 n7 c7 n8 c8 _ _ w8 (HI7.out.now hb (Nat.le_refl _)) hi8 (by have := HI7.out.1; have := HLL.out.2.2; omega) (by have := hi8.1; have := HLL.out.2.2; omega))
    rw [decide_eq_true rfl] at HC
    clear hb hi8 HM7 HS7 HX7 HB7 HI7
    rw [hce]
    generalize trayN xs = tn
    go_wp2_with fail
    refine HC.out.mono ?_
    rintro e w9 ⟨rfl, q, rfl⟩
    have HX9 := hide (HX8.out.now (drewN_below _ q) (Nat.le_refl _))
    have HS9 := hide (HS8.out.now (drewN_below _ q) (Nat.le_refl _))
    have HM9 := hide (HM8.out.below (drewN_below _ q))
    have HB9 := hide (HB8.out.trans ((drewN_below w8 q).mono HB8.out.size))
    clear HC HX8 HS8 HM8 HB8
    generalize w8.drewN q = w9 at HX9 HS9 HM9 HB9 ⊢
    go_wp2_with fail
    refine (Depth_any _ n (n + 1) xs w9 HS9.out).mono ?_
    rintro e wa ⟨rfl, hb⟩
    have HMa := hide (HM9.out.below hb)
    have HXa := hide (HX9.out.now hb (Nat.le_refl _))
    have HBa := hide (HB9.out.trans (hb.mono HB9.out.size))
    clear hb HM9 HS9 HX9 HB9
    rw [hce]
    go_wp2_with fail
    refine (refDepth_any A n cap xs wa HXa.out).mono ?_
    rintro e wb ⟨rfl, hb⟩
    have HK := hide (kept_any A n cap g g xs wb (HXa.out.now hb (Nat.le_refl _)) (HMa.out.below hb) hn')
    have HBb := hide (HBa.out.trans (hb.mono HBa.out.size))
    clear hb HMa HXa HBa
    rw [hce]
    generalize deepV xs = dv
    go_wp2_with fail
    refine HK.out.mono ?_
    rintro e wc ⟨rfl, hb⟩
    have HBc := hide (HBb.out.trans (hb.mono HBb.out.size))
    clear hb HBb HK
    go_wp2_with fail
    refine (HDONE.out wc HBc.out).mono ?_
    rintro e wd ⟨rfl, hb⟩
    have HBd := hide hb
    clear hb HBc
    go_wp2
    go_ret
    exact ⟨rfl, HBd.out⟩
  · have hd : decide ((n : Int) ≤ 140) = false := decide_eq_false hn
    go_wp2_with fail
    refine (HDONE.out w (Below.refl _ _)).mono ?_
    rintro e w8 ⟨rfl, hb⟩
    have HB8 := hide hb
    clear hb
    go_wp2
    go_ret
    exact ⟨rfl, HB8.out⟩

end Go.Proofs.Ytikfiofjhmeheaa
