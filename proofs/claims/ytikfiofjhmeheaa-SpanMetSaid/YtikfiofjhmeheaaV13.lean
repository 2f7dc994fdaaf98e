/- The walk of SpanMet. -/
import Derived.Test.YtikfiofjhmeheaaN25
import Derived.Test.YtikfiofjhmeheaaV0
namespace Go.Proofs.Ytikfiofjhmeheaa
open Go.RowKit Go.Sort

set_option maxHeartbeats 8000000 in
set_option maxRecDepth 100000 in
theorem met_law (A A2 : Option Addr) (n cap m cap2 : Nat) (xs : List Sp) (os : List Int) (w : World) (hx : SpansAt w.heap.size w A n xs) (hy : IntsAt w.heap.size w A2 m os) :
    Calls Try.prog 13 #[.slice A n cap, .slice A2 m cap2] w (LawPost w) := by
  have mixed := mixedOrders
  have HX := hide hx
  have HY := hide hy
  have HDONE : Hid (∀ W, Below w.heap.size w W → Calls Try.prog 16 #[] W fun e w' => e = .returned (.bool true) ∧ Below w.heap.size w w') := fun W hb => (alive_any W).mono fun _ _ ⟨he, h⟩ => ⟨he, hb.trans (h.mono hb.size)⟩
  clear hx hy
  by_cases hn : (128 : Int) < (n : Int)
  · have hd : decide ((128 : Int) < (n : Int)) = true := decide_eq_true hn
    go_enter Try.func13, Try.ntmps13
    go_wp2_with fail
    refine (HDONE.out w (Below.refl _ _)).mono ?_
    rintro e w8 ⟨rfl, hb⟩
    have HB8 := hide hb
    clear hb
    go_wp2
    go_ret
    exact ⟨rfl, HB8.out⟩
  have hd : decide ((128 : Int) < (n : Int)) = false := decide_eq_false hn
  by_cases hm : (200 : Int) < (m : Int)
  · have hd2 : decide ((200 : Int) < (m : Int)) = true := decide_eq_true hm
    go_enter Try.func13, Try.ntmps13
    go_wp2_with fail
    refine (HDONE.out w (Below.refl _ _)).mono ?_
    rintro e w8 ⟨rfl, hb⟩
    have HB8 := hide hb
    clear hb
    go_wp2
    go_ret
    exact ⟨rfl, HB8.out⟩
  have hd2 : decide ((200 : Int) < (m : Int)) = false := decide_eq_false hm
  have hn128 : n ≤ 128 := by omega
  have hm200 : m ≤ 200 := by omega
  go_enter Try.func13, Try.ntmps13
  go_wp2_with fail
  refine (Stab_any A n cap xs w HX.out).mono ?_
  rintro e w3 ⟨A3, n3, c3, rfl, hi3, hb⟩
  have HX3 := hide (HX.out.now hb (Nat.le_refl _))
  have HY3 := hide (HY.out.now hb (Nat.le_refl _))
  have HB3 := hide hb
  have HI3 := hide hi3
  clear hb hi3 HX HY
  go_wp2_with fail
  refine (Disjoint_any A n cap xs w3 HX3.out).mono ?_
  rintro e w4 ⟨A4, n4, c4, rfl, hi4, hb⟩
  have HX4 := hide (HX3.out.now hb (Nat.le_refl _))
  have HY4 := hide (HY3.out.now hb (Nat.le_refl _))
  have HP4 := hide (HI3.out.now hb (Nat.le_refl _))
  have HB4 := hide (HB3.out.trans (hb.mono HB3.out.size))
  have HO4 := hide hi4
  clear hb hi4 HX3 HY3 HB3 HI3
  by_cases hr : checkE xs = 0
  · have HF := hide (met_facts hr)
    rw [HX4.out.1] at HF
    have h3 := HP4.out.1
    have h4 := HO4.out.1
    rw [HF.out.len, h3] at h4
    subst h4
    have HM := HF.out.met
    rw [h3] at HM
    have HMM := hide HM
    have HFEW := hide HF.out.few
    rw [h3] at HFEW
    have hnP : n3 ≤ n := by
      have h5 := HF.out
      have h1 := (stabTo_length xs (ups n n)).2
      rw [ups_length (Nat.le_refl _)] at h1
      have h2 : (stabP xs).length = (stabTo xs (ups n n)).1.length := by unfold stabP; rw [if_pos hr, HX4.out.1]
      omega
    have hNN : ((n3 : Int) != (n3 : Int)) = false := by simp
    have HOWN : Hid (∀ a, a < n3 → ∃ o : Nat, o < n ∧ iA (stabO xs) a = (o : Int)) := hide fun a ha => HF.out.own a (by omega)
    have HASC : Hid (∀ a b, a < b → b < n3 → iA (stabP xs) a < iA (stabP xs) b) := hide fun a b h1 h2 => HF.out.asc a b h1 (by omega)
    have HDIS : Hid (∀ a b (o o' : Nat), a < b → b < n3 → iA (stabO xs) a = (o : Int) → iA (stabO xs) b = (o' : Int) → hiA xs o ≤ loA xs o') := hide fun a b o o' h1 h2 => HF.out.dis a b o o' h1 (by omega)
    have HME := hide (meets_any A A3 n cap n3 c3 xs (stabP xs) w4 HX4.out HP4.out (by omega) (by omega))
    rw [HMM.out] at HME
    rw [hr]
    clear hr HF h3 HM HMM
    generalize stabP xs = P at *
    generalize stabO xs = O at *
    go_wp2_with fail
    refine HME.out.mono ?_
    rintro e wa ⟨rfl, hG⟩
    have HXa := hide (HX4.out.gr hG)
    have HYa := hide (HY4.out.now hG.below (Nat.le_refl _))
    have HPa := hide (HP4.out.now hG.below (Nat.le_refl _))
    have HOa := hide (HO4.out.now hG.below (Nat.le_refl _))
    have HBa := hide (HB4.out.trans (hG.below.mono HB4.out.size))
    clear hG HX4 HY4 HP4 HO4 HB4 HME
    go_wp2_with fail
    go_loopw [9] (fun vi wr => ∃ i : Nat, i ≤ n3 ∧ vi = .int .i64 i ∧ Hid (∃ q, wr = wa.drewN q)) (fun vi _ => n3 - (intOf vi).toNat)
    case atStart => exact ⟨0, Nat.zero_le _, rfl, ⟨0, rfl⟩⟩
    case round =>
      obtain ⟨i, hi, rfl, HW⟩ := hrel
      by_cases hin : i < n3
      · have hin' : (i : Int) < (n3 : Int) := by omega
        obtain ⟨o, ho, heo⟩ := HOWN.out i hin
        have ho' : (o : Int) < (n : Int) := by omega
        obtain ⟨b, off, rfl, hb, x0, x1⟩ := HXa.out.at_ ho
        obtain ⟨b3, off3, rfl, hb3, y0⟩ := HPa.out.at_ hin
        obtain ⟨b4, off4, rfl, hb4, z0⟩ := HOa.out.at_ hin
        have HEO := hide heo
        rw [heo] at z0
        have E0 : ∀ nq, (wr.drewN nq).cell? ⟨b4, off4 + i, none⟩ = some (.int .i64 (o : Int)) := fun nq => by obtain ⟨q, rfl⟩ := HW.out; exact z0
        have E1 : ∀ nq, (wr.drewN nq).cell? ⟨b3, off3 + i, none⟩ = some (.int .i64 (iA P i)) := fun nq => by obtain ⟨q, rfl⟩ := HW.out; exact y0
        have HQ : Hid (∀ nq, ∃ q, wr.drewN nq = wa.drewN q) := fun nq => by obtain ⟨q, rfl⟩ := HW.out; exact ⟨q + nq, World.drewN_drewN _ _ _⟩
        have hdo : decide ((o : Int) < 0) = false := decide_eq_false (by omega)
        have hdn : decide (n ≤ o) = false := decide_eq_false (by omega)
        have HX0 := hide x0
        have HZ0 := hide z0
        have HXb := hide HXa.out
        have HOb := hide HOa.out
        have tail : Hid (∀ (k : Nat), k < i → ∃ o2 : Nat, o2 < n ∧ iA O k = (o2 : Int) ∧ hiA xs o2 ≤ loA xs o) := hide fun k hk => by
          obtain ⟨o2, h1, h2⟩ := HOWN.out k (by omega)
          exact ⟨o2, h1, h2, HDIS.out k i o2 o hk hin h2 HEO.out⟩
        have loop2 : True := trivial
        clear heo y0 x0 x1 z0 HW loop2
        by_cases h0 : i = 0
        · have h00 : ¬ 0 < i := by omega
          have hd3 : decide (0 < i) = false := decide_eq_false h00
          have H0 := hide h0
          clear h0
          go_wp2_with fail
          go_quiet (fail)
          go_wp2_with fail
          go_loopw [10] (fun vk wr => ∃ k : Nat, k ≤ i ∧ vk = .int .i64 k ∧ Hid (∃ q, wr = wa.drewN q)) (fun vk _ => i - (intOf vk).toNat)
          case atStart => exact ⟨0, Nat.zero_le _, rfl, HQ.out nq⟩
          case round =>
            obtain ⟨k, hk, rfl, HW2⟩ := hrel
            obtain rfl : k = i := by have := H0.out; omega
            go_wp2
            go_roundw
            case rel => exact ⟨k + 1, by omega, by go_num, HW2⟩
            case measure => simp [intOf]; omega
        · obtain ⟨p, hp⟩ : ∃ p : Nat, i = p + 1 := ⟨i - 1, by omega⟩
          have hw : IntKind.i64.wrap ((i : Int) - 1) = (p : Int) := by rw [IntKind.wrap_i64]; omega
          have hp2 : (p : Int) < (n3 : Int) := by omega
          have h00 : 0 < i := by omega
          have hd3 : decide (0 < i) = true := decide_eq_true h00
          have hlt := HASC.out p i (by omega) hin
          have hd4 : decide (iA P i ≤ iA P p) = false := decide_eq_false (by omega)
          have HCP := hide ((HPa.out.at_ (k := p) (by omega)))
          have y1 : wa.cell? ⟨b3, off3 + p, none⟩ = some (.int .i64 (iA P p)) := by
            obtain ⟨b', off', e, _, hc⟩ := HCP.out
            injection e with e
            injection e with e1 e2
            subst e1; subst e2
            exact hc
          have E2 : ∀ nq, (wr.drewN nq).cell? ⟨b3, off3 + p, none⟩ = some (.int .i64 (iA P p)) := fun nq => by obtain ⟨q, hq⟩ := HQ.out nq; rw [hq]; exact y1
          clear hlt HCP y1 h0 hp
          generalize iA P i = pi at *
          generalize iA P p = pp at *
          go_wp2_with fail
          go_quiet (fail)
          clear E0 E1 E2 hdo hdn hd3 hd4 hw hp2 h00
          go_wp2_with fail
          go_loopw [10] (fun vk wr => ∃ k : Nat, k ≤ i ∧ vk = .int .i64 k ∧ Hid (∃ q, wr = wa.drewN q)) (fun vk _ => i - (intOf vk).toNat)
          case atStart => exact ⟨0, Nat.zero_le _, rfl, HQ.out nq⟩
          case round =>
            obtain ⟨k, hk, rfl, HW2⟩ := hrel
            by_cases hki : k < i
            · have hki' : (k : Int) < (i : Int) := by omega
              have hk3 : (k : Int) < (n3 : Int) := by omega
              obtain ⟨o2, ho2, heo2, hle⟩ := tail.out k hki
              have ho2' : (o2 : Int) < (n : Int) := by omega
              have hz := (HOb.out.at_ (k := k) (by omega))
              have z1 : wa.cell? ⟨b4, off4 + k, none⟩ = some (.int .i64 (o2 : Int)) := by
                obtain ⟨b', off', e, _, hc⟩ := hz
                injection e with e
                injection e with e1 e2
                subst e1; subst e2
                rw [heo2] at hc
                exact hc
              have x1 := (HXb.out.at2 (k := o2) ho2).2
              have F0 : ∀ nq, (wr.drewN nq).cell? ⟨b4, off4 + i, none⟩ = some (.int .i64 (o : Int)) := fun nq => by obtain ⟨q, rfl⟩ := HW2.out; exact HZ0.out
              have F1 : ∀ nq, (wr.drewN nq).cell? ⟨b, off + o * 2, none⟩ = some (.int .i64 (loA xs o)) := fun nq => by obtain ⟨q, rfl⟩ := HW2.out; exact HX0.out
              have F2 : ∀ nq, (wr.drewN nq).cell? ⟨b4, off4 + k, none⟩ = some (.int .i64 (o2 : Int)) := fun nq => by obtain ⟨q, rfl⟩ := HW2.out; exact z1
              have F3 : ∀ nq, (wr.drewN nq).cell? ⟨b, off + o2 * 2 + 1, none⟩ = some (.int .i64 (hiA xs o2)) := fun nq => by obtain ⟨q, rfl⟩ := HW2.out; exact x1
              have HQ2 : Hid (∀ nq, ∃ q, wr.drewN nq = wa.drewN q) := fun nq => by obtain ⟨q, rfl⟩ := HW2.out; exact ⟨q + nq, World.drewN_drewN _ _ _⟩
              have hd5 : decide (loA xs o < hiA xs o2) = false := decide_eq_false (by omega)
              clear hz z1 x1 heo2 hle HW2 HX0 HZ0
              generalize loA xs o = ll at *
              generalize hiA xs o2 = hh at *
              go_wp2_with fail
              go_quiet (fail)
              go_wp2
              go_roundw
              case rel => exact ⟨k + 1, by omega, by go_num, HQ2.out _⟩
              case measure => simp [intOf]; omega
            · obtain rfl : k = i := by omega
              go_wp2
              go_roundw
              case rel => exact ⟨k + 1, by omega, by go_num, HW2⟩
              case measure => simp [intOf]; omega
      · obtain rfl : i = n3 := by omega
        have hG : Gr wa wr := by obtain ⟨q, rfl⟩ := HW.out; exact (Gr.refl wa).drewN q
        have HBb := hide (HBa.out.trans (hG.below.mono HBa.out.size))
        have HME := hide (meets_any A A2 n cap m cap2 xs os wr (HXa.out.gr hG) (HYa.out.now hG.below (Nat.le_refl _)) (by omega) (by omega))
        clear hG HW HXa HYa HPa HOa HBa
        by_cases hge : (i : Int) ≤ (m : Int)
        · have hd6 : decide ((i : Int) ≤ (m : Int)) = true := decide_eq_true hge
          go_wp2_with fail
          refine (HDONE.out wr HBb.out).mono ?_
          rintro e w8 ⟨rfl, hb⟩
          have HB8 := hide hb
          clear hb
          go_wp2
          go_ret
          exact ⟨rfl, HB8.out⟩
        · have hd6 : decide ((i : Int) ≤ (m : Int)) = false := decide_eq_false hge
          have hmf : meetsB xs n os m = false := by
            cases h : meetsB xs n os m
            · rfl
            · have := HFEW.out os m h
              omega
          rw [hmf] at HME
          clear hmf
          go_wp2_with fail
          refine HME.out.mono ?_
          rintro e w7 ⟨rfl, hG⟩
          have HB7 := hide (HBb.out.trans (hG.below.mono HBb.out.size))
          clear hG
          go_wp2_with fail
          refine (HDONE.out w7 HB7.out).mono ?_
          rintro e w8 ⟨rfl, hb⟩
          have HB8 := hide hb
          clear hb
          go_wp2
          go_ret
          exact ⟨rfl, HB8.out⟩
  · have h3 : n3 = 0 := by rw [← HP4.out.1]; unfold stabP; rw [if_neg hr]; rfl
    have h4 : n4 = 0 := by rw [← HO4.out.1]; unfold stabO; rw [if_neg hr]; rfl
    subst h3 h4
    have hc1 : (checkE xs == 0) = false := beq_eq_false_iff_ne.2 hr
    have hc2 : (checkE xs != 0) = true := by rw [bne_iff_ne]; exact hr
    have hcc : (checkE xs == checkE xs) = true := by simp
    generalize checkE xs = ce at hc1 hc2 hcc ⊢
    clear hr
    go_wp2_with fail
    refine (HDONE.out w4 HB4.out).mono ?_
    rintro e w8 ⟨rfl, hb⟩
    have HB8 := hide hb
    clear hb
    go_wp2
    go_ret
    exact ⟨rfl, HB8.out⟩

end Go.Proofs.Ytikfiofjhmeheaa
