/- The walk of SpanLaid. -/
import Derived.Test.YtikfiofjhmeheaaN30
import Derived.Test.YtikfiofjhmeheaaV0
namespace Go.Proofs.Ytikfiofjhmeheaa
open Go.RowKit Go.Sort

set_option maxHeartbeats 8000000 in
set_option maxRecDepth 100000 in
theorem laid_law (A : Option Addr) (n cap : Nat) (x : Int) (xs : List Sp) (w : World) (hx : SpansAt w.heap.size w A n xs) :
    Calls Try.prog 14 #[.slice A n cap, .int .i64 x] w (LawPost w) := by
  have mixed := mixedOrders
  have HX := hide hx
  have HDONE : Hid (∀ W, Below w.heap.size w W → Calls Try.prog 16 #[] W fun e w' => e = .returned (.bool true) ∧ Below w.heap.size w w') := fun W hb => (alive_any W).mono fun _ _ ⟨he, h⟩ => ⟨he, hb.trans (h.mono hb.size)⟩
  clear hx
  by_cases hn : (128 : Int) < (n : Int)
  · have hd : decide ((128 : Int) < (n : Int)) = true := decide_eq_true hn
    go_enter Try.func14, Try.ntmps14
    go_wp2_with fail
    refine (HDONE.out w (Below.refl _ _)).mono ?_
    rintro e w8 ⟨rfl, hb⟩
    have HB8 := hide hb
    clear hb
    go_wp2
    go_ret
    exact ⟨rfl, HB8.out⟩
  have hd : decide ((128 : Int) < (n : Int)) = false := decide_eq_false hn
  go_enter Try.func14, Try.ntmps14
  go_wp2_with fail
  refine (Trays_any A n cap xs w HX.out).mono ?_
  rintro e w3 ⟨A3, n3, c3, rfl, hi3, hb⟩
  have HX3 := hide (HX.out.now hb (Nat.le_refl _))
  have HB3 := hide hb
  have HI3 := hide hi3
  clear hb hi3
  go_wp2_with fail
  refine (Depth_any A n cap xs w3 HX3.out).mono ?_
  rintro e w4 ⟨rfl, hb⟩
  have HX4 := hide (HX3.out.now hb (Nat.le_refl _))
  have HB4 := hide (HB3.out.trans (hb.mono HB3.out.size))
  have HI4 := hide (HI3.out.now hb (Nat.le_refl _))
  clear hb HX3 HB3 HI3
  by_cases hr : checkE xs = 0
  · have HOK := hide (ok_of_check hr HX.out.1)
    have HF := hide (laid_facts HOK.out.2)
    have hT : trayL xs = (layTo xs (ups n n)).2 := by
      unfold trayL
      rw [if_pos hr, HX.out.1]
    have hN : trayN xs = (layTo xs (ups n n)).1.length := by
      unfold trayN
      rw [if_pos hr, HX.out.1]
    have hD : deepV xs = depTo xs (ups n n) := by
      unfold deepV
      rw [if_pos hr, HX.out.1]
    have hl := (layTo_length xs (ups n n)).1
    have hn3 : n3 = n := by rw [← HI4.out.1, hT]; exact hl
    subst hn3
    have hn := HOK.out.1
    rw [hT] at HI4
    rw [hr, hN, hD]
    generalize layTo xs (ups n3 n3) = ly at *
    generalize depTo xs (ups n3 n3) = st at *
    obtain ⟨E, T⟩ := ly
    obtain ⟨dp, at'⟩ := st
    have HF : Hid (LaidF xs n3 E.length T (dp, at')) := HF
    have HI4 : Hid (IntsAt w4.heap.size w4 A3 n3 T) := HI4
    have hcnt : E.length = dp := HF.out.cnt
    dsimp only
    rw [hcnt]
    rw [hcnt] at HF
    clear hr hT hN hD hl hcnt hd
    have hNN : ((n3 : Int) != (n3 : Int)) = false := by simp
    have hDD : ((dp : Int) != (dp : Int)) = false := by simp
    go_wp2_with fail
    go_loopw [11, 12, 13] (fun vh vt vi wr => ∃ i : Nat, i ≤ n3 ∧ vi = .int .i64 i ∧ vh = .int .i64 (conTo xs at' i : Nat) ∧ vt = .int .i64 (conTo xs x i : Nat) ∧ Hid (∃ q, wr = w4.drewN q)) (fun _ _ vi _ => n3 - (intOf vi).toNat)
    case atStart => exact ⟨0, Nat.zero_le _, rfl, rfl, rfl, ⟨0, rfl⟩⟩
    case round =>
      obtain ⟨i, hi, rfl, rfl, rfl, HW⟩ := hrel
      by_cases hin : i < n3
      · have hin' : (i : Int) < (n3 : Int) := by omega
        obtain ⟨b, off, rfl, hb, x0, x1⟩ := HX4.out.at_ hin
        obtain ⟨b3, off3, rfl, hb3, y0⟩ := HI4.out.at_ hin
        obtain ⟨ti, ht1, ht2⟩ := HF.out.tray i hin
        have e0 : wr.cell? ⟨b3, off3 + i, none⟩ = some (.int .i64 (iA T i)) := by obtain ⟨q, rfl⟩ := HW.out; exact y0
        have g0 : decide (iA T i < 0) = false := decide_eq_false (by omega)
        have g1 : decide ((dp : Int) ≤ iA T i) = false := decide_eq_false (by omega)
        have HAP : Hid (∀ k, k < i → iA T i = iA T k → ¬ (loA xs i < hiA xs k ∧ loA xs k < hiA xs i)) := fun k hk he => HF.out.apart i k hin (by omega) (by omega) he
        have HY0 := hide y0
        have HX0 := hide x0
        have HX1 := hide x1
        have HIb := hide HI4.out
        have HXb := hide HX4.out
        clear x0 x1 y0 ht1 ht2
        go_wp2_with fail
        go_loopw [14] (fun vk wr => ∃ k : Nat, k ≤ i ∧ vk = .int .i64 k ∧ Hid (∃ q, wr = w4.drewN q)) (fun vk _ => i - (intOf vk).toNat)
        case atStart => exact ⟨0, Nat.zero_le _, rfl, HW⟩
        case round =>
          obtain ⟨k, hk, rfl, HW2⟩ := hrel
          by_cases hki : k < i
          · have hki' : (k : Int) < (i : Int) := by omega
            have hk3 : (k : Int) < (n3 : Int) := by omega
            have hz := (HIb.out.at_ (k := k) (by omega))
            have z1 : w4.cell? ⟨b3, off3 + k, none⟩ = some (.int .i64 (iA T k)) := by
              obtain ⟨b', off', e, _, hc⟩ := hz
              injection e with e
              injection e with e1 e2
              subst e1; subst e2
              exact hc
            obtain ⟨u0, u1⟩ := HXb.out.at2 (k := k) (by omega)
            have F0 : ∀ nq, (wr.drewN nq).cell? ⟨b3, off3 + i, none⟩ = some (.int .i64 (iA T i)) := fun nq => by obtain ⟨q, rfl⟩ := HW2.out; exact HY0.out
            have F1 : ∀ nq, (wr.drewN nq).cell? ⟨b3, off3 + k, none⟩ = some (.int .i64 (iA T k)) := fun nq => by obtain ⟨q, rfl⟩ := HW2.out; exact z1
            have F2 : ∀ nq, (wr.drewN nq).cell? ⟨b, off + i * 2, none⟩ = some (.int .i64 (loA xs i)) := fun nq => by obtain ⟨q, rfl⟩ := HW2.out; exact HX0.out
            have F3 : ∀ nq, (wr.drewN nq).cell? ⟨b, off + i * 2 + 1, none⟩ = some (.int .i64 (hiA xs i)) := fun nq => by obtain ⟨q, rfl⟩ := HW2.out; exact HX1.out
            have F4 : ∀ nq, (wr.drewN nq).cell? ⟨b, off + k * 2, none⟩ = some (.int .i64 (loA xs k)) := fun nq => by obtain ⟨q, rfl⟩ := HW2.out; exact u0
            have F5 : ∀ nq, (wr.drewN nq).cell? ⟨b, off + k * 2 + 1, none⟩ = some (.int .i64 (hiA xs k)) := fun nq => by obtain ⟨q, rfl⟩ := HW2.out; exact u1
            have HQ2 : Hid (∀ nq, ∃ q, wr.drewN nq = w4.drewN q) := fun nq => by obtain ⟨q, rfl⟩ := HW2.out; exact ⟨q + nq, World.drewN_drewN _ _ _⟩
            have hap := HAP.out k hki
            clear hz z1 u0 u1 HW2 g0 g1 e0
            generalize iA T i = ui at F0 hap
            generalize iA T k = uk at F1 hap
            generalize loA xs i = li at F2 hap
            generalize hiA xs i = hi' at F3 hap
            generalize loA xs k = lk at F4 hap
            generalize hiA xs k = hk' at F5 hap
            by_cases h1 : ui = uk
            · have b1 : (ui == uk) = true := beq_iff_eq.2 h1
              by_cases h2 : li < hk'
              · have b2 : decide (li < hk') = true := decide_eq_true h2
                have b3' : decide (lk < hi') = false := decide_eq_false fun h3 => hap h1 ⟨h2, h3⟩
                clear h1 h2 hap
                go_wp2_with fail
                go_quiet (fail)
                go_wp2
                go_roundw
                case rel => exact ⟨k + 1, by omega, by go_num, HQ2.out _⟩
                case measure => simp [intOf]; omega
              · have b2 : decide (li < hk') = false := decide_eq_false h2
                clear h1 h2 hap
                go_wp2_with fail
                go_quiet (fail)
                go_wp2
                go_roundw
                case rel => exact ⟨k + 1, by omega, by go_num, HQ2.out _⟩
                case measure => simp [intOf]; omega
            · have b1 : (ui == uk) = false := beq_eq_false_iff_ne.2 h1
              clear h1 hap
              go_wp2_with fail
              go_quiet (fail)
              go_wp2
              go_roundw
              case rel => exact ⟨k + 1, by omega, by go_num, HQ2.out _⟩
              case measure => simp [intOf]; omega
          · obtain rfl : k = i := by omega
            have c0 : wr.cell? ⟨b, off + k * 2, none⟩ = some (.int .i64 (loA xs k)) := by obtain ⟨q, rfl⟩ := HW2.out; exact HX0.out
            have c1 : wr.cell? ⟨b, off + k * 2 + 1, none⟩ = some (.int .i64 (hiA xs k)) := by obtain ⟨q, rfl⟩ := HW2.out; exact HX1.out
            have HSA := hide (conTo_succ xs at' k)
            have HSB := hide (conTo_succ xs x k)
            have hA := conTo_le xs at' k
            have hB := conTo_le xs x k
            clear e0 g0 g1
            generalize conTo xs at' k = ca at HSA hA ⊢
            generalize conTo xs x k = cb at HSB hB ⊢
            generalize loA xs k = ll at c0 HSA HSB
            generalize hiA xs k = hh at c1 HSA HSB
            have sA : ∀ v : Int, (ll ≤ v ∧ v < hh) → hasB ll hh v = true := fun v h => decide_eq_true h
            have sB : ∀ v : Int, ¬ (ll ≤ v ∧ v < hh) → ¬ hasB ll hh v = true := fun v h e => h (of_decide_eq_true e)
            have HHA : Hid ((ll ≤ at' ∧ at' < hh → conTo xs at' (k + 1) = ca + 1) ∧ (¬ (ll ≤ at' ∧ at' < hh) → conTo xs at' (k + 1) = ca)) :=
              ⟨fun h => by rw [HSA.out, if_pos (sA _ h)], fun h => by rw [HSA.out, if_neg (sB _ h)]⟩
            have HHB : Hid ((ll ≤ x ∧ x < hh → conTo xs x (k + 1) = cb + 1) ∧ (¬ (ll ≤ x ∧ x < hh) → conTo xs x (k + 1) = cb)) :=
              ⟨fun h => by rw [HSB.out, if_pos (sA _ h)], fun h => by rw [HSB.out, if_neg (sB _ h)]⟩
            clear HSA HSB sA sB
            by_cases p1A : ll ≤ at'
            · have d1A : decide (ll ≤ at') = true := decide_eq_true p1A
              by_cases p2A : at' < hh
              · have d2A : decide (at' < hh) = true := decide_eq_true p2A
                have PA : ll ≤ at' ∧ at' < hh := ⟨p1A, p2A⟩
                clear p1A p2A
                by_cases p1B : ll ≤ x
                · have d1B : decide (ll ≤ x) = true := decide_eq_true p1B
                  by_cases p2B : x < hh
                  · have d2B : decide (x < hh) = true := decide_eq_true p2B
                    have PB : ll ≤ x ∧ x < hh := ⟨p1B, p2B⟩
                    clear p1B p2B
                    have HEA : Hid (conTo xs at' (k + 1) = ca + 1) := HHA.out.1 PA
                    have HEB : Hid (conTo xs x (k + 1) = cb + 1) := HHB.out.1 PB
                    clear HHA HHB PA PB
                    go_wp2
                    go_roundw
                    case rel => exact ⟨k + 1, by omega, by go_num, by rw [HEA.out]; go_num, by rw [HEB.out]; go_num, HW2⟩
                    case measure => simp [intOf]; omega
                  · have d2B : decide (x < hh) = false := decide_eq_false p2B
                    have PB : ¬ (ll ≤ x ∧ x < hh) := fun h => p2B h.2
                    clear p1B p2B
                    have HEA : Hid (conTo xs at' (k + 1) = ca + 1) := HHA.out.1 PA
                    have HEB : Hid (conTo xs x (k + 1) = cb) := HHB.out.2 PB
                    clear HHA HHB PA PB
                    go_wp2
                    go_roundw
                    case rel => exact ⟨k + 1, by omega, by go_num, by rw [HEA.out]; go_num, by rw [HEB.out], HW2⟩
                    case measure => simp [intOf]; omega
                · have d1B : decide (ll ≤ x) = false := decide_eq_false p1B
                  have PB : ¬ (ll ≤ x ∧ x < hh) := fun h => p1B h.1
                  clear p1B
                  have HEA : Hid (conTo xs at' (k + 1) = ca + 1) := HHA.out.1 PA
                  have HEB : Hid (conTo xs x (k + 1) = cb) := HHB.out.2 PB
                  clear HHA HHB PA PB
                  go_wp2
                  go_roundw
                  case rel => exact ⟨k + 1, by omega, by go_num, by rw [HEA.out]; go_num, by rw [HEB.out], HW2⟩
                  case measure => simp [intOf]; omega
              · have d2A : decide (at' < hh) = false := decide_eq_false p2A
                have PA : ¬ (ll ≤ at' ∧ at' < hh) := fun h => p2A h.2
                clear p1A p2A
                by_cases p1B : ll ≤ x
                · have d1B : decide (ll ≤ x) = true := decide_eq_true p1B
                  by_cases p2B : x < hh
                  · have d2B : decide (x < hh) = true := decide_eq_true p2B
                    have PB : ll ≤ x ∧ x < hh := ⟨p1B, p2B⟩
                    clear p1B p2B
                    have HEA : Hid (conTo xs at' (k + 1) = ca) := HHA.out.2 PA
                    have HEB : Hid (conTo xs x (k + 1) = cb + 1) := HHB.out.1 PB
                    clear HHA HHB PA PB
                    go_wp2
                    go_roundw
                    case rel => exact ⟨k + 1, by omega, by go_num, by rw [HEA.out], by rw [HEB.out]; go_num, HW2⟩
                    case measure => simp [intOf]; omega
                  · have d2B : decide (x < hh) = false := decide_eq_false p2B
                    have PB : ¬ (ll ≤ x ∧ x < hh) := fun h => p2B h.2
                    clear p1B p2B
                    have HEA : Hid (conTo xs at' (k + 1) = ca) := HHA.out.2 PA
                    have HEB : Hid (conTo xs x (k + 1) = cb) := HHB.out.2 PB
                    clear HHA HHB PA PB
                    go_wp2
                    go_roundw
                    case rel => exact ⟨k + 1, by omega, by go_num, by rw [HEA.out], by rw [HEB.out], HW2⟩
                    case measure => simp [intOf]; omega
                · have d1B : decide (ll ≤ x) = false := decide_eq_false p1B
                  have PB : ¬ (ll ≤ x ∧ x < hh) := fun h => p1B h.1
                  clear p1B
                  have HEA : Hid (conTo xs at' (k + 1) = ca) := HHA.out.2 PA
                  have HEB : Hid (conTo xs x (k + 1) = cb) := HHB.out.2 PB
                  clear HHA HHB PA PB
                  go_wp2
                  go_roundw
                  case rel => exact ⟨k + 1, by omega, by go_num, by rw [HEA.out], by rw [HEB.out], HW2⟩
                  case measure => simp [intOf]; omega
            · have d1A : decide (ll ≤ at') = false := decide_eq_false p1A
              have PA : ¬ (ll ≤ at' ∧ at' < hh) := fun h => p1A h.1
              clear p1A
              by_cases p1B : ll ≤ x
              · have d1B : decide (ll ≤ x) = true := decide_eq_true p1B
                by_cases p2B : x < hh
                · have d2B : decide (x < hh) = true := decide_eq_true p2B
                  have PB : ll ≤ x ∧ x < hh := ⟨p1B, p2B⟩
                  clear p1B p2B
                  have HEA : Hid (conTo xs at' (k + 1) = ca) := HHA.out.2 PA
                  have HEB : Hid (conTo xs x (k + 1) = cb + 1) := HHB.out.1 PB
                  clear HHA HHB PA PB
                  go_wp2
                  go_roundw
                  case rel => exact ⟨k + 1, by omega, by go_num, by rw [HEA.out], by rw [HEB.out]; go_num, HW2⟩
                  case measure => simp [intOf]; omega
                · have d2B : decide (x < hh) = false := decide_eq_false p2B
                  have PB : ¬ (ll ≤ x ∧ x < hh) := fun h => p2B h.2
                  clear p1B p2B
                  have HEA : Hid (conTo xs at' (k + 1) = ca) := HHA.out.2 PA
                  have HEB : Hid (conTo xs x (k + 1) = cb) := HHB.out.2 PB
                  clear HHA HHB PA PB
                  go_wp2
                  go_roundw
                  case rel => exact ⟨k + 1, by omega, by go_num, by rw [HEA.out], by rw [HEB.out], HW2⟩
                  case measure => simp [intOf]; omega
              · have d1B : decide (ll ≤ x) = false := decide_eq_false p1B
                have PB : ¬ (ll ≤ x ∧ x < hh) := fun h => p1B h.1
                clear p1B
                have HEA : Hid (conTo xs at' (k + 1) = ca) := HHA.out.2 PA
                have HEB : Hid (conTo xs x (k + 1) = cb) := HHB.out.2 PB
                clear HHA HHB PA PB
                go_wp2
                go_roundw
                case rel => exact ⟨k + 1, by omega, by go_num, by rw [HEA.out], by rw [HEB.out], HW2⟩
                case measure => simp [intOf]; omega
      · obtain rfl : i = n3 := by omega
        have HBb : Hid (Below w.heap.size w wr) := by obtain ⟨q, rfl⟩ := HW.out; exact HB4.out.trans ((drewN_below w4 q).mono HB4.out.size)
        have hhere : conTo xs at' i = dp := HF.out.here
        obtain ⟨ht1, ht2⟩ := HF.out.there x
        have ht1 : conTo xs x i ≤ dp := ht1
        have ht2 : conTo xs x i < dp ∨ at' ≤ x ∨ dp = 0 := ht2
        rw [hhere]
        generalize conTo xs x i = cb at *
        have g1 : decide (cb ≤ dp) = true := decide_eq_true ht1
        have gg : ((dp : Int) == (dp : Int)) = true := by simp
        clear HW
        by_cases h1 : cb < dp
        · have g2 : decide (cb < dp) = true := decide_eq_true h1
          clear h1 ht1 ht2
          go_wp2_with fail
          refine (HDONE.out wr HBb.out).mono ?_
          rintro e w8 ⟨rfl, hb⟩
          have HB8 := hide hb
          clear hb
          go_wp2
          go_ret
          exact ⟨rfl, HB8.out⟩
        · have g2 : decide (cb < dp) = false := decide_eq_false h1
          by_cases h2 : at' ≤ x
          · have g3 : decide (at' ≤ x) = true := decide_eq_true h2
            clear h1 h2 ht1 ht2
            go_wp2_with fail
            refine (HDONE.out wr HBb.out).mono ?_
            rintro e w8 ⟨rfl, hb⟩
            have HB8 := hide hb
            clear hb
            go_wp2
            go_ret
            exact ⟨rfl, HB8.out⟩
          · have g3 : decide (at' ≤ x) = false := decide_eq_false h2
            have h0 : dp = 0 := by omega
            subst h0
            clear h1 h2 ht1 ht2
            go_wp2_with fail
            refine (HDONE.out wr HBb.out).mono ?_
            rintro e w8 ⟨rfl, hb⟩
            have HB8 := hide hb
            clear hb
            go_wp2
            go_ret
            exact ⟨rfl, HB8.out⟩
  · have h3 : n3 = 0 := by rw [← HI4.out.1]; unfold trayL; rw [if_neg hr]; rfl
    have hN : trayN xs = 0 := by unfold trayN; rw [if_neg hr]
    have hD : deepV xs = (0, 0) := by unfold deepV; rw [if_neg hr]
    subst h3
    rw [hN, hD]
    have hc1 : (checkE xs == 0) = false := beq_eq_false_iff_ne.2 hr
    have hc2 : (checkE xs != 0) = true := by rw [bne_iff_ne]; exact hr
    have hcc : (checkE xs == checkE xs) = true := by simp
    generalize checkE xs = ce at hc1 hc2 hcc ⊢
    clear hr hN hD
    go_wp2_with fail
    refine (HDONE.out w4 HB4.out).mono ?_
    rintro e w8 ⟨rfl, hb⟩
    have HB8 := hide hb
    clear hb
    go_wp2
    go_ret
    exact ⟨rfl, HB8.out⟩

end Go.Proofs.Ytikfiofjhmeheaa
