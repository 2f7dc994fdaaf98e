/- The walk of the law on fewest. -/
import Derived.Test.YtikfiofjhmeheaaE2
import Derived.Test.YtikfiofjhmeheaaV0
namespace Go.Proofs.Ytikfiofjhmeheaa
open Go.RowKit Go.Sort

theorem CovPost.iff {tlo thi : Int} {xs : List Sp} {sel : Nat → Bool} {e : Ending} (h : CovPost tlo thi xs sel e) {p : Prop} (hp : (∀ y, tlo ≤ y → y < thi → covd xs sel y) ↔ p) : ∃ r : Bool, e = .returned (.bool r) ∧ (r = true ↔ p) := by
  obtain ⟨r, h1, h2⟩ := h
  exact ⟨r, h1, h2.trans hp⟩

theorem cnt_le (f : Nat → Bool) : ∀ k, cntTo f k ≤ k
  | 0 => Nat.le_refl _
  | k + 1 => by
    have := cnt_le f k
    unfold cntTo
    split <;> omega

set_option maxHeartbeats 4000000 in
set_option maxRecDepth 100000 in
theorem fewest_law (tlo thi : Int) (A A2 : Option Addr) (n cap m cap2 : Nat) (xs : List Sp) (bs : List Bool) (w : World) (hx : SpansAt w.heap.size w A n xs) (hbs : BoolsAt w.heap.size w A2 m bs) :
    Calls Try.prog 12 #[.agg #[.int .i64 tlo, .int .i64 thi], .slice A n cap, .slice A2 m cap2] w (LawPost w) := by
  have mixed := mixedOrders
  obtain ⟨W1, hW1⟩ : ∃ W1, w.alloc (.cells #[.int .i64 tlo, .int .i64 thi] 42) = W1 := ⟨_, rfl⟩
  have hB1 : Below w.heap.size w W1 := by rw [← hW1]; exact (Below.refl _ w).alloc (Nat.le_refl _) _
  have hT0 : W1.cell? ⟨w.heap.size, 0, none⟩ = some (.int .i64 tlo) ∧ W1.cell? ⟨w.heap.size, 1, none⟩ = some (.int .i64 thi) ∧ w.heap.size < W1.heap.size := by
    rw [← hW1]
    exact ⟨by simp, by simp, by simp⟩
  have HT := hide hT0
  have HB1 := hide hB1
  have HX1 := hide (hx.now hB1 (Nat.le_refl _))
  have HP1 := hide (hbs.now hB1 (Nat.le_refl _))
  clear hx hbs hB1 hT0
  by_cases hn : (128 : Int) < (n : Int)
  · have hd : decide ((128 : Int) < (n : Int)) = true := decide_eq_true hn
    go_enter Try.func12, Try.ntmps12
    go_wp2_with fail
    refine (alive_any W1).mono ?_
    rintro e w8 ⟨rfl, hb⟩
    have HB8 := hide (HB1.out.trans (hb.mono HB1.out.size))
    clear hb HB1 HX1 HP1 HT
    go_wp2
    go_ret
    exact ⟨rfl, HB8.out⟩
  have hd : decide ((128 : Int) < (n : Int)) = false := decide_eq_false hn
  have hn128 : n ≤ 128 := by omega
  have t0 := HT.out.1
  have t1 := HT.out.2.1
  go_enter Try.func12, Try.ntmps12
  go_wp2_with fail
  refine (Cover_any tlo thi A n cap xs W1 HX1.out).mono ?_
  rintro e w3 ⟨A3, n3, c3, rfl, hi3, hb⟩
  have HX3 := hide (HX1.out.now hb (Nat.le_refl _))
  have HP3 := hide (HP1.out.now hb (Nat.le_refl _))
  have HB3 := hide (HB1.out.trans (hb.mono HB1.out.size))
  have u0 := (hb.cell (p := ⟨w.heap.size, 0, none⟩) HT.out.2.2).trans t0
  have u1 := (hb.cell (p := ⟨w.heap.size, 1, none⟩) HT.out.2.2).trans t1
  have hl3 : w.heap.size < w3.heap.size := Nat.lt_of_lt_of_le HT.out.2.2 hb.size
  have HI3 := hide hi3
  clear t0 t1 hb hi3 HX1 HP1 HB1 HT hW1
  go_wp2_with fail
  refine (Apart_any tlo thi A n cap xs w3 HX3.out).mono ?_
  rintro e w4 ⟨A4, n4, c4, rfl, hi4, hb⟩
  have HX4 := hide (HX3.out.now hb (Nat.le_refl _))
  have HP4 := hide (HP3.out.now hb (Nat.le_refl _))
  have HB4 := hide (HB3.out.trans (hb.mono HB3.out.size))
  have t0 := (hb.cell (p := ⟨w.heap.size, 0, none⟩) hl3).trans u0
  have t1 := (hb.cell (p := ⟨w.heap.size, 1, none⟩) hl3).trans u1
  have hl4 : w.heap.size < w4.heap.size := Nat.lt_of_lt_of_le hl3 hb.size
  have HI3b := hide (HI3.out.now hb (Nat.le_refl _))
  have HI4 := hide hi4
  clear u0 u1 hb hi4 HX3 HP3 HB3 HI3 hl3
  by_cases hr : covE xs tlo thi = 0
  · have HR := hide hr
    have hLb := (covL_length xs tlo thi).1
    have h3 := (covT_at hr 0).2.2.1
    have h4 := (covT_at hr 0).2.2.2
    rw [h3] at hLb
    rw [HI3b.out.1] at h3
    rw [HI4.out.1] at h4
    obtain ⟨N, hN⟩ : ∃ N, (covL xs tlo thi).length = N := ⟨_, rfl⟩
    rw [hN] at h3 h4 hLb
    subst h3
    obtain rfl : n3 = n4 := h4.symm
    have HN := hide hN
    rw [hr]
    have hmk : ∀ W, (Instr.makeSlice 62 (.int .i64 (n : Int)) (.int .i64 (n : Int))).run Try.prog W = .ok (.slice (some ⟨W.heap.size, 0, none⟩) n n) (W.alloc (.cells (madeCells #[.bool false] n) 4)) := fun W => run_flags W (by omega)
    have hNN : ((n3 : Int) != (n3 : Int)) = false := by simp
    clear hr h4 hN
    go_wp2_with fail
    go_loopw [12] (fun vi wr => ∃ k : Nat, k ≤ n3 ∧ vi = .int .i64 k ∧ Hid (Flags wr w4.heap.size n (mineF (covL xs tlo thi) k)) ∧ Hid (Below w4.heap.size w4 wr)) (fun vi _ => n3 - (intOf vi).toNat)
    case atStart => exact ⟨0, Nat.zero_le _, rfl, made_flags w4 (by omega), (Below.refl _ _).alloc (Nat.le_refl _) _⟩
    case round =>
      obtain ⟨k, hk, rfl, HF, HBW⟩ := hrel
      by_cases hkn : k < n3
      · have hkn' : (k : Int) < (n3 : Int) := by omega
        obtain ⟨hs, hs0⟩ := step_ok HR.out (k := k) (by rw [HN.out]; exact hkn)
        obtain ⟨s1, s2, s3, s4, s5, s6⟩ := hs
        dsimp only at s1 s2 s3
        rw [HX4.out.1] at s3
        obtain ⟨bc, oc, rfl, hbc, cc⟩ := HI3b.out.at_ hkn
        obtain ⟨ba, oa, rfl, hba, ca⟩ := HI4.out.at_ hkn
        rw [(covT_at HR.out k).1] at cc
        rw [(covT_at HR.out k).2.1] at ca
        have hnew := mine_new HR.out (k := k) (by rw [HN.out]; exact hkn)
        have HMS : Hid (mineF (covL xs tlo thi) (k + 1) = fun i => if i = (ixL (covL xs tlo thi) k).toNat then true else mineF (covL xs tlo thi) k i) := rfl
        obtain ⟨p, hp⟩ : ∃ p : Nat, ixL (covL xs tlo thi) k = (p : Int) := ⟨(ixL (covL xs tlo thi) k).toNat, by omega⟩
        rw [hp, Int.toNat_natCast] at HMS hnew
        rw [hp] at cc s3
        rw [Int.toNat_natCast] at s3
        have hcell := HF.out.cell s3
        rw [hnew] at hcell
        have hd0 : decide ((p : Int) < 0) = false := decide_eq_false (by omega)
        have hd1 : decide ((n : Int) ≤ (p : Int)) = false := decide_eq_false (by omega)
        have hd2 : decide (atL (covL xs tlo thi) k < tlo) = false := decide_eq_false (by omega)
        have hd3 : decide (thi ≤ atL (covL xs tlo thi) k) = false := decide_eq_false (by omega)
        have hp0 : (p : Int) < (n : Int) := by omega
        have E0 : ∀ nq, (wr.drewN nq).cell? ⟨bc, oc + k, none⟩ = some (.int .i64 p) := fun _ => (HBW.out.cell (p := ⟨bc, _, none⟩) hbc).trans cc
        have E1 : ∀ nq, (wr.drewN nq).cell? ⟨ba, oa + k, none⟩ = some (.int .i64 (atL (covL xs tlo thi) k)) := fun _ => (HBW.out.cell (p := ⟨ba, _, none⟩) hba).trans ca
        have E2 : ∀ nq, (wr.drewN nq).cell? ⟨w4.heap.size, p, none⟩ = some (.bool false) := fun _ => hcell
        have E3 : ∀ nq, (wr.drewN nq).cell? ⟨w.heap.size, 0, none⟩ = some (.int .i64 tlo) := fun _ => (HBW.out.cell (p := ⟨w.heap.size, 0, none⟩) hl4).trans t0
        have E4 : ∀ nq, (wr.drewN nq).cell? ⟨w.heap.size, 1, none⟩ = some (.int .i64 thi) := fun _ => (HBW.out.cell (p := ⟨w.heap.size, 1, none⟩) hl4).trans t1
        have E5 : ∀ nq, (wr.drewN nq).frozen? ⟨w4.heap.size, p, none⟩ = false := fun _ => HF.out.frozen p
        have HS : Hid (∀ nq, Flags ((wr.drewN nq).setCell ⟨w4.heap.size, p, none⟩ (.bool true)) w4.heap.size n (mineF (covL xs tlo thi) (k + 1))) := fun nq => by rw [HMS.out]; exact (HF.out.drewN nq).set s3 true
        have hHS3 := hide s3
        generalize atL (covL xs tlo thi) k = av at s1 s2 s4 s5 s6 hd2 hd3 ca E1
        clear cc ca hcell hnew hp HMS hs0 s4 s5 s6
        go_wp2_with fail
        go_quiet (fail)
        go_wp2
        go_roundw
        case rel => exact ⟨k + 1, by omega, by go_num, HS.out nq, (HBW.out.trans ((drewN_below wr nq).mono HBW.out.size)).setCell (by dsimp only; omega) _⟩
        case measure => simp [intOf]; omega
      · obtain rfl : k = n3 := by omega
        obtain ⟨wa, hwa⟩ : ∃ wa : World, wa = wr := ⟨_, rfl⟩
        subst hwa
        have HFa := hide HF.out
        have HBa := hide HBW.out
        have HXa := hide (HX4.out.below HBW.out)
        have HIa := hide (HI4.out.below HBW.out)
        have hla : w4.heap.size < wa.heap.size := by
          obtain ⟨vals, g1, _⟩ := HF.out
          exact (g1.lt w4.heap.size rfl).2
        have T0 := (HBW.out.cell (p := ⟨w.heap.size, 0, none⟩) hl4).trans t0
        have T1 := (HBW.out.cell (p := ⟨w.heap.size, 1, none⟩) hl4).trans t1
        have HPa := hide (HP4.out.below HBW.out)
        have HLA := hide hla
        clear HF HBW hla t0 t1
        go_wp2_with fail
        go_loopw [13] (fun vi wr => ∃ i : Nat, i ≤ n ∧ vi = .int .i64 i ∧ Hid (∃ q, wr = wa.drewN q)) (fun vi _ => n - (intOf vi).toNat)
        case atStart => exact ⟨0, Nat.zero_le _, rfl, ⟨0, rfl⟩⟩
        case round =>
          obtain ⟨i, hi, rfl, HW⟩ := hrel
          by_cases hin : i < n
          · have hin' : (i : Int) < (n : Int) := by omega
            go_wp2_with fail
            go_loopw [14, 15] (fun vn vk wr => ∃ (c : Int) (j : Nat), j ≤ k ∧ vk = .int .i64 j ∧ vn = .int .i64 c ∧ (c = 0 ∨ c = 1) ∧ Hid (c = 1 → ∃ j', j' < j ∧ loA xs i ≤ atL (covL xs tlo thi) j' ∧ atL (covL xs tlo thi) j' < hiA xs i) ∧ Hid (∃ q, wr = wa.drewN q)) (fun _ vk _ => k - (intOf vk).toNat)
            case atStart => exact ⟨0, 0, Nat.zero_le _, rfl, rfl, .inl rfl, (fun e => by omega), HW⟩
            case round =>
              obtain ⟨c, j, hj, rfl, rfl, hc01, HC, HW2⟩ := hrel
              by_cases hjk : j < k
              · have hjk' : (j : Int) < (k : Int) := by omega
                obtain ⟨bx, ox, rfl, hbx, x0, x1⟩ := HXa.out.at_ hin
                obtain ⟨ba, oa, rfl, hba, ca⟩ := HIa.out.at_ hjk
                rw [(covT_at HR.out j).2.1] at ca
                have E0 : ∀ nq, (wr.drewN nq).cell? ⟨bx, ox + i * 2, none⟩ = some (.int .i64 (loA xs i)) := fun nq => by obtain ⟨q, rfl⟩ := HW2.out; exact x0
                have E1 : ∀ nq, (wr.drewN nq).cell? ⟨bx, ox + i * 2 + 1, none⟩ = some (.int .i64 (hiA xs i)) := fun nq => by obtain ⟨q, rfl⟩ := HW2.out; exact x1
                have E2 : ∀ nq, (wr.drewN nq).cell? ⟨ba, oa + j, none⟩ = some (.int .i64 (atL (covL xs tlo thi) j)) := fun nq => by obtain ⟨q, rfl⟩ := HW2.out; exact ca
                have HQ : Hid (∀ nq, ∃ q, wr.drewN nq = wa.drewN q) := fun nq => by obtain ⟨q, rfl⟩ := HW2.out; exact ⟨q + nq, World.drewN_drewN _ _ _⟩
                have HCS : Hid (c = 1 → ∃ j', j' < j + 1 ∧ loA xs i ≤ atL (covL xs tlo thi) j' ∧ atL (covL xs tlo thi) j' < hiA xs i) := fun e => by obtain ⟨j', a1, a2⟩ := HC.out e; exact ⟨j', by omega, a2⟩
                clear x0 x1 ca HW HW2
                by_cases h1 : loA xs i ≤ atL (covL xs tlo thi) j
                · by_cases h2 : atL (covL xs tlo thi) j < hiA xs i
                  · have hc0 : c = 0 := by
                      rcases hc01 with h | h
                      · exact h
                      · exfalso
                        obtain ⟨j', a1, a2, a3⟩ := HC.out h
                        have s := (step_ok HR.out (k := j') (by rw [HN.out]; omega)).1
                        have s6 := s.max i (by rw [HX4.out.1]; exact hin) a2 a3
                        dsimp only at s6
                        have := step_two HR.out a1 (by rw [HN.out]; exact hjk)
                        omega
                    subst hc0
                    have HC1 : Hid ((1 : Int) = 1 → ∃ j', j' < j + 1 ∧ loA xs i ≤ atL (covL xs tlo thi) j' ∧ atL (covL xs tlo thi) j' < hiA xs i) := fun _ => ⟨j, by omega, h1, h2⟩
                    have hd1 : decide (loA xs i ≤ atL (covL xs tlo thi) j) = true := decide_eq_true h1
                    have hd2 : decide (atL (covL xs tlo thi) j < hiA xs i) = true := decide_eq_true h2
                    clear HC HCS
                    generalize loA xs i = lov at *
                    go_wp2_with fail
                    go_quiet (fail)
                    go_wp2
                    go_roundw
                    case rel => exact ⟨1, j + 1, by omega, by go_num, rfl, .inr rfl, (fun _ => HC1.out trivial), HQ.out nq⟩
                    case measure => simp [intOf]; omega
                  · have hd1 : decide (loA xs i ≤ atL (covL xs tlo thi) j) = true := decide_eq_true h1
                    have hd2 : decide (atL (covL xs tlo thi) j < hiA xs i) = false := decide_eq_false h2
                    go_wp2_with fail
                    go_quiet (fail)
                    go_wp2
                    go_roundw
                    case rel => exact ⟨c, j + 1, by omega, by go_num, rfl, hc01, HCS, HQ.out nq⟩
                    case measure => simp [intOf]; omega
                · have hd1 : decide (loA xs i ≤ atL (covL xs tlo thi) j) = false := decide_eq_false h1
                  go_wp2_with fail
                  go_quiet (fail)
                  go_wp2
                  go_roundw
                  case rel => exact ⟨c, j + 1, by omega, by go_num, rfl, hc01, HCS, HQ.out nq⟩
                  case measure => simp [intOf]; omega
              · obtain rfl : j = k := by omega
                clear HC
                rcases hc01 with rfl | rfl
                · go_wp2
                  go_roundw
                  case rel => exact ⟨i + 1, by omega, by go_num, HW2⟩
                  case measure => simp [intOf]; omega
                · go_wp2
                  go_roundw
                  case rel => exact ⟨i + 1, by omega, by go_num, HW2⟩
                  case measure => simp [intOf]; omega
          · obtain rfl : i = n := by omega
            have hwb : Gr wa wr := by obtain ⟨q, rfl⟩ := HW.out; exact (Gr.refl wa).drewN q
            obtain ⟨wb, hwbe⟩ : ∃ wb : World, wb = wr := ⟨_, rfl⟩
            subst hwbe
            have HFb := hide (HFa.out.below hwb.below)
            have HBb := hide (HBa.out.trans (hwb.below.mono HBa.out.size))
            have hlb : wa.heap.size ≤ wb.heap.size := hwb.size
            have U0 := (hwb.cell (p := ⟨w.heap.size, 0, none⟩) (by have := HLA.out; show w.heap.size < wa.heap.size; omega)).trans T0
            have U1 := (hwb.cell (p := ⟨w.heap.size, 1, none⟩) (by have := HLA.out; show w.heap.size < wa.heap.size; omega)).trans T1
            have HXb := hide ((HXa.out.below (hwb.below.mono (Nat.le_of_lt HLA.out))).mono (show w4.heap.size ≤ wb.heap.size by have := HLA.out; omega))
            have HPb := hide ((HPa.out.below (hwb.below.mono (Nat.le_of_lt HLA.out))).mono (show w4.heap.size ≤ wb.heap.size by have := HLA.out; omega))
            have hlw : w.heap.size < wb.heap.size := by have := HLA.out; omega
            have hl4b : w4.heap.size < wb.heap.size := by have := HLA.out; omega
            clear HW hwb HFa HBa HXa HIa HPa T0 T1 hlb
            go_wp2_with fail
            go_loopw [16, 18] (fun vn vk wr => ∃ j : Nat, j ≤ i ∧ (j ≤ m) ∧ vk = .int .i64 j ∧ vn = .int .i64 (cntTo (bA bs) j : Nat) ∧ Hid (Flags wr wb.heap.size i (theirF bs j)) ∧ Hid (Below wb.heap.size wb wr)) (fun _ vk _ => i - (intOf vk).toNat)
            case atStart => exact ⟨0, Nat.zero_le _, Nat.zero_le _, rfl, rfl, (by have h := made_flags wb (show i ≤ 1000000 by omega); have e : theirF bs 0 = fun _ => false := (by funext j; simp [theirF]); show Flags _ _ _ _; rw [e]; exact h), (Below.refl _ _).alloc (Nat.le_refl _) _⟩
            case round =>
              obtain ⟨j, hj, hjm, rfl, rfl, HG, HBG⟩ := hrel
              have hcl := cnt_le (bA bs) j
              by_cases hjm' : j < i ∧ j < m
              · obtain ⟨h1, h2⟩ := hjm'
                have h1' : (j : Int) < (i : Int) := by omega
                have h2' : (j : Int) < (m : Int) := by omega
                obtain ⟨bp, op, rfl, hbp, cp⟩ := HPb.out.at_ h2
                have ep := (HBG.out.cell (p := ⟨bp, _, none⟩) hbp).trans cp
                have ec := HG.out.cell h1
                have ef := HG.out.frozen j
                have HS := hide (HG.out.set h1 (bA bs j))
                rw [theirF_step] at HS
                have HCT : Hid (cntTo (bA bs) (j + 1) = cntTo (bA bs) j + (if bA bs j = true then 1 else 0)) := rfl
                have HBS := hide (HBG.out.setCell (p := ⟨wb.heap.size, j, none⟩) (Nat.le_refl _) (.bool (bA bs j)))
                have ep2 := (HBS.out.cell (p := ⟨bp, _, none⟩) hbp).trans cp
                generalize cntTo (bA bs) j = ct at hcl HCT ⊢
                generalize bA bs j = pv at ep ep2 HS HCT HBS
                clear cp HG HBG
                cases pv
                · have HCT2 : Hid (cntTo (bA bs) (j + 1) = ct) := by show _ = _; rw [HCT.out]; simp
                  clear HCT
                  go_wp2
                  go_roundw
                  case rel => exact ⟨j + 1, by omega, by omega, by go_num, by rw [HCT2.out], HS, HBS⟩
                  case measure => simp [intOf]; omega
                · have HCT2 : Hid (cntTo (bA bs) (j + 1) = ct + 1) := by show _ = _; rw [HCT.out]; simp
                  clear HCT
                  go_wp2
                  go_roundw
                  case rel => exact ⟨j + 1, by omega, by omega, by go_num, by rw [HCT2.out]; go_num, HS, HBS⟩
                  case measure => simp [intOf]; omega
              · obtain ⟨wc, hwc⟩ : ∃ wc : World, wc = wr := ⟨_, rfl⟩
                subst hwc
                have hlc : wb.heap.size < wc.heap.size := by
                  obtain ⟨vals, g1, _⟩ := HG.out
                  exact (g1.lt wb.heap.size rfl).2
                have HFc := hide (HFb.out.below HBG.out)
                have hsz : wb.heap.size ≤ wc.heap.size := by omega
                have HXc := hide ((HXb.out.below HBG.out).mono hsz)
                have HBc := hide (HB4.out.trans ((HBb.out.trans (HBG.out.mono HBb.out.size)).mono HB4.out.size))
                have c0 := (HBG.out.cell (p := ⟨w.heap.size, 0, none⟩) hlw).trans U0
                have c1 := (HBG.out.cell (p := ⟨w.heap.size, 1, none⟩) hlw).trans U1
                have HV1 := hide (covers_any tlo thi A (some ⟨w4.heap.size, 0, none⟩) i cap i i xs _ wc HXc.out (HFc.out.bools (by omega)) (.inr rfl) (by omega))
                have HV2 := hide (fun W (hW : Gr wc W) => covers_any tlo thi A (some ⟨wb.heap.size, 0, none⟩) i cap i i xs _ W (HXc.out.gr hW) ((HG.out.bools (by omega)).now hW.below (Nat.le_refl _)) (.inr rfl) (by omega))
                have HNE : Hid ((∀ y, tlo ≤ y → y < thi → covd xs (selL ((List.range i).map (theirF bs j))) y) → k ≤ cntTo (bA bs) j) := fun h => by
                  have h1 := cover_needs HR.out h
                  rw [HN.out, HX4.out.1, their_count hj] at h1
                  exact h1
                have HMC := hide (mine_covers HR.out HX4.out.1)
                rw [HN.out] at HMC
                have hnn : ¬ ((j : Int) < (i : Int)) ∨ ¬ ((j : Int) < (m : Int)) := by omega
                have hgd : (decide ((j : Int) < (i : Int)) && decide ((j : Int) < (m : Int))) = false := by
                  rcases hnn with h | h
                  · rw [decide_eq_false h]; rfl
                  · rw [decide_eq_false h]; simp
                clear U0 U1 HFb HXb HPb HG HBG HBb HB4 hcl hjm hjm' HX4 HP4 HI3b HI4 hmk hgd
                generalize cntTo (bA bs) j = ct at HNE ⊢
                by_cases hji : j < i
                · have hji' : (j : Int) < (i : Int) := by omega
                  have hjm1 : ¬ (j : Int) < (m : Int) := by omega
                  have hd5 : decide ((j : Int) < (m : Int)) = false := decide_eq_false hjm1
                  go_wp2_with fail
                  refine HV1.out.mono ?_
                  rintro e w5 ⟨hp, hG⟩
                  obtain ⟨r, rfl, h2⟩ := hp
                  have hrt : r = true := h2.2 HMC.out
                  subst hrt
                  have HB5 := hide (HBc.out.trans (hG.below.mono HBc.out.size))
                  have d0 := (hG.cell (p := ⟨w.heap.size, 0, none⟩) (by show w.heap.size < wc.heap.size; omega)).trans c0
                  have d1 := (hG.cell (p := ⟨w.heap.size, 1, none⟩) (by show w.heap.size < wc.heap.size; omega)).trans c1
                  have HV3 := hide (HV2.out w5 hG)
                  clear h2 hG HV1 HV2 c0 c1 HMC HXc HFc
                  by_cases hge : (k : Int) ≤ (ct : Int)
                  · have hd6 : decide ((k : Int) ≤ (ct : Int)) = true := decide_eq_true hge
                    go_wp2_with fail
                    refine (alive_any w5).mono ?_
                    rintro e w8 ⟨rfl, hb⟩
                    have HB8 := hide (HB5.out.trans (hb.mono HB5.out.size))
                    clear hb HB5
                    go_wp2
                    go_ret
                    exact ⟨rfl, HB8.out⟩
                  · have hd6 : decide ((k : Int) ≤ (ct : Int)) = false := decide_eq_false hge
                    go_wp2_with fail
                    refine HV3.out.mono ?_
                    rintro e w6 ⟨hp, hG⟩
                    obtain ⟨r, rfl, h2⟩ := hp
                    have hrf : r = false := by
                      rw [Bool.eq_false_iff]
                      intro h
                      have := HNE.out (h2.1 h)
                      omega
                    subst hrf
                    have HB6 := hide (HB5.out.trans (hG.below.mono HB5.out.size))
                    clear h2 hG HV3 HB5
                    go_wp2_with fail
                    refine (alive_any w6).mono ?_
                    rintro e w8 ⟨rfl, hb⟩
                    have HB8 := hide (HB6.out.trans (hb.mono HB6.out.size))
                    clear hb HB6
                    go_wp2
                    go_ret
                    exact ⟨rfl, HB8.out⟩
                · have hji' : ¬ (j : Int) < (i : Int) := by omega
                  have hd5 : decide ((j : Int) < (i : Int)) = false := decide_eq_false hji'
                  go_wp2_with fail
                  refine HV1.out.mono ?_
                  rintro e w5 ⟨hp, hG⟩
                  obtain ⟨r, rfl, h2⟩ := hp
                  have hrt : r = true := h2.2 HMC.out
                  subst hrt
                  have HB5 := hide (HBc.out.trans (hG.below.mono HBc.out.size))
                  have d0 := (hG.cell (p := ⟨w.heap.size, 0, none⟩) (by show w.heap.size < wc.heap.size; omega)).trans c0
                  have d1 := (hG.cell (p := ⟨w.heap.size, 1, none⟩) (by show w.heap.size < wc.heap.size; omega)).trans c1
                  have HV3 := hide (HV2.out w5 hG)
                  clear h2 hG HV1 HV2 c0 c1 HMC HXc HFc
                  by_cases hge : (k : Int) ≤ (ct : Int)
                  · have hd6 : decide ((k : Int) ≤ (ct : Int)) = true := decide_eq_true hge
                    go_wp2_with fail
                    refine (alive_any w5).mono ?_
                    rintro e w8 ⟨rfl, hb⟩
                    have HB8 := hide (HB5.out.trans (hb.mono HB5.out.size))
                    clear hb HB5
                    go_wp2
                    go_ret
                    exact ⟨rfl, HB8.out⟩
                  · have hd6 : decide ((k : Int) ≤ (ct : Int)) = false := decide_eq_false hge
                    go_wp2_with fail
                    refine HV3.out.mono ?_
                    rintro e w6 ⟨hp, hG⟩
                    obtain ⟨r, rfl, h2⟩ := hp
                    have hrf : r = false := by
                      rw [Bool.eq_false_iff]
                      intro h
                      have := HNE.out (h2.1 h)
                      omega
                    subst hrf
                    have HB6 := hide (HB5.out.trans (hG.below.mono HB5.out.size))
                    clear h2 hG HV3 HB5
                    go_wp2_with fail
                    refine (alive_any w6).mono ?_
                    rintro e w8 ⟨rfl, hb⟩
                    have HB8 := hide (HB6.out.trans (hb.mono HB6.out.size))
                    clear hb HB6
                    go_wp2
                    go_ret
                    exact ⟨rfl, HB8.out⟩
  · -- an error
    have h3 : n3 = 0 := by rw [← HI3b.out.1]; unfold covT; rw [if_neg hr]; rfl
    have h4 : n4 = 0 := by rw [← HI4.out.1]; unfold covS; rw [if_neg hr]; rfl
    subst h3 h4
    have hc1 : (covE xs tlo thi == 0) = false := beq_eq_false_iff_ne.2 hr
    have hc2 : (covE xs tlo thi != 0) = true := by rw [bne_iff_ne]; exact hr
    have hcc : (covE xs tlo thi == covE xs tlo thi) = true := by simp
    by_cases h10 : covE xs tlo thi = 10
    · have HO := hide (cov_open h10)
      have HV := hide (covers_any tlo thi A none n cap 0 0 xs [] w4 HX4.out ⟨rfl, .inl rfl⟩ (.inl rfl) (by omega))
      have hc3 : (covE xs tlo thi == 10) = true := beq_iff_eq.2 h10
      have hc4 : (covE xs tlo thi != 10) = false := by rw [h10]; rfl
      generalize covE xs tlo thi = ce at hc1 hc2 hcc hc3 hc4 ⊢
      clear hr h10
      go_wp2_with fail
      refine HV.out.mono ?_
      rintro e w5 ⟨hp, hG⟩
      obtain ⟨r, rfl, h2⟩ := hp
      have hrf : r = false := by
        rw [Bool.eq_false_iff]
        intro h
        obtain ⟨y, y1, y2, y3⟩ := HO.out
        obtain ⟨i, i1, i2⟩ := h2.1 h y y1 y2
        exact y3 i i1 i2.2
      subst hrf
      have HB5 := hide (HB4.out.trans (hG.below.mono HB4.out.size))
      clear h2 hG HV HO HB4
      go_wp2_with fail
      refine (alive_any w5).mono ?_
      rintro e w8 ⟨rfl, hb⟩
      have HB8 := hide (HB5.out.trans (hb.mono HB5.out.size))
      clear hb HB5
      go_wp2
      go_ret
      exact ⟨rfl, HB8.out⟩
    · have hc3 : (covE xs tlo thi == 10) = false := beq_eq_false_iff_ne.2 h10
      have hc4 : (covE xs tlo thi != 10) = true := by rw [bne_iff_ne]; exact h10
      generalize covE xs tlo thi = ce at hc1 hc2 hcc hc3 hc4 ⊢
      clear hr h10
      go_wp2_with fail
      refine (alive_any w4).mono ?_
      rintro e w8 ⟨rfl, hb⟩
      have HB8 := hide (HB4.out.trans (hb.mono HB4.out.size))
      clear hb HB4
      go_wp2
      go_ret
      exact ⟨rfl, HB8.out⟩

end Go.Proofs.Ytikfiofjhmeheaa
