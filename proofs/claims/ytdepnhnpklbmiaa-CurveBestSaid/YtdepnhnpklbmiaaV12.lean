/- The walk of the law on the best division. -/
import Derived.Test.YtdepnhnpklbmiaaQ3
import Derived.Test.YtdepnhnpklbmiaaB24
import Derived.Test.YtdepnhnpklbmiaaF0
namespace Go.Proofs.Ytdepnhnpklbmiaa
open Go.RowKit Go.Sort

theorem split_error {cs : Nat → Cu} {n : Nat} {total : Int} (h : splitE cs n total ≠ 0) : splitX cs n total = [] ∧ splitC cs n total = 0 ∧ splitP cs n total = 0 := ⟨if_neg h, if_neg h, if_neg h⟩

set_option maxHeartbeats 8000000 in
set_option maxRecDepth 100000 in
theorem best_law (A : Option Addr) (n cap : Nat) (cs : Nat → Cu) (ss : Nat → Option Addr × Nat × Nat) (total : Int) (B : Option Addr) (mo cap2 : Nat) (O : List Int) (w : World) (hx : CurvesAt w.heap.size w A n cs ss) (hcap : n ≤ cap) (hnb : n ≤ 9223372036854775807) (hm : ∀ i, i < n → (ss i).2.1 ≤ 9223372036854775807)
    (hy : IntsAt w.heap.size w B mo O) (hmo : mo ≤ 9223372036854775807) :
    Calls Try.prog 12 #[.slice A n cap, .int .i64 total, .slice B mo cap2] w (LawPost w) := by
  have mixed := mixedOrders
  have HSP := hide (Split_any A n cap cs ss total w hx hcap hm)
  have HX := hide hx
  have HY := hide hy
  have HM := hide hm
  clear hx hm hy
  go_enter Try.func12, Try.ntmps12
  go_wp2_with fail
  refine HSP.out.mono ?_
  rintro e w2 ⟨A2, m2, k2, rfl, hi2, hb2⟩
  have HB2 := hide hb2
  by_cases he : splitE cs n total = 0
  · have HBM := hide (best_math he)
    rw [he]
    obtain ⟨X, hXX⟩ : ∃ q, splitX cs n total = q := ⟨_, rfl⟩
    obtain ⟨v, hvv⟩ : ∃ q, splitC cs n total = q := ⟨_, rfl⟩
    obtain ⟨p, hpp⟩ : ∃ q, splitP cs n total = q := ⟨_, rfl⟩
    rw [hXX] at hi2
    rw [hvv, hpp]
    rw [hXX, hvv, hpp] at HBM
    have hm2 : m2 = n := by rw [← hi2.1]; exact HBM.out.len
    subst hm2
    have HI2 := hide hi2
    have HSX := hide (spent_any A m2 cap cs ss A2 m2 k2 X total w2 (HX.out.now hb2 (Nat.le_refl _)) hi2 HBM.out.le8 hnb HM.out HBM.out.tot)
    rw [HBM.out.mine] at HSX
    have hpr := HBM.out.price
    have hpd1 : decide (p < -1048576) = false := decide_eq_false (by omega)
    have hpd2 : decide (1048576 < p) = false := decide_eq_false (by omega)
    have htt := HBM.out.tot
    have hmb := mul_bound (a := p) (b := total) (M := 1048576) (N := 1073741824) (by omega) (by omega)
    obtain ⟨pt, hpt⟩ : ∃ q, p * total = q := ⟨_, rfl⟩
    rw [hpt] at hmb
    have hw1 : IntKind.i64.wrap (p * total) = pt := by rw [hpt, IntKind.wrap_i64]; omega
    have hvq : (v != v) = false := by simp
    have HPT := hide hpt
    have HMB := hide hmb
    have HPR := hide hpr
    clear hi2 hb2 HSP hXX hvv hpp hpr htt hmb hpt he
    go_wp2_with fail
    refine HSX.out.mono ?_
    rintro e w3 ⟨rfl, hb3⟩
    have HB3 := hide (HB2.out.trans (hb3.mono HB2.out.size))
    have HI3 := hide (HI2.out.now hb3 (Nat.le_refl _))
    clear hb3 HSX HI2 HB2
    go_wp2_with fail
    clear hpd1 hpd2
    go_loopw [13, 14] (fun vl vi wr => ∃ i : Nat, i ≤ m2 ∧ vl = .int .i64 (pt - sumTo (fun j => gre (cs j) p) i) ∧ vi = .int .i64 i ∧ Hid (Below w3.heap.size w3 wr)) (fun _ vi _ => m2 - (intOf vi).toNat)
    case atStart => exact ⟨0, Nat.zero_le _, by congr 1; simp [sumTo], rfl, Below.refl _ _⟩
    case round =>
      obtain ⟨i, hi, rfl, rfl, HBr⟩ := hrel
      have HBw := hide (HB3.out.trans (HBr.out.mono HB3.out.size))
      by_cases hlt : i < m2
      · have hlt' : (i : Int) < (m2 : Int) := by omega
        have n64 : ∀ j, j < m2 → -(1125899906842624 * 4 : Int) ≤ gre (cs j) p ∧ gre (cs j) p ≤ 1125899906842624 * 4 := fun j hj => by
          have a0 := HBM.out.each j hj
          have a1 := at_range (HBM.out.dom j hj)
          have a2 := HPR.out
          have a3 := mul_bound (a := p) (b := iA X j) (M := 1048576) (N := 2097152) (by omega) (by omega)
          omega
        have hsr := sumTo_range (f := fun j => gre (cs j) p) (M := 1125899906842624 * 4) i (fun j hj => n64 j (by omega))
        have hgr := n64 i hlt
        have h8 := HBM.out.le8
        have hok := HBM.out.ok i hlt
        have hea := HBM.out.each i hlt
        have har := at_range (HBM.out.dom i hlt)
        have hdm := HBM.out.dom i hlt
        have hpr := HPR.out
        have hmb1 := mul_bound (a := p) (b := iA X i) (M := 1048576) (N := 2097152) (by omega) (by omega)
        obtain ⟨b, off, rfl, hb, c0, c1, c2⟩ := HX.out.at_ hlt
        obtain ⟨b', off', rfl, hb', e0⟩ := HI3.out.at_ hlt
        have KB : Hid (∀ W', Below wr.heap.size wr W' → W'.cell? ⟨b, off + i * 3, none⟩ = some (.int .i64 (cs i).fr) ∧ W'.cell? ⟨b, off + i * 3 + 1, none⟩ = some (.int .i64 (cs i).fst) ∧ W'.cell? ⟨b, off + i * 3 + 2, none⟩ = some (.slice (ss i).1 (ss i).2.1 (ss i).2.2) ∧ W'.cell? ⟨b', off' + i, none⟩ = some (.int .i64 (iA X i))) := fun W' h => by
          have h2 := HBw.out.trans (h.mono HBw.out.size)
          have h3 := HBr.out.trans (h.mono HBr.out.size)
          exact ⟨(h2.cell (p := ⟨b, off + i * 3, none⟩) hb).trans c0, (h2.cell (p := ⟨b, off + i * 3 + 1, none⟩) hb).trans c1, (h2.cell (p := ⟨b, off + i * 3 + 2, none⟩) hb).trans c2, (h3.cell (p := ⟨b', off' + i, none⟩) hb').trans e0⟩
        have HGT := hide (fun W' (h : Below wr.heap.size wr W') => greatest_any (cs i) (ss i).1 (ss i).2.1 (ss i).2.2 p W' hok ((HX.out.cu i hlt).now (HBw.out.trans (h.mono HBw.out.size)) (Nat.le_refl _)) (by omega))
        have HAT := hide (fun W' (h : Below wr.heap.size wr W') => lawAt_any (cs i) (ss i).1 (ss i).2.1 (ss i).2.2 (iA X i) W' ((HX.out.cu i hlt).now (HBw.out.trans (h.mono HBw.out.size)) (Nat.le_refl _)) (HM.out i hlt))
        have HLS : Hid (sumTo (fun j => gre (cs j) p) (i + 1) = sumTo (fun j => gre (cs j) p) i + gre (cs i) p) := rfl
        obtain ⟨⟨u, eu⟩, hu⟩ : ∃ q, atV (cs i) (iA X i) = q := ⟨_, rfl⟩
        rw [hu] at HAT hea har hdm
        obtain ⟨sm, hsm⟩ : ∃ q, sumTo (fun j => gre (cs j) p) i = q := ⟨_, rfl⟩
        rw [hsm] at HLS hsr ⊢
        obtain ⟨lf, hlf⟩ : ∃ q, pt - sm = q := ⟨_, rfl⟩
        rw [hlf]
        generalize cs i = ci at KB HGT HAT hu hea HLS hgr
        generalize ss i = si at KB HAT HGT
        obtain ⟨Ai, ni, ki⟩ := si
        generalize iA X i = xi at KB HAT hu har hea hmb1
        obtain ⟨gi, hgi⟩ : ∃ q, gre ci p = q := ⟨_, rfl⟩
        rw [hgi] at HGT hea HLS hgr
        have KB : Hid (∀ W', Below wr.heap.size wr W' → W'.cell? ⟨b, off + i * 3, none⟩ = some (.int .i64 ci.fr) ∧ W'.cell? ⟨b, off + i * 3 + 1, none⟩ = some (.int .i64 ci.fst) ∧ W'.cell? ⟨b, off + i * 3 + 2, none⟩ = some (.slice Ai ni ki) ∧ W'.cell? ⟨b', off' + i, none⟩ = some (.int .i64 xi)) := KB
        have HAT : Hid (∀ W', Below wr.heap.size wr W' → Calls Try.prog 46 #[.agg #[.int .i64 ci.fr, .int .i64 ci.fst, .slice Ai ni ki], .int .i64 xi] W' fun e w' => e = .returned (.tuple #[.int .i64 u, .bool (eu == 0)]) ∧ Below W'.heap.size W' w') := HAT
        have HGT : Hid (∀ W', Below wr.heap.size wr W' → Calls Try.prog 47 #[.agg #[.int .i64 ci.fr, .int .i64 ci.fst, .slice Ai ni ki], .int .i64 p] W' fun e w' => e = .returned (.int .i64 gi) ∧ Below W'.heap.size W' w') := HGT
        replace hdm : eu = 0 := hdm
        subst hdm
        obtain ⟨q0, q1, q2, q3⟩ := KB.out wr (Below.refl _ _)
        have HG1 := hide (HGT.out wr (Below.refl _ _))
        obtain ⟨ln, hln⟩ : ∃ q, lf - gi = q := ⟨_, rfl⟩
        have hmb := HMB.out
        have hw2 : IntKind.i64.wrap (lf - gi) = ln := by rw [IntKind.wrap_i64]; omega
        obtain ⟨px, hpx⟩ : ∃ q, p * xi = q := ⟨_, rfl⟩
        rw [hpx] at hea hmb1
        replace hea : px - u = gi := hea
        obtain ⟨⟨har1, har2⟩, -⟩ := har
        replace har1 : -1125899906842624 ≤ u := har1
        replace har2 : u ≤ 1125899906842624 := har2
        have hw3 : IntKind.i64.wrap (p * xi) = px := by rw [hpx, IntKind.wrap_i64]; omega
        have hw4 : IntKind.i64.wrap (px - u) = gi := by rw [IntKind.wrap_i64]; omega
        have hgq : (gi != gi) = false := by simp
        have HLN : Hid (pt - sumTo (fun j => gre (cs j) p) (i + 1) = ln) := by show _ = _; rw [HLS.out]; omega
        clear c0 c1 c2 e0 hsm hlf hgi hln hpx har1 har2 hea hmb hmb1 hsr hgr n64 hu h8 hok HLS hpr
        go_wp2_with fail
        refine HG1.out.mono ?_
        rintro e w4 ⟨rfl, hb4⟩
        obtain ⟨r0, r1, r2, r3⟩ := KB.out w4 hb4
        have K4 := hide (KB.out w4.drew hb4.drew)
        have HA4 := hide (HAT.out w4.drew hb4.drew)
        have HB4 := hide hb4
        clear hb4 HG1 q0 q1 q2 q3
        go_wp2_with fail
        go_region_held3 (fun w' => w'.cell? ⟨b, off + i * 3, none⟩ = some (.int .i64 ci.fr) ∧ w'.cell? ⟨b, off + i * 3 + 1, none⟩ = some (.int .i64 ci.fst) ∧ w'.cell? ⟨b, off + i * 3 + 2, none⟩ = some (.slice Ai ni ki) ∧ w'.cell? ⟨b', off' + i, none⟩ = some (.int .i64 xi))
          (first | exact K4.out | exact KB.out _ hb5)
          (first | (go_at_call 46; (with_reducible refine HA4.out.mono ?_); rintro e w5 ⟨rfl, hb5'⟩; have hb5 : Below wr.heap.size wr w5 := HB4.out.drew.trans (hb5'.mono HB4.out.size)))
        obtain ⟨r0, r1, r2, r3⟩ := KB.out w5 hb5
        have K5 := hide (KB.out w5.drew hb5.drew)
        have HG5 := hide (HGT.out w5.drew hb5.drew)
        have HB5 := hide hb5
        clear hb5 hb5' HA4 K4 HB4
        go_wp2_with fail
        go_region_held3 (fun w' => w'.cell? ⟨b, off + i * 3, none⟩ = some (.int .i64 ci.fr) ∧ w'.cell? ⟨b, off + i * 3 + 1, none⟩ = some (.int .i64 ci.fst) ∧ w'.cell? ⟨b, off + i * 3 + 2, none⟩ = some (.slice Ai ni ki) ∧ w'.cell? ⟨b', off' + i, none⟩ = some (.int .i64 xi))
          (first | exact K5.out | exact KB.out _ hb6)
          (first | (go_at_call 47; (with_reducible refine HG5.out.mono ?_); rintro e w6 ⟨rfl, hb6'⟩; have hb6 : Below wr.heap.size wr w6 := HB5.out.drew.trans (hb6'.mono HB5.out.size)))
        have HB6 := hide (HBr.out.trans (hb6.mono HBr.out.size))
        clear hb6 hb6' HG5 K5 HB5 r0 r1 r2 r3 KB
        go_wp2_with fail
        go_roundw
        case rel => exact ⟨i + 1, by omega, by rw [HLN.out], by go_num, HB6⟩
        case measure => simp [intOf]; omega
      · obtain rfl : i = m2 := by omega
        have hsum : pt - sumTo (fun j => gre (cs j) p) i = v := by have := HBM.out.sum; rw [HPT.out] at this; exact this
        rw [hsum]
        have HSO := hide (spent_any A i cap cs ss B mo cap2 O total wr (HX.out.now HBw.out (Nat.le_refl _)) (HY.out.now HBw.out (Nat.le_refl _)) HBM.out.le8 hmo HM.out HBM.out.tot)
        have HIr := hide (HI3.out.now HBr.out (Nat.le_refl _))
        have HYr := hide (HY.out.now HBw.out (Nat.le_refl _))
        obtain ⟨⟨tv, th⟩, hth⟩ : ∃ q, spV cs i O mo total = q := ⟨_, rfl⟩
        rw [hth] at HSO
        have HTH := hide hth
        have hii : ¬ ((i : Int) < (i : Int)) := by omega
        clear hsum hth
        go_wp2_with fail
        refine HSO.out.mono ?_
        rintro e w4 ⟨rfl, hb4⟩
        have HB4 := hide (HBw.out.trans (hb4.mono HBw.out.size))
        have HI4 := hide (HIr.out.now hb4 (Nat.le_refl _))
        have HY4 := hide (HYr.out.now hb4 (Nat.le_refl _))
        clear hb4 HSO HIr HYr HBw HBr hii
        cases th
        · go_wp2_with fail
          go_loopw [19] (fun vi wr => vi = .int .i64 0 ∧ Hid (Below w.heap.size w wr)) (fun _ _ => 0)
          case atStart => exact ⟨rfl, HB4⟩
          case round =>
            obtain ⟨rfl, HBr⟩ := hrel
            go_wp2_with fail
            refine (alive_any _).mono ?_
            rintro e w5 ⟨rfl, hb5⟩
            have HB5 := hide (HBr.out.trans (hb5.mono HBr.out.size))
            clear hb5
            go_wp2
            go_ret
            exact ⟨rfl, HB5.out⟩
        · have hmoi : mo = i := by
            have h := HTH.out
            unfold spV at h
            by_cases hc : mo = i ∧ inTo cs O i
            · exact hc.1
            · rw [if_neg hc] at h
              injection h with _ h
              exact absurd h (by decide)
          subst hmoi
          obtain ⟨hle, hlex⟩ := HBM.out.other O (by rw [HTH.out])
          rw [HTH.out] at hle hlex
          have hle : v ≤ tv := hle
          have HLX : Hid (tv = v → ∀ i, i < mo → (∀ j, j < i → iA X j = iA O j) → iA X i ≠ iA O i → iA X i < iA O i) := hlex
          have hd1 : decide (tv < v) = false := decide_eq_false (by omega)
          clear hlex hle
          by_cases htv : tv = v
          · subst htv
            have HLY := hide (HLX.out rfl)
            clear HLX
            have hvv : (tv == tv) = true := by simp
            go_wp2_with fail
            clear hd1
            go_loopw [19] (fun vi wr => ∃ i : Nat, i ≤ mo ∧ vi = .int .i64 i ∧ Hid (∀ j, j < i → iA X j = iA O j) ∧ Hid (∃ q, wr = w4.drewN q)) (fun vi _ => mo - (intOf vi).toNat)
            case atStart => exact ⟨0, Nat.zero_le _, rfl, fun j hj => absurd hj (Nat.not_lt_zero _), ⟨0, rfl⟩⟩
            case round =>
              obtain ⟨k, hk, rfl, HEQ, HW⟩ := hrel
              have HBk : Hid (∀ nq, Below w.heap.size w (wr.drewN nq)) := fun nq => by
                obtain ⟨q, rfl⟩ := HW.out
                exact HB4.out.trans ((((Gr.refl w4).drewN q).drewN nq).below.mono HB4.out.size)
              by_cases hlt : k < mo
              · have hlt' : (k : Int) < (mo : Int) := by omega
                obtain ⟨b, off, rfl, hb, e0⟩ := HI4.out.at_ hlt
                obtain ⟨b', off', rfl, hb', e1⟩ := HY4.out.at_ hlt
                have E0 : ∀ nq, (wr.drewN nq).cell? ⟨b, off + k, none⟩ = some (.int .i64 (iA X k)) := fun nq => by obtain ⟨q, rfl⟩ := HW.out; exact e0
                have E1 : ∀ nq, (wr.drewN nq).cell? ⟨b', off' + k, none⟩ = some (.int .i64 (iA O k)) := fun nq => by obtain ⟨q, rfl⟩ := HW.out; exact e1
                clear e0 e1
                by_cases hxo : iA X k = iA O k
                · have b2 : (iA X k != iA O k) = false := by rw [hxo]; simp
                  have HS : Hid (∀ j, j < k + 1 → iA X j = iA O j) := by
                    intro j hj
                    rcases Nat.lt_or_ge j k with h | h
                    · exact HEQ.out j h
                    · obtain rfl : j = k := by omega
                      exact hxo
                  clear hxo
                  generalize iA X k = xk at E0 b2
                  generalize iA O k = ok at E1 b2
                  go_wp2_with fail
                  go_quiet (fail)
                  go_wp2_with fail
                  go_roundw
                  case rel => exact ⟨k + 1, by omega, by go_num, HS, by obtain ⟨q, rfl⟩ := HW.out; exact ⟨q + nq, World.drewN_drewN _ _ _⟩⟩
                  case measure => simp [intOf]; omega
                · have b2 : (iA X k != iA O k) = true := by rw [bne_iff_ne]; exact hxo
                  have hlx := HLY.out k hlt HEQ.out hxo
                  have hd2 : decide (iA X k < iA O k) = true := decide_eq_true hlx
                  clear hxo
                  generalize iA X k = xk at E0 b2 hlx hd2
                  generalize iA O k = ok at E1 b2 hlx hd2
                  go_wp2_with fail
                  go_quiet (fail)
                  have HB5 := hide (HBk.out nq)
                  have G0 := E0 nq
                  have G1 := E1 nq
                  generalize wr.drewN nq = w5 at HB5 G0 G1 ⊢
                  clear E0 E1 HBk HW
                  have KS : Hid (∀ W', Below w5.heap.size w5 W' → W'.cell? ⟨b, off + k, none⟩ = some (.int .i64 xk) ∧ W'.cell? ⟨b', off' + k, none⟩ = some (.int .i64 ok)) := fun W' h => ⟨(h.cell (p := ⟨b, off + k, none⟩) (World.block_lt_of_cell? _ _ G0)).trans G0, (h.cell (p := ⟨b', off' + k, none⟩) (World.block_lt_of_cell? _ _ G1)).trans G1⟩
                  have K0 := hide (KS.out w5.drew ((Below.refl _ w5).drew))
                  go_wp2_with fail
                  go_region_held3 (fun w' => w'.cell? ⟨b, off + k, none⟩ = some (.int .i64 xk) ∧ w'.cell? ⟨b', off' + k, none⟩ = some (.int .i64 ok))
                    (first | exact K0.out | exact KS.out _ hb6)
                    (first | (go_at_call 15; (with_reducible refine (alive_any _).mono ?_); rintro e w6 ⟨rfl, hb6'⟩; have hb6 : Below w5.heap.size w5 w6 := ((Below.refl _ w5).drew).trans hb6'))
                  have HB6 := hide (HB5.out.trans (hb6.mono HB5.out.size))
                  clear hb6 hb6'
                  go_wp2_with fail
                  go_ret
                  exact ⟨rfl, HB6.out⟩
              · obtain rfl : k = mo := by omega
                have hii : ¬ ((k : Int) < (k : Int)) := by omega
                have HB5 := hide (HBk.out 0)
                rw [World.drewN_zero] at HB5
                go_wp2_with fail
                refine (alive_any _).mono ?_
                rintro e w5 ⟨rfl, hb5⟩
                have HB6 := hide (HB5.out.trans (hb5.mono HB5.out.size))
                clear hb5
                go_wp2
                go_ret
                exact ⟨rfl, HB6.out⟩
          · have hvv : (tv == v) = false := beq_eq_false_iff_ne.2 htv
            clear htv
            go_wp2_with fail
            clear hd1
            go_loopw [19] (fun vi wr => vi = .int .i64 0 ∧ Hid (Below w.heap.size w wr)) (fun _ _ => 0)
            case atStart => exact ⟨rfl, HB4⟩
            case round =>
              obtain ⟨rfl, HBr⟩ := hrel
              go_wp2_with fail
              refine (alive_any _).mono ?_
              rintro e w5 ⟨rfl, hb5⟩
              have HB5 := hide (HBr.out.trans (hb5.mono HBr.out.size))
              clear hb5
              go_wp2
              go_ret
              exact ⟨rfl, HB5.out⟩
  · obtain ⟨h1, h2, h3⟩ := split_error he
    rw [h1] at hi2
    rw [h2, h3]
    have hm2 : m2 = 0 := by rw [← hi2.1]; rfl
    subst hm2
    have hn0 : (splitE cs n total != 0) = true := by rw [bne_iff_ne]; exact he
    generalize splitE cs n total = se at hn0
    clear he h1 h2 h3 hi2 hb2
    go_wp2_with fail
    refine (alive_any w2).mono ?_
    rintro e w6 ⟨rfl, hb6⟩
    have HB6 := hide (HB2.out.trans (hb6.mono HB2.out.size))
    clear hb6
    go_wp2
    go_ret
    exact ⟨rfl, HB6.out⟩

end Go.Proofs.Ytdepnhnpklbmiaa
