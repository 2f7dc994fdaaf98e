/- The walk of the law on Fenchel's duality. -/
import Derived.Test.YtdepnhnpklbmiaaQ4
import Derived.Test.YtdepnhnpklbmiaaB24
import Derived.Test.YtdepnhnpklbmiaaF0
import Derived.Lib.QuietBelow
namespace Go.Proofs.Ytdepnhnpklbmiaa
open Go.RowKit Go.Sort

/-- what the law asks of the price -/
theorem meet_last {a b : Cu} {i j : Nat} {P u z x : Int} (h : MeetOk a b i j) (hP : meetP a b i j = P) (hu : valK a i = u) (hz : valK b j = z) (hx : a.fr + (i : Int) = x) (hp : -1048576 < P) :
    (P - 1) * x - u < gre a (P - 1) ∨ (1 - P) * x - z < gre b (1 - P) := by
  have hxb : b.fr + (j : Int) = x := by rw [← h.at_]; exact hx
  have := meet_small h (by rw [hP]; exact hp)
  rw [hP, hu, hz, hx, hxb] at this
  exact this

set_option maxHeartbeats 16000000 in
set_option maxRecDepth 100000 in
theorem fenchel_law (a b : Cu) (A1 : Option Addr) (n1 k1 : Nat) (A2 : Option Addr) (n2 k2 : Nat) (q y : Int) (w : World)
    (ha : CuAt w.heap.size w a A1 n1 k1) (hb : CuAt w.heap.size w b A2 n2 k2) (h1 : n1 ≤ 9223372036854775807) (h2 : n2 ≤ 9223372036854775807) :
    Calls Try.prog 11 #[.agg #[.int .i64 a.fr, .int .i64 a.fst, .slice A1 n1 k1], .agg #[.int .i64 b.fr, .int .i64 b.fst, .slice A2 n2 k2], .int .i64 q, .int .i64 y] w (LawPost w) := by
  have mixed := mixedOrders
  obtain ⟨p, hp⟩ : ∃ p, w.heap.size = p := ⟨_, rfl⟩
  obtain ⟨W1, hW1⟩ : ∃ W1, (w.alloc (.cells #[.int .i64 a.fr, .int .i64 a.fst, .slice A1 n1 k1] 24)).alloc (.cells #[.int .i64 b.fr, .int .i64 b.fst, .slice A2 n2 k2] 24) = W1 := ⟨_, rfl⟩
  have hXa : Box W1 p a A1 n1 k1 := by
    rw [← hW1, ← hp]
    exact (box_new ha h1).gr ((Gr.refl _).alloc _)
  have hXb : Box W1 (p + 1) b A2 n2 k2 := by
    rw [← hW1, ← hp]
    have h := box_new (hb.gr ((Gr.refl w).alloc (.cells #[.int .i64 a.fr, .int .i64 a.fst, .slice A1 n1 k1] 24))) h2
    rw [World.size_alloc] at h
    exact h
  have HB1 : Hid (Below w.heap.size w W1) := by show Below _ _ _; rw [← hW1]; exact (((Gr.refl w).alloc _).alloc _).below
  have HXa1 := hide hXa
  have HXb1 := hide hXb
  have HM := hide (Meet_any a b A1 n1 k1 A2 n2 k2 W1 hXa.cu hXb.cu h1 h2)
  obtain ⟨a0, a1, a2⟩ := hXa.cells
  obtain ⟨b0, b1, b2⟩ := hXb.cells
  clear hXa hXb ha hb
  go_enter Try.func11, Try.ntmps11
  go_wp2_with fail
  try rw [hp]
  refine HM.out.mono ?_
  rintro e w2 ⟨hpost, hb2⟩
  have HB2 := hide (HB1.out.trans (hb2.mono HB1.out.size))
  have HXa2 := hide (HXa1.out.below hb2)
  have HXb2 := hide (HXb1.out.below hb2)
  clear HM hb2 HB1 HXa1 HXb1 a0 a1 a2 b0 b1 b2 hW1 h1 h2
  rcases hpost with ⟨c, hc, rfl⟩ | ⟨i, j, hok, rfl⟩
  · have hq : (c != 0) = true := by rw [bne_iff_ne]; exact hc
    go_wp2_with fail
    refine (alive_any _).mono ?_
    rintro e w8 ⟨rfl, hb8⟩
    have HB8 := hide (HB2.out.trans (hb8.mono HB2.out.size))
    clear hb8
    go_wp2
    go_ret
    exact ⟨rfl, HB8.out⟩
  obtain ⟨x, hx⟩ : ∃ x, a.fr + (i : Int) = x := ⟨_, rfl⟩
  obtain ⟨u, hu⟩ : ∃ u, valK a i = u := ⟨_, rfl⟩
  obtain ⟨z, hz⟩ : ∃ z, valK b j = z := ⟨_, rfl⟩
  obtain ⟨v, hv⟩ : ∃ v, u + z = v := ⟨_, rfl⟩
  obtain ⟨P, hP⟩ : ∃ q, max (befV a i) (-(aftV b j)) = q := ⟨_, rfl⟩
  have hPm : meetP a b i j = P := hP
  have hxb : b.fr + (j : Int) = x := by rw [← hok.at_]; exact hx
  have hur := okC_val hok.oa hok.la
  have hzr := okC_val hok.ob hok.lb
  rw [hu] at hur
  rw [hz] at hzr
  have HAT1 : Hid (Calls Try.prog 46 #[.agg #[.int .i64 a.fr, .int .i64 a.fst, .slice A1 n1 k1], .int .i64 x] w2 fun e w' => e = .returned (.tuple #[.int .i64 u, .bool true]) ∧ Below w2.heap.size w2 w') := by
    have := lawAt_any a A1 n1 k1 (a.fr + i) w2 HXa2.out.cu HXa2.out.big
    rw [atV_in hok.oa hok.la, hu, hx] at this
    exact this
  have HAT2 : Hid (∀ W', Below w2.heap.size w2 W' → Calls Try.prog 46 #[.agg #[.int .i64 b.fr, .int .i64 b.fst, .slice A2 n2 k2], .int .i64 x] W' fun e w' => e = .returned (.tuple #[.int .i64 z, .bool true]) ∧ Below W'.heap.size W' w') := fun W' hh => by
    have := lawAt_any b A2 n2 k2 (b.fr + j) W' (HXb2.out.below hh).cu HXb2.out.big
    rw [atV_in hok.ob hok.lb, hz, hxb] at this
    exact this
  have HGA : Hid (∀ W' P g, Below w2.heap.size w2 W' → (-1073741824 ≤ P ∧ P ≤ 1073741824) → gre a P = g → Calls Try.prog 47 #[.agg #[.int .i64 a.fr, .int .i64 a.fst, .slice A1 n1 k1], .int .i64 P] W' fun e w' => e = .returned (.int .i64 g) ∧ Below W'.heap.size W' w') := fun W' P g hh hP hg => by rw [← hg]; exact greatest_any a A1 n1 k1 P W' hok.oa (HXa2.out.below hh).cu hP
  have HGB : Hid (∀ W' P g, Below w2.heap.size w2 W' → (-1073741824 ≤ P ∧ P ≤ 1073741824) → gre b P = g → Calls Try.prog 47 #[.agg #[.int .i64 b.fr, .int .i64 b.fst, .slice A2 n2 k2], .int .i64 P] W' fun e w' => e = .returned (.int .i64 g) ∧ Below W'.heap.size W' w') := fun W' P g hh hP hg => by rw [← hg]; exact greatest_any b A2 n2 k2 P W' hok.ob (HXb2.out.below hh).cu hP
  have hPr := meetP_range hok
  rw [hPm] at hPr
  have hma := meet_a hok
  have hmb := meet_b hok
  rw [hPm, hx, hu] at hma
  rw [hPm, hxb, hz] at hmb
  have hms := meet_sum hok
  rw [hPm, hu, hz, hv] at hms
  have HLE : Hid (∀ k l, k ≤ a.sl.length → l ≤ b.sl.length → a.fr + (k : Int) = b.fr + l → v ≤ valK a k + valK b l ∧ (valK a k + valK b l = v → x ≤ a.fr + k)) := fun k l hk hl hkl => by
    have := meet_least hok hk hl hkl
    rw [hu, hz, hv] at this
    exact ⟨this.1, fun h => by have := this.2 h; omega⟩
  have HWK : Hid (∀ q, -(gre a q + gre b (-q)) ≤ v) := fun q => by
    have := weak q hok.la hok.lb hok.at_
    rw [hu, hz, hv] at this
    exact this
  have HLS : Hid (-1048576 < P → (P - 1) * x - u < gre a (P - 1) ∨ (1 - P) * x - z < gre b (1 - P)) := fun h => meet_last hok hPm hu hz hx h
  have hxr : -2097152 ≤ x ∧ x ≤ 2097152 := by have := okC_fr hok.oa; have := okC_len hok.oa; have := hok.la; omega
  have HOK := hide hok
  obtain ⟨ga, hga⟩ : ∃ g, gre a P = g := ⟨_, rfl⟩
  obtain ⟨gb, hgb⟩ : ∃ g, gre b (-P) = g := ⟨_, rfl⟩
  rw [hga] at hma hms
  rw [hgb] at hmb hms
  have HR := hide (show (-1048576 ≤ P ∧ P ≤ 1048576) ∧ (-2097152 ≤ x ∧ x ≤ 2097152) ∧ (-1125899906842624 ≤ u ∧ u ≤ 1125899906842624) ∧ (-1125899906842624 ≤ z ∧ z ≤ 1125899906842624) ∧ u + z = v from ⟨hPr, hxr, hur, hzr, hv⟩)
  have HMA := hide (show P * x - u = ga ∧ -P * x - z = gb ∧ ga + gb = -v from ⟨hma, hmb, hms⟩)
  have HGG := hide (show gre a P = ga ∧ gre b (-P) = gb from ⟨hga, hgb⟩)
  rw [hu, hz, hv, hx, hP]
  obtain ⟨a0, a1, a2⟩ := HXa2.out.cells
  clear hx hu hz hv hP hPm hxb hur hzr hok hPr hma hmb hms hxr hga hgb
  go_wp2_with fail
  refine HAT1.out.mono ?_
  rintro e w3 ⟨rfl, hb3⟩
  have HB3 := hide hb3
  have HAT2 := hide (HAT2.out w3 hb3)
  obtain ⟨b0, b1, b2⟩ := (HXb2.out.below hb3).cells
  clear HAT1 hb3 a0 a1 a2
  go_wp2_with fail
  refine HAT2.out.mono ?_
  rintro e w4 ⟨rfl, hb4⟩
  have HB4 := hide (HB3.out.trans (hb4.mono HB3.out.size))
  clear HAT2 hb4 b0 b1 b2 HB3
  obtain ⟨a0, a1, a2⟩ := (HXa2.out.below HB4.out).cells
  obtain ⟨b0, b1, b2⟩ := (HXb2.out.below HB4.out).cells
  have E0 := fun d os => cell_regrown a0 d os
  have E1 := fun d os => cell_regrown a1 d os
  have E2 := fun d os => cell_regrown a2 d os
  have E3 := fun d os => cell_regrown b0 d os
  have E4 := fun d os => cell_regrown b1 d os
  have E5 := fun d os => cell_regrown b2 d os
  have HBW : Hid (∀ d os, Below w2.heap.size w2 (grow (redrawn w4 d) os)) := fun d os => HB4.out.trans ((below_regrown w4 d os).mono HB4.out.size)
  clear a0 a1 a2 b0 b1 b2
  have hR := HR.out
  have hM := HMA.out
  obtain ⟨mP, hmP⟩ : ∃ m, -P = m := ⟨_, rfl⟩
  obtain ⟨mv, hmv⟩ : ∃ m, -v = m := ⟨_, rfl⟩
  have hg0 := gre_range HOK.out.oa (p := P) (by omega)
  have hg1 := gre_range HOK.out.ob (p := -P) (by omega)
  rw [HGG.out.1] at hg0
  rw [HGG.out.2] at hg1
  have hw1 : IntKind.i64.wrap (u + z) = v := by rw [IntKind.wrap_i64]; omega
  have hw2 : IntKind.i64.wrap (-P) = mP := by rw [IntKind.wrap_i64]; omega
  have hw3 : IntKind.i64.wrap (-v) = mv := by rw [IntKind.wrap_i64]; omega
  have hw4 : IntKind.i64.wrap (ga + gb) = mv := by rw [IntKind.wrap_i64]; omega
  have hd1 : decide (P < -1048576) = false := decide_eq_false (by omega)
  have hd2 : decide (1048576 < P) = false := decide_eq_false (by omega)
  have hd3 : (v != v) = false := by simp
  have hd4 : (mv != mv) = false := by simp
  have HC1 := hide (fun W' hh => HGA.out W' P ga hh (by omega) HGG.out.1)
  have HC2 := hide (fun W' hh => HGB.out W' mP gb hh (by omega) (by rw [← hmP]; exact HGG.out.2))
  have HN := hide (show -P = mP ∧ -v = mv from ⟨hmP, hmv⟩)
  clear hR hM hmP hmv hg0 hg1
  go_wp2_with fail
  refine wp_region_quiet_below (by assumption) (by kernel_rfl) ?_
  repeat (go_big_quiet_step (first | (go_at_call 47; with_reducible refine Calls.regrown_of (HC1.out _ (HBW.out _ _))) | (go_at_call 47; with_reducible refine Calls.regrown_of (HC2.out _ (HBW.out _ _)))))
  refine wpQuiet_nil ?_
  intro _ hw'
  obtain ⟨⟨dq, osq⟩, hw''⟩ := hw'
  subst hw''
  have HBn := hide (HBW.out dq osq)
  generalize grow (redrawn w4 dq) osq = w5 at HBn ⊢
  clear E0 E1 E2 E3 E4 E5 HBW
  clear HC1 HC2 hd1 hd2 hd3 hd4 hw1 hw2 HB4
  have HB5 := HBn
  clear HBn
  obtain ⟨⟨r, er⟩, hr⟩ : ∃ q, atV a y = q := ⟨_, rfl⟩
  obtain ⟨⟨s, es⟩, hs⟩ : ∃ q, atV b y = q := ⟨_, rfl⟩
  have HAT1 := hide (lawAt_any a A1 n1 k1 y w5 (HXa2.out.below HB5.out).cu HXa2.out.big)
  have HAT2 := hide (fun W' hh => lawAt_any b A2 n2 k2 y W' (HXb2.out.below hh).cu HXb2.out.big)
  rw [hr] at HAT1
  rw [hs] at HAT2
  have HRS := hide (show atV a y = (r, er) ∧ atV b y = (s, es) from ⟨hr, hs⟩)
  obtain ⟨a0, a1, a2⟩ := (HXa2.out.below HB5.out).cells
  clear hr hs
  go_wp2_with fail
  refine HAT1.out.mono ?_
  rintro e w6 ⟨rfl, hb6⟩
  have HB6 := hide (HB5.out.trans (hb6.mono HB5.out.size))
  have HAT2 := hide (HAT2.out w6 HB6.out)
  obtain ⟨b0, b1, b2⟩ := (HXb2.out.below HB6.out).cells
  clear HAT1 hb6 a0 a1 a2 HB5
  go_wp2_with fail
  refine HAT2.out.mono ?_
  rintro e w7 ⟨rfl, hb7⟩
  have HB7 := hide (HB6.out.trans (hb7.mono HB6.out.size))
  clear HAT2 hb7 b0 b1 b2 HB6
  have HEE : Hid (er = 0 → es = 0 → v ≤ r + s ∧ (r + s = v → x ≤ y) ∧ (-1125899906842624 ≤ r ∧ r ≤ 1125899906842624) ∧ (-1125899906842624 ≤ s ∧ s ≤ 1125899906842624)) := fun h1 h2 => by
    subst h1 h2
    obtain ⟨-, k, hk, hyk⟩ := atV_some (c := a) (x := y) (by rw [HRS.out.1])
    obtain ⟨-, l, hl, hyl⟩ := atV_some (c := b) (x := y) (by rw [HRS.out.2])
    have e1 := HRS.out.1
    have e2 := HRS.out.2
    rw [hyk, atV_in HOK.out.oa hk] at e1
    rw [hyl, atV_in HOK.out.ob hl] at e2
    injection e1 with e1 _
    injection e2 with e2 _
    have h3 := HLE.out k l hk hl (by omega)
    have h4 := okC_val HOK.out.oa hk
    have h5 := okC_val HOK.out.ob hl
    rw [e1, e2] at h3
    rw [e1] at h4
    rw [e2] at h5
    exact ⟨h3.1, fun h => by have := h3.2 h; omega, h4, h5⟩
  go_upto_region 10 with fail
  go_cut [124, 18, 20] (fun s124 s18 s20 wx => s124 = .bool false ∧ w7 = wx)
  case first => as_aux_lemma =>
    by_cases h3a : er = 0
    · by_cases h3b : es = 0
      · have hee := HEE.out h3a h3b
        subst h3a h3b
        obtain ⟨rs, hrs⟩ : ∃ m, r + s = m := ⟨_, rfl⟩
        have hwr : IntKind.i64.wrap (r + s) = rs := by rw [IntKind.wrap_i64]; omega
        have hd1 : decide (rs < v) = false := decide_eq_false (by omega)
        have hd5 : ((0 : Int) == 0) = true := rfl
        have HRSV : Hid (rs = v → x ≤ y) := fun h => hee.2.1 (by omega)
        clear hee hrs
        by_cases h4 : rs = v
        · have hd2 : (rs == v) = true := beq_iff_eq.2 h4
          have hd3 : decide (y < x) = false := decide_eq_false (by have := HRSV.out h4; omega)
          clear h4
          go_wp2_with fail
          go_meet
          exact ⟨rfl, rfl⟩
        · have hd2 : (rs == v) = false := beq_eq_false_iff_ne.2 h4
          clear h4
          go_wp2_with fail
          go_meet
          exact ⟨rfl, rfl⟩
      · have hd5 : (es == 0) = false := beq_eq_false_iff_ne.2 h3b
        subst h3a
        have hd6 : ((0 : Int) == 0) = true := rfl
        clear h3b
        go_wp2_with fail
        go_meet
        exact ⟨rfl, rfl⟩
    · have hd5 : (er == 0) = false := beq_eq_false_iff_ne.2 h3a
      clear h3a
      go_wp2_with fail
      go_meet
      exact ⟨rfl, rfl⟩
  case rest => as_aux_lemma =>
    obtain ⟨rfl, rfl⟩ := hcut
    clear HEE HLE HRS
    go_upto_region 12 with fail
    go_cut [177] (fun s177 wx => s177 = .bool false ∧ Hid (Below w2.heap.size w2 wx))
    case first => as_aux_lemma =>
      by_cases hc1 : P ≤ -1048576
      · have hc1d : decide (-1048576 < P) = false := decide_eq_false (by omega)
        clear hc1
        obtain ⟨a0, a1, a2⟩ := (HXa2.out.below HB7.out).cells
        obtain ⟨b0, b1, b2⟩ := (HXb2.out.below HB7.out).cells
        have E0 := fun d os => cell_regrown a0 d os
        have E1 := fun d os => cell_regrown a1 d os
        have E2 := fun d os => cell_regrown a2 d os
        have E3 := fun d os => cell_regrown b0 d os
        have E4 := fun d os => cell_regrown b1 d os
        have E5 := fun d os => cell_regrown b2 d os
        have HBW : Hid (∀ d os, Below w2.heap.size w2 (grow (redrawn w7 d) os)) := fun d os => HB7.out.trans ((below_regrown w7 d os).mono HB7.out.size)
        clear a0 a1 a2 b0 b1 b2
        have HC1 : Hid True := trivial
        go_wp2_with fail
        refine wp_region_quiet_below (by assumption) (by kernel_rfl) ?_
        repeat (go_big_quiet_step (fail))
        refine wpQuiet_nil ?_
        intro _ hw'
        obtain ⟨⟨dq, osq⟩, hw''⟩ := hw'
        subst hw''
        have HBn := hide (HBW.out dq osq)
        generalize grow (redrawn w7 dq) osq = w8 at HBn ⊢
        clear E0 E1 E2 E3 E4 E5 HBW
        go_wp2_with fail
        go_meet
        exact ⟨rfl, HBn⟩
      have hc1d : decide (-1048576 < P) = true := decide_eq_true (by omega)
      obtain ⟨a0, a1, a2⟩ := (HXa2.out.below HB7.out).cells
      obtain ⟨b0, b1, b2⟩ := (HXb2.out.below HB7.out).cells
      have E0 := fun d os => cell_regrown a0 d os
      have E1 := fun d os => cell_regrown a1 d os
      have E2 := fun d os => cell_regrown a2 d os
      have E3 := fun d os => cell_regrown b0 d os
      have E4 := fun d os => cell_regrown b1 d os
      have E5 := fun d os => cell_regrown b2 d os
      have HBW : Hid (∀ d os, Below w2.heap.size w2 (grow (redrawn w7 d) os)) := fun d os => HB7.out.trans ((below_regrown w7 d os).mono HB7.out.size)
      clear a0 a1 a2 b0 b1 b2
      have hR := HR.out
      have hls := HLS.out (by omega)
      obtain ⟨P1, hP1⟩ : ∃ m, P - 1 = m := ⟨_, rfl⟩
      obtain ⟨P2, hP2⟩ : ∃ m, 1 - P = m := ⟨_, rfl⟩
      rw [hP1, hP2] at hls
      obtain ⟨g1, hg1⟩ : ∃ g, gre a P1 = g := ⟨_, rfl⟩
      obtain ⟨g2, hg2⟩ : ∃ g, gre b P2 = g := ⟨_, rfl⟩
      rw [hg1, hg2] at hls
      have hr1 := gre_range HOK.out.oa (p := P1) (by omega)
      have hr2 := gre_range HOK.out.ob (p := P2) (by omega)
      rw [hg1] at hr1
      rw [hg2] at hr2
      obtain ⟨gs, hgs⟩ : ∃ g, g1 + g2 = g := ⟨_, rfl⟩
      have hx1 : IntKind.i64.wrap (P - 1) = P1 := by rw [IntKind.wrap_i64]; omega
      have hx2 : IntKind.i64.wrap (1 - P) = P2 := by rw [IntKind.wrap_i64]; omega
      have hx3 : IntKind.i64.wrap (g1 + g2) = gs := by rw [IntKind.wrap_i64]; omega
      have hm1 := mul_bound (a := P) (b := x) (M := 1048577) (N := 2097152) (by omega) (by omega)
      have hm2 := mul_bound (a := P1) (b := x) (M := 1048577) (N := 2097152) (by omega) (by omega)
      have hm3 := mul_bound (a := P2) (b := x) (M := 1048577) (N := 2097152) (by omega) (by omega)
      have hM := HMA.out
      obtain ⟨y1, hy1⟩ : ∃ g, P * x = g := ⟨_, rfl⟩
      obtain ⟨y2, hy2⟩ : ∃ g, P1 * x = g := ⟨_, rfl⟩
      obtain ⟨y3, hy3⟩ : ∃ g, P2 * x = g := ⟨_, rfl⟩
      rw [hy1] at hm1 hM
      rw [hy2] at hm2 hls
      rw [hy3] at hm3 hls
      obtain ⟨f2, hf2⟩ : ∃ g, y2 - u = g := ⟨_, rfl⟩
      obtain ⟨f3, hf3⟩ : ∃ g, y3 - z = g := ⟨_, rfl⟩
      have hz1 : IntKind.i64.wrap (P * x) = y1 := by rw [hy1, IntKind.wrap_i64]; omega
      have hz2 : IntKind.i64.wrap (P1 * x) = y2 := by rw [hy2, IntKind.wrap_i64]; omega
      have hz3 : IntKind.i64.wrap (P2 * x) = y3 := by rw [hy3, IntKind.wrap_i64]; omega
      have hz4 : IntKind.i64.wrap (y1 - u) = ga := by rw [IntKind.wrap_i64]; omega
      have hz5 : IntKind.i64.wrap (y2 - u) = f2 := by rw [IntKind.wrap_i64]; omega
      have hz6 : IntKind.i64.wrap (y3 - z) = f3 := by rw [IntKind.wrap_i64]; omega
      have hz7 : (ga == ga) = true := by simp
      have HLS2 : Hid (f2 < g1 ∨ f3 < g2) := by show _ ∨ _; omega
      have HC1 := hide (fun W' hh => HGA.out W' P ga hh (by omega) HGG.out.1)
      have HC2 := hide (fun W' hh => HGA.out W' P1 g1 hh (by omega) hg1)
      have HC3 := hide (fun W' hh => HGB.out W' P2 g2 hh (by omega) hg2)
      clear hR hls hP1 hP2 hg1 hg2 hr1 hr2 hgs hm1 hm2 hm3 hM hy1 hy2 hy3 hf2 hf3 hc1
      by_cases hs1 : gs = mv
      · have hs1d : (gs == mv) = true := beq_iff_eq.2 hs1
        by_cases hs2 : f2 = g1
        · have hs2d : (f2 == g1) = true := beq_iff_eq.2 hs2
          have hs3d : (f3 == g2) = false := beq_eq_false_iff_ne.2 (by have := HLS2.out; omega)
          clear hs1 hs2
          go_wp2_with fail
          refine wp_region_quiet_below (by assumption) (by kernel_rfl) ?_
          repeat (go_big_quiet_step (first | (go_at_call 47; with_reducible refine Calls.regrown_of (HC1.out _ (HBW.out _ _))) | (go_at_call 47; with_reducible refine Calls.regrown_of (HC2.out _ (HBW.out _ _))) | (go_at_call 47; with_reducible refine Calls.regrown_of (HC3.out _ (HBW.out _ _)))))
          refine wpQuiet_nil ?_
          intro _ hw'
          obtain ⟨⟨dq, osq⟩, hw''⟩ := hw'
          subst hw''
          have HBn := hide (HBW.out dq osq)
          generalize grow (redrawn w7 dq) osq = w8 at HBn ⊢
          clear E0 E1 E2 E3 E4 E5 HBW
          go_wp2_with fail
          go_meet
          exact ⟨rfl, HBn⟩
        · have hs2d : (f2 == g1) = false := beq_eq_false_iff_ne.2 hs2
          clear hs1 hs2
          go_wp2_with fail
          refine wp_region_quiet_below (by assumption) (by kernel_rfl) ?_
          repeat (go_big_quiet_step (first | (go_at_call 47; with_reducible refine Calls.regrown_of (HC1.out _ (HBW.out _ _))) | (go_at_call 47; with_reducible refine Calls.regrown_of (HC2.out _ (HBW.out _ _))) | (go_at_call 47; with_reducible refine Calls.regrown_of (HC3.out _ (HBW.out _ _)))))
          refine wpQuiet_nil ?_
          intro _ hw'
          obtain ⟨⟨dq, osq⟩, hw''⟩ := hw'
          subst hw''
          have HBn := hide (HBW.out dq osq)
          generalize grow (redrawn w7 dq) osq = w8 at HBn ⊢
          clear E0 E1 E2 E3 E4 E5 HBW
          go_wp2_with fail
          go_meet
          exact ⟨rfl, HBn⟩
      · have hs1d : (gs == mv) = false := beq_eq_false_iff_ne.2 hs1
        clear hs1
        go_wp2_with fail
        refine wp_region_quiet_below (by assumption) (by kernel_rfl) ?_
        repeat (go_big_quiet_step (first | (go_at_call 47; with_reducible refine Calls.regrown_of (HC1.out _ (HBW.out _ _))) | (go_at_call 47; with_reducible refine Calls.regrown_of (HC2.out _ (HBW.out _ _))) | (go_at_call 47; with_reducible refine Calls.regrown_of (HC3.out _ (HBW.out _ _)))))
        refine wpQuiet_nil ?_
        intro _ hw'
        obtain ⟨⟨dq, osq⟩, hw''⟩ := hw'
        subst hw''
        have HBn := hide (HBW.out dq osq)
        generalize grow (redrawn w7 dq) osq = w8 at HBn ⊢
        clear E0 E1 E2 E3 E4 E5 HBW
        go_wp2_with fail
        go_meet
        exact ⟨rfl, HBn⟩
    case rest => as_aux_lemma =>
      obtain ⟨rfl, HB8⟩ := hcut
      clear HB7 HLS HMA hw3 hw4
      obtain ⟨a0, a1, a2⟩ := (HXa2.out.below HB8.out).cells
      obtain ⟨b0, b1, b2⟩ := (HXb2.out.below HB8.out).cells
      have E0 := fun d os => cell_regrown a0 d os
      have E1 := fun d os => cell_regrown a1 d os
      have E2 := fun d os => cell_regrown a2 d os
      have E3 := fun d os => cell_regrown b0 d os
      have E4 := fun d os => cell_regrown b1 d os
      have E5 := fun d os => cell_regrown b2 d os
      have HBW : Hid (∀ d os, Below w2.heap.size w2 (grow (redrawn wc d) os)) := fun d os => HB8.out.trans ((below_regrown wc d os).mono HB8.out.size)
      clear a0 a1 a2 b0 b1 b2
      by_cases hq1 : q < -1073741824
      · have hqd : decide (q < -1073741824) = true := decide_eq_true hq1
        clear hq1
        go_wp2_with fail
        refine wp_region_quiet_below (by assumption) (by kernel_rfl) ?_
        repeat (go_big_quiet_step (first | (go_at_call 15; with_reducible refine Calls.regrown_of (alive_any _))))
        refine wpQuiet_nil ?_
        intro _ hw'
        obtain ⟨⟨dq, osq⟩, hw''⟩ := hw'
        subst hw''
        have HBn := hide (HBW.out dq osq)
        generalize grow (redrawn wc dq) osq = wt at HBn ⊢
        clear E0 E1 E2 E3 E4 E5 HBW
        have HBZ := hide (HB2.out.trans (HBn.out.mono HB2.out.size))
        clear HBn
        go_wp2
        go_ret
        exact ⟨rfl, HBZ.out⟩
      by_cases hq2 : 1073741824 < q
      · have hqd : decide (q < -1073741824) = false := decide_eq_false hq1
        have hqe : decide (1073741824 < q) = true := decide_eq_true hq2
        clear hq1 hq2
        go_wp2_with fail
        refine wp_region_quiet_below (by assumption) (by kernel_rfl) ?_
        repeat (go_big_quiet_step (first | (go_at_call 15; with_reducible refine Calls.regrown_of (alive_any _))))
        refine wpQuiet_nil ?_
        intro _ hw'
        obtain ⟨⟨dq, osq⟩, hw''⟩ := hw'
        subst hw''
        have HBn := hide (HBW.out dq osq)
        generalize grow (redrawn wc dq) osq = wt at HBn ⊢
        clear E0 E1 E2 E3 E4 E5 HBW
        have HBZ := hide (HB2.out.trans (HBn.out.mono HB2.out.size))
        clear HBn
        go_wp2
        go_ret
        exact ⟨rfl, HBZ.out⟩
      have hqd : decide (q < -1073741824) = false := decide_eq_false hq1
      have hqe : decide (1073741824 < q) = false := decide_eq_false hq2
      obtain ⟨mq, hmq⟩ : ∃ m, -q = m := ⟨_, rfl⟩
      obtain ⟨t1, ht1⟩ : ∃ g, gre a q = g := ⟨_, rfl⟩
      obtain ⟨t2, ht2⟩ : ∃ g, gre b mq = g := ⟨_, rfl⟩
      have hr1 := gre_range HOK.out.oa (p := q) (by omega)
      have hr2 := gre_range HOK.out.ob (p := mq) (by omega)
      have hwk := HWK.out q
      rw [hmq, ht1, ht2] at hwk
      rw [ht1] at hr1
      rw [ht2] at hr2
      obtain ⟨t3, ht3⟩ : ∃ g, t1 + t2 = g := ⟨_, rfl⟩
      obtain ⟨t4, ht4⟩ : ∃ g, -t3 = g := ⟨_, rfl⟩
      have hx1 : IntKind.i64.wrap (-q) = mq := by rw [IntKind.wrap_i64]; omega
      have hx2 : IntKind.i64.wrap (t1 + t2) = t3 := by rw [IntKind.wrap_i64]; omega
      have hx3 : IntKind.i64.wrap (-t3) = t4 := by rw [IntKind.wrap_i64]; omega
      have hx4 : decide (t4 ≤ v) = true := decide_eq_true (by omega)
      have HC1 := hide (fun W' hh => HGA.out W' q t1 hh (by omega) ht1)
      have HC2 := hide (fun W' hh => HGB.out W' mq t2 hh (by omega) ht2)
      clear hq1 hq2 hmq ht1 ht2 hr1 hr2 hwk ht3 ht4
      go_wp2_with fail
      refine wp_region_quiet_below (by assumption) (by kernel_rfl) ?_
      repeat (go_big_quiet_step (first | (go_at_call 15; with_reducible refine Calls.regrown_of (alive_any _)) | (go_at_call 47; with_reducible refine Calls.regrown_of (HC1.out _ (HBW.out _ _))) | (go_at_call 47; with_reducible refine Calls.regrown_of (HC2.out _ (HBW.out _ _)))))
      refine wpQuiet_nil ?_
      intro _ hw'
      obtain ⟨⟨dq, osq⟩, hw''⟩ := hw'
      subst hw''
      have HBn := hide (HBW.out dq osq)
      generalize grow (redrawn wc dq) osq = wt at HBn ⊢
      clear E0 E1 E2 E3 E4 E5 HBW
      have HBZ := hide (HB2.out.trans (HBn.out.mono HB2.out.size))
      clear HBn
      go_wp2
      go_ret
      exact ⟨rfl, HBZ.out⟩

end Go.Proofs.Ytdepnhnpklbmiaa
