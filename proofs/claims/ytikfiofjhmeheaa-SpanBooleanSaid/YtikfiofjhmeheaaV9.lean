/- The walk of SpanBoolean. -/
import Derived.Test.YtikfiofjhmeheaaN19
import Derived.Deep.DeepCutAuto
namespace Go.Proofs.Ytikfiofjhmeheaa
open Go.RowKit Go.Sort

set_option maxHeartbeats 8000000 in
set_option maxRecDepth 100000 in
theorem boolean_law (A A' A'' : Option Addr) (n cap m cap' k cap'' : Nat) (xs ys zs : List Sp) (w : World) (hx : SpansAt w.heap.size w A n xs) (hy : SpansAt w.heap.size w A' m ys) (hz : SpansAt w.heap.size w A'' k zs) (hn : n ≤ maxLen) (hm : m ≤ maxLen) (hk : k ≤ maxLen) :
    Calls Try.prog 9 #[.slice A n cap, .slice A' m cap', .slice A'' k cap''] w (LawPost w) := by
  have HX := hide hx
  have HY := hide hy
  have HZ := hide hz
  have HN := hide hn
  have HM := hide hm
  have HKK := hide hk
  have HD := hide (done w)
  clear hx hy hz hn hm hk
  go_enter Try.func9, Try.ntmps9
  go_wp2_with fail
  refine (sets_any A n cap xs w HX.out HN.out).mono ?_
  rintro e w1 ⟨az, sa, la, a, ca, rfl, h, hb⟩
  have HA := hide h
  have HY1 := hide (HY.out.now hb (Nat.le_refl _))
  have HZ1 := hide (HZ.out.now hb (Nat.le_refl _))
  have HB1 := hide hb
  clear h hb HX HY HN HZ
  go_wp2_with fail
  refine (sets_any A' m cap' ys w1 HY1.out HM.out).mono ?_
  rintro e w2 ⟨bz, sb, lb, b, cb, rfl, h, hb⟩
  have HA2 := hide (HA.out.now hb (Nat.le_refl _))
  have HBB := hide h
  have HZ2 := hide (HZ1.out.now hb (Nat.le_refl _))
  have HB2 := hide (HB1.out.trans (hb.mono HB1.out.size))
  clear h hb HY1 HM HZ1 HA HB1
  go_wp2_with fail
  refine (sets_any A'' k cap'' zs w2 HZ2.out HKK.out).mono ?_
  rintro e w3 ⟨cz, sc, lc, c, cc, rfl, h, hb⟩
  have HL : Hid (MAt w w3 [(a, az), (b, bz), (c, cz)]) := ⟨(((AllAt.nil w3).cons h).cons (HBB.out.now hb (Nat.le_refl _))).cons (HA2.out.now hb (Nat.le_refl _)), HB2.out.trans (hb.mono HB2.out.size)⟩
  obtain ⟨F⟩ := bool_facts sa sb sc la lb lc
  clear h hb HBB HA2 HZ2 HB2 HKK sa sb sc
  go_wp2_with fail
  refine (MAt.orP (w := w) (L := [(a, az), (b, bz), (c, cz)]) (a := a) (b := b) ca cb (by simp) (by simp) F.ab _ HL.out).mono ?_
  rintro e w4 ⟨p4, c4, rfl, hz, hb⟩
  replace HL := hide (HL.out.put hz hb)
  clear hz hb
  go_wp2_with fail
  refine (MAt.orP (w := w) (L := [(p4, F.AB), (a, az), (b, bz), (c, cz)]) (a := b) (b := a) cb ca (by simp) (by simp) F.ba _ HL.out).mono ?_
  rintro e w5 ⟨p5, c5, rfl, hz, hb⟩
  replace HL := hide (HL.out.put hz hb)
  clear hz hb
  go_wp2_with fail
  refine (MAt.sameP (w := w) (L := [(p5, F.AB), (p4, F.AB), (a, az), (b, bz), (c, cz)]) (a := p4) (b := p5) c4 c5 (by simp) (by simp) rfl (orV_len F.ab) _ HL.out).mono ?_
  rintro e wq ⟨rfl, hb⟩
  replace HL := hide (HL.out.now hb)
  clear hb
  go_wp2_with fail
  refine (MAt.andP (w := w) (L := [(p5, F.AB), (p4, F.AB), (a, az), (b, bz), (c, cz)]) (a := b) (b := c) cb cc (by simp) (by simp) F.bc _ HL.out).mono ?_
  rintro e w6 ⟨p6, c6, rfl, hz, hb⟩
  replace HL := hide (HL.out.put hz hb)
  clear hz hb
  go_wp2_with fail
  refine (MAt.andP (w := w) (L := [(p6, F.BC), (p5, F.AB), (p4, F.AB), (a, az), (b, bz), (c, cz)]) (a := c) (b := b) cc cb (by simp) (by simp) F.cb _ HL.out).mono ?_
  rintro e w7 ⟨p7, c7, rfl, hz, hb⟩
  replace HL := hide (HL.out.put hz hb)
  clear hz hb
  go_wp2_with fail
  refine (MAt.sameP (w := w) (L := [(p7, F.BC), (p6, F.BC), (p5, F.AB), (p4, F.AB), (a, az), (b, bz), (c, cz)]) (a := p6) (b := p7) c6 c7 (by simp) (by simp) rfl (andV_len F.bc) _ HL.out).mono ?_
  rintro e wq ⟨rfl, hb⟩
  replace HL := hide (HL.out.now hb)
  clear hb
  go_wp2_with fail
  refine (MAt.orP (w := w) (L := [(p7, F.BC), (p6, F.BC), (p5, F.AB), (p4, F.AB), (a, az), (b, bz), (c, cz)]) (a := a) (b := c) ca cc (by simp) (by simp) F.ac _ HL.out).mono ?_
  rintro e w8 ⟨p8, c8, rfl, hz, hb⟩
  replace HL := hide (HL.out.put hz hb)
  clear hz hb
  go_wp2_with fail
  refine (MAt.orP (w := w) (L := [(p8, F.AC), (p7, F.BC), (p6, F.BC), (p5, F.AB), (p4, F.AB), (a, az), (b, bz), (c, cz)]) (a := a) (b := p6) ca c6 (by simp) (by simp) F.left _ HL.out).mono ?_
  rintro e w9 ⟨p9, c9, rfl, hz, hb⟩
  replace HL := hide (HL.out.put hz hb)
  clear hz hb
  go_wp2_with fail
  refine (MAt.andP (w := w) (L := [(p9, F.Lz), (p8, F.AC), (p7, F.BC), (p6, F.BC), (p5, F.AB), (p4, F.AB), (a, az), (b, bz), (c, cz)]) (a := p4) (b := p8) c4 c8 (by simp) (by simp) F.right _ HL.out).mono ?_
  rintro e w10 ⟨p10, c10, rfl, hz, hb⟩
  replace HL := hide (HL.out.put hz hb)
  clear hz hb
  go_upto_region 13 with fail
  go_cut [126, 19, 21] (fun sv _ _ wx => sv = .bool false ∧ Hid (MAt w wx [(p10, F.Rz), (p9, F.Lz), (p8, F.AC), (p7, F.BC), (p6, F.BC), (p5, F.AB), (p4, F.AB), (a, az), (b, bz), (c, cz)]))
  case first => as_aux_lemma =>
    cases h1 : F.b1
    · skip
      go_wp2_with fail
      go_meet
      exact ⟨rfl, HL⟩
    · cases h2 : F.b2
      · skip
        go_wp2_with fail
        go_meet
        exact ⟨rfl, HL⟩
      · skip
        go_wp2_with fail
        refine (MAt.sameP (w := w) (L := [(p10, F.Rz), (p9, F.Lz), (p8, F.AC), (p7, F.BC), (p6, F.BC), (p5, F.AB), (p4, F.AB), (a, az), (b, bz), (c, cz)]) (a := p9) (b := p10) c9 c10 (by simp) (by simp) (F.f1 h1 h2) (orV_len F.left) _ HL.out).mono ?_
        rintro e wq ⟨rfl, hb⟩
        replace HL := hide (HL.out.now hb)
        clear hb
        go_wp2_with fail
        go_meet
        exact ⟨rfl, HL⟩
  case rest => as_aux_lemma =>
    obtain ⟨rfl, HL2⟩ := hcut
    replace HL := HL2
    clear HL2
    go_wp2_with fail
    refine (MAt.orP (w := w) (L := [(p10, F.Rz), (p9, F.Lz), (p8, F.AC), (p7, F.BC), (p6, F.BC), (p5, F.AB), (p4, F.AB), (a, az), (b, bz), (c, cz)]) (a := p4) (b := c) c4 cc (by simp) (by simp) F.once _ HL.out).mono ?_
    rintro e w11 ⟨p11, c11, rfl, hz, hb⟩
    replace HL := hide (HL.out.put hz hb)
    clear hz hb
    go_wp2_with fail
    refine (MAt.orP (w := w) (L := [(p11, F.Oz), (p10, F.Rz), (p9, F.Lz), (p8, F.AC), (p7, F.BC), (p6, F.BC), (p5, F.AB), (p4, F.AB), (a, az), (b, bz), (c, cz)]) (a := b) (b := c) cb cc (by simp) (by simp) F.cc _ HL.out).mono ?_
    rintro e w12 ⟨p12, c12, rfl, hz, hb⟩
    replace HL := hide (HL.out.put hz hb)
    clear hz hb
    go_wp2_with fail
    refine (MAt.orP (w := w) (L := [(p12, F.CC), (p11, F.Oz), (p10, F.Rz), (p9, F.Lz), (p8, F.AC), (p7, F.BC), (p6, F.BC), (p5, F.AB), (p4, F.AB), (a, az), (b, bz), (c, cz)]) (a := a) (b := p12) ca c12 (by simp) (by simp) F.twice _ HL.out).mono ?_
    rintro e w13 ⟨p13, c13, rfl, hz, hb⟩
    replace HL := hide (HL.out.put hz hb)
    clear hz hb
    go_upto_region 18 with fail
    go_cut [157, 11, 16] (fun sv _ _ wx => sv = .bool false ∧ Hid (MAt w wx [(p13, F.Tz), (p12, F.CC), (p11, F.Oz), (p10, F.Rz), (p9, F.Lz), (p8, F.AC), (p7, F.BC), (p6, F.BC), (p5, F.AB), (p4, F.AB), (a, az), (b, bz), (c, cz)]))
    case first => as_aux_lemma =>
      cases h1 : F.b3
      · skip
        go_wp2_with fail
        go_meet
        exact ⟨rfl, HL⟩
      · cases h2 : F.b4
        · skip
          go_wp2_with fail
          go_meet
          exact ⟨rfl, HL⟩
        · skip
          go_wp2_with fail
          refine (MAt.sameP (w := w) (L := [(p13, F.Tz), (p12, F.CC), (p11, F.Oz), (p10, F.Rz), (p9, F.Lz), (p8, F.AC), (p7, F.BC), (p6, F.BC), (p5, F.AB), (p4, F.AB), (a, az), (b, bz), (c, cz)]) (a := p11) (b := p13) c11 c13 (by simp) (by simp) (F.f2 h1 h2) (orV_len F.once) _ HL.out).mono ?_
          rintro e wq ⟨rfl, hb⟩
          replace HL := hide (HL.out.now hb)
          clear hb
          go_wp2_with fail
          go_meet
          exact ⟨rfl, HL⟩
    case rest => as_aux_lemma =>
      obtain ⟨rfl, HL2⟩ := hcut
      replace HL := HL2
      clear HL2
      go_wp2_with fail
      refine (MAt.notP (w := w) (L := [(p13, F.Tz), (p12, F.CC), (p11, F.Oz), (p10, F.Rz), (p9, F.Lz), (p8, F.AC), (p7, F.BC), (p6, F.BC), (p5, F.AB), (p4, F.AB), (a, az), (b, bz), (c, cz)]) (a := a) ca (by simp) F.na _ HL.out).mono ?_
      rintro e w14 ⟨p14, c14, rfl, hz, hb⟩
      replace HL := hide (HL.out.put hz hb)
      clear hz hb
      go_wp2_with fail
      refine (MAt.notP (w := w) (L := [(p14, F.NA), (p13, F.Tz), (p12, F.CC), (p11, F.Oz), (p10, F.Rz), (p9, F.Lz), (p8, F.AC), (p7, F.BC), (p6, F.BC), (p5, F.AB), (p4, F.AB), (a, az), (b, bz), (c, cz)]) (a := b) cb (by simp) F.nb _ HL.out).mono ?_
      rintro e w15 ⟨p15, c15, rfl, hz, hb⟩
      replace HL := hide (HL.out.put hz hb)
      clear hz hb
      go_wp2_with fail
      refine (MAt.notP (w := w) (L := [(p15, F.NB), (p14, F.NA), (p13, F.Tz), (p12, F.CC), (p11, F.Oz), (p10, F.Rz), (p9, F.Lz), (p8, F.AC), (p7, F.BC), (p6, F.BC), (p5, F.AB), (p4, F.AB), (a, az), (b, bz), (c, cz)]) (a := p14) c14 (by simp) F.back _ HL.out).mono ?_
      rintro e w16 ⟨p16, c16, rfl, hz, hb⟩
      replace HL := hide (HL.out.put hz hb)
      clear hz hb
      go_wp2_with fail
      refine (MAt.notP (w := w) (L := [(p16, az), (p15, F.NB), (p14, F.NA), (p13, F.Tz), (p12, F.CC), (p11, F.Oz), (p10, F.Rz), (p9, F.Lz), (p8, F.AC), (p7, F.BC), (p6, F.BC), (p5, F.AB), (p4, F.AB), (a, az), (b, bz), (c, cz)]) (a := p4) c4 (by simp) F.out _ HL.out).mono ?_
      rintro e w17 ⟨p17, c17, rfl, hz, hb⟩
      replace HL := hide (HL.out.put hz hb)
      clear hz hb
      go_wp2_with fail
      refine (MAt.andP (w := w) (L := [(p17, F.OUT), (p16, az), (p15, F.NB), (p14, F.NA), (p13, F.Tz), (p12, F.CC), (p11, F.Oz), (p10, F.Rz), (p9, F.Lz), (p8, F.AC), (p7, F.BC), (p6, F.BC), (p5, F.AB), (p4, F.AB), (a, az), (b, bz), (c, cz)]) (a := p14) (b := p15) c14 c15 (by simp) (by simp) F.both _ HL.out).mono ?_
      rintro e w18 ⟨p18, c18, rfl, hz, hb⟩
      replace HL := hide (HL.out.put hz hb)
      clear hz hb
      go_wp2_with fail
      refine (MAt.andP (w := w) (L := [(p18, F.OUT), (p17, F.OUT), (p16, az), (p15, F.NB), (p14, F.NA), (p13, F.Tz), (p12, F.CC), (p11, F.Oz), (p10, F.Rz), (p9, F.Lz), (p8, F.AC), (p7, F.BC), (p6, F.BC), (p5, F.AB), (p4, F.AB), (a, az), (b, bz), (c, cz)]) (a := a) (b := p14) ca c14 (by simp) (by simp) F.none _ HL.out).mono ?_
      rintro e w19 ⟨p19, c19, rfl, hz, hb⟩
      replace HL := hide (HL.out.put hz hb)
      clear hz hb
      go_wp2_with fail
      refine (MAt.orP (w := w) (L := [(p19, []), (p18, F.OUT), (p17, F.OUT), (p16, az), (p15, F.NB), (p14, F.NA), (p13, F.Tz), (p12, F.CC), (p11, F.Oz), (p10, F.Rz), (p9, F.Lz), (p8, F.AC), (p7, F.BC), (p6, F.BC), (p5, F.AB), (p4, F.AB), (a, az), (b, bz), (c, cz)]) (a := a) (b := p14) ca c14 (by simp) (by simp) F.all _ HL.out).mono ?_
      rintro e w20 ⟨p20, c20, rfl, hz, hb⟩
      replace HL := hide (HL.out.put hz hb)
      clear hz hb
      go_upto_region 28 with fail
      go_cut [236] (fun sv wx => sv = .bool false ∧ Hid (MAt w wx [(p20, wholeL), (p19, []), (p18, F.OUT), (p17, F.OUT), (p16, az), (p15, F.NB), (p14, F.NA), (p13, F.Tz), (p12, F.CC), (p11, F.Oz), (p10, F.Rz), (p9, F.Lz), (p8, F.AC), (p7, F.BC), (p6, F.BC), (p5, F.AB), (p4, F.AB), (a, az), (b, bz), (c, cz)]))
      case first => as_aux_lemma =>
        go_wp2_with fail
        refine (MAt.sameP (w := w) (L := [(p20, wholeL), (p19, []), (p18, F.OUT), (p17, F.OUT), (p16, az), (p15, F.NB), (p14, F.NA), (p13, F.Tz), (p12, F.CC), (p11, F.Oz), (p10, F.Rz), (p9, F.Lz), (p8, F.AC), (p7, F.BC), (p6, F.BC), (p5, F.AB), (p4, F.AB), (a, az), (b, bz), (c, cz)]) (a := p16) (b := a) c16 ca (by simp) (by simp) rfl (by omega) _ HL.out).mono ?_
        rintro e wq ⟨rfl, hb⟩
        replace HL := hide (HL.out.now hb)
        clear hb
        go_wp2_with fail
        refine (MAt.sameP (w := w) (L := [(p20, wholeL), (p19, []), (p18, F.OUT), (p17, F.OUT), (p16, az), (p15, F.NB), (p14, F.NA), (p13, F.Tz), (p12, F.CC), (p11, F.Oz), (p10, F.Rz), (p9, F.Lz), (p8, F.AC), (p7, F.BC), (p6, F.BC), (p5, F.AB), (p4, F.AB), (a, az), (b, bz), (c, cz)]) (a := p17) (b := p18) c17 c18 (by simp) (by simp) rfl (notV_len F.out) _ HL.out).mono ?_
        rintro e wq ⟨rfl, hb⟩
        replace HL := hide (HL.out.now hb)
        clear hb
        have hal := (Gr.refl wq).alloc (.cells #[.int .i64 (-1099511627776), .int .i64 1099511627776] 42)
        have hW : (wq.alloc (.cells #[.int .i64 (-1099511627776), .int .i64 1099511627776] 42)).heap[wq.heap.size]? = some (.cells #[.int .i64 (-1099511627776), .int .i64 1099511627776] 42 (0, 0)) := World.alloc_heap_new wq _
        have HW := hide (spans_lit wholeL hW rfl)
        have HL5 := hide (HL.out.now hal.below)
        have hsw := same_any p20 (some ⟨wq.heap.size, 0, none⟩) 1 c20 1 1 wholeL wholeL _ (HL5.out.1.get p20 wholeL (by simp)) HW.out (by omega) (by omega)
        rw [decide_eq_true rfl] at hsw
        have HSW := hide hsw
        clear hal hW hsw HW
        have hwl : wholeL.length = 1 := rfl
        go_wp2_with fail
        refine HSW.out.mono ?_
        rintro e wz ⟨rfl, kq, hq⟩
        replace HL : Hid (MAt w wz [(p20, wholeL), (p19, []), (p18, F.OUT), (p17, F.OUT), (p16, az), (p15, F.NB), (p14, F.NA), (p13, F.Tz), (p12, F.CC), (p11, F.Oz), (p10, F.Rz), (p9, F.Lz), (p8, F.AC), (p7, F.BC), (p6, F.BC), (p5, F.AB), (p4, F.AB), (a, az), (b, bz), (c, cz)]) := HL5.out.now (by rw [hq]; exact drewN_below _ kq)
        clear hq HL5 HSW
        go_wp2_with fail
        go_meet
        exact ⟨rfl, HL⟩
      case rest => as_aux_lemma =>
        obtain ⟨rfl, HL2⟩ := hcut
        replace HL := HL2
        clear HL2
        go_wp2_with fail
        refine (MAt.orP (w := w) (L := [(p20, wholeL), (p19, []), (p18, F.OUT), (p17, F.OUT), (p16, az), (p15, F.NB), (p14, F.NA), (p13, F.Tz), (p12, F.CC), (p11, F.Oz), (p10, F.Rz), (p9, F.Lz), (p8, F.AC), (p7, F.BC), (p6, F.BC), (p5, F.AB), (p4, F.AB), (a, az), (b, bz), (c, cz)]) (a := a) (b := a) ca ca (by simp) (by simp) F.self _ HL.out).mono ?_
        rintro e w21 ⟨p21, c21, rfl, hz, hb⟩
        replace HL := hide (HL.out.put hz hb)
        clear hz hb
        go_wp2_with fail
        refine (MAt.subP (w := w) (L := [(p21, az), (p20, wholeL), (p19, []), (p18, F.OUT), (p17, F.OUT), (p16, az), (p15, F.NB), (p14, F.NA), (p13, F.Tz), (p12, F.CC), (p11, F.Oz), (p10, F.Rz), (p9, F.Lz), (p8, F.AC), (p7, F.BC), (p6, F.BC), (p5, F.AB), (p4, F.AB), (a, az), (b, bz), (c, cz)]) (a := a) (b := b) ca cb (by simp) (by simp) F.less _ HL.out).mono ?_
        rintro e w22 ⟨p22, c22, rfl, ho, hb⟩
        replace HL := hide (HL.out.put (spans_of_own ho rfl) hb)
        clear ho hb
        go_wp2_with fail
        refine (MAt.andP (w := w) (L := [(p22, F.LS), (p21, az), (p20, wholeL), (p19, []), (p18, F.OUT), (p17, F.OUT), (p16, az), (p15, F.NB), (p14, F.NA), (p13, F.Tz), (p12, F.CC), (p11, F.Oz), (p10, F.Rz), (p9, F.Lz), (p8, F.AC), (p7, F.BC), (p6, F.BC), (p5, F.AB), (p4, F.AB), (a, az), (b, bz), (c, cz)]) (a := a) (b := b) ca cb (by simp) (by simp) F.meet _ HL.out).mono ?_
        rintro e w23 ⟨p23, c23, rfl, hz, hb⟩
        replace HL := hide (HL.out.put hz hb)
        clear hz hb
        go_wp2_with fail
        refine (MAt.orP (w := w) (L := [(p23, F.ME), (p22, F.LS), (p21, az), (p20, wholeL), (p19, []), (p18, F.OUT), (p17, F.OUT), (p16, az), (p15, F.NB), (p14, F.NA), (p13, F.Tz), (p12, F.CC), (p11, F.Oz), (p10, F.Rz), (p9, F.Lz), (p8, F.AC), (p7, F.BC), (p6, F.BC), (p5, F.AB), (p4, F.AB), (a, az), (b, bz), (c, cz)]) (a := p22) (b := p23) c22 c23 (by simp) (by simp) F.whole _ HL.out).mono ?_
        rintro e w24 ⟨p24, c24, rfl, hz, hb⟩
        replace HL := hide (HL.out.put hz hb)
        clear hz hb
        cases h5 : F.b5
        · skip
          go_wp2_with fail
          refine (MAt.sameP (w := w) (L := [(p24, F.Wz), (p23, F.ME), (p22, F.LS), (p21, az), (p20, wholeL), (p19, []), (p18, F.OUT), (p17, F.OUT), (p16, az), (p15, F.NB), (p14, F.NA), (p13, F.Tz), (p12, F.CC), (p11, F.Oz), (p10, F.Rz), (p9, F.Lz), (p8, F.AC), (p7, F.BC), (p6, F.BC), (p5, F.AB), (p4, F.AB), (a, az), (b, bz), (c, cz)]) (a := p21) (b := a) c21 ca (by simp) (by simp) rfl (by omega) _ HL.out).mono ?_
          rintro e wq ⟨rfl, hb⟩
          replace HL := hide (HL.out.now hb)
          clear hb
          go_wp2_with fail
          refine (HD.out _ HL.out.2).mono ?_
          rintro e we ⟨rfl, hb⟩
          have HB := hide hb
          clear hb HL HD
          go_wp2
          go_ret
          exact ⟨rfl, HB.out⟩
        · skip
          go_wp2_with fail
          refine (MAt.sameP (w := w) (L := [(p24, F.Wz), (p23, F.ME), (p22, F.LS), (p21, az), (p20, wholeL), (p19, []), (p18, F.OUT), (p17, F.OUT), (p16, az), (p15, F.NB), (p14, F.NA), (p13, F.Tz), (p12, F.CC), (p11, F.Oz), (p10, F.Rz), (p9, F.Lz), (p8, F.AC), (p7, F.BC), (p6, F.BC), (p5, F.AB), (p4, F.AB), (a, az), (b, bz), (c, cz)]) (a := p21) (b := a) c21 ca (by simp) (by simp) rfl (by omega) _ HL.out).mono ?_
          rintro e wq ⟨rfl, hb⟩
          replace HL := hide (HL.out.now hb)
          clear hb
          go_wp2_with fail
          refine (MAt.sameP (w := w) (L := [(p24, F.Wz), (p23, F.ME), (p22, F.LS), (p21, az), (p20, wholeL), (p19, []), (p18, F.OUT), (p17, F.OUT), (p16, az), (p15, F.NB), (p14, F.NA), (p13, F.Tz), (p12, F.CC), (p11, F.Oz), (p10, F.Rz), (p9, F.Lz), (p8, F.AC), (p7, F.BC), (p6, F.BC), (p5, F.AB), (p4, F.AB), (a, az), (b, bz), (c, cz)]) (a := p24) (b := a) c24 ca (by simp) (by simp) (F.f5 h5) (orV_len F.whole) _ HL.out).mono ?_
          rintro e wq ⟨rfl, hb⟩
          replace HL := hide (HL.out.now hb)
          clear hb
          go_wp2_with fail
          refine (HD.out _ HL.out.2).mono ?_
          rintro e we ⟨rfl, hb⟩
          have HB := hide hb
          clear hb HL HD
          go_wp2
          go_ret
          exact ⟨rfl, HB.out⟩

end Go.Proofs.Ytikfiofjhmeheaa
