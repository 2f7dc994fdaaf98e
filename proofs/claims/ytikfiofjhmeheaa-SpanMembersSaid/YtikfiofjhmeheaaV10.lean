/- The walk of SpanMembers. -/
import Derived.Test.YtikfiofjhmeheaaV11
import Derived.Deep.DeepCutAuto
namespace Go.Proofs.Ytikfiofjhmeheaa
open Go.RowKit Go.Sort

theorem in_keep {keep : Bool → Bool → Bool} (hk : keep false false = false) {xs ys : List Sp} (hx : SetS xs) (hy : SetS ys) (z : Int) : inB (combL keep xs ys) z = keep (inB xs z) (inB ys z) := by
  by_cases hz : wholeP z
  · exact inB_comb keep hx hy hz
  · have e1 : inB xs z = false := by
      cases e : inB xs z
      · rfl
      · exact absurd (hx.mem e) hz
    have e2 : inB ys z = false := by
      cases e : inB ys z
      · rfl
      · exact absurd (hy.mem e) hz
    rw [e1, e2, hk, inF]
    intro h
    have := ((combL_spec keep hx hy).2.1 z).1 h
    exact hz ⟨this.1, this.2.1⟩
theorem in_not {xs : List Sp} (hx : SetS xs) (z : Int) : inB (combL (fun p _ => !p) xs []) z = (decide (-1099511627776 ≤ z ∧ z < 1099511627776) && !inB xs z) := by
  rw [Bool.eq_iff_iff, inB_mem, (combL_spec _ hx nil_SetS).2.1 z]
  simp [and_assoc]

/-- lists az they stand, and nothing old has turned -/
def LAt (w W : World) (L : List (Option Addr × List Sp)) : Prop := AllAt W L ∧ Below w.heap.size w W
theorem LAt.now {w W W' : World} {L : List (Option Addr × List Sp)} (h : LAt w W L) (hb : Below W.heap.size W W') : LAt w W' L := ⟨h.1.now hb, h.2.trans (hb.mono h.2.size)⟩
theorem LAt.cons {w W : World} {L : List (Option Addr × List Sp)} {a : Option Addr} {zs : List Sp} (h : LAt w W L) (hz : SpansAt W.heap.size W a zs.length zs) : LAt w W ((a, zs) :: L) := ⟨h.1.cons hz, h.2⟩
theorem LAt.put {w W W' : World} {L : List (Option Addr × List Sp)} {a : Option Addr} {c : Nat} {zs : List Sp} (h : LAt w W L) (ho : W'.ownsRow W.heap.size 42 2 (.slice a zs.length c) zs.length (flat zs)) (hb : Below W.heap.size W W') : LAt w W' ((a, zs) :: L) :=
  (h.now hb).cons (spans_of_own ho rfl)
/-- has of one of the lists -/
theorem LAt.has {w : World} {L : List (Option Addr × List Sp)} {a : Option Addr} {zs : List Sp} (c : Nat) (x : Int) (hm : (a, zs) ∈ L) (hs : SetS zs) (hl : zs.length ≤ 128) {v : Bool} (hv : inB zs x = v) :
    ∀ W, LAt w W L → Calls Try.prog 58 #[.slice a zs.length c, .int .i64 x] W fun e w' => e = .returned (.bool v) ∧ Gr W w' := fun W h => by
  have := has_any a zs.length c x zs W (h.1.get a zs hm) (set_setB hs hl)
  rwa [hv] at this

set_option maxHeartbeats 8000000 in
set_option maxRecDepth 100000 in
theorem members_law (A A' : Option Addr) (n cap m cap' : Nat) (x y r : Int) (xs ys : List Sp) (w : World) (hx : SpansAt w.heap.size w A n xs) (hy : SpansAt w.heap.size w A' m ys) (hn : n ≤ maxLen) (hm : m ≤ maxLen) :
    Calls Try.prog 10 #[.slice A n cap, .slice A' m cap', .int .i64 x, .int .i64 y, .int .i64 r] w (LawPost w) := by
  have HX := hide hx
  have HY := hide hy
  have HN := hide hn
  have HM := hide hm
  have HD := hide (done w)
  clear hx hy hn hm
  go_enter Try.func10, Try.ntmps10
  go_wp2_with fail
  refine (sets_any A n cap xs w HX.out HN.out).mono ?_
  rintro e w2 ⟨az, sa, la, a, ca, rfl, h, hb⟩
  have HA2 := hide h
  have HY2 := hide (HY.out.now hb (Nat.le_refl _))
  have HB2 := hide hb
  clear h hb HX HY HN
  go_wp2_with fail
  refine (sets_any A' m cap' ys w2 HY2.out HM.out).mono ?_
  rintro e w3 ⟨bz, sb, lb, b, cb, rfl, h, hb⟩
  have HL : Hid (LAt w w3 [(a, az), (b, bz)]) := ⟨((AllAt.nil w3).cons h).cons (HA2.out.now hb (Nat.le_refl _)), HB2.out.trans (hb.mono HB2.out.size)⟩
  have SA := hide sa
  have SB := hide sb
  have LA := hide la
  have LB := hide lb
  clear h hb HA2 HY2 HB2 HM sa sb la lb
  -- the four sets
  have lu := or_length SA.out SB.out
  have li := and_length SA.out SB.out
  have ls := sub_length2 SA.out SB.out
  have ln := not_length SA.out
  have fu := com_fits (keep := fun p q => p || q) SA.out SB.out (by have := LA.out; omega) (by have := LB.out; omega) (by have := LA.out; have := LB.out; omega)
  have fi := com_fits (keep := fun p q => p && q) SA.out SB.out (by have := LA.out; omega) (by have := LB.out; omega) (by have := LA.out; have := LB.out; omega)
  have fs := com_fits (keep := fun p q => p && !q) SA.out SB.out (by have := LA.out; omega) (by have := LB.out; omega) (by have := LA.out; have := LB.out; omega)
  have fn := com_fits (keep := fun p _ => !p) SA.out nil_SetS (by have := LA.out; omega) (by simp) (by have := LA.out; omega)
  have iu := in_keep (keep := fun p q => p || q) rfl SA.out SB.out x
  have ii := in_keep (keep := fun p q => p && q) rfl SA.out SB.out x
  have is_ := in_keep (keep := fun p q => p && !q) rfl SA.out SB.out x
  have in_ := in_not SA.out x
  have su := hide (comb_set (fun p q => p || q) SA.out SB.out)
  have si := hide (comb_set (fun p q => p && q) SA.out SB.out)
  have ss := hide (comb_set (fun p q => p && !q) SA.out SB.out)
  have sn := hide (comb_set (fun p _ => !p) SA.out nil_SetS)
  have cu := Union_any a b az.length ca bz.length cb az bz w3 (HL.out.1.get a az (by simp)) (HL.out.1.get b bz (by simp))
  have ci := fun W (h : LAt w W ((a, az) :: [(b, bz)])) => Intersect_any a b az.length ca bz.length cb az bz W (h.1.get a az (by simp)) (h.1.get b bz (by simp))
  have cs := fun W (h : LAt w W ((a, az) :: [(b, bz)])) => Subtract_any a b az.length ca bz.length cb az bz W (h.1.get a az (by simp)) (h.1.get b bz (by simp))
  have cn := fun W (h : LAt w W ((a, az) :: [(b, bz)])) => Not_any a az.length ca az W (h.1.get a az (by simp))
  rw [fu.1, fu.2] at cu
  simp only [fi.1, fi.2] at ci
  simp only [fs.1, fs.2] at cs
  simp only [fn.1, fn.2] at cn
  have CU := hide cu
  have CI := hide ci
  have CS := hide cs
  have CN := hide cn
  have LU : Hid ((combL (fun p q => p || q) az bz).length ≤ 128) := by show _ ≤ _; have := LA.out; have := LB.out; omega
  have LI : Hid ((combL (fun p q => p && q) az bz).length ≤ 128) := by show _ ≤ _; have := LA.out; have := LB.out; omega
  have LS : Hid ((combL (fun p q => p && !q) az bz).length ≤ 128) := by show _ ≤ _; have := LA.out; have := LB.out; omega
  have LN : Hid ((combL (fun p _ => !p) az []).length ≤ 128) := by show _ ≤ _; have := LA.out; omega
  have IU := hide iu
  have II := hide ii
  have IS := hide is_
  have IN := hide in_
  clear lu li ls ln fu fi fs fn cu ci cs cn iu ii is_ in_
  generalize combL (fun p q => p || q) az bz = uz at CU LU IU su
  generalize combL (fun p q => p && q) az bz = iz at CI LI II si
  generalize combL (fun p q => p && !q) az bz = dz at CS LS IS ss
  generalize combL (fun p _ => !p) az [] = nz at CN LN IN sn
  go_wp2_with fail
  refine CU.out.mono ?_
  rintro e w4 ⟨u, cu, rfl, ho, hb⟩
  have HU := hide (spans_of_own ho rfl)
  have HL4 := hide (HL.out.now hb)
  clear ho hb HL CU
  go_wp2_with fail
  refine (CI.out _ HL4.out).mono ?_
  rintro e w5 ⟨i, ci, rfl, ho, hb⟩
  have HI := hide (spans_of_own ho rfl)
  have HU5 := hide (HU.out.now hb (Nat.le_refl _))
  have HL5 := hide (HL4.out.now hb)
  clear ho hb HL4 CI HU
  go_wp2_with fail
  refine (CS.out _ HL5.out).mono ?_
  rintro e w6 ⟨d, cd, rfl, ho, hb⟩
  have HDD := hide (spans_of_own ho rfl)
  have HU6 := hide (HU5.out.now hb (Nat.le_refl _))
  have HI6 := hide (HI.out.now hb (Nat.le_refl _))
  have HL6 := hide (HL5.out.now hb)
  clear ho hb HL5 CS HU5 HI
  go_wp2_with fail
  refine (CN.out _ HL6.out).mono ?_
  rintro e w7 ⟨t, ct, rfl, ho, hb⟩
  have HL7 : Hid (LAt w w7 [(t, nz), (d, dz), (i, iz), (u, uz), (a, az), (b, bz)]) :=
    ((((HL6.out.now hb).cons (HU6.out.now hb (Nat.le_refl _))).cons (HI6.out.now hb (Nat.le_refl _))).cons (HDD.out.now hb (Nat.le_refl _))).cons (spans_of_own ho rfl)
  clear ho hb HL6 CN HU6 HI6 HDD
  -- iz x within the whole?
  obtain ⟨ins, hins⟩ : ∃ ins, ins = decide (-1099511627776 ≤ x ∧ x < 1099511627776) := ⟨_, rfl⟩
  rw [← hins] at IN
  have HINS := hide hins
  clear hins
  go_upto_region 6 with fail
  go_cut [21] (fun s21 wx => s21 = .bool ins ∧ wx = w7)
  case first => as_aux_lemma =>
    by_cases h1 : -1099511627776 ≤ x
    · have g1 : decide (-1099511627776 ≤ x) = true := decide_eq_true h1
      by_cases h2 : x < 1099511627776
      · have g2 : decide (x < 1099511627776) = true := decide_eq_true h2
        have hi : ins = true := by rw [HINS.out]; exact decide_eq_true ⟨h1, h2⟩
        subst hi
        go_wp2_with fail
        go_meet
        exact ⟨rfl, rfl⟩
      · have g2 : decide (x < 1099511627776) = false := decide_eq_false h2
        have hi : ins = false := by rw [HINS.out]; exact decide_eq_false (fun h => h2 h.2)
        subst hi
        go_wp2_with fail
        go_meet
        exact ⟨rfl, rfl⟩
    · have g1 : decide (-1099511627776 ≤ x) = false := decide_eq_false h1
      have hi : ins = false := by rw [HINS.out]; exact decide_eq_false (fun h => h1 h.1)
      subst hi
      go_wp2_with fail
      go_meet
      exact ⟨rfl, rfl⟩
  case rest => as_aux_lemma =>
    obtain ⟨rfl, rfl⟩ := hcut
    obtain ⟨pa, hpa⟩ : ∃ pa, inB az x = pa := ⟨_, rfl⟩
    obtain ⟨pb, hpb⟩ : ∃ pb, inB bz x = pb := ⟨_, rfl⟩
    rw [hpa, hpb] at IU II IS
    rw [hpa] at IN
    have HPA := hide hpa
    have HPB := hide hpb
    have EA := hide (LAt.has (w := w) (L := [(t, nz), (d, dz), (i, iz), (u, uz), (a, az), (b, bz)]) (a := a) (zs := az) ca x (by simp) SA.out (by have := LA.out; omega) hpa)
    have EB := hide (LAt.has (w := w) (L := [(t, nz), (d, dz), (i, iz), (u, uz), (a, az), (b, bz)]) (a := b) (zs := bz) cb x (by simp) SB.out (by have := LB.out; omega) hpb)
    have EU := hide (LAt.has (w := w) (L := [(t, nz), (d, dz), (i, iz), (u, uz), (a, az), (b, bz)]) (a := u) (zs := uz) cu x (by simp) su.out LU.out IU.out)
    have EI := hide (LAt.has (w := w) (L := [(t, nz), (d, dz), (i, iz), (u, uz), (a, az), (b, bz)]) (a := i) (zs := iz) ci x (by simp) si.out LI.out II.out)
    have ES := hide (LAt.has (w := w) (L := [(t, nz), (d, dz), (i, iz), (u, uz), (a, az), (b, bz)]) (a := d) (zs := dz) cd x (by simp) ss.out LS.out IS.out)
    have EN := hide (LAt.has (w := w) (L := [(t, nz), (d, dz), (i, iz), (u, uz), (a, az), (b, bz)]) (a := t) (zs := nz) ct x (by simp) sn.out LN.out IN.out)
    have HOUT : Hid (ins = false → pa = false ∧ pb = false) := fun h => by
      have hw : ¬ wholeP x := by
        have h0 := HINS.out
        rw [h] at h0
        exact (show ¬ (-1099511627776 ≤ x ∧ x < 1099511627776) from of_decide_eq_false h0.symm)
      constructor
      · cases hh : pa
        · rfl
        · exact absurd (SA.out.mem (by rw [HPA.out, hh])) hw
      · cases hh : pb
        · rfl
        · exact absurd (SB.out.mem (by rw [HPB.out, hh])) hw
    clear hpa hpb IU II IS IN su si ss sn LU LI LS LN
    go_upto_region 7 with fail
    go_cut [126] (fun s126 wx => s126 = .bool false ∧ Hid (LAt w wx [(t, nz), (d, dz), (i, iz), (u, uz), (a, az), (b, bz)]))
    case first => as_aux_lemma =>
      have HL := HL7
      clear HL7
      cases ins
      · obtain ⟨rfl, rfl⟩ := HOUT.out rfl
        repeat (go_wp2_with fail; (first | (with_reducible refine (EU.out _ HL.out).mono ?_) | (with_reducible refine (EA.out _ HL.out).mono ?_) | (with_reducible refine (EB.out _ HL.out).mono ?_) | (with_reducible refine (EI.out _ HL.out).mono ?_) | (with_reducible refine (ES.out _ HL.out).mono ?_) | (with_reducible refine (EN.out _ HL.out).mono ?_)); rintro e wq ⟨rfl, hG⟩; replace HL := hide (HL.out.now hG.below); clear hG)
        go_wp2_with fail
        go_meet
        exact ⟨rfl, HL⟩
      · cases pa <;> cases pb
        all_goals
          repeat (go_wp2_with fail; (first | (with_reducible refine (EU.out _ HL.out).mono ?_) | (with_reducible refine (EA.out _ HL.out).mono ?_) | (with_reducible refine (EB.out _ HL.out).mono ?_) | (with_reducible refine (EI.out _ HL.out).mono ?_) | (with_reducible refine (ES.out _ HL.out).mono ?_) | (with_reducible refine (EN.out _ HL.out).mono ?_)); rintro e wq ⟨rfl, hG⟩; replace HL := hide (HL.out.now hG.below); clear hG)
          go_wp2_with fail
          go_meet
          exact ⟨rfl, HL⟩
    case rest => as_aux_lemma =>
      obtain ⟨rfl, HL⟩ := hcut
      clear EU EB EI ES EN HL7 HPB HOUT
      by_cases c1 : r < 0
      · have d1 : decide (r < 0) = true := decide_eq_true c1
        go_wp2_with fail
        refine (HD.out _ HL.out.2).mono ?_
        rintro e w9 ⟨rfl, hb⟩
        have HB := hide hb
        clear hb HL HD
        go_wp2
        go_ret
        exact ⟨rfl, HB.out⟩
      have d1 : decide (r < 0) = false := decide_eq_false c1
      by_cases c2 : r > 1099511627776
      · have d2 : decide (1099511627776 < r) = true := decide_eq_true c2
        go_wp2_with fail
        refine (HD.out _ HL.out.2).mono ?_
        rintro e w9 ⟨rfl, hb⟩
        have HB := hide hb
        clear hb HL HD
        go_wp2
        go_ret
        exact ⟨rfl, HB.out⟩
      have d2 : decide (1099511627776 < r) = false := decide_eq_false c2
      have hr : 0 ≤ r ∧ r ≤ 1099511627776 := by omega
      cases ins
      · clear EA
        go_wp2_with fail
        refine (HD.out _ HL.out.2).mono ?_
        rintro e w9 ⟨rfl, hb⟩
        have HB := hide hb
        clear hb HL HD
        go_wp2
        go_ret
        exact ⟨rfl, HB.out⟩
      have hw : -1099511627776 ≤ x ∧ x < 1099511627776 := of_decide_eq_true HINS.out.symm
      by_cases c3 : y < -1099511627776
      · have d3 : decide (y < -1099511627776) = true := decide_eq_true c3
        clear EA
        go_wp2_with fail
        refine (HD.out _ HL.out.2).mono ?_
        rintro e w9 ⟨rfl, hb⟩
        have HB := hide hb
        clear hb HL HD
        go_wp2
        go_ret
        exact ⟨rfl, HB.out⟩
      have d3 : decide (y < -1099511627776) = false := decide_eq_false c3
      by_cases c4 : 1099511627776 ≤ y
      · have d4 : decide (1099511627776 ≤ y) = true := decide_eq_true c4
        clear EA
        go_wp2_with fail
        refine (HD.out _ HL.out.2).mono ?_
        rintro e w9 ⟨rfl, hb⟩
        have HB := hide hb
        clear hb HL HD
        go_wp2
        go_ret
        exact ⟨rfl, HB.out⟩
      have d4 : decide (1099511627776 ≤ y) = false := decide_eq_false c4
      obtain ⟨M, hM⟩ : ∃ M, M = max x y := ⟨_, rfl⟩
      obtain ⟨Z, hZ⟩ : ∃ Z, Z = min x y := ⟨_, rfl⟩
      have m1 : (if x < y then y else x) = M := by omega
      have m2 : (if y < x then y else x) = Z := by omega
      have HMZ := hide (And.intro hM hZ)
      have b1 : -1099511627776 ≤ M ∧ M < 1099511627776 := by omega
      have b2 : -1099511627776 ≤ Z ∧ Z < 1099511627776 := by omega
      obtain ⟨b11, b12⟩ := b1
      obtain ⟨b21, b22⟩ := b2
      obtain ⟨hw1, hw2⟩ := hw
      obtain ⟨hr1, hr2⟩ := hr
      clear hM hZ
      by_cases c5 : r < M - Z
      · have d5 : decide (r < M - Z) = true := decide_eq_true c5
        clear EA
        go_wp2_with fail
        refine (HD.out _ HL.out.2).mono ?_
        rintro e w9 ⟨rfl, hb⟩
        have HB := hide hb
        clear hb HL HD
        go_wp2
        go_ret
        exact ⟨rfl, HB.out⟩
      have d5 : decide (r < M - Z) = false := decide_eq_false c5
      obtain ⟨hg1, hg2⟩ := grow_spec SA.out hr1
      obtain ⟨hs1, hs2⟩ := shrink_spec SA.out hr1
      have tg := tol_good SA.out (by have := LA.out; omega) ⟨hr1, hr2⟩ (growF r)
      have ts := tol_good SA.out (by have := LA.out; omega) ⟨hr1, hr2⟩ (shrinkF r)
      have lg := resTo_length (growF r) az
      have ls := resTo_length (shrinkF r) az
      have hxy : x - r ≤ y ∧ y ≤ x + r := by have := HMZ.out; omega
      have G1 : Hid (pa = true → inB (resTo (growF r) az) y = true) := fun h => (inB_mem _ _).2 ((hg2 y).2 ⟨by omega, by omega, x, (inB_mem _ _).1 (by rw [HPA.out, h]), by omega, by omega⟩)
      have G2 : Hid (inB (resTo (shrinkF r) az) x = true → inB az y = true) := fun h => (inB_mem _ _).2 (((hs2 x).1 ((inB_mem _ _).1 h)).2.2 y (by omega) (by omega) (by omega) (by omega))
      have CG := fun W (h : LAt w W [(t, nz), (d, dz), (i, iz), (u, uz), (a, az), (b, bz)]) => Grow_any a az.length ca r az W (h.1.get a az (by simp))
      have CS := fun W (h : LAt w W [(t, nz), (d, dz), (i, iz), (u, uz), (a, az), (b, bz)]) => Shrink_any a az.length ca r az W (h.1.get a az (by simp))
      simp only [tg.1, tg.2] at CG
      simp only [ts.1, ts.2] at CS
      have CG2 := hide CG
      have CS2 := hide CS
      have SG := hide hg1
      have SS := hide hs1
      have LG := hide (show (resTo (growF r) az).length ≤ 128 by have := LA.out; omega)
      have LSS := hide (show (resTo (shrinkF r) az).length ≤ 128 by have := LA.out; omega)
      clear hg1 hg2 hs1 hs2 tg ts lg ls CG CS
      generalize resTo (growF r) az = gz at CG2 G1 SG LG
      generalize resTo (shrinkF r) az = sz at CS2 G2 SS LSS
      go_wp2_with fail
      refine (CG2.out _ HL.out).mono ?_
      rintro e w8 ⟨g, cg, rfl, ho, hb⟩
      have HG8 := hide (spans_of_own ho rfl)
      have HL8 := hide (HL.out.now hb)
      clear ho hb HL CG2
      go_wp2_with fail
      refine (CS2.out _ HL8.out).mono ?_
      rintro e w9 ⟨s, cs, rfl, ho, hb⟩
      have HL : Hid (LAt w w9 [(s, sz), (g, gz), (t, nz), (d, dz), (i, iz), (u, uz), (a, az), (b, bz)]) := ((HL8.out.now hb).cons (HG8.out.now hb (Nat.le_refl _))).cons (spans_of_own ho rfl)
      clear ho hb HL8 HG8 CS2 EA
      obtain ⟨gy, hgy⟩ : ∃ gy, inB gz y = gy := ⟨_, rfl⟩
      obtain ⟨sx, hsx⟩ : ∃ sx, inB sz x = sx := ⟨_, rfl⟩
      obtain ⟨ay, hay⟩ : ∃ ay, inB az y = ay := ⟨_, rfl⟩
      rw [hgy] at G1
      rw [hsx, hay] at G2
      have EA := hide (LAt.has (w := w) (L := [(s, sz), (g, gz), (t, nz), (d, dz), (i, iz), (u, uz), (a, az), (b, bz)]) (a := a) (zs := az) ca x (by simp) SA.out (by have := LA.out; omega) HPA.out)
      have EG := hide (LAt.has (w := w) (L := [(s, sz), (g, gz), (t, nz), (d, dz), (i, iz), (u, uz), (a, az), (b, bz)]) (a := g) (zs := gz) cg y (by simp) SG.out LG.out hgy)
      have ES := hide (LAt.has (w := w) (L := [(s, sz), (g, gz), (t, nz), (d, dz), (i, iz), (u, uz), (a, az), (b, bz)]) (a := s) (zs := sz) cs x (by simp) SS.out LSS.out hsx)
      have EY := hide (LAt.has (w := w) (L := [(s, sz), (g, gz), (t, nz), (d, dz), (i, iz), (u, uz), (a, az), (b, bz)]) (a := a) (zs := az) ca y (by simp) SA.out (by have := LA.out; omega) hay)
      clear hgy hsx hay HPA SG SS LG LSS
      have hpa : pa = false ∨ (pa = true ∧ gy = true) := by cases pa; exact .inl rfl; exact .inr ⟨rfl, G1.out rfl⟩
      have hsy : sx = false ∨ (sx = true ∧ ay = true) := by cases sx; exact .inl rfl; exact .inr ⟨rfl, G2.out rfl⟩
      clear G1 G2
      rcases hpa with rfl | ⟨rfl, rfl⟩ <;> rcases hsy with rfl | ⟨rfl, rfl⟩
      all_goals
        repeat (go_wp2_with fail; (first | (with_reducible refine (EG.out _ HL.out).mono ?_) | (with_reducible refine (EA.out _ HL.out).mono ?_) | (with_reducible refine (ES.out _ HL.out).mono ?_) | (with_reducible refine (EY.out _ HL.out).mono ?_)); rintro e wq ⟨rfl, hG⟩; replace HL := hide (HL.out.now hG.below); clear hG)
        go_wp2_with fail
        refine (HD.out _ HL.out.2).mono ?_
        rintro e w10 ⟨rfl, hb⟩
        have HB := hide hb
        clear hb HL HD
        go_wp2
        go_ret
        exact ⟨rfl, HB.out⟩

end Go.Proofs.Ytikfiofjhmeheaa
