/- The walk of SpanAdjoint. -/
import Derived.Test.YtikfiofjhmeheaaN18
import Derived.Test.YtikfiofjhmeheaaN9
namespace Go.Proofs.Ytikfiofjhmeheaa
open Go.RowKit Go.Sort

/-- lists of spans az they stand in W -/
def AllAt (W : World) (L : List (Option Addr × List Sp)) : Prop := ∀ p ∈ L, SpansAt W.heap.size W p.1 p.2.length p.2
theorem AllAt.now {W W' : World} {L : List (Option Addr × List Sp)} (h : AllAt W L) (hb : Below W.heap.size W W') : AllAt W' L := fun p hp => (h p hp).now hb (Nat.le_refl _)
theorem AllAt.cons {W : World} {L : List (Option Addr × List Sp)} {a : Option Addr} {zs : List Sp} (h : AllAt W L) (hz : SpansAt W.heap.size W a zs.length zs) : AllAt W ((a, zs) :: L) := fun p hp => by
  rcases List.mem_cons.1 hp with rfl | hp
  · exact hz
  · exact h p hp
theorem AllAt.get {W : World} {L : List (Option Addr × List Sp)} (h : AllAt W L) (a : Option Addr) (zs : List Sp) (hm : (a, zs) ∈ L) : SpansAt W.heap.size W a zs.length zs := h _ hm
theorem AllAt.nil (W : World) : AllAt W [] := fun p hp => by cases hp

def Done (w : World) : Prop := ∀ W, Below w.heap.size w W → Calls Try.prog 16 #[] W fun e w' => e = .returned (.bool true) ∧ Below w.heap.size w w'
theorem done (w : World) : Done w := fun W hb => (alive_any W).mono fun _ _ ⟨he, h⟩ => ⟨he, hb.trans (h.mono hb.size)⟩

set_option maxHeartbeats 4000000 in
set_option maxRecDepth 100000 in
theorem adjoint_law (A A' : Option Addr) (n cap m cap' : Nat) (r q : Int) (xs ys : List Sp) (w : World) (hx : SpansAt w.heap.size w A n xs) (hy : SpansAt w.heap.size w A' m ys) (hn : n ≤ maxLen) (hm : m ≤ maxLen) :
    Calls Try.prog 11 #[.slice A n cap, .slice A' m cap', .int .i64 r, .int .i64 q] w (LawPost w) := by
  have HX := hide hx
  have HY := hide hy
  have HN := hide hn
  have HM := hide hm
  have HD := hide (done w)
  clear hx hy hn hm
  go_enter Try.func11, Try.ntmps11
  go_wp2_with fail
  refine (sets_any A n cap xs w HX.out HN.out).mono ?_
  rintro e w2 ⟨az, sa, la, a, ca, rfl, h, hb⟩
  have HA2 := hide h
  have HY2 := hide (HY.out.now hb (Nat.le_refl _))
  have HB2 := hide hb
  clear h hb HX HY HN
  go_wp2_with fail
  refine (sets_any A' m cap' ys w2 HY2.out HM.out).mono ?_
  rintro e w3 ⟨bz, sb, lb, b, cb, rfl, h, hb⟩
  have HL3 := hide (((AllAt.nil w3).cons h).cons (HA2.out.now hb (Nat.le_refl _)))
  have HB3 := hide (HB2.out.trans (hb.mono HB2.out.size))
  have SA := hide sa
  have SB := hide sb
  clear h hb HA2 HY2 HB2 HM sa sb
  by_cases hr : 0 ≤ r ∧ r ≤ 1099511627776
  · have ha := tol_good SA.out (by omega) hr (growF r)
    have hs := tol_good SB.out (by omega) hr (shrinkF r)
    obtain ⟨hg1, -⟩ := grow_spec SA.out hr.1
    obtain ⟨hs1, -⟩ := shrink_spec SB.out hr.1
    have lg := resTo_length (growF r) az
    have ls := resTo_length (shrinkF r) bz
    have HADJ := hide (adjoint SA.out SB.out hr.1)
    have HTG : Hid (∀ q, 0 ≤ q → resTo (growF q) (resTo (growF r) az) = resTo (growF (r + q)) az) := fun q hq => grow_twice SA.out hr.1 hq
    have HTS : Hid (∀ q, 0 ≤ q → resTo (shrinkF q) (resTo (shrinkF r) bz) = resTo (shrinkF (r + q)) bz) := fun q hq => shrink_twice SB.out hr.1 hq
    have SG := hide hg1
    have SS := hide hs1
    go_wp2_with fail
    refine (Grow_any a az.length ca r az w3 (HL3.out.get a az (by simp))).mono ?_
    rintro e w4 ⟨g, cg, rfl, ho, hb⟩
    rw [ha.1, ha.2]
    rw [ha.2] at ho
    have HL4 := hide ((HL3.out.now hb).cons (spans_of_own ho rfl))
    have HB4 := hide (HB3.out.trans (hb.mono HB3.out.size))
    clear ho hb HL3 HB3 ha hg1
    generalize resTo (growF r) az = gz at HL4 HADJ HTG SG lg ⊢
    go_wp2_with fail
    refine (Shrink_any b bz.length cb r bz w4 (HL4.out.get b bz (by simp))).mono ?_
    rintro e w5 ⟨s, cs, rfl, ho, hb⟩
    rw [hs.1, hs.2]
    rw [hs.2] at ho
    have HL5 := hide ((HL4.out.now hb).cons (spans_of_own ho rfl))
    have HB5 := hide (HB4.out.trans (hb.mono HB4.out.size))
    clear ho hb HL4 HB4 hs hs1
    generalize resTo (shrinkF r) bz = ss at HL5 HADJ HTS SS ls ⊢
    go_wp2_with fail
    refine (within_any g b gz.length cg bz.length cb gz bz w5 (HL5.out.get g gz (by simp)) (HL5.out.get b bz (by simp)) SG.out SB.out (by omega) (by omega)).mono ?_
    rintro e w6 ⟨rfl, hb⟩
    have HL6 := hide (HL5.out.now hb)
    have HB6 := hide (HB5.out.trans (hb.mono HB5.out.size))
    clear hb HL5 HB5
    rw [HADJ.out]
    go_wp2_with fail
    refine (within_any a s az.length ca ss.length cs az ss w6 (HL6.out.get a az (by simp)) (HL6.out.get s ss (by simp)) SA.out SS.out (by omega) (by omega)).mono ?_
    rintro e w7 ⟨rfl, hb⟩
    have HL7 := hide (HL6.out.now hb)
    have HB7 := hide (HB6.out.trans (hb.mono HB6.out.size))
    clear hb HL6 HB6 HADJ
    have hbb : (inAll az ss != inAll az ss) = false := by simp
    generalize inAll az ss = bb at hbb ⊢
    go_wp2_with fail
    refine (Grow_any g gz.length cg q gz w7 (HL7.out.get g gz (by simp))).mono ?_
    rintro e w8 ⟨o, co, rfl, ho, hb⟩
    by_cases hq : 0 ≤ q ∧ q ≤ 1099511627776
    · have h1 := tol_good SG.out (by omega) hq (growF q)
      rw [h1.1, h1.2]
      rw [h1.2, HTG.out q hq.1] at ho
      rw [HTG.out q hq.1]
      obtain ⟨q1, q2⟩ := hq
      obtain ⟨r1, r2⟩ := hr
      by_cases hs : r + q > 1099511627776
      · have HB8 := hide (HB7.out.trans (hb.mono HB7.out.size))
        clear ho hb HL7 HB7 h1
        go_wp2_with fail
        refine (HD.out _ HB8.out).mono ?_
        rintro e w9 ⟨rfl, hb⟩
        have HB := hide hb
        clear hb HB8 HD
        go_wp2
        go_ret
        exact ⟨rfl, HB.out⟩
      · have HL8 := hide ((HL7.out.now hb).cons (spans_of_own ho rfl))
        have HB8 := hide (HB7.out.trans (hb.mono HB7.out.size))
        have h2 := tol_good SA.out (by omega) (show 0 ≤ r + q ∧ r + q ≤ 1099511627776 by omega) (growF (r + q))
        have h3 := tol_good SS.out (by omega) (show 0 ≤ q ∧ q ≤ 1099511627776 by omega) (shrinkF q)
        have h4 := tol_good SB.out (by omega) (show 0 ≤ r + q ∧ r + q ≤ 1099511627776 by omega) (shrinkF (r + q))
        rw [HTS.out q q1] at h3
        have l1 := resTo_length (growF (r + q)) az
        have l2 := resTo_length (shrinkF (r + q)) bz
        have H2 := hide h2
        have H3 := hide h3
        have H4 := hide h4
        clear ho hb HL7 HB7 h1 h2 h3 h4 HTG HTS
        go_wp2_with fail
        refine (Grow_any a az.length ca (r + q) az w8 (HL8.out.get a az (by simp))).mono ?_
        rintro e w9 ⟨t, ct, rfl, ho, hb⟩
        rw [H2.out.1, H2.out.2]
        rw [H2.out.2] at ho
        have HL9 := hide ((HL8.out.now hb).cons (spans_of_own ho rfl))
        have HB9 := hide (HB8.out.trans (hb.mono HB8.out.size))
        clear ho hb HL8 HB8 H2
        generalize resTo (growF (r + q)) az = ts at HL9 l1 ⊢
        go_wp2_with fail
        refine (Shrink_any s ss.length cs q ss w9 (HL9.out.get s ss (by simp))).mono ?_
        rintro e w10 ⟨u, cu, rfl, ho, hb⟩
        rw [H3.out.1, H3.out.2]
        rw [H3.out.2] at ho
        have HL10 := hide ((HL9.out.now hb).cons (spans_of_own ho rfl))
        have HB10 := hide (HB9.out.trans (hb.mono HB9.out.size))
        clear ho hb HL9 HB9 H3
        go_wp2_with fail
        refine (Shrink_any b bz.length cb (r + q) bz w10 (HL10.out.get b bz (by simp))).mono ?_
        rintro e w11 ⟨v, cv, rfl, ho, hb⟩
        rw [H4.out.1, H4.out.2]
        rw [H4.out.2] at ho
        have HL11 := hide ((HL10.out.now hb).cons (spans_of_own ho rfl))
        have HB11 := hide (HB10.out.trans (hb.mono HB10.out.size))
        clear ho hb HL10 HB10 H4
        generalize resTo (shrinkF (r + q)) bz = vs at HL11 l2 ⊢
        have s1 := fun W (h : AllAt W [(v, vs), (u, vs), (t, ts), (o, ts), (s, ss), (g, gz), (a, az), (b, bz)]) => same_any o t ts.length co ts.length ct ts ts W (h.get o ts (by simp)) (h.get t ts (by simp)) (by omega) (by omega)
        have s2 := fun W (h : AllAt W [(v, vs), (u, vs), (t, ts), (o, ts), (s, ss), (g, gz), (a, az), (b, bz)]) => same_any u v vs.length cu vs.length cv vs vs W (h.get u vs (by simp)) (h.get v vs (by simp)) (by omega) (by omega)
        rw [decide_eq_true rfl] at s1 s2
        have S1 := hide s1
        have S2 := hide s2
        clear s1 s2
        go_wp2_with fail
        refine (S1.out _ HL11.out).mono ?_
        rintro e w12 ⟨rfl, k1, rfl⟩
        have hb := drewN_below w11 k1
        have HL12 := hide (HL11.out.now hb)
        have HB12 := hide (HB11.out.trans (hb.mono HB11.out.size))
        clear hb HL11 HB11
        generalize w11.drewN k1 = w12 at HL12 HB12 ⊢
        go_wp2_with fail
        refine (S2.out _ HL12.out).mono ?_
        rintro e w13 ⟨rfl, k2, rfl⟩
        have hb := drewN_below w12 k2
        have HB13 := hide (HB12.out.trans (hb.mono HB12.out.size))
        clear hb HL12 HB12 S1 S2
        generalize w12.drewN k2 = w13 at HB13 ⊢
        go_wp2_with fail
        refine (HD.out _ HB13.out).mono ?_
        rintro e w14 ⟨rfl, hb⟩
        have HB := hide hb
        clear hb HB13 HD
        go_wp2
        go_ret
        exact ⟨rfl, HB.out⟩
    · have h1 := tol_bad (xs := gz) hq (growF q)
      rw [h1.1, h1.2]
      have HB8 := hide (HB7.out.trans (hb.mono HB7.out.size))
      clear ho hb HL7 HB7 h1
      go_wp2_with fail
      refine (HD.out _ HB8.out).mono ?_
      rintro e w9 ⟨rfl, hb⟩
      have HB := hide hb
      clear hb HB8 HD
      go_wp2
      go_ret
      exact ⟨rfl, HB.out⟩
  · have ha := tol_bad (xs := az) hr (growF r)
    have hs := tol_bad (xs := bz) hr (shrinkF r)
    go_wp2_with fail
    refine (Grow_any a az.length ca r az w3 (HL3.out.get a az (by simp))).mono ?_
    rintro e w4 ⟨g, cg, rfl, ho, hb⟩
    rw [ha.1, ha.2]
    have HL4 := hide (HL3.out.now hb)
    have HB4 := hide (HB3.out.trans (hb.mono HB3.out.size))
    clear ho hb HL3 HB3 ha
    go_wp2_with fail
    refine (Shrink_any b bz.length cb r bz w4 (HL4.out.get b bz (by simp))).mono ?_
    rintro e w5 ⟨s, cs, rfl, ho, hb⟩
    rw [hs.1, hs.2]
    have HB5 := hide (HB4.out.trans (hb.mono HB4.out.size))
    clear ho hb HL4 HB4 hs
    by_cases h0 : r < 0
    · clear hr
      go_wp2_with fail
      refine (HD.out _ HB5.out).mono ?_
      rintro e w9 ⟨rfl, hb⟩
      have HB := hide hb
      clear hb HB5 HD
      go_wp2
      go_ret
      exact ⟨rfl, HB.out⟩
    · have h1 : r > 1099511627776 := by omega
      clear hr
      go_wp2_with fail
      refine (HD.out _ HB5.out).mono ?_
      rintro e w9 ⟨rfl, hb⟩
      have HB := hide hb
      clear hb HB5 HD
      go_wp2
      go_ret
      exact ⟨rfl, HB.out⟩

end Go.Proofs.Ytikfiofjhmeheaa
