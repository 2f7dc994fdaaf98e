/- The walk of the law on joins. -/
import Derived.Test.YtdepnhnpklbmiaaC0
import Derived.Test.YtdepnhnpklbmiaaF0
namespace Go.Proofs.Ytdepnhnpklbmiaa
open Go.RowKit Go.Sort

theorem CuPost.box2 {c : Cu} {e0 : Int} {w : World} {e : Ending} {w' : World} (h : CuPost (c, e0) w e w') (hn : c.sl.length ≤ 64) :
    ∃ A n cap, e = .returned (.tuple #[.agg #[.int .i64 c.fr, .int .i64 c.fst, .slice A n cap], .int .i64 e0]) ∧ Below w.heap.size w w' ∧ Box (w'.alloc (.cells #[.int .i64 c.fr, .int .i64 c.fst, .slice A n cap] 24)) w'.heap.size c A n cap := CuPost.box (v := (c, e0)) h hn

set_option maxHeartbeats 8000000 in
set_option maxRecDepth 100000 in
theorem joins_law (a b c : Cu) (A1 : Option Addr) (n1 k1 : Nat) (A2 : Option Addr) (n2 k2 : Nat) (A3 : Option Addr) (n3 k3 : Nat) (x y : Int) (w : World)
    (ha : CuAt w.heap.size w a A1 n1 k1) (hb : CuAt w.heap.size w b A2 n2 k2) (hc : CuAt w.heap.size w c A3 n3 k3) (h1 : n1 ≤ 9223372036854775807) (h2 : n2 ≤ 9223372036854775807) (h3 : n3 ≤ 9223372036854775807) :
    Calls Try.prog 8 #[.agg #[.int .i64 a.fr, .int .i64 a.fst, .slice A1 n1 k1], .agg #[.int .i64 b.fr, .int .i64 b.fst, .slice A2 n2 k2], .agg #[.int .i64 c.fr, .int .i64 c.fst, .slice A3 n3 k3], .int .i64 x, .int .i64 y] w (LawPost w) := by
  have mixed := mixedOrders
  obtain ⟨p, hp⟩ : ∃ p, w.heap.size = p := ⟨_, rfl⟩
  obtain ⟨W1, hW1⟩ : ∃ W1, ((w.alloc (.cells #[.int .i64 a.fr, .int .i64 a.fst, .slice A1 n1 k1] 24)).alloc (.cells #[.int .i64 b.fr, .int .i64 b.fst, .slice A2 n2 k2] 24)).alloc (.cells #[.int .i64 c.fr, .int .i64 c.fst, .slice A3 n3 k3] 24) = W1 := ⟨_, rfl⟩
  have hXa : Box W1 p a A1 n1 k1 := by
    rw [← hW1, ← hp]
    exact ((box_new ha h1).gr ((Gr.refl _).alloc _)).gr ((Gr.refl _).alloc _)
  have hXb : Box W1 (p + 1) b A2 n2 k2 := by
    rw [← hW1, ← hp]
    have h := (box_new (hb.gr ((Gr.refl w).alloc (.cells #[.int .i64 a.fr, .int .i64 a.fst, .slice A1 n1 k1] 24))) h2).gr ((Gr.refl _).alloc (.cells #[.int .i64 c.fr, .int .i64 c.fst, .slice A3 n3 k3] 24))
    rw [World.size_alloc] at h
    exact h
  have hXc : Box W1 (p + 1 + 1) c A3 n3 k3 := by
    rw [← hW1, ← hp]
    have h := box_new ((hc.gr ((Gr.refl w).alloc (.cells #[.int .i64 a.fr, .int .i64 a.fst, .slice A1 n1 k1] 24))).gr ((Gr.refl _).alloc (.cells #[.int .i64 b.fr, .int .i64 b.fst, .slice A2 n2 k2] 24))) h3
    rw [World.size_alloc, World.size_alloc] at h
    exact h
  have HB : Hid (Below w.heap.size w W1) := by show Below _ _ _; rw [← hW1]; exact ((((Gr.refl w).alloc _).alloc _).alloc _).below
  have HXa := hide hXa
  have HXb := hide hXb
  have HXc := hide hXc
  clear hXa hXb hXc ha hb hc
  obtain ⟨⟨ab, e1⟩, hj1⟩ : ∃ q, joinV a b = q := ⟨_, rfl⟩
  have HE1 := hide hj1
  have HJ := hide (Join_any a b A1 n1 k1 A2 n2 k2 W1 HXa.out.cu HXb.out.cu HXa.out.big HXb.out.big)
  rw [hj1] at HJ
  have hl1 : ab.sl.length ≤ 64 := by have := joinV_len a b; rw [hj1] at this; exact this
  have HJ2 := hide (fun W' (hh : Below W1.heap.size W1 W') => Join_any b a A2 n2 k2 A1 n1 k1 W' (HXb.out.below hh).cu (HXa.out.below hh).cu HXb.out.big HXa.out.big)
  rw [← joinV_comm, hj1] at HJ2
  obtain ⟨a0, a1, a2⟩ := HXa.out.cells
  obtain ⟨b0, b1, b2⟩ := HXb.out.cells
  clear hj1
  go_enter Try.func8, Try.ntmps8
  go_wp2_with fail
  try rw [hp]
  refine HJ.out.mono ?_
  rintro e w2 hpost
  obtain ⟨A4, n4, k4, rfl, hb2, hX4⟩ := hpost.box2 hl1

  obtain ⟨W2, hW2⟩ : ∃ W, w2.alloc (.cells #[.int .i64 ab.fr, .int .i64 ab.fst, .slice A4 n4 k4] 24) = W := ⟨_, rfl⟩
  obtain ⟨g4, hg4⟩ : ∃ q, w2.heap.size = q := ⟨_, rfl⟩
  rw [hW2, hg4] at hX4
  have hb2' : Below W1.heap.size W1 W2 := by rw [← hW2]; exact hb2.alloc hb2.size _
  have HBW2 := hide (HB.out.trans (hb2'.mono HB.out.size))
  have HXaW2 := hide (HXa.out.below hb2')
  have HXbW2 := hide (HXb.out.below hb2')
  have HXcW2 := hide (HXc.out.below hb2')
  have HX4 := hide hX4
  have HJ3 := hide (HJ2.out W2 hb2')
  clear HJ HJ2 hb2 hb2' hX4 HXa HXb HXc HB hpost a0 a1 a2 b0 b1 b2
  obtain ⟨a0, a1, a2⟩ := HXaW2.out.cells
  obtain ⟨b0, b1, b2⟩ := HXbW2.out.cells
  go_wp2_with fail
  refine HJ3.out.mono ?_
  rintro e w3 hpost
  obtain ⟨A5, n5, k5, rfl, hb3, hX5⟩ := hpost.box2 hl1

  obtain ⟨W3, hW3⟩ : ∃ W, w3.alloc (.cells #[.int .i64 ab.fr, .int .i64 ab.fst, .slice A5 n5 k5] 24) = W := ⟨_, rfl⟩
  obtain ⟨g5, hg5⟩ : ∃ q, w3.heap.size = q := ⟨_, rfl⟩
  rw [hW3, hg5] at hX5
  have hb3' : Below W2.heap.size W2 W3 := by rw [← hW3]; exact hb3.alloc hb3.size _
  have HB3 := hide (HBW2.out.trans (hb3'.mono HBW2.out.size))
  have HXa3 := hide (HXaW2.out.below hb3')
  have HXb3 := hide (HXbW2.out.below hb3')
  have HXc3 := hide (HXcW2.out.below hb3')
  have HX43 := hide (HX4.out.below hb3')
  have HX5 := hide hX5
  have HL := hide (alike_any ab ab A4 n4 k4 A5 n5 k5 W3 HX43.out.cu.sl HX5.out.cu.sl HX43.out.big HX5.out.big)
  rw [likeB_refl] at HL
  clear HJ3 hb3 hb3' hX5 HXaW2 HXbW2 HXcW2 HX4 HBW2 hpost a0 a1 a2 b0 b1 b2
  obtain ⟨a0, a1, a2⟩ := HX43.out.cells
  obtain ⟨b0, b1, b2⟩ := HX5.out.cells
  go_wp2_with fail
  refine HL.out.mono ?_
  rintro e w4 ⟨rfl, hG4⟩
  have HB4 := hide (HB3.out.trans (hG4.below.mono HB3.out.size))
  have HXa4 := hide (HXa3.out.gr hG4)
  have HXb4 := hide (HXb3.out.gr hG4)
  have HXc4 := hide (HXc3.out.gr hG4)
  have HX44 := hide (HX43.out.gr hG4)
  have hne : (e1 != e1) = false := by simp
  clear HL hG4 HXa3 HXb3 HXc3 HX43 HX5 HB3 a0 a1 a2 b0 b1 b2 hW3 hg5 hW2 hg4
  obtain ⟨a0, a1, a2⟩ := HXa4.out.cells
  obtain ⟨b0, b1, b2⟩ := HXb4.out.cells
  obtain ⟨c0, c1, c2⟩ := HXc4.out.cells
  obtain ⟨d0, d1, d2⟩ := HX44.out.cells

  by_cases h0 : e1 = 0
  · subst h0
    obtain ⟨hva, hvb, hab, hvab⟩ := joinV_zero HE1.out rfl
    have HVA := hide hva
    have HVB := hide hvb
    have HVAB := hide hvab
    have HABE := hide hab
    obtain ⟨⟨l, e2⟩, hj2⟩ : ∃ q, joinV ab c = q := ⟨_, rfl⟩
    obtain ⟨⟨bc, e3⟩, hj3⟩ : ∃ q, joinV b c = q := ⟨_, rfl⟩
    obtain ⟨⟨r, e4⟩, hj4⟩ : ∃ q, joinV a bc = q := ⟨_, rfl⟩
    have hl2 : l.sl.length ≤ 64 := by have := joinV_len ab c; rw [hj2] at this; exact this
    have hl3 : bc.sl.length ≤ 64 := by have := joinV_len b c; rw [hj3] at this; exact this
    have hl4 : r.sl.length ≤ 64 := by have := joinV_len a bc; rw [hj4] at this; exact this
    have HE2 := hide hj2
    have HE3 := hide hj3
    have HE4 := hide hj4
    have HJ4 := hide (Join_any ab c A4 n4 k4 A3 n3 k3 w4 HX44.out.cu HXc4.out.cu HX44.out.big HXc4.out.big)
    rw [hj2] at HJ4
    have HJ5 := hide (fun W' (hh : Below w4.heap.size w4 W') => Join_any b c A2 n2 k2 A3 n3 k3 W' (HXb4.out.below hh).cu (HXc4.out.below hh).cu HXb4.out.big HXc4.out.big)
    rw [hj3] at HJ5
    clear hva hvb hvab hab hj2 hj3 hj4
    go_wp2_with fail
    refine HJ4.out.mono ?_
    rintro e w5 hpost
    obtain ⟨A6, n6, k6, rfl, hb5, hX6⟩ := hpost.box2 hl2
    obtain ⟨W5, hW5⟩ : ∃ W, w5.alloc (.cells #[.int .i64 l.fr, .int .i64 l.fst, .slice A6 n6 k6] 24) = W := ⟨_, rfl⟩
    obtain ⟨g6, hg6⟩ : ∃ q, w5.heap.size = q := ⟨_, rfl⟩
    rw [hW5, hg6] at hX6
    have hb5' : Below w4.heap.size w4 W5 := by rw [← hW5]; exact hb5.alloc hb5.size _
    have HB5 := hide (HB4.out.trans (hb5'.mono HB4.out.size))
    have HXa5 := hide (HXa4.out.below hb5')
    have HXb5 := hide (HXb4.out.below hb5')
    have HXc5 := hide (HXc4.out.below hb5')
    have HX45 := hide (HX44.out.below hb5')
    have HX65 := hide hX6
    have HJ5 := hide (HJ5.out W5 hb5')
    clear hb5 hb5' hX6 hpost HJ4 HB4 HXa4 HXb4 HXc4 HX44 a0 a1 a2 b0 b1 b2 c0 c1 c2 d0 d1 d2
    obtain ⟨b0, b1, b2⟩ := HXb5.out.cells
    obtain ⟨c0, c1, c2⟩ := HXc5.out.cells
    go_wp2_with fail
    refine HJ5.out.mono ?_
    rintro e w6 hpost
    obtain ⟨A7, n7, k7, rfl, hb6, hX7⟩ := hpost.box2 hl3
    obtain ⟨W6, hW6⟩ : ∃ W, w6.alloc (.cells #[.int .i64 bc.fr, .int .i64 bc.fst, .slice A7 n7 k7] 24) = W := ⟨_, rfl⟩
    obtain ⟨g7, hg7⟩ : ∃ q, w6.heap.size = q := ⟨_, rfl⟩
    rw [hW6, hg7] at hX7
    have hb6' : Below W5.heap.size W5 W6 := by rw [← hW6]; exact hb6.alloc hb6.size _
    have HB6 := hide (HB5.out.trans (hb6'.mono HB5.out.size))
    have HXa6 := hide (HXa5.out.below hb6')
    have HXb6 := hide (HXb5.out.below hb6')
    have HX46 := hide (HX45.out.below hb6')
    have HX66 := hide (HX65.out.below hb6')
    have HX76 := hide hX7
    have HJ6 := hide (Join_any a bc A1 n1 k1 A7 n7 k7 W6 HXa6.out.cu HX76.out.cu HXa6.out.big HX76.out.big)
    have HJ6 : Hid (Calls Try.prog 28 #[.agg #[.int .i64 a.fr, .int .i64 a.fst, .slice A1 n1 k1], .agg #[.int .i64 bc.fr, .int .i64 bc.fst, .slice A7 n7 k7]] W6 (CuPost (r, e4) W6)) := by rw [HE4.out] at HJ6; exact HJ6
    clear hb6 hb6' hX7 hpost HJ5 HB5 HXa5 HXb5 HXc5 HX45 HX65 b0 b1 b2 c0 c1 c2 hW5 hg6
    obtain ⟨a0, a1, a2⟩ := HXa6.out.cells
    obtain ⟨b0, b1, b2⟩ := HX76.out.cells
    go_wp2_with fail
    refine HJ6.out.mono ?_
    rintro e w7 hpost
    obtain ⟨A8, n8, k8, rfl, hb7, hX8⟩ := hpost.box2 hl4
    obtain ⟨W7, hW7⟩ : ∃ W, w7.alloc (.cells #[.int .i64 r.fr, .int .i64 r.fst, .slice A8 n8 k8] 24) = W := ⟨_, rfl⟩
    obtain ⟨g8, hg8⟩ : ∃ q, w7.heap.size = q := ⟨_, rfl⟩
    rw [hW7, hg8] at hX8
    have hb7' : Below W6.heap.size W6 W7 := by rw [← hW7]; exact hb7.alloc hb7.size _
    have HB7 := hide (HB6.out.trans (hb7'.mono HB6.out.size))
    have HXa7 := hide (HXa6.out.below hb7')
    have HXb7 := hide (HXb6.out.below hb7')
    have HX47 := hide (HX46.out.below hb7')
    have HX67 := hide (HX66.out.below hb7')
    have HX87 := hide hX8
    clear hb7 hb7' hX8 hpost HJ6 HB6 HXa6 HXb6 HX46 HX66 HX76 a0 a1 a2 b0 b1 b2 hW6 hg7
    obtain ⟨a0, a1, a2⟩ := HXa7.out.cells
    obtain ⟨c0, c1, c2⟩ := HX67.out.cells
    obtain ⟨d0, d1, d2⟩ := HX87.out.cells

    by_cases h2 : e2 = 0
    · by_cases h3 : e3 = 0
      · by_cases h4 : e4 = 0
        · have hlr : l = r := by
            obtain ⟨-, -, q1, -⟩ := joinV_zero HE2.out h2
            obtain ⟨-, -, q2, -⟩ := joinV_zero HE3.out h3
            obtain ⟨-, -, q3, -⟩ := joinV_zero HE4.out h4
            rw [q1, q3, q2, HABE.out, joinC_assoc]
          subst h2 h3 h4 hlr
          have HL := hide (alike_any l l A6 n6 k6 A8 n8 k8 W7 HX67.out.cu.sl HX87.out.cu.sl HX67.out.big HX87.out.big)
          rw [likeB_refl] at HL
          go_wp2_with fail
          refine HL.out.mono ?_
          rintro e w9 ⟨rfl, hG9⟩
          have HB9 := hide (HB7.out.trans (hG9.below.mono HB7.out.size))
          have HXa9 := hide (HXa7.out.gr hG9)
          have HXb9 := hide (HXb7.out.gr hG9)
          have HX49 := hide (HX47.out.gr hG9)
          clear HL hG9 HB7 HXa7 HXb7 HX47 HX67 HX87 a0 a1 a2 c0 c1 c2 d0 d1 d2
          obtain ⟨a0, a1, a2⟩ := HXa9.out.cells
          have HAT1 := hide (lawAt_any a A1 n1 k1 x w9 HXa9.out.cu HXa9.out.big)
          have HAT2 := hide (fun W' (hh : Below w9.heap.size w9 W') => lawAt_any b A2 n2 k2 y W' (HXb9.out.below hh).cu HXb9.out.big)
          obtain ⟨⟨u, eu⟩, hu⟩ : ∃ q, atV a x = q := ⟨_, rfl⟩
          obtain ⟨⟨v, ev⟩, hv⟩ : ∃ q, atV b y = q := ⟨_, rfl⟩
          rw [hu] at HAT1
          rw [hv] at HAT2
          have HU := hide hu
          have HV := hide hv
          clear hu hv
          go_wp2_with fail
          refine HAT1.out.mono ?_
          rintro e w10 ⟨rfl, hb10⟩
          have HB10 := hide (HB9.out.trans (hb10.mono HB9.out.size))
          have HXa10 := hide (HXa9.out.below hb10)
          have HXb10 := hide (HXb9.out.below hb10)
          have HX410 := hide (HX49.out.below hb10)
          have HAT2 := hide (HAT2.out w10 hb10)
          clear HAT1 hb10 HB9 HXa9 HXb9 HX49 a0 a1 a2 
          obtain ⟨b0, b1, b2⟩ := HXb10.out.cells
          go_wp2_with fail
          refine HAT2.out.mono ?_
          rintro e w11 ⟨rfl, hb11⟩
          have HB11 := hide (HB10.out.trans (hb11.mono HB10.out.size))
          have HXa11 := hide (HXa10.out.below hb11)
          have HXb11 := hide (HXb10.out.below hb11)
          have HX411 := hide (HX410.out.below hb11)
          clear HAT2 hb11 HB10 HXa10 HXb10 HX410 b0 b1 b2
          by_cases hu0 : eu = 0
          · by_cases hv0 : ev = 0
            · subst hu0 hv0
              obtain ⟨-, i, hi, hxi⟩ := atV_some (c := a) (x := x) (by rw [HU.out])
              obtain ⟨-, j, hj, hyj⟩ := atV_some (c := b) (x := y) (by rw [HV.out])
              have hla : a.sl.length = n1 := HXa11.out.cu.sl.1
              have hlb : b.sl.length = n2 := HXb11.out.cu.sl.1
              have hlab : ab.sl.length = n1 + n2 := by rw [HABE.out, joinC_len, hla, hlb]
              have hn1 : n1 ≤ 64 := by have := okC_len HVA.out; omega
              have hn2 : n2 ≤ 64 := by have := okC_len HVB.out; omega
              have hfa := okC_fr HVA.out
              have hfb := okC_fr HVB.out
              have hab0 : ab.fr = a.fr + b.fr := by rw [HABE.out]; rfl
              have HUV : Hid (u = valK a i ∧ v = valK b j) := by
                have h1 := HU.out
                have h2 := HV.out
                rw [hxi, atV_in HVA.out hi] at h1
                rw [hyj, atV_in HVB.out hj] at h2
                injection h1 with h1 _
                injection h2 with h2 _
                exact ⟨h1.symm, h2.symm⟩
              obtain ⟨z, hz⟩ : ∃ z, valK ab (i + j) = z := ⟨_, rfl⟩
              have HZ := hide hz
              obtain ⟨s, hs⟩ : ∃ s, x + y = s := ⟨_, rfl⟩
              have hsd : s = ab.fr + ((i + j : Nat) : Int) := by omega
              have hw1 : IntKind.i64.wrap (x + y) = s := by rw [IntKind.wrap_i64]; omega
              have HAT3 := hide (lawAt_any ab A4 n4 k4 s w11 HX411.out.cu HX411.out.big)
              have HATE : Hid (atV ab s = (z, 0)) := by show _ = _; rw [hsd, atV_in HVAB.out (by omega), hz]
              rw [HATE.out] at HAT3
              have hzr : -1125899906842624 ≤ z ∧ z ≤ 1125899906842624 := by rw [← hz]; exact okC_val HVAB.out (by omega)
              have hur : -1125899906842624 ≤ u ∧ u ≤ 1125899906842624 := by rw [HUV.out.1]; exact okC_val HVA.out hi
              have hvr : -1125899906842624 ≤ v ∧ v ≤ 1125899906842624 := by rw [HUV.out.2]; exact okC_val HVB.out hj
              have hzuv : z ≤ u + v := by rw [← hz, HABE.out, HUV.out.1, HUV.out.2]; exact joinC_val hi hj
              obtain ⟨uv, huv⟩ : ∃ q, u + v = q := ⟨_, rfl⟩
              have hw2 : IntKind.i64.wrap (u + v) = uv := by rw [IntKind.wrap_i64]; omega
              have hw3 : decide (z ≤ uv) = true := decide_eq_true (by omega)
              obtain ⟨t, ht⟩ : ∃ t, s - a.fr = t := ⟨_, rfl⟩
              have hw4 : IntKind.i64.wrap (s - a.fr) = t := by rw [IntKind.wrap_i64]; omega
              have htd : t = b.fr + ((i + j : Nat) : Int) := by omega
              have HTD := hide htd
              have HHI := hide hi
              have HHJ := hide hj
              have HLA := hide hla
              have HLB := hide hlb
              obtain ⟨d0, d1, d2⟩ := HX411.out.cells
              clear hz hs hsd huv hzuv ht htd hxi hyj hab0 hla hlb hlab HU HV HATE hur hvr hi hj
              go_wp2_with fail
              refine HAT3.out.mono ?_
              rintro e w12 ⟨rfl, hb12⟩
              have HB12 := hide (HB11.out.trans (hb12.mono HB11.out.size))
              have HXa12 := hide (HXa11.out.below hb12)
              have HXb12 := hide (HXb11.out.below hb12)
              have HX412 := hide (HX411.out.below hb12)
              clear HAT3 hb12 HB11 HXa11 HXb11 HX411 d0 d1 d2
              go_wp2_with fail
              go_loopw [25, 26] (fun vm vk wr => ∃ (k : Nat) (m : Bool), k ≤ n1 + 1 ∧ vk = .int .i64 k ∧ vm = .bool m ∧ Hid (m = true ↔ ∃ k' d, k' < k ∧ d ≤ n2 ∧ k' + d = i + j ∧ valK a k' + valK b d = z) ∧ Hid (Below w12.heap.size w12 wr)) (fun _ vk _ => n1 + 1 - (intOf vk).toNat)
              case atStart => exact ⟨0, false, Nat.zero_le _, rfl, rfl, ⟨fun h => (by cases h), fun ⟨k', _, h, _⟩ => absurd h (Nat.not_lt_zero _)⟩, Below.refl _ _⟩
              case round =>
                obtain ⟨k, m, hk, rfl, rfl, HM, HBr⟩ := hrel
                have HXar := hide (HXa12.out.below HBr.out)
                have HXbr := hide (HXb12.out.below HBr.out)
                obtain ⟨a0, a1, a2⟩ := HXar.out.cells
                by_cases hkn : k ≤ n1
                · have hkn' : (k : Int) ≤ (n1 : Int) := by omega
                  have hd0 : decide ((k : Int) ≤ (n1 : Int)) = true := decide_eq_true hkn'
                  obtain ⟨ak, hak⟩ : ∃ q, a.fr + (k : Int) = q := ⟨_, rfl⟩
                  have hw5 : IntKind.i64.wrap (a.fr + (k : Int)) = ak := by rw [IntKind.wrap_i64]; omega
                  obtain ⟨tk, htk⟩ : ∃ q, t - (k : Int) = q := ⟨_, rfl⟩
                  have htd := HTD.out
                  have hiI := HHI.out
                  have hjJ := HHJ.out
                  rw [HLA.out] at hiI
                  rw [HLB.out] at hjJ
                  have hw6 : IntKind.i64.wrap (t - (k : Int)) = tk := by rw [IntKind.wrap_i64]; omega
                  have HAT4 := hide (lawAt_any a A1 n1 k1 ak wr HXar.out.cu HXar.out.big)
                  have HAT5 := hide (fun W' (hh : Below wr.heap.size wr W') => lawAt_any b A2 n2 k2 tk W' (HXbr.out.below hh).cu HXbr.out.big)
                  have HE4' : Hid (atV a ak = (valK a k, 0)) := by show _ = _; rw [← hak, atV_in HVA.out (by rw [HLA.out]; exact hkn)]
                  rw [HE4'.out] at HAT4
                  obtain ⟨pv, hpv⟩ : ∃ q, valK a k = q := ⟨_, rfl⟩
                  rw [hpv] at HAT4
                  have hpr : -1125899906842624 ≤ pv ∧ pv ≤ 1125899906842624 := by rw [← hpv]; exact okC_val HVA.out (by rw [HLA.out]; exact hkn)
                  have HPV := hide hpv
                  have HTK : Hid (tk = b.fr + ((i + j : Nat) : Int) - k) := by show _ = _; omega
                  clear htd hak htk hpv HE4'
                  go_wp2_with fail
                  refine HAT4.out.mono ?_
                  rintro e wr1 ⟨rfl, hbr1⟩
                  have HBr1 := hide (HBr.out.trans (hbr1.mono HBr.out.size))
                  have HXa1 := hide (HXar.out.below hbr1)
                  have HXb1 := hide (HXbr.out.below hbr1)
                  have HAT5 := hide (HAT5.out wr1 hbr1)
                  clear HAT4 hbr1 HXar HXbr HBr a0 a1 a2
                  obtain ⟨a0, a1, a2⟩ := HXa1.out.cells
                  obtain ⟨b0, b1, b2⟩ := HXb1.out.cells
                  by_cases hdom : k ≤ i + j ∧ i + j ≤ n2 + k
                  · obtain ⟨d, hd⟩ : ∃ d : Nat, d + k = i + j := ⟨i + j - k, by omega⟩
                    have hdn : d ≤ n2 := by omega
                    have HE5 : Hid (atV b tk = (valK b d, 0)) := by
                      show _ = _
                      rw [show tk = b.fr + (d : Int) by have := HTK.out; omega, atV_in HVB.out (by rw [HLB.out]; exact hdn)]
                    rw [HE5.out] at HAT5
                    obtain ⟨qv, hqv⟩ : ∃ q, valK b d = q := ⟨_, rfl⟩
                    rw [hqv] at HAT5
                    have hqr : -1125899906842624 ≤ qv ∧ qv ≤ 1125899906842624 := by rw [← hqv]; exact okC_val HVB.out (by rw [HLB.out]; exact hdn)
                    have hzle : z ≤ pv + qv := by
                      have := joinC_val (a := a) (b := b) (i := k) (j := d) (by rw [HLA.out]; exact hkn) (by rw [HLB.out]; exact hdn)
                      rw [← HABE.out, show k + d = i + j by omega, HZ.out, HPV.out, hqv] at this
                      exact this
                    obtain ⟨pq, hpq⟩ : ∃ q, pv + qv = q := ⟨_, rfl⟩
                    have hw7 : IntKind.i64.wrap (pv + qv) = pq := by rw [IntKind.wrap_i64]; omega
                    have hw8 : decide (pq < z) = false := decide_eq_false (by omega)
                    have HM2 : Hid ((m || (pq == z)) = true ↔ ∃ k' d, k' < k + 1 ∧ d ≤ n2 ∧ k' + d = i + j ∧ valK a k' + valK b d = z) := by
                      show _ ↔ _
                      constructor
                      · intro h
                        rw [Bool.or_eq_true] at h
                        rcases h with h | h
                        · obtain ⟨k', d', g1, g2, g3, g4⟩ := HM.out.1 h
                          exact ⟨k', d', by omega, g2, g3, g4⟩
                        · have h := beq_iff_eq.1 h
                          exact ⟨k, d, by omega, hdn, by omega, by rw [HPV.out, hqv]; omega⟩
                      · rintro ⟨k', d', g1, g2, g3, g4⟩
                        rw [Bool.or_eq_true]
                        rcases Nat.lt_or_ge k' k with h | h
                        · exact .inl (HM.out.2 ⟨k', d', h, g2, g3, g4⟩)
                        · obtain rfl : k' = k := by omega
                          obtain rfl : d' = d := by omega
                          rw [HPV.out, hqv] at g4
                          exact .inr (beq_iff_eq.2 (by omega))
                    clear hzle hpq hqv HE5 hd hdom HM hqr hpr
                    go_wp2_with fail
                    refine HAT5.out.mono ?_
                    rintro e wr2 ⟨rfl, hbr2⟩
                    have HBr2 := hide (HBr1.out.trans (hbr2.mono HBr1.out.size))
                    clear HAT5 hbr2 HXa1 HXb1 HBr1 a0 a1 a2 b0 b1 b2
                    cases m
                    · go_wp2
                      go_roundw
                      case rel => exact ⟨k + 1, pq == z, by omega, by go_num, rfl, HM2, HBr2⟩
                      case measure => simp [intOf]; omega
                    · go_wp2
                      go_roundw
                      case rel => exact ⟨k + 1, true, by omega, by go_num, rfl, HM2, HBr2⟩
                      case measure => simp [intOf]; omega
                  · have HE5 : Hid (atV b tk = (0, 6)) := by
                      show _ = _
                      unfold atV
                      rw [if_pos HVB.out, if_neg]
                      have := HTK.out
                      have := HLB.out
                      omega
                    rw [HE5.out] at HAT5
                    have HM2 : Hid (m = true ↔ ∃ k' d, k' < k + 1 ∧ d ≤ n2 ∧ k' + d = i + j ∧ valK a k' + valK b d = z) := by
                      refine HM.out.trans ⟨fun ⟨k', d', g1, g2, g3, g4⟩ => ⟨k', d', by omega, g2, g3, g4⟩, fun ⟨k', d', g1, g2, g3, g4⟩ => ⟨k', d', ?_, g2, g3, g4⟩⟩
                      omega
                    clear HE5 hdom HM
                    go_wp2_with fail
                    refine HAT5.out.mono ?_
                    rintro e wr2 ⟨rfl, hbr2⟩
                    have HBr2 := hide (HBr1.out.trans (hbr2.mono HBr1.out.size))
                    clear HAT5 hbr2 HXa1 HXb1 HBr1 a0 a1 a2 b0 b1 b2
                    cases m
                    · go_wp2
                      go_roundw
                      case rel => exact ⟨k + 1, false, by omega, by go_num, rfl, HM2, HBr2⟩
                      case measure => simp [intOf]; omega
                    · go_wp2
                      go_roundw
                      case rel => exact ⟨k + 1, true, by omega, by go_num, rfl, ⟨fun _ => HM2.out.1 trivial, fun _ => rfl⟩, HBr2⟩
                      case measure => simp [intOf]; omega
                · obtain rfl : k = n1 + 1 := by omega
                  have hm : m = true := by
                    obtain ⟨i', j', g1, g2, g3, g4⟩ := joinC_has HVA.out HVB.out (m := i + j) (by have := HHI.out; have := HHJ.out; omega)
                    rw [← HABE.out, HZ.out] at g4
                    have := HLA.out
                    have := HLB.out
                    exact HM.out.2 ⟨i', j', by omega, by omega, g3, g4.symm⟩
                  subst hm
                  have hd0 : decide (((n1 + 1 : Nat) : Int) ≤ (n1 : Int)) = false := decide_eq_false (by omega)
                  have hd1 : ¬ (((n1 + 1 : Nat) : Int) ≤ (n1 : Int)) := by omega
                  have HX4r := hide (HX412.out.below HBr.out)
                  obtain ⟨d0, d1, d2⟩ := HX4r.out.cells
                  have HVV := hide (Valid_any ab A4 n4 k4 wr HX4r.out.cu.sl HX4r.out.big)
                  rw [HVAB.out] at HVV
                  have HBB := hide (HB12.out.trans (HBr.out.mono HB12.out.size))
                  clear HXar HXbr HXa12 HXb12 HX412 HBr HB12
                  go_wp2_with fail
                  refine HVV.out.mono ?_
                  rintro e wr1 ⟨rfl, hgr1⟩
                  have HB1 := hide (HBB.out.trans (hgr1.below.mono HBB.out.size))
                  clear hgr1 HBB
                  go_wp2_with fail
                  refine (alive_any wr1).mono ?_
                  rintro e wr2 ⟨rfl, hbr2⟩
                  have HB2 := hide (HB1.out.trans (hbr2.mono HB1.out.size))
                  clear hbr2 HB1
                  go_wp2
                  go_ret
                  exact ⟨rfl, HB2.out⟩
            · have hq1 : (ev == 0) = false := beq_eq_false_iff_ne.2 hv0
              subst hu0
              go_wp2_with fail
              refine (alive_any w11).mono ?_
              rintro e w12 ⟨rfl, hb12⟩
              have HB12 := hide (HB11.out.trans (hb12.mono HB11.out.size))
              clear hb12
              go_wp2
              go_ret
              exact ⟨rfl, HB12.out⟩
          · have hq1 : (eu == 0) = false := beq_eq_false_iff_ne.2 hu0
            go_wp2_with fail
            refine (alive_any w11).mono ?_
            rintro e w12 ⟨rfl, hb12⟩
            have HB12 := hide (HB11.out.trans (hb12.mono HB11.out.size))
            clear hb12
            go_wp2
            go_ret
            exact ⟨rfl, HB12.out⟩
        · have hq4 : (e4 == 0) = false := beq_eq_false_iff_ne.2 h4
          subst h2 h3
          have HAT1 := hide (lawAt_any a A1 n1 k1 x W7 HXa7.out.cu HXa7.out.big)
          have HAT2 := hide (fun W' (hh : Below W7.heap.size W7 W') => lawAt_any b A2 n2 k2 y W' (HXb7.out.below hh).cu HXb7.out.big)
          obtain ⟨⟨u, eu⟩, hu⟩ : ∃ q, atV a x = q := ⟨_, rfl⟩
          obtain ⟨⟨v, ev⟩, hv⟩ : ∃ q, atV b y = q := ⟨_, rfl⟩
          rw [hu] at HAT1
          rw [hv] at HAT2
          have HU := hide hu
          have HV := hide hv
          clear hu hv
          go_wp2_with fail
          refine HAT1.out.mono ?_
          rintro e w10 ⟨rfl, hb10⟩
          have HB10 := hide (HB7.out.trans (hb10.mono HB7.out.size))
          have HXa10 := hide (HXa7.out.below hb10)
          have HXb10 := hide (HXb7.out.below hb10)
          have HX410 := hide (HX47.out.below hb10)
          have HAT2 := hide (HAT2.out w10 hb10)
          clear HAT1 hb10 HB7 HXa7 HXb7 HX47 a0 a1 a2 c0 c1 c2 d0 d1 d2
          obtain ⟨b0, b1, b2⟩ := HXb10.out.cells
          go_wp2_with fail
          refine HAT2.out.mono ?_
          rintro e w11 ⟨rfl, hb11⟩
          have HB11 := hide (HB10.out.trans (hb11.mono HB10.out.size))
          have HXa11 := hide (HXa10.out.below hb11)
          have HXb11 := hide (HXb10.out.below hb11)
          have HX411 := hide (HX410.out.below hb11)
          clear HAT2 hb11 HB10 HXa10 HXb10 HX410 b0 b1 b2
          by_cases hu0 : eu = 0
          · by_cases hv0 : ev = 0
            · subst hu0 hv0
              obtain ⟨-, i, hi, hxi⟩ := atV_some (c := a) (x := x) (by rw [HU.out])
              obtain ⟨-, j, hj, hyj⟩ := atV_some (c := b) (x := y) (by rw [HV.out])
              have hla : a.sl.length = n1 := HXa11.out.cu.sl.1
              have hlb : b.sl.length = n2 := HXb11.out.cu.sl.1
              have hlab : ab.sl.length = n1 + n2 := by rw [HABE.out, joinC_len, hla, hlb]
              have hn1 : n1 ≤ 64 := by have := okC_len HVA.out; omega
              have hn2 : n2 ≤ 64 := by have := okC_len HVB.out; omega
              have hfa := okC_fr HVA.out
              have hfb := okC_fr HVB.out
              have hab0 : ab.fr = a.fr + b.fr := by rw [HABE.out]; rfl
              have HUV : Hid (u = valK a i ∧ v = valK b j) := by
                have h1 := HU.out
                have h2 := HV.out
                rw [hxi, atV_in HVA.out hi] at h1
                rw [hyj, atV_in HVB.out hj] at h2
                injection h1 with h1 _
                injection h2 with h2 _
                exact ⟨h1.symm, h2.symm⟩
              obtain ⟨z, hz⟩ : ∃ z, valK ab (i + j) = z := ⟨_, rfl⟩
              have HZ := hide hz
              obtain ⟨s, hs⟩ : ∃ s, x + y = s := ⟨_, rfl⟩
              have hsd : s = ab.fr + ((i + j : Nat) : Int) := by omega
              have hw1 : IntKind.i64.wrap (x + y) = s := by rw [IntKind.wrap_i64]; omega
              have HAT3 := hide (lawAt_any ab A4 n4 k4 s w11 HX411.out.cu HX411.out.big)
              have HATE : Hid (atV ab s = (z, 0)) := by show _ = _; rw [hsd, atV_in HVAB.out (by omega), hz]
              rw [HATE.out] at HAT3
              have hzr : -1125899906842624 ≤ z ∧ z ≤ 1125899906842624 := by rw [← hz]; exact okC_val HVAB.out (by omega)
              have hur : -1125899906842624 ≤ u ∧ u ≤ 1125899906842624 := by rw [HUV.out.1]; exact okC_val HVA.out hi
              have hvr : -1125899906842624 ≤ v ∧ v ≤ 1125899906842624 := by rw [HUV.out.2]; exact okC_val HVB.out hj
              have hzuv : z ≤ u + v := by rw [← hz, HABE.out, HUV.out.1, HUV.out.2]; exact joinC_val hi hj
              obtain ⟨uv, huv⟩ : ∃ q, u + v = q := ⟨_, rfl⟩
              have hw2 : IntKind.i64.wrap (u + v) = uv := by rw [IntKind.wrap_i64]; omega
              have hw3 : decide (z ≤ uv) = true := decide_eq_true (by omega)
              obtain ⟨t, ht⟩ : ∃ t, s - a.fr = t := ⟨_, rfl⟩
              have hw4 : IntKind.i64.wrap (s - a.fr) = t := by rw [IntKind.wrap_i64]; omega
              have htd : t = b.fr + ((i + j : Nat) : Int) := by omega
              have HTD := hide htd
              have HHI := hide hi
              have HHJ := hide hj
              have HLA := hide hla
              have HLB := hide hlb
              obtain ⟨d0, d1, d2⟩ := HX411.out.cells
              clear hz hs hsd huv hzuv ht htd hxi hyj hab0 hla hlb hlab HU HV HATE hur hvr hi hj
              go_wp2_with fail
              refine HAT3.out.mono ?_
              rintro e w12 ⟨rfl, hb12⟩
              have HB12 := hide (HB11.out.trans (hb12.mono HB11.out.size))
              have HXa12 := hide (HXa11.out.below hb12)
              have HXb12 := hide (HXb11.out.below hb12)
              have HX412 := hide (HX411.out.below hb12)
              clear HAT3 hb12 HB11 HXa11 HXb11 HX411 d0 d1 d2
              go_wp2_with fail
              go_loopw [25, 26] (fun vm vk wr => ∃ (k : Nat) (m : Bool), k ≤ n1 + 1 ∧ vk = .int .i64 k ∧ vm = .bool m ∧ Hid (m = true ↔ ∃ k' d, k' < k ∧ d ≤ n2 ∧ k' + d = i + j ∧ valK a k' + valK b d = z) ∧ Hid (Below w12.heap.size w12 wr)) (fun _ vk _ => n1 + 1 - (intOf vk).toNat)
              case atStart => exact ⟨0, false, Nat.zero_le _, rfl, rfl, ⟨fun h => (by cases h), fun ⟨k', _, h, _⟩ => absurd h (Nat.not_lt_zero _)⟩, Below.refl _ _⟩
              case round =>
                obtain ⟨k, m, hk, rfl, rfl, HM, HBr⟩ := hrel
                have HXar := hide (HXa12.out.below HBr.out)
                have HXbr := hide (HXb12.out.below HBr.out)
                obtain ⟨a0, a1, a2⟩ := HXar.out.cells
                by_cases hkn : k ≤ n1
                · have hkn' : (k : Int) ≤ (n1 : Int) := by omega
                  have hd0 : decide ((k : Int) ≤ (n1 : Int)) = true := decide_eq_true hkn'
                  obtain ⟨ak, hak⟩ : ∃ q, a.fr + (k : Int) = q := ⟨_, rfl⟩
                  have hw5 : IntKind.i64.wrap (a.fr + (k : Int)) = ak := by rw [IntKind.wrap_i64]; omega
                  obtain ⟨tk, htk⟩ : ∃ q, t - (k : Int) = q := ⟨_, rfl⟩
                  have htd := HTD.out
                  have hiI := HHI.out
                  have hjJ := HHJ.out
                  rw [HLA.out] at hiI
                  rw [HLB.out] at hjJ
                  have hw6 : IntKind.i64.wrap (t - (k : Int)) = tk := by rw [IntKind.wrap_i64]; omega
                  have HAT4 := hide (lawAt_any a A1 n1 k1 ak wr HXar.out.cu HXar.out.big)
                  have HAT5 := hide (fun W' (hh : Below wr.heap.size wr W') => lawAt_any b A2 n2 k2 tk W' (HXbr.out.below hh).cu HXbr.out.big)
                  have HE4' : Hid (atV a ak = (valK a k, 0)) := by show _ = _; rw [← hak, atV_in HVA.out (by rw [HLA.out]; exact hkn)]
                  rw [HE4'.out] at HAT4
                  obtain ⟨pv, hpv⟩ : ∃ q, valK a k = q := ⟨_, rfl⟩
                  rw [hpv] at HAT4
                  have hpr : -1125899906842624 ≤ pv ∧ pv ≤ 1125899906842624 := by rw [← hpv]; exact okC_val HVA.out (by rw [HLA.out]; exact hkn)
                  have HPV := hide hpv
                  have HTK : Hid (tk = b.fr + ((i + j : Nat) : Int) - k) := by show _ = _; omega
                  clear htd hak htk hpv HE4'
                  go_wp2_with fail
                  refine HAT4.out.mono ?_
                  rintro e wr1 ⟨rfl, hbr1⟩
                  have HBr1 := hide (HBr.out.trans (hbr1.mono HBr.out.size))
                  have HXa1 := hide (HXar.out.below hbr1)
                  have HXb1 := hide (HXbr.out.below hbr1)
                  have HAT5 := hide (HAT5.out wr1 hbr1)
                  clear HAT4 hbr1 HXar HXbr HBr a0 a1 a2
                  obtain ⟨a0, a1, a2⟩ := HXa1.out.cells
                  obtain ⟨b0, b1, b2⟩ := HXb1.out.cells
                  by_cases hdom : k ≤ i + j ∧ i + j ≤ n2 + k
                  · obtain ⟨d, hd⟩ : ∃ d : Nat, d + k = i + j := ⟨i + j - k, by omega⟩
                    have hdn : d ≤ n2 := by omega
                    have HE5 : Hid (atV b tk = (valK b d, 0)) := by
                      show _ = _
                      rw [show tk = b.fr + (d : Int) by have := HTK.out; omega, atV_in HVB.out (by rw [HLB.out]; exact hdn)]
                    rw [HE5.out] at HAT5
                    obtain ⟨qv, hqv⟩ : ∃ q, valK b d = q := ⟨_, rfl⟩
                    rw [hqv] at HAT5
                    have hqr : -1125899906842624 ≤ qv ∧ qv ≤ 1125899906842624 := by rw [← hqv]; exact okC_val HVB.out (by rw [HLB.out]; exact hdn)
                    have hzle : z ≤ pv + qv := by
                      have := joinC_val (a := a) (b := b) (i := k) (j := d) (by rw [HLA.out]; exact hkn) (by rw [HLB.out]; exact hdn)
                      rw [← HABE.out, show k + d = i + j by omega, HZ.out, HPV.out, hqv] at this
                      exact this
                    obtain ⟨pq, hpq⟩ : ∃ q, pv + qv = q := ⟨_, rfl⟩
                    have hw7 : IntKind.i64.wrap (pv + qv) = pq := by rw [IntKind.wrap_i64]; omega
                    have hw8 : decide (pq < z) = false := decide_eq_false (by omega)
                    have HM2 : Hid ((m || (pq == z)) = true ↔ ∃ k' d, k' < k + 1 ∧ d ≤ n2 ∧ k' + d = i + j ∧ valK a k' + valK b d = z) := by
                      show _ ↔ _
                      constructor
                      · intro h
                        rw [Bool.or_eq_true] at h
                        rcases h with h | h
                        · obtain ⟨k', d', g1, g2, g3, g4⟩ := HM.out.1 h
                          exact ⟨k', d', by omega, g2, g3, g4⟩
                        · have h := beq_iff_eq.1 h
                          exact ⟨k, d, by omega, hdn, by omega, by rw [HPV.out, hqv]; omega⟩
                      · rintro ⟨k', d', g1, g2, g3, g4⟩
                        rw [Bool.or_eq_true]
                        rcases Nat.lt_or_ge k' k with h | h
                        · exact .inl (HM.out.2 ⟨k', d', h, g2, g3, g4⟩)
                        · obtain rfl : k' = k := by omega
                          obtain rfl : d' = d := by omega
                          rw [HPV.out, hqv] at g4
                          exact .inr (beq_iff_eq.2 (by omega))
                    clear hzle hpq hqv HE5 hd hdom HM hqr hpr
                    go_wp2_with fail
                    refine HAT5.out.mono ?_
                    rintro e wr2 ⟨rfl, hbr2⟩
                    have HBr2 := hide (HBr1.out.trans (hbr2.mono HBr1.out.size))
                    clear HAT5 hbr2 HXa1 HXb1 HBr1 a0 a1 a2 b0 b1 b2
                    cases m
                    · go_wp2
                      go_roundw
                      case rel => exact ⟨k + 1, pq == z, by omega, by go_num, rfl, HM2, HBr2⟩
                      case measure => simp [intOf]; omega
                    · go_wp2
                      go_roundw
                      case rel => exact ⟨k + 1, true, by omega, by go_num, rfl, HM2, HBr2⟩
                      case measure => simp [intOf]; omega
                  · have HE5 : Hid (atV b tk = (0, 6)) := by
                      show _ = _
                      unfold atV
                      rw [if_pos HVB.out, if_neg]
                      have := HTK.out
                      have := HLB.out
                      omega
                    rw [HE5.out] at HAT5
                    have HM2 : Hid (m = true ↔ ∃ k' d, k' < k + 1 ∧ d ≤ n2 ∧ k' + d = i + j ∧ valK a k' + valK b d = z) := by
                      refine HM.out.trans ⟨fun ⟨k', d', g1, g2, g3, g4⟩ => ⟨k', d', by omega, g2, g3, g4⟩, fun ⟨k', d', g1, g2, g3, g4⟩ => ⟨k', d', ?_, g2, g3, g4⟩⟩
                      omega
                    clear HE5 hdom HM
                    go_wp2_with fail
                    refine HAT5.out.mono ?_
                    rintro e wr2 ⟨rfl, hbr2⟩
                    have HBr2 := hide (HBr1.out.trans (hbr2.mono HBr1.out.size))
                    clear HAT5 hbr2 HXa1 HXb1 HBr1 a0 a1 a2 b0 b1 b2
                    cases m
                    · go_wp2
                      go_roundw
                      case rel => exact ⟨k + 1, false, by omega, by go_num, rfl, HM2, HBr2⟩
                      case measure => simp [intOf]; omega
                    · go_wp2
                      go_roundw
                      case rel => exact ⟨k + 1, true, by omega, by go_num, rfl, ⟨fun _ => HM2.out.1 trivial, fun _ => rfl⟩, HBr2⟩
                      case measure => simp [intOf]; omega
                · obtain rfl : k = n1 + 1 := by omega
                  have hm : m = true := by
                    obtain ⟨i', j', g1, g2, g3, g4⟩ := joinC_has HVA.out HVB.out (m := i + j) (by have := HHI.out; have := HHJ.out; omega)
                    rw [← HABE.out, HZ.out] at g4
                    have := HLA.out
                    have := HLB.out
                    exact HM.out.2 ⟨i', j', by omega, by omega, g3, g4.symm⟩
                  subst hm
                  have hd0 : decide (((n1 + 1 : Nat) : Int) ≤ (n1 : Int)) = false := decide_eq_false (by omega)
                  have hd1 : ¬ (((n1 + 1 : Nat) : Int) ≤ (n1 : Int)) := by omega
                  have HX4r := hide (HX412.out.below HBr.out)
                  obtain ⟨d0, d1, d2⟩ := HX4r.out.cells
                  have HVV := hide (Valid_any ab A4 n4 k4 wr HX4r.out.cu.sl HX4r.out.big)
                  rw [HVAB.out] at HVV
                  have HBB := hide (HB12.out.trans (HBr.out.mono HB12.out.size))
                  clear HXar HXbr HXa12 HXb12 HX412 HBr HB12
                  go_wp2_with fail
                  refine HVV.out.mono ?_
                  rintro e wr1 ⟨rfl, hgr1⟩
                  have HB1 := hide (HBB.out.trans (hgr1.below.mono HBB.out.size))
                  clear hgr1 HBB
                  go_wp2_with fail
                  refine (alive_any wr1).mono ?_
                  rintro e wr2 ⟨rfl, hbr2⟩
                  have HB2 := hide (HB1.out.trans (hbr2.mono HB1.out.size))
                  clear hbr2 HB1
                  go_wp2
                  go_ret
                  exact ⟨rfl, HB2.out⟩
            · have hq1 : (ev == 0) = false := beq_eq_false_iff_ne.2 hv0
              subst hu0
              go_wp2_with fail
              refine (alive_any w11).mono ?_
              rintro e w12 ⟨rfl, hb12⟩
              have HB12 := hide (HB11.out.trans (hb12.mono HB11.out.size))
              clear hb12
              go_wp2
              go_ret
              exact ⟨rfl, HB12.out⟩
          · have hq1 : (eu == 0) = false := beq_eq_false_iff_ne.2 hu0
            go_wp2_with fail
            refine (alive_any w11).mono ?_
            rintro e w12 ⟨rfl, hb12⟩
            have HB12 := hide (HB11.out.trans (hb12.mono HB11.out.size))
            clear hb12
            go_wp2
            go_ret
            exact ⟨rfl, HB12.out⟩
      · have hq3 : (e3 == 0) = false := beq_eq_false_iff_ne.2 h3
        subst h2
        have HAT1 := hide (lawAt_any a A1 n1 k1 x W7 HXa7.out.cu HXa7.out.big)
        have HAT2 := hide (fun W' (hh : Below W7.heap.size W7 W') => lawAt_any b A2 n2 k2 y W' (HXb7.out.below hh).cu HXb7.out.big)
        obtain ⟨⟨u, eu⟩, hu⟩ : ∃ q, atV a x = q := ⟨_, rfl⟩
        obtain ⟨⟨v, ev⟩, hv⟩ : ∃ q, atV b y = q := ⟨_, rfl⟩
        rw [hu] at HAT1
        rw [hv] at HAT2
        have HU := hide hu
        have HV := hide hv
        clear hu hv
        go_wp2_with fail
        refine HAT1.out.mono ?_
        rintro e w10 ⟨rfl, hb10⟩
        have HB10 := hide (HB7.out.trans (hb10.mono HB7.out.size))
        have HXa10 := hide (HXa7.out.below hb10)
        have HXb10 := hide (HXb7.out.below hb10)
        have HX410 := hide (HX47.out.below hb10)
        have HAT2 := hide (HAT2.out w10 hb10)
        clear HAT1 hb10 HB7 HXa7 HXb7 HX47 a0 a1 a2 c0 c1 c2 d0 d1 d2
        obtain ⟨b0, b1, b2⟩ := HXb10.out.cells
        go_wp2_with fail
        refine HAT2.out.mono ?_
        rintro e w11 ⟨rfl, hb11⟩
        have HB11 := hide (HB10.out.trans (hb11.mono HB10.out.size))
        have HXa11 := hide (HXa10.out.below hb11)
        have HXb11 := hide (HXb10.out.below hb11)
        have HX411 := hide (HX410.out.below hb11)
        clear HAT2 hb11 HB10 HXa10 HXb10 HX410 b0 b1 b2
        by_cases hu0 : eu = 0
        · by_cases hv0 : ev = 0
          · subst hu0 hv0
            obtain ⟨-, i, hi, hxi⟩ := atV_some (c := a) (x := x) (by rw [HU.out])
            obtain ⟨-, j, hj, hyj⟩ := atV_some (c := b) (x := y) (by rw [HV.out])
            have hla : a.sl.length = n1 := HXa11.out.cu.sl.1
            have hlb : b.sl.length = n2 := HXb11.out.cu.sl.1
            have hlab : ab.sl.length = n1 + n2 := by rw [HABE.out, joinC_len, hla, hlb]
            have hn1 : n1 ≤ 64 := by have := okC_len HVA.out; omega
            have hn2 : n2 ≤ 64 := by have := okC_len HVB.out; omega
            have hfa := okC_fr HVA.out
            have hfb := okC_fr HVB.out
            have hab0 : ab.fr = a.fr + b.fr := by rw [HABE.out]; rfl
            have HUV : Hid (u = valK a i ∧ v = valK b j) := by
              have h1 := HU.out
              have h2 := HV.out
              rw [hxi, atV_in HVA.out hi] at h1
              rw [hyj, atV_in HVB.out hj] at h2
              injection h1 with h1 _
              injection h2 with h2 _
              exact ⟨h1.symm, h2.symm⟩
            obtain ⟨z, hz⟩ : ∃ z, valK ab (i + j) = z := ⟨_, rfl⟩
            have HZ := hide hz
            obtain ⟨s, hs⟩ : ∃ s, x + y = s := ⟨_, rfl⟩
            have hsd : s = ab.fr + ((i + j : Nat) : Int) := by omega
            have hw1 : IntKind.i64.wrap (x + y) = s := by rw [IntKind.wrap_i64]; omega
            have HAT3 := hide (lawAt_any ab A4 n4 k4 s w11 HX411.out.cu HX411.out.big)
            have HATE : Hid (atV ab s = (z, 0)) := by show _ = _; rw [hsd, atV_in HVAB.out (by omega), hz]
            rw [HATE.out] at HAT3
            have hzr : -1125899906842624 ≤ z ∧ z ≤ 1125899906842624 := by rw [← hz]; exact okC_val HVAB.out (by omega)
            have hur : -1125899906842624 ≤ u ∧ u ≤ 1125899906842624 := by rw [HUV.out.1]; exact okC_val HVA.out hi
            have hvr : -1125899906842624 ≤ v ∧ v ≤ 1125899906842624 := by rw [HUV.out.2]; exact okC_val HVB.out hj
            have hzuv : z ≤ u + v := by rw [← hz, HABE.out, HUV.out.1, HUV.out.2]; exact joinC_val hi hj
            obtain ⟨uv, huv⟩ : ∃ q, u + v = q := ⟨_, rfl⟩
            have hw2 : IntKind.i64.wrap (u + v) = uv := by rw [IntKind.wrap_i64]; omega
            have hw3 : decide (z ≤ uv) = true := decide_eq_true (by omega)
            obtain ⟨t, ht⟩ : ∃ t, s - a.fr = t := ⟨_, rfl⟩
            have hw4 : IntKind.i64.wrap (s - a.fr) = t := by rw [IntKind.wrap_i64]; omega
            have htd : t = b.fr + ((i + j : Nat) : Int) := by omega
            have HTD := hide htd
            have HHI := hide hi
            have HHJ := hide hj
            have HLA := hide hla
            have HLB := hide hlb
            obtain ⟨d0, d1, d2⟩ := HX411.out.cells
            clear hz hs hsd huv hzuv ht htd hxi hyj hab0 hla hlb hlab HU HV HATE hur hvr hi hj
            go_wp2_with fail
            refine HAT3.out.mono ?_
            rintro e w12 ⟨rfl, hb12⟩
            have HB12 := hide (HB11.out.trans (hb12.mono HB11.out.size))
            have HXa12 := hide (HXa11.out.below hb12)
            have HXb12 := hide (HXb11.out.below hb12)
            have HX412 := hide (HX411.out.below hb12)
            clear HAT3 hb12 HB11 HXa11 HXb11 HX411 d0 d1 d2
            go_wp2_with fail
            go_loopw [25, 26] (fun vm vk wr => ∃ (k : Nat) (m : Bool), k ≤ n1 + 1 ∧ vk = .int .i64 k ∧ vm = .bool m ∧ Hid (m = true ↔ ∃ k' d, k' < k ∧ d ≤ n2 ∧ k' + d = i + j ∧ valK a k' + valK b d = z) ∧ Hid (Below w12.heap.size w12 wr)) (fun _ vk _ => n1 + 1 - (intOf vk).toNat)
            case atStart => exact ⟨0, false, Nat.zero_le _, rfl, rfl, ⟨fun h => (by cases h), fun ⟨k', _, h, _⟩ => absurd h (Nat.not_lt_zero _)⟩, Below.refl _ _⟩
            case round =>
              obtain ⟨k, m, hk, rfl, rfl, HM, HBr⟩ := hrel
              have HXar := hide (HXa12.out.below HBr.out)
              have HXbr := hide (HXb12.out.below HBr.out)
              obtain ⟨a0, a1, a2⟩ := HXar.out.cells
              by_cases hkn : k ≤ n1
              · have hkn' : (k : Int) ≤ (n1 : Int) := by omega
                have hd0 : decide ((k : Int) ≤ (n1 : Int)) = true := decide_eq_true hkn'
                obtain ⟨ak, hak⟩ : ∃ q, a.fr + (k : Int) = q := ⟨_, rfl⟩
                have hw5 : IntKind.i64.wrap (a.fr + (k : Int)) = ak := by rw [IntKind.wrap_i64]; omega
                obtain ⟨tk, htk⟩ : ∃ q, t - (k : Int) = q := ⟨_, rfl⟩
                have htd := HTD.out
                have hiI := HHI.out
                have hjJ := HHJ.out
                rw [HLA.out] at hiI
                rw [HLB.out] at hjJ
                have hw6 : IntKind.i64.wrap (t - (k : Int)) = tk := by rw [IntKind.wrap_i64]; omega
                have HAT4 := hide (lawAt_any a A1 n1 k1 ak wr HXar.out.cu HXar.out.big)
                have HAT5 := hide (fun W' (hh : Below wr.heap.size wr W') => lawAt_any b A2 n2 k2 tk W' (HXbr.out.below hh).cu HXbr.out.big)
                have HE4' : Hid (atV a ak = (valK a k, 0)) := by show _ = _; rw [← hak, atV_in HVA.out (by rw [HLA.out]; exact hkn)]
                rw [HE4'.out] at HAT4
                obtain ⟨pv, hpv⟩ : ∃ q, valK a k = q := ⟨_, rfl⟩
                rw [hpv] at HAT4
                have hpr : -1125899906842624 ≤ pv ∧ pv ≤ 1125899906842624 := by rw [← hpv]; exact okC_val HVA.out (by rw [HLA.out]; exact hkn)
                have HPV := hide hpv
                have HTK : Hid (tk = b.fr + ((i + j : Nat) : Int) - k) := by show _ = _; omega
                clear htd hak htk hpv HE4'
                go_wp2_with fail
                refine HAT4.out.mono ?_
                rintro e wr1 ⟨rfl, hbr1⟩
                have HBr1 := hide (HBr.out.trans (hbr1.mono HBr.out.size))
                have HXa1 := hide (HXar.out.below hbr1)
                have HXb1 := hide (HXbr.out.below hbr1)
                have HAT5 := hide (HAT5.out wr1 hbr1)
                clear HAT4 hbr1 HXar HXbr HBr a0 a1 a2
                obtain ⟨a0, a1, a2⟩ := HXa1.out.cells
                obtain ⟨b0, b1, b2⟩ := HXb1.out.cells
                by_cases hdom : k ≤ i + j ∧ i + j ≤ n2 + k
                · obtain ⟨d, hd⟩ : ∃ d : Nat, d + k = i + j := ⟨i + j - k, by omega⟩
                  have hdn : d ≤ n2 := by omega
                  have HE5 : Hid (atV b tk = (valK b d, 0)) := by
                    show _ = _
                    rw [show tk = b.fr + (d : Int) by have := HTK.out; omega, atV_in HVB.out (by rw [HLB.out]; exact hdn)]
                  rw [HE5.out] at HAT5
                  obtain ⟨qv, hqv⟩ : ∃ q, valK b d = q := ⟨_, rfl⟩
                  rw [hqv] at HAT5
                  have hqr : -1125899906842624 ≤ qv ∧ qv ≤ 1125899906842624 := by rw [← hqv]; exact okC_val HVB.out (by rw [HLB.out]; exact hdn)
                  have hzle : z ≤ pv + qv := by
                    have := joinC_val (a := a) (b := b) (i := k) (j := d) (by rw [HLA.out]; exact hkn) (by rw [HLB.out]; exact hdn)
                    rw [← HABE.out, show k + d = i + j by omega, HZ.out, HPV.out, hqv] at this
                    exact this
                  obtain ⟨pq, hpq⟩ : ∃ q, pv + qv = q := ⟨_, rfl⟩
                  have hw7 : IntKind.i64.wrap (pv + qv) = pq := by rw [IntKind.wrap_i64]; omega
                  have hw8 : decide (pq < z) = false := decide_eq_false (by omega)
                  have HM2 : Hid ((m || (pq == z)) = true ↔ ∃ k' d, k' < k + 1 ∧ d ≤ n2 ∧ k' + d = i + j ∧ valK a k' + valK b d = z) := by
                    show _ ↔ _
                    constructor
                    · intro h
                      rw [Bool.or_eq_true] at h
                      rcases h with h | h
                      · obtain ⟨k', d', g1, g2, g3, g4⟩ := HM.out.1 h
                        exact ⟨k', d', by omega, g2, g3, g4⟩
                      · have h := beq_iff_eq.1 h
                        exact ⟨k, d, by omega, hdn, by omega, by rw [HPV.out, hqv]; omega⟩
                    · rintro ⟨k', d', g1, g2, g3, g4⟩
                      rw [Bool.or_eq_true]
                      rcases Nat.lt_or_ge k' k with h | h
                      · exact .inl (HM.out.2 ⟨k', d', h, g2, g3, g4⟩)
                      · obtain rfl : k' = k := by omega
                        obtain rfl : d' = d := by omega
                        rw [HPV.out, hqv] at g4
                        exact .inr (beq_iff_eq.2 (by omega))
                  clear hzle hpq hqv HE5 hd hdom HM hqr hpr
                  go_wp2_with fail
                  refine HAT5.out.mono ?_
                  rintro e wr2 ⟨rfl, hbr2⟩
                  have HBr2 := hide (HBr1.out.trans (hbr2.mono HBr1.out.size))
                  clear HAT5 hbr2 HXa1 HXb1 HBr1 a0 a1 a2 b0 b1 b2
                  cases m
                  · go_wp2
                    go_roundw
                    case rel => exact ⟨k + 1, pq == z, by omega, by go_num, rfl, HM2, HBr2⟩
                    case measure => simp [intOf]; omega
                  · go_wp2
                    go_roundw
                    case rel => exact ⟨k + 1, true, by omega, by go_num, rfl, HM2, HBr2⟩
                    case measure => simp [intOf]; omega
                · have HE5 : Hid (atV b tk = (0, 6)) := by
                    show _ = _
                    unfold atV
                    rw [if_pos HVB.out, if_neg]
                    have := HTK.out
                    have := HLB.out
                    omega
                  rw [HE5.out] at HAT5
                  have HM2 : Hid (m = true ↔ ∃ k' d, k' < k + 1 ∧ d ≤ n2 ∧ k' + d = i + j ∧ valK a k' + valK b d = z) := by
                    refine HM.out.trans ⟨fun ⟨k', d', g1, g2, g3, g4⟩ => ⟨k', d', by omega, g2, g3, g4⟩, fun ⟨k', d', g1, g2, g3, g4⟩ => ⟨k', d', ?_, g2, g3, g4⟩⟩
                    omega
                  clear HE5 hdom HM
                  go_wp2_with fail
                  refine HAT5.out.mono ?_
                  rintro e wr2 ⟨rfl, hbr2⟩
                  have HBr2 := hide (HBr1.out.trans (hbr2.mono HBr1.out.size))
                  clear HAT5 hbr2 HXa1 HXb1 HBr1 a0 a1 a2 b0 b1 b2
                  cases m
                  · go_wp2
                    go_roundw
                    case rel => exact ⟨k + 1, false, by omega, by go_num, rfl, HM2, HBr2⟩
                    case measure => simp [intOf]; omega
                  · go_wp2
                    go_roundw
                    case rel => exact ⟨k + 1, true, by omega, by go_num, rfl, ⟨fun _ => HM2.out.1 trivial, fun _ => rfl⟩, HBr2⟩
                    case measure => simp [intOf]; omega
              · obtain rfl : k = n1 + 1 := by omega
                have hm : m = true := by
                  obtain ⟨i', j', g1, g2, g3, g4⟩ := joinC_has HVA.out HVB.out (m := i + j) (by have := HHI.out; have := HHJ.out; omega)
                  rw [← HABE.out, HZ.out] at g4
                  have := HLA.out
                  have := HLB.out
                  exact HM.out.2 ⟨i', j', by omega, by omega, g3, g4.symm⟩
                subst hm
                have hd0 : decide (((n1 + 1 : Nat) : Int) ≤ (n1 : Int)) = false := decide_eq_false (by omega)
                have hd1 : ¬ (((n1 + 1 : Nat) : Int) ≤ (n1 : Int)) := by omega
                have HX4r := hide (HX412.out.below HBr.out)
                obtain ⟨d0, d1, d2⟩ := HX4r.out.cells
                have HVV := hide (Valid_any ab A4 n4 k4 wr HX4r.out.cu.sl HX4r.out.big)
                rw [HVAB.out] at HVV
                have HBB := hide (HB12.out.trans (HBr.out.mono HB12.out.size))
                clear HXar HXbr HXa12 HXb12 HX412 HBr HB12
                go_wp2_with fail
                refine HVV.out.mono ?_
                rintro e wr1 ⟨rfl, hgr1⟩
                have HB1 := hide (HBB.out.trans (hgr1.below.mono HBB.out.size))
                clear hgr1 HBB
                go_wp2_with fail
                refine (alive_any wr1).mono ?_
                rintro e wr2 ⟨rfl, hbr2⟩
                have HB2 := hide (HB1.out.trans (hbr2.mono HB1.out.size))
                clear hbr2 HB1
                go_wp2
                go_ret
                exact ⟨rfl, HB2.out⟩
          · have hq1 : (ev == 0) = false := beq_eq_false_iff_ne.2 hv0
            subst hu0
            go_wp2_with fail
            refine (alive_any w11).mono ?_
            rintro e w12 ⟨rfl, hb12⟩
            have HB12 := hide (HB11.out.trans (hb12.mono HB11.out.size))
            clear hb12
            go_wp2
            go_ret
            exact ⟨rfl, HB12.out⟩
        · have hq1 : (eu == 0) = false := beq_eq_false_iff_ne.2 hu0
          go_wp2_with fail
          refine (alive_any w11).mono ?_
          rintro e w12 ⟨rfl, hb12⟩
          have HB12 := hide (HB11.out.trans (hb12.mono HB11.out.size))
          clear hb12
          go_wp2
          go_ret
          exact ⟨rfl, HB12.out⟩
    · have hq2 : (e2 == 0) = false := beq_eq_false_iff_ne.2 h2
      have HAT1 := hide (lawAt_any a A1 n1 k1 x W7 HXa7.out.cu HXa7.out.big)
      have HAT2 := hide (fun W' (hh : Below W7.heap.size W7 W') => lawAt_any b A2 n2 k2 y W' (HXb7.out.below hh).cu HXb7.out.big)
      obtain ⟨⟨u, eu⟩, hu⟩ : ∃ q, atV a x = q := ⟨_, rfl⟩
      obtain ⟨⟨v, ev⟩, hv⟩ : ∃ q, atV b y = q := ⟨_, rfl⟩
      rw [hu] at HAT1
      rw [hv] at HAT2
      have HU := hide hu
      have HV := hide hv
      clear hu hv
      go_wp2_with fail
      refine HAT1.out.mono ?_
      rintro e w10 ⟨rfl, hb10⟩
      have HB10 := hide (HB7.out.trans (hb10.mono HB7.out.size))
      have HXa10 := hide (HXa7.out.below hb10)
      have HXb10 := hide (HXb7.out.below hb10)
      have HX410 := hide (HX47.out.below hb10)
      have HAT2 := hide (HAT2.out w10 hb10)
      clear HAT1 hb10 HB7 HXa7 HXb7 HX47 a0 a1 a2 c0 c1 c2 d0 d1 d2
      obtain ⟨b0, b1, b2⟩ := HXb10.out.cells
      go_wp2_with fail
      refine HAT2.out.mono ?_
      rintro e w11 ⟨rfl, hb11⟩
      have HB11 := hide (HB10.out.trans (hb11.mono HB10.out.size))
      have HXa11 := hide (HXa10.out.below hb11)
      have HXb11 := hide (HXb10.out.below hb11)
      have HX411 := hide (HX410.out.below hb11)
      clear HAT2 hb11 HB10 HXa10 HXb10 HX410 b0 b1 b2
      by_cases hu0 : eu = 0
      · by_cases hv0 : ev = 0
        · subst hu0 hv0
          obtain ⟨-, i, hi, hxi⟩ := atV_some (c := a) (x := x) (by rw [HU.out])
          obtain ⟨-, j, hj, hyj⟩ := atV_some (c := b) (x := y) (by rw [HV.out])
          have hla : a.sl.length = n1 := HXa11.out.cu.sl.1
          have hlb : b.sl.length = n2 := HXb11.out.cu.sl.1
          have hlab : ab.sl.length = n1 + n2 := by rw [HABE.out, joinC_len, hla, hlb]
          have hn1 : n1 ≤ 64 := by have := okC_len HVA.out; omega
          have hn2 : n2 ≤ 64 := by have := okC_len HVB.out; omega
          have hfa := okC_fr HVA.out
          have hfb := okC_fr HVB.out
          have hab0 : ab.fr = a.fr + b.fr := by rw [HABE.out]; rfl
          have HUV : Hid (u = valK a i ∧ v = valK b j) := by
            have h1 := HU.out
            have h2 := HV.out
            rw [hxi, atV_in HVA.out hi] at h1
            rw [hyj, atV_in HVB.out hj] at h2
            injection h1 with h1 _
            injection h2 with h2 _
            exact ⟨h1.symm, h2.symm⟩
          obtain ⟨z, hz⟩ : ∃ z, valK ab (i + j) = z := ⟨_, rfl⟩
          have HZ := hide hz
          obtain ⟨s, hs⟩ : ∃ s, x + y = s := ⟨_, rfl⟩
          have hsd : s = ab.fr + ((i + j : Nat) : Int) := by omega
          have hw1 : IntKind.i64.wrap (x + y) = s := by rw [IntKind.wrap_i64]; omega
          have HAT3 := hide (lawAt_any ab A4 n4 k4 s w11 HX411.out.cu HX411.out.big)
          have HATE : Hid (atV ab s = (z, 0)) := by show _ = _; rw [hsd, atV_in HVAB.out (by omega), hz]
          rw [HATE.out] at HAT3
          have hzr : -1125899906842624 ≤ z ∧ z ≤ 1125899906842624 := by rw [← hz]; exact okC_val HVAB.out (by omega)
          have hur : -1125899906842624 ≤ u ∧ u ≤ 1125899906842624 := by rw [HUV.out.1]; exact okC_val HVA.out hi
          have hvr : -1125899906842624 ≤ v ∧ v ≤ 1125899906842624 := by rw [HUV.out.2]; exact okC_val HVB.out hj
          have hzuv : z ≤ u + v := by rw [← hz, HABE.out, HUV.out.1, HUV.out.2]; exact joinC_val hi hj
          obtain ⟨uv, huv⟩ : ∃ q, u + v = q := ⟨_, rfl⟩
          have hw2 : IntKind.i64.wrap (u + v) = uv := by rw [IntKind.wrap_i64]; omega
          have hw3 : decide (z ≤ uv) = true := decide_eq_true (by omega)
          obtain ⟨t, ht⟩ : ∃ t, s - a.fr = t := ⟨_, rfl⟩
          have hw4 : IntKind.i64.wrap (s - a.fr) = t := by rw [IntKind.wrap_i64]; omega
          have htd : t = b.fr + ((i + j : Nat) : Int) := by omega
          have HTD := hide htd
          have HHI := hide hi
          have HHJ := hide hj
          have HLA := hide hla
          have HLB := hide hlb
          obtain ⟨d0, d1, d2⟩ := HX411.out.cells
          clear hz hs hsd huv hzuv ht htd hxi hyj hab0 hla hlb hlab HU HV HATE hur hvr hi hj
          go_wp2_with fail
          refine HAT3.out.mono ?_
          rintro e w12 ⟨rfl, hb12⟩
          have HB12 := hide (HB11.out.trans (hb12.mono HB11.out.size))
          have HXa12 := hide (HXa11.out.below hb12)
          have HXb12 := hide (HXb11.out.below hb12)
          have HX412 := hide (HX411.out.below hb12)
          clear HAT3 hb12 HB11 HXa11 HXb11 HX411 d0 d1 d2
          go_wp2_with fail
          go_loopw [25, 26] (fun vm vk wr => ∃ (k : Nat) (m : Bool), k ≤ n1 + 1 ∧ vk = .int .i64 k ∧ vm = .bool m ∧ Hid (m = true ↔ ∃ k' d, k' < k ∧ d ≤ n2 ∧ k' + d = i + j ∧ valK a k' + valK b d = z) ∧ Hid (Below w12.heap.size w12 wr)) (fun _ vk _ => n1 + 1 - (intOf vk).toNat)
          case atStart => exact ⟨0, false, Nat.zero_le _, rfl, rfl, ⟨fun h => (by cases h), fun ⟨k', _, h, _⟩ => absurd h (Nat.not_lt_zero _)⟩, Below.refl _ _⟩
          case round =>
            obtain ⟨k, m, hk, rfl, rfl, HM, HBr⟩ := hrel
            have HXar := hide (HXa12.out.below HBr.out)
            have HXbr := hide (HXb12.out.below HBr.out)
            obtain ⟨a0, a1, a2⟩ := HXar.out.cells
            by_cases hkn : k ≤ n1
            · have hkn' : (k : Int) ≤ (n1 : Int) := by omega
              have hd0 : decide ((k : Int) ≤ (n1 : Int)) = true := decide_eq_true hkn'
              obtain ⟨ak, hak⟩ : ∃ q, a.fr + (k : Int) = q := ⟨_, rfl⟩
              have hw5 : IntKind.i64.wrap (a.fr + (k : Int)) = ak := by rw [IntKind.wrap_i64]; omega
              obtain ⟨tk, htk⟩ : ∃ q, t - (k : Int) = q := ⟨_, rfl⟩
              have htd := HTD.out
              have hiI := HHI.out
              have hjJ := HHJ.out
              rw [HLA.out] at hiI
              rw [HLB.out] at hjJ
              have hw6 : IntKind.i64.wrap (t - (k : Int)) = tk := by rw [IntKind.wrap_i64]; omega
              have HAT4 := hide (lawAt_any a A1 n1 k1 ak wr HXar.out.cu HXar.out.big)
              have HAT5 := hide (fun W' (hh : Below wr.heap.size wr W') => lawAt_any b A2 n2 k2 tk W' (HXbr.out.below hh).cu HXbr.out.big)
              have HE4' : Hid (atV a ak = (valK a k, 0)) := by show _ = _; rw [← hak, atV_in HVA.out (by rw [HLA.out]; exact hkn)]
              rw [HE4'.out] at HAT4
              obtain ⟨pv, hpv⟩ : ∃ q, valK a k = q := ⟨_, rfl⟩
              rw [hpv] at HAT4
              have hpr : -1125899906842624 ≤ pv ∧ pv ≤ 1125899906842624 := by rw [← hpv]; exact okC_val HVA.out (by rw [HLA.out]; exact hkn)
              have HPV := hide hpv
              have HTK : Hid (tk = b.fr + ((i + j : Nat) : Int) - k) := by show _ = _; omega
              clear htd hak htk hpv HE4'
              go_wp2_with fail
              refine HAT4.out.mono ?_
              rintro e wr1 ⟨rfl, hbr1⟩
              have HBr1 := hide (HBr.out.trans (hbr1.mono HBr.out.size))
              have HXa1 := hide (HXar.out.below hbr1)
              have HXb1 := hide (HXbr.out.below hbr1)
              have HAT5 := hide (HAT5.out wr1 hbr1)
              clear HAT4 hbr1 HXar HXbr HBr a0 a1 a2
              obtain ⟨a0, a1, a2⟩ := HXa1.out.cells
              obtain ⟨b0, b1, b2⟩ := HXb1.out.cells
              by_cases hdom : k ≤ i + j ∧ i + j ≤ n2 + k
              · obtain ⟨d, hd⟩ : ∃ d : Nat, d + k = i + j := ⟨i + j - k, by omega⟩
                have hdn : d ≤ n2 := by omega
                have HE5 : Hid (atV b tk = (valK b d, 0)) := by
                  show _ = _
                  rw [show tk = b.fr + (d : Int) by have := HTK.out; omega, atV_in HVB.out (by rw [HLB.out]; exact hdn)]
                rw [HE5.out] at HAT5
                obtain ⟨qv, hqv⟩ : ∃ q, valK b d = q := ⟨_, rfl⟩
                rw [hqv] at HAT5
                have hqr : -1125899906842624 ≤ qv ∧ qv ≤ 1125899906842624 := by rw [← hqv]; exact okC_val HVB.out (by rw [HLB.out]; exact hdn)
                have hzle : z ≤ pv + qv := by
                  have := joinC_val (a := a) (b := b) (i := k) (j := d) (by rw [HLA.out]; exact hkn) (by rw [HLB.out]; exact hdn)
                  rw [← HABE.out, show k + d = i + j by omega, HZ.out, HPV.out, hqv] at this
                  exact this
                obtain ⟨pq, hpq⟩ : ∃ q, pv + qv = q := ⟨_, rfl⟩
                have hw7 : IntKind.i64.wrap (pv + qv) = pq := by rw [IntKind.wrap_i64]; omega
                have hw8 : decide (pq < z) = false := decide_eq_false (by omega)
                have HM2 : Hid ((m || (pq == z)) = true ↔ ∃ k' d, k' < k + 1 ∧ d ≤ n2 ∧ k' + d = i + j ∧ valK a k' + valK b d = z) := by
                  show _ ↔ _
                  constructor
                  · intro h
                    rw [Bool.or_eq_true] at h
                    rcases h with h | h
                    · obtain ⟨k', d', g1, g2, g3, g4⟩ := HM.out.1 h
                      exact ⟨k', d', by omega, g2, g3, g4⟩
                    · have h := beq_iff_eq.1 h
                      exact ⟨k, d, by omega, hdn, by omega, by rw [HPV.out, hqv]; omega⟩
                  · rintro ⟨k', d', g1, g2, g3, g4⟩
                    rw [Bool.or_eq_true]
                    rcases Nat.lt_or_ge k' k with h | h
                    · exact .inl (HM.out.2 ⟨k', d', h, g2, g3, g4⟩)
                    · obtain rfl : k' = k := by omega
                      obtain rfl : d' = d := by omega
                      rw [HPV.out, hqv] at g4
                      exact .inr (beq_iff_eq.2 (by omega))
                clear hzle hpq hqv HE5 hd hdom HM hqr hpr
                go_wp2_with fail
                refine HAT5.out.mono ?_
                rintro e wr2 ⟨rfl, hbr2⟩
                have HBr2 := hide (HBr1.out.trans (hbr2.mono HBr1.out.size))
                clear HAT5 hbr2 HXa1 HXb1 HBr1 a0 a1 a2 b0 b1 b2
                cases m
                · go_wp2
                  go_roundw
                  case rel => exact ⟨k + 1, pq == z, by omega, by go_num, rfl, HM2, HBr2⟩
                  case measure => simp [intOf]; omega
                · go_wp2
                  go_roundw
                  case rel => exact ⟨k + 1, true, by omega, by go_num, rfl, HM2, HBr2⟩
                  case measure => simp [intOf]; omega
              · have HE5 : Hid (atV b tk = (0, 6)) := by
                  show _ = _
                  unfold atV
                  rw [if_pos HVB.out, if_neg]
                  have := HTK.out
                  have := HLB.out
                  omega
                rw [HE5.out] at HAT5
                have HM2 : Hid (m = true ↔ ∃ k' d, k' < k + 1 ∧ d ≤ n2 ∧ k' + d = i + j ∧ valK a k' + valK b d = z) := by
                  refine HM.out.trans ⟨fun ⟨k', d', g1, g2, g3, g4⟩ => ⟨k', d', by omega, g2, g3, g4⟩, fun ⟨k', d', g1, g2, g3, g4⟩ => ⟨k', d', ?_, g2, g3, g4⟩⟩
                  omega
                clear HE5 hdom HM
                go_wp2_with fail
                refine HAT5.out.mono ?_
                rintro e wr2 ⟨rfl, hbr2⟩
                have HBr2 := hide (HBr1.out.trans (hbr2.mono HBr1.out.size))
                clear HAT5 hbr2 HXa1 HXb1 HBr1 a0 a1 a2 b0 b1 b2
                cases m
                · go_wp2
                  go_roundw
                  case rel => exact ⟨k + 1, false, by omega, by go_num, rfl, HM2, HBr2⟩
                  case measure => simp [intOf]; omega
                · go_wp2
                  go_roundw
                  case rel => exact ⟨k + 1, true, by omega, by go_num, rfl, ⟨fun _ => HM2.out.1 trivial, fun _ => rfl⟩, HBr2⟩
                  case measure => simp [intOf]; omega
            · obtain rfl : k = n1 + 1 := by omega
              have hm : m = true := by
                obtain ⟨i', j', g1, g2, g3, g4⟩ := joinC_has HVA.out HVB.out (m := i + j) (by have := HHI.out; have := HHJ.out; omega)
                rw [← HABE.out, HZ.out] at g4
                have := HLA.out
                have := HLB.out
                exact HM.out.2 ⟨i', j', by omega, by omega, g3, g4.symm⟩
              subst hm
              have hd0 : decide (((n1 + 1 : Nat) : Int) ≤ (n1 : Int)) = false := decide_eq_false (by omega)
              have hd1 : ¬ (((n1 + 1 : Nat) : Int) ≤ (n1 : Int)) := by omega
              have HX4r := hide (HX412.out.below HBr.out)
              obtain ⟨d0, d1, d2⟩ := HX4r.out.cells
              have HVV := hide (Valid_any ab A4 n4 k4 wr HX4r.out.cu.sl HX4r.out.big)
              rw [HVAB.out] at HVV
              have HBB := hide (HB12.out.trans (HBr.out.mono HB12.out.size))
              clear HXar HXbr HXa12 HXb12 HX412 HBr HB12
              go_wp2_with fail
              refine HVV.out.mono ?_
              rintro e wr1 ⟨rfl, hgr1⟩
              have HB1 := hide (HBB.out.trans (hgr1.below.mono HBB.out.size))
              clear hgr1 HBB
              go_wp2_with fail
              refine (alive_any wr1).mono ?_
              rintro e wr2 ⟨rfl, hbr2⟩
              have HB2 := hide (HB1.out.trans (hbr2.mono HB1.out.size))
              clear hbr2 HB1
              go_wp2
              go_ret
              exact ⟨rfl, HB2.out⟩
        · have hq1 : (ev == 0) = false := beq_eq_false_iff_ne.2 hv0
          subst hu0
          go_wp2_with fail
          refine (alive_any w11).mono ?_
          rintro e w12 ⟨rfl, hb12⟩
          have HB12 := hide (HB11.out.trans (hb12.mono HB11.out.size))
          clear hb12
          go_wp2
          go_ret
          exact ⟨rfl, HB12.out⟩
      · have hq1 : (eu == 0) = false := beq_eq_false_iff_ne.2 hu0
        go_wp2_with fail
        refine (alive_any w11).mono ?_
        rintro e w12 ⟨rfl, hb12⟩
        have HB12 := hide (HB11.out.trans (hb12.mono HB11.out.size))
        clear hb12
        go_wp2
        go_ret
        exact ⟨rfl, HB12.out⟩
  · have hn0 : (e1 != 0) = true := by rw [bne_iff_ne]; exact h0
    have HVA := hide (Valid_any a A1 n1 k1 w4 HXa4.out.cu.sl HXa4.out.big)
    rcases joinV_error HE1.out with ⟨h, _⟩ | ⟨rfl, hva⟩ | ⟨rfl, hva, hvb⟩ | ⟨rfl, hva, hvb⟩
    · exact absurd h h0
    · rw [hva] at HVA
      clear hva
      go_wp2_with fail
      refine HVA.out.mono ?_
      rintro e w5 ⟨rfl, hG5⟩
      have HB5 := hide (HB4.out.trans (hG5.below.mono HB4.out.size))
      clear hG5
      go_wp2_with fail
      refine (alive_any w5).mono ?_
      rintro e w6 ⟨rfl, hb6⟩
      have HB6 := hide (HB5.out.trans (hb6.mono HB5.out.size))
      clear hb6
      go_wp2
      go_ret
      exact ⟨rfl, HB6.out⟩
    · rw [hva] at HVA
      have HVB := hide (fun W' (hg : Gr w4 W') => Valid_any b A2 n2 k2 W' (HXb4.out.gr hg).cu.sl HXb4.out.big)
      rw [hvb] at HVB
      clear hva hvb
      go_wp2_with fail
      refine HVA.out.mono ?_
      rintro e w5 ⟨rfl, hG5⟩
      have HB5 := hide (HB4.out.trans (hG5.below.mono HB4.out.size))
      have HXb5 := hide (HXb4.out.gr hG5)
      have HVB := hide (HVB.out w5 hG5)
      clear hG5 a0 a1 a2 b0 b1 b2 c0 c1 c2 d0 d1 d2
      obtain ⟨b0, b1, b2⟩ := HXb5.out.cells
      go_wp2_with fail
      refine HVB.out.mono ?_
      rintro e w7 ⟨rfl, hG7⟩
      have HB7 := hide (HB5.out.trans (hG7.below.mono HB5.out.size))
      clear hG7 b0 b1 b2
      go_wp2_with fail
      refine (alive_any w7).mono ?_
      rintro e w6 ⟨rfl, hb6⟩
      have HB6 := hide (HB7.out.trans (hb6.mono HB7.out.size))
      clear hb6
      go_wp2
      go_ret
      exact ⟨rfl, HB6.out⟩
    · rw [hva] at HVA
      have HVB := hide (fun W' (hg : Gr w4 W') => Valid_any b A2 n2 k2 W' (HXb4.out.gr hg).cu.sl HXb4.out.big)
      rw [hvb] at HVB
      clear hva hvb
      go_wp2_with fail
      refine HVA.out.mono ?_
      rintro e w5 ⟨rfl, hG5⟩
      have HB5 := hide (HB4.out.trans (hG5.below.mono HB4.out.size))
      have HXb5 := hide (HXb4.out.gr hG5)
      have HVB := hide (HVB.out w5 hG5)
      clear hG5 a0 a1 a2 b0 b1 b2 c0 c1 c2 d0 d1 d2
      obtain ⟨b0, b1, b2⟩ := HXb5.out.cells
      go_wp2_with fail
      refine HVB.out.mono ?_
      rintro e w7 ⟨rfl, hG7⟩
      have HB7 := hide (HB5.out.trans (hG7.below.mono HB5.out.size))
      clear hG7 b0 b1 b2
      go_wp2_with fail
      refine (alive_any w7).mono ?_
      rintro e w6 ⟨rfl, hb6⟩
      have HB6 := hide (HB7.out.trans (hb6.mono HB7.out.size))
      clear hb6
      go_wp2
      go_ret
      exact ⟨rfl, HB6.out⟩

end Go.Proofs.Ytdepnhnpklbmiaa