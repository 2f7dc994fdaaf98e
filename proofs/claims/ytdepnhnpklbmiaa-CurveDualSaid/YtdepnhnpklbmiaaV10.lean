/- The walk of the law on the conjugate of a join. -/
import Derived.Test.YtdepnhnpklbmiaaB26
import Derived.Test.YtdepnhnpklbmiaaV9
namespace Go.Proofs.Ytdepnhnpklbmiaa
open Go.RowKit Go.Sort

theorem add_conj {a b : Cu} {lo hi : Int} (ha : okC a = true) (hb : okC b = true) (hlh : lo ≤ hi) (hx : okC (conC a lo hi) = true) (hy : okC (conC b lo hi) = true) (hj : okC (conC (joinC a b) lo hi) = true) : addV (conC a lo hi) (conC b lo hi) = (conC (joinC a b) lo hi, 0) := by
  unfold addV
  rw [if_pos ⟨hx, hy⟩, if_pos, dual ha hb hlh]
  · exact if_pos hj
  · rw [con_len, con_len]
    show max lo lo ≤ min (lo + ((hi - lo).toNat : Int)) (lo + ((hi - lo).toNat : Int))
    omega
theorem addV_len (a b : Cu) : (addV a b).1.sl.length ≤ 64 := by
  unfold addV
  split
  · split
    · exact res2_len _
    · exact Nat.zero_le _
  · exact Nat.zero_le _

set_option maxHeartbeats 8000000 in
set_option maxRecDepth 100000 in
theorem dual_law (a b : Cu) (A1 : Option Addr) (n1 k1 : Nat) (A2 : Option Addr) (n2 k2 : Nat) (lo hi : Int) (w : World)
    (ha : CuAt w.heap.size w a A1 n1 k1) (hb : CuAt w.heap.size w b A2 n2 k2) (h1 : n1 ≤ 9223372036854775807) (h2 : n2 ≤ 9223372036854775807) :
    Calls Try.prog 10 #[.agg #[.int .i64 a.fr, .int .i64 a.fst, .slice A1 n1 k1], .agg #[.int .i64 b.fr, .int .i64 b.fst, .slice A2 n2 k2], .int .i64 lo, .int .i64 hi] w (LawPost w) := by
  have mixed := mixedOrders
  obtain ⟨p, hp⟩ : ∃ p, w.heap.size = p := ⟨_, rfl⟩
  obtain ⟨W1, hW1⟩ : ∃ W1, (w.alloc (.cells #[.int .i64 a.fr, .int .i64 a.fst, .slice A1 n1 k1] 24)).alloc (.cells #[.int .i64 b.fr, .int .i64 b.fst, .slice A2 n2 k2] 24) = W1 := ⟨_, rfl⟩
  have hXa : Box W1 p a A1 n1 k1 := by
    rw [← hW1, ← hp]
    exact (box_new ha h1).gr ((Gr.refl _).alloc _)
  have hXb : Box W1 (p + 1) b A2 n2 k2 := by
    rw [← hW1, ← hp]
    have h := box_new (hb.gr ((Gr.refl w).alloc (.cells #[.int .i64 a.fr, .int .i64 a.fst, .slice A1 n1 k1] 24))) h2
    rw [World.size_alloc] at h
    exact h
  have HB1 : Hid (Below w.heap.size w W1) := by show Below _ _ _; rw [← hW1]; exact (((Gr.refl w).alloc _).alloc _).below
  have HXa1 := hide hXa
  have HXb1 := hide hXb
  clear hXa hXb ha hb
  obtain ⟨⟨j, e1⟩, hj1⟩ : ∃ q, joinV a b = q := ⟨_, rfl⟩
  have HE1 := hide hj1
  have HJ := hide (Join_any a b A1 n1 k1 A2 n2 k2 W1 HXa1.out.cu HXb1.out.cu HXa1.out.big HXb1.out.big)
  rw [hj1] at HJ
  have hl1 : j.sl.length ≤ 64 := by have := joinV_len a b; rw [hj1] at this; exact this
  obtain ⟨a0, a1, a2⟩ := HXa1.out.cells
  obtain ⟨b0, b1, b2⟩ := HXb1.out.cells
  clear hj1
  go_enter Try.func10, Try.ntmps10
  go_wp2_with fail
  try rw [hp]
  refine HJ.out.mono ?_
  rintro e w2 hpost
  obtain ⟨A4, n4, k4, rfl, hb2, hX4⟩ := hpost.laid hl1
  obtain ⟨W2, hW2⟩ : ∃ W, w2.alloc (.cells #[.int .i64 j.fr, .int .i64 j.fst, .slice A4 n4 k4] 24) = W := ⟨_, rfl⟩
  obtain ⟨g4, hg4⟩ : ∃ q, w2.heap.size = q := ⟨_, rfl⟩
  rw [hW2, hg4] at hX4
  have hb2' : Below W1.heap.size W1 W2 := by rw [← hW2]; exact hb2.alloc hb2.size _
  have HB2 := hide (HB1.out.trans (hb2'.mono HB1.out.size))
  have HXa2 := hide (HXa1.out.below hb2')
  have HXb2 := hide (HXb1.out.below hb2')
  have HX42 := hide hX4
  clear HJ hb2 hb2' hX4 hpost HB1 HXa1 HXb1 a0 a1 a2 b0 b1 b2
  by_cases h0 : e1 = 0
  · subst h0
    obtain ⟨hva, hvb, hab, hvab⟩ := joinV_zero HE1.out rfl
    have HVA := hide hva
    have HVB := hide hvb
    have HJE := hide hab
    obtain ⟨⟨wj, e2⟩, hj2⟩ : ∃ q, conV j lo hi = q := ⟨_, rfl⟩
    obtain ⟨⟨x, e3⟩, hj3⟩ : ∃ q, conV a lo hi = q := ⟨_, rfl⟩
    obtain ⟨⟨y, e4⟩, hj4⟩ : ∃ q, conV b lo hi = q := ⟨_, rfl⟩
    have hl2 : wj.sl.length ≤ 64 := by have := conV_len j lo hi; rw [hj2] at this; exact this
    have hl3 : x.sl.length ≤ 64 := by have := conV_len a lo hi; rw [hj3] at this; exact this
    have hl4 : y.sl.length ≤ 64 := by have := conV_len b lo hi; rw [hj4] at this; exact this
    have HE2 := hide hj2
    have HE3 := hide hj3
    have HE4 := hide hj4
    have HC2 := hide (Conj_any j A4 n4 k4 lo hi W2 HX42.out.cu HX42.out.big)
    rw [hj2] at HC2
    have HC3 := hide (fun W' (hh : Below W2.heap.size W2 W') => Conj_any a A1 n1 k1 lo hi W' (HXa2.out.below hh).cu HXa2.out.big)
    rw [hj3] at HC3
    have HC4 := hide (fun W' (hh : Below W2.heap.size W2 W') => Conj_any b A2 n2 k2 lo hi W' (HXb2.out.below hh).cu HXb2.out.big)
    rw [hj4] at HC4
    obtain ⟨d0, d1, d2⟩ := HX42.out.cells
    clear hva hvb hab hvab hj2 hj3 hj4
    go_wp2_with fail
    refine HC2.out.mono ?_
    rintro e w3 hpost
    obtain ⟨A5, n5, k5, rfl, hbn, hXn⟩ := hpost.laid hl2
    obtain ⟨W3, hW3⟩ : ∃ W, w3.alloc (.cells #[.int .i64 wj.fr, .int .i64 wj.fst, .slice A5 n5 k5] 24) = W := ⟨_, rfl⟩
    obtain ⟨g5, hg5⟩ : ∃ q, w3.heap.size = q := ⟨_, rfl⟩
    rw [hW3, hg5] at hXn
    have hbn' : Below W2.heap.size W2 W3 := by rw [← hW3]; exact hbn.alloc hbn.size _
    have HB3 := hide (HB2.out.trans (hbn'.mono HB2.out.size))
    have HXa3 := hide (HXa2.out.below hbn')
    have HXb3 := hide (HXb2.out.below hbn')
    have HX53 := hide hXn
    have HC3 := hide (HC3.out W3 hbn')
    have HC4 := hide (fun W' (hh : Below W3.heap.size W3 W') => HC4.out W' (hbn'.trans (hh.mono hbn'.size)))
    clear HC2 hbn hbn' hXn hpost HB2 HXa2 HXb2 HX42 d0 d1 d2 hW2 hg4
    obtain ⟨a0, a1, a2⟩ := HXa3.out.cells
    go_wp2_with fail
    refine HC3.out.mono ?_
    rintro e w4 hpost
    obtain ⟨A6, n6, k6, rfl, hbn, hXn⟩ := hpost.laid hl3
    obtain ⟨W4, hW4⟩ : ∃ W, w4.alloc (.cells #[.int .i64 x.fr, .int .i64 x.fst, .slice A6 n6 k6] 24) = W := ⟨_, rfl⟩
    obtain ⟨g6, hg6⟩ : ∃ q, w4.heap.size = q := ⟨_, rfl⟩
    rw [hW4, hg6] at hXn
    have hbn' : Below W3.heap.size W3 W4 := by rw [← hW4]; exact hbn.alloc hbn.size _
    have HB4 := hide (HB3.out.trans (hbn'.mono HB3.out.size))
    have HXb4 := hide (HXb3.out.below hbn')
    have HX54 := hide (HX53.out.below hbn')
    have HX64 := hide hXn
    have HC4 := hide (HC4.out W4 hbn')
    clear HC3 hbn hbn' hXn hpost HB3 HXa3 HXb3 HX53 a0 a1 a2 hW3 hg5
    obtain ⟨b0, b1, b2⟩ := HXb4.out.cells
    go_wp2_with fail
    refine HC4.out.mono ?_
    rintro e w5 hpost
    obtain ⟨A7, n7, k7, rfl, hbn, hXn⟩ := hpost.laid hl4
    obtain ⟨W5, hW5⟩ : ∃ W, w5.alloc (.cells #[.int .i64 y.fr, .int .i64 y.fst, .slice A7 n7 k7] 24) = W := ⟨_, rfl⟩
    obtain ⟨g7, hg7⟩ : ∃ q, w5.heap.size = q := ⟨_, rfl⟩
    rw [hW5, hg7] at hXn
    have hbn' : Below W4.heap.size W4 W5 := by rw [← hW5]; exact hbn.alloc hbn.size _
    have HB5 := hide (HB4.out.trans (hbn'.mono HB4.out.size))
    have HX55 := hide (HX54.out.below hbn')
    have HX65 := hide (HX64.out.below hbn')
    have HX75 := hide hXn
    clear HC4 hbn hbn' hXn hpost HB4 HXb4 HX54 HX64 b0 b1 b2 hW4 hg6
    by_cases h2 : e2 = 0
    · by_cases h3 : e3 = 0
      · by_cases h4 : e4 = 0
        · subst h2 h3 h4
          have hsum : addV x y = (wj, 0) := by
            obtain ⟨q1, -, q2, -, -, q3, q4⟩ := conV_zero HE2.out rfl
            obtain ⟨-, -, -, -, -, r3, r4⟩ := conV_zero HE3.out rfl
            obtain ⟨-, -, -, -, -, s3, s4⟩ := conV_zero HE4.out rfl
            rw [r3] at r4 ⊢
            rw [s3] at s4 ⊢
            rw [q3, HJE.out] at q4 ⊢
            exact add_conj HVA.out HVB.out q2 r4 s4 q4
          have HAD := hide (Add_any x y A6 n6 k6 A7 n7 k7 W5 HX65.out.cu HX75.out.cu HX65.out.big HX75.out.big)
          rw [hsum] at HAD
          obtain ⟨c0, c1, c2⟩ := HX65.out.cells
          obtain ⟨d0, d1, d2⟩ := HX75.out.cells
          clear hsum
          go_wp2_with fail
          refine HAD.out.mono ?_
          rintro e w6 hpost
          obtain ⟨A8, n8, k8, rfl, hbn, hXn⟩ := hpost.laid hl2
          obtain ⟨W6, hW6⟩ : ∃ W, w6.alloc (.cells #[.int .i64 wj.fr, .int .i64 wj.fst, .slice A8 n8 k8] 24) = W := ⟨_, rfl⟩
          obtain ⟨g8, hg8⟩ : ∃ q, w6.heap.size = q := ⟨_, rfl⟩
          rw [hW6, hg8] at hXn
          have hbn' : Below W5.heap.size W5 W6 := by rw [← hW6]; exact hbn.alloc hbn.size _
          have HB6 := hide (HB5.out.trans (hbn'.mono HB5.out.size))
          have HX56 := hide (HX55.out.below hbn')
          have HX86 := hide hXn
          have HL := hide (alike_any wj wj A8 n8 k8 A5 n5 k5 W6 HX86.out.cu.sl HX56.out.cu.sl HX86.out.big HX56.out.big)
          rw [likeB_refl] at HL
          clear HAD hbn hbn' hXn hpost HB5 HX55 HX65 HX75 c0 c1 c2 d0 d1 d2 hW5 hg7
          obtain ⟨c0, c1, c2⟩ := HX86.out.cells
          obtain ⟨d0, d1, d2⟩ := HX56.out.cells
          go_wp2_with fail
          refine HL.out.mono ?_
          rintro e w7 ⟨rfl, hG7⟩
          have HB7 := hide (HB6.out.trans (hG7.below.mono HB6.out.size))
          clear hG7 HL c0 c1 c2 d0 d1 d2
          go_wp2_with fail
          refine (alive_any w7).mono ?_
          rintro e w8 ⟨rfl, hb8⟩
          have HB8 := hide (HB7.out.trans (hb8.mono HB7.out.size))
          clear hb8
          go_wp2
          go_ret
          exact ⟨rfl, HB8.out⟩
        · have hq4 : (e4 != 0) = true := by rw [bne_iff_ne]; exact h4
          subst h2 h3
          skip
          go_wp2_with fail
          refine (alive_any _).mono ?_
          rintro e w8 ⟨rfl, hb8⟩
          have HB8 := hide (HB5.out.trans (hb8.mono HB5.out.size))
          clear hb8
          go_wp2
          go_ret
          exact ⟨rfl, HB8.out⟩
      · have hq3 : (e3 != 0) = true := by rw [bne_iff_ne]; exact h3
        subst h2
        skip
        go_wp2_with fail
        refine (alive_any _).mono ?_
        rintro e w8 ⟨rfl, hb8⟩
        have HB8 := hide (HB5.out.trans (hb8.mono HB5.out.size))
        clear hb8
        go_wp2
        go_ret
        exact ⟨rfl, HB8.out⟩
    · have hq2 : (e2 != 0) = true := by rw [bne_iff_ne]; exact h2
      skip
      go_wp2_with fail
      refine (alive_any _).mono ?_
      rintro e w8 ⟨rfl, hb8⟩
      have HB8 := hide (HB5.out.trans (hb8.mono HB5.out.size))
      clear hb8
      go_wp2
      go_ret
      exact ⟨rfl, HB8.out⟩
  · have hn0 : (e1 != 0) = true := by rw [bne_iff_ne]; exact h0
    go_wp2_with fail
    refine (alive_any _).mono ?_
    rintro e w8 ⟨rfl, hb8⟩
    have HB8 := hide (HB2.out.trans (hb8.mono HB2.out.size))
    clear hb8
    go_wp2
    go_ret
    exact ⟨rfl, HB8.out⟩

end Go.Proofs.Ytdepnhnpklbmiaa