/- The walk of the law on sums, flips, tilts, moves and parts. -/
import Derived.Test.YtdepnhnpklbmiaaQ5
import Derived.Test.YtdepnhnpklbmiaaV9
import Derived.Test.YtdepnhnpklbmiaaB26
import Derived.Test.YtdepnhnpklbmiaaB25
namespace Go.Proofs.Ytdepnhnpklbmiaa
open Go.RowKit Go.Sort

theorem addV_len7 (a b : Cu) : (addV a b).1.sl.length ≤ 64 := by
  unfold addV
  split
  · split
    · exact res2_len _
    · exact Nat.zero_le _
  · exact Nat.zero_le _
theorem flipV_len (a : Cu) : (flipV a).1.sl.length ≤ 64 := by
  unfold flipV
  split
  · exact res2_len _
  · exact Nat.zero_le _
theorem tiltV_len (a : Cu) (d : Int) : (tiltV a d).1.sl.length ≤ 64 := by
  unfold tiltV
  split
  · exact res2_len _
  · exact Nat.zero_le _
theorem moveV_len (a : Cu) (d u : Int) : (moveV a d u).1.sl.length ≤ 64 := by
  unfold moveV
  split
  · exact res2_len _
  · exact Nat.zero_le _
theorem partV_len (a : Cu) (d u : Int) : (partV a d u).1.sl.length ≤ 64 := by
  unfold partV
  split
  · split
    · exact Nat.zero_le _
    · exact res2_len _
  · exact Nat.zero_le _

/-- what stands between the tests: the argument and the variable -/
structure Con (w W : World) (p g : Nat) (a : Cu) (A : Option Addr) (n cap : Nat) : Prop where
  arg : W.heap[p]? = some (.cells #[.int .i64 a.fr, .int .i64 a.fst, .slice A n cap] 24 (0, 0))
  var : ∃ x y z, W.heap[g]? = some (.cells #[x, y, z] 24 (0, 0))
  below : Below w.heap.size w W
  pg : p < g
  wp : w.heap.size ≤ p
theorem Con.lt {w W : World} {p g : Nat} {a : Cu} {A : Option Addr} {n cap : Nat} (h : Con w W p g a A n cap) : g < W.heap.size := by
  obtain ⟨x, y, z, hz⟩ := h.var
  exact (Array.getElem?_eq_some_iff.1 hz).1
theorem Con.next {w W W' : World} {p g : Nat} {a : Cu} {A : Option Addr} {n cap : Nat} (h : Con w W p g a A n cap) (hb : Below W.heap.size W W') : Con w W' p g a A n cap :=
  ⟨(hb.block p (Nat.lt_trans h.pg h.lt)).trans h.arg, by obtain ⟨x, y, z, hz⟩ := h.var; exact ⟨x, y, z, (hb.block g h.lt).trans hz⟩, h.below.trans (hb.mono h.below.size), h.pg, h.wp⟩
theorem Con.set {w W : World} {p g : Nat} {a : Cu} {A : Option Addr} {n cap : Nat} (h : Con w W p g a A n cap) (x y z : Value) : Con w (set3 W g x y z) p g a A n cap := by
  have hpg := h.pg
  have hwp := h.wp
  refine ⟨?_, ?_, set3_below h.below (by omega) x y z, h.pg, h.wp⟩
  · unfold set3
    rw [Below.heap_setCell _ _ _ _ (by show p ≠ g; omega), Below.heap_setCell _ _ _ _ (by show p ≠ g; omega), Below.heap_setCell _ _ _ _ (by show p ≠ g; omega)]
    exact h.arg
  · obtain ⟨x', y', z', hz⟩ := h.var
    exact ⟨x, y, z, set3_heap hz x y z⟩
theorem Con.cells {w W : World} {p g : Nat} {a : Cu} {A : Option Addr} {n cap : Nat} (h : Con w W p g a A n cap) :
    W.cell? ⟨p, 0, none⟩ = some (.int .i64 a.fr) ∧ W.cell? ⟨p, 1, none⟩ = some (.int .i64 a.fst) ∧ W.cell? ⟨p, 2, none⟩ = some (.slice A n cap) := by
  have h0 := cell_of_heap' h.arg 0
  have h1 := cell_of_heap' h.arg 1
  have h2 := cell_of_heap' h.arg 2
  simp at h0 h1 h2
  exact ⟨h0, h1, h2⟩
theorem Con.room {w W : World} {p g : Nat} {a : Cu} {A : Option Addr} {n cap : Nat} (h : Con w W p g a A n cap) :
    ∃ x y z, W.cell? ⟨g, 0, none⟩ = some x ∧ W.cell? ⟨g, 1, none⟩ = some y ∧ W.cell? ⟨g, 2, none⟩ = some z ∧ W.frozen? ⟨g, 0, none⟩ = false ∧ W.frozen? ⟨g, 1, none⟩ = false ∧ W.frozen? ⟨g, 2, none⟩ = false := by
  obtain ⟨x, y, z, hz⟩ := h.var
  have h0 := cell_of_heap' hz 0
  have h1 := cell_of_heap' hz 1
  have h2 := cell_of_heap' hz 2
  simp at h0 h1 h2
  exact ⟨x, y, z, h0, h1, h2, frozen_of_heap' hz 0, frozen_of_heap' hz 1, frozen_of_heap' hz 2⟩
/-- a curve that a call returned, laid over a variable's block -/
theorem CuPost.over {c : Cu} {e0 : Int} {w0 : World} {e : Ending} {w' : World} (h : CuPost (c, e0) w0 e w') (hn : c.sl.length ≤ 64) :
    ∃ A n cap, e = .returned (.tuple #[.agg #[.int .i64 c.fr, .int .i64 c.fst, .slice A n cap], .int .i64 e0]) ∧ Below w0.heap.size w0 w' ∧ n ≤ 9223372036854775807 ∧ ∀ g x y z, g < w0.heap.size → CuAt (set3 w' g x y z).heap.size (set3 w' g x y z) c A n cap := by
  obtain ⟨A, n, cap, rfl, ho, hb⟩ := h
  have hl : c.sl.length = n := by simpa using ho.1
  exact ⟨A, n, cap, rfl, hb, by omega, fun g x y z hg => cu_of_own (own_set3 ho hg x y z)⟩

set_option maxHeartbeats 16000000 in
set_option maxRecDepth 100000 in
theorem convex_law (a b : Cu) (A1 : Option Addr) (n1 k1 : Nat) (A2 : Option Addr) (n2 k2 : Nat) (P x y z : Int) (w : World)
    (ha : CuAt w.heap.size w a A1 n1 k1) (hb : CuAt w.heap.size w b A2 n2 k2) (h1 : n1 ≤ 9223372036854775807) (h2 : n2 ≤ 9223372036854775807) (hcap : n1 ≤ k1) (hz : -9223372036854775808 ≤ z ∧ z ≤ 9223372036854775807) :
    Calls Try.prog 7 #[.agg #[.int .i64 a.fr, .int .i64 a.fst, .slice A1 n1 k1], .agg #[.int .i64 b.fr, .int .i64 b.fst, .slice A2 n2 k2], .int .i64 P, .int .i64 x, .int .i64 y, .int .i64 z] w (LawPost w) := by
  have mixed := mixedOrders
  obtain ⟨p, hp⟩ : ∃ p, w.heap.size = p := ⟨_, rfl⟩
  obtain ⟨W1, hW1⟩ : ∃ W1, (w.alloc (.cells #[.int .i64 a.fr, .int .i64 a.fst, .slice A1 n1 k1] 24)).alloc (.cells #[.int .i64 b.fr, .int .i64 b.fst, .slice A2 n2 k2] 24) = W1 := ⟨_, rfl⟩
  have hXa : Box W1 p a A1 n1 k1 := by
    rw [← hW1, ← hp]
    exact (box_new ha h1).gr ((Gr.refl _).alloc _)
  have hXb : Box W1 (p + 1) b A2 n2 k2 := by
    rw [← hW1, ← hp]
    have h := box_new (hb.gr ((Gr.refl w).alloc (.cells #[.int .i64 a.fr, .int .i64 a.fst, .slice A1 n1 k1] 24))) h2
    rw [World.size_alloc] at h
    exact h
  have HB1 : Hid (Below w.heap.size w W1) := by show Below _ _ _; rw [← hW1]; exact (((Gr.refl w).alloc _).alloc _).below
  have HXa1 := hide hXa
  have HXb1 := hide hXb
  have HA := hide ha
  have HZ := hide hz
  have HVA := hide (Valid_any a A1 n1 k1 W1 hXa.cu.sl h1)
  obtain ⟨a0, a1, a2⟩ := hXa.cells
  clear hXa hXb ha hb hz
  go_enter Try.func7, Try.ntmps7
  go_wp2_with fail
  try rw [hp]
  refine HVA.out.mono ?_
  rintro e w2 ⟨rfl, hG2⟩
  have HB2 := hide (HB1.out.trans (hG2.below.mono HB1.out.size))
  have HXa2 := hide (HXa1.out.gr hG2)
  have HXb2 := hide (HXb1.out.gr hG2)
  clear HVA hG2 HB1 HXa1 HXb1 a0 a1 a2 hW1
  cases hva : okC a
  · have HNO : Hid (¬ (okC a = true ∧ okC b = true)) := fun h => by rw [hva] at h; exact absurd h.1 (by decide)
    clear hva
    obtain ⟨⟨c1, e1⟩, hj1⟩ : ∃ q, addV a b = q := ⟨_, rfl⟩
    have he1 : e1 = 2 := by rw [addV_bad HNO.out] at hj1; injection hj1 with _ h; exact h.symm
    have hl1 : c1.sl.length ≤ 64 := by have := addV_len7 a b; rw [hj1] at this; exact this
    have hq1 : (e1 == 2) = true := by rw [he1]; rfl
    have HAD := hide (Add_any a b A1 n1 k1 A2 n2 k2 w2 HXa2.out.cu HXb2.out.cu HXa2.out.big HXb2.out.big)
    rw [hj1] at HAD
    obtain ⟨a0, a1, a2⟩ := HXa2.out.cells
    obtain ⟨b0, b1, b2⟩ := HXb2.out.cells
    clear he1 hj1
    go_wp2_with fail
    refine HAD.out.mono ?_
    rintro e w4 hpost
    obtain ⟨A5, n5, k5, rfl, hb4, -⟩ := hpost.laid hl1
    have HBx : Hid (∀ o, Below w.heap.size w (w4.alloc o)) := fun o => (HB2.out.trans (hb4.mono HB2.out.size)).alloc (HB2.out.trans (hb4.mono HB2.out.size)).size o
    clear HAD hpost hb4 a0 a1 a2 b0 b1 b2
    go_wp2_with fail
    refine (alive_any _).mono ?_
    rintro e w8 ⟨rfl, hb8⟩
    have HB8 := hide ((HBx.out _).trans (hb8.mono (HBx.out _).size))
    clear hb8
    go_wp2
    go_ret
    exact ⟨rfl, HB8.out⟩
  have HVAA := hide hva
  have HVB := hide (Valid_any b A2 n2 k2 w2 HXb2.out.cu.sl HXb2.out.big)
  obtain ⟨b0, b1, b2⟩ := HXb2.out.cells
  clear hva
  go_wp2_with fail
  refine HVB.out.mono ?_
  rintro e w3 ⟨rfl, hG3⟩
  have HB3 := hide (HB2.out.trans (hG3.below.mono HB2.out.size))
  have HXa3 := hide (HXa2.out.gr hG3)
  have HXb3 := hide (HXb2.out.gr hG3)
  clear HVB hG3 HB2 HXa2 HXb2 b0 b1 b2
  cases hvb : okC b
  · have HNO : Hid (¬ (okC a = true ∧ okC b = true)) := fun h => by rw [hvb] at h; exact absurd h.2 (by decide)
    clear hvb
    obtain ⟨⟨c1, e1⟩, hj1⟩ : ∃ q, addV a b = q := ⟨_, rfl⟩
    have he1 : e1 = 2 := by rw [addV_bad HNO.out] at hj1; injection hj1 with _ h; exact h.symm
    have hl1 : c1.sl.length ≤ 64 := by have := addV_len7 a b; rw [hj1] at this; exact this
    have hq1 : (e1 == 2) = true := by rw [he1]; rfl
    have HAD := hide (Add_any a b A1 n1 k1 A2 n2 k2 w3 HXa3.out.cu HXb3.out.cu HXa3.out.big HXb3.out.big)
    rw [hj1] at HAD
    obtain ⟨a0, a1, a2⟩ := HXa3.out.cells
    obtain ⟨b0, b1, b2⟩ := HXb3.out.cells
    clear he1 hj1
    go_wp2_with fail
    refine HAD.out.mono ?_
    rintro e w4 hpost
    obtain ⟨A5, n5, k5, rfl, hb4, -⟩ := hpost.laid hl1
    have HBx : Hid (∀ o, Below w.heap.size w (w4.alloc o)) := fun o => (HB3.out.trans (hb4.mono HB3.out.size)).alloc (HB3.out.trans (hb4.mono HB3.out.size)).size o
    clear HAD hpost hb4 a0 a1 a2 b0 b1 b2
    go_wp2_with fail
    refine (alive_any _).mono ?_
    rintro e w8 ⟨rfl, hb8⟩
    have HB8 := hide ((HBx.out _).trans (hb8.mono (HBx.out _).size))
    clear hb8
    go_wp2
    go_ret
    exact ⟨rfl, HB8.out⟩
  have HVBB := hide hvb
  clear hvb
  obtain ⟨u, hu⟩ : ∃ u, (atV a z).1 = u := ⟨_, rfl⟩
  obtain ⟨bi, hbi⟩ : ∃ q, ((atV a z).2 == 0) = q := ⟨_, rfl⟩
  obtain ⟨v, hv⟩ : ∃ u, (atV b z).1 = u := ⟨_, rfl⟩
  obtain ⟨bh, hbh⟩ : ∃ q, ((atV b z).2 == 0) = q := ⟨_, rfl⟩
  have HAT1 := hide (lawAt_any a A1 n1 k1 z w3 HXa3.out.cu HXa3.out.big)
  have HAT2 := hide (fun W' hh => lawAt_any b A2 n2 k2 z W' (HXb3.out.below hh).cu HXb3.out.big)
  rw [hu, hbi] at HAT1
  rw [hv, hbh] at HAT2
  have HI : Hid (bi = true ↔ (atV a z).2 = 0) := by show _ ↔ _; rw [← hbi, beq_iff_eq]
  have HH : Hid (bh = true ↔ (atV b z).2 = 0) := by show _ ↔ _; rw [← hbh, beq_iff_eq]
  have HUV := hide (show (atV a z).1 = u ∧ (atV b z).1 = v from ⟨hu, hv⟩)
  have HRU : Hid (bi = true → (-1125899906842624 ≤ u ∧ u ≤ 1125899906842624) ∧ -2097152 ≤ z ∧ z ≤ 2097152) := fun h => by rw [← HUV.out.1]; exact at_range (HI.out.1 h)
  have HRV : Hid (bh = true → (-1125899906842624 ≤ v ∧ v ≤ 1125899906842624)) := fun h => by rw [← HUV.out.2]; exact (at_range (HH.out.1 h)).1
  obtain ⟨a0, a1, a2⟩ := HXa3.out.cells
  clear hu hv hbi hbh
  go_wp2_with fail
  refine HAT1.out.mono ?_
  rintro e w4 ⟨rfl, hb4⟩
  have HB4 := hide (HB3.out.trans (hb4.mono HB3.out.size))
  have HXa4 := hide (HXa3.out.below hb4)
  have HXb4 := hide (HXb3.out.below hb4)
  have HAT2 := hide (HAT2.out w4 hb4)
  obtain ⟨b0, b1, b2⟩ := HXb4.out.cells
  clear HAT1 hb4 HB3 HXa3 HXb3 a0 a1 a2
  go_wp2_with fail
  refine HAT2.out.mono ?_
  rintro e w5 ⟨rfl, hb5⟩
  have HB5 := hide (HB4.out.trans (hb5.mono HB4.out.size))
  have HXa5 := hide (HXa4.out.below hb5)
  have HXb5 := hide (HXb4.out.below hb5)
  obtain ⟨a0, a1, a2⟩ := HXa5.out.cells
  obtain ⟨b0, b1, b2⟩ := HXb5.out.cells
  clear HAT2 hb5 HB4 HXa4 HXb4
  obtain ⟨⟨c, e1⟩, hj1⟩ : ∃ q, addV a b = q := ⟨_, rfl⟩
  have hl1 : c.sl.length ≤ 64 := by have := addV_len7 a b; rw [hj1] at this; exact this
  have HAD := hide (Add_any a b A1 n1 k1 A2 n2 k2 w5 HXa5.out.cu HXb5.out.cu HXa5.out.big HXb5.out.big)
  rw [hj1] at HAD
  have HJ := hide hj1
  clear hj1
  go_wp2_with fail
  refine HAD.out.mono ?_
  rintro e w6 hpost
  obtain ⟨A5, n5, k5, rfl, hb6, hX6⟩ := hpost.laid hl1
  obtain ⟨W6, hW6⟩ : ∃ W, w6.alloc (.cells #[.int .i64 c.fr, .int .i64 c.fst, .slice A5 n5 k5] 24) = W := ⟨_, rfl⟩
  obtain ⟨g, hg⟩ : ∃ q, w6.heap.size = q := ⟨_, rfl⟩
  rw [hW6, hg] at hX6
  have hb6' : Below w5.heap.size w5 W6 := by rw [← hW6]; exact hb6.alloc hb6.size _
  have hpg : p < g := by have := HXa5.out.lt; have := hb6.size; omega
  have HC6 : Hid (Con w W6 p g a A1 n1 k1) := ⟨(HXa5.out.below hb6').hp, ⟨_, _, _, hX6.hp⟩, HB5.out.trans (hb6'.mono HB5.out.size), hpg, by omega⟩
  have HX6 := hide hX6
  obtain ⟨wv, hwv⟩ : ∃ u, (atV c z).1 = u := ⟨_, rfl⟩
  obtain ⟨bw, hbw⟩ : ∃ q, ((atV c z).2 == 0) = q := ⟨_, rfl⟩
  have HAT := hide (lawAt_any c A5 n5 k5 z W6 hX6.cu hX6.big)
  rw [hwv, hbw] at HAT
  have HT : Hid (e1 = 0 → okC c = true ∧ (bw = true ↔ bi = true ∧ bh = true) ∧ (bw = true → wv = u + v)) := fun h => by
    have hJ := HJ.out
    rw [h] at hJ
    have h3 := add_at hJ z
    rw [hwv, HUV.out.1, HUV.out.2, ← HI.out, ← HH.out] at h3
    rw [← hbw, beq_iff_eq]
    exact h3
  obtain ⟨c0, c1, c2⟩ := hX6.cells
  clear HAD hpost hb6 hb6' hX6 HB5 HXa5 HXb5 a0 a1 a2 b0 b1 b2 hwv hbw hpg
  go_wp2_with fail
  refine HAT.out.mono ?_
  rintro e w7 ⟨rfl, hb7⟩
  have HC7 := hide (HC6.out.next hb7)
  have HX7 := hide (HX6.out.below hb7)
  have HV := hide (Valid_any c A5 n5 k5 w7 HX7.out.cu.sl HX7.out.big)
  obtain ⟨c0', c1', c2'⟩ := HX7.out.cells
  clear HAT hb7 HC6 HX6 c0 c1 c2 hW6 hg
  go_upto_region 8 with fail
  go_cut [90] (fun s90 wx => s90 = .bool false ∧ Hid (Con w wx p g a A1 n1 k1))
  case first => as_aux_lemma =>
    by_cases he : e1 = 0
    · obtain ⟨t1, t2, t3⟩ := HT.out he
      subst he
      rw [t1] at HV
      have T2 := hide t2
      have T3 := hide t3
      clear t1 t2 t3 HT
      have FIN : Hid True := trivial
      go_wp2_with fail
      refine HV.out.mono ?_
      rintro e w8 ⟨rfl, hG8⟩
      have HC8 := hide (HC7.out.next hG8.below)
      clear hG8 HV c0' c1' c2'
      cases bi
      · have hw : bw = false := by cases h : bw with | false => rfl | true => exact absurd (T2.out.1 h).1 (by decide)
        subst hw
        go_wp2_with fail
        go_meet
        exact ⟨rfl, HC8⟩
      · cases bh
        · have hw : bw = false := by cases h : bw with | false => rfl | true => exact absurd (T2.out.1 h).2 (by decide)
          subst hw
          go_wp2_with fail
          go_meet
          exact ⟨rfl, HC8⟩
        · have hw : bw = true := T2.out.2 ⟨rfl, rfl⟩
          subst hw
          have hq : IntKind.i64.wrap (u + v) = wv := by have := T3.out rfl; have := HRU.out rfl; have := HRV.out rfl; rw [IntKind.wrap_i64]; omega
          have hr : (wv != wv) = false := by simp
          go_wp2_with fail
          go_meet
          exact ⟨rfl, HC8⟩
    · have hq : (e1 == 0) = false := beq_eq_false_iff_ne.2 he
      clear he
      go_wp2_with fail
      go_meet
      exact ⟨rfl, HC7⟩
  case rest => as_aux_lemma =>
    obtain ⟨rfl, HC⟩ := hcut
    clear HC7 HX7 HV HT HJ HH HRV c0' c1' c2'
    clear HVBB
    obtain ⟨⟨c2, e2⟩, hj1⟩ : ∃ q, flipV a = q := ⟨_, rfl⟩
    have hl1 : c2.sl.length ≤ 64 := by have := flipV_len a; rw [hj1] at this; exact this
    have HFL := hide (Flip_any a A1 n1 k1 wc (HA.out.now HC.out.below (Nat.le_refl _)) h1)
    rw [hj1] at HFL
    have HJ := hide hj1
    obtain ⟨a0, a1, a2⟩ := HC.out.cells
    clear hj1
    go_wp2_with fail
    refine HFL.out.mono ?_
    rintro e w5 hpost
    obtain ⟨A5, n5, k5, rfl, hb5, hbig, hS⟩ := hpost.over hl1
    have HC5 := hide (HC.out.next hb5)
    obtain ⟨r0, r1, r2, e0, e1', e2', y0, y1, y2⟩ := HC5.out.room
    have HS := hide (hS g (.int .i64 c2.fr) (.int .i64 c2.fst) (.slice A5 n5 k5) HC.out.lt)
    have HC6 := hide (HC5.out.set (.int .i64 c2.fr) (.int .i64 c2.fst) (.slice A5 n5 k5))
    clear HFL hpost hb5 hS a0 a1 a2
    obtain ⟨mz, hmz⟩ : ∃ q, IntKind.i64.wrap (-z) = q := ⟨_, rfl⟩
    obtain ⟨wv, hwv⟩ : ∃ u, (atV c2 mz).1 = u := ⟨_, rfl⟩
    obtain ⟨bw, hbw⟩ : ∃ q, ((atV c2 mz).2 == 0) = q := ⟨_, rfl⟩
    have HAT := hide (lawAt_any c2 A5 n5 k5 mz _ HS.out hbig)
    rw [hwv, hbw] at HAT
    have HT : Hid (e2 = 0 → -1099511627776 < z → okC c2 = true ∧ (bw = true ↔ bi = true) ∧ (bw = true → wv = u)) := fun h hz => by
      have hJ := HJ.out
      rw [h] at hJ
      have hmz' : mz = -z := by have := HZ.out; rw [← hmz, IntKind.wrap_i64]; omega
      rw [hmz'] at hwv hbw
      have h3 := flip_at HVAA.out hJ z
      rw [hwv, HUV.out.1, ← HI.out] at h3
      rw [← hbw, beq_iff_eq]
      exact h3
    clear hwv hbw
    go_wp2_with fail
    refine HAT.out.mono ?_
    rintro e w7 ⟨rfl, hb7⟩
    have HC7 := hide (HC6.out.next hb7)
    have hcu := HS.out.now hb7 (Nat.le_refl _)
    have hp7 := (hb7.block g HC6.out.lt).trans (set3_heap HC5.out.var.choose_spec.choose_spec.choose_spec (.int .i64 c2.fr) (.int .i64 c2.fst) (.slice A5 n5 k5))
    have HV := hide (Valid_any c2 A5 n5 k5 w7 hcu.sl hbig)
    have c0' := cell_of_heap' hp7 0
    have c1' := cell_of_heap' hp7 1
    have c2' := cell_of_heap' hp7 2
    simp at c0' c1' c2'
    clear HAT hb7 hcu hp7 HC5 HC6 HS e0 e1' e2' y0 y1 y2
    go_upto_region 12 with fail
    go_cut [126] (fun s126 wx => s126 = .bool false ∧ Hid (Con w wx p g a A1 n1 k1))
    case first => as_aux_lemma =>
      by_cases he : e2 = 0
      · by_cases hzz : -1099511627776 < z
        · have hd : decide (-1099511627776 < z) = true := decide_eq_true hzz
          subst he
          obtain ⟨t1, t2, t3⟩ := HT.out rfl hzz
          rw [t1] at HV
          have T2 := hide t2
          have T3 := hide t3
          clear t1 t2 t3 HT
          go_wp2_with fail
          refine HV.out.mono ?_
          rintro e w8 ⟨rfl, hG8⟩
          have HC8 := hide (HC7.out.next hG8.below)
          clear hG8 HV c0' c1' c2'
          cases bi
          · have hw : bw = false := by cases h : bw with | false => rfl | true => exact absurd (T2.out.1 h) (by decide)
            subst hw
            go_wp2_with fail
            go_meet
            exact ⟨rfl, HC8⟩
          · have hw : bw = true := T2.out.2 rfl
            subst hw
            have hv := T3.out rfl
            subst hv
            have hr : (wv != wv) = false := by simp
            go_wp2_with fail
            go_meet
            exact ⟨rfl, HC8⟩
        · have hd : decide (-1099511627776 < z) = false := decide_eq_false hzz
          subst he
          clear hzz
          go_wp2_with fail
          go_meet
          exact ⟨rfl, HC7⟩
      · have hq : (e2 == 0) = false := beq_eq_false_iff_ne.2 he
        clear he
        go_wp2_with fail
        go_meet
        exact ⟨rfl, HC7⟩
    case rest => as_aux_lemma =>
      obtain ⟨rfl, HC⟩ := hcut
      clear HC7 HV HT HJ c0' c1' c2' hmz
      obtain ⟨⟨c3, e3⟩, hj1⟩ : ∃ q, tiltV a P = q := ⟨_, rfl⟩
      have hl1 : c3.sl.length ≤ 64 := by have := tiltV_len a P; rw [hj1] at this; exact this
      have HFL := hide (Tilt_any a A1 n1 k1 P wc (HA.out.now HC.out.below (Nat.le_refl _)) h1)
      rw [hj1] at HFL
      have HJ := hide hj1
      obtain ⟨a0, a1, a2⟩ := HC.out.cells
      clear hj1
      go_wp2_with fail
      refine HFL.out.mono ?_
      rintro e w5 hpost
      obtain ⟨A5, n5, k5, rfl, hb5, hbig, hS⟩ := hpost.over hl1
      have HC5 := hide (HC.out.next hb5)
      obtain ⟨r0, r1, r2, e0, e1', e2', y0, y1, y2⟩ := HC5.out.room
      have HS := hide (hS g (.int .i64 c3.fr) (.int .i64 c3.fst) (.slice A5 n5 k5) HC.out.lt)
      have HC6 := hide (HC5.out.set (.int .i64 c3.fr) (.int .i64 c3.fst) (.slice A5 n5 k5))
      clear HFL hpost hb5 hS a0 a1 a2
      obtain ⟨wv, hwv⟩ : ∃ u, (atV c3 z).1 = u := ⟨_, rfl⟩
      obtain ⟨bw, hbw⟩ : ∃ q, ((atV c3 z).2 == 0) = q := ⟨_, rfl⟩
      have HAT := hide (lawAt_any c3 A5 n5 k5 z _ HS.out hbig)
      rw [hwv, hbw] at HAT
      have HT : Hid (e3 = 0 → okC c3 = true ∧ (bw = true ↔ bi = true) ∧ (bw = true → wv = u + P * z ∧ -1048576 ≤ P ∧ P ≤ 1048576)) := fun h => by
        have hJ := HJ.out
        rw [h] at hJ
        have h3 := tilt_at HVAA.out hJ z
        rw [hwv, HUV.out.1, ← HI.out] at h3
        rw [← hbw, beq_iff_eq]
        exact ⟨h3.1, h3.2.2.1, fun h => ⟨h3.2.2.2 h, h3.2.1⟩⟩
      clear hwv hbw
      go_wp2_with fail
      refine HAT.out.mono ?_
      rintro e w7 ⟨rfl, hb7⟩
      have HC7 := hide (HC6.out.next hb7)
      have hcu := HS.out.now hb7 (Nat.le_refl _)
      have hp7 := (hb7.block g HC6.out.lt).trans (set3_heap HC5.out.var.choose_spec.choose_spec.choose_spec (.int .i64 c3.fr) (.int .i64 c3.fst) (.slice A5 n5 k5))
      have HV := hide (Valid_any c3 A5 n5 k5 w7 hcu.sl hbig)
      have c0' := cell_of_heap' hp7 0
      have c1' := cell_of_heap' hp7 1
      have c2' := cell_of_heap' hp7 2
      simp at c0' c1' c2'
      clear HAT hb7 hcu hp7 HC5 HC6 HS e0 e1' e2' y0 y1 y2
      go_upto_region 16 with fail
      go_cut [162] (fun s162 wx => s162 = .bool false ∧ Hid (Con w wx p g a A1 n1 k1))
      case first => as_aux_lemma =>
        by_cases he : e3 = 0
        · subst he
          obtain ⟨t1, t2, t3⟩ := HT.out rfl
          rw [t1] at HV
          have T2 := hide t2
          have T3 := hide t3
          clear t1 t2 t3 HT
          go_wp2_with fail
          refine HV.out.mono ?_
          rintro e w8 ⟨rfl, hG8⟩
          have HC8 := hide (HC7.out.next hG8.below)
          clear hG8 HV c0' c1' c2'
          cases bi
          · have hw : bw = false := by cases h : bw with | false => rfl | true => exact absurd (T2.out.1 h) (by decide)
            subst hw
            go_wp2_with fail
            go_meet
            exact ⟨rfl, HC8⟩
          · have hw : bw = true := T2.out.2 rfl
            subst hw
            have hv := T3.out rfl
            have hru := HRU.out rfl
            have hmb := mul_bound (a := P) (b := z) (M := 1048576) (N := 2097152) (by omega) (by omega)
            obtain ⟨pz, hpz⟩ : ∃ q, P * z = q := ⟨_, rfl⟩
            rw [hpz] at hmb hv
            have hq1 : IntKind.i64.wrap (P * z) = pz := by rw [hpz, IntKind.wrap_i64]; omega
            have hq2 : IntKind.i64.wrap (u + pz) = wv := by rw [IntKind.wrap_i64]; omega
            clear hv hru hmb hpz
            have hr : (wv != wv) = false := by simp
            go_wp2_with fail
            go_meet
            exact ⟨rfl, HC8⟩
        · have hq : (e3 == 0) = false := beq_eq_false_iff_ne.2 he
          clear he
          go_wp2_with fail
          go_meet
          exact ⟨rfl, HC7⟩
      case rest => as_aux_lemma =>
        obtain ⟨rfl, HC⟩ := hcut
        clear HC7 HV HT HJ c0' c1' c2'
        obtain ⟨⟨c4, e4⟩, hj1⟩ : ∃ q, moveV a x y = q := ⟨_, rfl⟩
        have hl1 : c4.sl.length ≤ 64 := by have := moveV_len a x y; rw [hj1] at this; exact this
        have HFL := hide (Move_any a A1 n1 k1 x y wc (HA.out.now HC.out.below (Nat.le_refl _)) h1)
        rw [hj1] at HFL
        have HJ := hide hj1
        obtain ⟨a0, a1, a2⟩ := HC.out.cells
        clear hj1
        go_wp2_with fail
        refine HFL.out.mono ?_
        rintro e w5 hpost
        obtain ⟨A5, n5, k5, rfl, hb5, hbig, hS⟩ := hpost.over hl1
        have HC5 := hide (HC.out.next hb5)
        obtain ⟨r0, r1, r2, e0, e1', e2', y0, y1, y2⟩ := HC5.out.room
        have HS := hide (hS g (.int .i64 c4.fr) (.int .i64 c4.fst) (.slice A5 n5 k5) HC.out.lt)
        have HC6 := hide (HC5.out.set (.int .i64 c4.fr) (.int .i64 c4.fst) (.slice A5 n5 k5))
        clear HFL hpost hb5 hS a0 a1 a2
        have HX5 : Hid (Box (set3 w5 g (.int .i64 c4.fr) (.int .i64 c4.fst) (.slice A5 n5 k5)) g c4 A5 n5 k5) := ⟨set3_heap HC5.out.var.choose_spec.choose_spec.choose_spec _ _ _, HS.out, hbig⟩
        obtain ⟨β, hβ⟩ : ∃ q, decide (e4 = 0 ∧ -1099511627776 < z ∧ z < 1099511627776) = q := ⟨_, rfl⟩
        have HBT : Hid (β = true → e4 = 0 ∧ -1099511627776 < z ∧ z < 1099511627776) := fun h => of_decide_eq_true (hβ.trans h)
        have HBF : Hid (¬ (e4 = 0 ∧ -1099511627776 < z ∧ z < 1099511627776) → β = false) := fun h => by rw [← hβ]; exact decide_eq_false h
        have HBTT : Hid (e4 = 0 ∧ -1099511627776 < z ∧ z < 1099511627776 → β = true) := fun h => by rw [← hβ]; exact decide_eq_true h
        clear hβ HC5 HS
        go_upto_region 19 with fail
        go_cut [179] (fun s179 wx => s179 = .bool β ∧ Hid (Con w wx p g a A1 n1 k1) ∧ Hid (Box wx g c4 A5 n5 k5))
        case first => as_aux_lemma =>
          by_cases he : e4 = 0
          · subst he
            by_cases hz1 : -1099511627776 < z
            · have hd1 : decide (-1099511627776 < z) = true := decide_eq_true hz1
              by_cases hz2 : z < 1099511627776
              · have hd2 : decide (z < 1099511627776) = true := decide_eq_true hz2
                have hb := HBTT.out ⟨rfl, hz1, hz2⟩
                subst hb
                clear hz1 hz2
                go_wp2_with fail
                go_meet
                exact ⟨rfl, HC6, HX5⟩
              · have hd2 : decide (z < 1099511627776) = false := decide_eq_false hz2
                have hb := HBF.out (fun h => hz2 h.2.2)
                subst hb
                clear hz1 hz2
                go_wp2_with fail
                go_meet
                exact ⟨rfl, HC6, HX5⟩
            · have hd1 : decide (-1099511627776 < z) = false := decide_eq_false hz1
              have hb := HBF.out (fun h => hz1 h.2.1)
              subst hb
              clear hz1
              go_wp2_with fail
              go_meet
              exact ⟨rfl, HC6, HX5⟩
          · have hq : (e4 == 0) = false := beq_eq_false_iff_ne.2 he
            have hb := HBF.out (fun h => he h.1)
            subst hb
            clear he
            go_wp2_with fail
            go_meet
            exact ⟨rfl, HC6, HX5⟩
        case rest => as_aux_lemma =>
          obtain ⟨rfl, HC, HX⟩ := hcut
          clear HC6 HX5 HBF HBTT e0 e1' e2' y0 y1 y2
          go_upto_if 179 with fail
          go_cut [21, 22] (fun s21 s22 wx => Hid (Con w wx p g a A1 n1 k1))
          case first => as_aux_lemma =>
            cases β
            · go_wp2_with fail
              go_meet
              exact HC
            · obtain ⟨he, hz1, hz2⟩ := HBT.out rfl
              have hJ := HJ.out
              rw [he] at hJ
              obtain ⟨t1, tx, ty, t2, t3⟩ := move_at HVAA.out hJ z
              have hwx : IntKind.i64.wrap (z + x) = z + x := by rw [IntKind.wrap_i64]; omega
              obtain ⟨zx, hzx⟩ : ∃ q, z + x = q := ⟨_, rfl⟩
              rw [hzx] at t2 t3
              have hwx' : IntKind.i64.wrap (z + x) = zx := by rw [hwx, hzx]
              obtain ⟨wv, hwv⟩ : ∃ u, (atV c4 zx).1 = u := ⟨_, rfl⟩
              obtain ⟨bw, hbw⟩ : ∃ q, ((atV c4 zx).2 == 0) = q := ⟨_, rfl⟩
              have HAT := hide (lawAt_any c4 A5 n5 k5 zx wc HX.out.cu HX.out.big)
              rw [hwv, hbw] at HAT
              have T2 : Hid (bw = true ↔ bi = true) := by show _ ↔ _; rw [← hbw, beq_iff_eq, HI.out]; exact t2
              have T3 : Hid (bw = true → wv = u + y) := fun h => by rw [← hwv, ← HUV.out.1]; exact t3 (by rw [← hbw, beq_iff_eq] at h; exact h)
              have HTY := hide ty
              have HT1 := hide t1
              obtain ⟨c0, c1, c2'⟩ := HX.out.cells
              clear he hz1 hz2 hJ t1 tx ty t2 t3 hwx hzx hwv hbw
              go_wp2_with fail
              refine HAT.out.mono ?_
              rintro e w7 ⟨rfl, hb7⟩
              have HC7 := hide (HC.out.next hb7)
              have HX7 := hide (HX.out.below hb7)
              have HV := hide (Valid_any c4 A5 n5 k5 w7 HX7.out.cu.sl hbig)
              rw [HT1.out] at HV
              obtain ⟨d0, d1, d2⟩ := HX7.out.cells
              clear HAT hb7 c0 c1 c2' HX
              go_wp2_with fail
              refine HV.out.mono ?_
              rintro e w8 ⟨rfl, hG8⟩
              have HC8 := hide (HC7.out.next hG8.below)
              clear hG8 HV d0 d1 d2 HC7 HX7 HC
              cases bi
              · have hw : bw = false := by cases h : bw with | false => rfl | true => exact absurd (T2.out.1 h) (by decide)
                subst hw
                go_wp2_with fail
                go_meet
                exact HC8
              · have hw : bw = true := T2.out.2 rfl
                subst hw
                have hq : IntKind.i64.wrap (u + y) = wv := by have := T3.out rfl; have := HRU.out rfl; have := HTY.out; rw [IntKind.wrap_i64]; omega
                have hr : (wv != wv) = false := by simp
                go_wp2_with fail
                go_meet
                exact HC8
          case rest => as_aux_lemma =>
            have HC := hide hcut.out
            clear hcut HX HBT HJ
            obtain ⟨⟨c5, e5⟩, hj1⟩ : ∃ q, partV a x y = q := ⟨_, rfl⟩
            have hl1 : c5.sl.length ≤ 64 := by have := partV_len a x y; rw [hj1] at this; exact this
            have HFL := hide (Part_any a A1 n1 k1 x y wc (HA.out.now HC.out.below (Nat.le_refl _)) h1 hcap)
            rw [hj1] at HFL
            have HJ := hide hj1
            obtain ⟨a0, a1, a2⟩ := HC.out.cells
            clear hj1
            go_wp2_with fail
            refine HFL.out.mono ?_
            rintro e w5 hpost
            obtain ⟨A5, n5, k5, rfl, hb5, hbig, hS⟩ := hpost.over hl1
            have HC5 := hide (HC.out.next hb5)
            obtain ⟨r0, r1, r2, e0, e1', e2', y0, y1, y2⟩ := HC5.out.room
            have HS := hide (hS g (.int .i64 c5.fr) (.int .i64 c5.fst) (.slice A5 n5 k5) HC.out.lt)
            have HC6 := hide (HC5.out.set (.int .i64 c5.fr) (.int .i64 c5.fst) (.slice A5 n5 k5))
            clear HFL hpost hb5 hS a0 a1 a2
            obtain ⟨wv, hwv⟩ : ∃ u, (atV c5 z).1 = u := ⟨_, rfl⟩
            obtain ⟨bw, hbw⟩ : ∃ q, ((atV c5 z).2 == 0) = q := ⟨_, rfl⟩
            have HAT := hide (lawAt_any c5 A5 n5 k5 z _ HS.out hbig)
            rw [hwv, hbw] at HAT
            have HT : Hid (e5 = 0 → okC c5 = true ∧ (bw = true ↔ bi = true ∧ x ≤ z ∧ z ≤ y) ∧ (bw = true → wv = u)) := fun h => by
              have hJ := HJ.out
              rw [h] at hJ
              have h3 := part_at HVAA.out hJ z
              rw [hwv, HUV.out.1, ← HI.out] at h3
              rw [← hbw, beq_iff_eq]
              exact h3
            clear hwv hbw
            go_wp2_with fail
            refine HAT.out.mono ?_
            rintro e w7 ⟨rfl, hb7⟩
            have HC7 := hide (HC6.out.next hb7)
            have hcu := HS.out.now hb7 (Nat.le_refl _)
            have hp7 := (hb7.block g HC6.out.lt).trans (set3_heap HC5.out.var.choose_spec.choose_spec.choose_spec (.int .i64 c5.fr) (.int .i64 c5.fst) (.slice A5 n5 k5))
            have HV := hide (Valid_any c5 A5 n5 k5 w7 hcu.sl hbig)
            have c0' := cell_of_heap' hp7 0
            have c1' := cell_of_heap' hp7 1
            have c2' := cell_of_heap' hp7 2
            simp at c0' c1' c2'
            clear HAT hb7 hcu hp7 HC5 HC6 HS e0 e1' e2' y0 y1 y2
            by_cases he : e5 = 0
            · obtain ⟨t1, t2, t3⟩ := HT.out he
              subst he
              rw [t1] at HV
              have T2 := hide t2
              have T3 := hide t3
              clear t1 t2 t3 HT
              go_wp2_with fail
              refine HV.out.mono ?_
              rintro e w8 ⟨rfl, hG8⟩
              have HC8 := hide (HC7.out.next hG8.below)
              clear hG8 HV c0' c1' c2'
              cases bi
              · have hw : bw = false := by cases h : bw with | false => rfl | true => exact absurd (T2.out.1 h).1 (by decide)
                subst hw
                go_wp2_with fail
                refine (alive_any _).mono ?_
                rintro e w9 ⟨rfl, hb9⟩
                have HB9 := hide ((HC8.out.next hb9).below)
                clear hb9
                go_wp2
                go_ret
                exact ⟨rfl, HB9.out⟩
              · by_cases hz1 : x ≤ z
                · have hd1 : decide (x ≤ z) = true := decide_eq_true hz1
                  by_cases hz2 : z ≤ y
                  · have hd2 : decide (z ≤ y) = true := decide_eq_true hz2
                    have hw : bw = true := T2.out.2 ⟨rfl, hz1, hz2⟩
                    subst hw
                    have hv := T3.out rfl
                    subst hv
                    have hr : (wv == wv) = true := by simp
                    clear hz1 hz2
                    go_wp2_with fail
                    refine (alive_any _).mono ?_
                    rintro e w9 ⟨rfl, hb9⟩
                    have HB9 := hide ((HC8.out.next hb9).below)
                    clear hb9
                    go_wp2
                    go_ret
                    exact ⟨rfl, HB9.out⟩
                  · have hd2 : decide (z ≤ y) = false := decide_eq_false hz2
                    have hw : bw = false := by cases h : bw with | false => rfl | true => exact absurd (T2.out.1 h).2.2 hz2
                    subst hw
                    clear hz1 hz2
                    go_wp2_with fail
                    refine (alive_any _).mono ?_
                    rintro e w9 ⟨rfl, hb9⟩
                    have HB9 := hide ((HC8.out.next hb9).below)
                    clear hb9
                    go_wp2
                    go_ret
                    exact ⟨rfl, HB9.out⟩
                · have hd1 : decide (x ≤ z) = false := decide_eq_false hz1
                  have hw : bw = false := by cases h : bw with | false => rfl | true => exact absurd (T2.out.1 h).2.1 hz1
                  subst hw
                  clear hz1
                  go_wp2_with fail
                  refine (alive_any _).mono ?_
                  rintro e w9 ⟨rfl, hb9⟩
                  have HB9 := hide ((HC8.out.next hb9).below)
                  clear hb9
                  go_wp2
                  go_ret
                  exact ⟨rfl, HB9.out⟩
            · have hq : (e5 != 0) = true := by rw [bne_iff_ne]; exact he
              clear he
              go_wp2_with fail
              refine (alive_any _).mono ?_
              rintro e w9 ⟨rfl, hb9⟩
              have HB9 := hide ((HC7.out.next hb9).below)
              clear hb9
              go_wp2
              go_ret
              exact ⟨rfl, HB9.out⟩

end Go.Proofs.Ytdepnhnpklbmiaa
