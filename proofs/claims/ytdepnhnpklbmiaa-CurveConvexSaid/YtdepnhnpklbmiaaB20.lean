/- Contract of Move. -/
import Derived.Test.YtdepnhnpklbmiaaB19
namespace Go.Proofs.Ytdepnhnpklbmiaa
open Go.RowKit Go.Sort

/-- a copy of ints in new memory -/
theorem clone_any (A : Option Addr) (n cap : Nat) (xs : List Int) (w : World) (hx : IntsAt w.heap.size w A n xs) (hn : n ≤ 1000000) (h0 : A = none → n = 0) :
    Calls Try.prog 68 #[.slice A n cap] w fun e w' => ∃ a c, e = .returned (.slice a n c) ∧ w'.ownsRow w.heap.size 3 1 (.slice a n c) n (xs.map (Value.int .i64)) ∧ Below w.heap.size w w' := by
  have hl := hx.1
  by_cases hz : n = 0
  · subst hz
    have hx0 : xs = [] := List.length_eq_zero_iff.1 hl
    subst hx0
    cases A with
    | none =>
      refine (lib_Clone_int_nil 0 cap w).mono ?_
      rintro e w' ⟨rfl, rfl⟩
      exact ⟨none, 0, rfl, World.ownsRow_nil _ _ _ _, Below.refl _ _⟩
    | some ad =>
      refine (lib_Clone_int_zero ad cap w).mono ?_
      rintro e w' ⟨v, rfl, ho, -, hb⟩
      obtain ⟨a, c, rfl⟩ := own_slice ho
      exact ⟨a, c, rfl, ho, hb⟩
  · rcases hx.2 with h | ⟨b, off, rfl, hb, hc⟩
    · exact absurd h hz
    · refine (lib_Clone_int b off n cap xs w (by omega) (by omega) (fun j hj => hc j (by omega))).mono ?_
      rintro e w' ⟨v, rfl, ho, -, hb⟩
      rw [List.take_of_length_le (by omega)] at ho
      obtain ⟨a, c, rfl⟩ := own_slice ho
      exact ⟨a, c, rfl, ho, hb⟩

/-- what Move answers -/
def moveV (c : Cu) (d u : Int) : Cu × Int := if okC c = true ∧ inB d 1048576 = true ∧ inB u 1099511627776 = true then res2 ⟨c.fr + d, c.fst + u, c.sl⟩ else (Cu.zero, 2)

theorem results34 {W : World} {g : Nat} {a b c : Value} {t : TypeId} (h : W.heap[g]? = some (.cells #[a, b, c] t (0, 0))) (x0 x1 x2 x3 x4 x5 y : Value) (rest : List Value) :
    (results Try.f34 (x0 :: x1 :: x2 :: x3 :: x4 :: x5 :: .pointer (some ⟨g, 0, none⟩) :: y :: rest).toArray).run Try.prog W = .ok (.tuple #[.agg #[a, b, c], y]) W := by
  have h0 := cell_of_heap' h 0
  have h1 := cell_of_heap' h 1
  have h2 := cell_of_heap' h 2
  simp at h0 h1 h2
  simp [results, Try.results34, go_sem, h0, h1, h2]

set_option maxHeartbeats 4000000 in
set_option maxRecDepth 100000 in
theorem Move_any (c : Cu) (A : Option Addr) (n cap : Nat) (d u : Int) (w : World) (hx : CuAt w.heap.size w c A n cap) (hn : n ≤ 9223372036854775807) :
    Calls Try.prog 34 #[.agg #[.int .i64 c.fr, .int .i64 c.fst, .slice A n cap], .int .i64 d, .int .i64 u] w (CuPost (moveV c d u) w) := by
  have mixed := mixedOrders
  obtain ⟨W1, hW1⟩ : ∃ W1, (w.alloc (.cells #[.int .i64 c.fr, .int .i64 c.fst, .slice A n cap] 24)).alloc (.cells #[.int .i64 0, .int .i64 0, .slice none 0 0] 24) = W1 := ⟨_, rfl⟩
  obtain ⟨p, hp⟩ : ∃ p, w.heap.size = p := ⟨_, rfl⟩
  have hG1 : Gr w W1 := by rw [← hW1]; exact ((Gr.refl w).alloc _).alloc _
  have hs1 : W1.heap.size = p + 2 := by rw [← hW1, ← hp]; simp
  have ua : W1.heap[p]? = some (.cells #[.int .i64 c.fr, .int .i64 c.fst, .slice A n cap] 24 (0, 0)) := by
    rw [← hW1, ← hp]
    exact (Below.heap_alloc _ _ _ (by simp)).trans (heap_alloc_new w _)
  have ur : W1.heap[p + 1]? = some (.cells #[.int .i64 0, .int .i64 0, .slice none 0 0] 24 (0, 0)) := by
    rw [← hW1, ← hp]
    simpa using heap_alloc_new (w.alloc (.cells #[.int .i64 c.fr, .int .i64 c.fst, .slice A n cap] 24)) (.cells #[.int .i64 0, .int .i64 0, .slice none 0 0] 24)
  have HUA := hide ua
  have HUR := hide ur
  have HX := hide hx
  have HG1 := hide hG1
  have HV := hide (Valid_any c A n cap W1 (hx.gr hG1).sl (by omega))
  have HWI := hide (fun W => within_any d 1048576 W (by decide) (by decide))
  have a0 := cell_of_heap' ua 0
  have a1 := cell_of_heap' ua 1
  have a2 := cell_of_heap' ua 2
  simp at a0 a1 a2
  clear ua ur hx hG1
  go_enter Try.func34, Try.ntmps34
  go_wp2_with fail
  try rw [hp]
  refine HV.out.mono ?_
  rintro e w2 ⟨rfl, hG2⟩
  have HG2 := hide (HG1.out.trans hG2)
  have hs2 : p + 2 ≤ w2.heap.size := by have := hG2.size; omega
  have b2 := (hG2.block (k := p) (by omega)).trans HUA.out
  have q2 := (hG2.block (k := p + 1) (by omega)).trans HUR.out
  have HUA2 := hide b2
  have HUR2 := hide q2
  have c0 := cell_of_heap' b2 0
  have c1 := cell_of_heap' b2 1
  have c2 := cell_of_heap' b2 2
  have r0 := cell_of_heap' q2 0
  have r1 := cell_of_heap' q2 1
  have r2 := cell_of_heap' q2 2
  have y0 := frozen_of_heap' q2 0
  have y1 := frozen_of_heap' q2 1
  have y2 := frozen_of_heap' q2 2
  simp at c0 c1 c2 r0 r1 r2
  clear b2 q2 hG2 a0 a1 a2
  cases hva : okC c
  · have HJ : Hid (moveV c d u = (Cu.zero, 2)) := if_neg (by rw [hva]; simp)
    have HB2 : Hid (Below w.heap.size w w2) := HG2.out.below
    clear hva
    go_wp2_with fail
    refine bodyPost_ret (results34 (set3_heap HUR2.out _ _ _) _ _ _ _ _ _ _ _) rfl ?_
    refine ⟨none, 0, 0, by rw [HJ.out] <;> rfl, ?_, set3_below HB2.out (by omega) _ _ _⟩
    rw [HJ.out]
    exact World.ownsRow_nil _ _ _ _
  have HVA := hide hva
  clear hva
  go_wp2_with fail
  refine (HWI.out _).mono ?_
  rintro e w3 ⟨rfl, hw3⟩
  subst hw3
  cases hib : inB d 1048576
  · have HJ : Hid (moveV c d u = (Cu.zero, 2)) := if_neg (by rw [hib]; simp)
    have HB2 := hide HG2.out.below
    clear hib
    go_wp2_with fail
    refine bodyPost_ret (results34 (set3_heap HUR2.out _ _ _) _ _ _ _ _ _ _ _) rfl ?_
    refine ⟨none, 0, 0, by rw [HJ.out] <;> rfl, ?_, set3_below HB2.out (by omega) _ _ _⟩
    rw [HJ.out]
    exact World.ownsRow_nil _ _ _ _
  have HI := hide hib
  have HWU := hide (fun W => within_any u 1099511627776 W (by decide) (by decide))
  clear hib
  go_wp2_with fail
  refine (HWU.out _).mono ?_
  rintro e w4 ⟨rfl, hw4⟩
  subst hw4
  cases hiu : inB u 1099511627776
  · have HJ : Hid (moveV c d u = (Cu.zero, 2)) := if_neg (by rw [hiu]; simp)
    have HB2 := hide HG2.out.below
    clear hiu
    go_wp2_with fail
    refine bodyPost_ret (results34 (set3_heap HUR2.out _ _ _) _ _ _ _ _ _ _ _) rfl ?_
    refine ⟨none, 0, 0, by rw [HJ.out] <;> rfl, ?_, set3_below HB2.out (by omega) _ _ _⟩
    rw [HJ.out]
    exact World.ownsRow_nil _ _ _ _
  have HJ : Hid (moveV c d u = res2 ⟨c.fr + d, c.fst + u, c.sl⟩) := if_pos ⟨HVA.out, HI.out, hiu⟩
  have hdr : -1048576 ≤ d ∧ d ≤ 1048576 := by have := HI.out; simpa [inB] using this
  have hur : -1099511627776 ≤ u ∧ u ≤ 1099511627776 := by simpa [inB] using hiu
  have hfr := okC_fr HVA.out
  have hfs : -1099511627776 ≤ c.fst ∧ c.fst ≤ 1099511627776 := by have := (okC_true HVA.out).2.1; simpa [inB] using this
  have hw1 : IntKind.i64.wrap (c.fr + d) = c.fr + d := by rw [IntKind.wrap_i64]; omega
  have hw2 : IntKind.i64.wrap (c.fst + u) = c.fst + u := by rw [IntKind.wrap_i64]; omega
  have hdd := hdr
  obtain ⟨F, hF⟩ : ∃ q, c.fr + d = q := ⟨_, rfl⟩
  obtain ⟨T, hT⟩ : ∃ q, c.fst + u = q := ⟨_, rfl⟩
  replace hw1 : IntKind.i64.wrap (c.fr + d) = F := by rw [hw1]; exact hF
  replace hw2 : IntKind.i64.wrap (c.fst + u) = T := by rw [hw2]; exact hT
  rw [hF, hT] at HJ
  have hn64 : n ≤ 64 := by have h1 := (okC_true HVA.out).2.2.1; have h2 := HX.out.sl.1; omega
  have HB2 := hide HG2.out.below
  have HCL : Hid (Calls Try.prog 68 #[.slice A n cap] w4.drew fun e w' => ∃ a c', e = .returned (.slice a n c') ∧ w'.ownsRow w4.heap.size 3 1 (.slice a n c') n (c.sl.map (Value.int .i64)) ∧ Below w4.heap.size w4 w') := by
    have hXX := (HX.out.gr HG2.out).gr ((Gr.refl w4).drew)
    refine (clone_any A n cap c.sl w4.drew hXX.sl (by omega) (fun e => (hXX.nil e).1)).mono ?_
    rintro e w' ⟨a, c', h1, h2, h3⟩
    exact ⟨a, c', h1, h2, ((Below.refl w4.heap.size w4).drew).trans h3⟩
  have hsl : c.sl.length = n := HX.out.sl.1
  have HRES : Hid (∀ W3 a c', W3.ownsRow w4.heap.size 3 1 (.slice a n c') n (c.sl.map (Value.int .i64)) → Calls Try.prog 60 #[.agg #[.int .i64 F, .int .i64 T, .slice a n c']] W3 fun e w' => e = .returned (resV ⟨F, T, c.sl⟩ a n c') ∧ Below W3.heap.size W3 w') := fun W3 a c' ho => result_any ⟨F, T, c.sl⟩ a n c' W3 (ints_of_own ho) (by omega)
  have SB : Hid (∀ w', Below w4.heap.size w4 w' → w'.cell? ⟨p, 0, none⟩ = some (.int .i64 c.fr) ∧ w'.cell? ⟨p, 1, none⟩ = some (.int .i64 c.fst) ∧ w'.cell? ⟨p, 2, none⟩ = some (.slice A n cap) ∧ (∃ v, w'.cell? ⟨p + 1, 0, none⟩ = some v) ∧ (∃ v, w'.cell? ⟨p + 1, 1, none⟩ = some v) ∧ (∃ v, w'.cell? ⟨p + 1, 2, none⟩ = some v) ∧ w'.frozen? ⟨p + 1, 0, none⟩ = false ∧ w'.frozen? ⟨p + 1, 1, none⟩ = false ∧ w'.frozen? ⟨p + 1, 2, none⟩ = false) := fun w' hb => by
    have hz := (hb.block (p + 1) (by omega)).trans HUR2.out
    have x0 := cell_of_heap' hz 0
    have x1 := cell_of_heap' hz 1
    have x2 := cell_of_heap' hz 2
    simp at x0 x1 x2
    exact ⟨(hb.cell (p := ⟨p, 0, none⟩) (by show p < _; omega)).trans c0, (hb.cell (p := ⟨p, 1, none⟩) (by show p < _; omega)).trans c1, (hb.cell (p := ⟨p, 2, none⟩) (by show p < _; omega)).trans c2, ⟨_, x0⟩, ⟨_, x1⟩, ⟨_, x2⟩, frozen_of_heap' hz 0, frozen_of_heap' hz 1, frozen_of_heap' hz 2⟩
  have SS : Hid (∀ w' x y z, Below w4.heap.size w4 w' → (fun w' => w'.cell? ⟨p, 0, none⟩ = some (.int .i64 c.fr) ∧ w'.cell? ⟨p, 1, none⟩ = some (.int .i64 c.fst) ∧ w'.cell? ⟨p, 2, none⟩ = some (.slice A n cap) ∧ (∃ v, w'.cell? ⟨p + 1, 0, none⟩ = some v) ∧ (∃ v, w'.cell? ⟨p + 1, 1, none⟩ = some v) ∧ (∃ v, w'.cell? ⟨p + 1, 2, none⟩ = some v) ∧ w'.frozen? ⟨p + 1, 0, none⟩ = false ∧ w'.frozen? ⟨p + 1, 1, none⟩ = false ∧ w'.frozen? ⟨p + 1, 2, none⟩ = false) (((w'.setCell ⟨p + 1, 0, none⟩ x).setCell ⟨p + 1, 1, none⟩ y).setCell ⟨p + 1, 2, none⟩ z)) := fun w' x y z hb => by
    obtain ⟨h0, h1, h2, ⟨v0, h6⟩, ⟨v1, h7⟩, ⟨v2, h8⟩, h9, h10, h11⟩ := SB.out w' hb
    have hz := (hb.block (p + 1) (by omega)).trans HUR2.out
    have hz2 := set3_heap hz x y z
    unfold set3 at hz2
    have oth : ∀ q o, q ≠ p + 1 → (((w'.setCell ⟨p + 1, 0, none⟩ x).setCell ⟨p + 1, 1, none⟩ y).setCell ⟨p + 1, 2, none⟩ z).cell? ⟨q, o, none⟩ = w'.cell? ⟨q, o, none⟩ := fun q o hq => by
      rw [World.cell?_setCell_other _ _ _ _ (by intro e; simp only [Addr.mk.injEq] at e; omega), World.cell?_setCell_other _ _ _ _ (by intro e; simp only [Addr.mk.injEq] at e; omega), World.cell?_setCell_other _ _ _ _ (by intro e; simp only [Addr.mk.injEq] at e; omega)]
    have x0 := cell_of_heap' hz2 0
    have x1 := cell_of_heap' hz2 1
    have x2 := cell_of_heap' hz2 2
    simp at x0 x1 x2
    exact ⟨(oth p 0 (by omega)).trans h0, (oth p 1 (by omega)).trans h1, (oth p 2 (by omega)).trans h2, ⟨_, x0⟩, ⟨_, x1⟩, ⟨_, x2⟩, frozen_of_heap' hz2 0, frozen_of_heap' hz2 1, frozen_of_heap' hz2 2⟩
  clear hiu hdr hur hfr hfs hdd hF hT HWI HWU HV hn64 hsl c0 c1 c2 r0 r1 r2 y0 y1 y2
  by_cases hok : okC ⟨F, T, c.sl⟩ = true
  · have HJ2 : Hid (moveV c d u = (⟨F, T, c.sl⟩, 0)) := by show _ = _; rw [HJ.out, res2, if_pos hok]
    have HRES2 : Hid (∀ W3 a c', W3.ownsRow w4.heap.size 3 1 (.slice a n c') n (c.sl.map (Value.int .i64)) → Calls Try.prog 60 #[.agg #[.int .i64 F, .int .i64 T, .slice a n c']] W3 fun e w' => e = .returned (.tuple #[.agg #[.int .i64 F, .int .i64 T, .slice a n c'], .int .i64 0]) ∧ Below W3.heap.size W3 w') := fun W3 a c' ho => by
      have := HRES.out W3 a c' ho
      rw [show resV ⟨F, T, c.sl⟩ a n c' = .tuple #[.agg #[.int .i64 F, .int .i64 T, .slice a n c'], .int .i64 0] from if_pos hok] at this
      exact this
    clear hok HRES HJ
    go_wp2_with fail
    obtain ⟨e0, e1, e2, ⟨r0, e3⟩, ⟨r1, e4⟩, ⟨r2, e5⟩, y0, y1, y2⟩ := SB.out w4 (Below.refl _ _)
    have HSD := hide (SB.out _ ((Below.refl w4.heap.size w4).drew))
    go_region_held3 (fun w' => w'.cell? ⟨p, 0, none⟩ = some (.int .i64 c.fr) ∧ w'.cell? ⟨p, 1, none⟩ = some (.int .i64 c.fst) ∧ w'.cell? ⟨p, 2, none⟩ = some (.slice A n cap) ∧ (∃ v, w'.cell? ⟨p + 1, 0, none⟩ = some v) ∧ (∃ v, w'.cell? ⟨p + 1, 1, none⟩ = some v) ∧ (∃ v, w'.cell? ⟨p + 1, 2, none⟩ = some v) ∧ w'.frozen? ⟨p + 1, 0, none⟩ = false ∧ w'.frozen? ⟨p + 1, 1, none⟩ = false ∧ w'.frozen? ⟨p + 1, 2, none⟩ = false)
      (first | go_keep | exact ⟨s0, s1, s2, ⟨_, s3⟩, ⟨_, s4⟩, ⟨_, s5⟩, s6, s7, s8⟩ | exact SB.out _ hb4 | exact SB.out _ hb5 | exact SS.out _ _ _ _ hb5 | exact HSD.out)
      (first | (go_at_call 68; (with_reducible refine HCL.out.mono ?_); rintro e wa ⟨a4, c4, rfl, ho4, hb4⟩; obtain ⟨m0, m1, m2, ⟨v6, m3⟩, ⟨v7, m4⟩, ⟨v8, m5⟩, m6, m7, m8⟩ := SB.out _ hb4) | (go_at_call 60; (with_reducible refine (HRES2.out _ _ _ ho4).mono ?_); rintro e w5 ⟨rfl, hb5'⟩; have hb5 := hb4.trans (hb5'.mono hb4.size); obtain ⟨l0, l1, l2, ⟨v9, l3⟩, ⟨v10, l4⟩, ⟨v11, l5⟩, l6, l7, l8⟩ := SB.out _ hb5; obtain ⟨s0, s1, s2, ⟨v12, s3⟩, ⟨v13, s4⟩, ⟨v14, s5⟩, s6, s7, s8⟩ := SS.out w5 (.int .i64 F) (.int .i64 T) (.slice a4 n c4) hb5))
    have HB5 : Hid (Below w.heap.size w w5) := HB2.out.trans (hb5.mono HB2.out.size)
    have HO5 : Hid (w5.ownsRow w4.heap.size 3 1 (.slice a4 n c4) n (c.sl.map (Value.int .i64))) := own_below ho4 hb5'
    have HZ5 := hide ((hb5.block (p + 1) (by omega)).trans HUR2.out)
    clear hb5 hb5' hb4 ho4 m0 m1 m2 m3 m4 m5 m6 m7 m8 l0 l1 l2 l3 l4 l5 l6 l7 l8 s0 s1 s2 s3 s4 s5 s6 s7 s8
    go_wp2
    refine bodyPost_ret (results34 (set3_heap HZ5.out _ _ _) _ _ _ _ _ _ _ _) rfl ?_
    refine ⟨a4, n, c4, by rw [HJ2.out] <;> rfl, ?_, set3_below HB5.out (by omega) _ _ _⟩
    rw [HJ2.out]
    exact own_base (own_set3 HO5.out (by omega) _ _ _) (by omega)
  · have HJ2 : Hid (moveV c d u = (Cu.zero, 4)) := by show _ = _; rw [HJ.out, res2, if_neg hok]
    have HRES2 : Hid (∀ W3 a c', W3.ownsRow w4.heap.size 3 1 (.slice a n c') n (c.sl.map (Value.int .i64)) → Calls Try.prog 60 #[.agg #[.int .i64 F, .int .i64 T, .slice a n c']] W3 fun e w' => e = .returned (.tuple #[.agg #[.int .i64 0, .int .i64 0, .slice none 0 0], .int .i64 4]) ∧ Below W3.heap.size W3 w') := fun W3 a c' ho => by
      have := HRES.out W3 a c' ho
      rw [show resV ⟨F, T, c.sl⟩ a n c' = .tuple #[.agg #[.int .i64 0, .int .i64 0, .slice none 0 0], .int .i64 4] from if_neg hok] at this
      exact this
    clear hok HRES HJ
    go_wp2_with fail
    obtain ⟨e0, e1, e2, ⟨r0, e3⟩, ⟨r1, e4⟩, ⟨r2, e5⟩, y0, y1, y2⟩ := SB.out w4 (Below.refl _ _)
    have HSD := hide (SB.out _ ((Below.refl w4.heap.size w4).drew))
    go_region_held3 (fun w' => w'.cell? ⟨p, 0, none⟩ = some (.int .i64 c.fr) ∧ w'.cell? ⟨p, 1, none⟩ = some (.int .i64 c.fst) ∧ w'.cell? ⟨p, 2, none⟩ = some (.slice A n cap) ∧ (∃ v, w'.cell? ⟨p + 1, 0, none⟩ = some v) ∧ (∃ v, w'.cell? ⟨p + 1, 1, none⟩ = some v) ∧ (∃ v, w'.cell? ⟨p + 1, 2, none⟩ = some v) ∧ w'.frozen? ⟨p + 1, 0, none⟩ = false ∧ w'.frozen? ⟨p + 1, 1, none⟩ = false ∧ w'.frozen? ⟨p + 1, 2, none⟩ = false)
      (first | go_keep | exact ⟨s0, s1, s2, ⟨_, s3⟩, ⟨_, s4⟩, ⟨_, s5⟩, s6, s7, s8⟩ | exact SB.out _ hb4 | exact SB.out _ hb5 | exact SS.out _ _ _ _ hb5 | exact HSD.out)
      (first | (go_at_call 68; (with_reducible refine HCL.out.mono ?_); rintro e wa ⟨a4, c4, rfl, ho4, hb4⟩; obtain ⟨m0, m1, m2, ⟨v6, m3⟩, ⟨v7, m4⟩, ⟨v8, m5⟩, m6, m7, m8⟩ := SB.out _ hb4) | (go_at_call 60; (with_reducible refine (HRES2.out _ _ _ ho4).mono ?_); rintro e w5 ⟨rfl, hb5'⟩; have hb5 := hb4.trans (hb5'.mono hb4.size); obtain ⟨l0, l1, l2, ⟨v9, l3⟩, ⟨v10, l4⟩, ⟨v11, l5⟩, l6, l7, l8⟩ := SB.out _ hb5; obtain ⟨s0, s1, s2, ⟨v12, s3⟩, ⟨v13, s4⟩, ⟨v14, s5⟩, s6, s7, s8⟩ := SS.out w5 (.int .i64 0) (.int .i64 0) (.slice none 0 0) hb5))
    have HB5 : Hid (Below w.heap.size w w5) := HB2.out.trans (hb5.mono HB2.out.size)
    have HO5 : Hid (w5.ownsRow w4.heap.size 3 1 (.slice a4 n c4) n (c.sl.map (Value.int .i64))) := own_below ho4 hb5'
    have HZ5 := hide ((hb5.block (p + 1) (by omega)).trans HUR2.out)
    clear hb5 hb5' hb4 ho4 m0 m1 m2 m3 m4 m5 m6 m7 m8 l0 l1 l2 l3 l4 l5 l6 l7 l8 s0 s1 s2 s3 s4 s5 s6 s7 s8
    go_wp2
    refine bodyPost_ret (results34 (set3_heap HZ5.out _ _ _) _ _ _ _ _ _ _ _) rfl ?_
    refine ⟨none, 0, 0, by rw [HJ2.out] <;> rfl, ?_, set3_below HB5.out (by omega) _ _ _⟩
    rw [HJ2.out]
    exact World.ownsRow_nil _ _ _ _
end Go.Proofs.Ytdepnhnpklbmiaa
