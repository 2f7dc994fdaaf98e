/- Contract of Move. -/
import Derived.Test.YtdepnhnpklbmiaaA5
import Derived.Lib.QuietBelow
import Derived.Test.YtdepnhnpklbmiaaA4
import Derived.Test.YtdepnhnpklbmiaaC0
namespace Go.Proofs.Ytdepnhnpklbmiaa
open Go.RowKit Go.Sort

/-- a copy of ints in new memory -/
theorem clone_any (A : Option Addr) (n cap : Nat) (xs : List Int) (w : World) (hx : IntsAt w.heap.size w A n xs) (hn : n ≤ 1000000) (h0 : A = none → n = 0) :
    Calls Try.prog 68 #[.slice A n cap] w fun e w' => ∃ a c, e = .returned (.slice a n c) ∧ w'.ownsRow w.heap.size 3 1 (.slice a n c) n (xs.map (Value.int .i64)) ∧ Below w.heap.size w w' := by
  have hl := hx.1
  by_cases hz : n = 0
  · subst hz
    have hx0 : xs = [] := List.length_eq_zero_iff.1 hl
    subst hx0
    cases A with
    | none =>
      refine (lib_Clone_int_nil 0 cap w).mono ?_
      rintro e w' ⟨rfl, rfl⟩
      exact ⟨none, 0, rfl, World.ownsRow_nil _ _ _ _, Below.refl _ _⟩
    | some ad =>
      refine (lib_Clone_int_zero ad cap w).mono ?_
      rintro e w' ⟨v, rfl, ho, -, hb⟩
      obtain ⟨a, c, rfl⟩ := own_slice ho
      exact ⟨a, c, rfl, ho, hb⟩
  · rcases hx.2 with h | ⟨b, off, rfl, hb, hc⟩
    · exact absurd h hz
    · refine (lib_Clone_int b off n cap xs w (by omega) (by omega) (fun j hj => hc j (by omega))).mono ?_
      rintro e w' ⟨v, rfl, ho, -, hb⟩
      rw [List.take_of_length_le (by omega)] at ho
      obtain ⟨a, c, rfl⟩ := own_slice ho
      exact ⟨a, c, rfl, ho, hb⟩

/-- what Move answers -/
def moveV (c : Cu) (d u : Int) : Cu × Int := if okC c = true ∧ inB d 1048576 = true ∧ inB u 1099511627776 = true then res2 ⟨c.fr + d, c.fst + u, c.sl⟩ else (Cu.zero, 2)

theorem results34 {W : World} {g : Nat} {a b c : Value} {t : TypeId} (h : W.heap[g]? = some (.cells #[a, b, c] t (0, 0))) (x0 x1 x2 x3 x4 x5 y : Value) (rest : List Value) :
    (results Try.f34 (x0 :: x1 :: x2 :: x3 :: x4 :: x5 :: .pointer (some ⟨g, 0, none⟩) :: y :: rest).toArray).run Try.prog W = .ok (.tuple #[.agg #[a, b, c], y]) W := by
  have h0 := cell_of_heap' h 0
  have h1 := cell_of_heap' h 1
  have h2 := cell_of_heap' h 2
  simp at h0 h1 h2
  simp [results, Try.results34, go_sem, h0, h1, h2]

set_option maxHeartbeats 4000000 in
set_option maxRecDepth 100000 in
theorem Move_any (c : Cu) (A : Option Addr) (n cap : Nat) (d u : Int) (w : World) (hx : CuAt w.heap.size w c A n cap) (hn : n ≤ 9223372036854775807) :
    Calls Try.prog 34 #[.agg #[.int .i64 c.fr, .int .i64 c.fst, .slice A n cap], .int .i64 d, .int .i64 u] w (CuPost (moveV c d u) w) := by
  have mixed := mixedOrders
  obtain ⟨W1, hW1⟩ : ∃ W1, (w.alloc (.cells #[.int .i64 c.fr, .int .i64 c.fst, .slice A n cap] 24)).alloc (.cells #[.int .i64 0, .int .i64 0, .slice none 0 0] 24) = W1 := ⟨_, rfl⟩
  obtain ⟨p, hp⟩ : ∃ p, w.heap.size = p := ⟨_, rfl⟩
  have hG1 : Gr w W1 := by rw [← hW1]; exact ((Gr.refl w).alloc _).alloc _
  have hs1 : W1.heap.size = p + 2 := by rw [← hW1, ← hp]; simp
  have ua : W1.heap[p]? = some (.cells #[.int .i64 c.fr, .int .i64 c.fst, .slice A n cap] 24 (0, 0)) := by
    rw [← hW1, ← hp]
    exact (Below.heap_alloc _ _ _ (by simp)).trans (heap_alloc_new w _)
  have ur : W1.heap[p + 1]? = some (.cells #[.int .i64 0, .int .i64 0, .slice none 0 0] 24 (0, 0)) := by
    rw [← hW1, ← hp]
    simpa using heap_alloc_new (w.alloc (.cells #[.int .i64 c.fr, .int .i64 c.fst, .slice A n cap] 24)) (.cells #[.int .i64 0, .int .i64 0, .slice none 0 0] 24)
  have HUA := hide ua
  have HUR := hide ur
  have HX := hide hx
  have HG1 := hide hG1
  have HV := hide (Valid_any c A n cap W1 (hx.gr hG1).sl (by omega))
  have HWI := hide (fun W => within_any d 1048576 W (by decide) (by decide))
  have a0 := cell_of_heap' ua 0
  have a1 := cell_of_heap' ua 1
  have a2 := cell_of_heap' ua 2
  simp at a0 a1 a2
  clear ua ur hx hG1
  go_enter Try.func34, Try.ntmps34
  go_wp2_with fail
  try rw [hp]
  refine HV.out.mono ?_
  rintro e w2 ⟨rfl, hG2⟩
  have HG2 := hide (HG1.out.trans hG2)
  have hs2 : p + 2 ≤ w2.heap.size := by have := hG2.size; omega
  have b2 := (hG2.block (k := p) (by omega)).trans HUA.out
  have q2 := (hG2.block (k := p + 1) (by omega)).trans HUR.out
  have HUA2 := hide b2
  have HUR2 := hide q2
  have c0 := cell_of_heap' b2 0
  have c1 := cell_of_heap' b2 1
  have c2 := cell_of_heap' b2 2
  have r0 := cell_of_heap' q2 0
  have r1 := cell_of_heap' q2 1
  have r2 := cell_of_heap' q2 2
  have y0 := frozen_of_heap' q2 0
  have y1 := frozen_of_heap' q2 1
  have y2 := frozen_of_heap' q2 2
  simp at c0 c1 c2 r0 r1 r2
  clear b2 q2 hG2 a0 a1 a2
  cases hva : okC c
  · have HJ : Hid (moveV c d u = (Cu.zero, 2)) := if_neg (by rw [hva]; simp)
    have HB2 : Hid (Below w.heap.size w w2) := HG2.out.below
    clear hva
    go_wp2_with fail
    refine bodyPost_ret (results34 (set3_heap HUR2.out _ _ _) _ _ _ _ _ _ _ _) rfl ?_
    refine ⟨none, 0, 0, by rw [HJ.out] <;> rfl, ?_, set3_below HB2.out (by omega) _ _ _⟩
    rw [HJ.out]
    exact World.ownsRow_nil _ _ _ _
  have HVA := hide hva
  clear hva
  go_wp2_with fail
  refine (HWI.out _).mono ?_
  rintro e w3 ⟨rfl, hw3⟩
  subst hw3
  cases hib : inB d 1048576
  · have HJ : Hid (moveV c d u = (Cu.zero, 2)) := if_neg (by rw [hib]; simp)
    have HB2 := hide HG2.out.below
    clear hib
    go_wp2_with fail
    refine bodyPost_ret (results34 (set3_heap HUR2.out _ _ _) _ _ _ _ _ _ _ _) rfl ?_
    refine ⟨none, 0, 0, by rw [HJ.out] <;> rfl, ?_, set3_below HB2.out (by omega) _ _ _⟩
    rw [HJ.out]
    exact World.ownsRow_nil _ _ _ _
  have HI := hide hib
  have HWU := hide (fun W => within_any u 1099511627776 W (by decide) (by decide))
  clear hib
  go_wp2_with fail
  refine (HWU.out _).mono ?_
  rintro e w4 ⟨rfl, hw4⟩
  subst hw4
  cases hiu : inB u 1099511627776
  · have HJ : Hid (moveV c d u = (Cu.zero, 2)) := if_neg (by rw [hiu]; simp)
    have HB2 := hide HG2.out.below
    clear hiu
    go_wp2_with fail
    refine bodyPost_ret (results34 (set3_heap HUR2.out _ _ _) _ _ _ _ _ _ _ _) rfl ?_
    refine ⟨none, 0, 0, by rw [HJ.out] <;> rfl, ?_, set3_below HB2.out (by omega) _ _ _⟩
    rw [HJ.out]
    exact World.ownsRow_nil _ _ _ _
  have HJ : Hid (moveV c d u = res2 ⟨c.fr + d, c.fst + u, c.sl⟩) := if_pos ⟨HVA.out, HI.out, hiu⟩
  have hdr : -1048576 ≤ d ∧ d ≤ 1048576 := by have := HI.out; simpa [inB] using this
  have hur : -1099511627776 ≤ u ∧ u ≤ 1099511627776 := by simpa [inB] using hiu
  have hfr := okC_fr HVA.out
  have hfs : -1099511627776 ≤ c.fst ∧ c.fst ≤ 1099511627776 := by have := (okC_true HVA.out).2.1; simpa [inB] using this
  have hw1 : IntKind.i64.wrap (c.fr + d) = c.fr + d := by rw [IntKind.wrap_i64]; omega
  have hw2 : IntKind.i64.wrap (c.fst + u) = c.fst + u := by rw [IntKind.wrap_i64]; omega
  have hdd := hdr
  obtain ⟨F, hF⟩ : ∃ q, c.fr + d = q := ⟨_, rfl⟩
  obtain ⟨T, hT⟩ : ∃ q, c.fst + u = q := ⟨_, rfl⟩
  replace hw1 : IntKind.i64.wrap (c.fr + d) = F := by rw [hw1]; exact hF
  replace hw2 : IntKind.i64.wrap (c.fst + u) = T := by rw [hw2]; exact hT
  rw [hF, hT] at HJ
  have hn64 : n ≤ 64 := by have h1 := (okC_true HVA.out).2.2.1; have h2 := HX.out.sl.1; omega
  have HB2 := hide HG2.out.below
  have HCL : Hid (Calls Try.prog 68 #[.slice A n cap] w4.drew fun e w' => ∃ a c', e = .returned (.slice a n c') ∧ w'.ownsRow w4.heap.size 3 1 (.slice a n c') n (c.sl.map (Value.int .i64)) ∧ Below w4.heap.size w4 w') := by
    have hXX := (HX.out.gr HG2.out).gr ((Gr.refl w4).drew)
    refine (clone_any A n cap c.sl w4.drew hXX.sl (by omega) (fun e => (hXX.nil e).1)).mono ?_
    rintro e w' ⟨a, c', h1, h2, h3⟩
    exact ⟨a, c', h1, h2, ((Below.refl w4.heap.size w4).drew).trans h3⟩
  have hsl : c.sl.length = n := HX.out.sl.1
  have HRES : Hid (∀ W3 a c', W3.ownsRow w4.heap.size 3 1 (.slice a n c') n (c.sl.map (Value.int .i64)) → Calls Try.prog 60 #[.agg #[.int .i64 F, .int .i64 T, .slice a n c']] W3 fun e w' => e = .returned (resV ⟨F, T, c.sl⟩ a n c') ∧ Below W3.heap.size W3 w') := fun W3 a c' ho => result_any ⟨F, T, c.sl⟩ a n c' W3 (ints_of_own ho) (by omega)
  have SB : Hid (∀ w', Below w4.heap.size w4 w' → w'.cell? ⟨p, 0, none⟩ = some (.int .i64 c.fr) ∧ w'.cell? ⟨p, 1, none⟩ = some (.int .i64 c.fst) ∧ w'.cell? ⟨p, 2, none⟩ = some (.slice A n cap) ∧ (∃ v, w'.cell? ⟨p + 1, 0, none⟩ = some v) ∧ (∃ v, w'.cell? ⟨p + 1, 1, none⟩ = some v) ∧ (∃ v, w'.cell? ⟨p + 1, 2, none⟩ = some v) ∧ w'.frozen? ⟨p + 1, 0, none⟩ = false ∧ w'.frozen? ⟨p + 1, 1, none⟩ = false ∧ w'.frozen? ⟨p + 1, 2, none⟩ = false) := fun w' hb => by
    have hz := (hb.block (p + 1) (by omega)).trans HUR2.out
    have x0 := cell_of_heap' hz 0
    have x1 := cell_of_heap' hz 1
    have x2 := cell_of_heap' hz 2
    simp at x0 x1 x2
    exact ⟨(hb.cell (p := ⟨p, 0, none⟩) (by show p < _; omega)).trans c0, (hb.cell (p := ⟨p, 1, none⟩) (by show p < _; omega)).trans c1, (hb.cell (p := ⟨p, 2, none⟩) (by show p < _; omega)).trans c2, ⟨_, x0⟩, ⟨_, x1⟩, ⟨_, x2⟩, frozen_of_heap' hz 0, frozen_of_heap' hz 1, frozen_of_heap' hz 2⟩
  have SS : Hid (∀ w' x y z, Below w4.heap.size w4 w' → (fun w' => w'.cell? ⟨p, 0, none⟩ = some (.int .i64 c.fr) ∧ w'.cell? ⟨p, 1, none⟩ = some (.int .i64 c.fst) ∧ w'.cell? ⟨p, 2, none⟩ = some (.slice A n cap) ∧ (∃ v, w'.cell? ⟨p + 1, 0, none⟩ = some v) ∧ (∃ v, w'.cell? ⟨p + 1, 1, none⟩ = some v) ∧ (∃ v, w'.cell? ⟨p + 1, 2, none⟩ = some v) ∧ w'.frozen? ⟨p + 1, 0, none⟩ = false ∧ w'.frozen? ⟨p + 1, 1, none⟩ = false ∧ w'.frozen? ⟨p + 1, 2, none⟩ = false) (((w'.setCell ⟨p + 1, 0, none⟩ x).setCell ⟨p + 1, 1, none⟩ y).setCell ⟨p + 1, 2, none⟩ z)) := fun w' x y z hb => by
    obtain ⟨h0, h1, h2, ⟨v0, h6⟩, ⟨v1, h7⟩, ⟨v2, h8⟩, h9, h10, h11⟩ := SB.out w' hb
    have hz := (hb.block (p + 1) (by omega)).trans HUR2.out
    have hz2 := set3_heap hz x y z
    unfold set3 at hz2
    have oth : ∀ q o, q ≠ p + 1 → (((w'.setCell ⟨p + 1, 0, none⟩ x).setCell ⟨p + 1, 1, none⟩ y).setCell ⟨p + 1, 2, none⟩ z).cell? ⟨q, o, none⟩ = w'.cell? ⟨q, o, none⟩ := fun q o hq => by
      rw [World.cell?_setCell_other _ _ _ _ (by intro e; simp only [Addr.mk.injEq] at e; omega), World.cell?_setCell_other _ _ _ _ (by intro e; simp only [Addr.mk.injEq] at e; omega), World.cell?_setCell_other _ _ _ _ (by intro e; simp only [Addr.mk.injEq] at e; omega)]
    have x0 := cell_of_heap' hz2 0
    have x1 := cell_of_heap' hz2 1
    have x2 := cell_of_heap' hz2 2
    simp at x0 x1 x2
    exact ⟨(oth p 0 (by omega)).trans h0, (oth p 1 (by omega)).trans h1, (oth p 2 (by omega)).trans h2, ⟨_, x0⟩, ⟨_, x1⟩, ⟨_, x2⟩, frozen_of_heap' hz2 0, frozen_of_heap' hz2 1, frozen_of_heap' hz2 2⟩
  clear hiu hdr hur hfr hfs hdd hF hT HWI HWU HV hn64 hsl c0 c1 c2 r0 r1 r2 y0 y1 y2
  by_cases hok : okC ⟨F, T, c.sl⟩ = true
  · have HJ2 : Hid (moveV c d u = (⟨F, T, c.sl⟩, 0)) := by show _ = _; rw [HJ.out, res2, if_pos hok]
    have HRES2 : Hid (∀ W3 a c', W3.ownsRow w4.heap.size 3 1 (.slice a n c') n (c.sl.map (Value.int .i64)) → Calls Try.prog 60 #[.agg #[.int .i64 F, .int .i64 T, .slice a n c']] W3 fun e w' => e = .returned (.tuple #[.agg #[.int .i64 F, .int .i64 T, .slice a n c'], .int .i64 0]) ∧ Below W3.heap.size W3 w') := fun W3 a c' ho => by
      have := HRES.out W3 a c' ho
      rw [show resV ⟨F, T, c.sl⟩ a n c' = .tuple #[.agg #[.int .i64 F, .int .i64 T, .slice a n c'], .int .i64 0] from if_pos hok] at this
      exact this
    clear hok HRES HJ
    go_wp2_with fail
    obtain ⟨e0, e1, e2, ⟨r0, e3⟩, ⟨r1, e4⟩, ⟨r2, e5⟩, y0, y1, y2⟩ := SB.out w4 (Below.refl _ _)
    have HSD := hide (SB.out _ ((Below.refl w4.heap.size w4).drew))
    go_region_held3 (fun w' => w'.cell? ⟨p, 0, none⟩ = some (.int .i64 c.fr) ∧ w'.cell? ⟨p, 1, none⟩ = some (.int .i64 c.fst) ∧ w'.cell? ⟨p, 2, none⟩ = some (.slice A n cap) ∧ (∃ v, w'.cell? ⟨p + 1, 0, none⟩ = some v) ∧ (∃ v, w'.cell? ⟨p + 1, 1, none⟩ = some v) ∧ (∃ v, w'.cell? ⟨p + 1, 2, none⟩ = some v) ∧ w'.frozen? ⟨p + 1, 0, none⟩ = false ∧ w'.frozen? ⟨p + 1, 1, none⟩ = false ∧ w'.frozen? ⟨p + 1, 2, none⟩ = false)
      (first | go_keep | exact ⟨s0, s1, s2, ⟨_, s3⟩, ⟨_, s4⟩, ⟨_, s5⟩, s6, s7, s8⟩ | exact SB.out _ hb4 | exact SB.out _ hb5 | exact SS.out _ _ _ _ hb5 | exact HSD.out)
      (first | (go_at_call 68; (with_reducible refine HCL.out.mono ?_); rintro e wa ⟨a4, c4, rfl, ho4, hb4⟩; obtain ⟨m0, m1, m2, ⟨v6, m3⟩, ⟨v7, m4⟩, ⟨v8, m5⟩, m6, m7, m8⟩ := SB.out _ hb4) | (go_at_call 60; (with_reducible refine (HRES2.out _ _ _ ho4).mono ?_); rintro e w5 ⟨rfl, hb5'⟩; have hb5 := hb4.trans (hb5'.mono hb4.size); obtain ⟨l0, l1, l2, ⟨v9, l3⟩, ⟨v10, l4⟩, ⟨v11, l5⟩, l6, l7, l8⟩ := SB.out _ hb5; obtain ⟨s0, s1, s2, ⟨v12, s3⟩, ⟨v13, s4⟩, ⟨v14, s5⟩, s6, s7, s8⟩ := SS.out w5 (.int .i64 F) (.int .i64 T) (.slice a4 n c4) hb5))
    have HB5 : Hid (Below w.heap.size w w5) := HB2.out.trans (hb5.mono HB2.out.size)
    have HO5 : Hid (w5.ownsRow w4.heap.size 3 1 (.slice a4 n c4) n (c.sl.map (Value.int .i64))) := own_below ho4 hb5'
    have HZ5 := hide ((hb5.block (p + 1) (by omega)).trans HUR2.out)
    clear hb5 hb5' hb4 ho4 m0 m1 m2 m3 m4 m5 m6 m7 m8 l0 l1 l2 l3 l4 l5 l6 l7 l8 s0 s1 s2 s3 s4 s5 s6 s7 s8
    go_wp2
    refine bodyPost_ret (results34 (set3_heap HZ5.out _ _ _) _ _ _ _ _ _ _ _) rfl ?_
    refine ⟨a4, n, c4, by rw [HJ2.out] <;> rfl, ?_, set3_below HB5.out (by omega) _ _ _⟩
    rw [HJ2.out]
    exact own_base (own_set3 HO5.out (by omega) _ _ _) (by omega)
  · have HJ2 : Hid (moveV c d u = (Cu.zero, 4)) := by show _ = _; rw [HJ.out, res2, if_neg hok]
    have HRES2 : Hid (∀ W3 a c', W3.ownsRow w4.heap.size 3 1 (.slice a n c') n (c.sl.map (Value.int .i64)) → Calls Try.prog 60 #[.agg #[.int .i64 F, .int .i64 T, .slice a n c']] W3 fun e w' => e = .returned (.tuple #[.agg #[.int .i64 0, .int .i64 0, .slice none 0 0], .int .i64 4]) ∧ Below W3.heap.size W3 w') := fun W3 a c' ho => by
      have := HRES.out W3 a c' ho
      rw [show resV ⟨F, T, c.sl⟩ a n c' = .tuple #[.agg #[.int .i64 0, .int .i64 0, .slice none 0 0], .int .i64 4] from if_neg hok] at this
      exact this
    clear hok HRES HJ
    go_wp2_with fail
    obtain ⟨e0, e1, e2, ⟨r0, e3⟩, ⟨r1, e4⟩, ⟨r2, e5⟩, y0, y1, y2⟩ := SB.out w4 (Below.refl _ _)
    have HSD := hide (SB.out _ ((Below.refl w4.heap.size w4).drew))
    go_region_held3 (fun w' => w'.cell? ⟨p, 0, none⟩ = some (.int .i64 c.fr) ∧ w'.cell? ⟨p, 1, none⟩ = some (.int .i64 c.fst) ∧ w'.cell? ⟨p, 2, none⟩ = some (.slice A n cap) ∧ (∃ v, w'.cell? ⟨p + 1, 0, none⟩ = some v) ∧ (∃ v, w'.cell? ⟨p + 1, 1, none⟩ = some v) ∧ (∃ v, w'.cell? ⟨p + 1, 2, none⟩ = some v) ∧ w'.frozen? ⟨p + 1, 0, none⟩ = false ∧ w'.frozen? ⟨p + 1, 1, none⟩ = false ∧ w'.frozen? ⟨p + 1, 2, none⟩ = false)
      (first | go_keep | exact ⟨s0, s1, s2, ⟨_, s3⟩, ⟨_, s4⟩, ⟨_, s5⟩, s6, s7, s8⟩ | exact SB.out _ hb4 | exact SB.out _ hb5 | exact SS.out _ _ _ _ hb5 | exact HSD.out)
      (first | (go_at_call 68; (with_reducible refine HCL.out.mono ?_); rintro e wa ⟨a4, c4, rfl, ho4, hb4⟩; obtain ⟨m0, m1, m2, ⟨v6, m3⟩, ⟨v7, m4⟩, ⟨v8, m5⟩, m6, m7, m8⟩ := SB.out _ hb4) | (go_at_call 60; (with_reducible refine (HRES2.out _ _ _ ho4).mono ?_); rintro e w5 ⟨rfl, hb5'⟩; have hb5 := hb4.trans (hb5'.mono hb4.size); obtain ⟨l0, l1, l2, ⟨v9, l3⟩, ⟨v10, l4⟩, ⟨v11, l5⟩, l6, l7, l8⟩ := SB.out _ hb5; obtain ⟨s0, s1, s2, ⟨v12, s3⟩, ⟨v13, s4⟩, ⟨v14, s5⟩, s6, s7, s8⟩ := SS.out w5 (.int .i64 0) (.int .i64 0) (.slice none 0 0) hb5))
    have HB5 : Hid (Below w.heap.size w w5) := HB2.out.trans (hb5.mono HB2.out.size)
    have HO5 : Hid (w5.ownsRow w4.heap.size 3 1 (.slice a4 n c4) n (c.sl.map (Value.int .i64))) := own_below ho4 hb5'
    have HZ5 := hide ((hb5.block (p + 1) (by omega)).trans HUR2.out)
    clear hb5 hb5' hb4 ho4 m0 m1 m2 m3 m4 m5 m6 m7 m8 l0 l1 l2 l3 l4 l5 l6 l7 l8 s0 s1 s2 s3 s4 s5 s6 s7 s8
    go_wp2
    refine bodyPost_ret (results34 (set3_heap HZ5.out _ _ _) _ _ _ _ _ _ _ _) rfl ?_
    refine ⟨none, 0, 0, by rw [HJ2.out] <;> rfl, ?_, set3_below HB5.out (by omega) _ _ _⟩
    rw [HJ2.out]
    exact World.ownsRow_nil _ _ _ _
end Go.Proofs.Ytdepnhnpklbmiaa
/- Contract of Flip. -/
namespace Go.Proofs.Ytdepnhnpklbmiaa
open Go.RowKit Go.Sort

/-- the slopes of the flipped curve -/
def flipL (xs : List Int) : List Int := (xs.map (fun s => -s)).reverse
theorem flipL_len (xs : List Int) : (flipL xs).length = xs.length := by simp [flipL]
theorem flipL_at {xs : List Int} {k : Nat} (h : k < xs.length) : iA (flipL xs) (xs.length - 1 - k) = -iA xs k := by
  rw [iA_get (by rw [flipL_len]; omega), iA_get h]
  simp only [flipL, List.getElem_reverse, List.getElem_map, List.length_map]
  congr 2
  omega
def flipC (c : Cu) : Cu := ⟨-(c.fr + c.sl.length), valK c c.sl.length, flipL c.sl⟩
/-- what Flip answers -/
def flipV (c : Cu) : Cu × Int := if okC c = true then res2 (flipC c) else (Cu.zero, 2)

/-- the last k numbers of the row are laid -/
structure RevI (w wr : World) (p g n : Nat) (xs : List Int) (V : Array Value) (k : Nat) : Prop where
  arg : wr.heap[p]? = some (.cells V 24 (0, 0))
  row : ∃ T : List Int, wr.ownsRow g 3 1 (.slice (some ⟨g, 0, none⟩) n n) n (T.map (Value.int .i64)) ∧ ∀ j, n - k ≤ j → j < n → iA T j = iA xs j
  below : Below w.heap.size w wr
  res : wr.heap[p + 1]? = some (.cells #[.int .i64 0, .int .i64 0, .slice none 0 0] 24 (0, 0))
  lt : p + 1 < wr.heap.size
theorem RevI.next {w wr : World} {p g n : Nat} {xs : List Int} {V : Array Value} {k i : Nat} (h : RevI w wr p g n xs V k) (hi : i + k + 1 = n) (hpg : p + 1 < g) (hwg : w.heap.size ≤ g) :
    RevI w (wr.setCell ⟨g, i, none⟩ (.int .i64 (iA xs i))) p g n xs V (k + 1) ∧ (∃ v, wr.cell? ⟨g, i, none⟩ = some v) ∧ wr.frozen? ⟨g, i, none⟩ = false := by
  obtain ⟨T, hT, hTx⟩ := h.row
  have hTl : T.length = n := by simpa using hT.1
  have hs := (hT.stored i (.int .i64 (iA xs i))).1
  rw [← List.map_set] at hs
  refine ⟨⟨?_, ⟨_, hs, fun j hj hjn => ?_⟩, ?_, ?_, ?_⟩, ⟨_, (own_cell hT (by omega)).1⟩, (own_cell hT (by omega)).2⟩
  · rw [heap_setCell_other _ ⟨g, i, none⟩ p _ (by show p ≠ g; omega)]
    exact h.arg
  · rw [iA_set _ _ _ _ (by omega)]
    by_cases hjk : j = i
    · rw [if_pos hjk, hjk]
    · rw [if_neg hjk]
      exact hTx j (by omega) hjn
  · exact h.below.setCell (p := ⟨g, i, none⟩) hwg _
  · rw [heap_setCell_other _ ⟨g, i, none⟩ (p + 1) _ (by show p + 1 ≠ g; omega)]
    exact h.res
  · simpa using h.lt

/-- what stands while the result is made -/
structure FlipI (w wr : World) (p g n : Nat) (zs : List Int) : Prop where
  row : wr.ownsRow g 3 1 (.slice (some ⟨g, 0, none⟩) n n) n (zs.map (Value.int .i64))
  below : Below w.heap.size w wr
  lt : g < wr.heap.size
  pg : p + 1 < g
  res : ∃ a b c, wr.heap[p + 1]? = some (.cells #[a, b, c] 24 (0, 0))
theorem FlipI.next {w W W' : World} {p g n : Nat} {zs : List Int} (h : FlipI w W p g n zs) (hb : Below W.heap.size W W') : FlipI w W' p g n zs :=
  ⟨own_below h.row hb, h.below.trans (hb.mono h.below.size), Nat.lt_of_lt_of_le h.lt hb.size, h.pg, by obtain ⟨a, b, c, hz⟩ := h.res; exact ⟨a, b, c, (hb.block (p + 1) (Nat.lt_trans h.pg h.lt)).trans hz⟩⟩
theorem FlipI.set {w W : World} {p g n : Nat} {zs : List Int} (h : FlipI w W p g n zs) (hq : w.heap.size ≤ p + 1) (x y z : Value) : FlipI w (((W.setCell ⟨p + 1, 0, none⟩ x).setCell ⟨p + 1, 1, none⟩ y).setCell ⟨p + 1, 2, none⟩ z) p g n zs :=
  ⟨own_set3 h.row h.pg x y z, set3_below h.below hq x y z, by simpa using h.lt, h.pg, by obtain ⟨a, b, c, hz⟩ := h.res; exact ⟨x, y, z, set3_heap hz x y z⟩⟩

theorem results30 {W : World} {g : Nat} {a b c : Value} {t : TypeId} (h : W.heap[g]? = some (.cells #[a, b, c] t (0, 0))) (x0 x1 y : Value) (rest : List Value) :
    (results Try.f30 (x0 :: x1 :: .pointer (some ⟨g, 0, none⟩) :: y :: rest).toArray).run Try.prog W = .ok (.tuple #[.agg #[a, b, c], y]) W := by
  have h0 := cell_of_heap' h 0
  have h1 := cell_of_heap' h 1
  have h2 := cell_of_heap' h 2
  simp at h0 h1 h2
  simp [results, Try.results30, go_sem, h0, h1, h2]

set_option maxHeartbeats 4000000 in
set_option maxRecDepth 100000 in
theorem Flip_any (c : Cu) (A : Option Addr) (n cap : Nat) (w : World) (hx : CuAt w.heap.size w c A n cap) (hn : n ≤ 9223372036854775807) :
    Calls Try.prog 30 #[.agg #[.int .i64 c.fr, .int .i64 c.fst, .slice A n cap]] w (CuPost (flipV c) w) := by
  have mixed := mixedOrders
  obtain ⟨W1, hW1⟩ : ∃ W1, (w.alloc (.cells #[.int .i64 c.fr, .int .i64 c.fst, .slice A n cap] 24)).alloc (.cells #[.int .i64 0, .int .i64 0, .slice none 0 0] 24) = W1 := ⟨_, rfl⟩
  obtain ⟨p, hp⟩ : ∃ p, w.heap.size = p := ⟨_, rfl⟩
  have hG1 : Gr w W1 := by rw [← hW1]; exact ((Gr.refl w).alloc _).alloc _
  have hs1 : W1.heap.size = p + 2 := by rw [← hW1, ← hp]; simp
  have ua : W1.heap[p]? = some (.cells #[.int .i64 c.fr, .int .i64 c.fst, .slice A n cap] 24 (0, 0)) := by
    rw [← hW1, ← hp]
    exact (Below.heap_alloc _ _ _ (by simp)).trans (heap_alloc_new w _)
  have ur : W1.heap[p + 1]? = some (.cells #[.int .i64 0, .int .i64 0, .slice none 0 0] 24 (0, 0)) := by
    rw [← hW1, ← hp]
    simpa using heap_alloc_new (w.alloc (.cells #[.int .i64 c.fr, .int .i64 c.fst, .slice A n cap] 24)) (.cells #[.int .i64 0, .int .i64 0, .slice none 0 0] 24)
  have HUA := hide ua
  have HUR := hide ur
  have HX := hide hx
  have HG1 := hide hG1
  have HV := hide (Valid_any c A n cap W1 (hx.gr hG1).sl (by omega))
  have a0 := cell_of_heap' ua 0
  have a1 := cell_of_heap' ua 1
  have a2 := cell_of_heap' ua 2
  simp at a0 a1 a2
  clear ua ur hx hG1
  go_enter Try.func30, Try.ntmps30
  go_wp2_with fail
  try rw [hp]
  refine HV.out.mono ?_
  rintro e w2 ⟨rfl, hG2⟩
  have HG2 := hide (HG1.out.trans hG2)
  have hs2 : p + 2 ≤ w2.heap.size := by have := hG2.size; omega
  have b2 := (hG2.block (k := p) (by omega)).trans HUA.out
  have q2 := (hG2.block (k := p + 1) (by omega)).trans HUR.out
  have HUA2 := hide b2
  have HUR2 := hide q2
  have c0 := cell_of_heap' b2 0
  have c1 := cell_of_heap' b2 1
  have c2 := cell_of_heap' b2 2
  have r0 := cell_of_heap' q2 0
  have r1 := cell_of_heap' q2 1
  have r2 := cell_of_heap' q2 2
  have y0 := frozen_of_heap' q2 0
  have y1 := frozen_of_heap' q2 1
  have y2 := frozen_of_heap' q2 2
  simp at c0 c1 c2 r0 r1 r2
  clear b2 q2 hG2 a0 a1 a2
  cases hva : okC c
  · have HJ : Hid (flipV c = (Cu.zero, 2)) := if_neg (by rw [hva]; simp)
    have HB2 : Hid (Below w.heap.size w w2) := HG2.out.below
    clear hva
    go_wp2_with fail
    refine bodyPost_ret (results30 (set3_heap HUR2.out _ _ _) _ _ _ _) rfl ?_
    refine ⟨none, 0, 0, by rw [HJ.out] <;> rfl, ?_, set3_below HB2.out (by omega) _ _ _⟩
    rw [HJ.out]
    exact World.ownsRow_nil _ _ _ _
  have HVA := hide hva
  have hn64 : n ≤ 64 := by have h1 := (okC_true hva).2.2.1; have h2 := HX.out.sl.1; omega
  have HJ : Hid (flipV c = res2 (flipC c)) := if_pos hva
  clear hva
  have hmk2 := run_make_row' (P := Try.prog) 22 3 (.int .i64 0) 8 Try.underlying22 info3 rfl .i64 .i64 n (by omega) (by omega)
  have hX3 := HX.out.gr HG2.out
  have HB3 := hide HG2.out.below
  obtain ⟨g, hg⟩ : ∃ g, w2.heap.size = g := ⟨_, rfl⟩
  have l2 : (w2.alloc (.cells (madeCells #[.int .i64 0] n) 3)).cell? ⟨p, 2, none⟩ = some (.slice A n cap) := (World.cell?_alloc_lt _ _ _ (by show p < _; omega)).trans c2
  have hno : (w2.alloc (.cells (madeCells #[.int .i64 0] n) 3)).ownsRow g 3 1 (.slice (some ⟨g, 0, none⟩) n n) n ((List.replicate n (0 : Int)).map (Value.int .i64)) := by rw [← hg]; exact made_ints w2 (Nat.le_refl _) (by omega)
  have HS0 : Hid (RevI w (w2.alloc (.cells (madeCells #[.int .i64 0] n) 3)) p g n (flipL c.sl) #[.int .i64 c.fr, .int .i64 c.fst, .slice A n cap] 0) :=
    ⟨(Below.heap_alloc _ _ _ (by omega)).trans HUA2.out, ⟨_, hno, fun j h1 h2 => by omega⟩, HB3.out.alloc HB3.out.size _, (Below.heap_alloc _ _ _ (by omega)).trans HUR2.out, by simp; omega⟩
  clear hX3 hno
  go_wp2_with fail
  try rw [hg]
  go_loopw [18] (fun i wr => ∃ k : Nat, k ≤ n ∧ i = .int .i64 k ∧ Hid (RevI w wr p g n (flipL c.sl) #[.int .i64 c.fr, .int .i64 c.fst, .slice A n cap] k)) (fun i _ => n - (intOf i).toNat)
  case atStart => exact ⟨0, Nat.zero_le _, rfl, HS0⟩
  case round =>
    obtain ⟨k, hk, rfl, HO⟩ := hrel
    by_cases hlt : k < n
    · obtain ⟨b, off, rfl, hb, c0⟩ := HX.out.sl.at_ hlt
      have hlt' : (k : Int) < (n : Int) := by omega
      have E0 : wr.cell? ⟨b, off + k, none⟩ = some (.int .i64 (iA c.sl k)) := (HO.out.below.cell (p := ⟨b, off + k, none⟩) hb).trans c0
      obtain ⟨i, hi⟩ : ∃ i, n - 1 - k = i := ⟨_, rfl⟩
      have hle : c.sl.length = n := HX.out.sl.1
      have hfl : iA (flipL c.sl) i = -iA c.sl k := by have := flipL_at (xs := c.sl) (k := k) (by omega); rwa [hle, hi] at this
      obtain ⟨hn, ⟨v, E2⟩, E3⟩ := HO.out.next (i := i) (by omega) (by omega) (by omega)
      have hzr : -1048576 ≤ iA c.sl k ∧ iA c.sl k ≤ 1048576 := okC_sl HVA.out (by omega)
      rw [hfl] at hn
      have HN := hide hn
      generalize iA c.sl k = z at E0 HN hzr
      have hwz : IntKind.i64.wrap (-z) = -z := by rw [IntKind.wrap_i64]; omega
      obtain ⟨m, hm⟩ : ∃ m : Int, (n : Int) - 1 = m := ⟨_, rfl⟩
      have hwn : IntKind.i64.wrap ((n : Int) - 1) = m := by rw [IntKind.wrap_i64]; omega
      have hwi : IntKind.i64.wrap (m - (k : Int)) = (i : Int) := by rw [IntKind.wrap_i64]; omega
      have hin : (i : Int) < (n : Int) := by omega
      clear c0 hfl hn hm hi hzr
      go_wp2_with fail
      exact ⟨⟨k + 1, by omega, by go_num, HN⟩, by simp [intOf]; omega⟩
    · obtain rfl : k = n := by omega
      have hfr := okC_fr HVA.out
      have hle : c.sl.length = k := HX.out.sl.1
      obtain ⟨T, hT, hTx⟩ := HO.out.row
      have hTl : T.length = k := by simpa using hT.1
      have hTe : T = flipL c.sl := ints_ext (by rw [hTl, flipL_len, hle]) (fun j hj => hTx j (by omega) (by omega))
      rw [hTe] at hT
      obtain ⟨t, ht⟩ : ∃ t, c.fr + (k : Int) = t := ⟨_, rfl⟩
      obtain ⟨v, hv⟩ : ∃ v, valK c k = v := ⟨_, rfl⟩
      obtain ⟨mt, hmt⟩ : ∃ t2, -t = t2 := ⟨_, rfl⟩
      have hwt : IntKind.i64.wrap (-t) = mt := by rw [IntKind.wrap_i64]; omega
      have HFC : Hid (flipC c = ⟨mt, v, flipL c.sl⟩) := by show flipC c = _; unfold flipC; rw [hle, ht, hv, hmt]
      have HFL : Hid ((flipL c.sl).length = k) := by show _ = _; rw [flipL_len, hle]
      obtain ⟨zs, hzs⟩ : ∃ zs, flipL c.sl = zs := ⟨_, rfl⟩
      rw [hzs] at hT HFC HFL
      rw [HFC.out] at HJ
      have hgl : g < wr.heap.size := (hT.lt g rfl).2
      have HF0 : Hid (FlipI w wr p g k zs) := ⟨hT, HO.out.below, hgl, by omega, _, _, _, HO.out.res⟩
      have HUA3 := hide HO.out.arg
      have HRS3 := hide HO.out.res
      have SB : Hid (∀ w', Below wr.heap.size wr w' → w'.cell? ⟨p, 0, none⟩ = some (.int .i64 c.fr) ∧ w'.cell? ⟨p, 1, none⟩ = some (.int .i64 c.fst) ∧ w'.cell? ⟨p, 2, none⟩ = some (.slice A k cap) ∧ (∃ v, w'.cell? ⟨p + 1, 0, none⟩ = some v) ∧ (∃ v, w'.cell? ⟨p + 1, 1, none⟩ = some v) ∧ (∃ v, w'.cell? ⟨p + 1, 2, none⟩ = some v) ∧ w'.frozen? ⟨p + 1, 0, none⟩ = false ∧ w'.frozen? ⟨p + 1, 1, none⟩ = false ∧ w'.frozen? ⟨p + 1, 2, none⟩ = false ∧ Hid (FlipI w w' p g k zs)) := fun w' hb => by
        have hz0 := (hb.block p (by omega)).trans HUA3.out
        have hz := (hb.block (p + 1) (by omega)).trans HRS3.out
        have z0 := cell_of_heap' hz0 0
        have z1 := cell_of_heap' hz0 1
        have z2 := cell_of_heap' hz0 2
        have x0 := cell_of_heap' hz 0
        have x1 := cell_of_heap' hz 1
        have x2 := cell_of_heap' hz 2
        simp at x0 x1 x2 z0 z1 z2
        exact ⟨z0, z1, z2, ⟨_, x0⟩, ⟨_, x1⟩, ⟨_, x2⟩, frozen_of_heap' hz 0, frozen_of_heap' hz 1, frozen_of_heap' hz 2, HF0.out.next hb⟩
      have KC : Hid (∀ W w', (fun w' => w'.cell? ⟨p, 0, none⟩ = some (.int .i64 c.fr) ∧ w'.cell? ⟨p, 1, none⟩ = some (.int .i64 c.fst) ∧ w'.cell? ⟨p, 2, none⟩ = some (.slice A k cap) ∧ (∃ v, w'.cell? ⟨p + 1, 0, none⟩ = some v) ∧ (∃ v, w'.cell? ⟨p + 1, 1, none⟩ = some v) ∧ (∃ v, w'.cell? ⟨p + 1, 2, none⟩ = some v) ∧ w'.frozen? ⟨p + 1, 0, none⟩ = false ∧ w'.frozen? ⟨p + 1, 1, none⟩ = false ∧ w'.frozen? ⟨p + 1, 2, none⟩ = false ∧ Hid (FlipI w w' p g k zs)) W → Below W.heap.size W w' → (fun w' => w'.cell? ⟨p, 0, none⟩ = some (.int .i64 c.fr) ∧ w'.cell? ⟨p, 1, none⟩ = some (.int .i64 c.fst) ∧ w'.cell? ⟨p, 2, none⟩ = some (.slice A k cap) ∧ (∃ v, w'.cell? ⟨p + 1, 0, none⟩ = some v) ∧ (∃ v, w'.cell? ⟨p + 1, 1, none⟩ = some v) ∧ (∃ v, w'.cell? ⟨p + 1, 2, none⟩ = some v) ∧ w'.frozen? ⟨p + 1, 0, none⟩ = false ∧ w'.frozen? ⟨p + 1, 1, none⟩ = false ∧ w'.frozen? ⟨p + 1, 2, none⟩ = false ∧ Hid (FlipI w w' p g k zs)) w') := fun W w' ⟨h0, h1, h2, h3, h4, h5, h6, h7, h8, h9⟩ hb => by
        have hl : p + 1 < W.heap.size := by have := h9.out.lt; omega
        have hx : ∀ q o, q < W.heap.size → w'.cell? ⟨q, o, none⟩ = W.cell? ⟨q, o, none⟩ := fun q o hq => hb.cell (p := ⟨q, o, none⟩) hq
        have hy : ∀ q o, q < W.heap.size → w'.frozen? ⟨q, o, none⟩ = W.frozen? ⟨q, o, none⟩ := fun q o hq => hb.frozen (p := ⟨q, o, none⟩) hq
        show w'.cell? ⟨p, 0, none⟩ = some (.int .i64 c.fr) ∧ w'.cell? ⟨p, 1, none⟩ = some (.int .i64 c.fst) ∧ w'.cell? ⟨p, 2, none⟩ = some (.slice A k cap) ∧ (∃ v, w'.cell? ⟨p + 1, 0, none⟩ = some v) ∧ (∃ v, w'.cell? ⟨p + 1, 1, none⟩ = some v) ∧ (∃ v, w'.cell? ⟨p + 1, 2, none⟩ = some v) ∧ w'.frozen? ⟨p + 1, 0, none⟩ = false ∧ w'.frozen? ⟨p + 1, 1, none⟩ = false ∧ w'.frozen? ⟨p + 1, 2, none⟩ = false ∧ Hid (FlipI w w' p g k zs)
        rw [hx p 0 (by omega), hx p 1 (by omega), hx p 2 (by omega), hx (p + 1) 0 hl, hx (p + 1) 1 hl, hx (p + 1) 2 hl, hy (p + 1) 0 hl, hy (p + 1) 1 hl, hy (p + 1) 2 hl]
        exact ⟨h0, h1, h2, h3, h4, h5, h6, h7, h8, h9.out.next hb⟩
      have hXn := HX.out
      have HT : Hid (∀ W, (fun w' => w'.cell? ⟨p, 0, none⟩ = some (.int .i64 c.fr) ∧ w'.cell? ⟨p, 1, none⟩ = some (.int .i64 c.fst) ∧ w'.cell? ⟨p, 2, none⟩ = some (.slice A k cap) ∧ (∃ v, w'.cell? ⟨p + 1, 0, none⟩ = some v) ∧ (∃ v, w'.cell? ⟨p + 1, 1, none⟩ = some v) ∧ (∃ v, w'.cell? ⟨p + 1, 2, none⟩ = some v) ∧ w'.frozen? ⟨p + 1, 0, none⟩ = false ∧ w'.frozen? ⟨p + 1, 1, none⟩ = false ∧ w'.frozen? ⟨p + 1, 2, none⟩ = false ∧ Hid (FlipI w w' p g k zs)) W → Calls Try.prog 50 #[.agg #[.int .i64 c.fr, .int .i64 c.fst, .slice A k cap]] W fun e w' => e = .returned (.int .i64 t) ∧ Below W.heap.size W w') := fun W _ => by
        refine (toOf_any c A k cap W hfr.1 hfr.2 (by omega)).mono ?_
        rintro e w' ⟨rfl, hg⟩
        exact ⟨by rw [ht], hg.below⟩
      have HA : Hid (∀ W, (fun w' => w'.cell? ⟨p, 0, none⟩ = some (.int .i64 c.fr) ∧ w'.cell? ⟨p, 1, none⟩ = some (.int .i64 c.fst) ∧ w'.cell? ⟨p, 2, none⟩ = some (.slice A k cap) ∧ (∃ v, w'.cell? ⟨p + 1, 0, none⟩ = some v) ∧ (∃ v, w'.cell? ⟨p + 1, 1, none⟩ = some v) ∧ (∃ v, w'.cell? ⟨p + 1, 2, none⟩ = some v) ∧ w'.frozen? ⟨p + 1, 0, none⟩ = false ∧ w'.frozen? ⟨p + 1, 1, none⟩ = false ∧ w'.frozen? ⟨p + 1, 2, none⟩ = false ∧ Hid (FlipI w w' p g k zs)) W → Calls Try.prog 51 #[.agg #[.int .i64 c.fr, .int .i64 c.fst, .slice A k cap], .int .i64 t] W fun e w' => e = .returned (.agg #[.int .i64 c.fr, .int .i64 c.fst, .slice A k cap, .int .i64 t, .int .i64 v]) ∧ Below W.heap.size W w') := fun W ⟨_, _, _, _, _, _, _, _, _, h9⟩ => by
        have hXW := hXn.now h9.out.below (Nat.le_refl _)
        have := at_any c A k cap k W HVA.out hXW.sl hXW.old (Nat.le_refl _)
        rw [ht, hv] at this
        exact this
      have HRR : Hid (∀ W, (fun w' => w'.cell? ⟨p, 0, none⟩ = some (.int .i64 c.fr) ∧ w'.cell? ⟨p, 1, none⟩ = some (.int .i64 c.fst) ∧ w'.cell? ⟨p, 2, none⟩ = some (.slice A k cap) ∧ (∃ v, w'.cell? ⟨p + 1, 0, none⟩ = some v) ∧ (∃ v, w'.cell? ⟨p + 1, 1, none⟩ = some v) ∧ (∃ v, w'.cell? ⟨p + 1, 2, none⟩ = some v) ∧ w'.frozen? ⟨p + 1, 0, none⟩ = false ∧ w'.frozen? ⟨p + 1, 1, none⟩ = false ∧ w'.frozen? ⟨p + 1, 2, none⟩ = false ∧ Hid (FlipI w w' p g k zs)) W → Calls Try.prog 60 #[.agg #[.int .i64 mt, .int .i64 v, .slice (some ⟨g, 0, none⟩) k k]] W fun e w' => e = .returned (resV ⟨mt, v, zs⟩ (some ⟨g, 0, none⟩) k k) ∧ Below W.heap.size W w') := fun W ⟨_, _, _, _, _, _, _, _, _, h9⟩ =>
        result_any ⟨mt, v, zs⟩ (some ⟨g, 0, none⟩) k k W (ints_of_own h9.out.row) (by omega)
      have SS : Hid (∀ w' x y z, (fun w' => w'.cell? ⟨p, 0, none⟩ = some (.int .i64 c.fr) ∧ w'.cell? ⟨p, 1, none⟩ = some (.int .i64 c.fst) ∧ w'.cell? ⟨p, 2, none⟩ = some (.slice A k cap) ∧ (∃ v, w'.cell? ⟨p + 1, 0, none⟩ = some v) ∧ (∃ v, w'.cell? ⟨p + 1, 1, none⟩ = some v) ∧ (∃ v, w'.cell? ⟨p + 1, 2, none⟩ = some v) ∧ w'.frozen? ⟨p + 1, 0, none⟩ = false ∧ w'.frozen? ⟨p + 1, 1, none⟩ = false ∧ w'.frozen? ⟨p + 1, 2, none⟩ = false ∧ Hid (FlipI w w' p g k zs)) w' → (fun w' => w'.cell? ⟨p, 0, none⟩ = some (.int .i64 c.fr) ∧ w'.cell? ⟨p, 1, none⟩ = some (.int .i64 c.fst) ∧ w'.cell? ⟨p, 2, none⟩ = some (.slice A k cap) ∧ (∃ v, w'.cell? ⟨p + 1, 0, none⟩ = some v) ∧ (∃ v, w'.cell? ⟨p + 1, 1, none⟩ = some v) ∧ (∃ v, w'.cell? ⟨p + 1, 2, none⟩ = some v) ∧ w'.frozen? ⟨p + 1, 0, none⟩ = false ∧ w'.frozen? ⟨p + 1, 1, none⟩ = false ∧ w'.frozen? ⟨p + 1, 2, none⟩ = false ∧ Hid (FlipI w w' p g k zs)) (((w'.setCell ⟨p + 1, 0, none⟩ x).setCell ⟨p + 1, 1, none⟩ y).setCell ⟨p + 1, 2, none⟩ z)) := fun w' x y z ⟨h0, h1, h2, ⟨v0, h3⟩, ⟨v1, h4⟩, ⟨v2, h5⟩, h6, h7, h8, h9⟩ => by
        have oth : ∀ q o, q ≠ p + 1 → (((w'.setCell ⟨p + 1, 0, none⟩ x).setCell ⟨p + 1, 1, none⟩ y).setCell ⟨p + 1, 2, none⟩ z).cell? ⟨q, o, none⟩ = w'.cell? ⟨q, o, none⟩ := fun q o hq => by
          rw [World.cell?_setCell_other _ _ _ _ (by intro e; simp only [Addr.mk.injEq] at e; omega), World.cell?_setCell_other _ _ _ _ (by intro e; simp only [Addr.mk.injEq] at e; omega), World.cell?_setCell_other _ _ _ _ (by intro e; simp only [Addr.mk.injEq] at e; omega)]
        refine ⟨(oth p 0 (by omega)).trans h0, (oth p 1 (by omega)).trans h1, (oth p 2 (by omega)).trans h2, ⟨x, ?_⟩, ⟨y, ?_⟩, ⟨z, ?_⟩, ?_, ?_, ?_, h9.out.set (by omega) x y z⟩
        · rw [World.cell?_setCell_other _ _ _ _ (by simp), World.cell?_setCell_other _ _ _ _ (by simp)]
          exact World.cell?_setCell_same _ _ _ h3
        · rw [World.cell?_setCell_other _ _ _ _ (by simp)]
          exact World.cell?_setCell_same _ _ _ ((World.cell?_setCell_other _ _ _ _ (by simp)).trans h4)
        · exact World.cell?_setCell_same _ _ _ ((World.cell?_setCell_other _ _ _ _ (by simp)).trans ((World.cell?_setCell_other _ _ _ _ (by simp)).trans h5))
        all_goals
          rw [World.frozen?_setCell, World.frozen?_setCell, World.frozen?_setCell]
          assumption
      have hfd : ∀ W : World, (Instr.field 61 (.agg #[.int .i64 c.fr, .int .i64 c.fst, .slice A k cap, .int .i64 t, .int .i64 v]) 2).run Try.prog W = .ok (.int .i64 v) W := fun _ => by kernel_rfl
      have hpg2 : p + 1 < g := by omega
      have hwp : w.heap.size = p := hp
      clear hT hTe hTx hfr ht hv hmt hzs hgl hTl hle c0 c1 c2 r0 r1 r2 y0 y1 y2 hXn HF0 HO
      by_cases hok : okC ⟨mt, v, zs⟩ = true
      · have HJ2 : Hid (flipV c = (⟨mt, v, zs⟩, 0)) := by show _ = _; rw [HJ.out, res2, if_pos hok]
        have HR2 : Hid (∀ W, (fun w' => w'.cell? ⟨p, 0, none⟩ = some (.int .i64 c.fr) ∧ w'.cell? ⟨p, 1, none⟩ = some (.int .i64 c.fst) ∧ w'.cell? ⟨p, 2, none⟩ = some (.slice A k cap) ∧ (∃ v, w'.cell? ⟨p + 1, 0, none⟩ = some v) ∧ (∃ v, w'.cell? ⟨p + 1, 1, none⟩ = some v) ∧ (∃ v, w'.cell? ⟨p + 1, 2, none⟩ = some v) ∧ w'.frozen? ⟨p + 1, 0, none⟩ = false ∧ w'.frozen? ⟨p + 1, 1, none⟩ = false ∧ w'.frozen? ⟨p + 1, 2, none⟩ = false ∧ Hid (FlipI w w' p g k zs)) W → Calls Try.prog 60 #[.agg #[.int .i64 mt, .int .i64 v, .slice (some ⟨g, 0, none⟩) k k]] W fun e w' => e = .returned (.tuple #[.agg #[.int .i64 mt, .int .i64 v, .slice (some ⟨g, 0, none⟩) k k], .int .i64 0]) ∧ Below W.heap.size W w') := fun W hW => by
          have := HRR.out W hW
          rw [show resV ⟨mt, v, zs⟩ (some ⟨g, 0, none⟩) k k = .tuple #[.agg #[.int .i64 mt, .int .i64 v, .slice (some ⟨g, 0, none⟩) k k], .int .i64 0] from if_pos hok] at this
          exact this
        clear hok HRR HJ
        go_wp2_with fail
        have hS0 := SB.out wr (Below.refl _ _)
        have hSd := SB.out wr.drew ((Below.refl wr.heap.size wr).drew)
        go_region_held3 (fun w' => w'.cell? ⟨p, 0, none⟩ = some (.int .i64 c.fr) ∧ w'.cell? ⟨p, 1, none⟩ = some (.int .i64 c.fst) ∧ w'.cell? ⟨p, 2, none⟩ = some (.slice A k cap) ∧ (∃ v, w'.cell? ⟨p + 1, 0, none⟩ = some v) ∧ (∃ v, w'.cell? ⟨p + 1, 1, none⟩ = some v) ∧ (∃ v, w'.cell? ⟨p + 1, 2, none⟩ = some v) ∧ w'.frozen? ⟨p + 1, 0, none⟩ = false ∧ w'.frozen? ⟨p + 1, 1, none⟩ = false ∧ w'.frozen? ⟨p + 1, 2, none⟩ = false ∧ Hid (FlipI w w' p g k zs))
          (first | with_reducible assumption | with_reducible exact SS.out _ _ _ _ (by assumption))
          (first | (go_at_call 50; (with_reducible refine (HT.out _ (by assumption)).mono ?_); rintro e w1 ⟨rfl, hb1⟩; have hS1 := KC.out _ _ (by assumption) hb1) | (go_at_call 51; (with_reducible refine (HA.out _ (by assumption)).mono ?_); rintro e w1 ⟨rfl, hb1⟩; have hS1 := KC.out _ _ (by assumption) hb1) | (go_at_call 60; (with_reducible refine (HR2.out _ (by assumption)).mono ?_); rintro e w5 ⟨rfl, hb5⟩; have hS5 := KC.out _ _ (by assumption) hb5; obtain ⟨l0, l1, l2, ⟨v9, l3⟩, ⟨v10, l4⟩, ⟨v11, l5⟩, l6, l7, l8, l9⟩ := (show w5.cell? ⟨p, 0, none⟩ = some (.int .i64 c.fr) ∧ w5.cell? ⟨p, 1, none⟩ = some (.int .i64 c.fst) ∧ w5.cell? ⟨p, 2, none⟩ = some (.slice A k cap) ∧ (∃ v, w5.cell? ⟨p + 1, 0, none⟩ = some v) ∧ (∃ v, w5.cell? ⟨p + 1, 1, none⟩ = some v) ∧ (∃ v, w5.cell? ⟨p + 1, 2, none⟩ = some v) ∧ w5.frozen? ⟨p + 1, 0, none⟩ = false ∧ w5.frozen? ⟨p + 1, 1, none⟩ = false ∧ w5.frozen? ⟨p + 1, 2, none⟩ = false ∧ Hid (FlipI w w5 p g k zs) from hS5)))
        all_goals
          clear hS1 hS5 l0 l1 l2 l3 l4 l5 l6 l7 l8
          obtain ⟨_, _, _, hz⟩ := l9.out.res
          have HZ := hide hz
          clear hz
          go_wp2
          refine bodyPost_ret (results30 (set3_heap HZ.out _ _ _) _ _ _ _) rfl ?_
          refine ⟨some ⟨g, 0, none⟩, k, k, by rw [HJ2.out] <;> rfl, ?_, set3_below l9.out.below (by omega) _ _ _⟩
          rw [HJ2.out]
          exact own_base (own_set3 l9.out.row (by omega) _ _ _) (by omega)
      · have HJ2 : Hid (flipV c = (Cu.zero, 4)) := by show _ = _; rw [HJ.out, res2, if_neg hok]
        have HR2 : Hid (∀ W, (fun w' => w'.cell? ⟨p, 0, none⟩ = some (.int .i64 c.fr) ∧ w'.cell? ⟨p, 1, none⟩ = some (.int .i64 c.fst) ∧ w'.cell? ⟨p, 2, none⟩ = some (.slice A k cap) ∧ (∃ v, w'.cell? ⟨p + 1, 0, none⟩ = some v) ∧ (∃ v, w'.cell? ⟨p + 1, 1, none⟩ = some v) ∧ (∃ v, w'.cell? ⟨p + 1, 2, none⟩ = some v) ∧ w'.frozen? ⟨p + 1, 0, none⟩ = false ∧ w'.frozen? ⟨p + 1, 1, none⟩ = false ∧ w'.frozen? ⟨p + 1, 2, none⟩ = false ∧ Hid (FlipI w w' p g k zs)) W → Calls Try.prog 60 #[.agg #[.int .i64 mt, .int .i64 v, .slice (some ⟨g, 0, none⟩) k k]] W fun e w' => e = .returned (.tuple #[.agg #[.int .i64 0, .int .i64 0, .slice none 0 0], .int .i64 4]) ∧ Below W.heap.size W w') := fun W hW => by
          have := HRR.out W hW
          rw [show resV ⟨mt, v, zs⟩ (some ⟨g, 0, none⟩) k k = .tuple #[.agg #[.int .i64 0, .int .i64 0, .slice none 0 0], .int .i64 4] from if_neg hok] at this
          exact this
        clear hok HRR HJ
        go_wp2_with fail
        have hS0 := SB.out wr (Below.refl _ _)
        have hSd := SB.out wr.drew ((Below.refl wr.heap.size wr).drew)
        go_region_held3 (fun w' => w'.cell? ⟨p, 0, none⟩ = some (.int .i64 c.fr) ∧ w'.cell? ⟨p, 1, none⟩ = some (.int .i64 c.fst) ∧ w'.cell? ⟨p, 2, none⟩ = some (.slice A k cap) ∧ (∃ v, w'.cell? ⟨p + 1, 0, none⟩ = some v) ∧ (∃ v, w'.cell? ⟨p + 1, 1, none⟩ = some v) ∧ (∃ v, w'.cell? ⟨p + 1, 2, none⟩ = some v) ∧ w'.frozen? ⟨p + 1, 0, none⟩ = false ∧ w'.frozen? ⟨p + 1, 1, none⟩ = false ∧ w'.frozen? ⟨p + 1, 2, none⟩ = false ∧ Hid (FlipI w w' p g k zs))
          (first | with_reducible assumption | with_reducible exact SS.out _ _ _ _ (by assumption))
          (first | (go_at_call 50; (with_reducible refine (HT.out _ (by assumption)).mono ?_); rintro e w1 ⟨rfl, hb1⟩; have hS1 := KC.out _ _ (by assumption) hb1) | (go_at_call 51; (with_reducible refine (HA.out _ (by assumption)).mono ?_); rintro e w1 ⟨rfl, hb1⟩; have hS1 := KC.out _ _ (by assumption) hb1) | (go_at_call 60; (with_reducible refine (HR2.out _ (by assumption)).mono ?_); rintro e w5 ⟨rfl, hb5⟩; have hS5 := KC.out _ _ (by assumption) hb5; obtain ⟨l0, l1, l2, ⟨v9, l3⟩, ⟨v10, l4⟩, ⟨v11, l5⟩, l6, l7, l8, l9⟩ := (show w5.cell? ⟨p, 0, none⟩ = some (.int .i64 c.fr) ∧ w5.cell? ⟨p, 1, none⟩ = some (.int .i64 c.fst) ∧ w5.cell? ⟨p, 2, none⟩ = some (.slice A k cap) ∧ (∃ v, w5.cell? ⟨p + 1, 0, none⟩ = some v) ∧ (∃ v, w5.cell? ⟨p + 1, 1, none⟩ = some v) ∧ (∃ v, w5.cell? ⟨p + 1, 2, none⟩ = some v) ∧ w5.frozen? ⟨p + 1, 0, none⟩ = false ∧ w5.frozen? ⟨p + 1, 1, none⟩ = false ∧ w5.frozen? ⟨p + 1, 2, none⟩ = false ∧ Hid (FlipI w w5 p g k zs) from hS5)))
        all_goals
          clear hS1 hS5 l0 l1 l2 l3 l4 l5 l6 l7 l8
          obtain ⟨_, _, _, hz⟩ := l9.out.res
          have HZ := hide hz
          clear hz
          go_wp2
          refine bodyPost_ret (results30 (set3_heap HZ.out _ _ _) _ _ _ _) rfl ?_
          refine ⟨none, 0, 0, by rw [HJ2.out] <;> rfl, ?_, set3_below l9.out.below (by omega) _ _ _⟩
          rw [HJ2.out]
          exact World.ownsRow_nil _ _ _ _
end Go.Proofs.Ytdepnhnpklbmiaa
/- Contract of Part. -/
namespace Go.Proofs.Ytdepnhnpklbmiaa
open Go.RowKit Go.Sort

/-- the ends of what is left, and the part -/
def partLo (c : Cu) (d : Int) : Int := max d c.fr
def partHi (c : Cu) (u : Int) : Int := min u (c.fr + c.sl.length)
def partC (c : Cu) (d u : Int) : Cu := ⟨partLo c d, valK c (partLo c d - c.fr).toNat, (c.sl.drop (partLo c d - c.fr).toNat).take (partHi c u - partLo c d).toNat⟩
/-- what Part answers -/
def partV (c : Cu) (d u : Int) : Cu × Int := if okC c = true then (if partHi c u < partLo c d then (Cu.zero, 6) else res2 (partC c d u)) else (Cu.zero, 2)

/-- a piece of a slice of ints -/
theorem ints_sub {B : Nat} {W : World} {A : Option Addr} {n cap i j : Nat} {xs : List Int} (h : IntsAt B W A n xs) (hij : i ≤ j) (hj : j ≤ n) (hcap : n ≤ cap) :
    IntsAt B W (if cap = i then A else A.map (·.add (i * 1))) (j - i) ((xs.drop i).take (j - i)) := by
  have hl := h.1
  refine ⟨by simp; omega, ?_⟩
  by_cases h0 : j - i = 0
  · exact .inl h0
  · rcases h.2 with h1 | ⟨b, off, rfl, hb, hc⟩
    · omega
    · rw [if_neg (by omega)]
      refine .inr ⟨b, off + i, by simp [Addr.add], hb, fun k hk => ?_⟩
      have := hc (i + k) (by omega)
      rw [show off + i + k = off + (i + k) by omega, this]
      congr 2
      rw [iA_get (by omega), iA_get (by simp; omega)]
      simp

theorem results36 {W : World} {g : Nat} {a b c : Value} {t : TypeId} (h : W.heap[g]? = some (.cells #[a, b, c] t (0, 0))) (x0 x1 x2 x3 x4 x5 y : Value) (rest : List Value) :
    (results Try.f36 (x0 :: x1 :: x2 :: x3 :: x4 :: x5 :: .pointer (some ⟨g, 0, none⟩) :: y :: rest).toArray).run Try.prog W = .ok (.tuple #[.agg #[a, b, c], y]) W := by
  have h0 := cell_of_heap' h 0
  have h1 := cell_of_heap' h 1
  have h2 := cell_of_heap' h 2
  simp at h0 h1 h2
  simp [results, Try.results36, go_sem, h0, h1, h2]

set_option maxHeartbeats 4000000 in
set_option maxRecDepth 100000 in
theorem Part_any (c : Cu) (A : Option Addr) (n cap : Nat) (d u : Int) (w : World) (hx : CuAt w.heap.size w c A n cap) (hn : n ≤ 9223372036854775807) (hcap : n ≤ cap) :
    Calls Try.prog 36 #[.agg #[.int .i64 c.fr, .int .i64 c.fst, .slice A n cap], .int .i64 d, .int .i64 u] w (CuPost (partV c d u) w) := by
  have mixed := mixedOrders
  obtain ⟨W1, hW1⟩ : ∃ W1, (w.alloc (.cells #[.int .i64 c.fr, .int .i64 c.fst, .slice A n cap] 24)).alloc (.cells #[.int .i64 0, .int .i64 0, .slice none 0 0] 24) = W1 := ⟨_, rfl⟩
  obtain ⟨p, hp⟩ : ∃ p, w.heap.size = p := ⟨_, rfl⟩
  have hG1 : Gr w W1 := by rw [← hW1]; exact ((Gr.refl w).alloc _).alloc _
  have hs1 : W1.heap.size = p + 2 := by rw [← hW1, ← hp]; simp
  have ua : W1.heap[p]? = some (.cells #[.int .i64 c.fr, .int .i64 c.fst, .slice A n cap] 24 (0, 0)) := by
    rw [← hW1, ← hp]
    exact (Below.heap_alloc _ _ _ (by simp)).trans (heap_alloc_new w _)
  have ur : W1.heap[p + 1]? = some (.cells #[.int .i64 0, .int .i64 0, .slice none 0 0] 24 (0, 0)) := by
    rw [← hW1, ← hp]
    simpa using heap_alloc_new (w.alloc (.cells #[.int .i64 c.fr, .int .i64 c.fst, .slice A n cap] 24)) (.cells #[.int .i64 0, .int .i64 0, .slice none 0 0] 24)
  have HUA := hide ua
  have HUR := hide ur
  have HX := hide hx
  have HG1 := hide hG1
  have HV := hide (Valid_any c A n cap W1 (hx.gr hG1).sl (by omega))
  have a0 := cell_of_heap' ua 0
  have a1 := cell_of_heap' ua 1
  have a2 := cell_of_heap' ua 2
  simp at a0 a1 a2
  clear ua ur hx hG1
  go_enter Try.func36, Try.ntmps36
  go_wp2_with fail
  try rw [hp]
  refine HV.out.mono ?_
  rintro e w2 ⟨rfl, hG2⟩
  have HG2 := hide (HG1.out.trans hG2)
  have hs2 : p + 2 ≤ w2.heap.size := by have := hG2.size; omega
  have b2 := (hG2.block (k := p) (by omega)).trans HUA.out
  have q2 := (hG2.block (k := p + 1) (by omega)).trans HUR.out
  have HUA2 := hide b2
  have HUR2 := hide q2
  have c0 := cell_of_heap' b2 0
  have c1 := cell_of_heap' b2 1
  have c2 := cell_of_heap' b2 2
  have r0 := cell_of_heap' q2 0
  have r1 := cell_of_heap' q2 1
  have r2 := cell_of_heap' q2 2
  have y0 := frozen_of_heap' q2 0
  have y1 := frozen_of_heap' q2 1
  have y2 := frozen_of_heap' q2 2
  simp at c0 c1 c2 r0 r1 r2
  clear b2 q2 hG2 a0 a1 a2
  cases hva : okC c
  · have HJ : Hid (partV c d u = (Cu.zero, 2)) := if_neg (by rw [hva]; simp)
    have HB2 : Hid (Below w.heap.size w w2) := HG2.out.below
    clear hva
    go_wp2_with fail
    refine bodyPost_ret (results36 (set3_heap HUR2.out _ _ _) _ _ _ _ _ _ _ _) rfl ?_
    refine ⟨none, 0, 0, by rw [HJ.out] <;> rfl, ?_, set3_below HB2.out (by omega) _ _ _⟩
    rw [HJ.out]
    exact World.ownsRow_nil _ _ _ _
  have HVA := hide hva
  have hn64 : n ≤ 64 := by have h1 := (okC_true hva).2.2.1; have h2 := HX.out.sl.1; omega
  have hln : c.sl.length = n := HX.out.sl.1
  have hfr := okC_fr hva
  have HB2 := hide HG2.out.below
  obtain ⟨lo, hlo⟩ : ∃ q, max d c.fr = q := ⟨_, rfl⟩
  obtain ⟨t, ht⟩ : ∃ q, c.fr + (n : Int) = q := ⟨_, rfl⟩
  obtain ⟨hi, hhi⟩ : ∃ q, min u t = q := ⟨_, rfl⟩
  have HLO : Hid (partLo c d = lo) := hlo
  have HHI : Hid (partHi c u = hi) := by show min u (c.fr + c.sl.length) = hi; rw [hln, ht, hhi]
  have HJ : Hid (partV c d u = if hi < lo then (Cu.zero, 6) else res2 (partC c d u)) := by show partV c d u = _; unfold partV; rw [if_pos hva, HLO.out, HHI.out]
  have HF : Hid (∀ W, Calls Try.prog 49 #[.agg #[.int .i64 c.fr, .int .i64 c.fst, .slice A n cap]] W fun e w' => e = .returned (.int .i64 c.fr) ∧ Below W.heap.size W w') := fun W => (fromOf_any c A n cap W).mono fun _ _ h => ⟨h.1, h.2.below⟩
  have HT : Hid (∀ W, Calls Try.prog 50 #[.agg #[.int .i64 c.fr, .int .i64 c.fst, .slice A n cap]] W fun e w' => e = .returned (.int .i64 t) ∧ Below W.heap.size W w') := fun W => (toOf_any c A n cap W hfr.1 hfr.2 (by omega)).mono fun _ _ h => ⟨by rw [h.1, ht], h.2.below⟩
  have E0 := fun d os => cell_regrown c0 d os
  have E1 := fun d os => cell_regrown c1 d os
  have E2 := fun d os => cell_regrown c2 d os
  have HBW : Hid (∀ d os, Below w2.heap.size w2 (grow (redrawn w2 d) os)) := fun d os => below_regrown w2 d os
  have HLIM : Hid ((lo = d ∨ lo = c.fr) ∧ d ≤ lo ∧ c.fr ≤ lo ∧ (hi = u ∨ hi = t) ∧ hi ≤ u ∧ hi ≤ t ∧ c.fr + (n : Int) = t ∧ n ≤ 64 ∧ (-1048576 ≤ c.fr ∧ c.fr ≤ 1048576)) := by show _ ∧ _; omega
  clear hva c0 c1 c2 r0 r1 r2 y0 y1 y2 ht hn64 hfr
  go_wp2_with fail
  refine wp_region_quiet_below (by assumption) (by kernel_rfl) ?_
  repeat (go_big_quiet_step (first | (go_at_call 49; with_reducible refine Calls.regrown_of (HF.out _)) | (go_at_call 50; with_reducible refine Calls.regrown_of (HT.out _))))
  refine wpQuiet_nil ?_
  intro _ hw'
  obtain ⟨⟨dq, osq⟩, hw''⟩ := hw'
  subst hw''
  have hb3 := HBW.out dq osq
  generalize grow (redrawn w2 dq) osq = w3 at hb3 ⊢
  have HB3 := hide (HB2.out.trans (hb3.mono HB2.out.size))
  have hs3 : p + 2 ≤ w3.heap.size := by have := hb3.size; omega
  have b3 := (hb3.block p (by omega)).trans HUA2.out
  have q3 := (hb3.block (p + 1) (by omega)).trans HUR2.out
  have HUA3 := hide b3
  have HUR3 := hide q3
  have c0 := cell_of_heap' b3 0
  have c1 := cell_of_heap' b3 1
  have c2 := cell_of_heap' b3 2
  have r0 := cell_of_heap' q3 0
  have r1 := cell_of_heap' q3 1
  have r2 := cell_of_heap' q3 2
  have y0 := frozen_of_heap' q3 0
  have y1 := frozen_of_heap' q3 1
  have y2 := frozen_of_heap' q3 2
  simp at c0 c1 c2 r0 r1 r2
  clear b3 q3 E0 E1 E2 HBW HF HT hb3 hlo hhi
  by_cases hlh : hi < lo
  · have hd : decide (hi < lo) = true := decide_eq_true hlh
    replace HJ : Hid (partV c d u = (Cu.zero, 6)) := by rw [if_pos hlh] at HJ; exact HJ
    clear hlh
    go_wp2_with fail
    refine bodyPost_ret (results36 (set3_heap HUR3.out _ _ _) _ _ _ _ _ _ _ _) rfl ?_
    refine ⟨none, 0, 0, by rw [HJ.out] <;> rfl, ?_, set3_below HB3.out (by omega) _ _ _⟩
    rw [HJ.out]
    exact World.ownsRow_nil _ _ _ _
  have hd : decide (hi < lo) = false := decide_eq_false hlh
  replace HJ : Hid (partV c d u = res2 (partC c d u)) := by rw [if_neg hlh] at HJ; exact HJ
  have hlim := HLIM.out
  obtain ⟨i, hi0⟩ : ∃ i : Nat, (lo - c.fr).toNat = i := ⟨_, rfl⟩
  obtain ⟨j, hj0⟩ : ∃ j : Nat, (hi - c.fr).toNat = j := ⟨_, rfl⟩
  have hw1 : IntKind.i64.wrap (lo - c.fr) = (i : Int) := by rw [IntKind.wrap_i64]; omega
  have hw2 : IntKind.i64.wrap (hi - c.fr) = (j : Int) := by rw [IntKind.wrap_i64]; omega
  have hij : i ≤ j := by omega
  have hjn : j ≤ n := by omega
  have hil : c.fr + (i : Int) = lo := by omega
  have hjc : (j : Int) ≤ (cap : Int) := by omega
  have hij' : (i : Int) ≤ (j : Int) := by omega
  have HIJ := hide (show i ≤ j ∧ j ≤ n ∧ c.fr + (i : Int) = lo ∧ c.fr + (j : Int) = hi from ⟨hij, hjn, hil, by omega⟩)
  obtain ⟨zs, hzs⟩ : ∃ zs, (c.sl.drop i).take (j - i) = zs := ⟨_, rfl⟩
  have hji : (hi - lo).toNat = j - i := by omega
  have HPC : Hid (partC c d u = ⟨lo, valK c i, zs⟩) := by show _ = _; unfold partC; rw [HLO.out, HHI.out, hi0, hji, hzs]
  have HX3 := hide (HX.out.now HB3.out (Nat.le_refl _))
  have hzl : zs.length = j - i := by rw [← hzs]; simp; omega
  have HCL : Hid (∀ A' c', (A' = if cap = i then A else A.map (fun x => x.add i)) → Calls Try.prog 68 #[.slice A' (j - i) c'] w3 fun e w' => ∃ a c'', e = .returned (.slice a (j - i) c'') ∧ w'.ownsRow w3.heap.size 3 1 (.slice a (j - i) c'') (j - i) (zs.map (Value.int .i64)) ∧ Below w3.heap.size w3 w') := fun A' c' hA => by
    have h1 := ints_sub HX3.out.sl hij hjn hcap
    rw [hzs] at h1
    simp only [Nat.mul_one] at h1
    rw [← hA] at h1
    refine clone_any A' (j - i) c' zs w3 h1 (by omega) (fun e => ?_)
    have hAn : A = none := by
      rw [hA] at e
      split at e
      · exact e
      · cases A with
        | none => rfl
        | some ad => cases e
    have := (HX.out.nil hAn).1
    omega
  have HZL := hide hzl
  obtain ⟨v, hv⟩ : ∃ v, valK c i = v := ⟨_, rfl⟩
  rw [hv] at HPC
  have HVV := hide hv
  clear hlh hi0 hj0 hil hlim hjn hzs hji hzl hv
  go_wp2_with fail
  all_goals
    refine (HCL.out _ _ (by first | exact (if_pos ‹cap = i›).symm | exact (if_neg ‹¬cap = i›).symm | exact (if_pos rfl).symm)).mono ?_
    rintro e w4 ⟨a4, c4, rfl, ho4, hb4⟩
    clear h
    have HB4 := hide (HB3.out.trans (hb4.mono HB3.out.size))
    have hs4 : p + 2 ≤ w4.heap.size := by have := hb4.size; omega
    have b4 := (hb4.block p (by omega)).trans HUA3.out
    have q4 := (hb4.block (p + 1) (by omega)).trans HUR3.out
    have HUR4 := hide q4
    have HO4 := hide ho4
    have d0 := cell_of_heap' b4 0
    have d1 := cell_of_heap' b4 1
    have d2 := cell_of_heap' b4 2
    simp at d0 d1 d2
    have HX4 := HX.out.now HB4.out (Nat.le_refl _)
    have HAT := hide (at_any c A n cap i w4 HVA.out HX4.sl HX4.old (by have := HIJ.out; omega))
    rw [HIJ.out.2.2.1, HVV.out] at HAT
    clear b4 q4 ho4 HCL c0 c1 c2 r0 r1 r2 y0 y1 y2 HX4 HX3
    go_wp2_with fail
    refine HAT.out.mono ?_
    rintro e w5 ⟨rfl, hb5⟩
    have HB5 := hide (HB4.out.trans (hb5.mono HB4.out.size))
    have hs5 : p + 2 ≤ w5.heap.size := by have := hb5.size; omega
    have HUR5 := hide ((hb5.block (p + 1) (by omega)).trans HUR4.out)
    have HO5 := hide (own_below HO4.out hb5)
    have HRS := hide (result_any ⟨lo, v, zs⟩ a4 (j - i) c4 w5 (ints_of_own HO5.out) (by have := HIJ.out; have := HLIM.out; omega))
    have hfd : ∀ W : World, (Instr.field 61 (.agg #[.int .i64 c.fr, .int .i64 c.fst, .slice A n cap, .int .i64 lo, .int .i64 v]) 2).run Try.prog W = .ok (.int .i64 v) W := fun _ => by kernel_rfl
    unfold wkV
    clear hb5 HAT HO4 HUR4 d0 d1 d2
    go_wp2_with fail
    refine HRS.out.mono ?_
    rintro e w6 ⟨rfl, hb6⟩
    have HB6 := hide (HB5.out.trans (hb6.mono HB5.out.size))
    have hz6 := (hb6.block (p + 1) (by omega)).trans HUR5.out
    have HZ6 := hide hz6
    have HO6 := hide (own_below HO5.out hb6)
    have r0 := cell_of_heap' hz6 0
    have r1 := cell_of_heap' hz6 1
    have r2 := cell_of_heap' hz6 2
    have y0 := frozen_of_heap' hz6 0
    have y1 := frozen_of_heap' hz6 1
    have y2 := frozen_of_heap' hz6 2
    simp at r0 r1 r2
    clear hz6 hb6 HRS
    unfold resV
    by_cases hok : okC ⟨lo, v, zs⟩ = true
    · rw [if_pos hok]
      have HJ2 : Hid (partV c d u = (⟨lo, v, zs⟩, 0)) := by show _ = _; rw [HJ.out, HPC.out, res2, if_pos hok]
      clear hok
      go_wp2_with fail
      refine bodyPost_ret (results36 (set3_heap HZ6.out _ _ _) _ _ _ _ _ _ _ _) rfl ?_
      refine ⟨a4, j - i, c4, by rw [HJ2.out] <;> rfl, ?_, set3_below HB6.out (by omega) _ _ _⟩
      rw [HJ2.out]
      exact own_base (own_set3 HO6.out (by omega) _ _ _) (by omega)
    · rw [if_neg hok]
      have HJ2 : Hid (partV c d u = (Cu.zero, 4)) := by show _ = _; rw [HJ.out, HPC.out, res2, if_neg hok]
      clear hok
      go_wp2_with fail
      refine bodyPost_ret (results36 (set3_heap HZ6.out _ _ _) _ _ _ _ _ _ _ _) rfl ?_
      refine ⟨none, 0, 0, by rw [HJ2.out] <;> rfl, ?_, set3_below HB6.out (by omega) _ _ _⟩
      rw [HJ2.out]
      exact World.ownsRow_nil _ _ _ _
end Go.Proofs.Ytdepnhnpklbmiaa
/- The mathematics of sums, flips, tilts, moves and parts: their values. -/
namespace Go.Proofs.Ytdepnhnpklbmiaa
open Go.RowKit Go.Sort

theorem atV_dom {c : Cu} (h : okC c = true) (z : Int) : (atV c z).2 = 0 ↔ c.fr ≤ z ∧ z ≤ c.fr + c.sl.length := by
  unfold atV
  rw [if_pos h]
  split
  · rename_i h1
    exact ⟨fun _ => h1, fun _ => rfl⟩
  · rename_i h1
    exact ⟨fun h2 => absurd h2 (by decide), fun h2 => absurd h2 h1⟩
theorem atV_val {c : Cu} (h : okC c = true) {z : Int} (h1 : c.fr ≤ z) (h2 : z ≤ c.fr + c.sl.length) : (atV c z).1 = valK c (z - c.fr).toNat := by
  unfold atV
  rw [if_pos h, if_pos ⟨h1, h2⟩]

theorem addC_val (a b : Cu) : ∀ k, k ≤ (addC a b).sl.length → valK (addC a b) k = valK a ((max a.fr b.fr - a.fr).toNat + k) + valK b ((max a.fr b.fr - b.fr).toNat + k)
  | 0, _ => rfl
  | k + 1, hk => by
    have ih := addC_val a b k (by omega)
    have hi : iA (addC a b).sl k = iA a.sl ((max a.fr b.fr - a.fr).toNat + k) + iA b.sl ((max a.fr b.fr - b.fr).toNat + k) := by
      rw [iA_get (by omega)]
      simp [addC]
    show valK (addC a b) k + iA (addC a b).sl k = valK a ((max a.fr b.fr - a.fr).toNat + k) + iA a.sl ((max a.fr b.fr - a.fr).toNat + k) + (valK b ((max a.fr b.fr - b.fr).toNat + k) + iA b.sl ((max a.fr b.fr - b.fr).toNat + k))
    rw [ih, hi]
    omega
theorem addC_len (a b : Cu) : (addC a b).sl.length = (min (a.fr + a.sl.length) (b.fr + b.sl.length) - max a.fr b.fr).toNat := by simp [addC]

theorem res2_zero' {c d : Cu} (h : res2 c = (d, 0)) : d = c ∧ okC c = true := res2_ok h

theorem add_at {a b c : Cu} (h : addV a b = (c, 0)) (z : Int) : okC c = true ∧ ((atV c z).2 = 0 ↔ (atV a z).2 = 0 ∧ (atV b z).2 = 0) ∧ ((atV c z).2 = 0 → (atV c z).1 = (atV a z).1 + (atV b z).1) := by
  unfold addV at h
  split at h
  · rename_i hab
    split at h
    · rename_i hd
      obtain ⟨rfl, hok⟩ := res2_ok h
      have hl := addC_len a b
      have hf : (addC a b).fr = max a.fr b.fr := rfl
      refine ⟨hok, ?_, fun hz => ?_⟩
      · rw [atV_dom hok, atV_dom hab.1, atV_dom hab.2, hf, hl]
        omega
      · have hz' := (atV_dom hok z).1 hz
        rw [hf, hl] at hz'
        rw [atV_val hok (by rw [hf]; exact hz'.1) (by rw [hf, hl]; exact hz'.2), addC_val a b _ (by rw [hl, hf]; omega), atV_val hab.1 (by omega) (by omega), atV_val hab.2 (by omega) (by omega), hf]
        congr 2 <;> omega
    · injection h with _ h
      exact absurd h (by decide)
  · injection h with _ h
    exact absurd h (by decide)
theorem addV_bad {a b : Cu} (h : ¬ (okC a = true ∧ okC b = true)) : addV a b = (Cu.zero, 2) := if_neg h

theorem flipC_val (c : Cu) : ∀ k, k ≤ c.sl.length → valK (flipC c) k = valK c (c.sl.length - k)
  | 0, _ => rfl
  | k + 1, hk => by
    have ih := flipC_val c k (by omega)
    have h1 := flipL_at (xs := c.sl) (k := c.sl.length - 1 - k) (by omega)
    rw [show c.sl.length - 1 - (c.sl.length - 1 - k) = k by omega] at h1
    have h2 : valK c (c.sl.length - k) = valK c (c.sl.length - (k + 1)) + iA c.sl (c.sl.length - (k + 1)) := by
      rw [show c.sl.length - k = c.sl.length - (k + 1) + 1 by omega]
      rfl
    show valK (flipC c) k + iA (flipL c.sl) k = _
    rw [ih, h1, h2, show c.sl.length - 1 - k = c.sl.length - (k + 1) by omega]
    omega
theorem flip_at {a c : Cu} (ha : okC a = true) (h : flipV a = (c, 0)) (z : Int) : okC c = true ∧ ((atV c (-z)).2 = 0 ↔ (atV a z).2 = 0) ∧ ((atV c (-z)).2 = 0 → (atV c (-z)).1 = (atV a z).1) := by
  unfold flipV at h
  rw [if_pos ha] at h
  obtain ⟨rfl, hok⟩ := res2_ok h
  have hl : (flipC a).sl.length = a.sl.length := flipL_len _
  have hf : (flipC a).fr = -(a.fr + a.sl.length) := rfl
  refine ⟨hok, ?_, fun hz => ?_⟩
  · rw [atV_dom hok, atV_dom ha, hf, hl]
    omega
  · have hz' := (atV_dom hok _).1 hz
    rw [hf, hl] at hz'
    rw [atV_val hok (by rw [hf]; exact hz'.1) (by rw [hf, hl]; exact hz'.2), flipC_val a _ (by rw [hf]; omega), atV_val ha (by omega) (by omega), hf]
    congr 1
    omega

def tiltC (c : Cu) (d : Int) : Cu := ⟨c.fr, c.fst + d * c.fr, c.sl.map (fun s => s + d)⟩
theorem tiltC_val (c : Cu) (d : Int) : ∀ k : Nat, k ≤ c.sl.length → valK (tiltC c d) k = valK c k + d * (c.fr + k)
  | 0, _ => by
    show c.fst + d * c.fr = c.fst + d * (c.fr + ((0 : Nat) : Int))
    rw [show c.fr + ((0 : Nat) : Int) = c.fr by omega]
  | k + 1, hk => by
    have ih := tiltC_val c d k (by omega)
    have h1 : iA (tiltC c d).sl k = iA c.sl k + d := iA_map _ (by omega)
    have h2 : d * (c.fr + ((k + 1 : Nat) : Int)) = d * (c.fr + k) + d := by
      rw [show c.fr + ((k + 1 : Nat) : Int) = (c.fr + k) + 1 by omega, Int.mul_add, Int.mul_one]
    show valK (tiltC c d) k + iA (tiltC c d).sl k = valK c k + iA c.sl k + _
    rw [ih, h1, h2]
    omega
theorem tilt_at {a c : Cu} {d : Int} (ha : okC a = true) (h : tiltV a d = (c, 0)) (z : Int) : okC c = true ∧ (-1048576 ≤ d ∧ d ≤ 1048576) ∧ ((atV c z).2 = 0 ↔ (atV a z).2 = 0) ∧ ((atV c z).2 = 0 → (atV c z).1 = (atV a z).1 + d * z) := by
  unfold tiltV at h
  split at h
  · rename_i hd
    obtain ⟨rfl, hok⟩ := res2_ok h
    have hok : okC (tiltC a d) = true := hok
    have hl : (tiltC a d).sl.length = a.sl.length := by simp [tiltC]
    have hf : (tiltC a d).fr = a.fr := rfl
    show okC (tiltC a d) = true ∧ _ ∧ ((atV (tiltC a d) z).2 = 0 ↔ _) ∧ ((atV (tiltC a d) z).2 = 0 → (atV (tiltC a d) z).1 = _)
    refine ⟨hok, inB_true hd.2, ?_, fun hz => ?_⟩
    · rw [atV_dom hok, atV_dom ha, hf, hl]
    · have hz' := (atV_dom hok _).1 hz
      rw [hf, hl] at hz'
      rw [atV_val hok (by rw [hf]; exact hz'.1) (by rw [hf, hl]; exact hz'.2), tiltC_val a d _ (by rw [hf]; omega), atV_val ha (by omega) (by omega), hf, show a.fr + ((z - a.fr).toNat : Int) = z by omega]
  · injection h with _ h
    exact absurd h (by decide)

def moveC (c : Cu) (d u : Int) : Cu := ⟨c.fr + d, c.fst + u, c.sl⟩
theorem moveC_val (c : Cu) (d u : Int) : ∀ k : Nat, valK (moveC c d u) k = valK c k + u
  | 0 => rfl
  | k + 1 => by
    have ih := moveC_val c d u k
    show valK (moveC c d u) k + iA c.sl k = valK c k + iA c.sl k + u
    rw [ih]
    omega
theorem move_at {a c : Cu} {d u : Int} (ha : okC a = true) (h : moveV a d u = (c, 0)) (z : Int) : okC c = true ∧ (-1048576 ≤ d ∧ d ≤ 1048576) ∧ (-1099511627776 ≤ u ∧ u ≤ 1099511627776) ∧ ((atV c (z + d)).2 = 0 ↔ (atV a z).2 = 0) ∧ ((atV c (z + d)).2 = 0 → (atV c (z + d)).1 = (atV a z).1 + u) := by
  unfold moveV at h
  split at h
  · rename_i hd
    obtain ⟨rfl, hok⟩ := res2_ok h
    have hok : okC (moveC a d u) = true := hok
    have hl : (moveC a d u).sl.length = a.sl.length := rfl
    have hf : (moveC a d u).fr = a.fr + d := rfl
    show okC (moveC a d u) = true ∧ _ ∧ _ ∧ ((atV (moveC a d u) (z + d)).2 = 0 ↔ _) ∧ ((atV (moveC a d u) (z + d)).2 = 0 → (atV (moveC a d u) (z + d)).1 = _)
    refine ⟨hok, inB_true hd.2.1, inB_true hd.2.2, ?_, fun hz => ?_⟩
    · rw [atV_dom hok, atV_dom ha, hf, hl]
      omega
    · have hz' := (atV_dom hok _).1 hz
      rw [hf, hl] at hz'
      rw [atV_val hok (by rw [hf]; exact hz'.1) (by rw [hf, hl]; exact hz'.2), moveC_val, atV_val ha (by omega) (by omega), hf]
      congr 2
      omega
  · injection h with _ h
    exact absurd h (by decide)

theorem part_val (c : Cu) (lo : Int) (i m : Nat) : ∀ k, k ≤ m → i + m ≤ c.sl.length → valK ⟨lo, valK c i, (c.sl.drop i).take m⟩ k = valK c (i + k)
  | 0, _, _ => rfl
  | k + 1, hk, hm => by
    have ih := part_val c lo i m k (by omega) hm
    have h1 : iA ((c.sl.drop i).take m) k = iA c.sl (i + k) := by
      rw [iA_get (by simp; omega), iA_get (by omega)]
      simp
    show valK ⟨lo, valK c i, (c.sl.drop i).take m⟩ k + iA ((c.sl.drop i).take m) k = valK c (i + k) + iA c.sl (i + k)
    rw [ih, h1]
theorem part_at {a c : Cu} {d u : Int} (ha : okC a = true) (h : partV a d u = (c, 0)) (z : Int) : okC c = true ∧ ((atV c z).2 = 0 ↔ (atV a z).2 = 0 ∧ d ≤ z ∧ z ≤ u) ∧ ((atV c z).2 = 0 → (atV c z).1 = (atV a z).1) := by
  unfold partV at h
  rw [if_pos ha] at h
  split at h
  · injection h with _ h
    exact absurd h (by decide)
  · rename_i hlh
    obtain ⟨rfl, hok⟩ := res2_ok h
    unfold partLo partHi at hlh
    have hl : (partC a d u).sl.length = (min u (a.fr + a.sl.length) - max d a.fr).toNat := by
      simp [partC, partLo, partHi]
      omega
    have hf : (partC a d u).fr = max d a.fr := rfl
    refine ⟨hok, ?_, fun hz => ?_⟩
    · rw [atV_dom hok, atV_dom ha, hf, hl]
      omega
    · have hz' := (atV_dom hok _).1 hz
      rw [hf, hl] at hz'
      have hv := part_val a (max d a.fr) (max d a.fr - a.fr).toNat (min u (a.fr + a.sl.length) - max d a.fr).toNat (z - max d a.fr).toNat (by omega) (by omega)
      rw [atV_val hok (by rw [hf]; exact hz'.1) (by rw [hf, hl]; exact hz'.2), atV_val ha (by omega) (by omega), hf]
      refine Eq.trans hv ?_
      congr 1
      omega
end Go.Proofs.Ytdepnhnpklbmiaa
