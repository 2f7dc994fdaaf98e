/- Contract of Tilt. -/
import Derived.Test.YtdepnhnpklbmiaaB18
namespace Go.Proofs.Ytdepnhnpklbmiaa
open Go.RowKit Go.Sort

theorem mul_range {a b : Int} (h1 : -1048576 ≤ a ∧ a ≤ 1048576) (h2 : -1048576 ≤ b ∧ b ≤ 1048576) : -1099511627776 ≤ a * b ∧ a * b ≤ 1099511627776 := by
  have h := Nat.mul_le_mul (show a.natAbs ≤ 1048576 by omega) (show b.natAbs ≤ 1048576 by omega)
  rw [← Int.natAbs_mul] at h
  generalize a * b = m at h
  omega
theorem iA_map {xs : List Int} {k : Nat} (f : Int → Int) (hk : k < xs.length) : iA (xs.map f) k = f (iA xs k) := by
  simp [iA, List.getD_eq_getElem?_getD, hk]

/-- what Tilt answers -/
def tiltV (c : Cu) (d : Int) : Cu × Int := if okC c = true ∧ inB d 1048576 = true then res2 ⟨c.fr, c.fst + d * c.fr, c.sl.map (fun s => s + d)⟩ else (Cu.zero, 2)

theorem results32 {W : World} {g : Nat} {a b c : Value} {t : TypeId} (h : W.heap[g]? = some (.cells #[a, b, c] t (0, 0))) (x0 x1 x2 x3 y : Value) (rest : List Value) :
    (results Try.f32 (x0 :: x1 :: x2 :: x3 :: .pointer (some ⟨g, 0, none⟩) :: y :: rest).toArray).run Try.prog W = .ok (.tuple #[.agg #[a, b, c], y]) W := by
  have h0 := cell_of_heap' h 0
  have h1 := cell_of_heap' h 1
  have h2 := cell_of_heap' h 2
  simp at h0 h1 h2
  simp [results, Try.results32, go_sem, h0, h1, h2]

set_option maxHeartbeats 4000000 in
set_option maxRecDepth 100000 in
theorem Tilt_any (c : Cu) (A : Option Addr) (n cap : Nat) (d : Int) (w : World) (hx : CuAt w.heap.size w c A n cap) (hn : n ≤ 9223372036854775807) :
    Calls Try.prog 32 #[.agg #[.int .i64 c.fr, .int .i64 c.fst, .slice A n cap], .int .i64 d] w (CuPost (tiltV c d) w) := by
  have mixed := mixedOrders
  obtain ⟨W1, hW1⟩ : ∃ W1, (w.alloc (.cells #[.int .i64 c.fr, .int .i64 c.fst, .slice A n cap] 24)).alloc (.cells #[.int .i64 0, .int .i64 0, .slice none 0 0] 24) = W1 := ⟨_, rfl⟩
  obtain ⟨p, hp⟩ : ∃ p, w.heap.size = p := ⟨_, rfl⟩
  have hG1 : Gr w W1 := by rw [← hW1]; exact ((Gr.refl w).alloc _).alloc _
  have hs1 : W1.heap.size = p + 2 := by rw [← hW1, ← hp]; simp
  have ua : W1.heap[p]? = some (.cells #[.int .i64 c.fr, .int .i64 c.fst, .slice A n cap] 24 (0, 0)) := by
    rw [← hW1, ← hp]
    exact (Below.heap_alloc _ _ _ (by simp)).trans (heap_alloc_new w _)
  have ur : W1.heap[p + 1]? = some (.cells #[.int .i64 0, .int .i64 0, .slice none 0 0] 24 (0, 0)) := by
    rw [← hW1, ← hp]
    simpa using heap_alloc_new (w.alloc (.cells #[.int .i64 c.fr, .int .i64 c.fst, .slice A n cap] 24)) (.cells #[.int .i64 0, .int .i64 0, .slice none 0 0] 24)
  have HUA := hide ua
  have HUR := hide ur
  have HX := hide hx
  have HG1 := hide hG1
  have HV := hide (Valid_any c A n cap W1 (hx.gr hG1).sl (by omega))
  have HWI := hide (fun W => within_any d 1048576 W (by decide) (by decide))
  have a0 := cell_of_heap' ua 0
  have a1 := cell_of_heap' ua 1
  have a2 := cell_of_heap' ua 2
  simp at a0 a1 a2
  clear ua ur hx hG1
  go_enter Try.func32, Try.ntmps32
  go_wp2_with fail
  try rw [hp]
  refine HV.out.mono ?_
  rintro e w2 ⟨rfl, hG2⟩
  have HG2 := hide (HG1.out.trans hG2)
  have hs2 : p + 2 ≤ w2.heap.size := by have := hG2.size; omega
  have b2 := (hG2.block (k := p) (by omega)).trans HUA.out
  have q2 := (hG2.block (k := p + 1) (by omega)).trans HUR.out
  have HUA2 := hide b2
  have HUR2 := hide q2
  have c0 := cell_of_heap' b2 0
  have c1 := cell_of_heap' b2 1
  have c2 := cell_of_heap' b2 2
  have r0 := cell_of_heap' q2 0
  have r1 := cell_of_heap' q2 1
  have r2 := cell_of_heap' q2 2
  have y0 := frozen_of_heap' q2 0
  have y1 := frozen_of_heap' q2 1
  have y2 := frozen_of_heap' q2 2
  simp at c0 c1 c2 r0 r1 r2
  clear b2 q2 hG2 a0 a1 a2
  cases hva : okC c
  · have HJ : Hid (tiltV c d = (Cu.zero, 2)) := if_neg (by rw [hva]; simp)
    have HB2 : Hid (Below w.heap.size w w2) := HG2.out.below
    clear hva
    go_wp2_with fail
    refine bodyPost_ret (results32 (set3_heap HUR2.out _ _ _) _ _ _ _ _ _) rfl ?_
    refine ⟨none, 0, 0, by rw [HJ.out] <;> rfl, ?_, set3_below HB2.out (by omega) _ _ _⟩
    rw [HJ.out]
    exact World.ownsRow_nil _ _ _ _
  have HVA := hide hva
  have hn64 : n ≤ 64 := by have h1 := (okC_true hva).2.2.1; have h2 := HX.out.sl.1; omega
  clear hva
  go_wp2_with fail
  refine (HWI.out _).mono ?_
  rintro e w3 ⟨rfl, hw3⟩
  subst hw3
  cases hib : inB d 1048576
  · have HJ : Hid (tiltV c d = (Cu.zero, 2)) := if_neg (by rw [hib]; simp)
    have HB2 := hide HG2.out.below
    clear hib
    go_wp2_with fail
    refine bodyPost_ret (results32 (set3_heap HUR2.out _ _ _) _ _ _ _ _ _) rfl ?_
    refine ⟨none, 0, 0, by rw [HJ.out] <;> rfl, ?_, set3_below HB2.out (by omega) _ _ _⟩
    rw [HJ.out]
    exact World.ownsRow_nil _ _ _ _
  have hdr : -1048576 ≤ d ∧ d ≤ 1048576 := by simpa [inB] using hib
  have HJ : Hid (tiltV c d = res2 ⟨c.fr, c.fst + d * c.fr, c.sl.map (fun s => s + d)⟩) := if_pos ⟨HVA.out, hib⟩
  have hmk2 := run_make_row' (P := Try.prog) 22 3 (.int .i64 0) 8 Try.underlying22 info3 rfl .i64 .i64 n (by omega) (by omega)
  have hX3 := HX.out.gr HG2.out
  have HB3 := hide HG2.out.below
  obtain ⟨g, hg⟩ : ∃ g, w3.heap.size = g := ⟨_, rfl⟩
  have l2 : (w3.alloc (.cells (madeCells #[.int .i64 0] n) 3)).cell? ⟨p, 2, none⟩ = some (.slice A n cap) := (World.cell?_alloc_lt _ _ _ (by show p < _; omega)).trans c2
  have hno : (w3.alloc (.cells (madeCells #[.int .i64 0] n) 3)).ownsRow g 3 1 (.slice (some ⟨g, 0, none⟩) n n) n ((List.replicate n (0 : Int)).map (Value.int .i64)) := by rw [← hg]; exact made_ints w3 (Nat.le_refl _) (by omega)
  have HS0 : Hid (OwnI w (w3.alloc (.cells (madeCells #[.int .i64 0] n) 3)) p g n (c.sl.map (fun s => s + d)) #[.int .i64 c.fr, .int .i64 c.fst, .slice A n cap] 0) :=
    ⟨(Below.heap_alloc _ _ _ (by omega)).trans HUA2.out, ⟨_, hno, fun j hj => by omega⟩, HB3.out.alloc HB3.out.size _, (Below.heap_alloc _ _ _ (by omega)).trans HUR2.out, by simp; omega⟩
  have HX4 := hide (hX3.gr ((Gr.refl w3).alloc (.cells (madeCells #[.int .i64 0] n) 3)))
  clear hib hX3 hno
  go_wp2_with fail
  try rw [hg]
  go_loopw [25] (fun i wr => ∃ k : Nat, k ≤ n ∧ i = .int .i64 k ∧ Hid (OwnI w wr p g n (c.sl.map (fun s => s + d)) #[.int .i64 c.fr, .int .i64 c.fst, .slice A n cap] k)) (fun i _ => n - (intOf i).toNat)
  case atStart => exact ⟨0, Nat.zero_le _, rfl, HS0⟩
  case round =>
    obtain ⟨k, hk, rfl, HO⟩ := hrel
    by_cases hlt : k < n
    · obtain ⟨b, off, rfl, hb, c0⟩ := HX.out.sl.at_ hlt
      have hlt' : (k : Int) < (n : Int) := by omega
      have E0 : wr.cell? ⟨b, off + k, none⟩ = some (.int .i64 (iA c.sl k)) := (HO.out.below.cell (p := ⟨b, off + k, none⟩) hb).trans c0
      have HN := hide (fun q => HO.out.next hlt (by omega) (by omega) q)
      obtain ⟨v, E2⟩ := (HN.out 0).2.1 0
      have E3 := (HN.out 0).2.2 0
      rw [World.drewN_zero] at E2 E3
      have hm : iA (c.sl.map (fun s => s + d)) k = iA c.sl k + d := iA_map _ (by have := HX.out.sl.1; omega)
      have hzr : -1048576 ≤ iA c.sl k ∧ iA c.sl k ≤ 1048576 := okC_sl HVA.out (by have := HX.out.sl.1; omega)
      rw [hm] at HN
      generalize iA c.sl k = z at E0 HN hzr
      have hwz : IntKind.i64.wrap (z + d) = z + d := by rw [IntKind.wrap_i64]; omega
      clear c0 hm
      go_wp2_with fail
      exact ⟨⟨k + 1, by omega, by go_num, by have := (HN.out 0).1; rwa [World.drewN_zero] at this⟩, by simp [intOf]; omega⟩
    · obtain rfl : k = n := by omega
      have hfr := okC_fr HVA.out
      have hfs : -1099511627776 ≤ c.fst ∧ c.fst ≤ 1099511627776 := by have := (okC_true HVA.out).2.1; simpa [inB] using this
      have hmr := mul_range hdr hfr
      obtain ⟨m, hm⟩ : ∃ m, d * c.fr = m := ⟨_, rfl⟩
      rw [hm] at hmr HJ
      have hw1 : IntKind.i64.wrap (d * c.fr) = m := by rw [hm, IntKind.wrap_i64]; omega
      have hw2 : IntKind.i64.wrap (c.fst + m) = c.fst + m := by rw [IntKind.wrap_i64]; omega
      obtain ⟨T, hT, hTx⟩ := HO.out.row
      have hTl : T.length = k := by simpa using hT.1
      have hTe : T = c.sl.map (fun s => s + d) := ints_ext (by rw [hTl, List.length_map, HX.out.sl.1]) (fun j hj => hTx j (by omega))
      rw [hTe] at hT
      have HT := hide hT
      have HRS := hide (result_any ⟨c.fr, c.fst + m, c.sl.map (fun s => s + d)⟩ (some ⟨g, 0, none⟩) k k wr (ints_of_own hT) (by omega))
      have za := fun i => cell_of_heap' HO.out.arg i
      have a0 := za 0
      have a1 := za 1
      have a2 := za 2
      simp at a0 a1 a2
      clear za c0 c1 r0 r1 r2 y0 y1 y2 hT hTe hTx
      go_wp2_with fail
      refine HRS.out.mono ?_
      rintro e w5 ⟨rfl, hb5⟩
      have hz5 := (hb5.block (p + 1) (by have := HO.out.lt; omega)).trans HO.out.res
      have HZ5 := hide hz5
      have HB5 : Hid (Below w.heap.size w w5) := HO.out.below.trans (hb5.mono HO.out.below.size)
      have HT5 := hide (own_below HT.out hb5)
      have r0 := cell_of_heap' hz5 0
      have r1 := cell_of_heap' hz5 1
      have r2 := cell_of_heap' hz5 2
      have y0 := frozen_of_heap' hz5 0
      have y1 := frozen_of_heap' hz5 1
      have y2 := frozen_of_heap' hz5 2
      simp at r0 r1 r2
      clear hz5 hb5 a0 a1 a2
      unfold resV
      by_cases hok : okC ⟨c.fr, c.fst + m, c.sl.map (fun s => s + d)⟩ = true
      · rw [if_pos hok]
        have HJ2 : Hid (tiltV c d = (⟨c.fr, c.fst + m, c.sl.map (fun s => s + d)⟩, 0)) := by show _ = _; rw [HJ.out, res2, if_pos hok]
        clear hok
        go_wp2_with fail
        refine bodyPost_ret (results32 (set3_heap HZ5.out _ _ _) _ _ _ _ _ _) rfl ?_
        refine ⟨some ⟨g, 0, none⟩, k, k, by rw [HJ2.out] <;> rfl, ?_, set3_below HB5.out (by omega) _ _ _⟩
        rw [HJ2.out]
        exact own_base (own_set3 HT5.out (by omega) _ _ _) (by omega)
      · rw [if_neg hok]
        have HJ2 : Hid (tiltV c d = (Cu.zero, 4)) := by show _ = _; rw [HJ.out, res2, if_neg hok]
        clear hok
        go_wp2_with fail
        refine bodyPost_ret (results32 (set3_heap HZ5.out _ _ _) _ _ _ _ _ _) rfl ?_
        refine ⟨none, 0, 0, by rw [HJ2.out] <;> rfl, ?_, set3_below HB5.out (by omega) _ _ _⟩
        rw [HJ2.out]
        exact World.ownsRow_nil _ _ _ _
end Go.Proofs.Ytdepnhnpklbmiaa
