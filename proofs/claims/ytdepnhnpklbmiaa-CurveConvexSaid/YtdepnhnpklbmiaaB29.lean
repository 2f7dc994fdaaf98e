/- Contract of Flip. -/
import Derived.Test.YtdepnhnpklbmiaaB20
namespace Go.Proofs.Ytdepnhnpklbmiaa
open Go.RowKit Go.Sort

/-- the slopes of the flipped curve -/
def flipL (xs : List Int) : List Int := (xs.map (fun s => -s)).reverse
theorem flipL_len (xs : List Int) : (flipL xs).length = xs.length := by simp [flipL]
theorem flipL_at {xs : List Int} {k : Nat} (h : k < xs.length) : iA (flipL xs) (xs.length - 1 - k) = -iA xs k := by
  rw [iA_get (by rw [flipL_len]; omega), iA_get h]
  simp only [flipL, List.getElem_reverse, List.getElem_map, List.length_map]
  congr 2
  omega
def flipC (c : Cu) : Cu := ⟨-(c.fr + c.sl.length), valK c c.sl.length, flipL c.sl⟩
/-- what Flip answers -/
def flipV (c : Cu) : Cu × Int := if okC c = true then res2 (flipC c) else (Cu.zero, 2)

/-- the last k numbers of the row are laid -/
structure RevI (w wr : World) (p g n : Nat) (xs : List Int) (V : Array Value) (k : Nat) : Prop where
  arg : wr.heap[p]? = some (.cells V 24 (0, 0))
  row : ∃ T : List Int, wr.ownsRow g 3 1 (.slice (some ⟨g, 0, none⟩) n n) n (T.map (Value.int .i64)) ∧ ∀ j, n - k ≤ j → j < n → iA T j = iA xs j
  below : Below w.heap.size w wr
  res : wr.heap[p + 1]? = some (.cells #[.int .i64 0, .int .i64 0, .slice none 0 0] 24 (0, 0))
  lt : p + 1 < wr.heap.size
theorem RevI.next {w wr : World} {p g n : Nat} {xs : List Int} {V : Array Value} {k i : Nat} (h : RevI w wr p g n xs V k) (hi : i + k + 1 = n) (hpg : p + 1 < g) (hwg : w.heap.size ≤ g) :
    RevI w (wr.setCell ⟨g, i, none⟩ (.int .i64 (iA xs i))) p g n xs V (k + 1) ∧ (∃ v, wr.cell? ⟨g, i, none⟩ = some v) ∧ wr.frozen? ⟨g, i, none⟩ = false := by
  obtain ⟨T, hT, hTx⟩ := h.row
  have hTl : T.length = n := by simpa using hT.1
  have hs := (hT.stored i (.int .i64 (iA xs i))).1
  rw [← List.map_set] at hs
  refine ⟨⟨?_, ⟨_, hs, fun j hj hjn => ?_⟩, ?_, ?_, ?_⟩, ⟨_, (own_cell hT (by omega)).1⟩, (own_cell hT (by omega)).2⟩
  · rw [heap_setCell_other _ ⟨g, i, none⟩ p _ (by show p ≠ g; omega)]
    exact h.arg
  · rw [iA_set _ _ _ _ (by omega)]
    by_cases hjk : j = i
    · rw [if_pos hjk, hjk]
    · rw [if_neg hjk]
      exact hTx j (by omega) hjn
  · exact h.below.setCell (p := ⟨g, i, none⟩) hwg _
  · rw [heap_setCell_other _ ⟨g, i, none⟩ (p + 1) _ (by show p + 1 ≠ g; omega)]
    exact h.res
  · simpa using h.lt

/-- what stands while the result is made -/
structure FlipI (w wr : World) (p g n : Nat) (zs : List Int) : Prop where
  row : wr.ownsRow g 3 1 (.slice (some ⟨g, 0, none⟩) n n) n (zs.map (Value.int .i64))
  below : Below w.heap.size w wr
  lt : g < wr.heap.size
  pg : p + 1 < g
  res : ∃ a b c, wr.heap[p + 1]? = some (.cells #[a, b, c] 24 (0, 0))
theorem FlipI.next {w W W' : World} {p g n : Nat} {zs : List Int} (h : FlipI w W p g n zs) (hb : Below W.heap.size W W') : FlipI w W' p g n zs :=
  ⟨own_below h.row hb, h.below.trans (hb.mono h.below.size), Nat.lt_of_lt_of_le h.lt hb.size, h.pg, by obtain ⟨a, b, c, hz⟩ := h.res; exact ⟨a, b, c, (hb.block (p + 1) (Nat.lt_trans h.pg h.lt)).trans hz⟩⟩
theorem FlipI.set {w W : World} {p g n : Nat} {zs : List Int} (h : FlipI w W p g n zs) (hq : w.heap.size ≤ p + 1) (x y z : Value) : FlipI w (((W.setCell ⟨p + 1, 0, none⟩ x).setCell ⟨p + 1, 1, none⟩ y).setCell ⟨p + 1, 2, none⟩ z) p g n zs :=
  ⟨own_set3 h.row h.pg x y z, set3_below h.below hq x y z, by simpa using h.lt, h.pg, by obtain ⟨a, b, c, hz⟩ := h.res; exact ⟨x, y, z, set3_heap hz x y z⟩⟩

theorem results30 {W : World} {g : Nat} {a b c : Value} {t : TypeId} (h : W.heap[g]? = some (.cells #[a, b, c] t (0, 0))) (x0 x1 y : Value) (rest : List Value) :
    (results Try.f30 (x0 :: x1 :: .pointer (some ⟨g, 0, none⟩) :: y :: rest).toArray).run Try.prog W = .ok (.tuple #[.agg #[a, b, c], y]) W := by
  have h0 := cell_of_heap' h 0
  have h1 := cell_of_heap' h 1
  have h2 := cell_of_heap' h 2
  simp at h0 h1 h2
  simp [results, Try.results30, go_sem, h0, h1, h2]

set_option maxHeartbeats 4000000 in
set_option maxRecDepth 100000 in
theorem Flip_any (c : Cu) (A : Option Addr) (n cap : Nat) (w : World) (hx : CuAt w.heap.size w c A n cap) (hn : n ≤ 9223372036854775807) :
    Calls Try.prog 30 #[.agg #[.int .i64 c.fr, .int .i64 c.fst, .slice A n cap]] w (CuPost (flipV c) w) := by
  have mixed := mixedOrders
  obtain ⟨W1, hW1⟩ : ∃ W1, (w.alloc (.cells #[.int .i64 c.fr, .int .i64 c.fst, .slice A n cap] 24)).alloc (.cells #[.int .i64 0, .int .i64 0, .slice none 0 0] 24) = W1 := ⟨_, rfl⟩
  obtain ⟨p, hp⟩ : ∃ p, w.heap.size = p := ⟨_, rfl⟩
  have hG1 : Gr w W1 := by rw [← hW1]; exact ((Gr.refl w).alloc _).alloc _
  have hs1 : W1.heap.size = p + 2 := by rw [← hW1, ← hp]; simp
  have ua : W1.heap[p]? = some (.cells #[.int .i64 c.fr, .int .i64 c.fst, .slice A n cap] 24 (0, 0)) := by
    rw [← hW1, ← hp]
    exact (Below.heap_alloc _ _ _ (by simp)).trans (heap_alloc_new w _)
  have ur : W1.heap[p + 1]? = some (.cells #[.int .i64 0, .int .i64 0, .slice none 0 0] 24 (0, 0)) := by
    rw [← hW1, ← hp]
    simpa using heap_alloc_new (w.alloc (.cells #[.int .i64 c.fr, .int .i64 c.fst, .slice A n cap] 24)) (.cells #[.int .i64 0, .int .i64 0, .slice none 0 0] 24)
  have HUA := hide ua
  have HUR := hide ur
  have HX := hide hx
  have HG1 := hide hG1
  have HV := hide (Valid_any c A n cap W1 (hx.gr hG1).sl (by omega))
  have a0 := cell_of_heap' ua 0
  have a1 := cell_of_heap' ua 1
  have a2 := cell_of_heap' ua 2
  simp at a0 a1 a2
  clear ua ur hx hG1
  go_enter Try.func30, Try.ntmps30
  go_wp2_with fail
  try rw [hp]
  refine HV.out.mono ?_
  rintro e w2 ⟨rfl, hG2⟩
  have HG2 := hide (HG1.out.trans hG2)
  have hs2 : p + 2 ≤ w2.heap.size := by have := hG2.size; omega
  have b2 := (hG2.block (k := p) (by omega)).trans HUA.out
  have q2 := (hG2.block (k := p + 1) (by omega)).trans HUR.out
  have HUA2 := hide b2
  have HUR2 := hide q2
  have c0 := cell_of_heap' b2 0
  have c1 := cell_of_heap' b2 1
  have c2 := cell_of_heap' b2 2
  have r0 := cell_of_heap' q2 0
  have r1 := cell_of_heap' q2 1
  have r2 := cell_of_heap' q2 2
  have y0 := frozen_of_heap' q2 0
  have y1 := frozen_of_heap' q2 1
  have y2 := frozen_of_heap' q2 2
  simp at c0 c1 c2 r0 r1 r2
  clear b2 q2 hG2 a0 a1 a2
  cases hva : okC c
  · have HJ : Hid (flipV c = (Cu.zero, 2)) := if_neg (by rw [hva]; simp)
    have HB2 : Hid (Below w.heap.size w w2) := HG2.out.below
    clear hva
    go_wp2_with fail
    refine bodyPost_ret (results30 (set3_heap HUR2.out _ _ _) _ _ _ _) rfl ?_
    refine ⟨none, 0, 0, by rw [HJ.out] <;> rfl, ?_, set3_below HB2.out (by omega) _ _ _⟩
    rw [HJ.out]
    exact World.ownsRow_nil _ _ _ _
  have HVA := hide hva
  have hn64 : n ≤ 64 := by have h1 := (okC_true hva).2.2.1; have h2 := HX.out.sl.1; omega
  have HJ : Hid (flipV c = res2 (flipC c)) := if_pos hva
  clear hva
  have hmk2 := run_make_row' (P := Try.prog) 22 3 (.int .i64 0) 8 Try.underlying22 info3 rfl .i64 .i64 n (by omega) (by omega)
  have hX3 := HX.out.gr HG2.out
  have HB3 := hide HG2.out.below
  obtain ⟨g, hg⟩ : ∃ g, w2.heap.size = g := ⟨_, rfl⟩
  have l2 : (w2.alloc (.cells (madeCells #[.int .i64 0] n) 3)).cell? ⟨p, 2, none⟩ = some (.slice A n cap) := (World.cell?_alloc_lt _ _ _ (by show p < _; omega)).trans c2
  have hno : (w2.alloc (.cells (madeCells #[.int .i64 0] n) 3)).ownsRow g 3 1 (.slice (some ⟨g, 0, none⟩) n n) n ((List.replicate n (0 : Int)).map (Value.int .i64)) := by rw [← hg]; exact made_ints w2 (Nat.le_refl _) (by omega)
  have HS0 : Hid (RevI w (w2.alloc (.cells (madeCells #[.int .i64 0] n) 3)) p g n (flipL c.sl) #[.int .i64 c.fr, .int .i64 c.fst, .slice A n cap] 0) :=
    ⟨(Below.heap_alloc _ _ _ (by omega)).trans HUA2.out, ⟨_, hno, fun j h1 h2 => by omega⟩, HB3.out.alloc HB3.out.size _, (Below.heap_alloc _ _ _ (by omega)).trans HUR2.out, by simp; omega⟩
  clear hX3 hno
  go_wp2_with fail
  try rw [hg]
  go_loopw [18] (fun i wr => ∃ k : Nat, k ≤ n ∧ i = .int .i64 k ∧ Hid (RevI w wr p g n (flipL c.sl) #[.int .i64 c.fr, .int .i64 c.fst, .slice A n cap] k)) (fun i _ => n - (intOf i).toNat)
  case atStart => exact ⟨0, Nat.zero_le _, rfl, HS0⟩
  case round =>
    obtain ⟨k, hk, rfl, HO⟩ := hrel
    by_cases hlt : k < n
    · obtain ⟨b, off, rfl, hb, c0⟩ := HX.out.sl.at_ hlt
      have hlt' : (k : Int) < (n : Int) := by omega
      have E0 : wr.cell? ⟨b, off + k, none⟩ = some (.int .i64 (iA c.sl k)) := (HO.out.below.cell (p := ⟨b, off + k, none⟩) hb).trans c0
      obtain ⟨i, hi⟩ : ∃ i, n - 1 - k = i := ⟨_, rfl⟩
      have hle : c.sl.length = n := HX.out.sl.1
      have hfl : iA (flipL c.sl) i = -iA c.sl k := by have := flipL_at (xs := c.sl) (k := k) (by omega); rwa [hle, hi] at this
      obtain ⟨hn, ⟨v, E2⟩, E3⟩ := HO.out.next (i := i) (by omega) (by omega) (by omega)
      have hzr : -1048576 ≤ iA c.sl k ∧ iA c.sl k ≤ 1048576 := okC_sl HVA.out (by omega)
      rw [hfl] at hn
      have HN := hide hn
      generalize iA c.sl k = z at E0 HN hzr
      have hwz : IntKind.i64.wrap (-z) = -z := by rw [IntKind.wrap_i64]; omega
      obtain ⟨m, hm⟩ : ∃ m : Int, (n : Int) - 1 = m := ⟨_, rfl⟩
      have hwn : IntKind.i64.wrap ((n : Int) - 1) = m := by rw [IntKind.wrap_i64]; omega
      have hwi : IntKind.i64.wrap (m - (k : Int)) = (i : Int) := by rw [IntKind.wrap_i64]; omega
      have hin : (i : Int) < (n : Int) := by omega
      clear c0 hfl hn hm hi hzr
      go_wp2_with fail
      exact ⟨⟨k + 1, by omega, by go_num, HN⟩, by simp [intOf]; omega⟩
    · obtain rfl : k = n := by omega
      have hfr := okC_fr HVA.out
      have hle : c.sl.length = k := HX.out.sl.1
      obtain ⟨T, hT, hTx⟩ := HO.out.row
      have hTl : T.length = k := by simpa using hT.1
      have hTe : T = flipL c.sl := ints_ext (by rw [hTl, flipL_len, hle]) (fun j hj => hTx j (by omega) (by omega))
      rw [hTe] at hT
      obtain ⟨t, ht⟩ : ∃ t, c.fr + (k : Int) = t := ⟨_, rfl⟩
      obtain ⟨v, hv⟩ : ∃ v, valK c k = v := ⟨_, rfl⟩
      obtain ⟨mt, hmt⟩ : ∃ t2, -t = t2 := ⟨_, rfl⟩
      have hwt : IntKind.i64.wrap (-t) = mt := by rw [IntKind.wrap_i64]; omega
      have HFC : Hid (flipC c = ⟨mt, v, flipL c.sl⟩) := by show flipC c = _; unfold flipC; rw [hle, ht, hv, hmt]
      have HFL : Hid ((flipL c.sl).length = k) := by show _ = _; rw [flipL_len, hle]
      obtain ⟨zs, hzs⟩ : ∃ zs, flipL c.sl = zs := ⟨_, rfl⟩
      rw [hzs] at hT HFC HFL
      rw [HFC.out] at HJ
      have hgl : g < wr.heap.size := (hT.lt g rfl).2
      have HF0 : Hid (FlipI w wr p g k zs) := ⟨hT, HO.out.below, hgl, by omega, _, _, _, HO.out.res⟩
      have HUA3 := hide HO.out.arg
      have HRS3 := hide HO.out.res
      have SB : Hid (∀ w', Below wr.heap.size wr w' → w'.cell? ⟨p, 0, none⟩ = some (.int .i64 c.fr) ∧ w'.cell? ⟨p, 1, none⟩ = some (.int .i64 c.fst) ∧ w'.cell? ⟨p, 2, none⟩ = some (.slice A k cap) ∧ (∃ v, w'.cell? ⟨p + 1, 0, none⟩ = some v) ∧ (∃ v, w'.cell? ⟨p + 1, 1, none⟩ = some v) ∧ (∃ v, w'.cell? ⟨p + 1, 2, none⟩ = some v) ∧ w'.frozen? ⟨p + 1, 0, none⟩ = false ∧ w'.frozen? ⟨p + 1, 1, none⟩ = false ∧ w'.frozen? ⟨p + 1, 2, none⟩ = false ∧ Hid (FlipI w w' p g k zs)) := fun w' hb => by
        have hz0 := (hb.block p (by omega)).trans HUA3.out
        have hz := (hb.block (p + 1) (by omega)).trans HRS3.out
        have z0 := cell_of_heap' hz0 0
        have z1 := cell_of_heap' hz0 1
        have z2 := cell_of_heap' hz0 2
        have x0 := cell_of_heap' hz 0
        have x1 := cell_of_heap' hz 1
        have x2 := cell_of_heap' hz 2
        simp at x0 x1 x2 z0 z1 z2
        exact ⟨z0, z1, z2, ⟨_, x0⟩, ⟨_, x1⟩, ⟨_, x2⟩, frozen_of_heap' hz 0, frozen_of_heap' hz 1, frozen_of_heap' hz 2, HF0.out.next hb⟩
      have KC : Hid (∀ W w', (fun w' => w'.cell? ⟨p, 0, none⟩ = some (.int .i64 c.fr) ∧ w'.cell? ⟨p, 1, none⟩ = some (.int .i64 c.fst) ∧ w'.cell? ⟨p, 2, none⟩ = some (.slice A k cap) ∧ (∃ v, w'.cell? ⟨p + 1, 0, none⟩ = some v) ∧ (∃ v, w'.cell? ⟨p + 1, 1, none⟩ = some v) ∧ (∃ v, w'.cell? ⟨p + 1, 2, none⟩ = some v) ∧ w'.frozen? ⟨p + 1, 0, none⟩ = false ∧ w'.frozen? ⟨p + 1, 1, none⟩ = false ∧ w'.frozen? ⟨p + 1, 2, none⟩ = false ∧ Hid (FlipI w w' p g k zs)) W → Below W.heap.size W w' → (fun w' => w'.cell? ⟨p, 0, none⟩ = some (.int .i64 c.fr) ∧ w'.cell? ⟨p, 1, none⟩ = some (.int .i64 c.fst) ∧ w'.cell? ⟨p, 2, none⟩ = some (.slice A k cap) ∧ (∃ v, w'.cell? ⟨p + 1, 0, none⟩ = some v) ∧ (∃ v, w'.cell? ⟨p + 1, 1, none⟩ = some v) ∧ (∃ v, w'.cell? ⟨p + 1, 2, none⟩ = some v) ∧ w'.frozen? ⟨p + 1, 0, none⟩ = false ∧ w'.frozen? ⟨p + 1, 1, none⟩ = false ∧ w'.frozen? ⟨p + 1, 2, none⟩ = false ∧ Hid (FlipI w w' p g k zs)) w') := fun W w' ⟨h0, h1, h2, h3, h4, h5, h6, h7, h8, h9⟩ hb => by
        have hl : p + 1 < W.heap.size := by have := h9.out.lt; omega
        have hx : ∀ q o, q < W.heap.size → w'.cell? ⟨q, o, none⟩ = W.cell? ⟨q, o, none⟩ := fun q o hq => hb.cell (p := ⟨q, o, none⟩) hq
        have hy : ∀ q o, q < W.heap.size → w'.frozen? ⟨q, o, none⟩ = W.frozen? ⟨q, o, none⟩ := fun q o hq => hb.frozen (p := ⟨q, o, none⟩) hq
        show w'.cell? ⟨p, 0, none⟩ = some (.int .i64 c.fr) ∧ w'.cell? ⟨p, 1, none⟩ = some (.int .i64 c.fst) ∧ w'.cell? ⟨p, 2, none⟩ = some (.slice A k cap) ∧ (∃ v, w'.cell? ⟨p + 1, 0, none⟩ = some v) ∧ (∃ v, w'.cell? ⟨p + 1, 1, none⟩ = some v) ∧ (∃ v, w'.cell? ⟨p + 1, 2, none⟩ = some v) ∧ w'.frozen? ⟨p + 1, 0, none⟩ = false ∧ w'.frozen? ⟨p + 1, 1, none⟩ = false ∧ w'.frozen? ⟨p + 1, 2, none⟩ = false ∧ Hid (FlipI w w' p g k zs)
        rw [hx p 0 (by omega), hx p 1 (by omega), hx p 2 (by omega), hx (p + 1) 0 hl, hx (p + 1) 1 hl, hx (p + 1) 2 hl, hy (p + 1) 0 hl, hy (p + 1) 1 hl, hy (p + 1) 2 hl]
        exact ⟨h0, h1, h2, h3, h4, h5, h6, h7, h8, h9.out.next hb⟩
      have hXn := HX.out
      have HT : Hid (∀ W, (fun w' => w'.cell? ⟨p, 0, none⟩ = some (.int .i64 c.fr) ∧ w'.cell? ⟨p, 1, none⟩ = some (.int .i64 c.fst) ∧ w'.cell? ⟨p, 2, none⟩ = some (.slice A k cap) ∧ (∃ v, w'.cell? ⟨p + 1, 0, none⟩ = some v) ∧ (∃ v, w'.cell? ⟨p + 1, 1, none⟩ = some v) ∧ (∃ v, w'.cell? ⟨p + 1, 2, none⟩ = some v) ∧ w'.frozen? ⟨p + 1, 0, none⟩ = false ∧ w'.frozen? ⟨p + 1, 1, none⟩ = false ∧ w'.frozen? ⟨p + 1, 2, none⟩ = false ∧ Hid (FlipI w w' p g k zs)) W → Calls Try.prog 50 #[.agg #[.int .i64 c.fr, .int .i64 c.fst, .slice A k cap]] W fun e w' => e = .returned (.int .i64 t) ∧ Below W.heap.size W w') := fun W _ => by
        refine (toOf_any c A k cap W hfr.1 hfr.2 (by omega)).mono ?_
        rintro e w' ⟨rfl, hg⟩
        exact ⟨by rw [ht], hg.below⟩
      have HA : Hid (∀ W, (fun w' => w'.cell? ⟨p, 0, none⟩ = some (.int .i64 c.fr) ∧ w'.cell? ⟨p, 1, none⟩ = some (.int .i64 c.fst) ∧ w'.cell? ⟨p, 2, none⟩ = some (.slice A k cap) ∧ (∃ v, w'.cell? ⟨p + 1, 0, none⟩ = some v) ∧ (∃ v, w'.cell? ⟨p + 1, 1, none⟩ = some v) ∧ (∃ v, w'.cell? ⟨p + 1, 2, none⟩ = some v) ∧ w'.frozen? ⟨p + 1, 0, none⟩ = false ∧ w'.frozen? ⟨p + 1, 1, none⟩ = false ∧ w'.frozen? ⟨p + 1, 2, none⟩ = false ∧ Hid (FlipI w w' p g k zs)) W → Calls Try.prog 51 #[.agg #[.int .i64 c.fr, .int .i64 c.fst, .slice A k cap], .int .i64 t] W fun e w' => e = .returned (.agg #[.int .i64 c.fr, .int .i64 c.fst, .slice A k cap, .int .i64 t, .int .i64 v]) ∧ Below W.heap.size W w') := fun W ⟨_, _, _, _, _, _, _, _, _, h9⟩ => by
        have hXW := hXn.now h9.out.below (Nat.le_refl _)
        have := at_any c A k cap k W HVA.out hXW.sl hXW.old (Nat.le_refl _)
        rw [ht, hv] at this
        exact this
      have HRR : Hid (∀ W, (fun w' => w'.cell? ⟨p, 0, none⟩ = some (.int .i64 c.fr) ∧ w'.cell? ⟨p, 1, none⟩ = some (.int .i64 c.fst) ∧ w'.cell? ⟨p, 2, none⟩ = some (.slice A k cap) ∧ (∃ v, w'.cell? ⟨p + 1, 0, none⟩ = some v) ∧ (∃ v, w'.cell? ⟨p + 1, 1, none⟩ = some v) ∧ (∃ v, w'.cell? ⟨p + 1, 2, none⟩ = some v) ∧ w'.frozen? ⟨p + 1, 0, none⟩ = false ∧ w'.frozen? ⟨p + 1, 1, none⟩ = false ∧ w'.frozen? ⟨p + 1, 2, none⟩ = false ∧ Hid (FlipI w w' p g k zs)) W → Calls Try.prog 60 #[.agg #[.int .i64 mt, .int .i64 v, .slice (some ⟨g, 0, none⟩) k k]] W fun e w' => e = .returned (resV ⟨mt, v, zs⟩ (some ⟨g, 0, none⟩) k k) ∧ Below W.heap.size W w') := fun W ⟨_, _, _, _, _, _, _, _, _, h9⟩ =>
        result_any ⟨mt, v, zs⟩ (some ⟨g, 0, none⟩) k k W (ints_of_own h9.out.row) (by omega)
      have SS : Hid (∀ w' x y z, (fun w' => w'.cell? ⟨p, 0, none⟩ = some (.int .i64 c.fr) ∧ w'.cell? ⟨p, 1, none⟩ = some (.int .i64 c.fst) ∧ w'.cell? ⟨p, 2, none⟩ = some (.slice A k cap) ∧ (∃ v, w'.cell? ⟨p + 1, 0, none⟩ = some v) ∧ (∃ v, w'.cell? ⟨p + 1, 1, none⟩ = some v) ∧ (∃ v, w'.cell? ⟨p + 1, 2, none⟩ = some v) ∧ w'.frozen? ⟨p + 1, 0, none⟩ = false ∧ w'.frozen? ⟨p + 1, 1, none⟩ = false ∧ w'.frozen? ⟨p + 1, 2, none⟩ = false ∧ Hid (FlipI w w' p g k zs)) w' → (fun w' => w'.cell? ⟨p, 0, none⟩ = some (.int .i64 c.fr) ∧ w'.cell? ⟨p, 1, none⟩ = some (.int .i64 c.fst) ∧ w'.cell? ⟨p, 2, none⟩ = some (.slice A k cap) ∧ (∃ v, w'.cell? ⟨p + 1, 0, none⟩ = some v) ∧ (∃ v, w'.cell? ⟨p + 1, 1, none⟩ = some v) ∧ (∃ v, w'.cell? ⟨p + 1, 2, none⟩ = some v) ∧ w'.frozen? ⟨p + 1, 0, none⟩ = false ∧ w'.frozen? ⟨p + 1, 1, none⟩ = false ∧ w'.frozen? ⟨p + 1, 2, none⟩ = false ∧ Hid (FlipI w w' p g k zs)) (((w'.setCell ⟨p + 1, 0, none⟩ x).setCell ⟨p + 1, 1, none⟩ y).setCell ⟨p + 1, 2, none⟩ z)) := fun w' x y z ⟨h0, h1, h2, ⟨v0, h3⟩, ⟨v1, h4⟩, ⟨v2, h5⟩, h6, h7, h8, h9⟩ => by
        have oth : ∀ q o, q ≠ p + 1 → (((w'.setCell ⟨p + 1, 0, none⟩ x).setCell ⟨p + 1, 1, none⟩ y).setCell ⟨p + 1, 2, none⟩ z).cell? ⟨q, o, none⟩ = w'.cell? ⟨q, o, none⟩ := fun q o hq => by
          rw [World.cell?_setCell_other _ _ _ _ (by intro e; simp only [Addr.mk.injEq] at e; omega), World.cell?_setCell_other _ _ _ _ (by intro e; simp only [Addr.mk.injEq] at e; omega), World.cell?_setCell_other _ _ _ _ (by intro e; simp only [Addr.mk.injEq] at e; omega)]
        refine ⟨(oth p 0 (by omega)).trans h0, (oth p 1 (by omega)).trans h1, (oth p 2 (by omega)).trans h2, ⟨x, ?_⟩, ⟨y, ?_⟩, ⟨z, ?_⟩, ?_, ?_, ?_, h9.out.set (by omega) x y z⟩
        · rw [World.cell?_setCell_other _ _ _ _ (by simp), World.cell?_setCell_other _ _ _ _ (by simp)]
          exact World.cell?_setCell_same _ _ _ h3
        · rw [World.cell?_setCell_other _ _ _ _ (by simp)]
          exact World.cell?_setCell_same _ _ _ ((World.cell?_setCell_other _ _ _ _ (by simp)).trans h4)
        · exact World.cell?_setCell_same _ _ _ ((World.cell?_setCell_other _ _ _ _ (by simp)).trans ((World.cell?_setCell_other _ _ _ _ (by simp)).trans h5))
        all_goals
          rw [World.frozen?_setCell, World.frozen?_setCell, World.frozen?_setCell]
          assumption
      have hfd : ∀ W : World, (Instr.field 61 (.agg #[.int .i64 c.fr, .int .i64 c.fst, .slice A k cap, .int .i64 t, .int .i64 v]) 2).run Try.prog W = .ok (.int .i64 v) W := fun _ => by kernel_rfl
      have hpg2 : p + 1 < g := by omega
      have hwp : w.heap.size = p := hp
      clear hT hTe hTx hfr ht hv hmt hzs hgl hTl hle c0 c1 c2 r0 r1 r2 y0 y1 y2 hXn HF0 HO
      by_cases hok : okC ⟨mt, v, zs⟩ = true
      · have HJ2 : Hid (flipV c = (⟨mt, v, zs⟩, 0)) := by show _ = _; rw [HJ.out, res2, if_pos hok]
        have HR2 : Hid (∀ W, (fun w' => w'.cell? ⟨p, 0, none⟩ = some (.int .i64 c.fr) ∧ w'.cell? ⟨p, 1, none⟩ = some (.int .i64 c.fst) ∧ w'.cell? ⟨p, 2, none⟩ = some (.slice A k cap) ∧ (∃ v, w'.cell? ⟨p + 1, 0, none⟩ = some v) ∧ (∃ v, w'.cell? ⟨p + 1, 1, none⟩ = some v) ∧ (∃ v, w'.cell? ⟨p + 1, 2, none⟩ = some v) ∧ w'.frozen? ⟨p + 1, 0, none⟩ = false ∧ w'.frozen? ⟨p + 1, 1, none⟩ = false ∧ w'.frozen? ⟨p + 1, 2, none⟩ = false ∧ Hid (FlipI w w' p g k zs)) W → Calls Try.prog 60 #[.agg #[.int .i64 mt, .int .i64 v, .slice (some ⟨g, 0, none⟩) k k]] W fun e w' => e = .returned (.tuple #[.agg #[.int .i64 mt, .int .i64 v, .slice (some ⟨g, 0, none⟩) k k], .int .i64 0]) ∧ Below W.heap.size W w') := fun W hW => by
          have := HRR.out W hW
          rw [show resV ⟨mt, v, zs⟩ (some ⟨g, 0, none⟩) k k = .tuple #[.agg #[.int .i64 mt, .int .i64 v, .slice (some ⟨g, 0, none⟩) k k], .int .i64 0] from if_pos hok] at this
          exact this
        clear hok HRR HJ
        go_wp2_with fail
        have hS0 := SB.out wr (Below.refl _ _)
        have hSd := SB.out wr.drew ((Below.refl wr.heap.size wr).drew)
        go_region_held3 (fun w' => w'.cell? ⟨p, 0, none⟩ = some (.int .i64 c.fr) ∧ w'.cell? ⟨p, 1, none⟩ = some (.int .i64 c.fst) ∧ w'.cell? ⟨p, 2, none⟩ = some (.slice A k cap) ∧ (∃ v, w'.cell? ⟨p + 1, 0, none⟩ = some v) ∧ (∃ v, w'.cell? ⟨p + 1, 1, none⟩ = some v) ∧ (∃ v, w'.cell? ⟨p + 1, 2, none⟩ = some v) ∧ w'.frozen? ⟨p + 1, 0, none⟩ = false ∧ w'.frozen? ⟨p + 1, 1, none⟩ = false ∧ w'.frozen? ⟨p + 1, 2, none⟩ = false ∧ Hid (FlipI w w' p g k zs))
          (first | with_reducible assumption | with_reducible exact SS.out _ _ _ _ (by assumption))
          (first | (go_at_call 50; (with_reducible refine (HT.out _ (by assumption)).mono ?_); rintro e w1 ⟨rfl, hb1⟩; have hS1 := KC.out _ _ (by assumption) hb1) | (go_at_call 51; (with_reducible refine (HA.out _ (by assumption)).mono ?_); rintro e w1 ⟨rfl, hb1⟩; have hS1 := KC.out _ _ (by assumption) hb1) | (go_at_call 60; (with_reducible refine (HR2.out _ (by assumption)).mono ?_); rintro e w5 ⟨rfl, hb5⟩; have hS5 := KC.out _ _ (by assumption) hb5; obtain ⟨l0, l1, l2, ⟨v9, l3⟩, ⟨v10, l4⟩, ⟨v11, l5⟩, l6, l7, l8, l9⟩ := (show w5.cell? ⟨p, 0, none⟩ = some (.int .i64 c.fr) ∧ w5.cell? ⟨p, 1, none⟩ = some (.int .i64 c.fst) ∧ w5.cell? ⟨p, 2, none⟩ = some (.slice A k cap) ∧ (∃ v, w5.cell? ⟨p + 1, 0, none⟩ = some v) ∧ (∃ v, w5.cell? ⟨p + 1, 1, none⟩ = some v) ∧ (∃ v, w5.cell? ⟨p + 1, 2, none⟩ = some v) ∧ w5.frozen? ⟨p + 1, 0, none⟩ = false ∧ w5.frozen? ⟨p + 1, 1, none⟩ = false ∧ w5.frozen? ⟨p + 1, 2, none⟩ = false ∧ Hid (FlipI w w5 p g k zs) from hS5)))
        all_goals
          clear hS1 hS5 l0 l1 l2 l3 l4 l5 l6 l7 l8
          obtain ⟨_, _, _, hz⟩ := l9.out.res
          have HZ := hide hz
          clear hz
          go_wp2
          refine bodyPost_ret (results30 (set3_heap HZ.out _ _ _) _ _ _ _) rfl ?_
          refine ⟨some ⟨g, 0, none⟩, k, k, by rw [HJ2.out] <;> rfl, ?_, set3_below l9.out.below (by omega) _ _ _⟩
          rw [HJ2.out]
          exact own_base (own_set3 l9.out.row (by omega) _ _ _) (by omega)
      · have HJ2 : Hid (flipV c = (Cu.zero, 4)) := by show _ = _; rw [HJ.out, res2, if_neg hok]
        have HR2 : Hid (∀ W, (fun w' => w'.cell? ⟨p, 0, none⟩ = some (.int .i64 c.fr) ∧ w'.cell? ⟨p, 1, none⟩ = some (.int .i64 c.fst) ∧ w'.cell? ⟨p, 2, none⟩ = some (.slice A k cap) ∧ (∃ v, w'.cell? ⟨p + 1, 0, none⟩ = some v) ∧ (∃ v, w'.cell? ⟨p + 1, 1, none⟩ = some v) ∧ (∃ v, w'.cell? ⟨p + 1, 2, none⟩ = some v) ∧ w'.frozen? ⟨p + 1, 0, none⟩ = false ∧ w'.frozen? ⟨p + 1, 1, none⟩ = false ∧ w'.frozen? ⟨p + 1, 2, none⟩ = false ∧ Hid (FlipI w w' p g k zs)) W → Calls Try.prog 60 #[.agg #[.int .i64 mt, .int .i64 v, .slice (some ⟨g, 0, none⟩) k k]] W fun e w' => e = .returned (.tuple #[.agg #[.int .i64 0, .int .i64 0, .slice none 0 0], .int .i64 4]) ∧ Below W.heap.size W w') := fun W hW => by
          have := HRR.out W hW
          rw [show resV ⟨mt, v, zs⟩ (some ⟨g, 0, none⟩) k k = .tuple #[.agg #[.int .i64 0, .int .i64 0, .slice none 0 0], .int .i64 4] from if_neg hok] at this
          exact this
        clear hok HRR HJ
        go_wp2_with fail
        have hS0 := SB.out wr (Below.refl _ _)
        have hSd := SB.out wr.drew ((Below.refl wr.heap.size wr).drew)
        go_region_held3 (fun w' => w'.cell? ⟨p, 0, none⟩ = some (.int .i64 c.fr) ∧ w'.cell? ⟨p, 1, none⟩ = some (.int .i64 c.fst) ∧ w'.cell? ⟨p, 2, none⟩ = some (.slice A k cap) ∧ (∃ v, w'.cell? ⟨p + 1, 0, none⟩ = some v) ∧ (∃ v, w'.cell? ⟨p + 1, 1, none⟩ = some v) ∧ (∃ v, w'.cell? ⟨p + 1, 2, none⟩ = some v) ∧ w'.frozen? ⟨p + 1, 0, none⟩ = false ∧ w'.frozen? ⟨p + 1, 1, none⟩ = false ∧ w'.frozen? ⟨p + 1, 2, none⟩ = false ∧ Hid (FlipI w w' p g k zs))
          (first | with_reducible assumption | with_reducible exact SS.out _ _ _ _ (by assumption))
          (first | (go_at_call 50; (with_reducible refine (HT.out _ (by assumption)).mono ?_); rintro e w1 ⟨rfl, hb1⟩; have hS1 := KC.out _ _ (by assumption) hb1) | (go_at_call 51; (with_reducible refine (HA.out _ (by assumption)).mono ?_); rintro e w1 ⟨rfl, hb1⟩; have hS1 := KC.out _ _ (by assumption) hb1) | (go_at_call 60; (with_reducible refine (HR2.out _ (by assumption)).mono ?_); rintro e w5 ⟨rfl, hb5⟩; have hS5 := KC.out _ _ (by assumption) hb5; obtain ⟨l0, l1, l2, ⟨v9, l3⟩, ⟨v10, l4⟩, ⟨v11, l5⟩, l6, l7, l8, l9⟩ := (show w5.cell? ⟨p, 0, none⟩ = some (.int .i64 c.fr) ∧ w5.cell? ⟨p, 1, none⟩ = some (.int .i64 c.fst) ∧ w5.cell? ⟨p, 2, none⟩ = some (.slice A k cap) ∧ (∃ v, w5.cell? ⟨p + 1, 0, none⟩ = some v) ∧ (∃ v, w5.cell? ⟨p + 1, 1, none⟩ = some v) ∧ (∃ v, w5.cell? ⟨p + 1, 2, none⟩ = some v) ∧ w5.frozen? ⟨p + 1, 0, none⟩ = false ∧ w5.frozen? ⟨p + 1, 1, none⟩ = false ∧ w5.frozen? ⟨p + 1, 2, none⟩ = false ∧ Hid (FlipI w w5 p g k zs) from hS5)))
        all_goals
          clear hS1 hS5 l0 l1 l2 l3 l4 l5 l6 l7 l8
          obtain ⟨_, _, _, hz⟩ := l9.out.res
          have HZ := hide hz
          clear hz
          go_wp2
          refine bodyPost_ret (results30 (set3_heap HZ.out _ _ _) _ _ _ _) rfl ?_
          refine ⟨none, 0, 0, by rw [HJ2.out] <;> rfl, ?_, set3_below l9.out.below (by omega) _ _ _⟩
          rw [HJ2.out]
          exact World.ownsRow_nil _ _ _ _
end Go.Proofs.Ytdepnhnpklbmiaa
