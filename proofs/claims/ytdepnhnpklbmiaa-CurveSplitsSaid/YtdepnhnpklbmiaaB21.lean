/- Contract of Conj. -/
import Derived.Test.YtdepnhnpklbmiaaA4
import Derived.Test.YtdepnhnpklbmiaaA5
import Derived.Test.YtdepnhnpklbmiaaC0
import Derived.Lib.SmallJoins
namespace Go.Proofs.Ytdepnhnpklbmiaa
open Go.RowKit Go.Sort

theorem OnWay.shift {W W' : World} {g o : Nat} {c : Cu} {A : Option Addr} {n cap k : Nat} (h : OnWay W g o c A n cap k) (hb : W'.heap[g]? = W.heap[g]?) (hsz : W.heap.size ≤ W'.heap.size) (hx : IntsAt W'.heap.size W' A n c.sl) : OnWay W' g o c A n cap k :=
  ⟨⟨Nat.lt_of_lt_of_le h.wk.lt hsz, (World.cell?_of_block hb).trans h.wk.c0, (World.cell?_of_block hb).trans h.wk.c1, (World.cell?_of_block hb).trans h.wk.c2, (World.cell?_of_block hb).trans h.wk.c3, (World.cell?_of_block hb).trans h.wk.c4, (World.frozen?_of_block hb).trans h.wk.f3, (World.frozen?_of_block hb).trans h.wk.f4⟩, hx, h.ne, h.le⟩

theorem results40 {W : World} {g : Nat} {a b c : Value} {t : TypeId} (h : W.heap[g]? = some (.cells #[a, b, c] t (0, 0))) (x0 x1 x2 x3 x4 x5 y : Value) (rest : List Value) :
    (results Try.f40 (x0 :: x1 :: x2 :: x3 :: x4 :: x5 :: .pointer (some ⟨g, 0, none⟩) :: y :: rest).toArray).run Try.prog W = .ok (.tuple #[.agg #[a, b, c], y]) W := by
  have h0 := cell_of_heap' h 0
  have h1 := cell_of_heap' h 1
  have h2 := cell_of_heap' h 2
  simp at h0 h1 h2
  simp [results, Try.results40, go_sem, h0, h1, h2]

/-- what stands when N prices beyond lo have been gone through -/
structure ConI (w W : World) (g gc r : Nat) (c : Cu) (A : Option Addr) (n cap : Nat) (lo : Int) (f0 : Int) (a : Option Addr) (N cp : Nat) : Prop where
  walk : OnWay W g 0 c A n cap (climK c (lo + N))
  conj : W.heap[gc]? = some (.cells #[.int .i64 lo, .int .i64 f0, .slice a N cp] 24 (0, 0))
  row : W.ownsRow (gc + 1) 3 1 (.slice a N cp) N (((List.range N).map (fun (i : Nat) => c.fr + (climK c (lo + 1 + (i : Int)) : Int))).map (Value.int .i64))
  res : W.heap[r]? = some (.cells #[.int .i64 0, .int .i64 0, .slice none 0 0] 24 (0, 0))
  below : Below w.heap.size w W
  size : gc + 1 ≤ W.heap.size

theorem cell_one_new (w : World) (v : Value) (t : TypeId) : ∀ j u, [v][j]? = some u → (w.alloc (.cells #[v] t)).cell? ((⟨w.heap.size, 0, none⟩ : Addr).add j) = some u := by
  intro j u hu
  cases j with
  | zero =>
    simp at hu
    subst hu
    rw [addr_add]
    simp
  | succ j => simp at hu
theorem clim_self {c : Cu} (h : okC c = true) {n : Nat} (hl : c.sl.length = n) (p : Int) : Clim c p n 0 (climK c p) :=
  ⟨Nat.zero_le _, by rw [← hl]; exact climK_le c p, fun _ _ h => climK_lt h, fun hk => climK_ge (okC_true h).2.2.2.1 (Nat.le_refl _) (by omega)⟩
theorem mul_bound {a b : Int} {M N : Nat} (h1 : -(M : Int) ≤ a ∧ a ≤ M) (h2 : -(N : Int) ≤ b ∧ b ≤ N) : -((M * N : Nat) : Int) ≤ a * b ∧ a * b ≤ ((M * N : Nat) : Int) := by
  have h3 : (a * b).natAbs ≤ M * N := by
    rw [Int.natAbs_mul]
    exact Nat.mul_le_mul (by omega) (by omega)
  omega

/-- one price more: the walker has climbed, x has been appended, and the slice stored -/
theorem ConI.next {w wr w7 w8 : World} {g gc r : Nat} {c : Cu} {A a a8 : Option Addr} {n cap N cp c8 : Nat} {lo f0 : Int} (h : ConI w wr g gc r c A n cap lo f0 a N cp) (hx : IntsAt w.heap.size w A n c.sl)
    (ho : OnWay w7 g 0 c A n cap (climK c (lo + (N + 1 : Nat)))) (hk : Wkd g 0 wr w7) (hgg : g < gc) (hrg : r < g) (hwg : w.heap.size ≤ g) (t : Obj)
    (hown : w8.ownsRow (gc + 1) 3 1 (.slice a8 (N + 1) c8) (N + 1) (((List.range N).map (fun (i : Nat) => c.fr + (climK c (lo + 1 + (i : Int)) : Int))).map (Value.int .i64) ++ [.int .i64 (c.fr + climK c (lo + (N + 1 : Nat)))]))
    (hgrow : (w7.alloc t).grownBy w8 (Value.slice a N cp).ownBlock) :
    w8.heap[gc]? = some (.cells #[.int .i64 lo, .int .i64 f0, .slice a N cp] 24 (0, 0)) ∧
    ConI w (w8.setCell ⟨gc, 2, none⟩ (.slice a8 (N + 1) c8)) g gc r c A n cap lo f0 a8 (N + 1) c8 := by
  have hrow7 : w7.ownsRow (gc + 1) 3 1 (.slice a N cp) N _ := own_wkd h.row hk (fun e => by have := (h.row.lt g e).1; omega)
  have hs7 : gc + 1 ≤ w7.heap.size := Nat.le_trans h.size hk.size
  have hb8 : Below (gc + 1) w7 w8 := ((Below.refl (gc + 1) w7).alloc hs7 t).grown hgrow (by rw [World.size_alloc]; omega) (fun k e => (h.row.lt k e).1)
  have hc7 : w7.heap[gc]? = some (.cells #[.int .i64 lo, .int .i64 f0, .slice a N cp] 24 (0, 0)) := (hk.block gc (by have := h.size; omega) (by omega)).trans h.conj
  have hc8 := (hb8.block gc (by omega)).trans hc7
  have hB7 : Below w.heap.size w w7 := hk.below h.below hwg h.below.size
  have hB8 : Below w.heap.size w w8 := hB7.trans (hb8.mono (by omega))
  have hB9 : Below w.heap.size w (w8.setCell ⟨gc, 2, none⟩ (.slice a8 (N + 1) c8)) := hB8.setCell (p := ⟨gc, 2, none⟩) (by show w.heap.size ≤ gc; omega) _
  have hsz : (w8.setCell ⟨gc, 2, none⟩ (.slice a8 (N + 1) c8)).heap.size = w8.heap.size := by simp [World.setCell]
  refine ⟨hc8, ⟨?_, ?_, ?_, ?_, hB9, by rw [hsz]; exact Nat.le_trans hs7 hb8.size⟩⟩
  · refine ho.shift ((Below.heap_setCell _ _ _ _ (by show g ≠ gc; omega)).trans (hb8.block g (by omega))) (by rw [hsz]; exact hb8.size) (hx.now hB9 (Nat.le_refl _))
  · have := Joins.block_setCell hc8 (i := 2) (.slice a8 (N + 1) c8)
    simpa using this
  · rw [List.range_succ, List.map_append, List.map_append]
    have e : c.fr + (climK c (lo + (N + 1 : Nat)) : Int) = c.fr + (climK c (lo + 1 + (N : Int)) : Int) := by rw [show lo + ((N + 1 : Nat) : Int) = lo + 1 + (N : Int) by omega]
    rw [e] at hown
    exact RowKit.ownsRow_setCell_below hown (a := ⟨gc, 2, none⟩) (by show gc < gc + 1; omega) _
  · exact (Below.heap_setCell _ _ _ _ (by show r ≠ gc; omega)).trans ((hb8.block r (by omega)).trans ((hk.block r (by have := h.size; omega) (by omega)).trans h.res))

set_option maxHeartbeats 8000000 in
set_option maxRecDepth 100000 in
theorem Conj_any (c : Cu) (A : Option Addr) (n cap : Nat) (lo hi : Int) (w : World) (hx : CuAt w.heap.size w c A n cap) (hn : n ≤ 9223372036854775807) :
    Calls Try.prog 40 #[.agg #[.int .i64 c.fr, .int .i64 c.fst, .slice A n cap], .int .i64 lo, .int .i64 hi] w (CuPost (conV c lo hi) w) := by
  have mixed := mixedOrders
  obtain ⟨W1, hW1⟩ : ∃ W1, (w.alloc (.cells #[.int .i64 c.fr, .int .i64 c.fst, .slice A n cap] 24)).alloc (.cells #[.int .i64 0, .int .i64 0, .slice none 0 0] 24) = W1 := ⟨_, rfl⟩
  obtain ⟨p, hp⟩ : ∃ p, w.heap.size = p := ⟨_, rfl⟩
  have hG1 : Gr w W1 := by rw [← hW1]; exact ((Gr.refl w).alloc _).alloc _
  have hs1 : W1.heap.size = p + 2 := by rw [← hW1, ← hp]; simp
  have ua : W1.heap[p]? = some (.cells #[.int .i64 c.fr, .int .i64 c.fst, .slice A n cap] 24 (0, 0)) := by
    rw [← hW1, ← hp]
    exact (Below.heap_alloc _ _ _ (by simp)).trans (heap_alloc_new w _)
  have ur : W1.heap[p + 1]? = some (.cells #[.int .i64 0, .int .i64 0, .slice none 0 0] 24 (0, 0)) := by
    rw [← hW1, ← hp]
    simpa using heap_alloc_new (w.alloc (.cells #[.int .i64 c.fr, .int .i64 c.fst, .slice A n cap] 24)) (.cells #[.int .i64 0, .int .i64 0, .slice none 0 0] 24)
  have HUA := hide ua
  have HUR := hide ur
  have HX := hide hx
  have HG1 := hide hG1
  have HV := hide (Valid_any c A n cap W1 (hx.gr hG1).sl hn)
  have HWI := hide (fun W => within_any lo 1048576 W (by decide) (by decide))
  have a0 := cell_of_heap' ua 0
  have a1 := cell_of_heap' ua 1
  have a2 := cell_of_heap' ua 2
  simp at a0 a1 a2
  clear ua ur hx hG1
  go_enter Try.func40, Try.ntmps40
  go_wp2_with fail
  try rw [hp]
  refine HV.out.mono ?_
  rintro e w2 ⟨rfl, hG2⟩
  have HG2 := hide (HG1.out.trans hG2)
  have hs2 : p + 2 ≤ w2.heap.size := by have := hG2.size; omega
  have b2 := (hG2.block (k := p) (by omega)).trans HUA.out
  have q2 := (hG2.block (k := p + 1) (by omega)).trans HUR.out
  have HUA2 := hide b2
  have HUR2 := hide q2
  have c0 := cell_of_heap' b2 0
  have c1 := cell_of_heap' b2 1
  have c2 := cell_of_heap' b2 2
  have r0 := cell_of_heap' q2 0
  have r1 := cell_of_heap' q2 1
  have r2 := cell_of_heap' q2 2
  have y0 := frozen_of_heap' q2 0
  have y1 := frozen_of_heap' q2 1
  have y2 := frozen_of_heap' q2 2
  simp at c0 c1 c2 r0 r1 r2
  clear b2 q2 hG2 a0 a1 a2
  have HB2 : Hid (Below w.heap.size w w2) := HG2.out.below
  cases hva : okC c
  · have HJ : Hid (conV c lo hi = (Cu.zero, 2)) := if_neg (by rw [hva]; simp)
    clear hva
    go_wp2_with fail
    refine bodyPost_ret (results40 (set3_heap HUR2.out _ _ _) _ _ _ _ _ _ _ _) rfl ?_
    refine ⟨none, 0, 0, by rw [HJ.out] <;> rfl, ?_, set3_below HB2.out (by omega) _ _ _⟩
    rw [HJ.out]
    exact World.ownsRow_nil _ _ _ _
  have HVA := hide hva
  have hn64 : n ≤ 64 := by have h1 := okC_len hva; have h2 := HX.out.sl.1; omega
  clear hva
  go_wp2_with fail
  refine (HWI.out _).mono ?_
  rintro e w3 ⟨rfl, hw3⟩
  subst hw3
  cases hib : inB lo 1048576
  · have HJ : Hid (conV c lo hi = (Cu.zero, 2)) := if_neg (by rw [hib]; simp)
    clear hib
    go_wp2_with fail
    refine bodyPost_ret (results40 (set3_heap HUR2.out _ _ _) _ _ _ _ _ _ _ _) rfl ?_
    refine ⟨none, 0, 0, by rw [HJ.out] <;> rfl, ?_, set3_below HB2.out (by omega) _ _ _⟩
    rw [HJ.out]
    exact World.ownsRow_nil _ _ _ _
  have hlr : -1048576 ≤ lo ∧ lo ≤ 1048576 := inB_true hib
  have HIB := hide hib
  clear hib
  by_cases hlh : hi < lo
  · have HJ : Hid (conV c lo hi = (Cu.zero, 2)) := if_neg (fun h => by omega)
    have hd1 : decide (hi < lo) = true := decide_eq_true hlh
    go_wp2_with fail
    refine bodyPost_ret (results40 (set3_heap HUR2.out _ _ _) _ _ _ _ _ _ _ _) rfl ?_
    refine ⟨none, 0, 0, by rw [HJ.out] <;> rfl, ?_, set3_below HB2.out (by omega) _ _ _⟩
    rw [HJ.out]
    exact World.ownsRow_nil _ _ _ _
  have hd1 : decide (hi < lo) = false := decide_eq_false hlh
  obtain ⟨t, ht⟩ : ∃ t, lo + 64 = t := ⟨_, rfl⟩
  have hwt : IntKind.i64.wrap (lo + 64) = t := by rw [IntKind.wrap_i64]; omega
  obtain ⟨mn, hmn⟩ : ∃ q : Int, min t 1048576 = q := ⟨_, rfl⟩
  have HMN : Hid (mn ≤ t ∧ mn ≤ 1048576 ∧ (mn = t ∨ mn = 1048576)) := by show _ ∧ _; rw [← hmn]; omega
  by_cases hmh : mn < hi
  · have HJ : Hid (conV c lo hi = (Cu.zero, 2)) := if_neg (fun h => by have := HMN.out; omega)
    have hd2 : decide (mn < hi) = true := decide_eq_true hmh
    clear ht
    go_wp2_with fail
    refine bodyPost_ret (results40 (set3_heap HUR2.out _ _ _) _ _ _ _ _ _ _ _) rfl ?_
    refine ⟨none, 0, 0, by rw [HJ.out] <;> rfl, ?_, set3_below HB2.out (by omega) _ _ _⟩
    rw [HJ.out]
    exact World.ownsRow_nil _ _ _ _
  have hd2 : decide (mn < hi) = false := decide_eq_false hmh
  have hhi : hi ≤ lo + 64 ∧ hi ≤ 1048576 := by have := HMN.out; omega
  have HJ : Hid (conV c lo hi = res2 (conC c lo hi)) := if_pos ⟨HVA.out, HIB.out, by omega, hhi.1, hhi.2⟩
  have HLH : Hid (lo ≤ hi) := by show lo ≤ hi; omega
  clear ht hlh hmh
  have e00 : c.fr + ((0 : Nat) : Int) = c.fr := by omega
  have hX2 := HX.out.gr HG2.out
  have HAT := hide (at_any c A n cap 0 w3 HVA.out hX2.sl hX2.old (Nat.zero_le _))
  rw [e00] at HAT
  clear hX2
  go_wp2_with fail
  refine HAT.out.mono ?_
  rintro e w4 ⟨rfl, hB4⟩
  have hwz : wkV c A n cap c.fr (valK c 0) = .agg #[.int .i64 c.fr, .int .i64 c.fst, .slice A n cap, .int .i64 c.fr, .int .i64 c.fst] := rfl
  rw [hwz]
  obtain ⟨g, hg⟩ : ∃ g, w4.heap.size = g := ⟨_, rfl⟩
  obtain ⟨W5, hW5⟩ : ∃ W5, (w4.alloc (.cells #[.int .i64 c.fr, .int .i64 c.fst, .slice A n cap, .int .i64 c.fr, .int .i64 c.fst] 61)) = W5 := ⟨_, rfl⟩
  have hG5 : Gr w4 W5 := by rw [← hW5]; exact (Gr.refl w4).alloc _
  have hb5 : W5.heap[g]? = some (.cells #[.int .i64 c.fr, .int .i64 c.fst, .slice A n cap, .int .i64 c.fr, .int .i64 c.fst] 61 (0, 0)) := by
    rw [← hW5, ← hg]
    exact heap_alloc_new w4 _
  have hs5 : W5.heap.size = g + 1 := by rw [← hW5, ← hg]; simp
  have hpg : p + 2 ≤ g := by have := hB4.size; omega
  have d0 := fun j => cell_of_heap' hb5 j
  have f0 := fun j => frozen_of_heap' hb5 j
  have hB4w := HB2.out.trans (hB4.mono HB2.out.size)
  have hX5 := HX.out.now (hB4w.trans (hG5.below.mono hB4w.size)) (Nat.le_refl _)
  have ON : OnWay W5 g 0 c A n cap 0 := by
    refine ⟨⟨by omega, by simpa using d0 0, by simpa using d0 1, by simpa using d0 2, ?_, ?_, f0 _, f0 _⟩, hX5.sl, fun hz ad e => by have := (HX.out.now hB4w (Nat.le_refl _)).old hz ad e; omega, Nat.zero_le _⟩
    · have := d0 3
      simp at this
      simpa using this
    · have := d0 4
      simp at this
      simpa [valK] using this
  have HCL := hide (climb_any g 0 c A n cap 0 lo W5 HVA.out ON)
  have HB5 : Hid (Below w.heap.size w W5) := hB4w.trans (hG5.below.mono hB4w.size)
  have HR5 : Hid (W5.heap[p + 1]? = some (.cells #[.int .i64 0, .int .i64 0, .slice none 0 0] 24 (0, 0))) := (hG5.block (k := p + 1) (by omega)).trans ((hB4.block (p + 1) (by omega)).trans HUR2.out)
  have HLN := hide HX.out.sl.1
  clear hB4 d0 f0 ON hX5 hb5 hG5 hB4w HAT c0 c1 c2 r0 r1 r2 y0 y1 y2 hwz
  go_wp2_with fail
  refine HCL.out.mono ?_
  rintro e w6 ⟨rfl, k1, hc1, ho, hk6⟩
  obtain rfl := clim_is HLN.out hc1
  have g3 := ho.wk.c3
  have g4 := ho.wk.c4
  simp only [Nat.zero_add] at g3 g4
  have hkl : climK c lo ≤ n := by have := climK_le c lo; have := HLN.out; omega
  have hfr := okC_fr HVA.out
  have hvr := okC_val HVA.out (k := climK c lo) (by have := HLN.out; omega)
  obtain ⟨x0, hx0⟩ : ∃ q, c.fr + (climK c lo : Int) = q := ⟨_, rfl⟩
  obtain ⟨v0, hv0⟩ : ∃ q, valK c (climK c lo) = q := ⟨_, rfl⟩
  rw [hx0] at g3
  rw [hv0] at g4 hvr
  have hmr := mul_bound (a := lo) (b := x0) (M := 1048576) (N := 2097152) (by omega) (by omega)
  obtain ⟨m0, hm0⟩ : ∃ q, lo * x0 = q := ⟨_, rfl⟩
  rw [hm0] at hmr
  have hw1 : IntKind.i64.wrap (lo * x0) = m0 := by rw [hm0, IntKind.wrap_i64]; omega
  obtain ⟨f0, hf0⟩ : ∃ q, m0 - v0 = q := ⟨_, rfl⟩
  have hw2 : IntKind.i64.wrap (m0 - v0) = f0 := by rw [IntKind.wrap_i64]; omega
  have HF0 : Hid (f0 = lo * (c.fr + climK c lo) - valK c (climK c lo)) := by show _ = _; rw [hx0, hv0, hm0, hf0]
  obtain ⟨gc, hgc⟩ : ∃ q, w6.heap.size = q := ⟨_, rfl⟩
  obtain ⟨W7, hW7⟩ : ∃ W7, (w6.alloc (.cells #[.int .i64 lo, .int .i64 f0, .slice none 0 0] 24)) = W7 := ⟨_, rfl⟩
  have hG7 : Gr w6 W7 := by rw [← hW7]; exact (Gr.refl w6).alloc _
  have hggc : g < gc := by have := ho.wk.lt; omega
  have hpw : w.heap.size ≤ g := by omega
  have HS0 : Hid (ConI w W7 g gc (p + 1) c A n cap lo f0 none 0 0) := by
    have hB6 := hk6.below HB5.out hpw HB5.out.size
    have hB7 := hB6.trans (hG7.below.mono hB6.size)
    refine ⟨?_, ?_, World.ownsRow_nil _ _ _ _, ?_, hB7, by rw [← hW7, World.size_alloc]; omega⟩
    · rw [show lo + ((0 : Nat) : Int) = lo by omega]
      exact ho.gr hG7
    · rw [← hW7, ← hgc]
      exact heap_alloc_new w6 _
    · exact (hG7.block (k := p + 1) (by omega)).trans ((hk6.block (p + 1) (by omega) (by omega)).trans HR5.out)
  clear hk6 hc1 ho hG7 HCL hx0 hv0 hm0 hf0 hvr hmr hkl hW5
  subst hW7
  go_wp2_with fail
  obtain ⟨i0, hi0, hz0, hz1, hz2⟩ := info_parts info3
  go_loopw [10] (fun vp wr => ∃ (N : Nat) (a : Option Addr) (cp : Nat), (N : Int) ≤ hi - lo ∧ vp = .int .i64 (lo + 1 + N) ∧ Hid (ConI w wr g gc (p + 1) c A n cap lo f0 a N cp)) (fun vp _ => (hi + 1 - intOf vp).toNat)
  case atStart => exact ⟨0, none, 0, by have := HLH.out; omega, by first | go_num | (rw [show lo + 1 + ((0 : Nat) : Int) = lo + 1 by omega]), HS0⟩
  case round =>
    obtain ⟨N, a, cp, hN, rfl, HC⟩ := hrel
    obtain ⟨P, hP⟩ : ∃ q, lo + 1 + (N : Int) = q := ⟨_, rfl⟩
    rw [hP]
    have hwP : IntKind.i64.wrap (P + 1) = P + 1 := by rw [IntKind.wrap_i64]; omega
    by_cases hlt : P ≤ hi
    · have hd3 : decide (P ≤ hi) = true := decide_eq_true hlt
      have HCL := hide (climb_any g 0 c A n cap (climK c (lo + N)) P wr HVA.out HC.out.walk)
      go_wp2_with fail
      refine HCL.out.mono ?_
      rintro e w7 ⟨rfl, k2, hc2, ho, hk7⟩
      obtain rfl := clim_is HLN.out (clim_on (clim_self HVA.out HLN.out _) hc2 (by omega))
      have g3 := ho.wk.c3
      simp only [Nat.zero_add] at g3
      have hsz := HC.out.size
      have hcb := (hk7.block gc (by omega) (by omega)).trans HC.out.conj
      have z2 := cell_of_heap' hcb 2
      simp at z2
      have e1 : P = lo + ((N + 1 : Nat) : Int) := by omega
      have HO7 : Hid (w7.ownsRow (gc + 1) 3 1 (.slice a N cp) N (((List.range N).map (fun (i : Nat) => c.fr + (climK c (lo + 1 + (i : Int)) : Int))).map (Value.int .i64))) := own_wkd HC.out.row hk7 (fun e => by have := (HC.out.row.lt g e).1; omega)
      have HNX := hide (fun (w8 : World) (a8 : Option Addr) (c8 : Nat) t h1 h2 => ConI.next (w8 := w8) (a8 := a8) (c8 := c8) HC.out HX.out.sl (by rw [← e1]; exact ho) hk7 hggc (by omega) hpw t h1 h2)
      rw [← e1] at HNX
      obtain ⟨xp, hxp⟩ : ∃ q, c.fr + (climK c P : Int) = q := ⟨_, rfl⟩
      rw [hxp] at g3 HNX
      have HB1 : Hid (N + 1 ≤ maxLen) := hide (by unfold maxLen; omega)
      have HBB : Hid ((N + 1) * 8 ≤ 140737488355328) := hide (by omega)
      have HB3 : Hid (gc + 1 ≤ (w7.alloc (.cells #[.int .i64 xp] 3)).heap.size) := by show _ ≤ _; rw [World.size_alloc]; have := hk7.size; omega
      have l2 : (w7.alloc (.cells #[.int .i64 xp] 3)).cell? ⟨gc, 2, none⟩ = some (.slice a N cp) := (World.cell?_alloc_lt _ _ _ (by show gc < _; have := hk7.size; omega)).trans z2
      clear hc2 ho hk7 HCL hcb hsz HC
      go_wp2_with (at_builtin; refine wpList_append_own_at _ rfl (.tmp 57) (.tmp 60) _ rfl (gc + 1) 3 i0 (.int .i64 0) 1 8 Try.underlying22 hi0 hz0 hz1 hz2 rfl (by decide) _ _ _ rfl (HO7.out.alloc _) ⟨w7.heap.size, 0, none⟩ 1 1 [.int .i64 xp] rfl rfl (cell_one_new _ _ _) (by simp [Value.oneCell']) HB1.out HBB.out HB3.out ?_; intro v8 w8 hown8 hgrow8 hnil8 hat8; obtain ⟨a8, c8, rfl⟩ := own_slice hown8; obtain ⟨hc8, hn8⟩ := HNX.out w8 a8 c8 _ hown8 hgrow8; have HN8 := hide hn8; have u2 := cell_of_heap' hc8 2; have f2 := frozen_of_heap' hc8 2; simp at u2; clear hown8 hgrow8 hnil8 hat8 hc8 hn8)
      go_roundw
      case rel => exact ⟨N + 1, a8, c8, by omega, by congr 1; omega, HN8⟩
      case measure => simp [intOf]; omega
    · have hd3 : decide (P ≤ hi) = false := decide_eq_false hlt
      have hNe : (hi - lo).toNat = N := by omega
      have HCE : Hid (conC c lo hi = ⟨lo, f0, (List.range N).map (fun (i : Nat) => c.fr + (climK c (lo + 1 + (i : Int)) : Int))⟩) := by show _ = _; unfold conC; rw [hNe, HF0.out]
      have HRS := hide (result_any ⟨lo, f0, (List.range N).map (fun (i : Nat) => c.fr + (climK c (lo + 1 + (i : Int)) : Int))⟩ a N cp wr (ints_of_own HC.out.row) (by omega))
      rw [← HCE.out] at HRS
      have HRS : Hid (Calls Try.prog 60 #[.agg #[.int .i64 lo, .int .i64 f0, .slice a N cp]] wr fun e w' => e = .returned (resV (conC c lo hi) a N cp) ∧ Below wr.heap.size wr w') := by rw [HCE.out] at HRS ⊢; exact HRS
      have za := fun i => cell_of_heap' HC.out.conj i
      have a0 := za 0
      have a1 := za 1
      have a2 := za 2
      simp at a0 a1 a2
      clear za
      go_wp2_with fail
      refine HRS.out.mono ?_
      rintro e w8 ⟨rfl, hb8⟩
      have hz8 := (hb8.block (p + 1) (by have := HC.out.size; omega)).trans HC.out.res
      have HZ8 := hide hz8
      have HB8 : Hid (Below w.heap.size w w8) := HC.out.below.trans (hb8.mono HC.out.below.size)
      have HT8 : Hid (w8.ownsRow (gc + 1) 3 1 (.slice a N cp) N ((conC c lo hi).sl.map (Value.int .i64))) := by
        show World.ownsRow _ _ _ _ _ _ _
        rw [HCE.out]
        exact own_below HC.out.row hb8
      have r0 := cell_of_heap' hz8 0
      have r1 := cell_of_heap' hz8 1
      have r2 := cell_of_heap' hz8 2
      have y0 := frozen_of_heap' hz8 0
      have y1 := frozen_of_heap' hz8 1
      have y2 := frozen_of_heap' hz8 2
      simp at r0 r1 r2
      clear hz8 hb8 a0 a1 a2
      unfold resV
      by_cases hok : okC (conC c lo hi) = true
      · rw [if_pos hok]
        have HJ2 : Hid (conV c lo hi = (conC c lo hi, 0)) := by show _ = _; rw [HJ.out, res2, if_pos hok]
        clear hok
        generalize conC c lo hi = cc at HT8 HJ2
        go_wp2_with fail
        refine bodyPost_ret (results40 (set3_heap HZ8.out _ _ _) _ _ _ _ _ _ _ _) rfl ?_
        refine ⟨a, N, cp, by rw [HJ2.out] <;> rfl, ?_, set3_below HB8.out (by omega) _ _ _⟩
        rw [HJ2.out]
        exact own_base (own_set3 HT8.out (by omega) _ _ _) (by omega)
      · rw [if_neg hok]
        have HJ2 : Hid (conV c lo hi = (Cu.zero, 4)) := by show _ = _; rw [HJ.out, res2, if_neg hok]
        clear hok
        go_wp2_with fail
        refine bodyPost_ret (results40 (set3_heap HZ8.out _ _ _) _ _ _ _ _ _ _ _) rfl ?_
        refine ⟨none, 0, 0, by rw [HJ2.out] <;> rfl, ?_, set3_below HB8.out (by omega) _ _ _⟩
        rw [HJ2.out]
        exact World.ownsRow_nil _ _ _ _

end Go.Proofs.Ytdepnhnpklbmiaa
