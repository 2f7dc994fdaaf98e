/- Meet, Join. -/
import Derived.Test.YtpbenjpponbjjaaGB
namespace Go.Proofs.Ytpbenjpponbjjaa
open Go.RowKit Go.Sort Go.BigFrame
theorem set1of3 {W : World} {p : Nat} {x y z : Value} {ty : TypeId} (h : W.heap[p]? = some (.cells #[x, y, z] ty (0, 0))) (i : Nat) (a : Value) : (W.setCell ⟨p, i, none⟩ a).heap[p]? = some (.cells (#[x, y, z].setIfInBounds i a) ty (0, 0)) ∧ W.grownBy (W.setCell ⟨p, i, none⟩ a) (some p) := by
  rw [setCell_eq_setRow W p i _ _ _ a h]
  exact ⟨by rw [setRow_heap W p _ _ _ _ h], ⟨rfl, rfl, rfl, by simp [World.setRow], fun k hk hne => setRow_other _ _ _ _ (fun e => hne (by rw [e]))⟩⟩
theorem set3 {W : World} {p : Nat} {x y z : Value} {ty : TypeId} (h : W.heap[p]? = some (.cells #[x, y, z] ty (0, 0))) (a b c : Value) :
    (((W.setCell ⟨p, 0, none⟩ a).setCell ⟨p, 1, none⟩ b).setCell ⟨p, 2, none⟩ c).heap[p]? = some (.cells #[a, b, c] ty (0, 0)) ∧ W.grownBy (((W.setCell ⟨p, 0, none⟩ a).setCell ⟨p, 1, none⟩ b).setCell ⟨p, 2, none⟩ c) (some p) := by
  obtain ⟨h1, g1⟩ := set1of3 h 0 a
  have h1 : (W.setCell ⟨p, 0, none⟩ a).heap[p]? = some (.cells #[a, y, z] ty (0, 0)) := h1
  obtain ⟨h2, g2⟩ := set1of3 h1 1 b
  have h2 : ((W.setCell ⟨p, 0, none⟩ a).setCell ⟨p, 1, none⟩ b).heap[p]? = some (.cells #[a, b, z] ty (0, 0)) := h2
  obtain ⟨h3, g3⟩ := set1of3 h2 2 c
  exact ⟨h3, (g1.trans g2).trans g3⟩
theorem results_cell0 {fn : Func} {t : Tmp} {ty : TypeId} {tmps : Array Value} {a : Addr} {x : Value} {P : Program} {w : World} (h : fn.results = #[.cell t ty]) (hp : tmps.getD t undef = .pointer (some a)) (hl : (loadVar ty a).run P w = .ok x w) :
    (results fn tmps).run P w = .ok x w := by
  have hp2 : tmps[t]?.getD undef = .pointer (some a) := by simpa using hp
  simp [results, h, hp2, asAddr, hl]
theorem load23 {w : World} {p : Nat} {x y z : Value} (h : w.heap[p]? = some (.cells #[x, y, z] 23 (0, 0))) : (loadVar 23 ⟨p, 0, none⟩).run Try.prog w = .ok (.agg #[x, y, z]) w := by
  obtain ⟨c0, c1, c2⟩ := box3 h
  have a0 := Try.isAgg23
  have z0 := Try.sizeOf23
  have e0 : (⟨p, 0, none⟩ : Addr).add 0 = ⟨p, 0, none⟩ := rfl
  have e1 : (⟨p, 0, none⟩ : Addr).add 1 = ⟨p, 1, none⟩ := rfl
  have e2 : (⟨p, 0, none⟩ : Addr).add 2 = ⟨p, 2, none⟩ := rfl
  simp [loadVar, a0, z0, loadCells, loadCellsFrom, e0, e1, e2, c0, c1, c2]

def meetTo (a b : Gd) (i : Nat) : Gd := (if 0 < i then min a.1 b.1 else a.1, if 1 < i then min a.2.1 b.2.1 else a.2.1, if 2 < i then min a.2.2 b.2.2 else a.2.2)
theorem meetTo_at (a b : Gd) {i : Nat} (hi : i < 3) : comp (meetTo a b i) i = comp a i ∧ (#[Value.int .i64 (meetTo a b i).1, .int .i64 (meetTo a b i).2.1, .int .i64 (meetTo a b i).2.2].setIfInBounds i (.int .i64 (min (comp a i) (comp b i)))) = #[.int .i64 (meetTo a b (i + 1)).1, .int .i64 (meetTo a b (i + 1)).2.1, .int .i64 (meetTo a b (i + 1)).2.2] := by
  have hcase : i = 0 ∨ i = 1 ∨ i = 2 := by omega
  rcases hcase with rfl | rfl | rfl <;> exact ⟨rfl, rfl⟩
set_option maxHeartbeats 2000000 in
theorem Meet_any (a b : Gd) (w : World) : Calls Try.prog 17 #[gdV a, gdV b] w fun e w' => e = .returned (gdV (meetG a b)) ∧ Below w.heap.size w w' := by
  have mixed := mixedOrders
  obtain ⟨p, hp⟩ : ∃ p, w.heap.size = p := ⟨_, rfl⟩
  obtain ⟨W1, hW1⟩ : ∃ W1, (w.alloc (.cells #[.int .i64 a.1, .int .i64 a.2.1, .int .i64 a.2.2] 23)).alloc (.cells #[.int .i64 b.1, .int .i64 b.2.1, .int .i64 b.2.2] 23) = W1 := ⟨_, rfl⟩
  obtain ⟨W2, hW2⟩ : ∃ W2, W1.alloc (.cells #[.int .i64 0, .int .i64 0, .int .i64 0] 23) = W2 := ⟨_, rfl⟩
  obtain ⟨h1, h2, h3⟩ := two_boxes a b w W1 hW1
  have hs1 : W1.heap.size = p + 2 := by rw [← hW1, ← hp]; simp
  have hb2 : Below W1.heap.size W1 W2 := by rw [← hW2]; exact (Below.refl _ _).alloc (Nat.le_refl _) _
  rw [hp] at h2 h3
  have HBL : Hid (Below p w W2) := by have := h1.below.trans (hb2.mono h1.size); rw [hp] at this; exact this
  have HA : Hid (W2.heap[p]? = some (.cells #[.int .i64 a.1, .int .i64 a.2.1, .int .i64 a.2.2] 23 (0, 0))) := (hb2.block p (by omega)).trans h2
  have HB : Hid (W2.heap[p + 1]? = some (.cells #[.int .i64 b.1, .int .i64 b.2.1, .int .i64 b.2.2] 23 (0, 0))) := (hb2.block (p + 1) (by omega)).trans h3
  have HC : Hid (W2.heap[p + 2]? = some (.cells #[.int .i64 0, .int .i64 0, .int .i64 0] 23 (0, 0))) := by show _ = _; rw [← hW2, ← hs1]; exact heap_alloc_new _ _
  have HP := hide hp
  obtain ⟨r, hr⟩ : ∃ r, W1.heap.size = r := ⟨_, rfl⟩
  have HR : Hid (r = p + 2) := by show r = _; omega
  rw [← hs1, hr] at HC
  clear h1 h2 h3 hs1 hb2
  go_enter Try.func17, Try.ntmps17
  go_upto_region 2 with (fail)
  clear hW1 hW2 hp hr
  go_loopw [6] (fun vi wr => ∃ i : Nat, vi = .int .i64 i ∧ i ≤ 3 ∧ Hid (wr.heap[p]? = some (.cells #[.int .i64 (meetTo a b i).1, .int .i64 (meetTo a b i).2.1, .int .i64 (meetTo a b i).2.2] 23 (0, 0))) ∧ Hid (wr.heap[p + 1]? = some (.cells #[.int .i64 b.1, .int .i64 b.2.1, .int .i64 b.2.2] 23 (0, 0))) ∧ Hid (wr.heap[r]? = some (.cells #[.int .i64 0, .int .i64 0, .int .i64 0] 23 (0, 0))) ∧ Hid (Below p w wr)) (fun vi _ => 3 - (intOf vi).toNat)
  case atStart => exact ⟨0, rfl, by decide, HA, HB, HC, HBL⟩
  case round =>
    clear HA HB HC HBL
    obtain ⟨i, rfl, hi, HA, HB, HC, HBL⟩ := hrel
    by_cases hlt : i < 3
    · have hlt' : (i : Int) < 3 := by omega
      have HL := hide hlt
      obtain ⟨t1, t2⟩ := meetTo_at a b hlt
      have c0 := boxc HA.out hlt
      have c1 := boxc HB.out hlt
      have f0 : wr.frozen? ⟨p, i, none⟩ = false := by have := HA.out; simp [World.frozen?, this]
      rw [t1] at c0
      obtain ⟨x, hx⟩ : ∃ x, comp a i = x := ⟨_, rfl⟩
      obtain ⟨y, hy⟩ : ∃ y, comp b i = y := ⟨_, rfl⟩
      rw [hx, hy] at t2
      rw [hx] at c0
      rw [hy] at c1
      have HT := hide t2
      have HI3 : Hid (i + 1 ≤ 3) := hlt
      clear hi hlt t1 t2 hx hy
      go_upto_region 4 with (fail)
      go_region
      (try rw [show (if y < x then y else x) = min x y from by rw [Int.min_def]; split <;> split <;> omega])
      (try rw [show (if x < y then y else x) = max x y from by rw [Int.max_def]; split <;> split <;> omega])
      have HS := set1of3 HA.out i (.int .i64 (min x y))
      rw [HT.out] at HS
      obtain ⟨W5, hW5⟩ : ∃ W5, wr.setCell ⟨p, i, none⟩ (.int .i64 (min x y)) = W5 := ⟨_, rfl⟩
      rw [hW5] at HS ⊢
      have HA5 : Hid (W5.drew.heap[p]? = some (.cells #[.int .i64 (meetTo a b (i + 1)).1, .int .i64 (meetTo a b (i + 1)).2.1, .int .i64 (meetTo a b (i + 1)).2.2] 23 (0, 0))) := HS.1
      have hne := HR.out
      have HB5 : Hid (W5.drew.heap[p + 1]? = some (.cells #[.int .i64 b.1, .int .i64 b.2.1, .int .i64 b.2.2] 23 (0, 0))) := (HS.2.block (p + 1) (Array.getElem?_eq_some_iff.1 HB.out).1 (fun e => by injection e with e; omega)).trans HB.out
      have HC5 : Hid (W5.drew.heap[r]? = some (.cells #[.int .i64 0, .int .i64 0, .int .i64 0] 23 (0, 0))) := (HS.2.block r (Array.getElem?_eq_some_iff.1 HC.out).1 (fun e => by injection e with e; omega)).trans HC.out
      have HL5 : Hid (Below p w W5.drew) := (HBL.out.grown HS.2 (by have := (Array.getElem?_eq_some_iff.1 HA.out).1; omega) (fun k e => by injection e with e; omega)).drew
      clear HS hne c0 c1 f0 hW5
      generalize W5.drew = W6 at *
      go_wp2_with fail
      go_roundw
      case rel => exact ⟨i + 1, by go_num, HI3.out, HA5, HB5, HC5, HL5⟩
      case measure => have := HI3.out; simp [intOf]; omega
    · obtain rfl : i = 3 := by omega
      have hd : ¬ (3 : Int) < 3 := by omega
      clear hi hlt
      obtain ⟨k0, k1, k2⟩ := box3 HA.out
      obtain ⟨z0, z1, z2⟩ := box3 HC.out
      have f0 : ∀ k, wr.frozen? ⟨r, k, none⟩ = false := fun k => by have := HC.out; simp [World.frozen?, this]
      have c0 : wr.cell? ⟨p, 0, none⟩ = some (.int .i64 (min a.1 b.1)) := k0
      have c1 : wr.cell? ⟨p, 1, none⟩ = some (.int .i64 (min a.2.1 b.2.1)) := k1
      have c2 : wr.cell? ⟨p, 2, none⟩ = some (.int .i64 (min a.2.2 b.2.2)) := k2
      clear k0 k1 k2
      obtain ⟨x0, hx0⟩ : ∃ x, min a.1 b.1 = x := ⟨_, rfl⟩
      obtain ⟨x1, hx1⟩ : ∃ x, min a.2.1 b.2.1 = x := ⟨_, rfl⟩
      obtain ⟨x2, hx2⟩ : ∃ x, min a.2.2 b.2.2 = x := ⟨_, rfl⟩
      rw [hx0] at c0
      rw [hx1] at c1
      rw [hx2] at c2
      have HX : Hid (meetG a b = (x0, x1, x2)) := by show (_, _, _) = _; rw [hx0, hx1, hx2]
      clear hx0 hx1 hx2
      go_wp2_with fail
      have HS := hide (set3 HC.out (.int .i64 x0) (.int .i64 x1) (.int .i64 x2))
      obtain ⟨W7, hW7⟩ : ∃ W7, (((wr.setCell ⟨r, 0, none⟩ (.int .i64 x0)).setCell ⟨r, 1, none⟩ (.int .i64 x1)).setCell ⟨r, 2, none⟩ (.int .i64 x2)) = W7 := ⟨_, rfl⟩
      rw [hW7] at HS ⊢
      (try simp only [Exit.inBlock, Exit.then])
      refine bodyPost_ret (results_cell0 rfl rfl (load23 HS.out.1)) rfl ?_
      have hne := HR.out
      refine ⟨by rw [HX.out], ?_⟩
      rw [HP.out]
      exact HBL.out.grown HS.out.2 (by have := (Array.getElem?_eq_some_iff.1 HA.out).1; omega) (fun k e => by injection e with e; omega)

def joinTo (a b : Gd) (i : Nat) : Gd := (if 0 < i then max a.1 b.1 else a.1, if 1 < i then max a.2.1 b.2.1 else a.2.1, if 2 < i then max a.2.2 b.2.2 else a.2.2)
theorem joinTo_at (a b : Gd) {i : Nat} (hi : i < 3) : comp (joinTo a b i) i = comp a i ∧ (#[Value.int .i64 (joinTo a b i).1, .int .i64 (joinTo a b i).2.1, .int .i64 (joinTo a b i).2.2].setIfInBounds i (.int .i64 (max (comp a i) (comp b i)))) = #[.int .i64 (joinTo a b (i + 1)).1, .int .i64 (joinTo a b (i + 1)).2.1, .int .i64 (joinTo a b (i + 1)).2.2] := by
  have hcase : i = 0 ∨ i = 1 ∨ i = 2 := by omega
  rcases hcase with rfl | rfl | rfl <;> exact ⟨rfl, rfl⟩
set_option maxHeartbeats 2000000 in
theorem Join_any (a b : Gd) (w : World) : Calls Try.prog 19 #[gdV a, gdV b] w fun e w' => e = .returned (gdV (joinG a b)) ∧ Below w.heap.size w w' := by
  have mixed := mixedOrders
  obtain ⟨p, hp⟩ : ∃ p, w.heap.size = p := ⟨_, rfl⟩
  obtain ⟨W1, hW1⟩ : ∃ W1, (w.alloc (.cells #[.int .i64 a.1, .int .i64 a.2.1, .int .i64 a.2.2] 23)).alloc (.cells #[.int .i64 b.1, .int .i64 b.2.1, .int .i64 b.2.2] 23) = W1 := ⟨_, rfl⟩
  obtain ⟨W2, hW2⟩ : ∃ W2, W1.alloc (.cells #[.int .i64 0, .int .i64 0, .int .i64 0] 23) = W2 := ⟨_, rfl⟩
  obtain ⟨h1, h2, h3⟩ := two_boxes a b w W1 hW1
  have hs1 : W1.heap.size = p + 2 := by rw [← hW1, ← hp]; simp
  have hb2 : Below W1.heap.size W1 W2 := by rw [← hW2]; exact (Below.refl _ _).alloc (Nat.le_refl _) _
  rw [hp] at h2 h3
  have HBL : Hid (Below p w W2) := by have := h1.below.trans (hb2.mono h1.size); rw [hp] at this; exact this
  have HA : Hid (W2.heap[p]? = some (.cells #[.int .i64 a.1, .int .i64 a.2.1, .int .i64 a.2.2] 23 (0, 0))) := (hb2.block p (by omega)).trans h2
  have HB : Hid (W2.heap[p + 1]? = some (.cells #[.int .i64 b.1, .int .i64 b.2.1, .int .i64 b.2.2] 23 (0, 0))) := (hb2.block (p + 1) (by omega)).trans h3
  have HC : Hid (W2.heap[p + 2]? = some (.cells #[.int .i64 0, .int .i64 0, .int .i64 0] 23 (0, 0))) := by show _ = _; rw [← hW2, ← hs1]; exact heap_alloc_new _ _
  have HP := hide hp
  obtain ⟨r, hr⟩ : ∃ r, W1.heap.size = r := ⟨_, rfl⟩
  have HR : Hid (r = p + 2) := by show r = _; omega
  rw [← hs1, hr] at HC
  clear h1 h2 h3 hs1 hb2
  go_enter Try.func19, Try.ntmps19
  go_upto_region 2 with (fail)
  clear hW1 hW2 hp hr
  go_loopw [6] (fun vi wr => ∃ i : Nat, vi = .int .i64 i ∧ i ≤ 3 ∧ Hid (wr.heap[p]? = some (.cells #[.int .i64 (joinTo a b i).1, .int .i64 (joinTo a b i).2.1, .int .i64 (joinTo a b i).2.2] 23 (0, 0))) ∧ Hid (wr.heap[p + 1]? = some (.cells #[.int .i64 b.1, .int .i64 b.2.1, .int .i64 b.2.2] 23 (0, 0))) ∧ Hid (wr.heap[r]? = some (.cells #[.int .i64 0, .int .i64 0, .int .i64 0] 23 (0, 0))) ∧ Hid (Below p w wr)) (fun vi _ => 3 - (intOf vi).toNat)
  case atStart => exact ⟨0, rfl, by decide, HA, HB, HC, HBL⟩
  case round =>
    clear HA HB HC HBL
    obtain ⟨i, rfl, hi, HA, HB, HC, HBL⟩ := hrel
    by_cases hlt : i < 3
    · have hlt' : (i : Int) < 3 := by omega
      have HL := hide hlt
      obtain ⟨t1, t2⟩ := joinTo_at a b hlt
      have c0 := boxc HA.out hlt
      have c1 := boxc HB.out hlt
      have f0 : wr.frozen? ⟨p, i, none⟩ = false := by have := HA.out; simp [World.frozen?, this]
      rw [t1] at c0
      obtain ⟨x, hx⟩ : ∃ x, comp a i = x := ⟨_, rfl⟩
      obtain ⟨y, hy⟩ : ∃ y, comp b i = y := ⟨_, rfl⟩
      rw [hx, hy] at t2
      rw [hx] at c0
      rw [hy] at c1
      have HT := hide t2
      have HI3 : Hid (i + 1 ≤ 3) := hlt
      clear hi hlt t1 t2 hx hy
      go_upto_region 4 with (fail)
      go_region
      (try rw [show (if y < x then y else x) = min x y from by rw [Int.min_def]; split <;> split <;> omega])
      (try rw [show (if x < y then y else x) = max x y from by rw [Int.max_def]; split <;> split <;> omega])
      have HS := set1of3 HA.out i (.int .i64 (max x y))
      rw [HT.out] at HS
      obtain ⟨W5, hW5⟩ : ∃ W5, wr.setCell ⟨p, i, none⟩ (.int .i64 (max x y)) = W5 := ⟨_, rfl⟩
      rw [hW5] at HS ⊢
      have HA5 : Hid (W5.drew.heap[p]? = some (.cells #[.int .i64 (joinTo a b (i + 1)).1, .int .i64 (joinTo a b (i + 1)).2.1, .int .i64 (joinTo a b (i + 1)).2.2] 23 (0, 0))) := HS.1
      have hne := HR.out
      have HB5 : Hid (W5.drew.heap[p + 1]? = some (.cells #[.int .i64 b.1, .int .i64 b.2.1, .int .i64 b.2.2] 23 (0, 0))) := (HS.2.block (p + 1) (Array.getElem?_eq_some_iff.1 HB.out).1 (fun e => by injection e with e; omega)).trans HB.out
      have HC5 : Hid (W5.drew.heap[r]? = some (.cells #[.int .i64 0, .int .i64 0, .int .i64 0] 23 (0, 0))) := (HS.2.block r (Array.getElem?_eq_some_iff.1 HC.out).1 (fun e => by injection e with e; omega)).trans HC.out
      have HL5 : Hid (Below p w W5.drew) := (HBL.out.grown HS.2 (by have := (Array.getElem?_eq_some_iff.1 HA.out).1; omega) (fun k e => by injection e with e; omega)).drew
      clear HS hne c0 c1 f0 hW5
      generalize W5.drew = W6 at *
      go_wp2_with fail
      go_roundw
      case rel => exact ⟨i + 1, by go_num, HI3.out, HA5, HB5, HC5, HL5⟩
      case measure => have := HI3.out; simp [intOf]; omega
    · obtain rfl : i = 3 := by omega
      have hd : ¬ (3 : Int) < 3 := by omega
      clear hi hlt
      obtain ⟨k0, k1, k2⟩ := box3 HA.out
      obtain ⟨z0, z1, z2⟩ := box3 HC.out
      have f0 : ∀ k, wr.frozen? ⟨r, k, none⟩ = false := fun k => by have := HC.out; simp [World.frozen?, this]
      have c0 : wr.cell? ⟨p, 0, none⟩ = some (.int .i64 (max a.1 b.1)) := k0
      have c1 : wr.cell? ⟨p, 1, none⟩ = some (.int .i64 (max a.2.1 b.2.1)) := k1
      have c2 : wr.cell? ⟨p, 2, none⟩ = some (.int .i64 (max a.2.2 b.2.2)) := k2
      clear k0 k1 k2
      obtain ⟨x0, hx0⟩ : ∃ x, max a.1 b.1 = x := ⟨_, rfl⟩
      obtain ⟨x1, hx1⟩ : ∃ x, max a.2.1 b.2.1 = x := ⟨_, rfl⟩
      obtain ⟨x2, hx2⟩ : ∃ x, max a.2.2 b.2.2 = x := ⟨_, rfl⟩
      rw [hx0] at c0
      rw [hx1] at c1
      rw [hx2] at c2
      have HX : Hid (joinG a b = (x0, x1, x2)) := by show (_, _, _) = _; rw [hx0, hx1, hx2]
      clear hx0 hx1 hx2
      go_wp2_with fail
      have HS := hide (set3 HC.out (.int .i64 x0) (.int .i64 x1) (.int .i64 x2))
      obtain ⟨W7, hW7⟩ : ∃ W7, (((wr.setCell ⟨r, 0, none⟩ (.int .i64 x0)).setCell ⟨r, 1, none⟩ (.int .i64 x1)).setCell ⟨r, 2, none⟩ (.int .i64 x2)) = W7 := ⟨_, rfl⟩
      rw [hW7] at HS ⊢
      (try simp only [Exit.inBlock, Exit.then])
      refine bodyPost_ret (results_cell0 rfl rfl (load23 HS.out.1)) rfl ?_
      have hne := HR.out
      refine ⟨by rw [HX.out], ?_⟩
      rw [HP.out]
      exact HBL.out.grown HS.out.2 (by have := (Array.getElem?_eq_some_iff.1 HA.out).1; omega) (fun k e => by injection e with e; omega)
end Go.Proofs.Ytpbenjpponbjjaa
