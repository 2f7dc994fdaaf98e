/- Below, Meet, Join of grades; the specification's. -/
import Derived.Test.YtpbenjpponbjjaaGA
namespace Go.Proofs.Ytpbenjpponbjjaa
open Go.RowKit Go.Sort Go.BigFrame
theorem two_boxes (a b : Gd) (w : World) : ∀ W1, (w.alloc (.cells #[.int .i64 a.1, .int .i64 a.2.1, .int .i64 a.2.2] 23)).alloc (.cells #[.int .i64 b.1, .int .i64 b.2.1, .int .i64 b.2.2] 23) = W1 →
    Gr w W1 ∧ W1.heap[w.heap.size]? = some (.cells #[.int .i64 a.1, .int .i64 a.2.1, .int .i64 a.2.2] 23 (0, 0)) ∧ W1.heap[w.heap.size + 1]? = some (.cells #[.int .i64 b.1, .int .i64 b.2.1, .int .i64 b.2.2] 23 (0, 0)) := by
  rintro W1 rfl
  refine ⟨((Gr.refl w).alloc _).alloc _, ?_, ?_⟩
  · rw [heap_alloc_old _ _ (by simp)]
    exact heap_alloc_new _ _
  · have e : (w.alloc (.cells #[.int .i64 a.1, .int .i64 a.2.1, .int .i64 a.2.2] 23)).heap.size = w.heap.size + 1 := World.size_alloc _ _
    rw [← e]
    exact heap_alloc_new _ _
set_option maxHeartbeats 1000000 in
theorem Below_any (a b : Gd) (w : World) : Calls Try.prog 15 #[gdV a, gdV b] w fun e w' => e = .returned (.bool (belowG a b)) ∧ Gr w w' := by
  have mixed := mixedOrders
  obtain ⟨p, hp⟩ : ∃ p, w.heap.size = p := ⟨_, rfl⟩
  obtain ⟨W1, hW1⟩ : ∃ W1, (w.alloc (.cells #[.int .i64 a.1, .int .i64 a.2.1, .int .i64 a.2.2] 23)).alloc (.cells #[.int .i64 b.1, .int .i64 b.2.1, .int .i64 b.2.2] 23) = W1 := ⟨_, rfl⟩
  obtain ⟨h1, h2, h3⟩ := two_boxes a b w W1 hW1
  rw [hp] at h2 h3
  have HG := hide h1
  have HA := hide h2
  have HB := hide h3
  clear h1 h2 h3
  go_enter Try.func15, Try.ntmps15
  go_upto_region 2 with (fail)
  clear hW1 hp
  go_loopw [6] (fun vi wr => ∃ i : Nat, vi = .int .i64 i ∧ i ≤ 3 ∧ Hid (∀ j, j < i → comp a j ≤ comp b j) ∧ Hid (Gr W1 wr)) (fun vi _ => 3 - (intOf vi).toNat)
  case atStart => exact ⟨0, rfl, by decide, fun j hj => absurd hj (Nat.not_lt_zero _), Gr.refl _⟩
  case round =>
    obtain ⟨i, rfl, hi, HI, HGr⟩ := hrel
    by_cases hlt : i < 3
    · have hlt' : (i : Int) < 3 := by omega
      have HL := hide hlt
      have pl : p < wr.heap.size ∧ p + 1 < wr.heap.size := by
        have h1 := HGr.out.size
        have h2 := (Array.getElem?_eq_some_iff.1 HA.out).1
        have h3 := (Array.getElem?_eq_some_iff.1 HB.out).1
        exact ⟨by omega, by omega⟩
      obtain ⟨x, hx⟩ : ∃ x, comp a i = x := ⟨_, rfl⟩
      obtain ⟨y, hy⟩ : ∃ y, comp b i = y := ⟨_, rfl⟩
      have C1 : ∀ nq, (wr.drewN nq).cell? ⟨p, i, none⟩ = some (.int .i64 x) := fun nq => by
        rw [← hx, ← boxc HA.out hlt]
        exact (HGr.out.drewN nq).cell (p := ⟨p, i, none⟩) (Array.getElem?_eq_some_iff.1 HA.out).1
      have C2 : ∀ nq, (wr.drewN nq).cell? ⟨p + 1, i, none⟩ = some (.int .i64 y) := fun nq => by
        rw [← hy, ← boxc HB.out hlt]
        exact (HGr.out.drewN nq).cell (p := ⟨p + 1, i, none⟩) (Array.getElem?_eq_some_iff.1 HB.out).1
      have HXY : Hid (comp a i = x ∧ comp b i = y) := ⟨hx, hy⟩
      clear hx hy hi hlt pl
      by_cases hxy : y < x
      · have hq : ¬ x ≤ y := by omega
        have HF : Hid (belowG a b = false) := by
          cases h : belowG a b
          · rfl
          · exact absurd (belowG_iff.1 h i HL.out) (by rw [HXY.out.1, HXY.out.2]; exact hq)
        go_upto_region 4 with (fail)
        go_quiet (fail)
        obtain ⟨W4, hW4⟩ : ∃ W4, wr.drewN nq = W4 := ⟨_, rfl⟩
        have HG4 : Hid (Gr w W4) := by show Gr _ _; rw [← hW4]; exact HG.out.trans (HGr.out.drewN nq)
        rw [hW4]
        clear hW4 C1 C2
        go_wp2_with fail
        go_ret
        exact ⟨by rw [HF.out]; rfl, HG4.out⟩
      · have hq : x ≤ y := by omega
        have HIN : Hid (∀ j, j < i + 1 → comp a j ≤ comp b j) := fun j hj => by
          rcases Nat.lt_or_ge j i with q | q
          · exact HI.out j q
          · obtain rfl : j = i := by omega
            rw [HXY.out.1, HXY.out.2]
            exact hq
        have HI3 : Hid (i + 1 ≤ 3) := HL.out
        go_upto_region 4 with (fail)
        go_quiet (fail)
        obtain ⟨W4, hW4⟩ : ∃ W4, wr.drewN nq = W4 := ⟨_, rfl⟩
        have HG4 : Hid (Gr W1 W4) := by show Gr _ _; rw [← hW4]; exact HGr.out.drewN nq
        rw [hW4]
        clear hW4 C1 C2
        go_wp2_with fail
        go_roundw
        case rel => exact ⟨i + 1, by go_num, HI3.out, HIN, HG4⟩
        case measure => have := HI3.out; simp [intOf]; omega
    · obtain rfl : i = 3 := by omega
      have hd : ¬ (3 : Int) < 3 := by omega
      have HT : Hid (belowG a b = true) := belowG_iff.2 HI.out
      clear hi hlt
      go_wp2_with fail
      go_ret
      exact ⟨by rw [HT.out]; rfl, HG.out.trans HGr.out⟩
end Go.Proofs.Ytpbenjpponbjjaa
