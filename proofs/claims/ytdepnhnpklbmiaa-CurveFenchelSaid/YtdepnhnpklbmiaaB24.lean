/- Contracts of the specification's Greatest, and of the law's greatest. -/
import Derived.Test.YtdepnhnpklbmiaaB23
namespace Go.Proofs.Ytdepnhnpklbmiaa
open Go.RowKit Go.Sort

/-- the greatest over the first j numbers -/
def gB (c : Cu) (p : Int) : Nat → Int
  | 0 => p * c.fr - c.fst
  | j + 1 => max (gB c p j) (p * (c.fr + j) - valK c j)
theorem gB_le {c : Cu} {p : Int} : ∀ j, j ≤ c.sl.length + 1 → gB c p j ≤ gre c p
  | 0, _ => by
    have := gre_ge c p (k := 0) (Nat.zero_le _)
    have e : p * (c.fr + ((0 : Nat) : Int)) = p * c.fr := by rw [show c.fr + ((0 : Nat) : Int) = c.fr by omega]
    rw [e] at this
    exact this
  | j + 1, h => by
    have h1 := gB_le (c := c) (p := p) j (by omega)
    have h2 := gre_ge c p (k := j) (by omega)
    show max _ _ ≤ _
    omega
theorem gB_ge {c : Cu} {p : Int} : ∀ j i, i < j → p * (c.fr + i) - valK c i ≤ gB c p j
  | 0, _, h => absurd h (Nat.not_lt_zero _)
  | j + 1, i, h => by
    show _ ≤ max _ _
    rcases Nat.lt_or_ge i j with h1 | h1
    · have := gB_ge (c := c) (p := p) j i h1
      omega
    · obtain rfl : i = j := by omega
      omega
theorem gB_gre {c : Cu} (h : okC c = true) (p : Int) : gB c p (c.sl.length + 1) = gre c p := by
  have h1 := gB_le (c := c) (p := p) (c.sl.length + 1) (Nat.le_refl _)
  have h2 := gB_ge (c := c) (p := p) (c.sl.length + 1) (climK c p) (by have := climK_le c p; omega)
  rw [gre_clim (ok_asc h)] at h2
  omega

set_option maxHeartbeats 4000000 in
set_option maxRecDepth 100000 in
theorem Greatest_any (c : Cu) (A : Option Addr) (m cap : Nat) (p : Int) (w : World) (hc : okC c = true) (hm : m = c.sl.length + 1) (hx : IntsAt w.heap.size w A m (vals c m)) (hp : -1073741824 ≤ p ∧ p ≤ 1073741824) :
    Calls Try.prog 70 #[.agg #[.int .i64 c.fr, .slice A m cap], .int .i64 p] w fun e w' => e = .returned (.int .i64 (gre c p)) ∧ Gr w w' := by
  have mixed := mixedOrders
  obtain ⟨q, hq⟩ : ∃ q, w.heap.size = q := ⟨_, rfl⟩
  have hfr := okC_fr hc
  have hlen := okC_len hc
  obtain ⟨f, hf⟩ : ∃ f, c.fr = f := ⟨_, rfl⟩
  rw [hf]
  obtain ⟨W1, hW1⟩ : ∃ W1, w.alloc (.cells #[.int .i64 f, .slice A m cap] 64) = W1 := ⟨_, rfl⟩
  have hG1 : Gr w W1 := by rw [← hW1]; exact (Gr.refl w).alloc _
  have hb1 : W1.heap[q]? = some (.cells #[.int .i64 f, .slice A m cap] 64 (0, 0)) := by rw [← hW1, ← hq]; exact heap_alloc_new w _
  have HX1 := hide (hx.gr hG1)
  obtain ⟨b, off, rfl, hb, c0⟩ := HX1.out.at_ (k := 0) (by omega)
  rw [vals_at (by omega)] at c0
  have HB1 := hide hb1
  have HG1 := hide hG1
  have E0 : ∀ nq, (W1.drewN nq).cell? ⟨q, 0, none⟩ = some (.int .i64 f) := fun nq => by
    have := cell_of_heap' hb1 0
    simp at this
    exact this
  have E1 : ∀ nq, (W1.drewN nq).cell? ⟨q, 1, none⟩ = some (.slice (some ⟨b, off, none⟩) m cap) := fun nq => by
    have := cell_of_heap' hb1 1
    simp at this
    exact this
  have E2 : ∀ nq, (W1.drewN nq).cell? ⟨b, off + 0, none⟩ = some (.int .i64 c.fst) := fun nq => c0
  simp only [Nat.add_zero] at E2
  have hm0 : (0 : Int) < (m : Int) := by omega
  have hfs := inB_true (okC_true hc).2.1
  obtain ⟨s, hs⟩ : ∃ s, c.fst = s := ⟨_, rfl⟩
  rw [hs] at E2 hfs
  have hmb := mul_bound (a := p) (b := f) (M := 1073741824) (N := 2097152) (by omega) (by omega)
  obtain ⟨pf, hpf⟩ : ∃ z, p * f = z := ⟨_, rfl⟩
  rw [hpf] at hmb
  have hw1 : IntKind.i64.wrap (p * f) = pf := by rw [hpf, IntKind.wrap_i64]; omega
  obtain ⟨b0, hb0⟩ : ∃ z, pf - s = z := ⟨_, rfl⟩
  have hw2 : IntKind.i64.wrap (pf - s) = b0 := by rw [IntKind.wrap_i64]; omega
  have HG0 : Hid (gB c p 0 = b0) := by show p * c.fr - c.fst = b0; rw [hf, hs, hpf, hb0]
  have HGS : Hid (∀ j : Nat, gB c p (j + 1) = max (gB c p j) (p * (f + j) - valK c j)) := fun j => by rw [← hf]; rfl
  have HGE : Hid (gB c p m = gre c p) := by show _ = _; rw [hm]; exact gB_gre hc p
  have HV : Hid (∀ j, j < m → -1125899906842624 ≤ valK c j ∧ valK c j ≤ 1125899906842624) := fun j hj => okC_val hc (by omega)
  have HR := hide (show (-1048576 ≤ f ∧ f ≤ 1048576) ∧ m ≤ 65 ∧ (-1073741824 ≤ p ∧ p ≤ 1073741824) from ⟨by omega, by omega, hp⟩)
  have HT := hide (fun W' => To_any f (some ⟨b, off, none⟩) m cap W' (by omega) (by omega))
  have HVA := hide (fun W' (hg : Gr W1 W') (j : Nat) (hj : j < m) => Value_any f (f + j) (some ⟨b, off, none⟩) m cap j (vals c m) W' (HX1.out.gr hg) (by omega) hj (by omega) rfl)
  clear hx hfr hlen hf hb1 hG1 c0 hfs hs hmb hpf hb0 hp hm hb
  go_enter Try.func70, Try.ntmps70
  go_wp2_with fail
  try rw [hq]
  go_quiet (fail)
  have E3 := E0 nq
  have E4 := E1 nq
  have hG2 : Gr W1 (W1.drewN nq) := (Gr.refl W1).drewN nq
  have HG2 := hide hG2
  generalize W1.drewN nq = W2 at E3 E4 HG2 ⊢
  clear E0 E1 E2 hG2
  go_wp2_with fail
  go_loopw [5, 6] (fun vb vx wr => ∃ (j : Nat) , j ≤ m ∧ vb = .int .i64 (gB c p j) ∧ vx = .int .i64 (f + j) ∧ Hid (Gr W1 wr)) (fun _ vx _ => (f + m - intOf vx).toNat)
  case atStart => exact ⟨0, Nat.zero_le _, by rw [HG0.out], by congr 1; omega, HG2⟩
  case round =>
    obtain ⟨j, hj, rfl, rfl, HGr⟩ := hrel
    obtain ⟨hfr, hm65, hpr⟩ := HR.out
    obtain ⟨x, hx⟩ : ∃ x, f + (j : Int) = x := ⟨_, rfl⟩
    rw [hx]
    obtain ⟨t, ht⟩ : ∃ t, f + (m : Int) - 1 = t := ⟨_, rfl⟩
    rw [ht] at HT
    have hbr := (HGr.out.block (k := q) (Array.getElem?_eq_some_iff.1 HB1.out).1).trans HB1.out
    have d0 := cell_of_heap' hbr 0
    have d1 := cell_of_heap' hbr 1
    simp at d0 d1
    have HBR := hide hbr
    by_cases hlt : j < m
    · have hle : x ≤ t := by omega
      have hd : decide (x ≤ t) = true := decide_eq_true hle
      have hvr := HV.out j hlt
      have HVJ := hide (fun W' (hg : Gr W1 W') => HVA.out W' hg j hlt)
      rw [hx, vals_at hlt] at HVJ
      have hgs := HGS.out j
      rw [hx] at hgs
      obtain ⟨v, hv⟩ : ∃ v, valK c j = v := ⟨_, rfl⟩
      rw [hv] at HVJ hvr hgs
      have hmb := mul_bound (a := p) (b := x) (M := 1073741824) (N := 2097152) (by omega) (by omega)
      obtain ⟨px, hpx⟩ : ∃ z, p * x = z := ⟨_, rfl⟩
      rw [hpx] at hmb hgs
      have hw3 : IntKind.i64.wrap (p * x) = px := by rw [hpx, IntKind.wrap_i64]; omega
      obtain ⟨pm, hpm⟩ : ∃ z, px - v = z := ⟨_, rfl⟩
      have hw4 : IntKind.i64.wrap (px - v) = pm := by rw [IntKind.wrap_i64]; omega
      rw [hpm] at hgs
      obtain ⟨gj, hgj⟩ : ∃ z, gB c p j = z := ⟨_, rfl⟩
      rw [hgj] at hgs ⊢
      obtain ⟨gn, hgn⟩ : ∃ z, max gj pm = z := ⟨_, rfl⟩
      have HGN : Hid (gB c p (j + 1) = gn) := by show _ = _; rw [hgs, hgn]
      have hwx : IntKind.i64.wrap (x + 1) = x + 1 := by rw [IntKind.wrap_i64]; omega
      have e1 : x + 1 = f + ((j + 1 : Nat) : Int) := by omega
      have HE1 := hide e1
      clear hgs hgj hpm hpx hmb hvr hv e1 hx ht hbr hfr hm65 hpr
      go_wp2_with fail
      refine (HT.out _).mono ?_
      rintro e w3 ⟨rfl, hG3⟩
      have HG3 := hide (HGr.out.trans hG3)
      have hb3 := (hG3.block (k := q) (Array.getElem?_eq_some_iff.1 HBR.out).1).trans HBR.out
      have HV3 := hide (HVJ.out w3 HG3.out)
      clear d0 d1 hG3
      have d0 := cell_of_heap' hb3 0
      have d1 := cell_of_heap' hb3 1
      simp at d0 d1
      clear hb3
      go_wp2_with fail
      refine HV3.out.mono ?_
      rintro e w4 ⟨rfl, hG4⟩
      have HG4 := hide (HG3.out.trans hG4)
      clear hG4 d0 d1
      go_wp2_with fail
      obtain ⟨hfr, hm65, hpr⟩ := HR.out
      go_roundw
      case rel => exact ⟨j + 1, by omega, by rw [HGN.out], by rw [← HE1.out], HG4⟩
      case measure => simp [intOf]; have := HE1.out; omega
    · obtain rfl : j = m := by omega
      have hgt : ¬ (x ≤ t) := by omega
      have hd : decide (x ≤ t) = false := decide_eq_false hgt
      obtain ⟨gg, hgg⟩ : ∃ z, gre c p = z := ⟨_, rfl⟩
      rw [HGE.out, hgg]
      have HGG := hide hgg
      clear hgg
      clear hx ht hbr hfr hm65 hpr HGE HGS HG0
      go_wp2_with fail
      refine (HT.out _).mono ?_
      rintro e w3 ⟨rfl, hG3⟩
      have HG3 := hide (HG1.out.trans (HGr.out.trans hG3))
      clear hG3
      go_wp2_with fail
      go_ret
      exact ⟨by first | rfl | exact ret_int HGG.out.symm | (rw [HGG.out] <;> rfl), HG3.out⟩

set_option maxHeartbeats 2000000 in
set_option maxRecDepth 100000 in
theorem greatest_any (c : Cu) (A : Option Addr) (n cap : Nat) (p : Int) (w : World) (hc : okC c = true) (hx : CuAt w.heap.size w c A n cap) (hp : -1073741824 ≤ p ∧ p ≤ 1073741824) :
    Calls Try.prog 47 #[.agg #[.int .i64 c.fr, .int .i64 c.fst, .slice A n cap], .int .i64 p] w fun e w' => e = .returned (.int .i64 (gre c p)) ∧ Below w.heap.size w w' := by
  have mixed := mixedOrders
  obtain ⟨W1, hW1⟩ : ∃ W1, w.alloc (.cells #[.int .i64 c.fr, .int .i64 c.fst, .slice A n cap] 24) = W1 := ⟨_, rfl⟩
  obtain ⟨q, hq⟩ : ∃ q, w.heap.size = q := ⟨_, rfl⟩
  have hG1 : Gr w W1 := by rw [← hW1]; exact (Gr.refl w).alloc _
  have ua : W1.heap[q]? = some (.cells #[.int .i64 c.fr, .int .i64 c.fst, .slice A n cap] 24 (0, 0)) := by rw [← hW1, ← hq]; exact heap_alloc_new w _
  have HO := hide (Out_any c A n cap W1 hc (hx.gr hG1))
  have HG1 := hide hG1
  have a0 := cell_of_heap' ua 0
  have a1 := cell_of_heap' ua 1
  have a2 := cell_of_heap' ua 2
  simp at a0 a1 a2
  have HGG := hide (fun A' cap' W' (h : IntsAt W'.heap.size W' A' (c.sl.length + 1) (vals c (c.sl.length + 1))) => Greatest_any c A' (c.sl.length + 1) cap' p W' hc rfl h hp)
  obtain ⟨m, hm⟩ : ∃ m, c.sl.length + 1 = m := ⟨_, rfl⟩
  unfold OutPost at HO
  rw [hm] at HO HGG
  clear ua hx hG1 hp hm
  go_enter Try.func47, Try.ntmps47
  go_wp2_with fail
  try rw [hq]
  refine HO.out.mono ?_
  rintro e w2 ⟨A2, cap2, rfl, ho2, hb2⟩
  have HB2 := hide (HG1.out.below.trans (hb2.mono HG1.out.size))
  have HG3 := hide (HGG.out A2 cap2 w2 (ints_of_own ho2))
  clear ho2 hb2 HO a0 a1 a2
  go_wp2_with fail
  refine HG3.out.mono ?_
  rintro e w3 ⟨rfl, hG3⟩
  have HB3 := hide (HB2.out.trans (hG3.below.mono HB2.out.size))
  clear hG3
  go_wp2_with fail
  go_ret
  exact ⟨rfl, HB3.out⟩

end Go.Proofs.Ytdepnhnpklbmiaa
