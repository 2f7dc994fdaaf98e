/- Grades in memory; over, valid. -/
import Derived.Test.YtpbenjpponbjjaaGD
namespace Go.Proofs.Ytpbenjpponbjjaa
open Go.RowKit Go.Sort Go.BigFrame
def gA (l : List Gd) (i : Nat) : Gd := l.getD i (0, 0, 0)
/-- grades in memory -/
structure GdAt (B : Nat) (W : World) (A : Option Addr) (n : Nat) (l : List Gd) : Prop where
  len : l.length = n
  row : n = 0 ∨ ∃ b off, A = some ⟨b, off, none⟩ ∧ b < B ∧ ∀ i, i < n → W.cell? ⟨b, off + i * 3, none⟩ = some (.int .i64 (gA l i).1) ∧ W.cell? ⟨b, off + i * 3 + 1, none⟩ = some (.int .i64 (gA l i).2.1) ∧ W.cell? ⟨b, off + i * 3 + 2, none⟩ = some (.int .i64 (gA l i).2.2)
theorem GdAt.now {B : Nat} {W W' : World} {A : Option Addr} {n : Nat} {l : List Gd} (h : GdAt B W A n l) (hb : Below B W W') (hB : B ≤ W.heap.size) : GdAt W'.heap.size W' A n l :=
  ⟨h.len, h.row.imp id fun ⟨b, off, e, h1, h2⟩ => ⟨b, off, e, by have := hb.size; omega, fun i hi => ⟨(hb.cell (p := ⟨b, _, none⟩) h1).trans (h2 i hi).1, (hb.cell (p := ⟨b, _, none⟩) h1).trans (h2 i hi).2.1, (hb.cell (p := ⟨b, _, none⟩) h1).trans (h2 i hi).2.2⟩⟩⟩
theorem GdAt.at_ {B : Nat} {W : World} {A : Option Addr} {n : Nat} {l : List Gd} (h : GdAt B W A n l) {i : Nat} (hi : i < n) :
    ∃ b off, A = some ⟨b, off, none⟩ ∧ b < B ∧ W.cell? ⟨b, off + i * 3, none⟩ = some (.int .i64 (gA l i).1) ∧ W.cell? ⟨b, off + i * 3 + 1, none⟩ = some (.int .i64 (gA l i).2.1) ∧ W.cell? ⟨b, off + i * 3 + 2, none⟩ = some (.int .i64 (gA l i).2.2) := by
  rcases h.row with h0 | ⟨b, off, e, h1, h2⟩
  · omega
  · exact ⟨b, off, e, h1, h2 i hi⟩
theorem gA_mem {l : List Gd} {i : Nat} (hi : i < l.length) : gA l i ∈ l := by
  unfold gA
  rw [List.getD_eq_getElem?_getD, List.getElem?_eq_getElem hi]
  exact List.getElem_mem _
theorem gA_get {l : List Gd} {i : Nat} (hi : i < l.length) : l[i]? = some (gA l i) := by
  unfold gA
  rw [List.getD_eq_getElem?_getD, List.getElem?_eq_getElem hi]
  rfl
theorem any_yes {p : Gd → Bool} {l : List Gd} {i : Nat} (hi : i < l.length) (h : p (gA l i) = true) : l.any p = true := List.any_eq_true.2 ⟨_, gA_mem hi, h⟩
theorem any_no {p : Gd → Bool} {l : List Gd} (h : ∀ i, i < l.length → p (gA l i) = false) : l.any p = false := by
  rw [List.any_eq_false]
  intro x hx
  obtain ⟨i, hi, rfl⟩ := List.getElem_of_mem hx
  have := h i hi
  unfold gA at this
  rw [List.getD_eq_getElem?_getD, List.getElem?_eq_getElem hi] at this
  simpa using this
set_option maxHeartbeats 2000000 in
/-- slices.IndexFunc of grades with a closure of one bound cell -/
theorem gIndexFunc_any (fn : Nat) (A : Option Addr) (n c : Nat) (l : List Gd) (w : World) (hx : GdAt w.heap.size w A n l) (hn : n ≤ 1000000) (x : Value) (p : Gd → Bool) (hent : ∀ args w, (callFunc fn args).run Try.prog w = .ok (.enter fn args) w)
    (hcb : ∀ i, i < n → ∀ w1, Below w.heap.size w w1 → Calls Try.prog fn #[gdV (gA l i), x] w1 fun e w' => e = .returned (.bool (p (gA l i))) ∧ Below w1.heap.size w1 w') :
    Calls Try.prog 115 #[.slice A n c, .func (.func fn) #[] #[x]] w fun e w' => ∃ k : Int, e = .returned (.int .i64 k) ∧ decide (0 ≤ k) = l.any p ∧ Below w.heap.size w w' := by
  have mixed := mixedOrders
  have HX := hide hx
  have HN := hide hn
  have HLEN := hide hx.len
  have HCB := hide hcb
  clear hx hn hcb
  go_enter Try.func115, Try.ntmps115
  go_wp2_with fail
  go_loopw [8] (fun vi wr => ∃ i : Nat, vi = .int .i64 i ∧ i ≤ n ∧ Hid (∀ j, j < i → p (gA l j) = false) ∧ Hid (Below w.heap.size w wr)) (fun vi _ => n - (intOf vi).toNat)
  case atStart => exact ⟨0, rfl, Nat.zero_le _, fun j hj => absurd hj (Nat.not_lt_zero _), Below.refl _ _⟩
  case round =>
    obtain ⟨i, rfl, hi, HI, HG⟩ := hrel
    by_cases hlt : i < n
    · have hlt' : (i : Int) < (n : Int) := by omega
      obtain ⟨b, off, rfl, hb, c0, c1, c2⟩ := HX.out.at_ hlt
      have d0 := (HG.out.cell (p := ⟨b, off + i * 3, none⟩) hb).trans c0
      have d1 := (HG.out.cell (p := ⟨b, off + i * 3 + 1, none⟩) hb).trans c1
      have d2 := (HG.out.cell (p := ⟨b, off + i * 3 + 2, none⟩) hb).trans c2
      have HC := hide (HCB.out i hlt wr HG.out)
      have hN := HN.out
      have HS : Hid (p (gA l i) = false → ∀ j, j < i + 1 → p (gA l j) = false) := fun h j hj => by
        rcases Nat.lt_or_ge j i with q | q
        · exact HI.out j q
        · obtain rfl : j = i := by omega
          exact h
      have HR : Hid (p (gA l i) = true → l.any p = true) := fun h => any_yes (by rw [HLEN.out]; exact hlt) h
      obtain ⟨q, hq⟩ : ∃ q, p (gA l i) = q := ⟨_, rfl⟩
      rw [hq] at HC HS HR
      have HQ := hide (show i + 1 ≤ n by omega)
      clear c0 c1 c2 hi hlt hq
      generalize gA l i = o at d0 d1 d2 HC
      obtain ⟨o1, o2, o3⟩ := o
      have d0 : wr.cell? ⟨b, off + i * 3, none⟩ = some (.int .i64 o1) := d0
      have d1 : wr.cell? ⟨b, off + i * 3 + 1, none⟩ = some (.int .i64 o2) := d1
      have d2 : wr.cell? ⟨b, off + i * 3 + 2, none⟩ = some (.int .i64 o3) := d2
      have HC : Hid (Calls Try.prog fn #[.agg #[.int .i64 o1, .int .i64 o2, .int .i64 o3], x] wr fun e w' => e = .returned (.bool q) ∧ Below wr.heap.size wr w') := HC
      go_wp2_with fail
      refine HC.out.mono ?_
      rintro e w1 ⟨rfl, hg⟩
      have HG1 := hide (bel_next HG.out hg)
      clear hg d0 d1 d2 HC
      cases q
      · have HS2 := hide (HS.out rfl)
        go_wp2_with fail
        go_roundw
        case rel => exact ⟨i + 1, by go_num, HQ.out, HS2, HG1⟩
        case measure => have := HQ.out; simp [intOf]; omega
      · have HR2 := hide (HR.out rfl)
        go_wp2_with fail
        go_ret
        exact ⟨i, rfl, by rw [HR2.out]; exact decide_eq_true (by omega), HG1.out⟩
    · obtain rfl : i = n := by omega
      have hd : ¬ (i : Int) < (i : Int) := by omega
      have HF := hide (any_no (p := p) (l := l) (by rw [HLEN.out]; exact HI.out))
      clear hi hlt
      go_wp2_with fail
      go_ret
      exact ⟨-1, rfl, by rw [HF.out]; decide, HG.out⟩
theorem gContainsFunc_any (fn : Nat) (A : Option Addr) (n c : Nat) (l : List Gd) (w : World) (hx : GdAt w.heap.size w A n l) (hn : n ≤ 1000000) (x : Value) (p : Gd → Bool) (hent : ∀ args w, (callFunc fn args).run Try.prog w = .ok (.enter fn args) w)
    (hcb : ∀ i, i < n → ∀ w1, Below w.heap.size w w1 → Calls Try.prog fn #[gdV (gA l i), x] w1 fun e w' => e = .returned (.bool (p (gA l i))) ∧ Below w1.heap.size w1 w') :
    Calls Try.prog 102 #[.slice A n c, .func (.func fn) #[] #[x]] w fun e w' => e = .returned (.bool (l.any p)) ∧ Below w.heap.size w w' := by
  have HI := hide (gIndexFunc_any fn A n c l w hx hn x p hent hcb)
  obtain ⟨q, hq⟩ : ∃ q, l.any p = q := ⟨_, rfl⟩
  rw [hq] at HI ⊢
  clear hx hn hcb hq hent
  go_enter Try.func102, Try.ntmps102
  go_wp2_with fail
  refine HI.out.mono ?_
  rintro e w1 ⟨k, rfl, hk, hb⟩
  have HB := hide hb
  subst hk
  clear hb HI
  go_wp2_with fail
  go_ret
  exact ⟨rfl, HB.out⟩
/-- the closures of over, under: one bound cell, a grade -/
theorem overC_any (g h : Gd) (b : Nat) (w : World) (hb : w.heap[b]? = some (.cells #[.int .i64 g.1, .int .i64 g.2.1, .int .i64 g.2.2] 23 (0, 0))) : Calls Try.prog 103 #[gdV h, .pointer (some ⟨b, 0, none⟩)] w fun e w' => e = .returned (.bool (belowG h g)) ∧ Below w.heap.size w w' := by
  have HB := hide (fun w1 => Below_any h g w1)
  obtain ⟨p, hp⟩ : ∃ p, w.heap.size = p := ⟨_, rfl⟩
  obtain ⟨W1, hW1⟩ : ∃ W1, w.alloc (.cells #[.int .i64 h.1, .int .i64 h.2.1, .int .i64 h.2.2] 23) = W1 := ⟨_, rfl⟩
  have hg : Gr w W1 := by rw [← hW1]; exact (Gr.refl w).alloc _
  have h1 : W1.heap[p]? = some (.cells #[.int .i64 h.1, .int .i64 h.2.1, .int .i64 h.2.2] 23 (0, 0)) := by rw [← hW1, ← hp]; exact heap_alloc_new _ _
  have h2 := (hg.block (Array.getElem?_eq_some_iff.1 hb).1).trans hb
  obtain ⟨x0, x1, x2⟩ := box3 h1
  obtain ⟨y0, y1, y2⟩ := box3 h2
  have HG := hide hg
  clear hg h1 h2 hb
  obtain ⟨q, hq⟩ : ∃ q, belowG h g = q := ⟨_, rfl⟩
  rw [hq] at HB ⊢
  clear hq
  obtain ⟨g0, g1, g2⟩ := g
  obtain ⟨h0, h1, h2⟩ := h
  dsimp only at *
  go_enter Try.func103, Try.ntmps103
  go_wp2_with fail
  refine (HB.out _).mono ?_
  rintro e w2 ⟨rfl, hg2⟩
  have HG2 := hide (HG.out.trans hg2)
  clear hg2 hW1 hp HB x0 x1 x2 y0 y1 y2
  go_wp2_with fail
  go_ret
  exact ⟨rfl, HG2.out.below⟩
theorem ent103 : ∀ args w, (callFunc 103 args).run Try.prog w = .ok (.enter 103 args) w := enters_of Try.func103 (by kernel_rfl) rfl
theorem over_any (A : Option Addr) (n c : Nat) (l : List Gd) (g : Gd) (w : World) (hx : GdAt w.heap.size w A n l) (hn : n ≤ 1000000) : Calls Try.prog 79 #[.slice A n c, gdV g] w fun e w' => e = .returned (.bool (l.any fun h => belowG h g)) ∧ Below w.heap.size w w' := by
  obtain ⟨p, hp⟩ : ∃ p, w.heap.size = p := ⟨_, rfl⟩
  obtain ⟨W1, hW1⟩ : ∃ W1, w.alloc (.cells #[.int .i64 g.1, .int .i64 g.2.1, .int .i64 g.2.2] 23) = W1 := ⟨_, rfl⟩
  have hb : Below w.heap.size w W1 := by rw [← hW1]; exact (Below.refl _ _).alloc (Nat.le_refl _) _
  have h1 : W1.heap[p]? = some (.cells #[.int .i64 g.1, .int .i64 g.2.1, .int .i64 g.2.2] 23 (0, 0)) := by rw [← hW1, ← hp]; exact heap_alloc_new _ _
  have HC := hide (gContainsFunc_any 103 A n c l W1 (hx.now hb (Nat.le_refl _)) hn (.pointer (some ⟨p, 0, none⟩)) (fun h => belowG h g) ent103 (fun i hi w1 hw => overC_any g (gA l i) p w1 ((hw.block p (Array.getElem?_eq_some_iff.1 h1).1).trans h1)))
  have HB := hide hb
  obtain ⟨q, hq⟩ : ∃ q, (l.any fun h => belowG h g) = q := ⟨_, rfl⟩
  rw [hq] at HC ⊢
  clear hq h1 hb hx hn
  go_enter Try.func79, Try.ntmps79
  go_wp2_with fail
  refine HC.out.mono ?_
  rintro e w2 ⟨rfl, hb2⟩
  have HB2 := hide (bel_next HB.out hb2)
  clear hb2 HC HB hW1 hp
  go_wp2_with fail
  go_ret
  exact ⟨rfl, HB2.out⟩
end Go.Proofs.Ytpbenjpponbjjaa
