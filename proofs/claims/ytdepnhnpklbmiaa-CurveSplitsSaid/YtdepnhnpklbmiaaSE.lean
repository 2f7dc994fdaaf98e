/- The law of Split and Meet: what it is made of. -/
import Derived.Test.YtdepnhnpklbmiaaSD
import Derived.Test.YtdepnhnpklbmiaaA3
import Derived.Test.YtdepnhnpklbmiaaA8
import Derived.Test.YtdepnhnpklbmiaaF
import Derived.ProofKit
import Derived.Lib.SmallJoins
import Derived.DataShut
namespace Go.Proofs.Ytdepnhnpklbmiaa
open Go.ChangeShapes Go.WideShapes Go.ChangeAt Go.RowKit Go.Joins Go.Deep Go.Sort
section
variable {H : Type} {enc : TypeId × Value → H} {W : World}
/-- a slice of ints that came in, wherever it lies -/
structure Came (W : World) (A : Option Addr) (n cap : Nat) (xs : List Int) : Prop where
  at_ : IntsAt W.heap.size W A n xs
  le : n ≤ cap
  big : cap ≤ 9223372036854775807
  old : 0 < n → ∀ ad, A = some ad → ad.block < W.heap.size
  nil : A = none → n = 0 ∧ cap = 0
  fits : ∀ i, i < n → -9223372036854775808 ≤ iA xs i ∧ iA xs i ≤ 9223372036854775807

set_option maxRecDepth 100000 in
theorem open_row22 {fuel : Nat} {v : Value} {x : DataW H × List MemPlace} (hf : DataW.trod enc Try.prog W 0 (fun _ => true) true fuel 22 [v] = some x) :
    ∃ (A : Option Addr) (n cap : Nat) (xs : List Int), v = .slice A n cap ∧ Came W A n cap xs := by
  rcases open_slice Try.underlying22 hf with ⟨h0, _⟩ | ⟨a', n, cap, m, k, D, Pl, h0, _, hl, hbig, hm, _, hx⟩
  · simp at h0
    subst h0
    exact ⟨none, 0, 0, [], rfl, ⟨⟨rfl, .inl rfl⟩, Nat.le_refl _, by omega, fun h => by omega, fun _ => ⟨rfl, rfl⟩, fun i hi => by omega⟩⟩
  · simp at h0
    subst h0
    simp only [if_true] at hm
    subst hm
    have c3 : Try.prog.cellsOf 3 = 1 := by kernel_rfl
    have each : ∀ i, i < n → ∃ q : Int, W.cell? (a'.add i) = some (.int .i64 q) ∧ (Lit.int .i64 q).wf = true := by
      intro i hi
      obtain ⟨cs', h1, h2⟩ := hx i (by omega)
      rw [c3, Nat.mul_one] at h1
      obtain ⟨_, hlen, hcell⟩ := World.cells?_some h1
      obtain ⟨q, hq, _, hwf⟩ := DataW.trod_int Try.underlying3 h2
      subst hq
      have := hcell 0 (by omega)
      exact ⟨q, by simpa [Addr.add] using this, hwf⟩
    obtain ⟨q, hq⟩ := choose_lt each
    have hml : maxLen = 9223372036854775807 := by decide
    refine ⟨some a', n, _, (List.range n).map q, rfl, ?_⟩
    rcases Nat.eq_zero_or_pos n with h0 | hpos
    · subst h0
      exact ⟨⟨by simp, .inl rfl⟩, hl, by omega, fun h => by omega, fun h => (by cases h), fun i hi => by omega⟩
    · obtain ⟨b, off, spot⟩ := a'
      have h00 := (hq 0 hpos).1
      have hs : spot = none := by
        cases spot with
        | none => rfl
        | some s =>
          exfalso
          simp only [Addr.add, if_true, World.cell?] at h00
          split at h00 <;> simp at h00
      subst hs
      have hlt : b < W.heap.size := by
        have := World.block_lt_of_cell? _ _ h00
        simpa [add_plain] using this
      refine ⟨⟨by simp, .inr ⟨b, off, rfl, hlt, fun i hi => ?_⟩⟩, hl, by omega, fun _ ad e => ?_, fun h => (by cases h), fun i hi => ?_⟩
      · have h1 := (hq i hi).1
        rw [add_plain] at h1
        simpa [iA, hi] using h1
      · injection e with e
        subst e
        exact hlt
      · have := lit_range (hq i hi).2
        simpa [iA, hi] using this

instance : Inhabited Cu := ⟨Cu.zero⟩
set_option maxRecDepth 100000 in
theorem open_curves2 {base : Nat} {v : Value} {d : DataW H} {p : List MemPlace} (hv : Value.okWide Try.prog W .any base 45 v) (h : DataW.Trod enc Try.prog W 0 (fun _ => true) true 45 v d p) :
    ∃ (A : Option Addr) (n cap : Nat) (cs : Nat → Cu) (ss : Nat → Option Addr × Nat × Nat), v = .slice A n cap ∧ CurvesAt W.heap.size W A n cs ss ∧ n ≤ cap ∧ n ≤ 9223372036854775807 ∧ ∀ i, i < n → Came W (ss i).1 (ss i).2.1 (ss i).2.2 (cs i).sl := by
  obtain ⟨a, n, cap, rfl⟩ := okWide_slice Try.underlying45 hv
  obtain ⟨fuel, hf⟩ := h
  rcases open_slice Try.underlying45 hf with ⟨h0, _⟩ | ⟨a', len, cp, m, k, D, Pl, h0, _, hl, hbig, hm, _, hx⟩
  · simp [Value.cells] at h0
    obtain ⟨rfl, rfl, rfl⟩ := h0
    exact ⟨none, 0, 0, fun _ => Cu.zero, fun _ => (none, 0, 0), rfl, ⟨.inl rfl, fun i hi => absurd hi (Nat.not_lt_zero _)⟩, Nat.le_refl _, by omega, fun i hi => absurd hi (Nat.not_lt_zero _)⟩
  · simp [Value.cells] at h0
    obtain ⟨rfl, rfl, rfl⟩ := h0
    simp only [if_true] at hm
    subst hm
    have c3 : Try.prog.cellsOf 24 = 3 := by kernel_rfl
    have hml : maxLen = 9223372036854775807 := by decide
    have each : ∀ i, i < n → ∃ q : Cu × (Option Addr × Nat × Nat), W.cell? (a'.add (i * 3)) = some (.int .i64 q.1.fr) ∧ W.cell? (a'.add (i * 3 + 1)) = some (.int .i64 q.1.fst) ∧ W.cell? (a'.add (i * 3 + 2)) = some (.slice q.2.1 q.2.2.1 q.2.2.2) ∧ Came W q.2.1 q.2.2.1 q.2.2.2 q.1.sl := by
      intro i hi
      obtain ⟨cs', h1, h2⟩ := hx i (by omega)
      rw [c3] at h1
      obtain ⟨_, hlen, hcell⟩ := World.cells?_some h1
      obtain ⟨y0, y1, y2, n', _, _, t0, t1, t2⟩ := trod_struct3 Try.underlying24 h2
      match cs', hlen with
      | [v0, v1, v2], _ =>
        have t0 : DataW.trod enc Try.prog W 0 (fun _ => true) true n' 3 [v0] = some y0 := t0
        have t1 : DataW.trod enc Try.prog W 0 (fun _ => true) true n' 3 [v1] = some y1 := t1
        have t2 : DataW.trod enc Try.prog W 0 (fun _ => true) true n' 22 [v2] = some y2 := t2
        obtain ⟨x0, e0, _⟩ := DataW.trod_int Try.underlying3 t0
        obtain ⟨x1, e1, _⟩ := DataW.trod_int Try.underlying3 t1
        obtain ⟨A, n2, cap2, xs, rfl, hc⟩ := open_row22 t2
        injection e0 with e0 _
        injection e1 with e1 _
        subst e0 e1
        have g0 := hcell 0 (by omega)
        have g1 := hcell 1 (by omega)
        have g2 := hcell 2 (by omega)
        rw [add_add] at g0 g1 g2
        exact ⟨(⟨x0, x1, xs⟩, A, n2, cap2), by simpa using g0, by simpa using g1, by simpa using g2, hc⟩
    obtain ⟨q, hq⟩ := choose_lt each
    refine ⟨some a', n, _, fun i => (q i).1, fun i => (q i).2, rfl, ⟨?_, fun i hi => ⟨(hq i hi).2.2.2.at_, (hq i hi).2.2.2.old, (hq i hi).2.2.2.nil⟩⟩, hl, by omega, fun i hi => (hq i hi).2.2.2⟩
    rcases Nat.eq_zero_or_pos n with h0 | hpos
    · exact .inl h0
    · obtain ⟨b, off, spot⟩ := a'
      have h00 := (hq 0 hpos).1
      have hs : spot = none := by
        cases spot with
        | none => rfl
        | some s =>
          exfalso
          simp only [Addr.add, Nat.zero_mul, if_true, World.cell?] at h00
          split at h00 <;> simp at h00
      subst hs
      refine .inr ⟨b, off, rfl, ?_, fun i hi => ?_⟩
      · have := World.block_lt_of_cell? _ _ h00
        simpa [add_plain] using this
      · obtain ⟨g0, g1, g2, _⟩ := hq i hi
        rw [add_plain] at g0 g1 g2
        exact ⟨g0, by simpa [Nat.add_assoc] using g1, by simpa [Nat.add_assoc] using g2⟩

end
theorem info24 : (Try.prog.info? 24).map (fun i => (i.zero, i.size, i.bytes)) = some (some (.agg #[.int .i64 0, .int .i64 0, .slice none 0 0]), 3, 40) := by kernel_rfl
def cellsC (cs : Nat → Cu) (ss : Nat → Option Addr × Nat × Nat) : Nat → List Value
  | 0 => []
  | k + 1 => cellsC cs ss k ++ [.int .i64 (cs k).fr, .int .i64 (cs k).fst, .slice (ss k).1 (ss k).2.1 (ss k).2.2]
theorem cellsC_length (cs : Nat → Cu) (ss : Nat → Option Addr × Nat × Nat) : ∀ n, (cellsC cs ss n).length = n * 3
  | 0 => rfl
  | k + 1 => by
    show (cellsC cs ss k ++ _).length = _
    rw [List.length_append, cellsC_length cs ss k]
    show k * 3 + 3 = _
    omega
theorem cellsC_at (cs : Nat → Cu) (ss : Nat → Option Addr × Nat × Nat) : ∀ n i, i < n → (cellsC cs ss n)[i * 3]? = some (.int .i64 (cs i).fr) ∧ (cellsC cs ss n)[i * 3 + 1]? = some (.int .i64 (cs i).fst) ∧ (cellsC cs ss n)[i * 3 + 2]? = some (.slice (ss i).1 (ss i).2.1 (ss i).2.2)
  | 0, i, h => absurd h (Nat.not_lt_zero _)
  | k + 1, i, h => by
    have hl := cellsC_length cs ss k
    show (cellsC cs ss k ++ _)[i * 3]? = _ ∧ (cellsC cs ss k ++ _)[i * 3 + 1]? = _ ∧ (cellsC cs ss k ++ _)[i * 3 + 2]? = _
    rcases Nat.lt_or_ge i k with q | q
    · rw [List.getElem?_append_left (by omega), List.getElem?_append_left (by omega), List.getElem?_append_left (by omega)]
      exact cellsC_at cs ss k i q
    · obtain rfl : i = k := by omega
      rw [List.getElem?_append_right (by omega), List.getElem?_append_right (by omega), List.getElem?_append_right (by omega), hl]
      rw [show i * 3 - i * 3 = 0 by omega, show i * 3 + 1 - i * 3 = 1 by omega, show i * 3 + 2 - i * 3 = 2 by omega]
      exact ⟨rfl, rfl, rfl⟩
theorem curves_own {W : World} {base : Nat} {a : Option Addr} {n c : Nat} {cs : Nat → Cu} {ss : Nat → Option Addr × Nat × Nat} (h : W.ownsRow base 24 3 (.slice a n c) n (cellsC cs ss n)) (hcu : ∀ i, i < n → CuAt W.heap.size W (cs i) (ss i).1 (ss i).2.1 (ss i).2.2) :
    CurvesAt W.heap.size W a n cs ss ∧ n ≤ c := by
  rcases h.2 with ⟨hv, h0⟩ | ⟨g, cap, cur, hv, hbb, hg, hnc, hcm, hr⟩
  · injection hv with h1 h2 h3
    exact ⟨⟨.inl h0, hcu⟩, by omega⟩
  · injection hv with h1 h2 h3
    subst h1 h3
    have ad : ∀ j, (⟨g, 0, none⟩ : Addr).add j = ⟨g, j, none⟩ := by
      intro j
      by_cases h0 : j = 0
      · subst h0; rfl
      · simp [Addr.add, h0]
    refine ⟨⟨.inr ⟨g, 0, rfl, (Array.getElem?_eq_some_iff.1 hg).1, fun i hi => ?_⟩, hcu⟩, hnc⟩
    obtain ⟨e1, e2, e3⟩ := cellsC_at cs ss n i hi
    have c0 := h.cells (g := g) rfl _ _ e1
    have c1 := h.cells (g := g) rfl _ _ e2
    have c2 := h.cells (g := g) rfl _ _ e3
    rw [ad] at c0 c1 c2
    rw [Nat.zero_add]
    exact ⟨c0, c1, c2⟩
theorem cell_three_new24 (W : World) (u v x : Value) (j : Nat) (y : Value) (h : [u, v, x][j]? = some y) : (W.alloc (.cells #[u, v, x] 24)).cell? ((⟨W.heap.size, 0, none⟩ : Addr).add j) = some y := by
  have a0 := heap_alloc_new W (.cells #[u, v, x] 24)
  have d0 := cell_of_heap' a0 0
  have d1 := cell_of_heap' a0 1
  have d2 := cell_of_heap' a0 2
  simp at d0 d1 d2
  match j, h with
  | 0, h => simp at h; subst h; simp [Addr.add]
  | 1, h => simp at h; subst h; simp [Addr.add]
  | 2, h => simp at h; subst h; simp [Addr.add]
  | j + 3, h => simp at h
theorem splitX_len (cs : Nat → Cu) (n : Nat) (total : Int) : (splitX cs n total).length ≤ n := by
  unfold splitX
  split
  · simp
  · simp
/-- four numbers, one answer -/
def Four (a b : Cu) (v x p r : Int) : Prop := MeetR a b (tupOf [intT v, intT x, intT p, intT r])
theorem four_post {a b : Cu} {w : World} {e : Ending} {w' : World} (h : MeetPost a b w e w') : ∃ v x p r, e = .returned (.tuple #[.int .i64 v, .int .i64 x, .int .i64 p, .int .i64 r]) ∧ Four a b v x p r ∧ Below w.heap.size w w' := by
  obtain ⟨h, hb⟩ := h
  rcases h with ⟨c, hc, rfl⟩ | ⟨i, j, hm, rfl⟩
  · exact ⟨_, _, _, _, rfl, .inl ⟨c, hc, rfl⟩, hb⟩
  · exact ⟨_, _, _, _, rfl, .inr ⟨i, j, hm, rfl⟩, hb⟩
theorem four_one {a b : Cu} {v x p r v' x' p' r' : Int} (h : Four a b v x p r) (k : Four a b v' x' p' r') : v = v' ∧ x = x' ∧ p = p' ∧ r = r' := by
  have := meet_one h k
  simpa [tupOf, intT] using this
end Go.Proofs.Ytdepnhnpklbmiaa
