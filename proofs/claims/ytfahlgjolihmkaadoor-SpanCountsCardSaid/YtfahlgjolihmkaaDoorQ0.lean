/- Contracts of own and kept: a copy of spans with a mark behind. -/
import Derived.Test.YtfahlgjolihmkaaDoorL0
namespace Go.Proofs.YtfahlgjolihmkaaDoor
open Go.RowKit Go.Sort

/-- the row g has the spans xs and the mark behind -/
def Mark (W : World) (base g n : Nat) (xs : List Sp) : Prop := W.ownsRow base 41 2 (.slice (some ⟨g, 0, none⟩) (n + 1) (n + 1)) (n + 1) (flat (xs ++ [(7, 77)]))

theorem made_own {W : World} {base n : Nat} (hb : base ≤ W.heap.size) (hn : n ≤ 1000000) : (W.alloc (.cells (madeCells #[.int .i64 0, .int .i64 0] ((n + 1) * 2)) 41)).ownsRow base 41 2 (.slice (some ⟨W.heap.size, 0, none⟩) (n + 1) (n + 1)) (n + 1) (madeCells #[.int .i64 0, .int .i64 0] ((n + 1) * 2)).toList :=
  World.ownsRow_lit (base := base) (e := 41) (size := 2) W (madeCells #[.int .i64 0, .int .i64 0] ((n + 1) * 2)) (n + 1) hb (by unfold maxLen; omega) (by rw [size_madeCells])

theorem two_stored {W : World} {base g N i : Nat} {vals zs : List Value} {a b : Value} (ho : W.ownsRow base 41 2 (.slice (some ⟨g, 0, none⟩) N N) N vals) (hv : ∀ j, j < i * 2 → vals[j]? = zs[j]?) (hi : i < N) (h0 : zs[i * 2]? = some a) (h1 : zs[i * 2 + 1]? = some b) :
    ∃ vals' : List Value, ((W.setCell ⟨g, i * 2, none⟩ a).setCell ⟨g, i * 2 + 1, none⟩ b).ownsRow base 41 2 (.slice (some ⟨g, 0, none⟩) N N) N vals' ∧ ∀ j, j < (i + 1) * 2 → vals'[j]? = zs[j]? := by
  have hl := ho.1
  refine ⟨(vals.set (i * 2) a).set (i * 2 + 1) b, ((ho.stored (i * 2) a).1.stored (i * 2 + 1) b).1, fun j hj => ?_⟩
  by_cases e1 : j = i * 2 + 1
  · subst e1
    rw [h1, List.getElem?_set_self (by simp; omega)]
  · rw [List.getElem?_set_ne (by omega)]
    by_cases e0 : j = i * 2
    · subst e0
      rw [h0, List.getElem?_set_self (by omega)]
    · rw [List.getElem?_set_ne (by omega)]
      exact hv j (by omega)
theorem loA_left {xs ys : List Sp} {i : Nat} (h : i < xs.length) : loA (xs ++ ys) i = loA xs i ∧ hiA (xs ++ ys) i = hiA xs i := by
  simp [loA, hiA, List.getD_eq_getElem?_getD, List.getElem?_append_left h]
theorem loA_last (xs : List Sp) (s : Sp) {n : Nat} (h : xs.length = n) : loA (xs ++ [s]) n = s.1 ∧ hiA (xs ++ [s]) n = s.2 := by
  subst h
  simp [loA, hiA, List.getD_eq_getElem?_getD]

theorem Mark.spans {W : World} {base g n : Nat} {xs : List Sp} (h : Mark W base g n xs) (hn : xs.length = n) : SpansAt W.heap.size W (some ⟨g, 0, none⟩) n xs ∧ W.cell? ⟨g, n * 2, none⟩ = some (.int .i64 7) ∧ W.cell? ⟨g, n * 2 + 1, none⟩ = some (.int .i64 77) ∧ base ≤ g ∧ g < W.heap.size := by
  have hs := spans_of_own h (by rw [List.length_append, hn]; rfl)
  have hlast := hs.at2 (k := n) (by omega)
  rw [(loA_last xs (7, 77) hn).1, (loA_last xs (7, 77) hn).2, Nat.zero_add] at hlast
  obtain ⟨g', c', he, hg1, hg2⟩ := own_row h (by omega)
  injection he with he _ _
  injection he with he
  injection he with he
  subst he
  refine ⟨⟨hn, .inr ⟨g, 0, rfl, hg2, fun i hi => ?_⟩⟩, hlast.1, hlast.2, hg1, hg2⟩
  have := hs.at2 (k := i) (by omega)
  rw [(loA_left (ys := [(7, 77)]) (i := i) (by omega)).1, (loA_left (ys := [(7, 77)]) (i := i) (by omega)).2] at this
  exact this

end Go.Proofs.YtfahlgjolihmkaaDoor
