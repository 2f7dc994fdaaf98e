/- A list of entries in a row of the call's own; two of them exchanged. -/
import Derived.Test.YtbinmkigolkhcaaDoorNA
import Derived.Deep.DeepCutAuto
import Derived.Deep.RegionHeld3
import Derived.Laws.OwnMore
set_option linter.unusedSimpArgs false
set_option linter.unusedVariables false
namespace Go.Proofs.YtbinmkigolkhcaaDoor
open Go.RowKit Go.Sort
attribute [local go_sem] Oper.semAt_some

/-- the values are slices that hold the entries -/
def RowOf (w : World) (vs : List Value) (ls : List (List UInt8)) : Prop :=
  vs.length = ls.length ∧ ∀ j, j < ls.length → ∃ A n c, vs[j]? = some (.slice A n c) ∧ BytesAt w.heap.size w A n (ls.getD j []) ∧ n ≤ 1000000
theorem RowOf.now {w w' : World} {vs : List Value} {ls : List (List UInt8)} (h : RowOf w vs ls) (hb : Below w.heap.size w w') : RowOf w' vs ls := by
  refine ⟨h.1, fun j hj => ?_⟩
  obtain ⟨A, n, c, h1, h2, h3⟩ := h.2 j hj
  exact ⟨A, n, c, h1, h2.now hb (Nat.le_refl _), h3⟩
theorem RowOf.swap {w : World} {vs : List Value} {ls : List (List UInt8)} (h : RowOf w vs ls) {i k : Nat} (hi : i < ls.length) (hk : k < ls.length) {u v : Value} (hu : vs[i]? = some u) (hv : vs[k]? = some v) : RowOf w ((vs.set i v).set k u) (swapL ls i k) := by
  refine ⟨by rw [List.length_set, List.length_set, swap_len]; exact h.1, fun j hj => ?_⟩
  rw [swap_len] at hj
  rw [swap_get hi hk, List.getElem?_set, List.getElem?_set]
  by_cases e1 : j = k
  · subst e1
    rw [if_pos rfl, if_pos rfl, if_pos (by rw [List.length_set]; have := h.1; omega)]
    obtain ⟨A, n, c, h1, h2, h3⟩ := h.2 i hi
    rw [hu] at h1
    exact ⟨A, n, c, h1, h2, h3⟩
  · rw [if_neg (fun e => e1 e.symm), if_neg e1]
    by_cases e2 : j = i
    · subst e2
      rw [if_pos rfl, if_pos rfl, if_pos (by have := h.1; omega)]
      obtain ⟨A, n, c, h1, h2, h3⟩ := h.2 k hk
      rw [hv] at h1
      exact ⟨A, n, c, h1, h2, h3⟩
    · rw [if_neg (fun e => e2 e.symm), if_neg e2]
      exact h.2 j hj
theorem add_none (b o j : Nat) : ((⟨b, o, none⟩ : Addr).add j) = ⟨b, o + j, none⟩ := by
  by_cases h : j = 0
  · subst h; rfl
  · simp [Addr.add, h]
theorem ListsAt.row {w : World} {b off n : Nat} {ls : List (List UInt8)} (h : ListsAt w.heap.size w (some ⟨b, off, none⟩) n ls) :
    ∃ vs, RowOf w vs ls ∧ ∀ j u, vs[j]? = some u → w.cell? ((⟨b, off, none⟩ : Addr).add j) = some u ∧ u.oneCell' = true := by
  have hl := h.1
  refine ⟨(List.range n).map fun j => (w.cell? ⟨b, off + j, none⟩).getD (.int .i64 0), ⟨by rw [List.length_map, List.length_range]; exact hl.symm, fun j hj => ?_⟩, fun j u hu => ?_⟩
  · obtain ⟨b2, off2, A, m, c, e, -, h2, h3, h4⟩ := h.at_ (i := j) (by omega)
    injection e with e
    injection e with e3 e4
    subst e3; subst e4
    refine ⟨A, m, c, ?_, h3, h4⟩
    rw [List.getElem?_map, List.getElem?_range (by omega)]
    show some ((w.cell? ⟨b, off + j, none⟩).getD _) = _
    rw [h2]
    rfl
  · rw [List.getElem?_map] at hu
    rcases Nat.lt_or_ge j n with hj | hj
    · rw [List.getElem?_range hj] at hu
      obtain ⟨b2, off2, A, m, c, e, -, h2, h3, h4⟩ := h.at_ (i := j) hj
      injection e with e
      injection e with e3 e4
      subst e3; subst e4
      have : some ((w.cell? ⟨b, off + j, none⟩).getD (.int .i64 0)) = some u := hu
      rw [h2] at this
      injection this with this
      subst this
      rw [add_none]
      exact ⟨h2, rfl⟩
    · rw [List.getElem?_eq_none (by rw [List.length_range]; exact hj)] at hu
      cases hu
theorem lists_of_own {w : World} {base k c : Nat} {a : Option Addr} {vs : List Value} {ls : List (List UInt8)} (h : w.ownsRow base 23 1 (.slice a k c) k vs) (hr : RowOf w vs ls) : ListsAt w.heap.size w a k ls := by
  have hl : ls.length = k := by have := h.1; have := hr.1; omega
  refine ⟨hl, ?_⟩
  rcases h.2 with ⟨_, h0⟩ | ⟨g, cap, cur, hv, _, hg, _⟩
  · exact .inl h0
  · injection hv with h1 h2 h3
    subst h1
    refine .inr ⟨g, 0, rfl, (Array.getElem?_eq_some_iff.1 hg).1, fun i hi => ?_⟩
    obtain ⟨A, n, c2, e1, e2, e3⟩ := hr.2 i (by omega)
    have c0 := h.cells (g := g) rfl i _ e1
    rw [add_none] at c0
    exact ⟨A, n, c2, c0, e2, e3⟩
end Go.Proofs.YtbinmkigolkhcaaDoor
