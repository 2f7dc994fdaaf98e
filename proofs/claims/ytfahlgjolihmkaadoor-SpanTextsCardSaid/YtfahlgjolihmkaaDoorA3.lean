/- Contracts of in, same, alike, containing. -/
import Derived.Test.YtfahlgjolihmkaaDoorA2
namespace Go.Proofs.YtfahlgjolihmkaaDoor
open Go.RowKit Go.Sort

/-- has one of the spans the number x? -/
def inB (xs : List Sp) (x : Int) : Bool := xs.any fun s => hasB s.1 s.2 x
theorem getD_mem {xs : List Sp} {k : Nat} (h : k < xs.length) : xs.getD k (0, 0) ∈ xs := by
  simp [List.getD_eq_getElem?_getD, List.getElem?_eq_getElem h]
theorem mem_getD {xs : List Sp} {s : Sp} (h : s ∈ xs) : ∃ k, k < xs.length ∧ loA xs k = s.1 ∧ hiA xs k = s.2 := by
  obtain ⟨k, hk, rfl⟩ := List.mem_iff_getElem.1 h
  exact ⟨k, hk, by simp [loA, List.getD_eq_getElem?_getD, hk], by simp [hiA, List.getD_eq_getElem?_getD, hk]⟩
theorem inB_true {xs : List Sp} {x : Int} {k : Nat} (h : k < xs.length) (h1 : loA xs k ≤ x) (h2 : x < hiA xs k) : inB xs x = true :=
  List.any_eq_true.2 ⟨_, getD_mem h, decide_eq_true ⟨h1, h2⟩⟩
theorem inB_false {xs : List Sp} {x : Int} (h : ∀ k, k < xs.length → ¬ (loA xs k ≤ x ∧ x < hiA xs k)) : inB xs x = false := by
  rw [Bool.eq_false_iff]
  intro hh
  obtain ⟨s, hs, hb⟩ := List.any_eq_true.1 hh
  obtain ⟨k, hk, e1, e2⟩ := mem_getD hs
  have := of_decide_eq_true hb
  exact h k hk (by rw [e1, e2]; exact this)
theorem inB_iff {xs : List Sp} {x : Int} : inB xs x = true ↔ ∃ k, k < xs.length ∧ loA xs k ≤ x ∧ x < hiA xs k := by
  constructor
  · intro hh
    obtain ⟨s, hs, hb⟩ := List.any_eq_true.1 hh
    obtain ⟨k, hk, e1, e2⟩ := mem_getD hs
    have := of_decide_eq_true hb
    exact ⟨k, hk, by rw [e1, e2]; exact this⟩
  · rintro ⟨k, hk, h1, h2⟩
    exact inB_true hk h1 h2

end Go.Proofs.YtfahlgjolihmkaaDoor
