/- What a law hands back; a text is one set's. -/
import Derived.Test.YtfahlgjolihmkaaDoorTD
namespace Go.Proofs.YtfahlgjolihmkaaDoor
open Go.RowKit Go.Sort

/-- what a law hands back -/
def LawPost (w : World) (e : Ending) (w' : World) : Prop := e = .returned (.bool true) ∧ Below w.heap.size w w'
theorem txtS_inj {xs ys : List Sp} (h : txtS xs = txtS ys) : xs = ys := by
  by_cases hx : xs = []
  · by_cases hy : ys = []
    · rw [hx, hy]
    · exfalso
      obtain ⟨y, ys', rfl⟩ := List.exists_cons_of_ne_nil hy
      rw [hx] at h
      exact txt_minus y ys' (by rw [show txtS [] = [45] from rfl] at h; rw [h]; exact (if_neg hy).symm)
  · by_cases hy : ys = []
    · exfalso
      obtain ⟨x, xs', rfl⟩ := List.exists_cons_of_ne_nil hx
      rw [hy] at h
      exact txt_minus x xs' (by rw [show txtS [] = [45] from rfl] at h; rw [← h]; exact (if_neg hx).symm)
    · unfold txtS at h
      rw [if_neg hx, if_neg hy] at h
      exact txt_inj xs ys hx hy h
end Go.Proofs.YtfahlgjolihmkaaDoor
