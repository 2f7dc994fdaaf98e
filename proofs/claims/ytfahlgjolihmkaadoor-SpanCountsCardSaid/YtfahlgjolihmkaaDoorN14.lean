/- Contracts of Union, Intersect, Subtract and Not, each with the same answer as its specification's. -/
import Derived.Test.YtfahlgjolihmkaaDoorN13
namespace Go.Proofs.YtfahlgjolihmkaaDoor
open Go.RowKit Go.Sort

theorem combine_any (g : Nat) (keep : Bool → Bool → Bool) (hkeep : KeepCalls g keep) (A A' : Option Addr) (n cap m cap' : Nat) (xs ys : List Sp) (w : World) (hx : SpansAt w.heap.size w A n xs) (hy : SpansAt w.heap.size w A' m ys) :
    Calls Tryd.prog 30 #[.slice A n cap, .slice A' m cap', .func (.func g) #[] #[]] w (SetPost (comE keep xs ys) (comV keep xs ys) w) := by
  cases hv : setB xs
  · exact combine_bad g keep A A' n cap m cap' xs ys w hx hv
  · exact callsIn_wide.1 (combine_in g keep hkeep A A' n cap m cap' xs ys w hx hy hv)

theorem com_two {kind : Int} {keep : Bool → Bool → Bool} {xs ys : List Sp} (hk : ∀ p q, keep p q = keepB kind p q) : comV keep xs ys = twoV kind xs ys ∧ comE keep xs ys = twoE kind xs ys := by
  unfold comV twoV comE twoE
  cases h1 : setB xs
  · exact ⟨rfl, rfl⟩
  · cases h2 : setB ys
    · exact ⟨rfl, rfl⟩
    · rw [two_same (setB_set h1).1 (setB_set h2).1 hk]
      exact ⟨rfl, rfl⟩
theorem nil_set : setB [] = true := by decide
theorem whole_setB : setB wholeL = true := by decide
theorem com_not {xs : List Sp} : comV (fun p _ => !p) xs [] = twoV 2 wholeL xs ∧ comE (fun p _ => !p) xs [] = twoE 2 wholeL xs := by
  unfold comV twoV comE twoE
  rw [nil_set, whole_setB]
  cases h1 : setB xs
  · exact ⟨rfl, rfl⟩
  · rw [not_same (setB_set h1).1]
    exact ⟨rfl, rfl⟩
theorem comV_length (keep : Bool → Bool → Bool) (xs ys : List Sp) : (comV keep xs ys).length ≤ 128 := by
  unfold comV
  split
  · rename_i h
    simp at h
    exact h.2
  · simp

theorem Union_any (A A' : Option Addr) (n cap m cap' : Nat) (xs ys : List Sp) (w : World) (hx : SpansAt w.heap.size w A n xs) (hy : SpansAt w.heap.size w A' m ys) :
    Calls Tryd.prog 13 #[.slice A n cap, .slice A' m cap'] w (SetPost (comE (fun p q => p || q) xs ys) (comV (fun p q => p || q) xs ys) w) := by
  have HC := hide (combine_any 31 _ keep71 A A' n cap m cap' xs ys w hx hy)
  clear hx hy
  go_enter Tryd.func13, Tryd.ntmps13
  go_wp2_with fail
  refine HC.out.mono ?_
  rintro e w2 ⟨a, c, rfl, ho, hb⟩
  have HO := hide ho
  have HB := hide hb
  clear ho hb HC
  go_wp2
  go_ret2
  exact ⟨a, c, rfl, HO.out, HB.out⟩
theorem Intersect_any (A A' : Option Addr) (n cap m cap' : Nat) (xs ys : List Sp) (w : World) (hx : SpansAt w.heap.size w A n xs) (hy : SpansAt w.heap.size w A' m ys) :
    Calls Tryd.prog 14 #[.slice A n cap, .slice A' m cap'] w (SetPost (comE (fun p q => p && q) xs ys) (comV (fun p q => p && q) xs ys) w) := by
  have HC := hide (combine_any 32 _ keep72 A A' n cap m cap' xs ys w hx hy)
  clear hx hy
  go_enter Tryd.func14, Tryd.ntmps14
  go_wp2_with fail
  refine HC.out.mono ?_
  rintro e w2 ⟨a, c, rfl, ho, hb⟩
  have HO := hide ho
  have HB := hide hb
  clear ho hb HC
  go_wp2
  go_ret2
  exact ⟨a, c, rfl, HO.out, HB.out⟩
end Go.Proofs.YtfahlgjolihmkaaDoor
