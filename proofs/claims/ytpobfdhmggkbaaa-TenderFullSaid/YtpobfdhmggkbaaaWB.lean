/- Rows of offers that are told apart. -/
import Derived.Test.YtpobfdhmggkbaaaWA
namespace Go.Proofs.Ytpobfdhmggkbaaa
open Go.RowKit Go.Sort
/-- m rows of offers, no two in one block -/
structure Rws (B : Nat) (w : World) (m : Nat) (F : Nat → Value) (S : Nat → List Ofr) : Prop where
  row : ∀ j, j < m → w.ownsRow B 72 3 (F j) (S j).length (cellsO (S j))
  apart : ∀ i j, i < m → j < m → i ≠ j → ∀ k, (F i).ownBlock = some k → (F j).ownBlock ≠ some k
def updN {α : Type} (F : Nat → α) (k : Nat) (v : α) : Nat → α := fun j => if j = k then v else F j
theorem updN_same {α : Type} (F : Nat → α) (k : Nat) (v : α) : updN F k v k = v := if_pos rfl
theorem updN_other {α : Type} (F : Nat → α) {k j : Nat} (v : α) (h : j ≠ k) : updN F k v j = F j := if_neg h
/-- a block of another type is no row's -/
theorem own_not {w : World} {B : Nat} {v : Value} {n : Nat} {xs : List Value} (h : w.ownsRow B 72 3 v n xs) {k : Nat} {cs : Array Value} {t : TypeId} {f : Nat × Nat} (hk : w.heap[k]? = some (.cells cs t f)) (ht : t ≠ 72) : v.ownBlock ≠ some k := by
  intro e
  rcases h.2 with ⟨rfl, _⟩ | ⟨g, cap, cur, rfl, _, hg, _⟩
  · cases e
  · injection e with e
    have e : g = k := e
    subst e
    rw [hg] at hk
    injection hk with hk
    injection hk with _ h2 _
    exact ht h2.symm
theorem Rws.kept {B : Nat} {w w' : World} {m : Nat} {F : Nat → Value} {S : Nat → List Ofr} (h : Rws B w m F S) {r : Option Nat} (hg : w.grownBy w' r) (hr : ∀ j, j < m → ∀ k, (F j).ownBlock = some k → r ≠ some k) : Rws B w' m F S :=
  ⟨fun j hj => (h.row j hj).kept hg (by
    cases e : (F j).ownBlock with
    | none => exact .inl rfl
    | some k => exact .inr (fun e2 => hr j hj k e e2.symm)), h.apart⟩
theorem Rws.below {B : Nat} {w w' : World} {m : Nat} {F : Nat → Value} {S : Nat → List Ofr} (h : Rws B w m F S) (hb : Below w.heap.size w w') : Rws B w' m F S :=
  h.kept (below_grownBy hb none) (fun _ _ _ _ e => by cases e)
/-- one row has grown -/
theorem Rws.grow {B : Nat} {w w' : World} {m : Nat} {F : Nat → Value} {S : Nat → List Ofr} (h : Rws B w m F S) {k : Nat} (hk : k < m) {v' : Value} {l : List Ofr} (ho : w'.ownsRow B 72 3 v' (S k ++ l).length (cellsO (S k ++ l)))
    (hg : w.grownBy w' (F k).ownBlock) (hat : v'.ownBlock = (F k).ownBlock ∨ v'.ownBlock = some w.heap.size) : Rws B w' m (updN F k v') (updN S k (S k ++ l)) := by
  have old : ∀ j, j < m → ∀ q, (F j).ownBlock = some q → q < w.heap.size := fun j hj q e => ((h.row j hj).lt q e).2
  refine ⟨fun j hj => ?_, fun i j hi hj hij q hq => ?_⟩
  · by_cases e : j = k
    · subst e
      rw [updN_same, updN_same]
      exact ho
    · rw [updN_other _ _ e, updN_other _ _ e]
      refine (h.row j hj).kept hg ?_
      cases e1 : (F j).ownBlock with
      | none => exact .inl rfl
      | some q => exact .inr (fun e2 => h.apart j k hj hk e q e1 e2.symm)
  · by_cases e1 : i = k
    · subst e1
      have e2 : j ≠ i := fun e => hij e.symm
      rw [updN_same] at hq
      rw [updN_other _ _ e2]
      rcases hat with h1 | h1
      · rw [h1] at hq
        exact h.apart i j hk hj hij q hq
      · rw [h1] at hq
        injection hq with hq
        intro e3
        have := old j hj q e3
        omega
    · rw [updN_other _ _ e1] at hq
      by_cases e2 : j = k
      · subst e2
        rw [updN_same]
        rcases hat with h1 | h1
        · rw [h1]
          exact h.apart i j hi hk e1 q hq
        · rw [h1]
          intro e3
          injection e3 with e3
          have := old i hi q hq
          omega
      · rw [updN_other _ _ e2]
        exact h.apart i j hi hj hij q hq
/-- a row as offers in memory -/
theorem off_of_row {B : Nat} {w : World} {v : Value} {l : List Ofr} (h : w.ownsRow B 72 3 v l.length (cellsO l)) : ∃ A c, v = .slice A l.length c ∧ l.length ≤ c ∧ c ≤ maxLen ∧ OffAt w.heap.size w A l.length l ∧ (∀ a, A = some a → B ≤ a.block ∧ v.ownBlock = some a.block ∧ a = ⟨a.block, 0, none⟩) ∧ (A = none → l = [] ∧ c = 0) := by
  rcases h.2 with ⟨rfl, h0⟩ | ⟨g, cap, cur, rfl, h1, h2, h3, h4, h5, h6⟩
  · exact ⟨none, 0, by rw [h0], by omega, by decide, ⟨rfl, .inl h0⟩, fun a e => (by cases e), fun _ => ⟨List.length_eq_zero_iff.1 h0, rfl⟩⟩
  · refine ⟨some ⟨g, 0, none⟩, cap, rfl, h3, h4, ⟨rfl, .inr ⟨g, 0, rfl, (Array.getElem?_eq_some_iff.1 h2).1, fun i hi => ?_⟩⟩, fun a e => ?_, fun e => (by cases e)⟩
    · have hc := h.cells (g := g) rfl
      have ad : ∀ t, (⟨g, 0, none⟩ : Addr).add t = ⟨g, 0 + t, none⟩ := fun t => addr_add g 0 t
      have ho : l[i]? = some (oA l i) := by unfold oA; rw [List.getD_eq_getElem?_getD, List.getElem?_eq_getElem hi]; rfl
      obtain ⟨e0, e1, e2⟩ := cellsO_at l i _ ho
      refine ⟨by rw [← ad]; exact hc _ _ e0, ?_, ?_⟩
      · rw [show 0 + i * 3 + 1 = 0 + (i * 3 + 1) by omega, ← ad]
        exact hc _ _ e1
      · rw [show 0 + i * 3 + 2 = 0 + (i * 3 + 2) by omega, ← ad]
        exact hc _ _ e2
    · injection e with e
      subst e
      exact ⟨h1, rfl, rfl⟩
end Go.Proofs.Ytpobfdhmggkbaaa
