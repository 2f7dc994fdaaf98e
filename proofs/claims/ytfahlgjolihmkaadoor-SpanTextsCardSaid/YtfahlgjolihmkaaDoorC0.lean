/- What the body of a loop over a function leaves as it was: all blocks of cells but the body's own boxes and the rows that these boxes hold. -/
import Derived.Test.YtfahlgjolihmkaaDoorB2
import Derived.RangeFuncNested
import Derived.RangeFuncBound
import Derived.RangeFuncCalls
import Derived.RangeFuncLeaves
import Derived.RangeFuncBox
import Derived.OwnWalkIn
import Derived.TacticsInMore
import Derived.LoopNIn
import Derived.LoopIn
import Derived.Maps.AppendAt
namespace Go.Proofs.YtfahlgjolihmkaaDoor
open Go.RowKit Go.Sort

/-- g is the row of a slice that one of the boxes bs holds -/
def RowOf (bs : List Nat) (A : World) (g : Nat) : Prop := ∃ b, b ∈ bs ∧ ∃ v : Value, A.cell? ⟨b, 0, none⟩ = some v ∧ v.ownBlock = some g

/-- all blocks of cells but the boxes bs and their rows are as they were; a new row is a new block -/
structure Kept (bs : List Nat) (A B : World) : Prop where
  os : B.os = A.os
  tape : B.tape = A.tape
  output : B.output = A.output
  size : A.heap.size ≤ B.heap.size
  same : ∀ (k : Nat) (o : Obj), A.heap[k]? = some o → o.isCells = true → k ∉ bs → ¬ RowOf bs A k → B.heap[k]? = A.heap[k]?
  rows : ∀ g, RowOf bs B g → RowOf bs A g ∨ A.heap.size ≤ g
  bound : (∀ g, RowOf bs A g → g < A.heap.size) → ∀ g, RowOf bs B g → g < B.heap.size

theorem lt_of_heap {A : World} {k : Nat} {o : Obj} (h : A.heap[k]? = some o) : k < A.heap.size := (Array.getElem?_eq_some_iff.1 h).1

theorem Kept.refl (bs : List Nat) (A : World) : Kept bs A A := ⟨rfl, rfl, rfl, Nat.le_refl _, fun _ _ _ _ _ _ => rfl, fun _ h => .inl h, fun h => h⟩
theorem Kept.trans {bs : List Nat} {A B C : World} (h : Kept bs A B) (k : Kept bs B C) : Kept bs A C := by
  refine ⟨k.os.trans h.os, k.tape.trans h.tape, k.output.trans h.output, Nat.le_trans h.size k.size, fun j o hj hc hb hr => ?_, fun g hg => ?_, fun hA => k.bound (h.bound hA)⟩
  · have h1 := h.same j o hj hc hb hr
    have hlt := lt_of_heap hj
    have h2 : ¬ RowOf bs B j := fun hB => by
      rcases h.rows j hB with h3 | h3
      · exact hr h3
      · omega
    exact (k.same j o (h1.trans hj) hc hb h2).trans h1
  · rcases k.rows g hg with h1 | h1
    · exact h.rows g h1
    · exact .inr (Nat.le_trans h.size h1)

theorem RowOf.congr {bs : List Nat} {A B : World} (h : ∀ b, b ∈ bs → B.cell? ⟨b, 0, none⟩ = A.cell? ⟨b, 0, none⟩) {g : Nat} (hg : RowOf bs B g) : RowOf bs A g := by
  obtain ⟨b, hb, v, hv, ho⟩ := hg
  exact ⟨b, hb, v, (h b hb).symm.trans hv, ho⟩

/-- only blocks from B's end on are new, nothing old has turned -/
theorem Kept.of_below {bs : List Nat} {A B : World} (h : Below A.heap.size A B) (hbs : ∀ b, b ∈ bs → b < A.heap.size) : Kept bs A B := by
  have hc : ∀ b, b ∈ bs → B.cell? ⟨b, 0, none⟩ = A.cell? ⟨b, 0, none⟩ := fun b hb => h.cell (p := ⟨b, 0, none⟩) (hbs b hb)
  exact ⟨h.os, h.tape, h.output, h.size, fun k o hk _ _ _ => h.block k (lt_of_heap hk), fun g hg => .inl (hg.congr hc), fun hA g hg => Nat.lt_of_lt_of_le (hA g (hg.congr hc)) h.size⟩
theorem Kept.alloc {bs : List Nat} {A B : World} (h : Kept bs A B) (hbs : ∀ b, b ∈ bs → b < A.heap.size) (o : Obj) : Kept bs A (B.alloc o) :=
  h.trans (Kept.of_below ((Below.refl _ _).alloc (Nat.le_refl _) o) fun b hb => Nat.lt_of_lt_of_le (hbs b hb) h.size)
theorem Kept.grown {bs : List Nat} {A B C : World} (h : Kept bs A B) (hbs : ∀ b, b ∈ bs → b < A.heap.size) (hb : Below B.heap.size B C) : Kept bs A C :=
  h.trans (Kept.of_below hb fun b hb => Nat.lt_of_lt_of_le (hbs b hb) h.size)

/-- an object that is no cells has been replaced -/
theorem Kept.putObj (bs : List Nat) (W : World) (l : Nat) (o o' : Obj) (hl : l ∉ bs) (ho : W.heap[l]? = some o) (hc : o.isCells = false) : Kept bs W (W.putObj l o') := by
  have hoth : ∀ k, k ≠ l → (W.putObj l o').heap[k]? = W.heap[k]? := fun k hk => World.putObj_heap_other hk
  have hcell : ∀ b, b ∈ bs → (W.putObj l o').cell? ⟨b, 0, none⟩ = W.cell? ⟨b, 0, none⟩ := fun b hb => World.cell?_of_block (hoth b (fun e => hl (e ▸ hb)))
  refine ⟨rfl, rfl, rfl, by simp, fun k o2 hk hc2 _ _ => hoth k (fun e => ?_), fun g hg => .inl (hg.congr hcell), fun hA g hg => by have := hA g (hg.congr hcell); simpa using this⟩
  subst e
  rw [ho] at hk
  injection hk with hk
  subst hk
  rw [hc] at hc2
  cases hc2

/-- a value that is no slice has been stored into one of the boxes -/
theorem Kept.setBox (bs : List Nat) (W : World) (b : Nat) (v : Value) (hb : b ∈ bs) (hv : v.ownBlock = none) : Kept bs W (W.setCell ⟨b, 0, none⟩ v) := by
  have hrow : ∀ g, RowOf bs (W.setCell ⟨b, 0, none⟩ v) g → RowOf bs W g := by
    rintro g ⟨b', hb', v', hc, ho⟩
    by_cases e : b' = b
    · subst e
      cases hw : W.cell? ⟨b', 0, none⟩ with
      | none =>
        have : (W.setCell ⟨b', 0, none⟩ v).cell? ⟨b', 0, none⟩ = none := by
          simp only [World.cell?, World.setCell, Array.getElem?_modify] at hw ⊢
          cases hh : W.heap[b']? with
          | none => simp
          | some o =>
            rw [hh] at hw
            cases o <;> simp_all
        rw [this] at hc
        cases hc
      | some u =>
        rw [World.cell?_setCell_same _ _ _ hw] at hc
        injection hc with hc
        subst hc
        rw [hv] at ho
        cases ho
    · rw [World.cell?_setCell_other _ _ _ _ (by intro e'; simp only [Addr.mk.injEq] at e'; exact e e'.1.symm)] at hc
      exact ⟨b', hb', v', hc, ho⟩
  refine ⟨rfl, rfl, rfl, by simp [World.setCell], fun k o hk _ hnb _ => Below.heap_setCell _ _ _ _ (fun e => hnb (by rw [e]; exact hb)), fun g hg => .inl (hrow g hg), fun hA g hg => ?_⟩
  have := hA g (hrow g hg)
  simpa [World.setCell] using this

/-- a cell outside reads as it did -/
theorem Kept.cell {bs : List Nat} {A B : World} (h : Kept bs A B) {b off : Nat} {v : Value} (hc : A.cell? ⟨b, off, none⟩ = some v) (hb : b ∉ bs) (hr : ¬ RowOf bs A b) : B.cell? ⟨b, off, none⟩ = some v := by
  have hblock : B.heap[b]? = A.heap[b]? := by
    cases hh : A.heap[b]? with
    | none => simp [World.cell?, hh] at hc
    | some o =>
      have ho : o.isCells = true := by
        cases o <;> simp_all [World.cell?, Obj.isCells]
      exact (h.same b o hh ho hb hr).trans hh
  exact (World.cell?_of_block hblock).trans hc
theorem Kept.frozen {bs : List Nat} {A B : World} (h : Kept bs A B) {b off : Nat} {v : Value} (hc : A.cell? ⟨b, off, none⟩ = some v) (hb : b ∉ bs) (hr : ¬ RowOf bs A b) : B.frozen? ⟨b, off, none⟩ = A.frozen? ⟨b, off, none⟩ := by
  have hblock : B.heap[b]? = A.heap[b]? := by
    cases hh : A.heap[b]? with
    | none => simp [World.cell?, hh] at hc
    | some o =>
      have ho : o.isCells = true := by
        cases o <;> simp_all [World.cell?, Obj.isCells]
      exact (h.same b o hh ho hb hr).trans hh
  exact World.frozen?_of_block hblock

/-- nothing of it is a row of the boxes -/
theorem not_row {bs : List Nat} {A B : World} (h : Kept bs A B) {k : Nat} (hk : k < A.heap.size) (hr : ¬ RowOf bs A k) : ¬ RowOf bs B k := fun hB => by
  rcases h.rows k hB with h1 | h1
  · exact hr h1
  · omega
theorem SpansAt.kept {bs : List Nat} {W W' : World} {B : Nat} {A : Option Addr} {n : Nat} {xs : List Sp} (h : SpansAt B W A n xs) (hk : Kept bs W W') (hb : ∀ k, k < B → k ∉ bs ∧ ¬ RowOf bs W k) : SpansAt B W' A n xs := by
  refine ⟨h.1, ?_⟩
  rcases h.2 with h0 | ⟨b, off, e, hlt, hc⟩
  · exact .inl h0
  · exact .inr ⟨b, off, e, hlt, fun i hi => ⟨hk.cell (hc i hi).1 (hb b hlt).1 (hb b hlt).2, hk.cell (hc i hi).2 (hb b hlt).1 (hb b hlt).2⟩⟩

end Go.Proofs.YtfahlgjolihmkaaDoor
