/- The shown offers sorted: the lists of each buyer, one after another. -/
import Derived.Test.YtpobfdhmggkbaaaZD
import Derived.Test.YtpobfdhmggkbaaaZA
import Derived.Test.YtpobfdhmggkbaaaSH
namespace Go.Proofs.Ytpobfdhmggkbaaa
open Go.RowKit Go.Lib Go.Sort Go.Shelf
/-- an offer, its buyer a natural number -/
abbrev On := Nat × Int × Int
def onO (x : On) : Ofr := ((x.1 : Int), x.2.1, x.2.2)
def encO (x : On) : List Value := ofC (onO x)
def toOn (o : Ofr) : On := (o.1.toNat, o.2.1, o.2.2)
theorem onO_toOn {o : Ofr} (h : 0 ≤ o.1) : onO (toOn o) = o := by
  obtain ⟨a, b, c⟩ := o
  have h : 0 ≤ a := h
  show (((a.toNat : Nat) : Int), b, c) = (a, b, c)
  rw [Int.toNat_of_nonneg h]
def cfO (x y : On) : Int := cmpI x.1 y.1
theorem ltO (x y : On) : ltOf cfO x y = decide (x.1 < y.1) := by
  unfold ltOf cfO cmpI
  by_cases h : x.1 < y.1
  · rw [if_pos (by omega)]
    simp [h]
  · rw [if_neg (by omega)]
    simp only [h, decide_false]
    split <;> decide
/-- by buyers -/
def sortO (l : List Ofr) : List Ofr := (List.range 8).flatMap fun v : Nat => l.filter fun o => o.1 == (v : Int)
theorem filter_on (v : Nat) : ∀ l : List Ofr, (∀ o ∈ l, 0 ≤ o.1 ∧ o.1 ≤ 7) → ((l.map toOn).filter fun x => x.1 == v).map onO = l.filter fun o => o.1 == (v : Int)
  | [], _ => rfl
  | o :: l, h => by
    have h0 := (h o (by simp)).1
    have ih := filter_on v l fun q hq => h q (by simp [hq])
    have hc : ((toOn o).1 == v) = (o.1 == (v : Int)) := by
      rw [Bool.eq_iff_iff, beq_iff_eq, beq_iff_eq]
      show o.1.toNat = v ↔ _
      omega
    rw [List.map_cons, List.filter_cons, List.filter_cons, hc]
    split
    · rw [List.map_cons, ih, onO_toOn h0]
    · exact ih
theorem sorted_eq (l : List Ofr) (h : ∀ o ∈ l, 0 ≤ o.1 ∧ o.1 ≤ 7) : (insertionSort (ltOf cfO) (l.map toOn).toArray 0 (l.map toOn).toArray.size).toList.map onO = sortO l := by
  rw [insertion_parts (fun x : On => x.1) ltO 8 (l.map toOn).toArray (fun x hx => by
    simp at hx
    obtain ⟨a, b, c, hm, rfl⟩ := hx
    have := h _ hm
    show a.toNat < 8
    dsimp only at this
    omega)]
  unfold sortO
  rw [List.map_flatMap]
  congr 1
  funext v
  exact filter_on v l h
theorem sortWorldK_grownBy {α : Type} [Inhabited α] (enc : α → List Value) (k : Nat) (w : World) (blk off m : Nat) (dk : Array α) (os : Array Obj) : w.grownBy (sortWorldK enc k w blk off m dk os) (some blk) := by
  refine ⟨rfl, rfl, rfl, size_sortWorldK_c enc k w blk off m dk os, fun j hj hne => ?_⟩
  unfold sortWorldK
  rw [heap_grow_old _ _ (by rw [size_putRowK]; exact hj)]
  have hne : blk ≠ j := fun e => hne (by rw [e])
  show ((Sort.ahead w m).heap.modify blk _)[j]? = _
  rw [Array.getElem?_modify, if_neg hne]
  rfl
theorem oA_map (D : Array On) (i : Nat) (hi : i < D.size) : oA (D.toList.map onO) i = onO D[i]! := by
  unfold oA
  rw [List.getD_eq_getElem?_getD, List.getElem?_map, List.getElem?_eq_getElem (by simpa using hi)]
  simp [hi]
theorem off_of_holds {w : World} {g n : Nat} {D : Array On} (hn : D.size = n) (hg : 0 < n → g < w.heap.size) (h : HoldsK encO 3 w g 0 D) : OffAt w.heap.size w (some ⟨g, 0, none⟩) n (D.toList.map onO) := by
  refine ⟨by simp [hn], ?_⟩
  rcases Nat.eq_zero_or_pos n with h0 | h0
  · exact .inl h0
  · refine .inr ⟨g, 0, rfl, hg h0, fun i hi => ?_⟩
    have key : ∀ r, r < 3 → w.cell? ⟨g, 0 + (i * 3 + r), none⟩ = some ((encO D[i]!)[r]!) := fun r hr => by
      have hs : i * 3 + r < (flatK encO 3 D).size := by rw [size_flatK]; omega
      have := (h (i * 3 + r) hs).1
      rw [get_flatK _ _ _ _ (by simpa using hs)] at this
      rw [this, show (i * 3 + r) / 3 = i by omega, show (i * 3 + r) % 3 = r by omega]
      rfl
    rw [oA_map D i (by omega)]
    exact ⟨key 0 (by decide), by have := key 1 (by decide); rw [← Nat.add_assoc] at this; exact this, by have := key 2 (by decide); rw [← Nat.add_assoc] at this; exact this⟩
theorem holds_of_row {w : World} {p g n c : Nat} {l : List Ofr} (h : w.ownsRow p 72 3 (.slice (some ⟨g, 0, none⟩) n c) n (cellsO l)) (hl : ∀ o ∈ l, 0 ≤ o.1 ∧ o.1 ≤ 7) : HoldsK encO 3 w g 0 (l.map toOn).toArray := by
  intro j hj
  rw [size_flatK] at hj
  have hj3 : j < l.length * 3 := by simpa using hj
  have hq : j / 3 < l.length := by omega
  have hc := h.cells (g := g) rfl j
  rcases h.2 with ⟨h0, _⟩ | ⟨g', cap, cur, e, _, hh, _⟩
  · cases h0
  · injection e with e1 _ _
    injection e1 with e1
    injection e1 with e1
    subst e1
    refine ⟨?_, by simp [World.frozen?, hh]⟩
    rw [get_flatK _ _ _ _ (by simpa using hj3)]
    have ho : l[j / 3]? = some (oA l (j / 3)) := by unfold oA; rw [List.getD_eq_getElem?_getD, List.getElem?_eq_getElem hq]; rfl
    have hd : ((l.map toOn).toArray)[j / 3]! = toOn (oA l (j / 3)) := by
      rw [getElem!_pos _ _ (by simpa using hq)]
      simp [oA, List.getD_eq_getElem?_getD, List.getElem?_eq_getElem hq]
    have hm : oA l (j / 3) ∈ l := List.mem_of_getElem? ho
    rw [hd]
    unfold encO
    rw [onO_toOn (hl _ hm).1]
    obtain ⟨e0, e1, e2⟩ := cellsO_at l (j / 3) _ ho
    have ad : ∀ t, (⟨g, 0, none⟩ : Addr).add t = ⟨g, 0 + t, none⟩ := fun t => by
      unfold Addr.add
      split
      · rename_i h0
        first
          | (simp at h0; simp [h0])
          | simp_all
      · rfl
    rw [← ad]
    refine hc _ ?_
    have hr : j % 3 = 0 ∨ j % 3 = 1 ∨ j % 3 = 2 := by omega
    rcases hr with hr | hr | hr
    · rw [hr, show j = j / 3 * 3 by omega, Nat.mul_div_cancel _ (by decide), e0]; rfl
    · rw [hr, show j = j / 3 * 3 + 1 by omega, show (j / 3 * 3 + 1) / 3 = j / 3 by omega, e1]; rfl
    · rw [hr, show j = j / 3 * 3 + 2 by omega, show (j / 3 * 3 + 2) / 3 = j / 3 by omega, e2]; rfl
theorem enters66 : ∀ args w, (callFunc 66 args).run Try.prog w = .ok (.enter 66 args) w := enters_of Try.func66 (by kernel_rfl) rfl
set_option maxHeartbeats 1000000 in
theorem sort_any (p g n c : Nat) (l : List Ofr) (hl : ∀ o ∈ l, 0 ≤ o.1 ∧ o.1 ≤ 7) (w : World) (h : w.ownsRow p 72 3 (.slice (some ⟨g, 0, none⟩) n c) n (cellsO l)) (hn : n ≤ 16) :
    Calls Try.prog 65 #[.slice (some ⟨g, 0, none⟩) n c, .func (.func 66) #[] #[]] w fun e w' => e = .returned (.tuple #[]) ∧ OffAt w'.heap.size w' (some ⟨g, 0, none⟩) n (sortO l) ∧ w.grownBy w' (some g) := by
  have hlen : l.length = n := by
    have := h.1
    rw [cellsO_len] at this
    omega
  have hg := (h.lt g rfl).2
  have hs : ((l.map toOn).toArray).size = n := by simp [hlen]
  have hH := holds_of_row h hl
  have hcmp : CmpLays Try.prog 66 #[] encO 3 cfO g 0 (l.map toOn).toArray.size w := fun m os dk hd x y => by
    refine (byBuyer_any (onO x) (onO y) _).mono ?_
    rintro e w' ⟨rfl, q, os', rfl⟩
    exact ⟨rfl, q, os', rfl⟩
  have hI := AnyQ.insertionSortCmpFunc Try.laysIns 3 Try.isAgg72 Try.sizeOf72 encO (fun _ => rfl) (fun x => by
    intro v hv
    simp [encO, ofC] at hv
    rcases hv with rfl | rfl | rfl <;> rfl) cfO 66 #[] g 0 c 0 (l.map toOn).toArray.size (l.map toOn).toArray w enters66 hcmp hH hg (Nat.zero_le _) (Nat.le_refl _) (by omega)
  rw [hs] at hI
  refine SortStable_any (some ⟨g, 0, none⟩) n c hn _ w _ (Calls.mono hI ?_)
  rintro e w' ⟨rfl, m, os, rfl⟩
  refine ⟨rfl, ?_, sortWorldK_grownBy ..⟩
  have hz : (insertionSort (ltOf cfO) (l.map toOn).toArray 0 n).size = (l.map toOn).toArray.size := by
    have hw : SWO (ltOf cfO) := ⟨fun x => by rw [ltO]; simp, fun x y z a b => by rw [ltO] at *; simp at *; omega, fun x y z a b => by rw [ltO] at *; simp at *; omega⟩
    exact (insertionSort_holds hw (l.map toOn).toArray 0 n (Nat.zero_le _) (by omega)).1.1
  have hk := holdsK_sortWorldK_c encO 3 w g 0 (l.map toOn).toArray _ m os hH hg hz
  have := off_of_holds (n := n) (by rw [hz, hs]) (fun _ => Nat.lt_of_lt_of_le hg (size_sortWorldK_c encO 3 w g 0 m _ os)) hk
  rw [show (insertionSort (ltOf cfO) (l.map toOn).toArray 0 n).toList.map onO = sortO l by rw [← sorted_eq l hl, hs]] at this
  exact this
end Go.Proofs.Ytpobfdhmggkbaaa
