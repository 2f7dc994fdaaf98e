/- The words in which the calls of package proof are described: worlds that have only grown, rows of numbers. -/
import Derived.Test.YtbinmkigolkhcaaDoorProg
import Derived.WalkKit
import Derived.WalkSpells
import Derived.WalkLawsBesides
import Derived.Deep.LoopGhost
import Derived.BigQuiet
import Derived.BigRegion
import Derived.Lib.Hide
import Derived.Shelf.SlSortCmp.QuietGrown
namespace Go.Proofs.YtbinmkigolkhcaaDoor
open Go.RowKit Go.Sort

theorem mixedOrders : Tryd.prog.follows .mixedOrders = true := by kernel_rfl

theorem hide {p : Prop} (h : p) : Hid p := h

/-- THE WORLD HAS ONLY GROWN: draws and new blocks. -/
def Gr (w w' : World) : Prop := ∃ (n : Nat) (os : Array Obj), w' = grow (w.drewN n) os
theorem Gr.refl (w : World) : Gr w w := ⟨0, #[], by rw [grow_empty]; rfl⟩
theorem Gr.trans {a b c : World} (h : Gr a b) (k : Gr b c) : Gr a c := by
  obtain ⟨n, os, rfl⟩ := h
  obtain ⟨m, os', rfl⟩ := k
  exact ⟨n + m, os ++ os', by show grow (grow ((a.drewN n).drewN m) os) os' = _; rw [grow_grow, World.drewN_drewN]⟩
theorem Gr.alloc {a b : World} (h : Gr a b) (o : Obj) : Gr a (b.alloc o) := h.trans ⟨0, #[o], by rw [alloc_eq_grow]; rfl⟩
theorem Gr.drew {a b : World} (h : Gr a b) : Gr a b.drew := h.trans ⟨1, #[], by rw [grow_empty]; rfl⟩
theorem Gr.drewN {a b : World} (h : Gr a b) (n : Nat) : Gr a (b.drewN n) := h.trans ⟨n, #[], by rw [grow_empty]⟩
theorem Gr.grow {a b : World} (h : Gr a b) (n : Nat) (os : Array Obj) : Gr a (Sort.grow (b.drewN n) os) := h.trans ⟨n, os, rfl⟩
theorem Gr.size {a b : World} (h : Gr a b) : a.heap.size ≤ b.heap.size := by
  obtain ⟨n, os, rfl⟩ := h
  rw [size_grow]
  exact Nat.le_add_right _ _
theorem Gr.cell {a b : World} (h : Gr a b) {p : Addr} (hp : p.block < a.heap.size) : b.cell? p = a.cell? p := by
  obtain ⟨n, os, rfl⟩ := h
  rw [cell?_grow _ _ _ (by exact hp)]
  rfl
theorem Gr.frozen {a b : World} (h : Gr a b) {p : Addr} (hp : p.block < a.heap.size) : b.frozen? p = a.frozen? p := by
  obtain ⟨n, os, rfl⟩ := h
  rw [frozen?_grow _ _ _ (by exact hp)]
  rfl
theorem Gr.block {a b : World} (h : Gr a b) {k : Nat} (hk : k < a.heap.size) : b.heap[k]? = a.heap[k]? := by
  obtain ⟨n, os, rfl⟩ := h
  rw [heap_grow_old _ _ (by exact hk)]
  rfl
theorem Gr.below {a b : World} (h : Gr a b) : Below a.heap.size a b := by
  obtain ⟨n, os, rfl⟩ := h
  exact ⟨rfl, rfl, rfl, by rw [size_grow]; exact Nat.le_add_right _ _, fun k hk => heap_grow_old _ _ (by exact hk)⟩
theorem Gr.grownBy {a b : World} (h : Gr a b) (row : Option Nat) : a.grownBy b row := by
  have hb := h.below
  exact ⟨hb.os, hb.tape, hb.output, hb.size, fun k hk _ => hb.block k hk⟩

/-- a span: its lower and its upper end -/
abbrev Sp := Int × Int
def loA (xs : List Sp) (i : Nat) : Int := (xs.getD i (0, 0)).1
def hiA (xs : List Sp) (i : Nat) : Int := (xs.getD i (0, 0)).2
/-- the slice value (address A, length n) holds the spans xs, in a block below B -/
def SpansAt (B : Nat) (w : World) (A : Option Addr) (n : Nat) (xs : List Sp) : Prop :=
  xs.length = n ∧ (n = 0 ∨ ∃ b off, A = some ⟨b, off, none⟩ ∧ b < B ∧ ∀ i, i < n → w.cell? ⟨b, off + i * 2, none⟩ = some (.int .i64 (loA xs i)) ∧ w.cell? ⟨b, off + i * 2 + 1, none⟩ = some (.int .i64 (hiA xs i)))
theorem SpansAt.mono {B B' : Nat} {w : World} {A : Option Addr} {n : Nat} {xs : List Sp} (h : SpansAt B w A n xs) (hB : B ≤ B') : SpansAt B' w A n xs := by
  refine ⟨h.1, ?_⟩
  rcases h.2 with h0 | ⟨b, off, e, hlt, hc⟩
  · exact .inl h0
  · exact .inr ⟨b, off, e, by omega, hc⟩
theorem SpansAt.below {B : Nat} {w w' : World} {A : Option Addr} {n : Nat} {xs : List Sp} (h : SpansAt B w A n xs) (hb : Below B w w') : SpansAt B w' A n xs := by
  refine ⟨h.1, ?_⟩
  rcases h.2 with h0 | ⟨b, off, e, hlt, hc⟩
  · exact .inl h0
  · exact .inr ⟨b, off, e, hlt, fun i hi => ⟨(hb.cell (p := ⟨b, _, none⟩) hlt).trans (hc i hi).1, (hb.cell (p := ⟨b, _, none⟩) hlt).trans (hc i hi).2⟩⟩
theorem SpansAt.gr {w w' : World} {A : Option Addr} {n : Nat} {xs : List Sp} (h : SpansAt w.heap.size w A n xs) (hg : Gr w w') : SpansAt w'.heap.size w' A n xs :=
  (h.below hg.below).mono hg.size
theorem SpansAt.now {B : Nat} {w w' : World} {A : Option Addr} {n : Nat} {xs : List Sp} (h : SpansAt B w A n xs) (hb : Below B w w') (hB : B ≤ w.heap.size) : SpansAt w'.heap.size w' A n xs :=
  (h.below hb).mono (Nat.le_trans hB hb.size)
theorem SpansAt.at_ {B : Nat} {w : World} {A : Option Addr} {n : Nat} {xs : List Sp} (h : SpansAt B w A n xs) {k : Nat} (hk : k < n) :
    ∃ b off, A = some ⟨b, off, none⟩ ∧ b < B ∧ w.cell? ⟨b, off + k * 2, none⟩ = some (.int .i64 (loA xs k)) ∧ w.cell? ⟨b, off + k * 2 + 1, none⟩ = some (.int .i64 (hiA xs k)) := by
  rcases h.2 with h0 | ⟨b, off, e, hlt, hc⟩
  · omega
  · exact ⟨b, off, e, hlt, hc k hk⟩
/-- the same where the address is known -/
theorem SpansAt.at2 {B : Nat} {w : World} {b off : Nat} {n : Nat} {xs : List Sp} (h : SpansAt B w (some ⟨b, off, none⟩) n xs) {k : Nat} (hk : k < n) :
    w.cell? ⟨b, off + k * 2, none⟩ = some (.int .i64 (loA xs k)) ∧ w.cell? ⟨b, off + k * 2 + 1, none⟩ = some (.int .i64 (hiA xs k)) := by
  obtain ⟨b', off', e, _, hc⟩ := h.at_ hk
  injection e with e
  injection e with e1 e2
  subst e1; subst e2
  exact hc

/-- a slice of ints in memory -/
def iA (xs : List Int) (i : Nat) : Int := xs.getD i 0
def IntsAt (B : Nat) (w : World) (A : Option Addr) (n : Nat) (xs : List Int) : Prop :=
  xs.length = n ∧ (n = 0 ∨ ∃ b off, A = some ⟨b, off, none⟩ ∧ b < B ∧ ∀ i, i < n → w.cell? ⟨b, off + i, none⟩ = some (.int .i64 (iA xs i)))
theorem IntsAt.mono {B B' : Nat} {w : World} {A : Option Addr} {n : Nat} {xs : List Int} (h : IntsAt B w A n xs) (hB : B ≤ B') : IntsAt B' w A n xs := by
  refine ⟨h.1, ?_⟩
  rcases h.2 with h0 | ⟨b, off, e, hlt, hc⟩
  · exact .inl h0
  · exact .inr ⟨b, off, e, by omega, hc⟩
theorem IntsAt.below {B : Nat} {w w' : World} {A : Option Addr} {n : Nat} {xs : List Int} (h : IntsAt B w A n xs) (hb : Below B w w') : IntsAt B w' A n xs := by
  refine ⟨h.1, ?_⟩
  rcases h.2 with h0 | ⟨b, off, e, hlt, hc⟩
  · exact .inl h0
  · exact .inr ⟨b, off, e, hlt, fun i hi => (hb.cell (p := ⟨b, _, none⟩) hlt).trans (hc i hi)⟩
theorem IntsAt.now {B : Nat} {w w' : World} {A : Option Addr} {n : Nat} {xs : List Int} (h : IntsAt B w A n xs) (hb : Below B w w') (hB : B ≤ w.heap.size) : IntsAt w'.heap.size w' A n xs :=
  (h.below hb).mono (Nat.le_trans hB hb.size)
theorem IntsAt.at_ {B : Nat} {w : World} {A : Option Addr} {n : Nat} {xs : List Int} (h : IntsAt B w A n xs) {k : Nat} (hk : k < n) :
    ∃ b off, A = some ⟨b, off, none⟩ ∧ b < B ∧ w.cell? ⟨b, off + k, none⟩ = some (.int .i64 (iA xs k)) := by
  rcases h.2 with h0 | ⟨b, off, e, hlt, hc⟩
  · omega
  · exact ⟨b, off, e, hlt, hc k hk⟩

theorem ret_int {k : IntKind} {a b : Int} (h : a = b) : Ending.returned (.int k a) = .returned (.int k b) := by rw [h]
theorem ret_bool {a b : Bool} (h : a = b) : Ending.returned (.bool a) = .returned (.bool b) := by rw [h]

end Go.Proofs.YtbinmkigolkhcaaDoor
