/- The words in which the calls of package curve and of its specification are described: ints in memory, worlds that have only grown, plain curves. -/
import Derived.Test.YtdepnhnpklbmiaaProg
import Derived.WalkKit
import Derived.WalkSpells
import Derived.WalkLawsBesides
import Derived.Deep.LoopGhost
import Derived.BigQuiet
import Derived.BigRegion
import Derived.Lib.Hide
import Derived.Shelf.SlSortCmp.QuietGrown
namespace Go.Proofs.Ytdepnhnpklbmiaa
open Go.RowKit Go.Sort

theorem mixedOrders : Try.prog.follows .mixedOrders = true := by kernel_rfl

theorem hide {p : Prop} (h : p) : Hid p := h

/-- THE WORLD HAS ONLY GROWN: draws and new blocks. -/
def Gr (w w' : World) : Prop := ∃ (n : Nat) (os : Array Obj), w' = grow (w.drewN n) os
theorem Gr.refl (w : World) : Gr w w := ⟨0, #[], by rw [grow_empty]; rfl⟩
theorem Gr.trans {a b c : World} (h : Gr a b) (k : Gr b c) : Gr a c := by
  obtain ⟨n, os, rfl⟩ := h
  obtain ⟨m, os', rfl⟩ := k
  exact ⟨n + m, os ++ os', by show grow (grow ((a.drewN n).drewN m) os) os' = _; rw [grow_grow, World.drewN_drewN]⟩
theorem Gr.alloc {a b : World} (h : Gr a b) (o : Obj) : Gr a (b.alloc o) := h.trans ⟨0, #[o], by rw [alloc_eq_grow]; rfl⟩
theorem Gr.drew {a b : World} (h : Gr a b) : Gr a b.drew := h.trans ⟨1, #[], by rw [grow_empty]; rfl⟩
theorem Gr.drewN {a b : World} (h : Gr a b) (n : Nat) : Gr a (b.drewN n) := h.trans ⟨n, #[], by rw [grow_empty]⟩
theorem Gr.grow {a b : World} (h : Gr a b) (n : Nat) (os : Array Obj) : Gr a (Sort.grow (b.drewN n) os) := h.trans ⟨n, os, rfl⟩
theorem Gr.size {a b : World} (h : Gr a b) : a.heap.size ≤ b.heap.size := by
  obtain ⟨n, os, rfl⟩ := h
  rw [size_grow]
  exact Nat.le_add_right _ _
theorem Gr.cell {a b : World} (h : Gr a b) {p : Addr} (hp : p.block < a.heap.size) : b.cell? p = a.cell? p := by
  obtain ⟨n, os, rfl⟩ := h
  rw [cell?_grow _ _ _ (by exact hp)]
  rfl
theorem Gr.frozen {a b : World} (h : Gr a b) {p : Addr} (hp : p.block < a.heap.size) : b.frozen? p = a.frozen? p := by
  obtain ⟨n, os, rfl⟩ := h
  rw [frozen?_grow _ _ _ (by exact hp)]
  rfl
theorem Gr.block {a b : World} (h : Gr a b) {k : Nat} (hk : k < a.heap.size) : b.heap[k]? = a.heap[k]? := by
  obtain ⟨n, os, rfl⟩ := h
  rw [heap_grow_old _ _ (by exact hk)]
  rfl
theorem Gr.below {a b : World} (h : Gr a b) : Below a.heap.size a b := by
  obtain ⟨n, os, rfl⟩ := h
  exact ⟨rfl, rfl, rfl, by rw [size_grow]; exact Nat.le_add_right _ _, fun k hk => heap_grow_old _ _ (by exact hk)⟩
theorem Gr.grownBy {a b : World} (h : Gr a b) (row : Option Nat) : a.grownBy b row := by
  have hb := h.below
  exact ⟨hb.os, hb.tape, hb.output, hb.size, fun k hk _ => hb.block k hk⟩

/-- a slice of ints in memory -/
def iA (xs : List Int) (i : Nat) : Int := xs.getD i 0
def IntsAt (B : Nat) (w : World) (A : Option Addr) (n : Nat) (xs : List Int) : Prop :=
  xs.length = n ∧ (n = 0 ∨ ∃ b off, A = some ⟨b, off, none⟩ ∧ b < B ∧ ∀ i, i < n → w.cell? ⟨b, off + i, none⟩ = some (.int .i64 (iA xs i)))
theorem IntsAt.mono {B B' : Nat} {w : World} {A : Option Addr} {n : Nat} {xs : List Int} (h : IntsAt B w A n xs) (hB : B ≤ B') : IntsAt B' w A n xs := by
  refine ⟨h.1, ?_⟩
  rcases h.2 with h0 | ⟨b, off, e, hlt, hc⟩
  · exact .inl h0
  · exact .inr ⟨b, off, e, by omega, hc⟩
theorem IntsAt.below {B : Nat} {w w' : World} {A : Option Addr} {n : Nat} {xs : List Int} (h : IntsAt B w A n xs) (hb : Below B w w') : IntsAt B w' A n xs := by
  refine ⟨h.1, ?_⟩
  rcases h.2 with h0 | ⟨b, off, e, hlt, hc⟩
  · exact .inl h0
  · exact .inr ⟨b, off, e, hlt, fun i hi => (hb.cell (p := ⟨b, _, none⟩) hlt).trans (hc i hi)⟩
theorem IntsAt.now {B : Nat} {w w' : World} {A : Option Addr} {n : Nat} {xs : List Int} (h : IntsAt B w A n xs) (hb : Below B w w') (hB : B ≤ w.heap.size) : IntsAt w'.heap.size w' A n xs :=
  (h.below hb).mono (Nat.le_trans hB hb.size)
theorem IntsAt.at_ {B : Nat} {w : World} {A : Option Addr} {n : Nat} {xs : List Int} (h : IntsAt B w A n xs) {k : Nat} (hk : k < n) :
    ∃ b off, A = some ⟨b, off, none⟩ ∧ b < B ∧ w.cell? ⟨b, off + k, none⟩ = some (.int .i64 (iA xs k)) := by
  rcases h.2 with h0 | ⟨b, off, e, hlt, hc⟩
  · omega
  · exact ⟨b, off, e, hlt, hc k hk⟩

theorem ret_int {k : IntKind} {a b : Int} (h : a = b) : Ending.returned (.int k a) = .returned (.int k b) := by rw [h]
theorem ret_bool {a b : Bool} (h : a = b) : Ending.returned (.bool a) = .returned (.bool b) := by rw [h]

theorem IntsAt.gr {w w' : World} {A : Option Addr} {n : Nat} {xs : List Int} (h : IntsAt w.heap.size w A n xs) (hg : Gr w w') : IntsAt w'.heap.size w' A n xs :=
  (h.below hg.below).mono hg.size
theorem IntsAt.at2 {B : Nat} {w : World} {b off : Nat} {n : Nat} {xs : List Int} (h : IntsAt B w (some ⟨b, off, none⟩) n xs) {k : Nat} (hk : k < n) :
    w.cell? ⟨b, off + k, none⟩ = some (.int .i64 (iA xs k)) := by
  obtain ⟨b', off', e, _, hc⟩ := h.at_ hk
  injection e with e
  injection e with e1 e2
  subst e1; subst e2
  exact hc
theorem iA_get {xs : List Int} {k : Nat} (h : k < xs.length) : iA xs k = xs[k] := by
  unfold iA
  simp [List.getD_eq_getElem?_getD, List.getElem?_eq_getElem h]

/-! ### plain functions -/
/-- a curve: From, First, Slopes -/
structure Cu where
  fr : Int
  fst : Int
  sl : List Int
def Cu.zero : Cu := ⟨0, 0, []⟩
/-- is n from -most to most? -/
def inB (n most : Int) : Bool := decide (-most ≤ n ∧ n ≤ most)
theorem inB_true {n most : Int} (h : inB n most = true) : -most ≤ n ∧ n ≤ most := of_decide_eq_true h
/-- do the first k numbers not fall? -/
def ascTo (xs : List Int) (k : Nat) : Prop := ∀ i, i + 1 < k → iA xs i ≤ iA xs (i + 1)
instance (xs : List Int) (k : Nat) : Decidable (ascTo xs k) := decidable_of_iff (∀ i, i < k - 1 → iA xs i ≤ iA xs (i + 1)) ⟨fun h i hi => h i (by omega), fun h i hi => h i (by omega)⟩
/-- are the first k numbers slopes? -/
def slTo (xs : List Int) (k : Nat) : Prop := ∀ i, i < k → inB (iA xs i) 1048576 = true
instance (xs : List Int) (k : Nat) : Decidable (slTo xs k) := by unfold slTo; infer_instance
/-- is the curve valid? -/
def okC (c : Cu) : Bool := decide (inB c.fr 1048576 = true ∧ inB c.fst 1099511627776 = true ∧ c.sl.length ≤ 64 ∧ ascTo c.sl c.sl.length ∧ slTo c.sl c.sl.length)
theorem okC_true {c : Cu} (h : okC c = true) : inB c.fr 1048576 = true ∧ inB c.fst 1099511627776 = true ∧ c.sl.length ≤ 64 ∧ ascTo c.sl c.sl.length ∧ slTo c.sl c.sl.length := of_decide_eq_true h
/-- the curve as a value -/
def cuV (c : Cu) (A : Option Addr) (n cap : Nat) : Value := .agg #[.int .i64 c.fr, .int .i64 c.fst, .slice A n cap]

end Go.Proofs.Ytdepnhnpklbmiaa
