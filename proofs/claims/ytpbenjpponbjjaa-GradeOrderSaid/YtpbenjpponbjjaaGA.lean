/- The words in which the calls of package proof are described: worlds that have only grown, rows of numbers. -/
import Derived.Test.YtpbenjpponbjjaaProg
import Derived.WalkKit
import Derived.WalkSpells
import Derived.WalkLawsBesides
import Derived.Deep.LoopGhost
import Derived.BigQuiet
import Derived.BigRegion
import Derived.Lib.Hide
import Derived.Shelf.SlSortCmp.QuietGrown
import Derived.Deep.DeepCutAuto
import Derived.Maps.AppendAt
import Derived.Maps.RangeWalk
import Derived.OwnWalk
import Derived.Deep.RegionHeld3
import Derived.Below
namespace Go.Proofs.Ytpbenjpponbjjaa
open Go.RowKit Go.Sort

theorem mixedOrders : Try.prog.follows .mixedOrders = true := by kernel_rfl

theorem hide {p : Prop} (h : p) : Hid p := h

/-- THE WORLD HAS ONLY GROWN: draws and new blocks. -/
def Gr (w w' : World) : Prop := ∃ (n : Nat) (os : Array Obj), w' = grow (w.drewN n) os
theorem Gr.refl (w : World) : Gr w w := ⟨0, #[], by rw [grow_empty]; rfl⟩
theorem Gr.trans {a b c : World} (h : Gr a b) (k : Gr b c) : Gr a c := by
  obtain ⟨n, os, rfl⟩ := h
  obtain ⟨m, os', rfl⟩ := k
  exact ⟨n + m, os ++ os', by show grow (grow ((a.drewN n).drewN m) os) os' = _; rw [grow_grow, World.drewN_drewN]⟩
theorem Gr.alloc {a b : World} (h : Gr a b) (o : Obj) : Gr a (b.alloc o) := h.trans ⟨0, #[o], by rw [alloc_eq_grow]; rfl⟩
theorem Gr.drew {a b : World} (h : Gr a b) : Gr a b.drew := h.trans ⟨1, #[], by rw [grow_empty]; rfl⟩
theorem Gr.drewN {a b : World} (h : Gr a b) (n : Nat) : Gr a (b.drewN n) := h.trans ⟨n, #[], by rw [grow_empty]⟩
theorem Gr.grow {a b : World} (h : Gr a b) (n : Nat) (os : Array Obj) : Gr a (Sort.grow (b.drewN n) os) := h.trans ⟨n, os, rfl⟩
theorem Gr.size {a b : World} (h : Gr a b) : a.heap.size ≤ b.heap.size := by
  obtain ⟨n, os, rfl⟩ := h
  rw [size_grow]
  exact Nat.le_add_right _ _
theorem Gr.cell {a b : World} (h : Gr a b) {p : Addr} (hp : p.block < a.heap.size) : b.cell? p = a.cell? p := by
  obtain ⟨n, os, rfl⟩ := h
  rw [cell?_grow _ _ _ (by exact hp)]
  rfl
theorem Gr.frozen {a b : World} (h : Gr a b) {p : Addr} (hp : p.block < a.heap.size) : b.frozen? p = a.frozen? p := by
  obtain ⟨n, os, rfl⟩ := h
  rw [frozen?_grow _ _ _ (by exact hp)]
  rfl
theorem Gr.block {a b : World} (h : Gr a b) {k : Nat} (hk : k < a.heap.size) : b.heap[k]? = a.heap[k]? := by
  obtain ⟨n, os, rfl⟩ := h
  rw [heap_grow_old _ _ (by exact hk)]
  rfl
theorem Gr.below {a b : World} (h : Gr a b) : Below a.heap.size a b := by
  obtain ⟨n, os, rfl⟩ := h
  exact ⟨rfl, rfl, rfl, by rw [size_grow]; exact Nat.le_add_right _ _, fun k hk => heap_grow_old _ _ (by exact hk)⟩
theorem Gr.grownBy {a b : World} (h : Gr a b) (row : Option Nat) : a.grownBy b row := by
  have hb := h.below
  exact ⟨hb.os, hb.tape, hb.output, hb.size, fun k hk _ => hb.block k hk⟩

/-- a slice of ints in memory -/
def iA (xs : List Int) (i : Nat) : Int := xs.getD i 0
def IntsAt (B : Nat) (w : World) (A : Option Addr) (n : Nat) (xs : List Int) : Prop :=
  xs.length = n ∧ (n = 0 ∨ ∃ b off, A = some ⟨b, off, none⟩ ∧ b < B ∧ ∀ i, i < n → w.cell? ⟨b, off + i, none⟩ = some (.int .i64 (iA xs i)))
theorem IntsAt.mono {B B' : Nat} {w : World} {A : Option Addr} {n : Nat} {xs : List Int} (h : IntsAt B w A n xs) (hB : B ≤ B') : IntsAt B' w A n xs := by
  refine ⟨h.1, ?_⟩
  rcases h.2 with h0 | ⟨b, off, e, hlt, hc⟩
  · exact .inl h0
  · exact .inr ⟨b, off, e, by omega, hc⟩
theorem IntsAt.below {B : Nat} {w w' : World} {A : Option Addr} {n : Nat} {xs : List Int} (h : IntsAt B w A n xs) (hb : Below B w w') : IntsAt B w' A n xs := by
  refine ⟨h.1, ?_⟩
  rcases h.2 with h0 | ⟨b, off, e, hlt, hc⟩
  · exact .inl h0
  · exact .inr ⟨b, off, e, hlt, fun i hi => (hb.cell (p := ⟨b, _, none⟩) hlt).trans (hc i hi)⟩
theorem IntsAt.now {B : Nat} {w w' : World} {A : Option Addr} {n : Nat} {xs : List Int} (h : IntsAt B w A n xs) (hb : Below B w w') (hB : B ≤ w.heap.size) : IntsAt w'.heap.size w' A n xs :=
  (h.below hb).mono (Nat.le_trans hB hb.size)
theorem IntsAt.at_ {B : Nat} {w : World} {A : Option Addr} {n : Nat} {xs : List Int} (h : IntsAt B w A n xs) {k : Nat} (hk : k < n) :
    ∃ b off, A = some ⟨b, off, none⟩ ∧ b < B ∧ w.cell? ⟨b, off + k, none⟩ = some (.int .i64 (iA xs k)) := by
  rcases h.2 with h0 | ⟨b, off, e, hlt, hc⟩
  · omega
  · exact ⟨b, off, e, hlt, hc k hk⟩

theorem ret_int {k : IntKind} {a b : Int} (h : a = b) : Ending.returned (.int k a) = .returned (.int k b) := by rw [h]
theorem ret_bool {a b : Bool} (h : a = b) : Ending.returned (.bool a) = .returned (.bool b) := by rw [h]

/-- a world in which nothing old has turned -/
structure BelOf (w : World) where
  w' : World
  h : Below w.heap.size w w'
instance belInh (w : World) : Inhabited (BelOf w) := ⟨⟨w, Below.refl _ w⟩⟩
/-- a region that draws its order, whose operations only read, and whose callees leave all that was there: walked once -/
theorem wp_region_quiet_bel {P : Program} {id : Nat} {Q : Exit → Act → World → Prop} {a : Act} {w : World} {l : List Oper} (hm : P.follows .mixedOrders = true) (hB : Region.lexB .any l.toArray = true)
    (h : wpQuiet P l.toArray (fun w1 => ∃ p : BelOf w, w1 = p.w') (fun a' => ∀ w1, (∃ p : BelOf w, w1 = p.w') → Q .normal a' w1) l a) : (Code.region id l.toArray true).wp P Q a w :=
  wp_region_quiet (C := fun w1 => ∃ p : BelOf w, w1 = p.w') hm hB ⟨⟨_, (Below.refl _ w).drew⟩, rfl⟩ (by simpa using h)
theorem bel_call {P : Program} {f : FuncId} {args : Array Value} {w : World} {v : Value} (q : BelOf w) (h : Calls P f args q.w' fun e w2 => e = .returned v ∧ Below q.w'.heap.size q.w' w2) : Calls P f args q.w' fun e w2 => e = .returned v ∧ ∃ p : BelOf w, w2 = p.w' :=
  h.mono fun _ w2 ⟨he, hb⟩ => ⟨he, ⟨w2, q.h.trans (hb.mono q.h.size)⟩, rfl⟩

theorem bel_next {w w1 w2 : World} (h : Below w.heap.size w w1) (k : Below w1.heap.size w1 w2) : Below w.heap.size w w2 := h.trans (k.mono h.size)
theorem below_grownBy {w w' : World} (h : Below w.heap.size w w') (row : Option Nat) : w.grownBy w' row := ⟨h.os, h.tape, h.output, h.size, fun k hk _ => h.block k hk⟩
/-- a grade -/
abbrev Gd := Int × Int × Int
abbrev gdV (g : Gd) : Value := .agg #[.int .i64 g.1, .int .i64 g.2.1, .int .i64 g.2.2]
def comp (g : Gd) : Nat → Int
  | 0 => g.1
  | 1 => g.2.1
  | _ => g.2.2
def belowG (a b : Gd) : Bool := decide (a.1 ≤ b.1) && (decide (a.2.1 ≤ b.2.1) && decide (a.2.2 ≤ b.2.2))
def meetG (a b : Gd) : Gd := (min a.1 b.1, min a.2.1 b.2.1, min a.2.2 b.2.2)
def joinG (a b : Gd) : Gd := (max a.1 b.1, max a.2.1 b.2.1, max a.2.2 b.2.2)
theorem belowG_iff {a b : Gd} : belowG a b = true ↔ ∀ j, j < 3 → comp a j ≤ comp b j := by
  unfold belowG
  simp only [Bool.and_eq_true, decide_eq_true_eq]
  constructor
  · rintro ⟨h0, h1, h2⟩ j hj
    have hcase : j = 0 ∨ j = 1 ∨ j = 2 := by omega
    rcases hcase with rfl | rfl | rfl
    · exact h0
    · exact h1
    · exact h2
  · intro h
    exact ⟨h 0 (by decide), h 1 (by decide), h 2 (by decide)⟩
theorem box3 {W : World} {p : Nat} {a b c : Value} {ty : TypeId} (h : W.heap[p]? = some (.cells #[a, b, c] ty (0, 0))) : W.cell? ⟨p, 0, none⟩ = some a ∧ W.cell? ⟨p, 1, none⟩ = some b ∧ W.cell? ⟨p, 2, none⟩ = some c := by
  refine ⟨?_, ?_, ?_⟩ <;> simp [World.cell?, h]
theorem boxc {W : World} {p : Nat} {g : Gd} {ty : TypeId} (h : W.heap[p]? = some (.cells #[.int .i64 g.1, .int .i64 g.2.1, .int .i64 g.2.2] ty (0, 0))) {i : Nat} (hi : i < 3) : W.cell? ⟨p, i, none⟩ = some (.int .i64 (comp g i)) := by
  obtain ⟨h0, h1, h2⟩ := box3 h
  have hcase : i = 0 ∨ i = 1 ∨ i = 2 := by omega
  rcases hcase with rfl | rfl | rfl
  · exact h0
  · exact h1
  · exact h2
end Go.Proofs.Ytpbenjpponbjjaa
