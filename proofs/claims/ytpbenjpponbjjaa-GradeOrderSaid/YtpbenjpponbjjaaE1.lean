/- A memory told by plain numbers: abstract values, abstract blocks, and what it is for a world to be as they say. -/
import Derived.WalkKit
import Derived.WalkSpells
import Derived.WalkLawsBesides
namespace Go.Proofs.Ytpbenjpponbjjaa.En
open Go.RowKit

inductive S where
  | v (x : Value)
  | ptr (b o : Nat)
  | slc (b o n : Nat)
  deriving Inhabited
inductive A where
  | s (x : S)
  | fn (f : Fn) (first cap : List S)
  deriving Inhabited
inductive AT where
  | a (x : A)
  | agg (l : List A)
  deriving Inhabited
inductive AV where
  | t (x : AT)
  | tup (l : List AT)
  | any
  deriving Inhabited

/-- where a block lies -/
structure Base where
  on : Bool
  ext : Bool
  addr : Option Addr
  cap : Nat
  sz : Nat
instance : Inhabited Base := ⟨⟨false, false, none, 0, 0⟩⟩
abbrev Pl := Nat → Base

def LRel {α : Type} (R : α → Value → Prop) : List α → List Value → Prop
  | [], [] => True
  | x :: xs, u :: us => R x u ∧ LRel R xs us
  | _, _ => False

def SlAt (B : Base) (o n : Nat) (ad : Option Addr) (c : Nat) : Prop :=
  (∃ a, B.addr = some a ∧ a.spot = none ∧ ad = some (a.add o) ∧ o + c * B.sz ≤ B.cap ∧ (o = 0 → c * B.sz = B.cap)) ∨ (n = 0 ∧ (c = 0 ∨ (B.ext = true ∧ B.addr = none)))
def SRel (ρ : Pl) : S → Value → Prop
  | .v x, u => u = x
  | .ptr b o, u => (ρ b).on = true ∧ ∃ a, (ρ b).addr = some a ∧ a.spot = none ∧ u = .pointer (some (a.add o))
  | .slc b o n, u => (ρ b).on = true ∧ ∃ ad c, u = .slice ad n c ∧ n ≤ c ∧ c ≤ maxLen ∧ SlAt (ρ b) o n ad c
def ARel (ρ : Pl) : A → Value → Prop
  | .s x, u => SRel ρ x u
  | .fn f first cap, u => ∃ fi ca : Array Value, u = .func f fi ca ∧ LRel (SRel ρ) first fi.toList ∧ LRel (SRel ρ) cap ca.toList
def ATRel (ρ : Pl) : AT → Value → Prop
  | .a x, u => ARel ρ x u
  | .agg l, u => ∃ cs : Array Value, u = .agg cs ∧ LRel (ARel ρ) l cs.toList
def VRel (ρ : Pl) : AV → Value → Prop
  | .t x, u => ATRel ρ x u
  | .tup l, u => ∃ vs : Array Value, u = .tuple vs ∧ LRel (ATRel ρ) l vs.toList
  | .any, _ => True

def Ext (ρ ρ' : Pl) : Prop := ∀ i, (ρ i).on = true → ρ' i = ρ i
theorem Ext.refl (ρ : Pl) : Ext ρ ρ := fun _ _ => rfl
theorem Ext.trans {a b c : Pl} (h : Ext a b) (k : Ext b c) : Ext a c := fun i hi => (k i (by rw [h i hi]; exact hi)).trans (h i hi)

theorem LRel.mono {α : Type} {R R' : α → Value → Prop} (h : ∀ x u, R x u → R' x u) : ∀ {l : List α} {us : List Value}, LRel R l us → LRel R' l us
  | [], [], _ => trivial
  | _ :: _, _ :: _, ⟨a, b⟩ => ⟨h _ _ a, LRel.mono h b⟩
theorem LRel.length {α : Type} {R : α → Value → Prop} : ∀ {l : List α} {us : List Value}, LRel R l us → us.length = l.length
  | [], [], _ => rfl
  | _ :: _, _ :: _, ⟨_, b⟩ => by simp [LRel.length b]
theorem LRel.get {α : Type} {R : α → Value → Prop} : ∀ {l : List α} {us : List Value}, LRel R l us → ∀ {j : Nat} {x : α}, l[j]? = some x → ∃ u, us[j]? = some u ∧ R x u
  | [], [], _, j, x, h => by simp at h
  | _ :: _, u :: _, ⟨a, b⟩, 0, x, h => by
    simp at h
    subst h
    exact ⟨u, by simp, a⟩
  | _ :: _, _ :: _, ⟨_, b⟩, j + 1, x, h => by
    simp at h
    simpa using LRel.get b h
theorem LRel.of_get {α : Type} {R : α → Value → Prop} : ∀ {l : List α} {us : List Value}, us.length = l.length → (∀ (j : Nat) (x : α), l[j]? = some x → ∃ u, us[j]? = some u ∧ R x u) → LRel R l us
  | [], [], _, _ => trivial
  | [], _ :: _, h, _ => by simp at h
  | _ :: _, [], h, _ => by simp at h
  | x :: l, u :: us, h, H => by
    refine ⟨?_, LRel.of_get (by simpa using h) fun j y hy => ?_⟩
    · obtain ⟨u', h1, h2⟩ := H 0 x (by simp)
      simp at h1
      subst h1
      exact h2
    · simpa using H (j + 1) y (by simpa using hy)
theorem LRel.append {α : Type} {R : α → Value → Prop} : ∀ {l : List α} {us : List Value} {l' : List α} {us' : List Value}, LRel R l us → LRel R l' us' → LRel R (l ++ l') (us ++ us')
  | [], [], _, _, _, h => h
  | _ :: _, _ :: _, _, _, ⟨a, b⟩, h => ⟨a, LRel.append b h⟩
theorem LRel.set {α : Type} {R : α → Value → Prop} {x : α} {u : Value} (hx : R x u) : ∀ {l : List α} {us : List Value}, LRel R l us → ∀ j, LRel R (l.set j x) (us.set j u)
  | [], [], _, _ => trivial
  | _ :: _, _ :: _, ⟨_, b⟩, 0 => ⟨hx, b⟩
  | _ :: _, _ :: _, ⟨a, b⟩, j + 1 => ⟨a, LRel.set hx b j⟩
theorem LRel.take {α : Type} {R : α → Value → Prop} : ∀ {l : List α} {us : List Value}, LRel R l us → ∀ n, LRel R (l.take n) (us.take n)
  | [], [], _, n => by simp [LRel]
  | _ :: _, _ :: _, _, 0 => by simp [LRel]
  | _ :: _, _ :: _, ⟨a, b⟩, n + 1 => ⟨a, LRel.take b n⟩
theorem LRel.drop {α : Type} {R : α → Value → Prop} : ∀ {l : List α} {us : List Value}, LRel R l us → ∀ n, LRel R (l.drop n) (us.drop n)
  | [], [], _, n => by simp [LRel]
  | _ :: _, _ :: _, h, 0 => h
  | _ :: _, _ :: _, ⟨_, b⟩, n + 1 => LRel.drop b n
theorem SRel.mono {ρ ρ' : Pl} (h : Ext ρ ρ') : ∀ {x : S} {u : Value}, SRel ρ x u → SRel ρ' x u
  | .v _, _, e => e
  | .ptr b o, _, ⟨e, r⟩ => by
    show (ρ' b).on = true ∧ _
    rw [h b e]
    exact ⟨e, r⟩
  | .slc b o n, _, ⟨e, r⟩ => by
    show (ρ' b).on = true ∧ _
    rw [h b e]
    exact ⟨e, r⟩
theorem ARel.mono {ρ ρ' : Pl} (h : Ext ρ ρ') : ∀ {x : A} {u : Value}, ARel ρ x u → ARel ρ' x u
  | .s _, _, e => SRel.mono h e
  | .fn _ _ _, _, ⟨fi, ca, e, a, b⟩ => ⟨fi, ca, e, a.mono fun _ _ => SRel.mono h, b.mono fun _ _ => SRel.mono h⟩
theorem ATRel.mono {ρ ρ' : Pl} (h : Ext ρ ρ') : ∀ {x : AT} {u : Value}, ATRel ρ x u → ATRel ρ' x u
  | .a _, _, e => ARel.mono h e
  | .agg _, _, ⟨cs, e, a⟩ => ⟨cs, e, a.mono fun _ _ => ARel.mono h⟩
theorem VRel.mono {ρ ρ' : Pl} (h : Ext ρ ρ') : ∀ {x : AV} {u : Value}, VRel ρ x u → VRel ρ' x u
  | .t _, _, e => ATRel.mono h e
  | .tup _, _, ⟨vs, e, a⟩ => ⟨vs, e, a.mono fun _ _ => ATRel.mono h⟩
  | .any, _, _ => trivial

/-! ### blocks -/
inductive RK where
  | int (k : IntKind)
  | bool
  deriving DecidableEq, Inhabited
def RK.val : RK → Int → Value
  | .int k, n => .int k n
  | .bool, n => .bool (n != 0)
inductive Body where
  | dead
  | cells (l : List A)
  | rows (k : RK) (xs : List Int)
  | recs (p : List RK) (xs : List Int)
  | ptrs (b : Nat) (os : List Nat)
  deriving Inhabited
def Body.get : Body → Nat → Option (Bool × A)
  | .dead, _ => none
  | .cells l, j => (l[j]?).map fun x => (true, x)
  | .rows k xs, j => some (decide (j < xs.length), .s (.v (k.val (xs.getD j 0))))
  | .recs p xs, j => some (decide (j < xs.length), .s (.v ((p.getD (j % p.length) .bool).val (xs.getD j 0))))
  | .ptrs b os, j => some (decide (j < os.length), .s (.ptr b (os.getD j 0)))
def Body.len : Body → Nat
  | .dead => 0
  | .cells l => l.length
  | .rows _ xs => xs.length
  | .recs _ xs => xs.length
  | .ptrs _ os => os.length
def Body.live : Body → Bool
  | .dead => false
  | _ => true
structure Blk where
  rw : Bool
  fix : Bool
  ty : TypeId
  sz : Nat
  body : Body
  deriving Inhabited
abbrev AH := List Blk

structure BRel (ρ : Pl) (b : Nat) (blk : Blk) (w : World) : Prop where
  on : (ρ b).on = true
  rw : blk.rw = true → (ρ b).ext = false
  sz : (ρ b).sz = blk.sz
  lt : ∀ a, (ρ b).addr = some a → a.spot = none ∧ a.block < w.heap.size
  cell : ∀ j x, blk.body.get j = some (true, x) → ∃ a u, (ρ b).addr = some a ∧ w.cell? (a.add j) = some u ∧ ARel ρ x u
  own : blk.rw = true → ∀ a, (ρ b).addr = some a → a.off = 0 ∧ ∃ arr, w.heap[a.block]? = some (.cells arr blk.ty (0, 0)) ∧ arr.size = (ρ b).cap ∧ blk.body.len ≤ arr.size ∧ (blk.fix = true → arr.size = blk.body.len)
  nil : blk.rw = true → (ρ b).addr = none → (ρ b).cap = 0

/-- what a call may write, and what it was called in -/
structure Cx where
  w0 : World
  own : Nat → Prop
  all : ∀ k, w0.heap.size ≤ k → own k

structure Inv (C : Cx) (ρ : Pl) (H : AH) (w : World) : Prop where
  blk : ∀ (i : Nat) b, H[i]? = some b → b.body.live = true → BRel ρ i b w
  on : ∀ i, i < H.length → (ρ i).on = true
  off : ∀ i, H.length ≤ i → (ρ i).on = false
  sep : ∀ (i j : Nat) bi bj, i ≠ j → H[i]? = some bi → H[j]? = some bj → bi.body.live = true → bj.body.live = true → bi.rw = true → ∀ a a', (ρ i).addr = some a → (ρ j).addr = some a' → a.block ≠ a'.block
  own : ∀ (i : Nat) b, H[i]? = some b → b.body.live = true → b.rw = true → ∀ a, (ρ i).addr = some a → C.own a.block
  os : w.os = C.w0.os
  tape : w.tape = C.w0.tape
  output : w.output = C.w0.output
  size : C.w0.heap.size ≤ w.heap.size
  kept : ∀ k, k < C.w0.heap.size → ¬ C.own k → w.heap[k]? = C.w0.heap[k]?

theorem addr_add (g o j : Nat) : (⟨g, o, none⟩ : Addr).add j = ⟨g, o + j, none⟩ := by
  unfold Addr.add
  split
  · rename_i h
    subst h
    rfl
  · rfl
theorem addr_add' {a : Addr} (h : a.spot = none) (j : Nat) : a.add j = ⟨a.block, a.off + j, none⟩ := by
  obtain ⟨g, o, s⟩ := a
  simp only at h
  subst h
  exact addr_add g o j
theorem addr_add_add (a : Addr) (h : a.spot = none) (i j : Nat) : (a.add i).add j = a.add (i + j) := by
  rw [addr_add' h, addr_add' h, addr_add, Nat.add_assoc]
theorem addr_add_block (a : Addr) (j : Nat) : (a.add j).block = a.block := by
  unfold Addr.add
  split <;> rfl
theorem addr_add_spot {a : Addr} (h : a.spot = none) (j : Nat) : (a.add j).spot = none := by rw [addr_add' h]

def upd (ρ : Pl) (n : Nat) (b : Base) : Pl := fun i => if i = n then b else ρ i
theorem upd_same (ρ : Pl) (n : Nat) (b : Base) : upd ρ n b n = b := if_pos rfl
theorem upd_other (ρ : Pl) {n i : Nat} (b : Base) (h : i ≠ n) : upd ρ n b i = ρ i := if_neg h
theorem ext_upd {ρ : Pl} {n : Nat} (b : Base) (h : (ρ n).on = false) : Ext ρ (upd ρ n b) := fun i hi => upd_other ρ b (by rintro rfl; rw [h] at hi; cases hi)

/-- a block that is still there, in a world where its memory has not turned -/
theorem BRel.keep {ρ ρ' : Pl} {b : Nat} {blk : Blk} {w w' : World} (h : BRel ρ b blk w) (he : Ext ρ ρ') (hs : w.heap.size ≤ w'.heap.size) (hb : ∀ a, (ρ b).addr = some a → w'.heap[a.block]? = w.heap[a.block]?) : BRel ρ' b blk w' := by
  have e := he b h.on
  refine ⟨by rw [e]; exact h.on, by rw [e]; exact h.rw, by rw [e]; exact h.sz, ?_, ?_, ?_, ?_⟩
  · rw [e]
    exact fun a ha => ⟨(h.lt a ha).1, Nat.lt_of_lt_of_le (h.lt a ha).2 hs⟩
  · rw [e]
    intro j x hx
    obtain ⟨a, u, h1, h2, h3⟩ := h.cell j x hx
    refine ⟨a, u, h1, ?_, h3.mono he⟩
    rw [← h2]
    exact World.cell?_of_block (by rw [addr_add_block]; exact hb a h1)
  · rw [e]
    intro hr a ha
    obtain ⟨h1, arr, h2, h3⟩ := h.own hr a ha
    exact ⟨h1, arr, by rw [hb a ha]; exact h2, h3⟩
  · rw [e]
    exact h.nil

/-- a draw -/
theorem Inv.same {C : Cx} {ρ : Pl} {H : AH} {w w' : World} (h : Inv C ρ H w) (hh : w'.heap = w.heap) (ho : w'.os = w.os) (ht : w'.tape = w.tape) (hp : w'.output = w.output) : Inv C ρ H w' :=
  ⟨fun i b hb hl => (h.blk i b hb hl).keep (Ext.refl ρ) (by rw [hh]; exact Nat.le_refl _) (fun _ _ => by rw [hh]), h.on, h.off, h.sep, h.own, ho.trans h.os, ht.trans h.tape, hp.trans h.output, by rw [hh]; exact h.size, by rw [hh]; exact h.kept⟩
theorem Inv.drew {C : Cx} {ρ : Pl} {H : AH} {w : World} (h : Inv C ρ H w) : Inv C ρ H w.drew := h.same rfl rfl rfl rfl

/-- a block forgotten -/
theorem getElem?_append_one {α : Type} {l : List α} {x y : α} {i : Nat} (h : (l ++ [x])[i]? = some y) : (l[i]? = some y ∧ i < l.length) ∨ (i = l.length ∧ y = x) := by
  rcases Nat.lt_or_ge i l.length with h' | h'
  · rw [List.getElem?_append_left h'] at h
    exact .inl ⟨h, h'⟩
  · rw [List.getElem?_append_right h'] at h
    rcases Nat.eq_or_lt_of_le h' with h2 | h2
    · rw [← h2] at h
      simp at h
      exact .inr ⟨h2.symm, h.symm⟩
    · have : i - l.length ≠ 0 := by omega
      rw [List.getElem?_singleton, if_neg this] at h
      cases h

theorem on_append {ρ : Pl} {H : AH} {x : Blk} {B : Base} (h : ∀ i, i < H.length → (ρ i).on = true) (hB : B.on = true) : ∀ i, i < (H ++ [x]).length → (upd ρ H.length B i).on = true := fun i hi => by
  by_cases e : i = H.length
  · subst e
    rw [upd_same]
    exact hB
  · rw [upd_other _ _ e]
    exact h i (by simp at hi; omega)
/-- a new block of cells -/
theorem Inv.alloc {C : Cx} {ρ : Pl} {H : AH} {w : World} (h : Inv C ρ H w) (arr : Array Value) (fix : Bool) (ty : TypeId) (sz : Nat) (body : Body)
    (hc : ∀ j x, body.get j = some (true, x) → ∃ u, arr[j]? = some u ∧ ARel ρ x u) (hl : body.len ≤ arr.size) (hf : fix = true → arr.size = body.len) :
    Inv C (upd ρ H.length ⟨true, false, some ⟨w.heap.size, 0, none⟩, arr.size, sz⟩) (H ++ [⟨true, fix, ty, sz, body⟩]) (w.alloc (.cells arr ty)) ∧ Ext ρ (upd ρ H.length ⟨true, false, some ⟨w.heap.size, 0, none⟩, arr.size, sz⟩) := by
  have hoff := h.off H.length (Nat.le_refl _)
  have he := ext_upd ⟨true, false, some ⟨w.heap.size, 0, none⟩, arr.size, sz⟩ hoff
  have hold : ∀ (i : Nat) b, H[i]? = some b → b.body.live = true → BRel (upd ρ H.length ⟨true, false, some ⟨w.heap.size, 0, none⟩, arr.size, sz⟩) i b (w.alloc (.cells arr ty)) := fun i b hb hl =>
    (h.blk i b hb hl).keep he (by simp) fun a ha => Below.heap_alloc _ _ _ ((h.blk i b hb hl).lt a ha).2
  have hne : ∀ {i : Nat} {b}, H[i]? = some b → i ≠ H.length := fun hb => by
    have := (List.getElem?_eq_some_iff.1 hb).1
    omega
  refine ⟨⟨?_, on_append h.on rfl, ?_, ?_, ?_, h.os, h.tape, h.output, ?_, ?_⟩, he⟩
  · intro i b hb hl'
    rcases getElem?_append_one hb with ⟨h1, _⟩ | ⟨rfl, rfl⟩
    · exact hold i b h1 hl'
    · refine ⟨by rw [upd_same], fun _ => by rw [upd_same], by rw [upd_same], ?_, ?_, ?_, ?_⟩
      · rw [upd_same]
        intro a ha
        injection ha with ha
        subst ha
        exact ⟨rfl, by simp⟩
      · rw [upd_same]
        intro j x hx
        obtain ⟨u, h1, h2⟩ := hc j x hx
        refine ⟨_, u, rfl, ?_, h2.mono he⟩
        rw [addr_add, Nat.zero_add, World.cell?_alloc_new]
        exact h1
      · rw [upd_same]
        intro _ a ha
        injection ha with ha
        subst ha
        exact ⟨rfl, arr, heap_alloc_new w _, rfl, hl, hf⟩
      · rw [upd_same]
        intro _ ha
        cases ha
  · intro i hi
    simp at hi
    rw [upd_other _ _ (by omega)]
    exact h.off i (by omega)
  · intro i j bi bj hij hi hj li lj hr a a' ha ha'
    rcases getElem?_append_one hi with ⟨h1, _⟩ | ⟨rfl, rfl⟩ <;> rcases getElem?_append_one hj with ⟨h2, _⟩ | ⟨rfl, rfl⟩
    · rw [upd_other _ _ (hne h1)] at ha
      rw [upd_other _ _ (hne h2)] at ha'
      exact h.sep i j bi bj hij h1 h2 li lj hr a a' ha ha'
    · rw [upd_other _ _ (hne h1)] at ha
      rw [upd_same] at ha'
      injection ha' with ha'
      subst ha'
      have := ((h.blk i bi h1 li).lt a ha).2
      show a.block ≠ w.heap.size
      omega
    · rw [upd_other _ _ (hne h2)] at ha'
      rw [upd_same] at ha
      injection ha with ha
      subst ha
      have := ((h.blk j bj h2 lj).lt a' ha').2
      show w.heap.size ≠ a'.block
      omega
    · exact absurd rfl hij
  · intro i b hb hl' hr a ha
    rcases getElem?_append_one hb with ⟨h1, _⟩ | ⟨rfl, rfl⟩
    · rw [upd_other _ _ (hne h1)] at ha
      exact h.own i b h1 hl' hr a ha
    · rw [upd_same] at ha
      injection ha with ha
      subst ha
      exact C.all _ h.size
  · simp
    have := h.size
    omega
  · intro k hk ho
    rw [Below.heap_alloc _ _ _ (Nat.lt_of_lt_of_le hk h.size)]
    exact h.kept k hk ho

/-- a store into a block of one's own -/
theorem Inv.set {C : Cx} {ρ : Pl} {H : AH} {w : World} (h : Inv C ρ H w) {b : Nat} {blk : Blk} (hb : H[b]? = some blk) (hl : blk.body.live = true) (hr : blk.rw = true) {a : Addr} (ha : (ρ b).addr = some a) (j : Nat) (u : Value)
    (body : Body) (_hlv : body.live = true) (hlen : body.len = blk.body.len) (hc : ∀ i x, body.get i = some (true, x) → (i = j ∧ j < blk.body.len ∧ ARel ρ x u) ∨ (i ≠ j ∧ blk.body.get i = some (true, x))) :
    Inv C ρ (H.set b { blk with body := body }) (w.setCell (a.add j) u) := by
  have hB := h.blk b blk hb hl
  have hbl := (List.getElem?_eq_some_iff.1 hb).1
  have hsp := (hB.lt a ha).1
  obtain ⟨ho0, arr, harr, hcap, hln, hfx⟩ := hB.own hr a ha
  have hadd : a.add j = ⟨a.block, j, none⟩ := by rw [addr_add' hsp, ho0, Nat.zero_add]
  have hnew : (w.setCell (a.add j) u).heap[a.block]? = some (.cells (arr.setIfInBounds j u) blk.ty (0, 0)) := by
    rw [hadd]
    simp [World.setCell, Array.getElem?_modify, harr]
  have hother : ∀ k, k ≠ a.block → (w.setCell (a.add j) u).heap[k]? = w.heap[k]? := fun k hk => by
    rw [hadd]
    exact Below.heap_setCell _ _ _ _ hk
  have hget : ∀ (i : Nat) c, (H.set b { blk with body := body })[i]? = some c → (i = b ∧ c = { blk with body := body }) ∨ (i ≠ b ∧ H[i]? = some c) := fun i c hc => by
    rw [List.getElem?_set] at hc
    split at hc
    · rename_i e
      subst e
      injection hc with hc
      exact .inl ⟨rfl, hc.symm⟩
    · rename_i e
      exact .inr ⟨fun e' => e e'.symm, hc⟩
  refine ⟨?_, fun i hi => h.on i (by simpa using hi), ?_, ?_, ?_, h.os, h.tape, h.output, by simpa using h.size, ?_⟩
  · intro i c hc' hlc
    rcases hget i c hc' with ⟨rfl, rfl⟩ | ⟨hib, hi⟩
    · refine ⟨hB.on, hB.rw, hB.sz, fun x hx => ⟨(hB.lt x hx).1, by simpa using (hB.lt x hx).2⟩, ?_, ?_, hB.nil⟩
      · intro k x hk
        rcases hc k x hk with ⟨rfl, hkl, hx⟩ | ⟨hkj, hk'⟩
        · refine ⟨a, u, ha, ?_, hx⟩
          rw [hadd]
          have hnn := hnew
          rw [hadd] at hnn
          simp only [World.cell?, hnn]
          have : k < arr.size := by omega
          simp [this]
        · obtain ⟨a2, u2, h1, h2, h3⟩ := hB.cell k x hk'
          rw [ha] at h1
          injection h1 with h1
          subst h1
          refine ⟨a, u2, ha, ?_, h3⟩
          rw [World.cell?_setCell_other _ _ _ _ (by rw [addr_add' hsp, addr_add' hsp]; intro e; simp only [Addr.mk.injEq] at e; omega)]
          exact h2
      · intro _ x hx
        rw [ha] at hx
        injection hx with hx
        subst hx
        exact ⟨ho0, _, hnew, by simpa using hcap, by show body.len ≤ _; rw [hlen]; simpa using hln, fun h => by show _ = body.len; rw [hlen]; simpa using hfx h⟩
    · refine (h.blk i c hi hlc).keep (Ext.refl ρ) (by simp) fun x hx => hother _ ?_
      exact fun e => h.sep b i blk c (Ne.symm hib) hb hi hl hlc hr a x ha hx e.symm
  · intro i hi
    exact h.off i (by simpa using hi)
  · intro i k bi bk hik hi hk li lk hrw x x' hx hx'
    have f : ∀ (i : Nat) c, (H.set b { blk with body := body })[i]? = some c → c.body.live = true → ∃ c', H[i]? = some c' ∧ c'.body.live = true ∧ c'.rw = c.rw := fun i c hc hlc => by
      rcases hget i c hc with ⟨rfl, rfl⟩ | ⟨_, hi⟩
      · exact ⟨blk, hb, hl, rfl⟩
      · exact ⟨c, hi, hlc, rfl⟩
    obtain ⟨ci, h1, h2, h3⟩ := f i bi hi li
    obtain ⟨ck, h4, h5, h6⟩ := f k bk hk lk
    exact h.sep i k ci ck hik h1 h4 h2 h5 (by rw [h3]; exact hrw) x x' hx hx'
  · intro i c hc' hlc hrc x hx
    rcases hget i c hc' with ⟨rfl, rfl⟩ | ⟨_, hi⟩
    · exact h.own i blk hb hl hr x hx
    · exact h.own i c hi hlc hrc x hx
  · intro k hk hno
    rw [hother k (fun e => hno (by rw [e]; exact h.own b blk hb hl hr a ha))]
    exact h.kept k hk hno

end Go.Proofs.Ytpbenjpponbjjaa.En
