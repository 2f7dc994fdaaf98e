/- A log whose entries and peaks grow and shrink. -/
import Derived.Test.YtbinmkigolkhcaaDoorPR
import Derived.Test.YtbinmkigolkhcaaDoorST
set_option linter.unusedSimpArgs false
set_option linter.unusedVariables false
namespace Go.Proofs.YtbinmkigolkhcaaDoor
open Go.RowKit Go.Sort

/-- only blocks of F, and new ones, have changed -/
structure Mods (F : Nat → Prop) (w w' : World) : Prop where
  os : w'.os = w.os
  tape : w'.tape = w.tape
  output : w'.output = w.output
  size : w.heap.size ≤ w'.heap.size
  same : ∀ k, k < w.heap.size → ¬ F k → w'.heap[k]? = w.heap[k]?
theorem Mods.refl (F : Nat → Prop) (w : World) : Mods F w w := ⟨rfl, rfl, rfl, Nat.le_refl _, fun _ _ _ => rfl⟩
theorem Mods.trans {F : Nat → Prop} {a b c : World} (h : Mods F a b) (k : Mods F b c) : Mods F a c :=
  ⟨k.os.trans h.os, k.tape.trans h.tape, k.output.trans h.output, Nat.le_trans h.size k.size, fun j h1 h2 => (k.same j (Nat.lt_of_lt_of_le h1 h.size) h2).trans (h.same j h1 h2)⟩
theorem Mods.of_below (F : Nat → Prop) {w w' : World} (h : Below w.heap.size w w') : Mods F w w' := ⟨h.os, h.tape, h.output, h.size, fun k hk _ => h.block k hk⟩
theorem Mods.of_grown {F : Nat → Prop} {w w' : World} {row : Option Nat} (h : w.grownBy w' row) (hr : ∀ k, row = some k → F k) : Mods F w w' :=
  ⟨h.os, h.tape, h.output, h.size, fun k hk hF => h.block k hk fun e => hF (hr k e.symm)⟩
theorem Mods.set {F : Nat → Prop} (w : World) {b : Nat} (hb : F b) (i : Nat) (v : Value) : Mods F w (w.setCell ⟨b, i, none⟩ v) :=
  ⟨rfl, rfl, rfl, by simp [World.setCell], fun k _ hF => Below.heap_setCell _ _ _ _ fun e => hF (by rw [e]; exact hb)⟩
/-- in the end only the blocks that were there count -/
theorem Mods.old {F : Nat → Prop} {w w' : World} (h : Mods (fun k => F k ∨ w.heap.size ≤ k) w w') : Mods F w w' :=
  ⟨h.os, h.tape, h.output, h.size, fun k hk hF => h.same k hk fun e => e.elim hF fun h => by omega⟩
theorem Mods.below {F : Nat → Prop} {w w' : World} {B : Nat} (h : Mods F w w') (hF : ∀ k, F k → B ≤ k) (hB : B ≤ w.heap.size) : Below B w w' :=
  ⟨h.os, h.tape, h.output, h.size, fun k hk => h.same k (by omega) fun e => by have := hF k e; omega⟩

section
variable {F : Nat → Prop} {w w5 : World} {b : Nat} {ls : List (List UInt8)} {ps : List Nat} {Ae : Option Addr} {ce : Nat} {Ap : Option Addr} {cp : Nat}
theorem LogAt.wider {G : Nat → Prop} (h : LogAt F w b ls ps Ae ce Ap cp) (hG : ∀ k, F k → G k) : LogAt G w b ls ps Ae ce Ap cp :=
  ⟨h.blk, h.ents, h.pks, h.pb, hG _ h.fb, fun k hk => hG k (h.fe k hk), fun k hk => hG k (h.fp k hk)⟩
theorem cell_ty {cur cur' : Array Value} {t t' : TypeId} {o : Option Obj} (h : o = some (.cells cur t (0, 0))) (h' : o = some (.cells cur' t' (0, 0))) : t = t' := by
  rw [h] at h'
  injection h' with h'
  injection h' with h1 h2
theorem LogAt.set2 (h : LogAt F w b ls ps Ae ce Ap cp) {Ap' : Option Addr} {cp' : Nat} {ps' : List Nat} (ho : w.ownsRow 0 24 1 (.slice Ap' ps'.length cp') ps'.length (cellsP ps')) (hp : ∀ p ∈ ps', p < 18446744073709551616)
    (hf : ∀ k, (Value.slice Ap' ps'.length cp').ownBlock = some k → F k) : LogAt F (w.setCell ⟨b, 2, none⟩ (.slice Ap' ps'.length cp')) b ls ps' Ae ce Ap' cp' := by
  obtain ⟨vs, he, hE⟩ := h.ents
  have hne : ∀ {k : Nat} {cur : Array Value} {t : TypeId}, w.heap[k]? = some (.cells cur t (0, 0)) → t ≠ 65 → (w.setCell ⟨b, 2, none⟩ (.slice Ap' ps'.length cp')).heap[k]? = w.heap[k]? := fun hk ht =>
    Below.heap_setCell _ _ _ _ fun e => by
      have e : _ = b := e
      subst e
      exact ht (cell_ty hk h.blk)
  refine ⟨?_, ⟨vs, own_same he fun k hk => ?_, hE.kept fun k cur hc => (hne hc (by decide)).trans hc⟩, own_same ho fun k hk => ?_, hp, h.fb, h.fe, hf⟩
  · have := heap_setCell_same w b 2 _ _ (.slice Ap' ps'.length cp') h.blk
    simpa using this
  · obtain ⟨cur, hc⟩ := own_block he hk
    exact hne hc (by decide)
  · obtain ⟨cur, hc⟩ := own_block ho hk
    exact hne hc (by decide)
theorem own_less {w : World} {g k n c : Nat} {xs : List Nat} (h : w.ownsRow 0 24 1 (.slice (some ⟨g, 0, none⟩) n c) n (cellsP xs)) (hk : k ≤ n) : w.ownsRow 0 24 1 (.slice (some ⟨g, 0, none⟩) k c) k (cellsP (xs.take k)) := by
  have hl : xs.length = n := by have := h.1; unfold cellsP at this; simpa using this
  refine ⟨by unfold cellsP; rw [List.length_map, List.length_take]; omega, ?_⟩
  rcases h.2 with ⟨e, _⟩ | ⟨g', cap, cur, hv, hb, hg, hle, hcm, hcs, ht⟩
  · cases e
  · injection hv with h1 h2 h3
    injection h1 with h1
    injection h1 with h1
    subst h1; subst h3
    refine .inr ⟨g, c, cur, rfl, hb, hg, by omega, hcm, hcs, ?_⟩
    unfold cellsP at ht ⊢
    rw [Nat.mul_one] at ht ⊢
    rw [List.map_take, ← ht, List.take_take, Nat.min_eq_left hk]
theorem LogAt.shrink {g : Nat} (h : LogAt F w b ls ps Ae ce (some ⟨g, 0, none⟩) cp) {k : Nat} (hk : k ≤ ps.length) : LogAt F (w.setCell ⟨b, 2, none⟩ (.slice (some ⟨g, 0, none⟩) k cp)) b ls (ps.take k) Ae ce (some ⟨g, 0, none⟩) cp := by
  have e : (ps.take k).length = k := by rw [List.length_take]; omega
  have := h.set2 (Ap' := some ⟨g, 0, none⟩) (cp' := cp) (ps' := ps.take k) (by rw [e]; exact own_less h.pks hk) (fun p hp => h.pb p (List.mem_of_mem_take hp)) (fun k' hk' => h.fp k' (by
    cases hk'
    rfl))
  rw [e] at this
  exact this
theorem LogAt.kept24 (h : LogAt F w b ls ps Ae ce Ap cp) (hk : ∀ (k : Nat) (cur : Array Value) (t : TypeId), w.heap[k]? = some (.cells cur t (0, 0)) → t ≠ 24 → w5.heap[k]? = some (.cells cur t (0, 0))) {Ap' : Option Addr} {cp' : Nat} {ps' : List Nat}
    (ho : w5.ownsRow 0 24 1 (.slice Ap' ps'.length cp') ps'.length (cellsP ps')) (hp : ∀ p ∈ ps', p < 18446744073709551616) (hf : ∀ k, (Value.slice Ap' ps'.length cp').ownBlock = some k → F k) :
    LogAt F (w5.setCell ⟨b, 2, none⟩ (.slice Ap' ps'.length cp')) b ls ps' Ae ce Ap' cp' := by
  obtain ⟨vs, he, hE⟩ := h.ents
  have hb := hk b _ 65 h.blk (by decide)
  have he5 : w5.ownsRow 0 23 1 (.slice Ae ls.length ce) ls.length vs := own_same he fun k hk' => by
    obtain ⟨cur, hc⟩ := own_block he hk'
    rw [hc]
    exact hk k cur 23 hc (by decide)
  have hE5 : Each w5 vs ls := hE.kept fun k cur hc => hk k cur 5 hc (by decide)
  have hne : ∀ {k : Nat} {cur : Array Value} {t : TypeId}, w5.heap[k]? = some (.cells cur t (0, 0)) → t ≠ 65 → (w5.setCell ⟨b, 2, none⟩ (.slice Ap' ps'.length cp')).heap[k]? = w5.heap[k]? := fun hk ht =>
    Below.heap_setCell _ _ _ _ fun e => by
      have e : _ = b := e
      subst e
      exact ht (cell_ty hk hb)
  refine ⟨?_, ⟨vs, own_same he5 fun k hk => ?_, hE5.kept fun k cur hc => (hne hc (by decide)).trans hc⟩, own_same ho fun k hk => ?_, hp, h.fb, h.fe, hf⟩
  · have := heap_setCell_same w5 b 2 _ _ (.slice Ap' ps'.length cp') hb
    simpa using this
  · obtain ⟨cur, hc⟩ := own_block he5 hk
    exact hne hc (by decide)
  · obtain ⟨cur, hc⟩ := own_block ho hk
    exact hne hc (by decide)
theorem LogAt.kept23 (h : LogAt F w b ls ps Ae ce Ap cp) (hk : ∀ (k : Nat) (cur : Array Value) (t : TypeId), w.heap[k]? = some (.cells cur t (0, 0)) → t ≠ 23 → w5.heap[k]? = some (.cells cur t (0, 0))) {Ae' : Option Addr} {ce' : Nat} {ls' : List (List UInt8)} {vs : List Value}
    (ho : w5.ownsRow 0 23 1 (.slice Ae' ls'.length ce') ls'.length vs) (hE : Each w vs ls') (hf : ∀ k, (Value.slice Ae' ls'.length ce').ownBlock = some k → F k) :
    LogAt F (w5.setCell ⟨b, 1, none⟩ (.slice Ae' ls'.length ce')) b ls' ps Ae' ce' Ap cp := by
  have hb := hk b _ 65 h.blk (by decide)
  have hp5 : w5.ownsRow 0 24 1 (.slice Ap ps.length cp) ps.length (cellsP ps) := own_same h.pks fun k hk' => by
    obtain ⟨cur, hc⟩ := own_block h.pks hk'
    rw [hc]
    exact hk k cur 24 hc (by decide)
  have hE5 : Each w5 vs ls' := hE.kept fun k cur hc => hk k cur 5 hc (by decide)
  have hne : ∀ {k : Nat} {cur : Array Value} {t : TypeId}, w5.heap[k]? = some (.cells cur t (0, 0)) → t ≠ 65 → (w5.setCell ⟨b, 1, none⟩ (.slice Ae' ls'.length ce')).heap[k]? = w5.heap[k]? := fun hk ht =>
    Below.heap_setCell _ _ _ _ fun e => by
      have e : _ = b := e
      subst e
      exact ht (cell_ty hk hb)
  refine ⟨?_, ⟨vs, own_same ho fun k hk => ?_, hE5.kept fun k cur hc => (hne hc (by decide)).trans hc⟩, own_same hp5 fun k hk => ?_, h.pb, h.fb, hf, h.fp⟩
  · have := heap_setCell_same w5 b 1 _ _ (.slice Ae' ls'.length ce') hb
    simpa using this
  · obtain ⟨cur, hc⟩ := own_block ho hk
    exact hne hc (by decide)
  · obtain ⟨cur, hc⟩ := own_block hp5 hk
    exact hne hc (by decide)
end
/-- a row's growth leaves the blocks of other types -/
theorem grown_keeps {w w5 : World} {e : TypeId} {n : Nat} {v : Value} {xs : List Value} {size base : Nat} (ho : w.ownsRow base e size v n xs) (hg : w.grownBy w5 v.ownBlock) :
    ∀ (k : Nat) (cur : Array Value) (t : TypeId), w.heap[k]? = some (.cells cur t (0, 0)) → t ≠ e → w5.heap[k]? = some (.cells cur t (0, 0)) := fun k cur t hk ht =>
  (hg.block k (Array.getElem?_eq_some_iff.1 hk).1 fun ek => by
    obtain ⟨cur', hc⟩ := own_block ho ek.symm
    exact ht (cell_ty hk hc)).trans hk
end Go.Proofs.YtbinmkigolkhcaaDoor
