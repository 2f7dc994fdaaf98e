/- What the calls of the texts of sets rest on: tables and variables that stay, rows of strings. -/
import Derived.Test.YtfahlgjolihmkaaDoorD2
import Derived.Test.YtfahlgjolihmkaaDoorSH
import Derived.Test.YtfahlgjolihmkaaDoorDT
import Derived.Lib.ItoaLen
import Derived.Lib.SmallJoins
import Derived.Deep.OwnRows
namespace Go.Proofs.YtfahlgjolihmkaaDoor
open Go.RowKit Go.Sort

abbrev bstr (l : List UInt8) : ByteArray := ⟨l.toArray⟩
theorem bstr_append (l m : List UInt8) : bstr l ++ bstr m = bstr (l ++ m) := by
  unfold bstr
  rw [ByteArray.mk_append_mk]

theorem bstr_list (l : List UInt8) : (bstr l).data.toList = l := by simp [bstr]
theorem bstr_size (l : List UInt8) : (bstr l).size = l.length := by simp [bstr, ByteArray.size]
theorem bstr_inj {l m : List UInt8} : bstr l = bstr m ↔ l = m := ⟨fun h => by rw [← bstr_list l, h, bstr_list], fun h => by rw [h]⟩
theorem bstr_of (s : ByteArray) : bstr s.data.toList = s := by cases s; simp [bstr]

/-- what the library's calls read stays what it is -/
structure Facts (w : World) : Prop where
  tab : Lib.TabIs Tryd.prog w "internal/strconv.uint64pow10" .u64 Lib.pow10Tab
  max : ∃ m, w.cell? ⟨0, 0, none⟩ = some (.int .i64 m)
  syn : ∃ te pe, w.cell? ⟨2, 0, none⟩ = some (.iface te pe)
  rng : ∃ te pe, w.cell? ⟨3, 0, none⟩ = some (.iface te pe)
def Env (w : World) : Prop := ∀ w', Below w.heap.size w w' → Facts w'
theorem Env.here {w : World} (h : Env w) : Facts w := h w (Below.refl _ _)
theorem Env.on {w w' : World} (h : Env w) (hb : Below w.heap.size w w') : Env w' := fun w'' h2 => h w'' (hb.trans (h2.mono hb.size))

/-- a row of strings of the call's own -/
structure SRow (w0 W : World) (g n : Nat) (f : Nat → ByteArray) : Prop where
  below : Below w0.heap.size w0 W
  ge : w0.heap.size ≤ g
  lt : g < W.heap.size
  cell : ∀ i, i < n → W.cell? ⟨g, i, none⟩ = some (.string (f i))
  free : ∀ i, W.frozen? ⟨g, i, none⟩ = false
theorem SRow.on {w0 W W' : World} {g n : Nat} {f : Nat → ByteArray} (h : SRow w0 W g n f) (hb : Below W.heap.size W W') : SRow w0 W' g n f :=
  ⟨h.below.trans (hb.mono h.below.size), h.ge, Nat.lt_of_lt_of_le h.lt hb.size, fun i hi => (hb.cell (p := ⟨g, i, none⟩) h.lt).trans (h.cell i hi), fun i => (hb.frozen (p := ⟨g, i, none⟩) h.lt).trans (h.free i)⟩
theorem SRow.congr {w0 W : World} {g n : Nat} {f e : Nat → ByteArray} (h : SRow w0 W g n f) (he : ∀ k, k < n → f k = e k) : SRow w0 W g n e :=
  ⟨h.below, h.ge, h.lt, fun i hi => by rw [← he i hi]; exact h.cell i hi, h.free⟩
theorem SRow.store {w0 W : World} {g n : Nat} {f : Nat → ByteArray} (h : SRow w0 W g n f) {i : Nat} {s : ByteArray} (hi : i < n) : SRow w0 (W.setCell ⟨g, i, none⟩ (.string s)) g n (fun k => if k = i then s else f k) := by
  refine ⟨h.below.setCell h.ge _, h.ge, by simpa [World.setCell] using h.lt, fun k hk => ?_, fun k => ?_⟩
  · by_cases e : k = i
    · subst e
      rw [World.cell?_setCell_same _ _ _ (h.cell k hi)]
      simp
    · rw [World.cell?_setCell_other _ _ _ _ (by intro e'; simp only [Addr.mk.injEq] at e'; omega), if_neg e]
      exact h.cell k hk
  · rw [World.frozen?_setCell]
    exact h.free k
theorem SRow.made (W : World) (n : Nat) : SRow W (W.alloc (.cells (madeCells #[.string ByteArray.empty] n) 9)) W.heap.size n (fun _ => ByteArray.empty) := by
  refine ⟨(Below.refl _ _).alloc (Nat.le_refl _) _, Nat.le_refl _, by simp, fun i hi => ?_, fun i => by simp⟩
  have : (W.alloc (.cells (madeCells #[.string ByteArray.empty] n) 9)).heap[W.heap.size]? = some (.cells (madeCells #[.string ByteArray.empty] n) 9 (0, 0)) := World.alloc_heap_new W _
  rw [cell_of_heap this]
  simp [madeCells, hi, Nat.mod_one]
theorem info9 : (Tryd.prog.info? 9).map (fun i => (i.zero, i.size, i.bytes)) = some (some (.string ByteArray.empty), 1, 16) := by kernel_rfl

/-- the word of the k-th span -/
def wB (xs : List Sp) (k : Nat) : ByteArray := bstr (wordT (xs.getD k (0, 0)))
def textS (xs : List Sp) : ByteArray := if setB xs then bstr (txtS xs) else bstr []

theorem set_bounds {xs : List Sp} (h : setB xs = true) {k : Nat} (hk : k < xs.length) : -1099511627776 ≤ loA xs k ∧ loA xs k < hiA xs k ∧ hiA xs k ≤ 1099511627776 :=
  of_decide_eq_true ((setB_true h).2 k hk).1
theorem word_len {s : Sp} (h0 : -1099511627776 ≤ s.1) (h1 : s.1 ≤ 1099511627776) (h2 : -1099511627776 ≤ s.2) (h3 : s.2 ≤ 1099511627776) : (wordT s).length ≤ 44 := by
  unfold wordT
  have a := Lib.itoa_length_le s.1 (by omega) (by omega)
  have b := Lib.itoa_length_le s.2 (by omega) (by omega)
  simp only [List.length_append, List.length_cons, List.length_nil]
  omega
end Go.Proofs.YtfahlgjolihmkaaDoor
