/- alive. -/
import Derived.Test.YtbinmkigolkhcaaDoorPU
set_option linter.unusedSimpArgs false
set_option linter.unusedVariables false
namespace Go.Proofs.YtbinmkigolkhcaaDoor
open Go.RowKit Go.Sort
attribute [local go_sem] Oper.semAt_some

theorem LogAt.tight {F : Nat → Prop} {w : World} {b : Nat} {ls : List (List UInt8)} {ps : List Nat} {Ae : Option Addr} {ce : Nat} {Ap : Option Addr} {cp : Nat} (h : LogAt F w b ls ps Ae ce Ap cp) : LogAt (fun k => F k ∧ k < w.heap.size) w b ls ps Ae ce Ap cp := by
  obtain ⟨vs, he, hE⟩ := h.ents
  exact ⟨h.blk, ⟨vs, he, hE⟩, h.pks, h.pb, ⟨h.fb, h.lt⟩, fun k hk => ⟨h.fe k hk, by obtain ⟨cur, hc⟩ := own_block he hk; exact (Array.getElem?_eq_some_iff.1 hc).1⟩, fun k hk => ⟨h.fp k hk, by obtain ⟨cur, hc⟩ := own_block h.pks hk; exact (Array.getElem?_eq_some_iff.1 hc).1⟩⟩
def bA : List UInt8 := [97]
def bB : List UInt8 := [98]
theorem half_2 : halfN 2 = 1 := half_uniq (n := 2) (j := 0) (by decide) (by decide)
theorem sides_12 : sidesV 1 2 = [true] := by
  rw [sides_hi (by decide) (by rw [half_2]; exact Nat.le_refl _), half_2]
  rfl
theorem steps_12 : stepsV [bA, bB] 1 = [(leafV bA, true)] := by
  have e : ([bA, bB] : List (List UInt8)).length = 2 := rfl
  rw [steps_hi (by rw [e]; exact Nat.le_refl _) (by rw [e, half_2]; exact Nat.le_refl _), e, half_2]
  show stepsV [bB] 0 ++ [(rootV [bA], true)] = _
  rw [steps_1 rfl, root_1]
  rfl
theorem include_12 : includeV [bA, bB] 1 2 = ([(leafV bA, true)], 0) := by
  unfold includeV
  rw [if_neg (by simp)]
  show (stepsV [bA, bB] 1, (0 : Int)) = _
  rw [steps_12]
theorem included_12 : includedV bB 1 2 (nodeV (leafV bA) (leafV bB)) [(leafV bA, true)] = (true, 0) := by
  unfold includedV
  rw [if_neg (by decide), if_neg (by decide)]
  show (leadB [(leafV bA, true)] (sidesV 1 2) && decide (mixV (stepB (leafV bB) (leafV bA, true)) = nodeV (leafV bA) (leafV bB)), (0 : Int)) = _
  rw [sides_12]
  have : mixV (stepB (leafV bB) (leafV bA, true)) = nodeV (leafV bA) (leafV bB) := rfl
  rw [decide_eq_true this]
  rfl
theorem raise_1 (x : Nat) : raiseV [] x 0 = [x] := rfl
theorem raise_2 (y x : Nat) : raiseV [y] x 1 = [nodeV y x] := rfl
/-- a log, its footprint between B and the heap's end -/
def MyLog (B : Nat) (w : World) (b : Nat) (ls : List (List UInt8)) (ps : List Nat) : Prop :=
  ∃ F Ae ce Ap cp, LogAt F w b ls ps Ae ce Ap cp ∧ (∀ k, F k → B ≤ k ∧ k < w.heap.size)
theorem MyLog.stays {B : Nat} {w w' : World} {b : Nat} {ls : List (List UInt8)} {ps : List Nat} (h : MyLog B w b ls ps) (hk : Below w.heap.size w w') : MyLog B w' b ls ps := by
  obtain ⟨F, Ae, ce, Ap, cp, hl, hF⟩ := h
  exact ⟨F, Ae, ce, Ap, cp, hl.stays hk, fun k hk' => ⟨(hF k hk').1, Nat.lt_of_lt_of_le (hF k hk').2 hk.size⟩⟩
theorem bytes_oneM (w : World) (b : UInt8) : BytesAt (w.alloc (.cells #[.int .u8 (b.toNat : Nat)] 5 (1, 2))).heap.size (w.alloc (.cells #[.int .u8 (b.toNat : Nat)] 5 (1, 2))) (some ⟨w.heap.size, 0, none⟩) 1 [b] := by
  refine ⟨rfl, .inr ⟨w.heap.size, 0, rfl, by simp, fun i hi => ?_⟩⟩
  obtain rfl : i = 0 := by omega
  rw [World.cell?_alloc_mark]
  rfl
def AddP (B b : Nat) (ls : List (List UInt8)) (ps : List Nat) (w : World) (e : Ending) (w' : World) : Prop :=
  e = .returned (.tuple #[.int .i64 (ls.length - 1 : Nat), .int .i64 0]) ∧ Below B w w' ∧ MyLog B w' b ls ps ∧ TabAt 1 Lib.deBruijn64tab w' ∧ w.heap.size ≤ w'.heap.size
/-- Add of an entry that has just been laid -/
theorem Add_my (B : Nat) (w : World) (b : Nat) (ls : List (List UInt8)) (ps : List Nat) (x : UInt8) (h : MyLog B w b ls ps) (hl : ls.length < 4096) (hps : ps.length ≤ 63) (t : Nat) (ht : Lib.ctz 64 (ls.length + 1) = t) (htp : t ≤ ps.length) (hB : 1 < B) (hBw : B ≤ w.heap.size) (hT : TabAt 1 Lib.deBruijn64tab w) :
    Calls Tryd.prog 44 #[.pointer (some ⟨b, 0, none⟩), .slice (some ⟨w.heap.size, 0, none⟩) 1 1] (w.alloc (.cells #[.int .u8 (x.toNat : Nat)] 5 (1, 2))) (AddP B b (ls ++ [[x]]) (raiseV ps (leafV [x]) t) (w.alloc (.cells #[.int .u8 (x.toNat : Nat)] 5 (1, 2)))) := by
  obtain ⟨F, Ae, ce, Ap, cp, hlg, hF⟩ := h
  have hal : Below w.heap.size w (w.alloc (.cells #[.int .u8 (x.toNat : Nat)] 5 (1, 2))) := (Below.refl _ w).alloc (Nat.le_refl _) _
  have hF1 : ¬ F 1 := fun h => by have := (hF 1 h).1; omega
  have hs : (w.alloc (.cells #[.int .u8 (x.toNat : Nat)] 5 (1, 2))).heap.size = w.heap.size + 1 := by simp
  have hT2 : TabAt 1 Lib.deBruijn64tab (w.alloc (.cells #[.int .u8 (x.toNat : Nat)] 5 (1, 2))) := TabAt.mods hT (Mods.of_below F hal) hF1 (by omega)
  refine (Add_any F _ b ls ps Ae ce Ap cp (hlg.stays hal) hl hps _ 1 1 [x] (bytes_oneM w x) (by decide) t ht htp (fun _ a ha hFa => by
    cases ha
    exact Nat.lt_irrefl _ (hF _ hFa).2) hF1 (by omega) hT2).mono ?_
  rintro e w' ⟨rfl, hm, Ae', ce', Ap', cp', h'⟩
  refine ⟨rfl, hm.below (fun k hk => (hF k hk).1) (by omega), ⟨_, Ae', ce', Ap', cp', h'.tight, fun k hk => ⟨?_, hk.2⟩⟩, TabAt.mods hT2 hm hF1 (by omega), hm.size⟩
  rcases hk.1 with h | h
  · exact (hF k h).1
  · omega
end Go.Proofs.YtbinmkigolkhcaaDoor
