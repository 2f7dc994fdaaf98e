/- The words in which the calls of package curve and of its specification are described: ints in memory, worlds that have only grown, plain curves. -/
import Derived.Test.YtdepnhnpklbmiaaProg
import Derived.WalkKit
import Derived.WalkSpells
import Derived.WalkLawsBesides
import Derived.Deep.LoopGhost
import Derived.BigQuiet
import Derived.BigRegion
import Derived.Lib.Hide
import Derived.Shelf.SlSortCmp.QuietGrown
import Derived.Shelf.SlSorted.IsSorted
import Derived.Deep.RegionHeld3
import Derived.Deep.AppendLies
import Derived.Shelf.Sort.Plain
import Derived.Shelf.Slices.Clone
import Derived.Shelf.Slices.In.SortNone
namespace Go.Proofs.Ytdepnhnpklbmiaa
open Go.RowKit Go.Sort

theorem mixedOrders : Try.prog.follows .mixedOrders = true := by kernel_rfl

theorem hide {p : Prop} (h : p) : Hid p := h

/-- THE WORLD HAS ONLY GROWN: draws and new blocks. -/
def Gr (w w' : World) : Prop := ∃ (n : Nat) (os : Array Obj), w' = grow (w.drewN n) os
theorem Gr.refl (w : World) : Gr w w := ⟨0, #[], by rw [grow_empty]; rfl⟩
theorem Gr.trans {a b c : World} (h : Gr a b) (k : Gr b c) : Gr a c := by
  obtain ⟨n, os, rfl⟩ := h
  obtain ⟨m, os', rfl⟩ := k
  exact ⟨n + m, os ++ os', by show grow (grow ((a.drewN n).drewN m) os) os' = _; rw [grow_grow, World.drewN_drewN]⟩
theorem Gr.alloc {a b : World} (h : Gr a b) (o : Obj) : Gr a (b.alloc o) := h.trans ⟨0, #[o], by rw [alloc_eq_grow]; rfl⟩
theorem Gr.drew {a b : World} (h : Gr a b) : Gr a b.drew := h.trans ⟨1, #[], by rw [grow_empty]; rfl⟩
theorem Gr.drewN {a b : World} (h : Gr a b) (n : Nat) : Gr a (b.drewN n) := h.trans ⟨n, #[], by rw [grow_empty]⟩
theorem Gr.grow {a b : World} (h : Gr a b) (n : Nat) (os : Array Obj) : Gr a (Sort.grow (b.drewN n) os) := h.trans ⟨n, os, rfl⟩
theorem Gr.size {a b : World} (h : Gr a b) : a.heap.size ≤ b.heap.size := by
  obtain ⟨n, os, rfl⟩ := h
  rw [size_grow]
  exact Nat.le_add_right _ _
theorem Gr.cell {a b : World} (h : Gr a b) {p : Addr} (hp : p.block < a.heap.size) : b.cell? p = a.cell? p := by
  obtain ⟨n, os, rfl⟩ := h
  rw [cell?_grow _ _ _ (by exact hp)]
  rfl
theorem Gr.frozen {a b : World} (h : Gr a b) {p : Addr} (hp : p.block < a.heap.size) : b.frozen? p = a.frozen? p := by
  obtain ⟨n, os, rfl⟩ := h
  rw [frozen?_grow _ _ _ (by exact hp)]
  rfl
theorem Gr.block {a b : World} (h : Gr a b) {k : Nat} (hk : k < a.heap.size) : b.heap[k]? = a.heap[k]? := by
  obtain ⟨n, os, rfl⟩ := h
  rw [heap_grow_old _ _ (by exact hk)]
  rfl
theorem Gr.below {a b : World} (h : Gr a b) : Below a.heap.size a b := by
  obtain ⟨n, os, rfl⟩ := h
  exact ⟨rfl, rfl, rfl, by rw [size_grow]; exact Nat.le_add_right _ _, fun k hk => heap_grow_old _ _ (by exact hk)⟩
theorem Gr.grownBy {a b : World} (h : Gr a b) (row : Option Nat) : a.grownBy b row := by
  have hb := h.below
  exact ⟨hb.os, hb.tape, hb.output, hb.size, fun k hk _ => hb.block k hk⟩

/-- a slice of ints in memory -/
def iA (xs : List Int) (i : Nat) : Int := xs.getD i 0
def IntsAt (B : Nat) (w : World) (A : Option Addr) (n : Nat) (xs : List Int) : Prop :=
  xs.length = n ∧ (n = 0 ∨ ∃ b off, A = some ⟨b, off, none⟩ ∧ b < B ∧ ∀ i, i < n → w.cell? ⟨b, off + i, none⟩ = some (.int .i64 (iA xs i)))
theorem IntsAt.mono {B B' : Nat} {w : World} {A : Option Addr} {n : Nat} {xs : List Int} (h : IntsAt B w A n xs) (hB : B ≤ B') : IntsAt B' w A n xs := by
  refine ⟨h.1, ?_⟩
  rcases h.2 with h0 | ⟨b, off, e, hlt, hc⟩
  · exact .inl h0
  · exact .inr ⟨b, off, e, by omega, hc⟩
theorem IntsAt.below {B : Nat} {w w' : World} {A : Option Addr} {n : Nat} {xs : List Int} (h : IntsAt B w A n xs) (hb : Below B w w') : IntsAt B w' A n xs := by
  refine ⟨h.1, ?_⟩
  rcases h.2 with h0 | ⟨b, off, e, hlt, hc⟩
  · exact .inl h0
  · exact .inr ⟨b, off, e, hlt, fun i hi => (hb.cell (p := ⟨b, _, none⟩) hlt).trans (hc i hi)⟩
theorem IntsAt.now {B : Nat} {w w' : World} {A : Option Addr} {n : Nat} {xs : List Int} (h : IntsAt B w A n xs) (hb : Below B w w') (hB : B ≤ w.heap.size) : IntsAt w'.heap.size w' A n xs :=
  (h.below hb).mono (Nat.le_trans hB hb.size)
theorem IntsAt.at_ {B : Nat} {w : World} {A : Option Addr} {n : Nat} {xs : List Int} (h : IntsAt B w A n xs) {k : Nat} (hk : k < n) :
    ∃ b off, A = some ⟨b, off, none⟩ ∧ b < B ∧ w.cell? ⟨b, off + k, none⟩ = some (.int .i64 (iA xs k)) := by
  rcases h.2 with h0 | ⟨b, off, e, hlt, hc⟩
  · omega
  · exact ⟨b, off, e, hlt, hc k hk⟩

theorem ret_int {k : IntKind} {a b : Int} (h : a = b) : Ending.returned (.int k a) = .returned (.int k b) := by rw [h]
theorem ret_bool {a b : Bool} (h : a = b) : Ending.returned (.bool a) = .returned (.bool b) := by rw [h]

theorem IntsAt.gr {w w' : World} {A : Option Addr} {n : Nat} {xs : List Int} (h : IntsAt w.heap.size w A n xs) (hg : Gr w w') : IntsAt w'.heap.size w' A n xs :=
  (h.below hg.below).mono hg.size
theorem IntsAt.at2 {B : Nat} {w : World} {b off : Nat} {n : Nat} {xs : List Int} (h : IntsAt B w (some ⟨b, off, none⟩) n xs) {k : Nat} (hk : k < n) :
    w.cell? ⟨b, off + k, none⟩ = some (.int .i64 (iA xs k)) := by
  obtain ⟨b', off', e, _, hc⟩ := h.at_ hk
  injection e with e
  injection e with e1 e2
  subst e1; subst e2
  exact hc
theorem iA_get {xs : List Int} {k : Nat} (h : k < xs.length) : iA xs k = xs[k] := by
  unfold iA
  simp [List.getD_eq_getElem?_getD, List.getElem?_eq_getElem h]

/-! ### plain functions -/
/-- a curve: From, First, Slopes -/
structure Cu where
  fr : Int
  fst : Int
  sl : List Int
def Cu.zero : Cu := ⟨0, 0, []⟩
/-- is n from -most to most? -/
def inB (n most : Int) : Bool := decide (-most ≤ n ∧ n ≤ most)
theorem inB_true {n most : Int} (h : inB n most = true) : -most ≤ n ∧ n ≤ most := of_decide_eq_true h
/-- do the first k numbers not fall? -/
def ascTo (xs : List Int) (k : Nat) : Prop := ∀ i, i + 1 < k → iA xs i ≤ iA xs (i + 1)
instance (xs : List Int) (k : Nat) : Decidable (ascTo xs k) := decidable_of_iff (∀ i, i < k - 1 → iA xs i ≤ iA xs (i + 1)) ⟨fun h i hi => h i (by omega), fun h i hi => h i (by omega)⟩
/-- are the first k numbers slopes? -/
def slTo (xs : List Int) (k : Nat) : Prop := ∀ i, i < k → inB (iA xs i) 1048576 = true
instance (xs : List Int) (k : Nat) : Decidable (slTo xs k) := by unfold slTo; infer_instance
/-- is the curve valid? -/
def okC (c : Cu) : Bool := decide (inB c.fr 1048576 = true ∧ inB c.fst 1099511627776 = true ∧ c.sl.length ≤ 64 ∧ ascTo c.sl c.sl.length ∧ slTo c.sl c.sl.length)
theorem okC_true {c : Cu} (h : okC c = true) : inB c.fr 1048576 = true ∧ inB c.fst 1099511627776 = true ∧ c.sl.length ≤ 64 ∧ ascTo c.sl c.sl.length ∧ slTo c.sl c.sl.length := of_decide_eq_true h
/-- the curve as a value -/
def cuV (c : Cu) (A : Option Addr) (n cap : Nat) : Value := .agg #[.int .i64 c.fr, .int .i64 c.fst, .slice A n cap]

end Go.Proofs.Ytdepnhnpklbmiaa
/- Contracts of within, of the tests of slopes and values, of IndexFunc and ContainsFunc at them. -/
namespace Go.Proofs.Ytdepnhnpklbmiaa
open Go.RowKit Go.Sort

set_option maxHeartbeats 400000 in
theorem within_any (n m : Int) (w : World) (h0 : 0 ≤ m) (h1 : m ≤ 1099511627776) :
    Calls Try.prog 56 #[.int .i64 n, .int .i64 m] w fun e w' => e = .returned (.bool (inB n m)) ∧ w' = w := by
  by_cases h : -m ≤ n
  · have d1 : decide (-m ≤ n) = true := decide_eq_true h
    by_cases h2 : n ≤ m
    · have d2 : decide (n ≤ m) = true := decide_eq_true h2
      have HB : Hid (inB n m = true) := decide_eq_true ⟨h, h2⟩
      clear h h2
      go_enter Try.func56, Try.ntmps56
      go_wp2
      go_ret
      exact ⟨ret_bool HB.out.symm, rfl⟩
    · have d2 : decide (n ≤ m) = false := decide_eq_false h2
      have HB : Hid (inB n m = false) := decide_eq_false fun h => h2 h.2
      clear h h2
      go_enter Try.func56, Try.ntmps56
      go_wp2
      go_ret
      exact ⟨ret_bool HB.out.symm, rfl⟩
  · have d1 : decide (-m ≤ n) = false := decide_eq_false h
    have HB : Hid (inB n m = false) := decide_eq_false fun h' => h h'.1
    clear h
    go_enter Try.func56, Try.ntmps56
    go_wp2
    go_ret
    exact ⟨ret_bool HB.out.symm, rfl⟩

set_option maxHeartbeats 400000 in
theorem steep_any (x : Int) (w : World) : Calls Try.prog 55 #[.int .i64 x] w fun e w' => e = .returned (.bool (!inB x 1048576)) ∧ w' = w := by
  have HW := hide (within_any x 1048576 w (by decide) (by decide))
  go_enter Try.func55, Try.ntmps55
  go_wp2_with fail
  refine HW.out.mono ?_
  rintro e w' ⟨rfl, rfl⟩
  go_wp2
  go_ret
  exact ⟨rfl, rfl⟩
set_option maxHeartbeats 400000 in
theorem far_any (x : Int) (w : World) : Calls Try.prog 59 #[.int .i64 x] w fun e w' => e = .returned (.bool (!inB x 1099511627776)) ∧ w' = w := by
  have HW := hide (within_any x 1099511627776 w (by decide) (by decide))
  go_enter Try.func59, Try.ntmps59
  go_wp2_with fail
  refine HW.out.mono ?_
  rintro e w' ⟨rfl, rfl⟩
  go_wp2
  go_ret
  exact ⟨rfl, rfl⟩

/-- a test of one number that leaves the world -/
def Tests (g : Nat) (p : Int → Bool) : Prop := (∀ args w, (callFunc g args).run Try.prog w = .ok (.enter g args) w) ∧ ∀ x w, Calls Try.prog g #[.int .i64 x] w fun e w' => e = .returned (.bool (p x)) ∧ w' = w
theorem tests55 : Tests 55 (fun x => !inB x 1048576) := ⟨enters_of Try.func55 (by kernel_rfl) rfl, steep_any⟩
theorem tests59 : Tests 59 (fun x => !inB x 1099511627776) := ⟨enters_of Try.func59 (by kernel_rfl) rfl, far_any⟩

/-- has one of the first n numbers p? -/
def someB (p : Int → Bool) (xs : List Int) (n : Nat) : Bool := decide (∃ i, i < n ∧ p (iA xs i) = true)

set_option maxHeartbeats 2000000 in
set_option maxRecDepth 100000 in
theorem index_any (g : Nat) (p : Int → Bool) (hg : Tests g p) (A : Option Addr) (n cap : Nat) (xs : List Int) (w : World) (hx : IntsAt w.heap.size w A n xs) (hn : n ≤ 4398046511104) :
    Calls Try.prog 78 #[.slice A n cap, .func (.func g) #[] #[]] w fun e w' => ∃ r : Int, e = .returned (.int .i64 r) ∧ w' = w ∧ (decide (0 ≤ r) = someB p xs n) := by
  have HX := hide hx
  have HG := hide hg.2
  have eg := hg.1
  clear hx hg
  go_enter Try.func78, Try.ntmps78
  go_wp2
  go_loop [8] (fun i => ∃ k : Nat, k ≤ n ∧ i = .int .i64 k ∧ Hid (∀ j, j < k → p (iA xs j) = false)) (fun i => n - (intOf i).toNat)
  case atStart => exact ⟨0, Nat.zero_le _, rfl, hide fun j hj => by omega⟩
  case round =>
    obtain ⟨k, hk, rfl, HA⟩ := hrel
    by_cases hlt : k < n
    · obtain ⟨b, off, rfl, hb, c0⟩ := HX.out.at_ hlt
      have hlt' : (k : Int) < (n : Int) := by omega
      have HF := hide (HG.out (iA xs k) w)
      cases hv : p (iA xs k)
      · rw [hv] at HF
        have HA2 : Hid (∀ j, j < k + 1 → p (iA xs j) = false) := fun j hj => by
          rcases Nat.lt_or_ge j k with h | h
          · exact HA.out j h
          · obtain rfl : j = k := by omega
            exact hv
        clear hv
        go_wp2_with fail
        refine HF.out.mono ?_
        rintro e w' ⟨rfl, rfl⟩
        go_wp2
        go_round
        case rel => exact ⟨k + 1, by omega, by go_num, HA2⟩
        case measure => simp [intOf]; omega
      · rw [hv] at HF
        have HB : Hid (someB p xs n = true) := decide_eq_true ⟨k, hlt, hv⟩
        clear hv
        go_wp2_with fail
        refine HF.out.mono ?_
        rintro e w' ⟨rfl, rfl⟩
        go_wp2
        go_ret
        exact ⟨_, rfl, rfl, by rw [HB.out]; exact decide_eq_true (by omega)⟩
    · obtain rfl : k = n := by omega
      have HB : Hid (someB p xs k = false) := decide_eq_false fun ⟨i, h1, h2⟩ => by rw [HA.out i h1] at h2; cases h2
      go_wp2
      go_ret
      exact ⟨_, rfl, rfl, by rw [HB.out]; rfl⟩

set_option maxHeartbeats 1000000 in
theorem some_any (g : Nat) (p : Int → Bool) (hg : Tests g p) (A : Option Addr) (n cap : Nat) (xs : List Int) (w : World) (hx : IntsAt w.heap.size w A n xs) (hn : n ≤ 4398046511104) :
    Calls Try.prog 58 #[.slice A n cap, .func (.func g) #[] #[]] w fun e w' => e = .returned (.bool (someB p xs n)) ∧ w' = w := by
  have HI := hide (index_any g p hg A n cap xs w hx hn)
  clear hx
  go_enter Try.func58, Try.ntmps58
  go_wp2_with fail
  refine HI.out.mono ?_
  rintro e w' ⟨r, rfl, rfl, hr⟩
  go_wp2
  go_ret
  exact ⟨by first | rfl | exact ret_bool hr, rfl⟩

end Go.Proofs.Ytdepnhnpklbmiaa
/- Contracts of IsSorted, Valid and result. -/
namespace Go.Proofs.Ytdepnhnpklbmiaa
open Go.Shelf
def laysIsSorted_ren : Go.Shelf.Ren := ⟨fun | 10 => 57 | 18 => 77 | 24 => 85 | n => n, fun | 22 => 22 | 24 => 3 | 4 => 4 | 3 => 3 | 0 => 0 | n => n, fun | n => n⟩
theorem laysIsSorted : Go.Proofs.SlLaysO.n10 Try.prog laysIsSorted_ren := {
  mixed := by kernel_rfl
  f10 := ⟨Try.f57.name, by decide, Try.func57.trans (congrArg some (by kernel_rfl))⟩
  f18 := ⟨Try.f77.name, by decide, Try.func77.trans (congrArg some (by kernel_rfl))⟩
  f24 := ⟨Try.f85.name, by decide, Try.func85.trans (congrArg some (by kernel_rfl))⟩
  t0 := Try.underlying0
  a0 := Try.isAgg0
  z0 := Try.sizeOf0
  v0 := Try.zeroValue0
  t3 := Try.underlying3
  a3 := Try.isAgg3
  z3 := Try.sizeOf3
  v3 := Try.zeroValue3
  t4 := Try.underlying4
  a4 := Try.isAgg4
  z4 := Try.sizeOf4
  v4 := Try.zeroValue4
  t22 := Try.underlying22
  a22 := Try.isAgg22
  z22 := Try.sizeOf22
  v22 := Try.zeroValue22
  t24 := Try.underlying3
  a24 := Try.isAgg3
  z24 := Try.sizeOf3
  v24 := Try.zeroValue3 }

open Go.RowKit Go.Sort Go.Lib in
theorem lib_IsSorted (blk off cap : Nat) (d : Array Int) (w : World) (hc : ∀ i, i < d.size → w.cell? ⟨blk, off + i, none⟩ = some ((Value.int .i64) d[i]!)) (hsz : d.size < 4611686018427387904) :
    Calls Try.prog 57 #[.slice (some ⟨blk, off, none⟩) d.size cap] w fun e w' => e = .returned (.bool (Lib.downOK (fun x y => decide (x < y)) d (d.size - 1))) ∧ ∃ q, w' = w.drewN q := AnyO.slices_IsSorted_int laysIsSorted blk off cap d w hc hsz
theorem lib_IsSorted_none (p : Option Addr) (cap : Nat) (w : World) :
    Calls Try.prog 57 #[.slice p 0 cap] w fun e w' => e = .returned (.bool true) ∧ w' = w := AnyO.slices_IsSorted_int_none laysIsSorted p cap w
end Go.Proofs.Ytdepnhnpklbmiaa

namespace Go.Proofs.Ytdepnhnpklbmiaa
open Go.RowKit Go.Sort

theorem sorted_any (A : Option Addr) (n cap : Nat) (xs : List Int) (w : World) (hx : IntsAt w.heap.size w A n xs) (hn : n ≤ 4398046511104) :
    Calls Try.prog 57 #[.slice A n cap] w fun e w' => e = .returned (.bool (decide (ascTo xs n))) ∧ ∃ q, w' = w.drewN q := by
  obtain ⟨hl, h0 | ⟨b, off, rfl, hb, hc⟩⟩ := hx
  · subst h0
    refine (lib_IsSorted_none A cap w).mono ?_
    rintro e w' ⟨rfl, rfl⟩
    exact ⟨ret_bool (decide_eq_true (show ascTo xs 0 from fun i hi => by omega)).symm, 0, rfl⟩
  · have hsz : xs.toArray.size = n := by simpa using hl
    have h := lib_IsSorted b off cap xs.toArray w (fun i hi => by
      rw [hsz] at hi
      rw [hc i hi, iA_get (by omega)]
      simp [hl, hi]) (by rw [hsz]; omega)
    rw [hsz] at h
    refine h.mono ?_
    rintro e w' ⟨rfl, q, rfl⟩
    refine ⟨ret_bool ?_, q, rfl⟩
    have hg : ∀ i, i < n → xs.toArray[i]! = iA xs i := fun i hi => by
      rw [iA_get (by omega)]
      simp [hl, hi]
    cases hd : Lib.downOK (fun x y => decide (x < y)) xs.toArray (n - 1)
    · refine (decide_eq_false (p := ascTo xs n) fun ha => ?_).symm
      have := (Lib.downOK_iff (fun x y => decide (x < y)) xs.toArray (n - 1)).2 fun i hi => by
        have := ha i (by omega)
        rw [hg i (by omega), hg (i + 1) (by omega)]
        exact decide_eq_false (by omega)
      rw [hd] at this
      cases this
    · refine (decide_eq_true (p := ascTo xs n) fun i hi => ?_).symm
      have := (Lib.downOK_iff (fun x y => decide (x < y)) xs.toArray (n - 1)).1 hd i (by omega)
      rw [hg i (by omega), hg (i + 1) (by omega)] at this
      have := of_decide_eq_false this
      omega

theorem some_slTo (xs : List Int) (n : Nat) : (!someB (fun x => !inB x 1048576) xs n) = decide (slTo xs n) := by
  unfold someB
  by_cases h : slTo xs n
  · rw [decide_eq_true h, decide_eq_false (fun ⟨i, h1, h2⟩ => by have h2 : (!inB (iA xs i) 1048576) = true := h2; rw [h i h1] at h2; cases h2)]
    rfl
  · rw [decide_eq_false h, decide_eq_true]
    · rfl
    · refine Classical.byContradiction fun hn => h fun i hi => ?_
      cases hv : inB (iA xs i) 1048576
      · exact absurd ⟨i, hi, show (!inB (iA xs i) 1048576) = true by rw [hv]; rfl⟩ hn
      · rfl

theorem okC_eq (c : Cu) {n : Nat} (h : c.sl.length = n) : okC c = (inB c.fr 1048576 && inB c.fst 1099511627776 && decide ((n : Int) ≤ 64) && decide (ascTo c.sl n) && decide (slTo c.sl n)) := by
  subst h
  rw [Bool.eq_iff_iff]
  unfold okC
  simp only [Bool.and_eq_true, decide_eq_true_eq]
  constructor
  · rintro ⟨a, b, c, d, e⟩
    exact ⟨⟨⟨⟨a, b⟩, by omega⟩, d⟩, e⟩
  · rintro ⟨⟨⟨⟨a, b⟩, c⟩, d⟩, e⟩
    exact ⟨a, b, by omega, d, e⟩

set_option maxHeartbeats 2000000 in
set_option maxRecDepth 100000 in
theorem Valid_any (c : Cu) (A : Option Addr) (n cap : Nat) (w : World) (hx : IntsAt w.heap.size w A n c.sl) (hn : n ≤ 9223372036854775807) :
    Calls Try.prog 19 #[.agg #[.int .i64 c.fr, .int .i64 c.fst, .slice A n cap]] w fun e w' => e = .returned (.bool (okC c)) ∧ Gr w w' := by
  have HX := hide hx
  have HE := hide (okC_eq c hx.1)
  obtain ⟨W1, hW1⟩ : ∃ W1, w.alloc (.cells #[.int .i64 c.fr, .int .i64 c.fst, .slice A n cap] 24) = W1 := ⟨_, rfl⟩
  have hG1 : Gr w W1 := by rw [← hW1]; exact (Gr.refl w).alloc _
  have HX1 := hide (hx.gr hG1)
  have s0 : ∀ q, (W1.drewN q).cell? ⟨w.heap.size, 0, none⟩ = some (.int .i64 c.fr) := fun _ => by rw [← hW1]; simp
  have s1 : ∀ q, (W1.drewN q).cell? ⟨w.heap.size, 1, none⟩ = some (.int .i64 c.fst) := fun _ => by rw [← hW1]; simp
  have s2 : ∀ q, (W1.drewN q).cell? ⟨w.heap.size, 2, none⟩ = some (.slice A n cap) := fun _ => by rw [← hW1]; simp
  have t0 := s0 0
  have t1 := s1 0
  have t2 := s2 0
  rw [World.drewN_zero] at t0 t1 t2
  have HG1 := hide hG1
  have HA := hide (within_any c.fr 1048576 W1 (by decide) (by decide))
  have HB := hide (within_any c.fst 1099511627776 W1 (by decide) (by decide))
  have HC := hide (fun (h64 : n ≤ 64) => sorted_any A n cap c.sl W1 HX1.out (by omega))
  have HD := hide (fun (h64 : n ≤ 64) q => some_any 55 _ tests55 A n cap c.sl (W1.drewN q) (HX1.out.gr ((Gr.refl W1).drewN q)) (by omega))
  have HS := hide (some_slTo c.sl n)
  clear hx hG1 HX1
  generalize inB c.fr 1048576 = p1 at HA HE
  generalize inB c.fst 1099511627776 = p2 at HB HE
  generalize decide (ascTo c.sl n) = p4 at HC HE
  generalize decide (slTo c.sl n) = p5 at HS HE
  generalize someB (fun x => !inB x 1048576) c.sl n = p6 at HS HD
  go_enter Try.func19, Try.ntmps19
  go_wp2_with fail
  refine HA.out.mono ?_
  rintro e w2 ⟨rfl, rfl⟩
  cases p1
  · go_wp2
    go_ret
    exact ⟨ret_bool (by rw [HE.out]; rfl), HG1.out⟩
  go_wp2_with fail
  refine HB.out.mono ?_
  rintro e w3 ⟨rfl, rfl⟩
  cases p2
  · go_wp2
    go_ret
    exact ⟨ret_bool (by rw [HE.out]; rfl), HG1.out⟩
  by_cases hl : (n : Int) ≤ 64
  · have d1 : decide ((n : Int) ≤ 64) = true := decide_eq_true hl
    rw [d1] at HE
    go_wp2_with fail
    refine (HC.out (by omega)).mono ?_
    rintro e w4 ⟨rfl, q, rfl⟩
    cases p4
    · go_wp2
      go_ret
      exact ⟨ret_bool (by rw [HE.out]; rfl), HG1.out.drewN q⟩
    have u2 := s2 q
    go_wp2_with fail
    refine (HD.out (by omega) q).mono ?_
    rintro e w5 ⟨rfl, rfl⟩
    go_wp2
    go_ret
    exact ⟨ret_bool (by rw [HE.out, ← HS.out]; rfl), HG1.out.drewN q⟩
  · have d1 : decide ((n : Int) ≤ 64) = false := decide_eq_false hl
    rw [d1] at HE
    go_wp2
    go_ret
    exact ⟨ret_bool (by rw [HE.out]; rfl), HG1.out⟩

end Go.Proofs.Ytdepnhnpklbmiaa
/- A walker in memory; contracts of fromOf, toOf, after, before and step. -/
namespace Go.Proofs.Ytdepnhnpklbmiaa
open Go.RowKit Go.Sort

set_option maxHeartbeats 400000 in
theorem toOf_any (c : Cu) (A : Option Addr) (n cap : Nat) (w : World) (h0 : -1048576 ≤ c.fr) (h1 : c.fr ≤ 1048576) (hn : n ≤ 1000000) :
    Calls Try.prog 50 #[.agg #[.int .i64 c.fr, .int .i64 c.fst, .slice A n cap]] w fun e w' => e = .returned (.int .i64 (c.fr + n)) ∧ Gr w w' := by
  generalize c.fr = f at *
  generalize c.fst = g
  have hn' : (n : Int) ≤ 1000000 := by omega
  go_enter Try.func50, Try.ntmps50
  go_wp2
  go_ret
  exact ⟨rfl, (Gr.refl _).alloc _⟩
set_option maxHeartbeats 400000 in
theorem fromOf_any (c : Cu) (A : Option Addr) (n cap : Nat) (w : World) :
    Calls Try.prog 49 #[.agg #[.int .i64 c.fr, .int .i64 c.fst, .slice A n cap]] w fun e w' => e = .returned (.int .i64 c.fr) ∧ Gr w w' := by
  generalize c.fr = f at *
  generalize c.fst = g
  go_enter Try.func49, Try.ntmps49
  go_wp2
  go_ret
  exact ⟨rfl, (Gr.refl _).alloc _⟩

/-- a walker along c, at the address ⟨b, off⟩: it is at x, where the value is v -/
structure WkAt (W : World) (b off : Nat) (c : Cu) (A : Option Addr) (n cap : Nat) (x v : Int) : Prop where
  lt : b < W.heap.size
  c0 : W.cell? ⟨b, off, none⟩ = some (.int .i64 c.fr)
  c1 : W.cell? ⟨b, off + 1, none⟩ = some (.int .i64 c.fst)
  c2 : W.cell? ⟨b, off + 2, none⟩ = some (.slice A n cap)
  c3 : W.cell? ⟨b, off + 3, none⟩ = some (.int .i64 x)
  c4 : W.cell? ⟨b, off + 4, none⟩ = some (.int .i64 v)
  f3 : W.frozen? ⟨b, off + 3, none⟩ = false
  f4 : W.frozen? ⟨b, off + 4, none⟩ = false
theorem WkAt.gr {W W' : World} {b off : Nat} {c : Cu} {A : Option Addr} {n cap : Nat} {x v : Int} (h : WkAt W b off c A n cap x v) (hg : Gr W W') : WkAt W' b off c A n cap x v :=
  ⟨Nat.lt_of_lt_of_le h.lt hg.size, (hg.cell (p := ⟨b, off, none⟩) h.lt).trans h.c0, (hg.cell (p := ⟨b, off + 1, none⟩) h.lt).trans h.c1, (hg.cell (p := ⟨b, off + 2, none⟩) h.lt).trans h.c2, (hg.cell (p := ⟨b, off + 3, none⟩) h.lt).trans h.c3,
    (hg.cell (p := ⟨b, off + 4, none⟩) h.lt).trans h.c4, (hg.frozen (p := ⟨b, off + 3, none⟩) h.lt).trans h.f3, (hg.frozen (p := ⟨b, off + 4, none⟩) h.lt).trans h.f4⟩

/-- the slope behind the k-th number -/
def aftV (c : Cu) (k : Nat) : Int := if k = c.sl.length then 1048576 else iA c.sl k

set_option maxHeartbeats 2000000 in
set_option maxRecDepth 100000 in
theorem after_any (b off : Nat) (c : Cu) (A : Option Addr) (n cap k : Nat) (v : Int) (w : World) (hw : WkAt w b off c A n cap (c.fr + k) v) (hx : IntsAt w.heap.size w A n c.sl) (h0 : -1048576 ≤ c.fr) (h1 : c.fr ≤ 1048576) (hn : n ≤ 1000) (hk : k ≤ n) :
    Calls Try.prog 63 #[.pointer (some ⟨b, off, none⟩)] w fun e w' => e = .returned (.int .i64 (aftV c k)) ∧ Gr w w' := by
  have mixed := mixedOrders
  have HW := hide hw
  have HX := hide hx
  obtain ⟨x, hxx⟩ : ∃ x, c.fr + (k : Int) = x := ⟨_, rfl⟩
  obtain ⟨t, ht⟩ : ∃ t, c.fr + (n : Int) = t := ⟨_, rfl⟩
  have HT := hide (fun w1 => toOf_any c A n cap w1 h0 h1 (by omega))
  rw [ht] at HT
  rw [hxx] at HW
  have g0 := HW.out.c0
  have g1 := HW.out.c1
  have g2 := HW.out.c2
  have g3 := HW.out.c3
  have hlt := HW.out.lt
  have hlen := hx.1
  clear hw hx
  by_cases hkn : k = n
  · have hb : (x == t) = true := beq_iff_eq.2 (by omega)
    have HV : Hid (aftV c k = 1048576) := if_pos (by omega)
    clear hxx ht
    go_enter Try.func63, Try.ntmps63
    go_wp2_with fail
    go_region_held3 (fun w' => w'.cell? ⟨b, off, none⟩ = some (.int .i64 c.fr) ∧ w'.cell? ⟨b, off + 1, none⟩ = some (.int .i64 c.fst) ∧ w'.cell? ⟨b, off + 2, none⟩ = some (.slice A n cap) ∧ w'.cell? ⟨b, off + 3, none⟩ = some (.int .i64 x))
      (first | go_keep | exact ⟨(hG1.cell (p := ⟨b, off, none⟩) hlt).trans g0, (hG1.cell (p := ⟨b, off + 1, none⟩) hlt).trans g1, (hG1.cell (p := ⟨b, off + 2, none⟩) hlt).trans g2, (hG1.cell (p := ⟨b, off + 3, none⟩) hlt).trans g3⟩)
      (first | (go_at_call 50; (with_reducible refine (HT.out _).mono ?_); rintro e w2 ⟨rfl, hG1⟩))
    have HG := hide hG1
    clear hG1
    go_wp2
    go_ret
    exact ⟨ret_int HV.out.symm, ((Gr.refl w).drew).trans HG.out⟩
  · have hb : (x == t) = false := beq_eq_false_iff_ne.2 (by omega)
    have hkl : k < n := by omega
    have HV : Hid (aftV c k = iA c.sl k) := if_neg (by omega)
    obtain ⟨b2, off2, rfl, hb2, e0⟩ := HX.out.at_ hkl
    have hd : x - c.fr = (k : Int) := by omega
    have hw2 : IntKind.i64.wrap (x - c.fr) = (k : Int) := by rw [IntKind.wrap_i64]; omega
    have hkl' : (k : Int) < (n : Int) := by omega
    have HH := hide hlen
    clear hxx ht hlen
    go_enter Try.func63, Try.ntmps63
    go_wp2_with fail
    go_region_held3 (fun w' => w'.cell? ⟨b, off, none⟩ = some (.int .i64 c.fr) ∧ w'.cell? ⟨b, off + 1, none⟩ = some (.int .i64 c.fst) ∧ w'.cell? ⟨b, off + 2, none⟩ = some (.slice (some ⟨b2, off2, none⟩) n cap) ∧ w'.cell? ⟨b, off + 3, none⟩ = some (.int .i64 x))
      (first | go_keep | exact ⟨(hG1.cell (p := ⟨b, off, none⟩) hlt).trans g0, (hG1.cell (p := ⟨b, off + 1, none⟩) hlt).trans g1, (hG1.cell (p := ⟨b, off + 2, none⟩) hlt).trans g2, (hG1.cell (p := ⟨b, off + 3, none⟩) hlt).trans g3⟩)
      (first | (go_at_call 50; (with_reducible refine (HT.out _).mono ?_); rintro e w2 ⟨rfl, hG1⟩))
    have hG := ((Gr.refl w).drew).trans hG1
    have E0 : ∀ nq, (w2.drewN nq).cell? ⟨b, off, none⟩ = some (.int .i64 c.fr) := fun _ => (hG.cell (p := ⟨b, off, none⟩) hlt).trans g0
    have E2 : ∀ nq, (w2.drewN nq).cell? ⟨b, off + 2, none⟩ = some (.slice (some ⟨b2, off2, none⟩) n cap) := fun _ => (hG.cell (p := ⟨b, off + 2, none⟩) hlt).trans g2
    have E3 : ∀ nq, (w2.drewN nq).cell? ⟨b, off + 3, none⟩ = some (.int .i64 x) := fun _ => (hG.cell (p := ⟨b, off + 3, none⟩) hlt).trans g3
    have E5 : ∀ nq, (w2.drewN nq).cell? ⟨b2, off2 + k, none⟩ = some (.int .i64 (iA c.sl k)) := fun _ => (hG.cell (p := ⟨b2, off2 + k, none⟩) hb2).trans e0
    have HG := hide hG
    clear hG hG1 HT g0 g1 g2 g3 e0 hb2 hlt h0 h1 hd
    generalize c.fr = ff at *
    go_wp2_with fail
    go_quiet (fail)
    go_wp2
    go_ret
    exact ⟨ret_int HV.out.symm, HG.out.drewN _⟩

end Go.Proofs.Ytdepnhnpklbmiaa
/- Contracts of result, step, climb and at. -/
namespace Go.Proofs.Ytdepnhnpklbmiaa
open Go.RowKit Go.Sort

theorem cell_of_heap' {W : World} {b : Nat} {cs : Array Value} {t : TypeId} {fz : Nat × Nat} (h : W.heap[b]? = some (.cells cs t fz)) (j : Nat) : W.cell? ⟨b, j, none⟩ = cs[j]? := by
  simp [World.cell?, h]
theorem frozen_of_heap' {W : World} {b : Nat} {cs : Array Value} {t : TypeId} (h : W.heap[b]? = some (.cells cs t (0, 0))) (j : Nat) : W.frozen? ⟨b, j, none⟩ = false := by
  simp [World.frozen?, h]
/-- a struct of three cells stored -/
def set3 (W : World) (g : Nat) (a b c : Value) : World := ((W.setCell ⟨g, 0, none⟩ a).setCell ⟨g, 1, none⟩ b).setCell ⟨g, 2, none⟩ c
theorem set3_heap {W : World} {g : Nat} {p q r : Value} {t : TypeId} (h : W.heap[g]? = some (.cells #[p, q, r] t (0, 0))) (a b c : Value) : (set3 W g a b c).heap[g]? = some (.cells #[a, b, c] t (0, 0)) := by
  have h1 := heap_setCell_same W g 0 _ t a h
  have h2 := heap_setCell_same _ g 1 _ t b h1
  have h3 := heap_setCell_same _ g 2 _ t c h2
  unfold set3
  simpa using h3
theorem set3_below {n : Nat} {w W : World} {g : Nat} (h : Below n w W) (hg : n ≤ g) (a b c : Value) : Below n w (set3 W g a b c) :=
  ((h.setCell (p := ⟨g, 0, none⟩) hg a).setCell (p := ⟨g, 1, none⟩) hg b).setCell (p := ⟨g, 2, none⟩) hg c
theorem results60 {W : World} {g : Nat} {a b c : Value} {t : TypeId} (h : W.heap[g]? = some (.cells #[a, b, c] t (0, 0))) (x0 x1 y : Value) (rest : List Value) :
    (results Try.f60 (x0 :: x1 :: .pointer (some ⟨g, 0, none⟩) :: y :: rest).toArray).run Try.prog W = .ok (.tuple #[.agg #[a, b, c], y]) W := by
  have h0 := cell_of_heap' h 0
  have h1 := cell_of_heap' h 1
  have h2 := cell_of_heap' h 2
  simp at h0 h1 h2
  simp [results, Try.results60, go_sem, h0, h1, h2]
/-- a curve that was made, or that it is outside the limits -/
def resV (c : Cu) (A : Option Addr) (n cap : Nat) : Value := if okC c = true then .tuple #[.agg #[.int .i64 c.fr, .int .i64 c.fst, .slice A n cap], .int .i64 0] else .tuple #[.agg #[.int .i64 0, .int .i64 0, .slice none 0 0], .int .i64 4]

set_option maxHeartbeats 1000000 in
set_option maxRecDepth 100000 in
theorem result_any (c : Cu) (A : Option Addr) (n cap : Nat) (w : World) (hx : IntsAt w.heap.size w A n c.sl) (hn : n ≤ 9223372036854775807) :
    Calls Try.prog 60 #[.agg #[.int .i64 c.fr, .int .i64 c.fst, .slice A n cap]] w fun e w' => e = .returned (resV c A n cap) ∧ Below w.heap.size w w' := by
  obtain ⟨W1, hW1⟩ : ∃ W1, (w.alloc (.cells #[.int .i64 c.fr, .int .i64 c.fst, .slice A n cap] 24)).alloc (.cells #[.int .i64 0, .int .i64 0, .slice none 0 0] 24) = W1 := ⟨_, rfl⟩
  have hG1 : Gr w W1 := by rw [← hW1]; exact ((Gr.refl w).alloc _).alloc _
  have t0 : W1.cell? ⟨w.heap.size, 0, none⟩ = some (.int .i64 c.fr) ∧ W1.cell? ⟨w.heap.size, 1, none⟩ = some (.int .i64 c.fst) ∧ W1.cell? ⟨w.heap.size, 2, none⟩ = some (.slice A n cap) := by
    rw [← hW1]
    exact ⟨(World.cell?_alloc_lt _ _ _ (by simp)).trans (by simp), (World.cell?_alloc_lt _ _ _ (by simp)).trans (by simp), (World.cell?_alloc_lt _ _ _ (by simp)).trans (by simp)⟩
  have hl1 : w.heap.size < W1.heap.size := by rw [← hW1]; simp; omega
  have u1 : W1.heap[w.heap.size + 1]? = some (.cells #[.int .i64 0, .int .i64 0, .slice none 0 0] 24 (0, 0)) := by rw [← hW1]; simpa using heap_alloc_new (w.alloc (.cells #[.int .i64 c.fr, .int .i64 c.fst, .slice A n cap] 24)) (.cells #[.int .i64 0, .int .i64 0, .slice none 0 0] 24)
  have hl2 : w.heap.size + 1 < W1.heap.size := by rw [← hW1]; simp
  obtain ⟨r0, r1, r2⟩ := t0
  have HV := hide (Valid_any c A n cap W1 (hx.gr hG1) hn)
  have HG1 := hide hG1
  clear hx hG1
  go_enter Try.func60, Try.ntmps60
  go_wp2_with fail
  refine HV.out.mono ?_
  rintro e w2 ⟨rfl, hG⟩
  have v0 := (hG.cell (p := ⟨w.heap.size, 0, none⟩) hl1).trans r0
  have v1 := (hG.cell (p := ⟨w.heap.size, 1, none⟩) hl1).trans r1
  have v2 := (hG.cell (p := ⟨w.heap.size, 2, none⟩) hl1).trans r2
  have hh := (hG.block hl2).trans u1
  cases hc : okC c
  · have HR : Hid (resV c A n cap = .tuple #[.agg #[.int .i64 0, .int .i64 0, .slice none 0 0], .int .i64 4]) := by show _ = _; unfold resV; rw [if_neg (by rw [hc]; decide)]
    have HB := hide ((HG1.out.below).trans (hG.below.mono HG1.out.size))
    have HH := hide hh
    have z0 := cell_of_heap' hh 0
    have z1 := cell_of_heap' hh 1
    have z2 := cell_of_heap' hh 2
    have y0 := frozen_of_heap' hh 0
    have y1 := frozen_of_heap' hh 1
    have y2 := frozen_of_heap' hh 2
    simp at z0 z1 z2
    clear hG hh hc r0 r1 r2 u1 hW1
    go_wp2
    refine bodyPost_ret (results60 (set3_heap HH.out _ _ _) _ _ _ _) rfl ?_
    exact ⟨by rw [HR.out], set3_below HB.out (by omega) _ _ _⟩
  · have HR : Hid (resV c A n cap = .tuple #[.agg #[.int .i64 c.fr, .int .i64 c.fst, .slice A n cap], .int .i64 0]) := by show _ = _; unfold resV; rw [if_pos hc]
    have HB := hide ((HG1.out.below).trans (hG.below.mono HG1.out.size))
    have HH := hide hh
    have z0 := cell_of_heap' hh 0
    have z1 := cell_of_heap' hh 1
    have z2 := cell_of_heap' hh 2
    have y0 := frozen_of_heap' hh 0
    have y1 := frozen_of_heap' hh 1
    have y2 := frozen_of_heap' hh 2
    simp at z0 z1 z2
    clear hG hh hc r0 r1 r2 u1 hW1
    go_wp2
    refine bodyPost_ret (results60 (set3_heap HH.out _ _ _) _ _ _ _) rfl ?_
    exact ⟨by rw [HR.out], set3_below HB.out (by omega) _ _ _⟩

set_option maxHeartbeats 2000000 in
set_option maxRecDepth 100000 in
theorem step_any (b off : Nat) (c : Cu) (A : Option Addr) (n cap k : Nat) (v : Int) (w : World) (hw : WkAt w b off c A n cap (c.fr + k) v) (hx : IntsAt w.heap.size w A n c.sl) (h0 : -1048576 ≤ c.fr) (h1 : c.fr ≤ 1048576) (hn : n ≤ 1000) (hk : k < n)
    (hv : -1125899906842624 ≤ v ∧ v ≤ 1125899906842624) (hs : -1048576 ≤ iA c.sl k ∧ iA c.sl k ≤ 1048576) :
    Calls Try.prog 64 #[.pointer (some ⟨b, off, none⟩)] w fun e w' => e = .returned (.tuple #[]) ∧ ∃ W1, Gr w W1 ∧ w' = (W1.setCell ⟨b, off + 4, none⟩ (.int .i64 (v + iA c.sl k))).setCell ⟨b, off + 3, none⟩ (.int .i64 (c.fr + k + 1)) := by
  have mixed := mixedOrders
  have HW := hide hw
  have HX := hide hx
  have hA : aftV c k = iA c.sl k := if_neg (by have := hx.1; omega)
  have HA := hide (fun w1 (hg : Gr w w1) => after_any b off c A n cap k v w1 (hw.gr hg) (hx.gr hg) h0 h1 hn (by omega))
  rw [hA] at HA
  generalize iA c.sl k = s at *
  obtain ⟨x, hxx⟩ : ∃ x, c.fr + (k : Int) = x := ⟨_, rfl⟩
  rw [hxx]
  rw [hxx] at HW
  have g3 := HW.out.c3
  have g4 := HW.out.c4
  have f3 := HW.out.f3
  have f4 := HW.out.f4
  have hlt := HW.out.lt
  obtain ⟨hv1, hv2⟩ := hv
  obtain ⟨hs1, hs2⟩ := hs
  have hx1 : -2000000 ≤ x := by omega
  have hx2 : x ≤ 2000000 := by omega
  clear hw hx hA
  go_enter Try.func64, Try.ntmps64
  go_wp2_with fail
  have hwr : IntKind.i64.wrap (v + s) = v + s := by rw [IntKind.wrap_i64]; omega
  go_region_law (first | (go_simp; go_at_call 63; refine (HA.out _ ((Gr.refl w).drew)).mono ?_; rintro e w2 ⟨rfl, hG1⟩; have g3' := (hG1.cell (p := ⟨b, off + 3, none⟩) hlt).trans g3; have g4' := (hG1.cell (p := ⟨b, off + 4, none⟩) hlt).trans g4; have f3' := (hG1.frozen (p := ⟨b, off + 3, none⟩) hlt).trans f3; have f4' := (hG1.frozen (p := ⟨b, off + 4, none⟩) hlt).trans f4))
  all_goals
    have hG2 := ((Gr.refl w).drew).trans hG1
    have k3 : (w2.setCell ⟨b, off + 4, none⟩ (.int .i64 (v + s))).cell? ⟨b, off + 3, none⟩ = some (.int .i64 x) := (World.cell?_setCell_other _ _ _ _ (by intro e; simp only [Addr.mk.injEq] at e; omega)).trans g3'
    have m3 : (w2.setCell ⟨b, off + 4, none⟩ (.int .i64 (v + s))).frozen? ⟨b, off + 3, none⟩ = false := by rw [World.frozen?_setCell]; exact f3'
    try rw [hwr]
    have HG2 := hide hG2
    clear hG1 hG2 g3' g4' f3' f4' g3 g4 f3 f4
    go_wp2
    go_end0
    exact ⟨rfl, w2, HG2.out, rfl⟩

end Go.Proofs.Ytdepnhnpklbmiaa
/- Contracts of climb and at. -/
namespace Go.Proofs.Ytdepnhnpklbmiaa
open Go.RowKit Go.Sort

/-- a walker at ⟨b, off⟩ has gone on; nothing else old has turned -/
structure Wkd (b off : Nat) (W W' : World) : Prop where
  os : W'.os = W.os
  tape : W'.tape = W.tape
  output : W'.output = W.output
  size : W.heap.size ≤ W'.heap.size
  block : ∀ j, j < W.heap.size → j ≠ b → W'.heap[j]? = W.heap[j]?
  cell : ∀ o, o ≠ off + 3 → o ≠ off + 4 → W'.cell? ⟨b, o, none⟩ = W.cell? ⟨b, o, none⟩
  frz : ∀ o, W'.frozen? ⟨b, o, none⟩ = W.frozen? ⟨b, o, none⟩
theorem Wkd.of_gr {b off : Nat} {W W' : World} (hb : b < W.heap.size) (h : Gr W W') : Wkd b off W W' :=
  ⟨h.below.os, h.below.tape, h.below.output, h.size, fun _ hj _ => h.block hj, fun o _ _ => h.cell (p := ⟨b, o, none⟩) hb, fun o => h.frozen (p := ⟨b, o, none⟩) hb⟩
theorem Wkd.trans {b off : Nat} {W W' W'' : World} (h : Wkd b off W W') (k : Wkd b off W' W'') : Wkd b off W W'' :=
  ⟨k.os.trans h.os, k.tape.trans h.tape, k.output.trans h.output, Nat.le_trans h.size k.size, fun j hj hb => (k.block j (Nat.lt_of_lt_of_le hj h.size) hb).trans (h.block j hj hb), fun o h3 h4 => (k.cell o h3 h4).trans (h.cell o h3 h4), fun o => (k.frz o).trans (h.frz o)⟩
theorem Wkd.set {b off o : Nat} {W W' : World} (h : Wkd b off W W') (ho : o = off + 3 ∨ o = off + 4) (v : Value) : Wkd b off W (W'.setCell ⟨b, o, none⟩ v) :=
  ⟨h.os, h.tape, h.output, by simpa [World.setCell] using h.size, fun j hj hb => (Below.heap_setCell _ _ _ _ hb).trans (h.block j hj hb),
    fun q h3 h4 => (World.cell?_setCell_other _ _ _ _ (by intro e; simp only [Addr.mk.injEq] at e; omega)).trans (h.cell q h3 h4), fun q => by rw [World.frozen?_setCell]; exact h.frz q⟩
theorem Wkd.below {b off n : Nat} {w W W' : World} (h : Wkd b off W W') (hb : Below n w W) (hn : n ≤ b) (hw : n ≤ W.heap.size) : Below n w W' :=
  ⟨h.os.trans hb.os, h.tape.trans hb.tape, h.output.trans hb.output, Nat.le_trans hb.size h.size, fun j hj => (h.block j (by omega) (by omega)).trans (hb.block j hj)⟩
theorem IntsAt.wkd {b off B n : Nat} {W W' : World} {A : Option Addr} {xs : List Int} (h : IntsAt B W A n xs) (hw : Wkd b off W W') (hA : 0 < n → ∀ ad, A = some ad → ad.block ≠ b) (hB : B ≤ W.heap.size) : IntsAt B W' A n xs := by
  refine ⟨h.1, h.2.imp id fun ⟨b2, off2, h1, h2, h3⟩ => ⟨b2, off2, h1, h2, fun k hk => ?_⟩⟩
  have hne : b2 ≠ b := hA (by omega) _ h1
  exact (World.cell?_of_block (hw.block b2 (by omega) hne)).trans (h3 k hk)
theorem WkAt.stepped {w W1 : World} {b off : Nat} {c : Cu} {A : Option Addr} {n cap : Nat} {x v x' v' : Int} (h : WkAt w b off c A n cap x v) (hg : Gr w W1) :
    WkAt ((W1.setCell ⟨b, off + 4, none⟩ (.int .i64 v')).setCell ⟨b, off + 3, none⟩ (.int .i64 x')) b off c A n cap x' v' ∧ Wkd b off w ((W1.setCell ⟨b, off + 4, none⟩ (.int .i64 v')).setCell ⟨b, off + 3, none⟩ (.int .i64 x')) := by
  have hk := ((Wkd.of_gr (off := off) h.lt hg).set (.inr rfl) (.int .i64 v')).set (.inl rfl) (.int .i64 x')
  have h1 := h.gr hg
  refine ⟨⟨Nat.lt_of_lt_of_le h.lt hk.size, (hk.cell _ (by omega) (by omega)).trans h.c0, (hk.cell _ (by omega) (by omega)).trans h.c1, (hk.cell _ (by omega) (by omega)).trans h.c2, ?_, ?_, (hk.frz _).trans h.f3, (hk.frz _).trans h.f4⟩, hk⟩
  · exact World.cell?_setCell_same _ _ _ ((World.cell?_setCell_other _ _ _ _ (by intro e; simp only [Addr.mk.injEq] at e; omega)).trans h1.c3)
  · exact (World.cell?_setCell_other _ _ _ _ (by intro e; simp only [Addr.mk.injEq] at e; omega)).trans (World.cell?_setCell_same _ _ _ h1.c4)

/-- the value of a curve at its k-th number -/
def valK (c : Cu) : Nat → Int
  | 0 => c.fst
  | k + 1 => valK c k + iA c.sl k
theorem valK_range {c : Cu} (h : okC c = true) : ∀ k, k ≤ c.sl.length → -1099511627776 - 1048576 * k ≤ valK c k ∧ valK c k ≤ 1099511627776 + 1048576 * k
  | 0, _ => by
    have := inB_true (okC_true h).2.1
    unfold valK
    omega
  | k + 1, hk => by
    have ih := valK_range h k (by omega)
    have := inB_true ((okC_true h).2.2.2.2 k (by omega))
    unfold valK
    omega
/-- what the walks ask of a curve -/
theorem okC_fr {c : Cu} (h : okC c = true) : -1048576 ≤ c.fr ∧ c.fr ≤ 1048576 := inB_true (okC_true h).1
theorem okC_sl {c : Cu} (h : okC c = true) {k : Nat} (hk : k < c.sl.length) : -1048576 ≤ iA c.sl k ∧ iA c.sl k ≤ 1048576 := inB_true ((okC_true h).2.2.2.2 k hk)
theorem okC_val {c : Cu} (h : okC c = true) {k : Nat} (hk : k ≤ c.sl.length) : -1125899906842624 ≤ valK c k ∧ valK c k ≤ 1125899906842624 := by
  have := valK_range h k hk
  have := (okC_true h).2.2.1
  omega

/-- a walker on the way of a valid curve: it is at the k-th number -/
structure OnWay (W : World) (b off : Nat) (c : Cu) (A : Option Addr) (n cap k : Nat) : Prop where
  wk : WkAt W b off c A n cap (c.fr + k) (valK c k)
  sl : IntsAt W.heap.size W A n c.sl
  ne : 0 < n → ∀ ad, A = some ad → ad.block ≠ b
  le : k ≤ n
theorem OnWay.gr {W W' : World} {b off : Nat} {c : Cu} {A : Option Addr} {n cap k : Nat} (h : OnWay W b off c A n cap k) (hg : Gr W W') : OnWay W' b off c A n cap k :=
  ⟨h.wk.gr hg, h.sl.gr hg, h.ne, h.le⟩

theorem onway_step {W : World} {b off : Nat} {c : Cu} {A : Option Addr} {n cap k : Nat} (hc : okC c = true) (h : OnWay W b off c A n cap k) (hk : k < n) :
    Calls Try.prog 64 #[.pointer (some ⟨b, off, none⟩)] W fun e w' => e = .returned (.tuple #[]) ∧ OnWay w' b off c A n cap (k + 1) ∧ Wkd b off W w' := by
  have hl := h.sl.1
  have h0 := okC_fr hc
  have hn := (okC_true hc).2.2.1
  refine (step_any b off c A n cap k (valK c k) W h.wk h.sl h0.1 h0.2 (by omega) hk (okC_val hc (by omega)) (okC_sl hc (by omega))).mono ?_
  rintro e w' ⟨rfl, W1, hg, rfl⟩
  obtain ⟨h1, h2⟩ := h.wk.stepped (x' := c.fr + k + 1) (v' := valK c k + iA c.sl k) hg
  refine ⟨rfl, ⟨?_, (h.sl.wkd h2 h.ne (Nat.le_refl _)).mono h2.size, h.ne, by omega⟩, h2⟩
  have e1 : c.fr + ((k + 1 : Nat) : Int) = c.fr + k + 1 := by omega
  rw [e1]
  exact h1

/-- where a climb to p ends -/
def Clim (c : Cu) (p : Int) (n k k' : Nat) : Prop := k ≤ k' ∧ k' ≤ n ∧ (∀ j, k ≤ j → j < k' → iA c.sl j < p) ∧ (k' < n → p ≤ iA c.sl k')

set_option maxHeartbeats 4000000 in
set_option maxRecDepth 100000 in
theorem climb_any (b off : Nat) (c : Cu) (A : Option Addr) (n cap k : Nat) (p : Int) (w : World) (hc : okC c = true) (hw : OnWay w b off c A n cap k) :
    Calls Try.prog 69 #[.pointer (some ⟨b, off, none⟩), .int .i64 p] w fun e w' => e = .returned (.tuple #[]) ∧ ∃ k', Clim c p n k k' ∧ OnWay w' b off c A n cap k' ∧ Wkd b off w w' := by
  have mixed := mixedOrders
  have HW := hide hw
  have HC := hide hc
  have hl := hw.sl.1
  have hk := hw.le
  have h0 := okC_fr hc
  have hn : n ≤ 64 := by have := (okC_true hc).2.2.1; omega
  clear hw hc
  go_enter Try.func69, Try.ntmps69
  go_wp2
  go_loopg [] (n - k) (fun f wr => ∃ j : Nat, k ≤ j ∧ j ≤ n ∧ f = n - j ∧ Hid (∀ i, k ≤ i → i < j → iA c.sl i < p) ∧ Hid (OnWay wr b off c A n cap j) ∧ Hid (Wkd b off w wr))
  case atStart => exact ⟨k, Nat.le_refl _, hk, rfl, hide fun i h1 h2 => by omega, HW, hide (Wkd.of_gr HW.out.wk.lt (Gr.refl w))⟩
  case round =>
    obtain ⟨j, hkj, hjn, rfl, HB, HO, HK⟩ := hrel
    have HT := hide (fun w1 => toOf_any c A n cap w1 h0.1 h0.2 (by omega))
    have HF := hide (fun w1 (hg : Gr wr w1) => after_any b off c A n cap j (valK c j) w1 (HO.out.wk.gr hg) (HO.out.sl.gr hg) h0.1 h0.2 (by omega) hjn)
    obtain ⟨x, hxx⟩ : ∃ x, c.fr + (j : Int) = x := ⟨_, rfl⟩
    obtain ⟨t, ht⟩ : ∃ t, c.fr + (n : Int) = t := ⟨_, rfl⟩
    rw [ht] at HT
    have g0 := HO.out.wk.c0
    have g1 := HO.out.wk.c1
    have g2 := HO.out.wk.c2
    have g3 := HO.out.wk.c3
    rw [hxx] at g3
    have hlt := HO.out.wk.lt
    by_cases hj : j < n
    · have hd : decide (x < t) = true := decide_eq_true (by omega)
      have hA : aftV c j = iA c.sl j := if_neg (by omega)
      rw [hA] at HF
      by_cases hs : iA c.sl j < p
      · have hd2 : decide (iA c.sl j < p) = true := decide_eq_true hs
        have HB2 : Hid (∀ i, k ≤ i → i < j + 1 → iA c.sl i < p) := fun i h1 h2 => by
          rcases Nat.lt_or_ge i j with h | h
          · exact HB.out i h1 h
          · obtain rfl : i = j := by omega
            exact hs
        have HST := hide (fun w1 (hg : Gr wr w1) => onway_step HC.out (HO.out.gr hg) hj)
        clear hs hxx ht hA
        generalize iA c.sl j = s at HF hd2
        go_wp2_with fail
        go_region_held3 (fun w' => w'.cell? ⟨b, off, none⟩ = some (.int .i64 c.fr) ∧ w'.cell? ⟨b, off + 1, none⟩ = some (.int .i64 c.fst) ∧ w'.cell? ⟨b, off + 2, none⟩ = some (.slice A n cap) ∧ w'.cell? ⟨b, off + 3, none⟩ = some (.int .i64 x))
          (first | go_keep | exact ⟨(hG2.cell (p := ⟨b, off, none⟩) hlt).trans g0, (hG2.cell (p := ⟨b, off + 1, none⟩) hlt).trans g1, (hG2.cell (p := ⟨b, off + 2, none⟩) hlt).trans g2, (hG2.cell (p := ⟨b, off + 3, none⟩) hlt).trans g3⟩ | exact ⟨(hG4.cell (p := ⟨b, off, none⟩) hlt).trans g0, (hG4.cell (p := ⟨b, off + 1, none⟩) hlt).trans g1, (hG4.cell (p := ⟨b, off + 2, none⟩) hlt).trans g2, (hG4.cell (p := ⟨b, off + 3, none⟩) hlt).trans g3⟩)
          (first | (go_at_call 50; (with_reducible refine (HT.out _).mono ?_); rintro e w2 ⟨rfl, hG1⟩; have hG2 := ((Gr.refl wr).drew).trans hG1) | (go_at_call 63; (with_reducible refine (HF.out _ hG2).mono ?_); rintro e w4 ⟨rfl, hG3⟩; have hG4 := hG2.trans hG3))
        have HST2 := hide (HST.out w4 hG4)
        have HG4 := hide hG4
        clear hG1 hG2 hG3 hG4 g0 g1 g2 g3
        go_wp2_with fail
        refine HST2.out.mono ?_
        rintro e w5 ⟨rfl, ho, hk5⟩
        have HO5 := hide ho
        have HK5 := hide ((HK.out.trans (Wkd.of_gr hlt HG4.out)).trans hk5)
        clear ho hk5 HST HST2 HT HF
        go_wp2
        go_roundg (n - (j + 1))
        case measure => omega
        case rel => exact ⟨j + 1, by omega, by omega, rfl, HB2, HO5, HK5⟩
      · have hd2 : decide (iA c.sl j < p) = false := decide_eq_false hs
        have HE : Hid (Clim c p n k j) := ⟨hkj, hjn, HB.out, fun _ => by omega⟩
        clear hs hxx ht hA
        generalize iA c.sl j = s at HF hd2
        go_wp2_with fail
        go_region_held3 (fun w' => w'.cell? ⟨b, off, none⟩ = some (.int .i64 c.fr) ∧ w'.cell? ⟨b, off + 1, none⟩ = some (.int .i64 c.fst) ∧ w'.cell? ⟨b, off + 2, none⟩ = some (.slice A n cap) ∧ w'.cell? ⟨b, off + 3, none⟩ = some (.int .i64 x))
          (first | go_keep | exact ⟨(hG2.cell (p := ⟨b, off, none⟩) hlt).trans g0, (hG2.cell (p := ⟨b, off + 1, none⟩) hlt).trans g1, (hG2.cell (p := ⟨b, off + 2, none⟩) hlt).trans g2, (hG2.cell (p := ⟨b, off + 3, none⟩) hlt).trans g3⟩ | exact ⟨(hG4.cell (p := ⟨b, off, none⟩) hlt).trans g0, (hG4.cell (p := ⟨b, off + 1, none⟩) hlt).trans g1, (hG4.cell (p := ⟨b, off + 2, none⟩) hlt).trans g2, (hG4.cell (p := ⟨b, off + 3, none⟩) hlt).trans g3⟩)
          (first | (go_at_call 50; (with_reducible refine (HT.out _).mono ?_); rintro e w2 ⟨rfl, hG1⟩; have hG2 := ((Gr.refl wr).drew).trans hG1) | (go_at_call 63; (with_reducible refine (HF.out _ hG2).mono ?_); rintro e w4 ⟨rfl, hG3⟩; have hG4 := hG2.trans hG3))
        have HG4 := hide hG4
        clear hG1 hG2 hG3 hG4 g0 g1 g2 g3
        go_wp2
        go_end0
        exact ⟨rfl, j, HE.out, HO.out.gr HG4.out, HK.out.trans (Wkd.of_gr hlt HG4.out)⟩
    · have hd : decide (x < t) = false := decide_eq_false (by omega)
      have HE : Hid (Clim c p n k j) := ⟨hkj, hjn, HB.out, fun h => absurd h hj⟩
      have E0 := fun n os => cell_grown (a := ⟨b, off, none⟩) hlt g0 n os
      have E1 := fun n os => cell_grown (a := ⟨b, off + 1, none⟩) hlt g1 n os
      have E2 := fun n os => cell_grown (a := ⟨b, off + 2, none⟩) hlt g2 n os
      have E3 := fun n os => cell_grown (a := ⟨b, off + 3, none⟩) hlt g3 n os
      clear hxx ht HF g0 g1 g2 g3
      go_wp2_with fail
      go_quiet_grown (first | (go_at_call 50; refine Calls.grown_of ((HT.out _).mono fun _ _ h => ⟨h.1, h.2⟩)))
      have HG2 : Hid (Gr wr (grow (wr.drewN nq) osq)) := ⟨nq, osq, rfl⟩
      clear E0 E1 E2 E3
      go_wp2
      go_end0
      exact ⟨rfl, j, HE.out, HO.out.gr HG2.out, HK.out.trans (Wkd.of_gr hlt HG2.out)⟩

end Go.Proofs.Ytdepnhnpklbmiaa
/- Contract of at. -/
namespace Go.Proofs.Ytdepnhnpklbmiaa
open Go.RowKit Go.Sort

/-- a walker as a value -/
def wkV (c : Cu) (A : Option Addr) (n cap : Nat) (x v : Int) : Value := .agg #[.int .i64 c.fr, .int .i64 c.fst, .slice A n cap, .int .i64 x, .int .i64 v]

/-- a struct of five cells stored -/
def set5 (W : World) (g : Nat) (a b c d e : Value) : World := ((((W.setCell ⟨g, 0, none⟩ a).setCell ⟨g, 1, none⟩ b).setCell ⟨g, 2, none⟩ c).setCell ⟨g, 3, none⟩ d).setCell ⟨g, 4, none⟩ e
theorem set5_heap {W : World} {g : Nat} {p q r s u : Value} {t : TypeId} (h : W.heap[g]? = some (.cells #[p, q, r, s, u] t (0, 0))) (a b c d e : Value) : (set5 W g a b c d e).heap[g]? = some (.cells #[a, b, c, d, e] t (0, 0)) := by
  have h1 := heap_setCell_same W g 0 _ t a h
  have h2 := heap_setCell_same _ g 1 _ t b h1
  have h3 := heap_setCell_same _ g 2 _ t c h2
  have h4 := heap_setCell_same _ g 3 _ t d h3
  have h5 := heap_setCell_same _ g 4 _ t e h4
  unfold set5
  simpa using h5
theorem set5_below {n : Nat} {w W : World} {g : Nat} (h : Below n w W) (hg : n ≤ g) (a b c d e : Value) : Below n w (set5 W g a b c d e) :=
  ((((h.setCell (p := ⟨g, 0, none⟩) hg a).setCell (p := ⟨g, 1, none⟩) hg b).setCell (p := ⟨g, 2, none⟩) hg c).setCell (p := ⟨g, 3, none⟩) hg d).setCell (p := ⟨g, 4, none⟩) hg e
theorem results51 {W : World} {g : Nat} {a b c d e : Value} {t : TypeId} (h : W.heap[g]? = some (.cells #[a, b, c, d, e] t (0, 0))) (x0 x1 x2 x3 : Value) (rest : List Value) :
    (results Try.f51 (x0 :: x1 :: x2 :: x3 :: .pointer (some ⟨g, 0, none⟩) :: rest).toArray).run Try.prog W = .ok (.agg #[a, b, c, d, e]) W := by
  have h0 := cell_of_heap' h 0
  have h1 := cell_of_heap' h 1
  have h2 := cell_of_heap' h 2
  have h3 := cell_of_heap' h 3
  have h4 := cell_of_heap' h 4
  simp at h0 h1 h2 h3 h4
  simp [results, Try.results51, go_sem, h0, h1, h2, h3, h4]

set_option maxHeartbeats 4000000 in
set_option maxRecDepth 100000 in
theorem at_any (c : Cu) (A : Option Addr) (n cap k : Nat) (w : World) (hc : okC c = true) (hx : IntsAt w.heap.size w A n c.sl) (hA : 0 < n → ∀ ad, A = some ad → ad.block < w.heap.size) (hk : k ≤ n) :
    Calls Try.prog 51 #[.agg #[.int .i64 c.fr, .int .i64 c.fst, .slice A n cap], .int .i64 (c.fr + k)] w fun e w' => e = .returned (wkV c A n cap (c.fr + k) (valK c k)) ∧ Below w.heap.size w w' := by
  have mixed := mixedOrders
  have HX := hide hx
  have HC := hide hc
  have hl := hx.1
  have h0 := okC_fr hc
  have hn : n ≤ 64 := by have := (okC_true hc).2.2.1; omega
  obtain ⟨x, hxx⟩ : ∃ x, c.fr + (k : Int) = x := ⟨_, rfl⟩
  rw [hxx]
  obtain ⟨W0, hW0⟩ : ∃ W0, ((w.alloc (.cells #[.int .i64 c.fr, .int .i64 c.fst, .slice A n cap] 24)).alloc (.cells #[.int .i64 0, .int .i64 0, .slice none 0 0, .int .i64 0, .int .i64 0] 61)).alloc (.cells #[.int .i64 c.fr, .int .i64 c.fst, .slice A n cap, .int .i64 c.fr, .int .i64 c.fst] 61) = W0 := ⟨_, rfl⟩
  obtain ⟨r, hr⟩ : ∃ r, w.heap.size + 1 = r := ⟨_, rfl⟩
  have hG0 : Gr w W0 := by rw [← hW0]; exact (((Gr.refl w).alloc _).alloc _).alloc _
  have hb0 : W0.heap[r + 1]? = some (.cells #[.int .i64 c.fr, .int .i64 c.fst, .slice A n cap, .int .i64 c.fr, .int .i64 c.fst] 61 (0, 0)) := by
    rw [← hW0, ← hr]
    simpa using heap_alloc_new ((w.alloc (.cells #[.int .i64 c.fr, .int .i64 c.fst, .slice A n cap] 24)).alloc (.cells #[.int .i64 0, .int .i64 0, .slice none 0 0, .int .i64 0, .int .i64 0] 61)) (.cells #[.int .i64 c.fr, .int .i64 c.fst, .slice A n cap, .int .i64 c.fr, .int .i64 c.fst] 61)
  have hr0 : W0.heap[r]? = some (.cells #[.int .i64 0, .int .i64 0, .slice none 0 0, .int .i64 0, .int .i64 0] 61 (0, 0)) := by
    rw [← hW0, ← hr]
    refine (Below.heap_alloc _ _ _ (by simp)).trans ?_
    simpa using heap_alloc_new (w.alloc (.cells #[.int .i64 c.fr, .int .i64 c.fst, .slice A n cap] 24)) (.cells #[.int .i64 0, .int .i64 0, .slice none 0 0, .int .i64 0, .int .i64 0] 61)
  have hs0 : W0.heap.size = r + 2 := by rw [← hW0, ← hr]; simp
  have c0 := fun j => cell_of_heap' hb0 j
  have f0 := fun j => frozen_of_heap' hb0 j
  have hO0 : OnWay W0 (r + 1) 0 c A n cap 0 := by
    refine ⟨⟨by omega, by simpa using c0 0, by simpa using c0 1, by simpa using c0 2, ?_, ?_, f0 _, f0 _⟩, HX.out.gr hG0, fun hz ad e => by have := hA hz ad e; omega, Nat.zero_le _⟩
    · have := c0 3
      simp at this
      simpa using this
    · have := c0 4
      simp at this
      simpa [valK] using this
  have HO0 := hide hO0
  have HG0 := hide hG0
  have HR0 := hide hr0
  clear hx hc c0 f0 hb0 hr0 hO0 hG0
  go_enter Try.func51, Try.ntmps51
  go_wp2
  try rw [hW0]
  try rw [hr]
  go_loopg [] k (fun f wr => ∃ j : Nat, j ≤ k ∧ f = k - j ∧ Hid (OnWay wr (r + 1) 0 c A n cap j) ∧ Hid (Wkd (r + 1) 0 W0 wr))
  case atStart => exact ⟨0, Nat.zero_le _, rfl, HO0, hide (Wkd.of_gr (by omega) (Gr.refl W0))⟩
  case round =>
    obtain ⟨j, hjk, rfl, HO, HK⟩ := hrel
    obtain ⟨y, hy⟩ : ∃ y, c.fr + (j : Int) = y := ⟨_, rfl⟩
    have g0 : wr.cell? ⟨r + 1, 0, none⟩ = some (.int .i64 c.fr) := by simpa using HO.out.wk.c0
    have g1 : wr.cell? ⟨r + 1, 1, none⟩ = some (.int .i64 c.fst) := by simpa using HO.out.wk.c1
    have g2 : wr.cell? ⟨r + 1, 2, none⟩ = some (.slice A n cap) := by simpa using HO.out.wk.c2
    have g3 : wr.cell? ⟨r + 1, 3, none⟩ = some (.int .i64 y) := by rw [← hy]; simpa using HO.out.wk.c3
    have g4 : wr.cell? ⟨r + 1, 4, none⟩ = some (.int .i64 (valK c j)) := by simpa using HO.out.wk.c4
    by_cases hj : j < k
    · have hd : decide (y < x) = true := decide_eq_true (by omega)
      have HST := hide (onway_step HC.out HO.out (by omega))
      clear g0 g1 g2 g4
      go_wp2_with fail
      refine HST.out.mono ?_
      rintro e w5 ⟨rfl, ho, hk5⟩
      have HO5 := hide ho
      have HK5 := hide (HK.out.trans hk5)
      clear ho hk5 HST
      go_wp2
      go_roundg (k - (j + 1))
      case measure => omega
      case rel => exact ⟨j + 1, by omega, rfl, HO5, HK5⟩
    · obtain rfl : j = k := by omega
      have hd : decide (y < x) = false := decide_eq_false (by omega)
      obtain rfl : y = x := by omega
      have hh := (HK.out.block r (by omega) (by omega)).trans HR0.out
      have HH := hide hh
      have z := fun i => cell_of_heap' hh i
      have z0 := z 0
      have z1 := z 1
      have z2 := z 2
      have z3 := z 3
      have z4 := z 4
      have y0 := frozen_of_heap' hh 0
      have y1 := frozen_of_heap' hh 1
      have y2 := frozen_of_heap' hh 2
      have y3 := frozen_of_heap' hh 3
      have y4 := frozen_of_heap' hh 4
      simp at z0 z1 z2 z3 z4
      have HB : Hid (Below w.heap.size w wr) := hide (HK.out.below HG0.out.below (by omega) (by omega))
      clear hh z hy hxx HO HK
      go_wp2
      refine bodyPost_ret (results51 (set5_heap HH.out _ _ _ _ _) _ _ _ _ _) rfl ?_
      exact ⟨rfl, set5_below HB.out (by omega) _ _ _ _ _⟩

end Go.Proofs.Ytdepnhnpklbmiaa
/- Contracts of the library's Sort and Clone at a slice of ints, laid at this program. -/
namespace Go.Proofs.Ytdepnhnpklbmiaa
open Go.Shelf
def lays189_ren : Go.Shelf.Ren := ⟨fun | 189 => 82 | 125 => 87 | 257 => 86 | 128 => 96 | 129 => 97 | 294 => 88 | 295 => 89 | 296 => 90 | 297 => 91 | 298 => 92 | 299 => 93 | 216 => 77 | 300 => 94 | 301 => 95 | 328 => 98 | 329 => 99 | 330 => 100 | 331 => 101 | 332 => 102 | 215 => 85 | 343 => 103 | n => n, fun | 28 => 22 | 3 => 3 | 46 => 96 | 0 => 0 | 51 => 105 | 53 => 107 | 4 => 4 | 183 => 99 | 182 => 98 | 131 => 50 | 5 => 5 | 9 => 9 | 218 => 108 | 222 => 112 | 228 => 114 | 229 => 72 | n => n, fun | n => n⟩
theorem lays189 : Go.Proofs.Lays.n189 Try.prog lays189_ren := {
  mixed := by kernel_rfl
  f125 := Try.func87.trans (congrArg some (by kernel_rfl))
  f128 := Try.func96.trans (congrArg some (by kernel_rfl))
  f129 := Try.func97.trans (congrArg some (by kernel_rfl))
  f189 := Try.func82.trans (congrArg some (by kernel_rfl))
  f215 := Try.func85.trans (congrArg some (by kernel_rfl))
  f216 := Try.func77.trans (congrArg some (by kernel_rfl))
  f257 := Try.func86.trans (congrArg some (by kernel_rfl))
  f294 := Try.func88.trans (congrArg some (by kernel_rfl))
  f295 := Try.func89.trans (congrArg some (by kernel_rfl))
  f296 := Try.func90.trans (congrArg some (by kernel_rfl))
  f297 := Try.func91.trans (congrArg some (by kernel_rfl))
  f298 := Try.func92.trans (congrArg some (by kernel_rfl))
  f299 := Try.func93.trans (congrArg some (by kernel_rfl))
  f300 := Try.func94.trans (congrArg some (by kernel_rfl))
  f301 := Try.func95.trans (congrArg some (by kernel_rfl))
  f328 := Try.func98.trans (congrArg some (by kernel_rfl))
  f329 := Try.func99.trans (congrArg some (by kernel_rfl))
  f330 := Try.func100.trans (congrArg some (by kernel_rfl))
  f331 := Try.func101.trans (congrArg some (by kernel_rfl))
  f332 := Try.func102.trans (congrArg some (by kernel_rfl))
  f343 := Try.func103.trans (congrArg some (by kernel_rfl))
  t0 := Try.underlying0
  a0 := Try.isAgg0
  z0 := Try.sizeOf0
  v0 := Try.zeroValue0
  t3 := Try.underlying3
  a3 := Try.isAgg3
  z3 := Try.sizeOf3
  v3 := Try.zeroValue3
  t4 := Try.underlying4
  a4 := Try.isAgg4
  z4 := Try.sizeOf4
  v4 := Try.zeroValue4
  t5 := Try.underlying5
  a5 := Try.isAgg5
  z5 := Try.sizeOf5
  v5 := Try.zeroValue5
  t9 := Try.underlying9
  a9 := Try.isAgg9
  z9 := Try.sizeOf9
  v9 := Try.zeroValue9
  t28 := Try.underlying22
  a28 := Try.isAgg22
  z28 := Try.sizeOf22
  v28 := Try.zeroValue22
  t46 := Try.underlying96
  a46 := Try.isAgg96
  z46 := Try.sizeOf96
  v46 := Try.zeroValue96
  t51 := Try.underlying105
  a51 := Try.isAgg105
  z51 := Try.sizeOf105
  v51 := Try.zeroValue105
  t53 := Try.underlying107
  a53 := Try.isAgg107
  z53 := Try.sizeOf107
  v53 := Try.zeroValue107
  t131 := Try.underlying50
  a131 := Try.isAgg50
  z131 := Try.sizeOf50
  v131 := Try.zeroValue50
  t182 := Try.underlying98
  a182 := Try.isAgg98
  z182 := Try.sizeOf98
  v182 := Try.zeroValue98
  t183 := Try.underlying99
  a183 := Try.isAgg99
  z183 := Try.sizeOf99
  v183 := Try.zeroValue99
  t218 := Try.underlying108
  a218 := Try.isAgg108
  z218 := Try.sizeOf108
  v218 := Try.zeroValue108
  t222 := Try.underlying112
  a222 := Try.isAgg112
  z222 := Try.sizeOf112
  v222 := Try.zeroValue112
  t228 := Try.underlying114
  a228 := Try.isAgg114
  z228 := Try.sizeOf114
  v228 := Try.zeroValue114
  t229 := Try.underlying72
  a229 := Try.isAgg72
  z229 := Try.sizeOf72
  v229 := Try.zeroValue72 }
open Go.Sort Go.RowKit in
theorem lib_Sort_int (blk off cap : Nat) (zs : List Int) (w : World) (hH : Holds (Value.int .i64) w blk off zs.toArray) (hblk : blk < w.heap.size) (hsz : zs.length < 4611686018427387904) :
    Calls Try.prog 82 #[.slice (some ⟨blk, off, none⟩) zs.length cap] w fun e w' =>
      e = .returned (.tuple #[]) ∧ ∃ n os, w' = grow (putRow (Value.int .i64) (Sort.ahead w n) blk off (zs.mergeSort fun x y => decide (x ≤ y)).toArray) os := Any.slices_Sort_int lays189 blk off cap zs w hH hblk hsz
def laysNm215_ren : Go.Shelf.Ren := ⟨fun | 15 => 68 | n => n, fun | 22 => 22 | 3 => 3 | 4 => 4 | n => n, fun | n => n⟩
theorem laysNm215 : Go.Proofs.Lays2.n15 Try.prog laysNm215_ren := {
  mixed := by kernel_rfl
  f15 := Try.func68.trans (congrArg some (by kernel_rfl))
  t3 := Try.underlying3
  a3 := Try.isAgg3
  z3 := Try.sizeOf3
  v3 := Try.zeroValue3
  t4 := Try.underlying4
  a4 := Try.isAgg4
  z4 := Try.sizeOf4
  v4 := Try.zeroValue4
  t22 := Try.underlying22
  a22 := Try.isAgg22
  z22 := Try.sizeOf22
  v22 := Try.zeroValue22
  i3 := by kernel_rfl }
open Go.RowKit Go.Lib in
theorem lib_Clone_int (b off n c : Nat) (zs : List Int) (w : World) (hz : n ≤ zs.length) (hbig : n * 8 ≤ 140737488355328) (hc : ∀ j, j < zs.length → w.cell? ⟨b, off + j, none⟩ = some (.int .i64 (zs.getD j 0))) :
    Calls Try.prog 68 #[.slice (some ⟨b, off, none⟩) n c] w fun e w' => ∃ v', e = .returned v' ∧ w'.ownsRow w.heap.size 3 1 v' n ((zs.take n).map (Value.int .i64)) ∧ v' ≠ .slice none 0 0 ∧ Below w.heap.size w w' := Any.slices_Clone_int laysNm215 b off n c zs w hz hbig hc
open Go.RowKit Go.Lib in
theorem lib_Clone_int_nil (n c : Nat) (w : World) :
    Calls Try.prog 68 #[.slice none n c] w fun e w' => e = .returned (.slice none 0 0) ∧ w' = w := Any.slices_Clone_int_nil laysNm215 n c w
open Go.RowKit Go.Lib in
theorem lib_Clone_int_zero (a : Addr) (c : Nat) (w : World) :
    Calls Try.prog 68 #[.slice (some a) 0 c] w fun e w' => ∃ v', e = .returned v' ∧ w'.ownsRow w.heap.size 3 1 v' 0 [] ∧ v' ≠ .slice none 0 0 ∧ Below w.heap.size w w' := Any.slices_Clone_int_zero laysNm215 a c w
open Go.RowKit Go.Sort in
theorem lib_Sort_int_none (p : Option Addr) (cap : Nat) (w : World) :
    Calls Try.prog 82 #[.slice p 0 cap] w fun e w' => e = .returned (.tuple #[]) ∧ w' = w := Any.slices_Sort_int_none lays189 p cap w

end Go.Proofs.Ytdepnhnpklbmiaa
