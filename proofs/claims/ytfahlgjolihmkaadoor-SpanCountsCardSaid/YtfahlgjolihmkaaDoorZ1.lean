/- The words in which the calls of package span and of its specification are described: spans in memory, worlds that have only grown, the plain functions on lists of spans. -/
import Derived.Test.YtfahlgjolihmkaaDoorProg
import Derived.WalkKit
import Derived.WalkSpells
import Derived.WalkLawsBesides
import Derived.Deep.LoopGhost
import Derived.BigQuiet
import Derived.BigRegion
import Derived.Lib.Hide
import Derived.Shelf.SlSortCmp.QuietGrown
namespace Go.Proofs.YtfahlgjolihmkaaDoor
open Go.RowKit Go.Sort

theorem mixedOrders : Tryd.prog.follows .mixedOrders = true := by kernel_rfl

theorem hide {p : Prop} (h : p) : Hid p := h

/-- THE WORLD HAS ONLY GROWN: draws and new blocks. -/
def Gr (w w' : World) : Prop := ∃ (n : Nat) (os : Array Obj), w' = grow (w.drewN n) os
theorem Gr.refl (w : World) : Gr w w := ⟨0, #[], by rw [grow_empty]; rfl⟩
theorem Gr.trans {a b c : World} (h : Gr a b) (k : Gr b c) : Gr a c := by
  obtain ⟨n, os, rfl⟩ := h
  obtain ⟨m, os', rfl⟩ := k
  exact ⟨n + m, os ++ os', by show grow (grow ((a.drewN n).drewN m) os) os' = _; rw [grow_grow, World.drewN_drewN]⟩
theorem Gr.alloc {a b : World} (h : Gr a b) (o : Obj) : Gr a (b.alloc o) := h.trans ⟨0, #[o], by rw [alloc_eq_grow]; rfl⟩
theorem Gr.drew {a b : World} (h : Gr a b) : Gr a b.drew := h.trans ⟨1, #[], by rw [grow_empty]; rfl⟩
theorem Gr.drewN {a b : World} (h : Gr a b) (n : Nat) : Gr a (b.drewN n) := h.trans ⟨n, #[], by rw [grow_empty]⟩
theorem Gr.grow {a b : World} (h : Gr a b) (n : Nat) (os : Array Obj) : Gr a (Sort.grow (b.drewN n) os) := h.trans ⟨n, os, rfl⟩
theorem Gr.size {a b : World} (h : Gr a b) : a.heap.size ≤ b.heap.size := by
  obtain ⟨n, os, rfl⟩ := h
  rw [size_grow]
  exact Nat.le_add_right _ _
theorem Gr.cell {a b : World} (h : Gr a b) {p : Addr} (hp : p.block < a.heap.size) : b.cell? p = a.cell? p := by
  obtain ⟨n, os, rfl⟩ := h
  rw [cell?_grow _ _ _ (by exact hp)]
  rfl
theorem Gr.frozen {a b : World} (h : Gr a b) {p : Addr} (hp : p.block < a.heap.size) : b.frozen? p = a.frozen? p := by
  obtain ⟨n, os, rfl⟩ := h
  rw [frozen?_grow _ _ _ (by exact hp)]
  rfl
theorem Gr.block {a b : World} (h : Gr a b) {k : Nat} (hk : k < a.heap.size) : b.heap[k]? = a.heap[k]? := by
  obtain ⟨n, os, rfl⟩ := h
  rw [heap_grow_old _ _ (by exact hk)]
  rfl
theorem Gr.below {a b : World} (h : Gr a b) : Below a.heap.size a b := by
  obtain ⟨n, os, rfl⟩ := h
  exact ⟨rfl, rfl, rfl, by rw [size_grow]; exact Nat.le_add_right _ _, fun k hk => heap_grow_old _ _ (by exact hk)⟩
theorem Gr.grownBy {a b : World} (h : Gr a b) (row : Option Nat) : a.grownBy b row := by
  have hb := h.below
  exact ⟨hb.os, hb.tape, hb.output, hb.size, fun k hk _ => hb.block k hk⟩

/-- a span: its lower and its upper end -/
abbrev Sp := Int × Int
def loA (xs : List Sp) (i : Nat) : Int := (xs.getD i (0, 0)).1
def hiA (xs : List Sp) (i : Nat) : Int := (xs.getD i (0, 0)).2
/-- the slice value (address A, length n) holds the spans xs, in a block below B -/
def SpansAt (B : Nat) (w : World) (A : Option Addr) (n : Nat) (xs : List Sp) : Prop :=
  xs.length = n ∧ (n = 0 ∨ ∃ b off, A = some ⟨b, off, none⟩ ∧ b < B ∧ ∀ i, i < n → w.cell? ⟨b, off + i * 2, none⟩ = some (.int .i64 (loA xs i)) ∧ w.cell? ⟨b, off + i * 2 + 1, none⟩ = some (.int .i64 (hiA xs i)))
theorem SpansAt.mono {B B' : Nat} {w : World} {A : Option Addr} {n : Nat} {xs : List Sp} (h : SpansAt B w A n xs) (hB : B ≤ B') : SpansAt B' w A n xs := by
  refine ⟨h.1, ?_⟩
  rcases h.2 with h0 | ⟨b, off, e, hlt, hc⟩
  · exact .inl h0
  · exact .inr ⟨b, off, e, by omega, hc⟩
theorem SpansAt.below {B : Nat} {w w' : World} {A : Option Addr} {n : Nat} {xs : List Sp} (h : SpansAt B w A n xs) (hb : Below B w w') : SpansAt B w' A n xs := by
  refine ⟨h.1, ?_⟩
  rcases h.2 with h0 | ⟨b, off, e, hlt, hc⟩
  · exact .inl h0
  · exact .inr ⟨b, off, e, hlt, fun i hi => ⟨(hb.cell (p := ⟨b, _, none⟩) hlt).trans (hc i hi).1, (hb.cell (p := ⟨b, _, none⟩) hlt).trans (hc i hi).2⟩⟩
theorem SpansAt.gr {w w' : World} {A : Option Addr} {n : Nat} {xs : List Sp} (h : SpansAt w.heap.size w A n xs) (hg : Gr w w') : SpansAt w'.heap.size w' A n xs :=
  (h.below hg.below).mono hg.size
theorem SpansAt.now {B : Nat} {w w' : World} {A : Option Addr} {n : Nat} {xs : List Sp} (h : SpansAt B w A n xs) (hb : Below B w w') (hB : B ≤ w.heap.size) : SpansAt w'.heap.size w' A n xs :=
  (h.below hb).mono (Nat.le_trans hB hb.size)
theorem SpansAt.at_ {B : Nat} {w : World} {A : Option Addr} {n : Nat} {xs : List Sp} (h : SpansAt B w A n xs) {k : Nat} (hk : k < n) :
    ∃ b off, A = some ⟨b, off, none⟩ ∧ b < B ∧ w.cell? ⟨b, off + k * 2, none⟩ = some (.int .i64 (loA xs k)) ∧ w.cell? ⟨b, off + k * 2 + 1, none⟩ = some (.int .i64 (hiA xs k)) := by
  rcases h.2 with h0 | ⟨b, off, e, hlt, hc⟩
  · omega
  · exact ⟨b, off, e, hlt, hc k hk⟩
/-- the same where the address is known -/
theorem SpansAt.at2 {B : Nat} {w : World} {b off : Nat} {n : Nat} {xs : List Sp} (h : SpansAt B w (some ⟨b, off, none⟩) n xs) {k : Nat} (hk : k < n) :
    w.cell? ⟨b, off + k * 2, none⟩ = some (.int .i64 (loA xs k)) ∧ w.cell? ⟨b, off + k * 2 + 1, none⟩ = some (.int .i64 (hiA xs k)) := by
  obtain ⟨b', off', e, _, hc⟩ := h.at_ hk
  injection e with e
  injection e with e1 e2
  subst e1; subst e2
  exact hc

/-- a slice of ints in memory -/
def iA (xs : List Int) (i : Nat) : Int := xs.getD i 0
def IntsAt (B : Nat) (w : World) (A : Option Addr) (n : Nat) (xs : List Int) : Prop :=
  xs.length = n ∧ (n = 0 ∨ ∃ b off, A = some ⟨b, off, none⟩ ∧ b < B ∧ ∀ i, i < n → w.cell? ⟨b, off + i, none⟩ = some (.int .i64 (iA xs i)))
theorem IntsAt.mono {B B' : Nat} {w : World} {A : Option Addr} {n : Nat} {xs : List Int} (h : IntsAt B w A n xs) (hB : B ≤ B') : IntsAt B' w A n xs := by
  refine ⟨h.1, ?_⟩
  rcases h.2 with h0 | ⟨b, off, e, hlt, hc⟩
  · exact .inl h0
  · exact .inr ⟨b, off, e, by omega, hc⟩
theorem IntsAt.below {B : Nat} {w w' : World} {A : Option Addr} {n : Nat} {xs : List Int} (h : IntsAt B w A n xs) (hb : Below B w w') : IntsAt B w' A n xs := by
  refine ⟨h.1, ?_⟩
  rcases h.2 with h0 | ⟨b, off, e, hlt, hc⟩
  · exact .inl h0
  · exact .inr ⟨b, off, e, hlt, fun i hi => (hb.cell (p := ⟨b, _, none⟩) hlt).trans (hc i hi)⟩
theorem IntsAt.now {B : Nat} {w w' : World} {A : Option Addr} {n : Nat} {xs : List Int} (h : IntsAt B w A n xs) (hb : Below B w w') (hB : B ≤ w.heap.size) : IntsAt w'.heap.size w' A n xs :=
  (h.below hb).mono (Nat.le_trans hB hb.size)
theorem IntsAt.at_ {B : Nat} {w : World} {A : Option Addr} {n : Nat} {xs : List Int} (h : IntsAt B w A n xs) {k : Nat} (hk : k < n) :
    ∃ b off, A = some ⟨b, off, none⟩ ∧ b < B ∧ w.cell? ⟨b, off + k, none⟩ = some (.int .i64 (iA xs k)) := by
  rcases h.2 with h0 | ⟨b, off, e, hlt, hc⟩
  · omega
  · exact ⟨b, off, e, hlt, hc k hk⟩

theorem ret_int {k : IntKind} {a b : Int} (h : a = b) : Ending.returned (.int k a) = .returned (.int k b) := by rw [h]
theorem ret_bool {a b : Bool} (h : a = b) : Ending.returned (.bool a) = .returned (.bool b) := by rw [h]

/-! ### plain functions -/
/-- is a span valid? -/
def okB (a b : Int) : Bool := decide (-1099511627776 ≤ a ∧ a < b ∧ b ≤ 1099511627776)
theorem okB_true {a b : Int} (h : okB a b = true) : -1099511627776 ≤ a ∧ a < b ∧ b ≤ 1099511627776 := of_decide_eq_true h
theorem okB_mk {a b : Int} (h : -1099511627776 ≤ a ∧ a < b ∧ b ≤ 1099511627776) : okB a b = true := decide_eq_true h
/-- the first k spans are valid -/
def okTo (xs : List Sp) (k : Nat) : Prop := ∀ i, i < k → okB (loA xs i) (hiA xs i) = true
instance (xs : List Sp) (k : Nat) : Decidable (okTo xs k) := by unfold okTo; infer_instance
/-- the error of a list of spans -/
def checkE (xs : List Sp) : Int := if 128 < xs.length then 3 else if okTo xs xs.length then 0 else 2
/-- the first k spans are valid and apart -/
def setTo (xs : List Sp) (k : Nat) : Prop := ∀ i, i < k → okB (loA xs i) (hiA xs i) = true ∧ (0 < i → hiA xs (i - 1) < loA xs i)
instance (xs : List Sp) (k : Nat) : Decidable (setTo xs k) := by unfold setTo; infer_instance
/-- is the list a set? -/
def setB (xs : List Sp) : Bool := decide (xs.length ≤ 128 ∧ setTo xs xs.length)
theorem setB_true {xs : List Sp} (h : setB xs = true) : xs.length ≤ 128 ∧ setTo xs xs.length := of_decide_eq_true h

end Go.Proofs.YtfahlgjolihmkaaDoor
/- Contracts of valid, Good, contains, check, List, few: each says what the call returns and that the world has only grown. -/
namespace Go.Proofs.YtfahlgjolihmkaaDoor
open Go.RowKit Go.Sort

set_option maxHeartbeats 400000 in
theorem valid_any (a b : Int) (w : World) :
    Calls Tryd.prog 40 #[.agg #[.int .i64 a, .int .i64 b]] w fun e w' => e = .returned (.bool (okB a b)) ∧ w.alloc (.cells #[.int .i64 a, .int .i64 b] 41) = w' := by
  by_cases h1 : -1099511627776 ≤ a
  · by_cases h2 : a < b
    · by_cases h3 : b ≤ 1099511627776
      · have hh : okB a b = true := decide_eq_true ⟨h1, h2, h3⟩
        rw [hh]
        go_enter Tryd.func40, Tryd.ntmps40
        go_wp2
        go_ret
        exact ⟨rfl, rfl⟩
      · have hh : okB a b = false := decide_eq_false (by omega)
        rw [hh]
        go_enter Tryd.func40, Tryd.ntmps40
        go_wp2
        go_ret
        exact ⟨rfl, rfl⟩
    · have hh : okB a b = false := decide_eq_false (by omega)
      rw [hh]
      go_enter Tryd.func40, Tryd.ntmps40
      go_wp2
      go_ret
      exact ⟨rfl, rfl⟩
  · have hh : okB a b = false := decide_eq_false (by omega)
    rw [hh]
    go_enter Tryd.func40, Tryd.ntmps40
    go_wp2
    go_ret
    exact ⟨rfl, rfl⟩

set_option maxHeartbeats 400000 in
theorem good_any (a b : Int) (w : World) :
    Calls Tryd.prog 45 #[.agg #[.int .i64 a, .int .i64 b]] w fun e w' => e = .returned (.bool (okB a b)) ∧ w.alloc (.cells #[.int .i64 a, .int .i64 b] 41) = w' := by
  by_cases h1 : -1099511627776 ≤ a
  · by_cases h2 : a < b
    · by_cases h3 : b ≤ 1099511627776
      · have hh : okB a b = true := decide_eq_true ⟨h1, h2, h3⟩
        rw [hh]
        go_enter Tryd.func45, Tryd.ntmps45
        go_wp2
        go_ret
        exact ⟨rfl, rfl⟩
      · have hh : okB a b = false := decide_eq_false (by omega)
        rw [hh]
        go_enter Tryd.func45, Tryd.ntmps45
        go_wp2
        go_ret
        exact ⟨rfl, rfl⟩
    · have hh : okB a b = false := decide_eq_false (by omega)
      rw [hh]
      go_enter Tryd.func45, Tryd.ntmps45
      go_wp2
      go_ret
      exact ⟨rfl, rfl⟩
  · have hh : okB a b = false := decide_eq_false (by omega)
    rw [hh]
    go_enter Tryd.func45, Tryd.ntmps45
    go_wp2
    go_ret
    exact ⟨rfl, rfl⟩

/-- has a span a number? -/
def hasB (a b x : Int) : Bool := decide (a ≤ x ∧ x < b)
set_option maxHeartbeats 400000 in
theorem contains_any (a b x : Int) (w : World) :
    Calls Tryd.prog 70 #[.agg #[.int .i64 a, .int .i64 b], .int .i64 x] w fun e w' => e = .returned (.bool (hasB a b x)) ∧ w.alloc (.cells #[.int .i64 a, .int .i64 b] 41) = w' := by
  by_cases h1 : a ≤ x
  · by_cases h2 : x < b
    · have hh : hasB a b x = true := decide_eq_true ⟨h1, h2⟩
      rw [hh]
      go_enter Tryd.func70, Tryd.ntmps70
      go_wp2
      go_ret
      exact ⟨rfl, rfl⟩
    · have hh : hasB a b x = false := decide_eq_false (by omega)
      rw [hh]
      go_enter Tryd.func70, Tryd.ntmps70
      go_wp2
      go_ret
      exact ⟨rfl, rfl⟩
  · have hh : hasB a b x = false := decide_eq_false (by omega)
    rw [hh]
    go_enter Tryd.func70, Tryd.ntmps70
    go_wp2
    go_ret
    exact ⟨rfl, rfl⟩

theorem few_any (A : Option Addr) (n cap : Nat) (w : World) :
    Calls Tryd.prog 5 #[.slice A n cap] w fun e w' => e = .returned (.bool (decide ((n : Int) ≤ 140))) ∧ w = w' := by
  go_enter Tryd.func5, Tryd.ntmps5
  go_wp2
  go_ret
  exact ⟨rfl, rfl⟩

theorem checkE_cases {xs : List Sp} {n : Nat} (hlen : xs.length = n) (h128 : ¬ 128 < n) (k : Nat) (hk : k ≤ n) (hok : okTo xs k) :
    (k = n ∧ checkE xs = 0) ∨ (k < n ∧ (okB (loA xs k) (hiA xs k) = false → checkE xs = 2)) := by
  rcases Nat.lt_or_ge k n with hlt | hge
  · refine .inr ⟨hlt, fun hf => ?_⟩
    unfold checkE
    rw [if_neg (by omega), if_neg]
    intro hall
    have := hall k (by omega)
    rw [hf] at this
    cases this
  · obtain rfl : k = n := by omega
    refine .inl ⟨rfl, ?_⟩
    unfold checkE
    rw [if_neg (by omega), if_pos (by rw [hlen]; exact hok)]
theorem okTo_succ {xs : List Sp} {k : Nat} (h : okTo xs k) (hv : okB (loA xs k) (hiA xs k) = true) : okTo xs (k + 1) := by
  intro i hi
  rcases Nat.lt_or_ge i k with h1 | h1
  · exact h i h1
  · obtain rfl : i = k := by omega
    exact hv

set_option maxHeartbeats 1000000 in
theorem check_any (A : Option Addr) (n cap : Nat) (xs : List Sp) (w : World) (hx : SpansAt w.heap.size w A n xs) :
    Calls Tryd.prog 35 #[.slice A n cap] w fun e w' => e = .returned (.int .i64 (checkE xs)) ∧ Gr w w' := by
  have hlen := hx.1
  by_cases h128 : 128 < n
  · have H : Hid (checkE xs = 3) := by show checkE xs = 3; unfold checkE; rw [if_pos (by omega)]
    clear hlen
    have h128' : (128 : Int) < (n : Int) := by omega
    go_enter Tryd.func35, Tryd.ntmps35
    go_wp2
    go_ret
    exact ⟨ret_int H.out.symm, Gr.refl _⟩
  · have h128' : ¬ (128 : Int) < (n : Int) := by omega
    have HX := hide hx
    have HE := hide (checkE_cases hlen h128)
    clear hx hlen
    go_enter Tryd.func35, Tryd.ntmps35
    go_wp2
    go_loopw [10] (fun i wr => ∃ k : Nat, k ≤ n ∧ i = .int .i64 k ∧ Hid (okTo xs k) ∧ Gr w wr) (fun i _ => n - (intOf i).toNat)
    case atStart => exact ⟨0, Nat.zero_le _, rfl, fun i hi => absurd hi (Nat.not_lt_zero _), Gr.refl _⟩
    case round =>
      obtain ⟨k, hk, rfl, HO, hG⟩ := hrel
      by_cases hlt : k < n
      · obtain ⟨b, off, rfl, hb, c0, c1⟩ := HX.out.at_ hlt
        have d0 := (hG.cell (p := ⟨b, off + k * 2, none⟩) hb).trans c0
        have d1 := (hG.cell (p := ⟨b, off + k * 2 + 1, none⟩) hb).trans c1
        clear c0 c1
        cases hv : okB (loA xs k) (hiA xs k)
        · go_wp2_with (go_at_call 40; refine (valid_any _ _ _).mono ?_; rintro e w' ⟨rfl, rfl⟩)
          go_ret
          rcases HE.out k hk HO.out with ⟨h1, _⟩ | ⟨_, h2⟩
          · omega
          · exact ⟨ret_int (h2 hv).symm, (hG.alloc _).alloc _⟩
        · have HS := hide (okTo_succ HO.out hv)
          go_wp2_with (go_at_call 40; refine (valid_any _ _ _).mono ?_; rintro e w' ⟨rfl, rfl⟩)
          go_roundw
          case rel => exact ⟨k + 1, by omega, by go_num, HS, (hG.alloc _).alloc _⟩
          case measure => simp [intOf]; omega
      · go_wp2
        go_ret
        rcases HE.out k hk HO.out with ⟨_, h1⟩ | ⟨h2, _⟩
        · exact ⟨ret_int h1.symm, hG⟩
        · omega

end Go.Proofs.YtfahlgjolihmkaaDoor
/- Contracts of the two functions Valid: each says whether the list is a set, and that the world has only grown. -/
namespace Go.Proofs.YtfahlgjolihmkaaDoor
open Go.RowKit Go.Sort

theorem valid_grown (a b : Int) (w : World) (n : Nat) (os : Array Obj) :
    Calls Tryd.prog 40 #[.agg #[.int .i64 a, .int .i64 b]] (grow (w.drewN n) os) fun e w'' => e = .returned (.bool (okB a b)) ∧ ∃ p : GrownBy, w'' = grow (w.drewN p.n) p.os :=
  Calls.grown_of ((valid_any a b _).mono fun _ _ ⟨he, hw⟩ => ⟨he, 0, #[.cells #[.int .i64 a, .int .i64 b] 41], hw.symm.trans (alloc_eq_grow _ _)⟩)
theorem good_grown (a b : Int) (w : World) (n : Nat) (os : Array Obj) :
    Calls Tryd.prog 45 #[.agg #[.int .i64 a, .int .i64 b]] (grow (w.drewN n) os) fun e w'' => e = .returned (.bool (okB a b)) ∧ ∃ p : GrownBy, w'' = grow (w.drewN p.n) p.os :=
  Calls.grown_of ((good_any a b _).mono fun _ _ ⟨he, hw⟩ => ⟨he, 0, #[.cells #[.int .i64 a, .int .i64 b] 41], hw.symm.trans (alloc_eq_grow _ _)⟩)

theorem setB_cases {xs : List Sp} {n : Nat} (hlen : xs.length = n) (h128 : ¬ 128 < n) (k : Nat) (hk : k ≤ n) (hok : setTo xs k) :
    (k = n → setB xs = true) ∧ (k < n → okB (loA xs k) (hiA xs k) = false → setB xs = false) ∧ (k < n → 0 < k → loA xs k ≤ hiA xs (k - 1) → setB xs = false) := by
  refine ⟨fun e => ?_, fun hlt hf => ?_, fun hlt h0 hf => ?_⟩
  · subst e
    exact decide_eq_true ⟨by omega, by rw [hlen]; exact hok⟩
  · refine decide_eq_false fun h => ?_
    have := (h.2 k (by omega)).1
    rw [hf] at this
    cases this
  · refine decide_eq_false fun h => ?_
    have := (h.2 k (by omega)).2 h0
    omega
theorem setTo_succ {xs : List Sp} {k : Nat} (h : setTo xs k) (hv : okB (loA xs k) (hiA xs k) = true) (hc : 0 < k → hiA xs (k - 1) < loA xs k) : setTo xs (k + 1) := by
  intro i hi
  rcases Nat.lt_or_ge i k with h1 | h1
  · exact h i h1
  · obtain rfl : i = k := by omega
    exact ⟨hv, hc⟩

set_option maxHeartbeats 400000 in
set_option maxRecDepth 100000 in
theorem Valid_any (A : Option Addr) (n cap : Nat) (xs : List Sp) (w : World) (hx : SpansAt w.heap.size w A n xs) :
    Calls Tryd.prog 22 #[.slice A n cap] w fun e w' => e = .returned (.bool (setB xs)) ∧ Gr w w' := by
  have hlen := hx.1
  have mixed := mixedOrders
  by_cases h128 : 128 < n
  · have H : Hid (setB xs = false) := decide_eq_false (by omega)
    clear hlen
    have h128' : (128 : Int) < (n : Int) := by omega
    go_enter Tryd.func22, Tryd.ntmps22
    go_wp2
    go_ret
    exact ⟨ret_bool H.out.symm, Gr.refl _⟩
  · have h128' : ¬ (128 : Int) < (n : Int) := by omega
    have HX := hide hx
    have HE := hide (setB_cases hlen h128)
    clear hx hlen
    go_enter Tryd.func22, Tryd.ntmps22
    go_wp2
    go_loopw [10] (fun i wr => ∃ k : Nat, k ≤ n ∧ i = .int .i64 k ∧ Hid (setTo xs k) ∧ Gr w wr) (fun i _ => n - (intOf i).toNat)
    case atStart => exact ⟨0, Nat.zero_le _, rfl, fun i hi => absurd hi (Nat.not_lt_zero _), Gr.refl _⟩
    case round =>
      obtain ⟨k, hk, rfl, HO, hG⟩ := hrel
      by_cases hlt : k < n
      · obtain ⟨b, off, rfl, hb, c0, c1⟩ := HX.out.at_ hlt
        have d0 := (hG.cell (p := ⟨b, off + k * 2, none⟩) hb).trans c0
        have d1 := (hG.cell (p := ⟨b, off + k * 2 + 1, none⟩) hb).trans c1
        clear c0 c1
        go_wp2_with fail
        have hG1 := hG.alloc (.cells #[.int .i64 (loA xs k), .int .i64 (hiA xs k)] 41)
        have s1 : wr.heap.size < (wr.alloc (.cells #[.int .i64 (loA xs k), .int .i64 (hiA xs k)] 41)).heap.size := by simp
        have e0 : (wr.alloc (.cells #[.int .i64 (loA xs k), .int .i64 (hiA xs k)] 41)).cell? ⟨wr.heap.size, 0, none⟩ = some (.int .i64 (loA xs k)) := by simp
        have e1 : (wr.alloc (.cells #[.int .i64 (loA xs k), .int .i64 (hiA xs k)] 41)).cell? ⟨wr.heap.size, 1, none⟩ = some (.int .i64 (hiA xs k)) := by simp
        clear d0 d1
        generalize wr.alloc (.cells #[.int .i64 (loA xs k), .int .i64 (hiA xs k)] 41) = w1 at hG1 s1 e0 e1 ⊢
        generalize wr.heap.size = bb at s1 e0 e1 ⊢
        clear hG
        have E0 := fun n os => cell_grown (n := n) (os := os) (a := ⟨bb, 0, none⟩) s1 e0
        have E1 := fun n os => cell_grown (n := n) (os := os) (a := ⟨bb, 1, none⟩) s1 e1
        clear e0 e1
        cases hv : okB (loA xs k) (hiA xs k)
        · refine wp_region_quiet_grown (by assumption) (by kernel_rfl) ?_
          repeat (first | go_big_quiet_step ((go_at_call 40; exact valid_grown _ _ _ _ _)) | quiet_step ((go_at_call 40; exact valid_grown _ _ _ _ _)))
          refine wpQuiet_nil ?_
          intro _ hw'
          obtain ⟨⟨nq, osq⟩, hw''⟩ := hw'
          subst hw''
          go_wp2
          go_ret
          exact ⟨ret_bool ((HE.out k hk HO.out).2.1 hlt hv).symm, hG1.grow _ _⟩
        · by_cases hk0 : k = 0
          · have HK := hide hk0
            have hk0' : ¬ 0 < k := by omega
            have hd : decide (0 < k) = false := decide_eq_false hk0'
            have HS := hide (setTo_succ HO.out hv (fun h => by omega))
            clear hk0
            refine wp_region_quiet_grown (by assumption) (by kernel_rfl) ?_
            repeat (first | go_big_quiet_step ((go_at_call 40; exact valid_grown _ _ _ _ _)) | quiet_step ((go_at_call 40; exact valid_grown _ _ _ _ _)))
            refine wpQuiet_nil ?_
            intro _ hw'
            obtain ⟨⟨nq, osq⟩, hw''⟩ := hw'
            subst hw''
            go_wp2
            go_roundw
            case rel => exact ⟨k + 1, by omega, by go_num, HS, hG1.grow _ _⟩
            case measure => simp [intOf]; omega
          · obtain ⟨kp, rfl⟩ : ∃ kp, k = kp + 1 := ⟨k - 1, by omega⟩
            have p1 := hG1.below
            obtain ⟨c2, c3⟩ := HX.out.at2 (k := kp) (by omega)
            have g3 := fun n os => cell_grown (n := n) (os := os) (a := ⟨b, off + kp * 2 + 1, none⟩) (Nat.lt_of_lt_of_le hb hG1.size) ((p1.cell (p := ⟨b, off + kp * 2 + 1, none⟩) hb).trans c3)
            clear c2 c3 p1 hk0
            have hlt' : kp < n := by omega
            by_cases hcc : hiA xs kp < loA xs (kp + 1)
            · have HS := hide (setTo_succ HO.out hv (fun _ => hcc))
              have hd : decide (hiA xs kp ≥ loA xs (kp + 1)) = false := decide_eq_false (by omega)
              have hd' : decide (loA xs (kp + 1) ≤ hiA xs kp) = false := decide_eq_false (by omega)
              refine wp_region_quiet_grown (by assumption) (by kernel_rfl) ?_
              repeat (first | go_big_quiet_step ((go_at_call 40; exact valid_grown _ _ _ _ _)) | quiet_step ((go_at_call 40; exact valid_grown _ _ _ _ _)))
              refine wpQuiet_nil ?_
              intro _ hw'
              obtain ⟨⟨nq, osq⟩, hw''⟩ := hw'
              subst hw''
              go_wp2
              go_roundw
              case rel => exact ⟨kp + 1 + 1, by omega, by go_num, HS, hG1.grow _ _⟩
              case measure => simp [intOf]; omega
            · have HS := hide ((HE.out (kp + 1) hk HO.out).2.2 hlt (by omega) (show loA xs (kp + 1) ≤ hiA xs kp from by omega))
              have hd : decide (hiA xs kp ≥ loA xs (kp + 1)) = true := decide_eq_true (by omega)
              have hd' : decide (loA xs (kp + 1) ≤ hiA xs kp) = true := decide_eq_true (by omega)
              refine wp_region_quiet_grown (by assumption) (by kernel_rfl) ?_
              repeat (first | go_big_quiet_step ((go_at_call 40; exact valid_grown _ _ _ _ _)) | quiet_step ((go_at_call 40; exact valid_grown _ _ _ _ _)))
              refine wpQuiet_nil ?_
              intro _ hw'
              obtain ⟨⟨nq, osq⟩, hw''⟩ := hw'
              subst hw''
              go_wp2
              go_ret
              exact ⟨ret_bool HS.out.symm, hG1.grow _ _⟩
      · go_wp2
        go_ret
        exact ⟨ret_bool ((HE.out k hk HO.out).1 (by omega)).symm, hG⟩

set_option maxHeartbeats 400000 in
set_option maxRecDepth 100000 in
theorem refValid_any (A : Option Addr) (n cap : Nat) (xs : List Sp) (w : World) (hx : SpansAt w.heap.size w A n xs) :
    Calls Tryd.prog 25 #[.slice A n cap] w fun e w' => e = .returned (.bool (setB xs)) ∧ Gr w w' := by
  have hlen := hx.1
  have mixed := mixedOrders
  by_cases h128 : 128 < n
  · have H : Hid (setB xs = false) := decide_eq_false (by omega)
    clear hlen
    have h128' : (128 : Int) < (n : Int) := by omega
    go_enter Tryd.func25, Tryd.ntmps25
    go_wp2
    go_ret
    exact ⟨ret_bool H.out.symm, Gr.refl _⟩
  · have h128' : ¬ (128 : Int) < (n : Int) := by omega
    have HX := hide hx
    have HE := hide (setB_cases hlen h128)
    clear hx hlen
    go_enter Tryd.func25, Tryd.ntmps25
    go_wp2
    go_loopw [3] (fun i wr => ∃ k : Nat, k ≤ n ∧ i = .int .i64 k ∧ Hid (setTo xs k) ∧ Gr w wr) (fun i _ => n - (intOf i).toNat)
    case atStart => exact ⟨0, Nat.zero_le _, rfl, fun i hi => absurd hi (Nat.not_lt_zero _), Gr.refl _⟩
    case round =>
      obtain ⟨k, hk, rfl, HO, hG⟩ := hrel
      by_cases hlt : k < n
      · obtain ⟨b, off, rfl, hb, c0, c1⟩ := HX.out.at_ hlt
        have d0 := (hG.cell (p := ⟨b, off + k * 2, none⟩) hb).trans c0
        have d1 := (hG.cell (p := ⟨b, off + k * 2 + 1, none⟩) hb).trans c1
        clear c0 c1
        have hG1 := hG
        have E0 := fun n os => cell_grown (n := n) (os := os) (a := ⟨b, off + k * 2, none⟩) (Nat.lt_of_lt_of_le hb hG.size) d0
        have E1 := fun n os => cell_grown (n := n) (os := os) (a := ⟨b, off + k * 2 + 1, none⟩) (Nat.lt_of_lt_of_le hb hG.size) d1
        clear d0 d1 hG
        go_wp2_with fail
        cases hv : okB (loA xs k) (hiA xs k)
        · refine wp_region_quiet_grown (by assumption) (by kernel_rfl) ?_
          repeat (first | go_big_quiet_step ((go_at_call 45; exact good_grown _ _ _ _ _)) | quiet_step ((go_at_call 45; exact good_grown _ _ _ _ _)))
          refine wpQuiet_nil ?_
          intro _ hw'
          obtain ⟨⟨nq, osq⟩, hw''⟩ := hw'
          subst hw''
          go_wp2
          go_ret
          exact ⟨ret_bool ((HE.out k hk HO.out).2.1 hlt hv).symm, hG1.grow _ _⟩
        · by_cases hk0 : k = 0
          · have HK := hide hk0
            have hk0' : ¬ 0 < k := by omega
            have hd : decide (0 < k) = false := decide_eq_false hk0'
            have HS := hide (setTo_succ HO.out hv (fun h => by omega))
            clear hk0
            refine wp_region_quiet_grown (by assumption) (by kernel_rfl) ?_
            repeat (first | go_big_quiet_step ((go_at_call 45; exact good_grown _ _ _ _ _)) | quiet_step ((go_at_call 45; exact good_grown _ _ _ _ _)))
            refine wpQuiet_nil ?_
            intro _ hw'
            obtain ⟨⟨nq, osq⟩, hw''⟩ := hw'
            subst hw''
            go_wp2
            go_roundw
            case rel => exact ⟨k + 1, by omega, by go_num, HS, hG1.grow _ _⟩
            case measure => simp [intOf]; omega
          · obtain ⟨kp, rfl⟩ : ∃ kp, k = kp + 1 := ⟨k - 1, by omega⟩
            have p1 := hG1.below
            obtain ⟨c2, c3⟩ := HX.out.at2 (k := kp) (by omega)
            have g3 := fun n os => cell_grown (n := n) (os := os) (a := ⟨b, off + kp * 2 + 1, none⟩) (Nat.lt_of_lt_of_le hb hG1.size) ((p1.cell (p := ⟨b, off + kp * 2 + 1, none⟩) hb).trans c3)
            clear c2 c3 p1 hk0
            have hlt' : kp < n := by omega
            by_cases hcc : hiA xs kp < loA xs (kp + 1)
            · have HS := hide (setTo_succ HO.out hv (fun _ => hcc))
              have hd : decide (hiA xs kp ≥ loA xs (kp + 1)) = false := decide_eq_false (by omega)
              have hd' : decide (loA xs (kp + 1) ≤ hiA xs kp) = false := decide_eq_false (by omega)
              refine wp_region_quiet_grown (by assumption) (by kernel_rfl) ?_
              repeat (first | go_big_quiet_step ((go_at_call 45; exact good_grown _ _ _ _ _)) | quiet_step ((go_at_call 45; exact good_grown _ _ _ _ _)))
              refine wpQuiet_nil ?_
              intro _ hw'
              obtain ⟨⟨nq, osq⟩, hw''⟩ := hw'
              subst hw''
              go_wp2
              go_roundw
              case rel => exact ⟨kp + 1 + 1, by omega, by go_num, HS, hG1.grow _ _⟩
              case measure => simp [intOf]; omega
            · have HS := hide ((HE.out (kp + 1) hk HO.out).2.2 hlt (by omega) (show loA xs (kp + 1) ≤ hiA xs kp from by omega))
              have hd : decide (hiA xs kp ≥ loA xs (kp + 1)) = true := decide_eq_true (by omega)
              have hd' : decide (loA xs (kp + 1) ≤ hiA xs kp) = true := decide_eq_true (by omega)
              refine wp_region_quiet_grown (by assumption) (by kernel_rfl) ?_
              repeat (first | go_big_quiet_step ((go_at_call 45; exact good_grown _ _ _ _ _)) | quiet_step ((go_at_call 45; exact good_grown _ _ _ _ _)))
              refine wpQuiet_nil ?_
              intro _ hw'
              obtain ⟨⟨nq, osq⟩, hw''⟩ := hw'
              subst hw''
              go_wp2
              go_ret
              exact ⟨ret_bool HS.out.symm, hG1.grow _ _⟩
      · go_wp2
        go_ret
        exact ⟨ret_bool ((HE.out k hk HO.out).1 (by omega)).symm, hG⟩

end Go.Proofs.YtfahlgjolihmkaaDoor
/- Contracts of in, same, alike, containing. -/
namespace Go.Proofs.YtfahlgjolihmkaaDoor
open Go.RowKit Go.Sort

/-- has one of the spans the number x? -/
def inB (xs : List Sp) (x : Int) : Bool := xs.any fun s => hasB s.1 s.2 x
theorem getD_mem {xs : List Sp} {k : Nat} (h : k < xs.length) : xs.getD k (0, 0) ∈ xs := by
  simp [List.getD_eq_getElem?_getD, List.getElem?_eq_getElem h]
theorem mem_getD {xs : List Sp} {s : Sp} (h : s ∈ xs) : ∃ k, k < xs.length ∧ loA xs k = s.1 ∧ hiA xs k = s.2 := by
  obtain ⟨k, hk, rfl⟩ := List.mem_iff_getElem.1 h
  exact ⟨k, hk, by simp [loA, List.getD_eq_getElem?_getD, hk], by simp [hiA, List.getD_eq_getElem?_getD, hk]⟩
theorem inB_true {xs : List Sp} {x : Int} {k : Nat} (h : k < xs.length) (h1 : loA xs k ≤ x) (h2 : x < hiA xs k) : inB xs x = true :=
  List.any_eq_true.2 ⟨_, getD_mem h, decide_eq_true ⟨h1, h2⟩⟩
theorem inB_false {xs : List Sp} {x : Int} (h : ∀ k, k < xs.length → ¬ (loA xs k ≤ x ∧ x < hiA xs k)) : inB xs x = false := by
  rw [Bool.eq_false_iff]
  intro hh
  obtain ⟨s, hs, hb⟩ := List.any_eq_true.1 hh
  obtain ⟨k, hk, e1, e2⟩ := mem_getD hs
  have := of_decide_eq_true hb
  exact h k hk (by rw [e1, e2]; exact this)
theorem inB_iff {xs : List Sp} {x : Int} : inB xs x = true ↔ ∃ k, k < xs.length ∧ loA xs k ≤ x ∧ x < hiA xs k := by
  constructor
  · intro hh
    obtain ⟨s, hs, hb⟩ := List.any_eq_true.1 hh
    obtain ⟨k, hk, e1, e2⟩ := mem_getD hs
    have := of_decide_eq_true hb
    exact ⟨k, hk, by rw [e1, e2]; exact this⟩
  · rintro ⟨k, hk, h1, h2⟩
    exact inB_true hk h1 h2

end Go.Proofs.YtfahlgjolihmkaaDoor
/- Contracts of same, alike. -/
namespace Go.Proofs.YtfahlgjolihmkaaDoor
open Go.RowKit Go.Sort

theorem spans_ext {xs ys : List Sp} (hl : xs.length = ys.length) (h : ∀ k, k < xs.length → loA xs k = loA ys k ∧ hiA xs k = hiA ys k) : xs = ys := by
  refine List.ext_getElem hl fun i h1 h2 => ?_
  have := h i h1
  simp only [loA, hiA, List.getD_eq_getElem?_getD, List.getElem?_eq_getElem h1, List.getElem?_eq_getElem h2, Option.getD_some] at this
  exact Prod.ext this.1 this.2

theorem differ_false {xs ys : List Sp} {k : Nat} (h : ¬ (loA xs k = loA ys k ∧ hiA xs k = hiA ys k)) : decide (xs = ys) = false :=
  decide_eq_false fun e => h (by rw [e]; exact ⟨rfl, rfl⟩)
theorem differ_ints {xs ys : List Int} {k : Nat} (h : iA xs k ≠ iA ys k) : decide (xs = ys) = false :=
  decide_eq_false fun e => h (by rw [e])
theorem ints_ext {xs ys : List Int} (hl : xs.length = ys.length) (h : ∀ k, k < xs.length → iA xs k = iA ys k) : xs = ys := by
  refine List.ext_getElem hl fun i h1 h2 => ?_
  have := h i h1
  simpa only [iA, List.getD_eq_getElem?_getD, List.getElem?_eq_getElem h1, List.getElem?_eq_getElem h2, Option.getD_some] using this

set_option maxHeartbeats 400000 in
set_option maxRecDepth 100000 in
theorem same_any (A A' : Option Addr) (n cap m cap' : Nat) (xs ys : List Sp) (w : World) (hx : SpansAt w.heap.size w A n xs) (hy : SpansAt w.heap.size w A' m ys) (hn : n ≤ 1000000) (hm : m ≤ 1000000) :
    Calls Tryd.prog 11 #[.slice A n cap, .slice A' m cap'] w fun e w' => e = .returned (.bool (decide (xs = ys))) ∧ ∃ q, w' = w.drewN q := by
  have mixed := mixedOrders
  by_cases hnm : n = m
  · subst hnm
    have HX := hide hx
    have HY := hide hy
    clear hx hy
    go_enter Tryd.func11, Tryd.ntmps11
    go_wp2
    go_loopw [5] (fun i wr => ∃ k : Nat, k ≤ n ∧ i = .int .i64 k ∧ Hid (∀ j, j < k → loA xs j = loA ys j ∧ hiA xs j = hiA ys j) ∧ Hid (∃ q, wr = w.drewN q)) (fun i _ => n - (intOf i).toNat)
    case atStart => exact ⟨0, Nat.zero_le _, rfl, fun j hj => absurd hj (Nat.not_lt_zero _), ⟨0, rfl⟩⟩
    case round =>
      obtain ⟨k, hk, rfl, HN, HW⟩ := hrel
      by_cases hlt : k < n
      · obtain ⟨b, off, rfl, hb, c0, c1⟩ := HX.out.at_ hlt
        obtain ⟨b', off', rfl, hb', c0', c1'⟩ := HY.out.at_ hlt
        have hlt' : (k : Int) < (n : Int) := by omega
        have E0 : ∀ nq, (wr.drewN nq).cell? ⟨b, off + k * 2, none⟩ = some (.int .i64 (loA xs k)) := fun nq => by obtain ⟨q, rfl⟩ := HW.out; exact c0
        have E1 : ∀ nq, (wr.drewN nq).cell? ⟨b, off + k * 2 + 1, none⟩ = some (.int .i64 (hiA xs k)) := fun nq => by obtain ⟨q, rfl⟩ := HW.out; exact c1
        have E2 : ∀ nq, (wr.drewN nq).cell? ⟨b', off' + k * 2, none⟩ = some (.int .i64 (loA ys k)) := fun nq => by obtain ⟨q, rfl⟩ := HW.out; exact c0'
        have E3 : ∀ nq, (wr.drewN nq).cell? ⟨b', off' + k * 2 + 1, none⟩ = some (.int .i64 (hiA ys k)) := fun nq => by obtain ⟨q, rfl⟩ := HW.out; exact c1'
        clear c0 c1 c0' c1'
        by_cases h1 : loA xs k = loA ys k
        · have b1 : (loA xs k == loA ys k) = true := beq_iff_eq.2 h1
          by_cases h2 : hiA xs k = hiA ys k
          · have b2 : (hiA xs k == hiA ys k) = true := beq_iff_eq.2 h2
            have HS : Hid (∀ j, j < k + 1 → loA xs j = loA ys j ∧ hiA xs j = hiA ys j) := by
              intro j hj
              rcases Nat.lt_or_ge j k with h | h
              · exact HN.out j h
              · obtain rfl : j = k := by omega
                exact ⟨h1, h2⟩
            clear h1 h2
            go_wp2_with fail
            go_quiet (fail)
            go_wp2
            go_roundw
            case rel => exact ⟨k + 1, by omega, by go_num, HS, by obtain ⟨q, rfl⟩ := HW.out; exact ⟨q + nq, World.drewN_drewN _ _ _⟩⟩
            case measure => simp [intOf]; omega
          · have b2 : (hiA xs k == hiA ys k) = false := beq_eq_false_iff_ne.2 h2
            have HD := hide (differ_false (xs := xs) (ys := ys) (k := k) (fun e => h2 e.2))
            clear h1 h2
            go_wp2_with fail
            go_quiet (fail)
            go_wp2
            go_ret
            exact ⟨ret_bool HD.out.symm, by obtain ⟨q, rfl⟩ := HW.out; exact ⟨q + nq, World.drewN_drewN _ _ _⟩⟩
        · have b1 : (loA xs k == loA ys k) = false := beq_eq_false_iff_ne.2 h1
          have HD := hide (differ_false (xs := xs) (ys := ys) (k := k) (fun e => h1 e.1))
          clear h1
          go_wp2_with fail
          go_quiet (fail)
          go_wp2
          go_ret
          exact ⟨ret_bool HD.out.symm, by obtain ⟨q, rfl⟩ := HW.out; exact ⟨q + nq, World.drewN_drewN _ _ _⟩⟩
      · have HD := hide (spans_ext (xs := xs) (ys := ys) (by rw [HX.out.1, HY.out.1]) (fun j hj => HN.out j (by have := HX.out.1; omega)))
        go_wp2
        go_ret
        exact ⟨ret_bool (decide_eq_true HD.out).symm, HW.out⟩
  · have HD : Hid (xs ≠ ys) := by
      intro e
      exact hnm (by rw [← hx.1, ← hy.1, e])
    clear hx hy
    have hb : ((n : Int) == (m : Int)) = false := beq_eq_false_iff_ne.2 (by omega)
    have hb' : ((n : Int) != (m : Int)) = true := by rw [bne_iff_ne]; omega
    go_enter Tryd.func11, Tryd.ntmps11
    go_wp2
    go_ret
    exact ⟨ret_bool (decide_eq_false HD.out).symm, 0, rfl⟩


set_option maxHeartbeats 400000 in
set_option maxRecDepth 100000 in
theorem alike_any (A A' : Option Addr) (n cap m cap' : Nat) (xs ys : List Int) (w : World) (hx : IntsAt w.heap.size w A n xs) (hy : IntsAt w.heap.size w A' m ys) (hn : n ≤ 1000000) (hm : m ≤ 1000000) :
    Calls Tryd.prog 21 #[.slice A n cap, .slice A' m cap'] w fun e w' => e = .returned (.bool (decide (xs = ys))) ∧ ∃ q, w' = w.drewN q := by
  have mixed := mixedOrders
  by_cases hnm : n = m
  · subst hnm
    have HX := hide hx
    have HY := hide hy
    clear hx hy
    go_enter Tryd.func21, Tryd.ntmps21
    go_wp2
    go_loopw [5] (fun i wr => ∃ k : Nat, k ≤ n ∧ i = .int .i64 k ∧ Hid (∀ j, j < k → iA xs j = iA ys j) ∧ Hid (∃ q, wr = w.drewN q)) (fun i _ => n - (intOf i).toNat)
    case atStart => exact ⟨0, Nat.zero_le _, rfl, fun j hj => absurd hj (Nat.not_lt_zero _), ⟨0, rfl⟩⟩
    case round =>
      obtain ⟨k, hk, rfl, HN, HW⟩ := hrel
      by_cases hlt : k < n
      · obtain ⟨b, off, rfl, hb, c0⟩ := HX.out.at_ hlt
        obtain ⟨b', off', rfl, hb', c0'⟩ := HY.out.at_ hlt
        have hlt' : (k : Int) < (n : Int) := by omega
        have E0 : ∀ nq, (wr.drewN nq).cell? ⟨b, off + k, none⟩ = some (.int .i64 (iA xs k)) := fun nq => by obtain ⟨q, rfl⟩ := HW.out; exact c0
        have E2 : ∀ nq, (wr.drewN nq).cell? ⟨b', off' + k, none⟩ = some (.int .i64 (iA ys k)) := fun nq => by obtain ⟨q, rfl⟩ := HW.out; exact c0'
        clear c0 c0'
        by_cases h1 : iA xs k = iA ys k
        · have b1 : (iA xs k == iA ys k) = true := beq_iff_eq.2 h1
          have b2 : (iA xs k != iA ys k) = false := by rw [h1]; simp
          have HS : Hid (∀ j, j < k + 1 → iA xs j = iA ys j) := by
            intro j hj
            rcases Nat.lt_or_ge j k with h | h
            · exact HN.out j h
            · obtain rfl : j = k := by omega
              exact h1
          clear h1
          go_wp2_with fail
          go_quiet (fail)
          go_wp2
          go_roundw
          case rel => exact ⟨k + 1, by omega, by go_num, HS, by obtain ⟨q, rfl⟩ := HW.out; exact ⟨q + nq, World.drewN_drewN _ _ _⟩⟩
          case measure => simp [intOf]; omega
        · have b1 : (iA xs k == iA ys k) = false := beq_eq_false_iff_ne.2 h1
          have b2 : (iA xs k != iA ys k) = true := by rw [bne_iff_ne]; exact h1
          have HD := hide (differ_ints (xs := xs) (ys := ys) (k := k) h1)
          clear h1
          go_wp2_with fail
          go_quiet (fail)
          go_wp2
          go_ret
          exact ⟨ret_bool HD.out.symm, by obtain ⟨q, rfl⟩ := HW.out; exact ⟨q + nq, World.drewN_drewN _ _ _⟩⟩
      · have HD := hide (ints_ext (xs := xs) (ys := ys) (by rw [HX.out.1, HY.out.1]) (fun j hj => HN.out j (by have := HX.out.1; omega)))
        go_wp2
        go_ret
        exact ⟨ret_bool (decide_eq_true HD.out).symm, HW.out⟩
  · have HD : Hid (xs ≠ ys) := by
      intro e
      exact hnm (by rw [← hx.1, ← hy.1, e])
    clear hx hy
    have hb : ((n : Int) == (m : Int)) = false := beq_eq_false_iff_ne.2 (by omega)
    have hb' : ((n : Int) != (m : Int)) = true := by rw [bne_iff_ne]; omega
    go_enter Tryd.func21, Tryd.ntmps21
    go_wp2
    go_ret
    exact ⟨ret_bool (decide_eq_false HD.out).symm, 0, rfl⟩

end Go.Proofs.YtfahlgjolihmkaaDoor
