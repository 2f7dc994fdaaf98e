/- Entry; the specification's log: RootAt, Entry, Include, Extend. -/
import Derived.Test.YtbinmkigolkhcaaDoorQB
import Derived.Test.YtbinmkigolkhcaaDoorJB
set_option linter.unusedSimpArgs false
set_option linter.unusedVariables false
namespace Go.Proofs.YtbinmkigolkhcaaDoor
open Go.RowKit Go.Sort
attribute [local go_sem] Oper.semAt_some

def entryV (ls : List (List UInt8)) (i : Int) : List UInt8 × Int := if i < 0 ∨ (ls.length : Int) ≤ i then ([], 6) else (ls.getD i.toNat [], 0)
def EntP (x : List UInt8 × Int) (w : World) (e : Ending) (w' : World) : Prop :=
  ∃ a c, e = .returned (.tuple #[.slice a x.1.length c, .int .i64 x.2]) ∧ w'.ownsRow w.heap.size 5 1 (.slice a x.1.length c) x.1.length (cellsB x.1) ∧ Below w.heap.size w w'
set_option maxHeartbeats 2000000 in
set_option maxRecDepth 100000 in
theorem Entry_good {B : Nat} {w : World} {b : Nat} {ls : List (List UInt8)} (h : GoodLog B w b ls) (hl : ls.length ≤ 4096) (i : Int) : Calls Tryd.prog 46 #[.pointer (some ⟨b, 0, none⟩), .int .i64 i] w (EntP (entryV ls i) w) := by
  have mixed := mixedOrders
  obtain ⟨F, Ae, ce, Ap, cp, hlg, -⟩ := h
  have HM := hide (isMade_any b w hlg.c0)
  have c1 := hlg.c1
  have HL := hide hlg.lists
  clear hlg
  unfold entryV
  obtain ⟨m, hm⟩ : ∃ m, ls.length = m := ⟨_, rfl⟩
  rw [hm] at c1 HL hl ⊢
  rcases Int.lt_or_le i 0 with h1 | h1
  · rw [if_pos (.inl h1)]
    clear hm hl HL
    go_enter Tryd.func46, Tryd.ntmps46
    go_wp2_with fail
    refine HM.out.mono ?_
    rintro e w1 ⟨rfl, rfl⟩
    go_wp2_with fail
    go_ret2
    exact ⟨none, 0, rfl, World.ownsRow_nil _ _ _ _, Below.refl _ _⟩
  rcases Int.lt_or_le i (m : Int) with h2 | h2
  · rw [if_neg (by omega)]
    obtain ⟨i', rfl⟩ : ∃ k : Nat, i = k := ⟨i.toNat, by omega⟩
    rw [Int.toNat_natCast]
    obtain ⟨g, off, A, n, c, rfl, hg, k1, hB, hn⟩ := HL.out.at_ (i := i') (by omega)
    have HC := hide (clone_any A n c _ w hB hn)
    have hBl := hB.1
    obtain ⟨E, hE⟩ : ∃ E, ls.getD i' [] = E := ⟨_, rfl⟩
    rw [hE] at HC hBl ⊢
    unfold CloneP at HC
    have g1 : ¬ (i' : Int) < 0 := by omega
    have g2 : ¬ (m : Int) ≤ (i' : Int) := by omega
    subst hBl
    clear hm hl HL h1 hE hB hn hg
    go_enter Tryd.func46, Tryd.ntmps46
    go_wp2_with fail
    refine HM.out.mono ?_
    rintro e w1 ⟨rfl, rfl⟩
    go_wp2_with fail
    refine HC.out.mono ?_
    rintro e w2 ⟨a, c2, rfl, ho, hb⟩
    have HO := hide ho
    have HB := hide hb
    clear ho hb HC
    go_wp2_with fail
    go_ret2
    exact ⟨a, c2, rfl, HO.out, HB.out⟩
  · rw [if_pos (.inr h2)]
    have g1 : ¬ i < 0 := by omega
    clear hm hl HL h1
    go_enter Tryd.func46, Tryd.ntmps46
    go_wp2_with fail
    refine HM.out.mono ?_
    rintro e w1 ⟨rfl, rfl⟩
    go_wp2_with fail
    go_ret2
    exact ⟨none, 0, rfl, World.ownsRow_nil _ _ _ _, Below.refl _ _⟩

/-- where a slice points -/
def Adr (A : Option Addr) (n c : Nat) : Prop := n ≤ c ∧ ((A = none ∧ n = 0 ∧ c = 0) ∨ ∃ g off, A = some ⟨g, off, none⟩)
theorem box_cell (w : World) (v : Value) (t : TypeId) : (w.alloc (.cells #[v] t)).cell? ⟨w.heap.size, 0, none⟩ = some v := (cell_new1 w v t).1
set_option maxHeartbeats 2000000 in
set_option maxRecDepth 100000 in
theorem rRootAt_any (A : Option Addr) (q c : Nat) (ls : List (List UInt8)) (w : World) (hx : ListsAt w.heap.size w A q ls) (hA : Adr A q c) (hl : q ≤ 4096) (hsm : Small ls) (n : Int) :
    Calls Tryd.prog 78 #[.agg #[.slice A q c], .int .i64 n] w (RootP (rootAtV ls n) w) := by
  have mixed := mixedOrders
  have hlen := hx.1
  have hb1 : Below w.heap.size w (w.alloc (.cells #[.slice A q c] 59)) := (Below.refl _ w).alloc (Nat.le_refl _) _
  have hc1 := box_cell w (.slice A q c) 59
  obtain ⟨W, hW⟩ : ∃ W, w.alloc (.cells #[.slice A q c] 59) = W := ⟨_, rfl⟩
  rw [hW] at hb1 hc1
  unfold rootAtV
  rw [hlen]
  rcases Int.lt_or_le n 0 with h1 | h1
  · rw [if_pos (.inl h1)]
    have HB := hide hb1
    clear hlen hl hx hA hb1 hsm
    go_enter Tryd.func78, Tryd.ntmps78
    go_wp2_with fail
    go_ret2
    exact ⟨rfl, HB.out⟩
  rcases Int.lt_or_le (q : Int) n with h2 | h2
  · rw [if_pos (.inr h2)]
    have g1 : ¬ n < 0 := by omega
    have HB := hide hb1
    clear hlen hl hx hA hb1 hsm h1
    go_enter Tryd.func78, Tryd.ntmps78
    go_wp2_with fail
    go_ret2
    exact ⟨rfl, HB.out⟩
  rw [if_neg (by omega)]
  obtain ⟨n', rfl⟩ : ∃ k : Nat, n = k := ⟨n.toNat, by omega⟩
  rw [Int.toNat_natCast]
  have g1 : ¬ (n' : Int) < 0 := by omega
  have g2 : ¬ (q : Int) < (n' : Int) := by omega
  have g3 : (n' : Int) ≤ (c : Int) := by have := hA.1; omega
  have HB := hide hb1
  rcases hA.2 with ⟨rfl, h3, h4⟩ | ⟨g, off, rfl⟩
  · subst h3 h4
    obtain rfl : n' = 0 := by omega
    have HC := hide (Top_any 0 0 none 0 (ls.take 0) W (Nat.le_refl _) ⟨by simp, .inl rfl⟩ (Nat.le_refl _) (by omega) (hsm.take 0))
    obtain ⟨r, hr⟩ : ∃ r, rootV (ls.take 0) = r := ⟨_, rfl⟩
    rw [hr] at HC ⊢
    clear hlen hl hx hA hb1 hsm h1 h2 hr
    go_enter Tryd.func78, Tryd.ntmps78
    go_wp2_with fail
    refine HC.out.mono ?_
    rintro e w2 ⟨rfl, hb⟩
    go_wp2_with fail
    go_ret2
    exact ⟨rfl, HB.out.trans (hb.mono HB.out.size)⟩
  · have HC := hide (Top_any n' n' (some ⟨g, off, none⟩) c (ls.take n') W (Nat.le_refl _) ((hx.now hb1 (Nat.le_refl _)).take (by omega)) (by omega) (by omega) (hsm.take n'))
    obtain ⟨r, hr⟩ : ∃ r, rootV (ls.take n') = r := ⟨_, rfl⟩
    rw [hr] at HC ⊢
    clear hlen hl hx hA hb1 hsm h1 h2 hr
    go_enter Tryd.func78, Tryd.ntmps78
    go_wp2_with fail
    refine HC.out.mono ?_
    rintro e w2 ⟨rfl, hb⟩
    go_wp2_with fail
    go_ret2
    exact ⟨rfl, HB.out.trans (hb.mono HB.out.size)⟩

def REntP (C : Nat → Prop) (x : List UInt8 × Int) (w : World) (e : Ending) (w' : World) : Prop :=
  ∃ a n c, e = .returned (.tuple #[.slice a n c, .int .i64 x.2]) ∧ BytesAt w'.heap.size w' a n x.1 ∧ Below w.heap.size w w'
set_option maxHeartbeats 2000000 in
set_option maxRecDepth 100000 in
theorem rEntry_any (A : Option Addr) (q c : Nat) (ls : List (List UInt8)) (w : World) (hx : ListsAt w.heap.size w A q ls) (hl : q ≤ 4096) (i : Int) :
    Calls Tryd.prog 79 #[.agg #[.slice A q c], .int .i64 i] w (REntP (fun _ => True) (entryV ls i) w) := by
  have mixed := mixedOrders
  have hlen := hx.1
  have hb1 : Below w.heap.size w (w.alloc (.cells #[.slice A q c] 59)) := (Below.refl _ w).alloc (Nat.le_refl _) _
  have hc1 := box_cell w (.slice A q c) 59
  obtain ⟨W, hW⟩ : ∃ W, w.alloc (.cells #[.slice A q c] 59) = W := ⟨_, rfl⟩
  rw [hW] at hb1 hc1
  unfold entryV
  rw [hlen]
  rcases Int.lt_or_le i 0 with h1 | h1
  · rw [if_pos (.inl h1)]
    have HB := hide hb1
    clear hlen hl hx hb1
    go_enter Tryd.func79, Tryd.ntmps79
    go_wp2_with fail
    go_ret2
    exact ⟨none, 0, 0, rfl, ⟨rfl, .inl rfl⟩, HB.out⟩
  rcases Int.lt_or_le i (q : Int) with h2 | h2
  · rw [if_neg (by omega)]
    obtain ⟨i', rfl⟩ : ∃ k : Nat, i = k := ⟨i.toNat, by omega⟩
    rw [Int.toNat_natCast]
    obtain ⟨g, off, A2, n, c2, rfl, hg, k1, hB, hn⟩ := (hx.now hb1 (Nat.le_refl _)).at_ (i := i') (by omega)
    have g1 : ¬ (i' : Int) < 0 := by omega
    have g2 : ¬ (q : Int) ≤ (i' : Int) := by omega
    have HBB := hide hB
    have HB := hide hb1
    clear hlen hl hx h1 hB hn hg hb1
    go_enter Tryd.func79, Tryd.ntmps79
    go_wp2_with fail
    go_ret2
    exact ⟨A2, n, c2, rfl, HBB.out, HB.out⟩
  · rw [if_pos (.inr h2)]
    have g1 : ¬ i < 0 := by omega
    have HB := hide hb1
    clear hlen hl hx hb1 h1
    go_enter Tryd.func79, Tryd.ntmps79
    go_wp2_with fail
    go_ret2
    exact ⟨none, 0, 0, rfl, ⟨rfl, .inl rfl⟩, HB.out⟩

theorem long_take {ls : List (List UInt8)} (h : longB ls = false) (k : Nat) : longB (ls.take k) = false := long_no fun j hj => by
  have h6 := long_false h
  rw [List.length_take] at hj
  have e6 : (ls.take k).getD j [] = ls.getD j [] := by simp [List.getD_eq_getElem?_getD]; rw [List.getElem?_take_of_lt (by omega)]
  rw [e6, List.getD_eq_getElem?_getD, List.getElem?_eq_getElem (by omega)]
  exact h6 _ (List.getElem_mem _)
theorem includeV_bad {ls : List (List UInt8)} {i n : Int} (h : n < 1 ∨ (ls.length : Int) < n) : includeV ls i n = ([], 6) := if_pos (by omega)
theorem includeV_ok {ls : List (List UInt8)} {i : Int} {n : Nat} (hlg : longB ls = false) (h1 : 1 ≤ n) (h2 : n ≤ ls.length) : includeV ls i n = pIncludeV (ls.take n) i := by
  unfold includeV pIncludeV
  rw [long_take hlg, if_neg (show ¬ (false = true) by decide), List.length_take, Nat.min_eq_left h2, Int.toNat_natCast]
  by_cases h : i < 0 ∨ (n : Int) ≤ i
  · rw [if_pos (by omega), if_pos h]
  · rw [if_neg (by omega), if_neg h]
theorem lextV_bad {ls : List (List UInt8)} {i n : Int} (h : n < 1 ∨ (ls.length : Int) < n) : lextV ls i n = ([], 6) := if_pos h
theorem lextV_ok {ls : List (List UInt8)} {i : Int} {n : Nat} (hlg : longB ls = false) (h1 : 1 ≤ n) (h2 : n ≤ ls.length) : lextV ls i n = extendV (ls.take n) i := by
  unfold lextV extendV
  rw [long_take hlg, if_neg (show ¬ (false = true) by decide), List.length_take, Nat.min_eq_left h2, if_neg (by omega), Int.toNat_natCast]

set_option maxHeartbeats 2000000 in
set_option maxRecDepth 100000 in
theorem rInclude_any (A : Option Addr) (q c : Nat) (ls : List (List UInt8)) (w : World) (hx : ListsAt w.heap.size w A q ls) (hA : Adr A q c) (hl : q ≤ 4096) (hsm : Small ls) (hlg : longB ls = false) (i n : Int) :
    Calls Tryd.prog 80 #[.agg #[.slice A q c], .int .i64 i, .int .i64 n] w (TwoSteps (includeV ls i n) w) := by
  have mixed := mixedOrders
  have hlen := hx.1
  have hb1 : Below w.heap.size w (w.alloc (.cells #[.slice A q c] 59)) := (Below.refl _ w).alloc (Nat.le_refl _) _
  have hc1 := box_cell w (.slice A q c) 59
  obtain ⟨W, hW⟩ : ∃ W, w.alloc (.cells #[.slice A q c] 59) = W := ⟨_, rfl⟩
  rw [hW] at hb1 hc1
  have hv0 := includeV_bad (ls := ls) (i := i) (n := n)
  rw [hlen] at hv0
  rcases Int.lt_or_le n 1 with h1 | h1
  · rw [hv0 (.inl h1)]
    have HB := hide hb1
    clear hlen hl hx hA hb1 hsm hv0
    go_enter Tryd.func80, Tryd.ntmps80
    go_wp2_with fail
    go_ret2
    exact ⟨none, 0, rfl, World.ownsRow_nil _ _ _ _, HB.out⟩
  rcases Int.lt_or_le (q : Int) n with h2 | h2
  · rw [hv0 (.inr h2)]
    have g1 : ¬ n < 1 := by omega
    have HB := hide hb1
    clear hlen hl hx hA hb1 hsm h1 hv0
    go_enter Tryd.func80, Tryd.ntmps80
    go_wp2_with fail
    go_ret2
    exact ⟨none, 0, rfl, World.ownsRow_nil _ _ _ _, HB.out⟩
  obtain ⟨n', rfl⟩ : ∃ k : Nat, n = k := ⟨n.toNat, by omega⟩
  have hv := includeV_ok (i := i) hlg (show 1 ≤ n' by omega) (show n' ≤ ls.length by omega)
  have g1 : ¬ (n' : Int) < 1 := by omega
  have g2 : ¬ (q : Int) < (n' : Int) := by omega
  have g3 : (n' : Int) ≤ (c : Int) := by have := hA.1; omega
  have HB := hide hb1
  rcases hA.2 with ⟨rfl, h3, h4⟩ | ⟨g, off, rfl⟩
  · omega
  · have HC := hide (refInclude_any (some ⟨g, off, none⟩) n' c (ls.take n') i W ((hx.now hb1 (Nat.le_refl _)).take (by omega)) (by omega) (by omega) (hsm.take n'))
    rw [← hv] at HC
    unfold TwoSteps at HC ⊢
    obtain ⟨X, hX⟩ : ∃ X, includeV ls i n' = X := ⟨_, rfl⟩
    rw [hX] at HC ⊢
    obtain ⟨L, E⟩ := X
    have HC1 : Hid (Calls Tryd.prog 26 #[.slice (some ⟨g, off, none⟩) n' c, .int .i64 i] W fun e w' => ∃ a c, e = .returned (.tuple #[.slice a L.length c, .int .i64 E]) ∧ w'.ownsRow W.heap.size 41 2 (.slice a L.length c) L.length (cellsS L) ∧ Below W.heap.size W w') := HC.out
    clear hlen hl hx hA hb1 hsm h1 h2 hX hv hv0 HC
    go_enter Tryd.func80, Tryd.ntmps80
    go_wp2_with fail
    refine HC1.out.mono ?_
    rintro e w2 ⟨a, c2, rfl, ho, hb⟩
    have HO := hide ho
    have HB2 := hide hb
    clear ho hb HC1
    go_wp2_with fail
    go_ret2
    exact ⟨a, c2, rfl, own_keep HO.out (Below.refl _ _) HB.out.size, HB.out.trans (HB2.out.mono HB.out.size)⟩

set_option maxHeartbeats 2000000 in
set_option maxRecDepth 100000 in
theorem rExtend_any (A : Option Addr) (q c : Nat) (ls : List (List UInt8)) (w : World) (hx : ListsAt w.heap.size w A q ls) (hA : Adr A q c) (hl : q ≤ 4096) (hsm : Small ls) (hlg : longB ls = false) (i n : Int) :
    Calls Tryd.prog 81 #[.agg #[.slice A q c], .int .i64 i, .int .i64 n] w (TwoHashes (lextV ls i n) w) := by
  have mixed := mixedOrders
  have hlen := hx.1
  have hb1 : Below w.heap.size w (w.alloc (.cells #[.slice A q c] 59)) := (Below.refl _ w).alloc (Nat.le_refl _) _
  have hc1 := box_cell w (.slice A q c) 59
  obtain ⟨W, hW⟩ : ∃ W, w.alloc (.cells #[.slice A q c] 59) = W := ⟨_, rfl⟩
  rw [hW] at hb1 hc1
  have hv0 := lextV_bad (ls := ls) (i := i) (n := n)
  rw [hlen] at hv0
  rcases Int.lt_or_le n 1 with h1 | h1
  · rw [hv0 (.inl h1)]
    have HB := hide hb1
    clear hlen hl hx hA hb1 hsm hv0
    go_enter Tryd.func81, Tryd.ntmps81
    go_wp2_with fail
    go_ret2
    exact ⟨none, 0, rfl, World.ownsRow_nil _ _ _ _, HB.out⟩
  rcases Int.lt_or_le (q : Int) n with h2 | h2
  · rw [hv0 (.inr h2)]
    have g1 : ¬ n < 1 := by omega
    have HB := hide hb1
    clear hlen hl hx hA hb1 hsm h1 hv0
    go_enter Tryd.func81, Tryd.ntmps81
    go_wp2_with fail
    go_ret2
    exact ⟨none, 0, rfl, World.ownsRow_nil _ _ _ _, HB.out⟩
  obtain ⟨n', rfl⟩ : ∃ k : Nat, n = k := ⟨n.toNat, by omega⟩
  have hv := lextV_ok (i := i) hlg (show 1 ≤ n' by omega) (show n' ≤ ls.length by omega)
  have g1 : ¬ (n' : Int) < 1 := by omega
  have g2 : ¬ (q : Int) < (n' : Int) := by omega
  have g3 : (n' : Int) ≤ (c : Int) := by have := hA.1; omega
  have HB := hide hb1
  rcases hA.2 with ⟨rfl, h3, h4⟩ | ⟨g, off, rfl⟩
  · omega
  · have HC := hide (refExtend_any (some ⟨g, off, none⟩) n' c (ls.take n') i W ((hx.now hb1 (Nat.le_refl _)).take (by omega)) (by omega) (by omega) (hsm.take n'))
    rw [← hv] at HC
    unfold TwoHashes at HC ⊢
    obtain ⟨X, hX⟩ : ∃ X, lextV ls i n' = X := ⟨_, rfl⟩
    rw [hX] at HC ⊢
    obtain ⟨L, E⟩ := X
    have HC1 : Hid (Calls Tryd.prog 27 #[.slice (some ⟨g, off, none⟩) n' c, .int .i64 i] W fun e w' => ∃ a c, e = .returned (.tuple #[.slice a L.length c, .int .i64 E]) ∧ w'.ownsRow W.heap.size 24 1 (.slice a L.length c) L.length (cellsP L) ∧ Below W.heap.size W w') := HC.out
    clear hlen hl hx hA hb1 hsm h1 h2 hX hv hv0 HC
    go_enter Tryd.func81, Tryd.ntmps81
    go_wp2_with fail
    refine HC1.out.mono ?_
    rintro e w2 ⟨a, c2, rfl, ho, hb⟩
    have HO := hide ho
    have HB2 := hide hb
    clear ho hb HC1
    go_wp2_with fail
    go_ret2
    exact ⟨a, c2, rfl, own_keep HO.out (Below.refl _ _) HB.out.size, HB.out.trans (HB2.out.mono HB.out.size)⟩
end Go.Proofs.YtbinmkigolkhcaaDoor
