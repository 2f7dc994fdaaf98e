/- few, isWithin, Root; lists of entries of any length. -/
import Derived.Test.YtbinmkigolkhcaaDoorPG
set_option linter.unusedSimpArgs false
set_option linter.unusedVariables false
namespace Go.Proofs.YtbinmkigolkhcaaDoor
open Go.RowKit Go.Sort
attribute [local go_sem] Oper.semAt_some

/-- a list of entries, of any length -/
def ListsIn (B : Nat) (w : World) (A : Option Addr) (n : Nat) (ls : List (List UInt8)) : Prop :=
  ls.length = n ∧ (n = 0 ∨ ∃ b off, A = some ⟨b, off, none⟩ ∧ b < B ∧ ∀ i, i < n → ∃ Ai ni ci, w.cell? ⟨b, off + i, none⟩ = some (.slice Ai ni ci) ∧ BytesAt B w Ai ni (ls.getD i []) ∧ ni ≤ ci ∧ ci ≤ 9223372036854775807)
theorem ListsIn.to {B : Nat} {w : World} {A : Option Addr} {n : Nat} {ls : List (List UInt8)} (h : ListsIn B w A n ls) (hs : ∀ l ∈ ls, l.length ≤ 1000000) : ListsAt B w A n ls := by
  refine ⟨h.1, ?_⟩
  rcases h.2 with h0 | ⟨b, off, e, hb, hc⟩
  · exact .inl h0
  · refine .inr ⟨b, off, e, hb, fun i hi => ?_⟩
    obtain ⟨Ai, ni, ci, h1, h2, h3, h4⟩ := hc i hi
    refine ⟨Ai, ni, ci, h1, h2, ?_⟩
    rw [← h2.1]
    have hl := h.1
    rw [List.getD_eq_getElem?_getD, List.getElem?_eq_getElem (by omega)]
    exact hs _ (List.getElem_mem _)
theorem ListsIn.at_ {B : Nat} {w : World} {A : Option Addr} {n i : Nat} {ls : List (List UInt8)} (h : ListsIn B w A n ls) (hi : i < n) :
    ∃ b off Ai ni ci, A = some ⟨b, off, none⟩ ∧ b < B ∧ w.cell? ⟨b, off + i, none⟩ = some (.slice Ai ni ci) ∧ BytesAt B w Ai ni (ls.getD i []) ∧ ni ≤ ci ∧ ci ≤ 9223372036854775807 := by
  rcases h.2 with h0 | ⟨b, off, e, hb, hc⟩
  · omega
  · obtain ⟨Ai, ni, ci, h1, h2, h3, h4⟩ := hc i hi
    exact ⟨b, off, Ai, ni, ci, e, hb, h1, h2, h3, h4⟩

/-- hashes -/
def hashA (hs : List Nat) (i : Nat) : Nat := hs.getD i 0
def HashesAt (B : Nat) (w : World) (A : Option Addr) (n : Nat) (hs : List Nat) : Prop :=
  hs.length = n ∧ (∀ p ∈ hs, p < 18446744073709551616) ∧ (n = 0 ∨ ∃ b off, A = some ⟨b, off, none⟩ ∧ b < B ∧ ∀ i, i < n → w.cell? ⟨b, off + i, none⟩ = some (.int .u64 (hashA hs i : Nat)))


def fewB (ls : List (List UInt8)) : Bool := decide (ls.length ≤ 100 ∧ ∀ l ∈ ls, l.length ≤ 400)
theorem few_no {ls : List (List UInt8)} {i : Nat} (hi : i < ls.length) (h : 100 ≤ i ∨ 400 < (ls.getD i []).length) : fewB ls = false := by
  refine decide_eq_false fun ⟨h1, h2⟩ => ?_
  rw [List.getD_eq_getElem?_getD, List.getElem?_eq_getElem hi] at h
  have := h2 _ (List.getElem_mem hi)
  rcases h with h | h
  · omega
  · rw [Option.getD_some] at h; omega
theorem all_get {ls : List (List UInt8)} {k : Nat} (h : ∀ j, j < ls.length → (ls.getD j []).length ≤ k) : ∀ l ∈ ls, l.length ≤ k := by
  intro l hl
  obtain ⟨i, hi, rfl⟩ := List.getElem_of_mem hl
  have := h i hi
  rw [List.getD_eq_getElem?_getD, List.getElem?_eq_getElem hi] at this
  exact this
theorem few_yes {ls : List (List UInt8)} (h1 : ls.length ≤ 100) (h : ∀ j, j < ls.length → (ls.getD j []).length ≤ 400) : fewB ls = true :=
  decide_eq_true ⟨h1, all_get h⟩
set_option maxHeartbeats 1000000 in
theorem few_any (A : Option Addr) (n c : Nat) (ls : List (List UInt8)) (w : World) (hx : ListsIn w.heap.size w A n ls) (hn : n ≤ 9223372036854775807) :
    Calls Tryd.prog 16 #[.slice A n c] w fun e w' => e = .returned (.bool (fewB ls)) ∧ w = w' := by
  have mixed := mixedOrders
  have HX := hide hx
  have HN := hide hn
  have hlen := hx.1
  have HLEN := hide hlen
  clear hx hn hlen
  go_enter Tryd.func16, Tryd.ntmps16
  go_wp2_with fail
  go_loop [3] (fun vi => ∃ i : Nat, vi = .int .i64 i ∧ i ≤ n ∧ i ≤ 100 ∧ Hid (∀ j, j < i → (ls.getD j []).length ≤ 400)) (fun vi => n - (intOf vi).toNat)
  case atStart => exact ⟨0, rfl, Nat.zero_le _, Nat.zero_le _, fun j hj => absurd hj (Nat.not_lt_zero _)⟩
  case round =>
    obtain ⟨i, rfl, hi, hi2, HI⟩ := hrel
    by_cases hlt : i < n
    · have hlt' : (i : Int) < (n : Int) := by omega
      obtain ⟨b, off, Ai, ni, ci, rfl, hb, c0, hB, hn1, hn2⟩ := HX.out.at_ hlt
      have hle := hB.1
      clear hB
      by_cases h100 : i < 100
      · have g1 : ¬ (100 : Int) ≤ (i : Int) := by omega
        by_cases h4 : ni ≤ 400
        · have g2 : ¬ (400 : Int) < (ni : Int) := by omega
          have HS : Hid (∀ j, j < i + 1 → (ls.getD j []).length ≤ 400) := by
            intro j hj
            rcases Nat.lt_or_ge j i with h | h
            · exact HI.out j h
            · obtain rfl : j = i := by omega
              omega
          have HQ := hide (show i + 1 ≤ n ∧ i + 1 ≤ 100 by omega)
          clear hle hn1 hn2 hi hi2 h4 hlt h100
          go_wp2_with fail
          go_round
          case rel => exact ⟨i + 1, by go_num, HQ.out.1, HQ.out.2, HS⟩
          case measure => simp [intOf]; have := HQ.out.1; omega
        · have g2 : (400 : Int) < (ni : Int) := by omega
          have HR := hide (few_no (ls := ls) (i := i) (by rw [HLEN.out]; exact hlt) (.inr (by omega)))
          clear hle hn1 hn2 hi hi2 h4 hlt h100
          go_wp2_with fail
          go_ret
          exact ⟨by rw [HR.out]; rfl, rfl⟩
      · have g1 : (100 : Int) ≤ (i : Int) := by omega
        have HR := hide (few_no (ls := ls) (i := i) (by rw [HLEN.out]; exact hlt) (.inl (by omega)))
        clear hle hn1 hn2 hi hi2 hlt h100
        go_wp2_with fail
        go_ret
        exact ⟨by rw [HR.out]; rfl, rfl⟩
    · obtain rfl : i = n := by omega
      have HR := hide (few_yes (ls := ls) (by rw [HLEN.out]; omega) (by rw [HLEN.out]; exact HI.out))
      go_wp2_with fail
      go_ret
      exact ⟨by rw [HR.out]; rfl, rfl⟩

/-- some entry is too long -/
def longB (ls : List (List UInt8)) : Bool := decide (∃ l ∈ ls, 256 < l.length)
theorem long_yes {ls : List (List UInt8)} {i : Nat} (hi : i < ls.length) (h : 256 < (ls.getD i []).length) : longB ls = true := by
  rw [List.getD_eq_getElem?_getD, List.getElem?_eq_getElem hi] at h
  exact decide_eq_true ⟨_, List.getElem_mem hi, h⟩
theorem long_no {ls : List (List UInt8)} (h : ∀ j, j < ls.length → (ls.getD j []).length ≤ 256) : longB ls = false := by
  refine decide_eq_false fun ⟨l, hl, h2⟩ => ?_
  have := all_get h l hl
  omega
theorem long_false {ls : List (List UInt8)} (h : longB ls = false) : ∀ l ∈ ls, l.length ≤ 256 := by
  intro l hl
  have := of_decide_eq_false h
  rcases Nat.lt_or_ge 256 l.length with h2 | h2
  · exact absurd ⟨l, hl, h2⟩ this
  · exact h2
def IndexPost (ls : List (List UInt8)) (w : World) (e : Ending) (w' : World) : Prop := ∃ k : Int, e = .returned (.int .i64 k) ∧ decide (0 ≤ k) = longB ls ∧ w = w'
set_option maxHeartbeats 1000000 in
theorem IndexFunc_any (A : Option Addr) (n c : Nat) (ls : List (List UInt8)) (w : World) (hx : ListsAt w.heap.size w A n ls) (hn : n ≤ 1000000) :
    Calls Tryd.prog 101 #[.slice A n c, .func (.func 67) #[] #[]] w (IndexPost ls w) := by
  have mixed := mixedOrders
  have HX := hide hx
  have HN := hide hn
  have HLEN := hide hx.1
  clear hx hn
  go_enter Tryd.func101, Tryd.ntmps101
  go_wp2_with fail
  go_loop [8] (fun vi => ∃ i : Nat, vi = .int .i64 i ∧ i ≤ n ∧ Hid (∀ j, j < i → (ls.getD j []).length ≤ 256)) (fun vi => n - (intOf vi).toNat)
  case atStart => exact ⟨0, rfl, Nat.zero_le _, fun j hj => absurd hj (Nat.not_lt_zero _)⟩
  case round =>
    obtain ⟨i, rfl, hi, HI⟩ := hrel
    by_cases hlt : i < n
    · have hlt' : (i : Int) < (n : Int) := by omega
      obtain ⟨b, off, Ai, ni, ci, rfl, hb, c0, hB, hn1⟩ := HX.out.at_ hlt
      have hle := hB.1
      have HT := hide (isTooLong_any Ai ni ci w)
      have hN := HN.out
      clear hB
      by_cases h4 : ni ≤ 256
      · rw [decide_eq_false (by omega)] at HT
        have HS : Hid (∀ j, j < i + 1 → (ls.getD j []).length ≤ 256) := by
          intro j hj
          rcases Nat.lt_or_ge j i with h | h
          · exact HI.out j h
          · obtain rfl : j = i := by omega
            omega
        have HQ := hide (show i + 1 ≤ n by omega)
        clear hle hn1 hi h4 hlt
        go_wp2_with fail
        refine HT.out.mono ?_
        rintro e w1 ⟨rfl, rfl⟩
        go_wp2_with fail
        go_round
        case rel => exact ⟨i + 1, by go_num, HQ.out, HS⟩
        case measure => simp [intOf]; have := HQ.out; omega
      · rw [decide_eq_true (by omega)] at HT
        have HR := hide (long_yes (ls := ls) (i := i) (by rw [HLEN.out]; exact hlt) (by omega))
        clear hle hn1 hi h4 hlt
        go_wp2_with fail
        refine HT.out.mono ?_
        rintro e w1 ⟨rfl, rfl⟩
        go_wp2_with fail
        go_ret
        exact ⟨i, rfl, by rw [HR.out]; exact decide_eq_true (by omega), rfl⟩
    · obtain rfl : i = n := by omega
      have HR := hide (long_no (ls := ls) (by rw [HLEN.out]; exact HI.out))
      go_wp2_with fail
      go_ret
      exact ⟨-1, rfl, by rw [HR.out]; rfl, rfl⟩
theorem ContainsFunc_any (A : Option Addr) (n c : Nat) (ls : List (List UInt8)) (w : World) (hx : ListsAt w.heap.size w A n ls) (hn : n ≤ 1000000) :
    Calls Tryd.prog 87 #[.slice A n c, .func (.func 67) #[] #[]] w fun e w' => e = .returned (.bool (longB ls)) ∧ w = w' := by
  have HC := hide (IndexFunc_any A n c ls w hx hn)
  clear hx
  go_enter Tryd.func87, Tryd.ntmps87
  go_wp2_with fail
  refine HC.out.mono ?_
  rintro e w1 ⟨k, rfl, hk, rfl⟩
  have HK := hide hk
  clear hk HC
  go_wp2_with fail
  go_ret
  exact ⟨ret_bool HK.out, rfl⟩
def withinB (ls : List (List UInt8)) : Bool := decide (ls.length ≤ 4096) && !longB ls
theorem isWithin_any (A : Option Addr) (n c : Nat) (ls : List (List UInt8)) (w : World) (hx : ListsAt w.heap.size w A n ls) (hn : n ≤ 4096) :
    Calls Tryd.prog 54 #[.slice A n c] w fun e w' => e = .returned (.bool (!longB ls)) ∧ w = w' := by
  have mixed := mixedOrders
  have HC := hide (ContainsFunc_any A n c ls w hx (by omega))
  have g : (n : Int) ≤ 4096 := by omega
  clear hx hn
  obtain ⟨b, hb⟩ : ∃ b, longB ls = b := ⟨_, rfl⟩
  rw [hb] at HC ⊢
  clear hb
  go_enter Tryd.func54, Tryd.ntmps54
  go_wp2_with fail
  refine HC.out.mono ?_
  rintro e w1 ⟨rfl, rfl⟩
  go_wp2_with fail
  go_ret
  exact ⟨rfl, rfl⟩
def RootP (x : Nat × Int) (w : World) (e : Ending) (w' : World) : Prop := e = .returned (.tuple #[.int .u64 (x.1 : Nat), .int .i64 x.2]) ∧ Below w.heap.size w w'
/-- the root of a list, or the error -/
def pRootV (ls : List (List UInt8)) : Nat × Int := if longB ls = true then (0, 3) else (rootV ls, 0)
theorem pRoot_any (A : Option Addr) (n c : Nat) (ls : List (List UInt8)) (w : World) (hx : ListsAt w.heap.size w A n ls) (hn : n ≤ 4096) (hc : n ≤ c) :
    Calls Tryd.prog 18 #[.slice A n c] w (RootP (pRootV ls) w) := by
  have HW := hide (isWithin_any A n c ls w hx hn)
  have HR := hide (rootOf_any n n A c ls w (Nat.le_refl _) hx hc (by omega))
  clear hx hn hc
  unfold pRootV
  cases hb : longB ls
  · rw [hb] at HW
    rw [if_neg (by decide)]
    clear hb
    go_enter Tryd.func18, Tryd.ntmps18
    go_wp2_with fail
    refine HW.out.mono ?_
    rintro e w1 ⟨rfl, rfl⟩
    go_wp2_with fail
    refine HR.out.mono ?_
    rintro e w2 ⟨rfl, hb⟩
    go_wp2_with fail
    go_ret2
    exact ⟨rfl, hb⟩
  · rw [hb] at HW
    rw [if_pos rfl]
    clear hb HR
    go_enter Tryd.func18, Tryd.ntmps18
    go_wp2_with fail
    refine HW.out.mono ?_
    rintro e w1 ⟨rfl, rfl⟩
    go_wp2_with fail
    go_ret2
    exact ⟨rfl, Below.refl _ _⟩
end Go.Proofs.YtbinmkigolkhcaaDoor
