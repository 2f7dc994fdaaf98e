/- What is used of the specification's curves: small blocks, the least sum so far. -/
import Derived.Test.YtdepnhnpklbmiaaW3
import Derived.Test.YtdepnhnpklbmiaaE20
namespace Go.Proofs.Ytdepnhnpklbmiaa
open Go.RowKit
set_option linter.unusedSimpArgs false
set_option linter.unusedVariables false
abbrev cB (f v : Int) (b n : Nat) : Blk := ⟨true, true, 24, 1, .cells [.s (.v (.int .i64 f)), .s (.v (.int .i64 v)), .s (.slc b 0 n)]⟩
abbrev qB (f : Int) (b n : Nat) : Blk := ⟨true, true, 64, 1, .cells [.s (.v (.int .i64 f)), .s (.slc b 0 n)]⟩
abbrev nB : Blk := ⟨true, true, 64, 1, .cells [.s (.v (.int .i64 0)), .s (.v (.slice none 0 0))]⟩
theorem val_in {c : Cu} (hc : okC c = true) {k : Nat} (hk : k ≤ c.sl.length) : -1125899906842624 ≤ valK c k ∧ valK c k ≤ 1125899906842624 := okC_val hc hk
/-- the least sum so far -/
structure InI (a b : Cu) (m j i : Nat) (best : Int) (sm : Bool) : Prop where
  no : sm = false → ∀ k, k < i → ¬ (k ≤ j ∧ j ≤ m + k)
  ex : sm = true → ∃ k, k < i ∧ k ≤ j ∧ j ≤ m + k ∧ best = valK a k + valK b (j - k)
  le : sm = true → ∀ k, k < i → k ≤ j → j ≤ m + k → best ≤ valK a k + valK b (j - k)
theorem inI_0 (a b : Cu) (m j : Nat) (z : Int) : InI a b m j 0 z false := ⟨fun _ k h => absurd h (Nat.not_lt_zero k), fun h => (by cases h), fun h => (by cases h)⟩
theorem inI_skip {a b : Cu} {m j i : Nat} {z : Int} {sm : Bool} (h : InI a b m j i z sm) (hk : ¬ (i ≤ j ∧ j ≤ m + i)) : InI a b m j (i + 1) z sm :=
  ⟨fun e k hlt => by
    rcases Nat.lt_succ_iff_lt_or_eq.1 hlt with h1 | rfl
    · exact h.no e k h1
    · exact hk, fun e => by
    obtain ⟨k, h1, h2⟩ := h.ex e
    exact ⟨k, by omega, h2⟩, fun e k hlt h1 h2 => by
    rcases Nat.lt_succ_iff_lt_or_eq.1 hlt with h3 | rfl
    · exact h.le e k h3 h1 h2
    · exact absurd ⟨h1, h2⟩ hk⟩
theorem inI_take {a b : Cu} {m j i : Nat} {z v : Int} {sm : Bool} (h : InI a b m j i z sm) (h1 : i ≤ j) (h2 : j ≤ m + i) (hv : v = valK a i + valK b (j - i)) (hs : sm = false ∨ v < z) : InI a b m j (i + 1) v true :=
  ⟨fun e => (by cases e), fun _ => ⟨i, Nat.lt_succ_self i, h1, h2, hv⟩, fun _ k hlt k1 k2 => by
    rcases Nat.lt_succ_iff_lt_or_eq.1 hlt with h3 | rfl
    · cases sm with
      | false => exact absurd ⟨k1, k2⟩ (h.no rfl k h3)
      | true =>
        have := h.le rfl k h3 k1 k2
        rcases hs with hs | hs
        · cases hs
        · omega
    · omega⟩
theorem inI_keep {a b : Cu} {m j i : Nat} {z v : Int} (h : InI a b m j i z true) (hv : v = valK a i + valK b (j - i)) (hs : ¬ v < z) : InI a b m j (i + 1) z true :=
  ⟨fun e => (by cases e), fun _ => by
    obtain ⟨k, h1, h2⟩ := h.ex rfl
    exact ⟨k, by omega, h2⟩, fun _ k hlt k1 k2 => by
    rcases Nat.lt_succ_iff_lt_or_eq.1 hlt with h3 | rfl
    · exact h.le rfl k h3 k1 k2
    · omega⟩
end Go.Proofs.Ytdepnhnpklbmiaa
