/- ProofGrows. -/
import Derived.Test.YtbinmkigolkhcaaDoorLA
import Derived.Test.YtbinmkigolkhcaaDoorHU
import Derived.Test.YtbinmkigolkhcaaDoorHR
set_option linter.unusedSimpArgs false
set_option linter.unusedVariables false
namespace Go.Proofs.YtbinmkigolkhcaaDoor
open Go.RowKit Go.Sort
attribute [local go_sem] Oper.semAt_some

/-- the entries of a log behind the Adds of the first i entries of a list -/
def logN (ls0 es : List (List UInt8)) : Nat → List (List UInt8)
  | 0 => ls0
  | i + 1 => (addV (logN ls0 es i) (es.getD i [])).2
theorem addV_more (ls : List (List UInt8)) (l : List UInt8) : ∃ m, (addV ls l).2 = ls ++ m ∧ m.length ≤ 1 ∧ (∀ x ∈ m, x.length ≤ 256) := by
  unfold addV
  split
  · exact ⟨[], by simp, by simp, fun x hx => by simp at hx⟩
  · split
    · exact ⟨[], by simp, by simp, fun x hx => by simp at hx⟩
    · exact ⟨[l], rfl, by simp, fun x hx => by simp at hx; rw [hx]; omega⟩
theorem logN_more (ls0 es : List (List UInt8)) : ∀ i, ∃ m, logN ls0 es i = ls0 ++ m ∧ m.length ≤ i ∧ (∀ x ∈ m, x.length ≤ 256)
  | 0 => ⟨[], by simp [logN], by simp, fun x hx => by simp at hx⟩
  | i + 1 => by
    obtain ⟨m, h1, h2, h3⟩ := logN_more ls0 es i
    obtain ⟨m2, k1, k2, k3⟩ := addV_more (logN ls0 es i) (es.getD i [])
    refine ⟨m ++ m2, by rw [logN, k1, h1, List.append_assoc], by rw [List.length_append]; omega, fun x hx => ?_⟩
    rcases List.mem_append.1 hx with h | h
    · exact h3 x h
    · exact k3 x h
theorem lex_taken {ls : List (List UInt8)} {m : Nat} (h1 : 1 ≤ m) (h2 : m ≤ ls.length) : lextV ls m ls.length = (growthV ls m true, 0) := by
  unfold lextV
  rw [if_neg (by omega), if_neg (by omega), Int.toNat_natCast, Int.toNat_natCast, List.take_of_length_le (Nat.le_refl _)]
theorem ext_root {ls : List (List UInt8)} {m r : Nat} (h1 : 1 ≤ m) (h2 : m ≤ ls.length) (hn : ls.length ≤ 4096) (hr : r ≠ rootV ls) : extendedV m ls.length (rootV (ls.take m)) r (growthV ls m true) = (false, 0) := by
  unfold extendedV
  rw [if_neg (by omega), Int.toNat_natCast, Int.toNat_natCast, ext_of (two_growth ls.length ls m true (rootV (ls.take m)) (Nat.le_refl _) h1 h2 (fun _ => rfl))]
  have : decide (rootV ls = r) = false := decide_eq_false (fun e => hr e.symm)
  simp [this]
theorem ext_more {ls : List (List UInt8)} {m r x : Nat} (h1 : 1 ≤ m) (h2 : m ≤ ls.length) (hn : ls.length ≤ 4096) : extendedV m ls.length (rootV (ls.take m)) r (growthV ls m true ++ [x]) = (false, 0) := by
  unfold extendedV
  rw [if_neg (by omega), Int.toNat_natCast, Int.toNat_natCast]
  have e1 := two_fit ls.length m ls.length true (rootV (ls.take m)) (growthV ls m true) (Nat.le_refl _) h1 h2
  rw [two_growth ls.length ls m true (rootV (ls.take m)) (Nat.le_refl _) h1 h2 (fun _ => rfl)] at e1
  have e2 : (growthV ls m true).length = cntV m ls.length true := of_decide_eq_true e1.symm
  have e3 := two_fit ls.length m ls.length true (rootV (ls.take m)) (growthV ls m true ++ [x]) (Nat.le_refl _) h1 h2
  rw [decide_eq_false (by rw [List.length_append, List.length_singleton]; omega)] at e3
  unfold extB
  rw [e3]
  rfl
theorem flip_val (bit : Nat) : ∃ v : Nat, IntKind.u64.wrap (2 ^ (bit % 64) : Int) = (v : Int) ∧ 0 < v ∧ v < 18446744073709551616 := by
  have h1 : bit % 64 < 64 := Nat.mod_lt _ (by decide)
  have h2 : (2 : Nat) ^ (bit % 64) < 2 ^ 64 := Nat.pow_lt_pow_right (by decide) h1
  have h3 : (2 : Nat) ^ 64 = 18446744073709551616 := by decide
  have h4 : (2 : Int) ^ (bit % 64) = ((2 ^ (bit % 64) : Nat) : Int) := by simp
  have h5 : 0 < (2 : Nat) ^ (bit % 64) := Nat.two_pow_pos _
  obtain ⟨v, hv⟩ : ∃ v, (2 : Nat) ^ (bit % 64) = v := ⟨_, rfl⟩
  rw [hv] at h2 h4 h5
  refine ⟨v, ?_, h5, by omega⟩
  rw [h4, IntKind.wrap_u64]
  omega
theorem xor_ne {a v : Nat} (h : 0 < v) : a ^^^ v ≠ a := by
  intro e
  have : a ^^^ (a ^^^ v) = a ^^^ a := by rw [e]
  rw [← Nat.xor_assoc, Nat.xor_self, Nat.zero_xor] at this
  omega
/-- all the Adds of a list -/
def LogInv (p : Nat) (w wr : World) (ls : List (List UInt8)) : Prop := GoodLog p wr p ls ∧ Below p w wr ∧ p + 1 ≤ wr.heap.size
theorem LogInv.later {p : Nat} {w wr w' : World} {ls : List (List UInt8)} (h : LogInv p w wr ls) (hb : Below wr.heap.size wr w') : LogInv p w w' ls :=
  ⟨h.1.stays hb, h.2.1.trans (hb.mono (by have := h.2.2; omega)), Nat.le_trans h.2.2 hb.size⟩
theorem LogInv.step {p : Nat} {w wr : World} {ls : List (List UInt8)} (h : LogInv p w wr ls) (hl : ls.length ≤ 4096) (hE : Env w) (hp : w.heap.size = p) {A : Option Addr} {n c : Nat} {l : List UInt8} (hx : BytesAt p w A n l) :
    Calls Tryd.prog 44 #[.pointer (some ⟨p, 0, none⟩), .slice A n c] wr fun e w' => (∃ v, e = .returned v) ∧ LogInv p w w' (addV ls l).2 := by
  obtain ⟨h1, h2, h3⟩ := h
  have hEr : Env wr := hE.after (by rw [hp]; exact h2)
  have hxr : BytesAt wr.heap.size wr A n l := (hx.below h2).mono (by omega)
  refine (Add_good p wr wr p ls h1 (Below.refl _ _) hl A n c l hxr (fun h0 a ha => .inl ?_) (by rw [← hp]; exact hE.1) (by omega) hEr.2).mono ?_
  · rcases hx.2 with h4 | ⟨b, off, e, hb, _⟩
    · omega
    · rw [ha] at e
      injection e with e
      rw [e]
      exact hb
  · rintro e w' ⟨rfl, hb, hg, hs⟩
    exact ⟨⟨_, rfl⟩, hg, h2.trans hb, by omega⟩
end Go.Proofs.YtbinmkigolkhcaaDoor
