/- What Number's loop knows of its text. -/
import Derived.Test.YtfahlgjolihmkaaDoorDT
namespace Go.Proofs.YtfahlgjolihmkaaDoor
open Go.Lib

def negL (l : List UInt8) : Bool := l.head? == some 45
def bodyL (l : List UInt8) : List UInt8 := if negL l then l.tail else l
def jL (l : List UInt8) (i : Nat) : Nat := if negL l then i - 1 else i
structure NInv (l : List UInt8) (i : Nat) (v sg : Int) : Prop where
  zero : i = 0 → v = 0 ∧ sg = 1
  pos : 0 < i → sg = (if negL l then -1 else 1) ∧ decFrom 0 ((bodyL l).take (jL l i)) = some v.toNat
  ge : 0 ≤ v
  lt : v < ((10 ^ i : Nat) : Int)
theorem NInv.start (l : List UInt8) : NInv l 0 0 1 := ⟨fun _ => ⟨rfl, rfl⟩, fun h => absurd h (by decide), by decide, by decide⟩
theorem negL_of {l : List UInt8} {b : UInt8} (h : l[0]? = some b) : negL l = (b == 45) := by
  cases l with
  | nil => cases h
  | cons a l =>
    simp at h
    subst h
    rfl
theorem NInv.minus {l : List UInt8} {v sg : Int} (h : NInv l 0 v sg) (hl : l[0]? = some 45) : NInv l 1 v (-1) := by
  obtain ⟨rfl, rfl⟩ := h.zero rfl
  have hn : negL l = true := by rw [negL_of hl]; rfl
  refine ⟨fun h => (by cases h), fun _ => ⟨by rw [if_pos hn], ?_⟩, by decide, by decide⟩
  unfold jL
  rw [if_pos hn]
  rfl
theorem byte_digit {b : UInt8} (h0 : 48 ≤ b.toNat) (h1 : b.toNat ≤ 57) : digitVal b = some (b.toNat - 48) := by
  have := dig_byte (d := b.toNat - 48) (by omega)
  rw [show 48 + (b.toNat - 48) = b.toNat by omega, UInt8.ofNat_toNat] at this
  exact this
theorem NInv.digit {l : List UInt8} {i : Nat} {v sg : Int} {b : UInt8} (h : NInv l i v sg) (hb : l[i]? = some b) (h0 : 48 ≤ b.toNat) (h1 : b.toNat ≤ 57) : NInv l (i + 1) (10 * v + ((b.toNat : Int) - 48)) sg := by
  have hp : (10 : Nat) ^ (i + 1) = 10 ^ i * 10 := Nat.pow_succ ..
  have hge := h.ge
  have hlt := h.lt
  refine ⟨fun e => (by cases e), fun _ => ?_, by omega, by rw [hp]; omega⟩
  have key : decFrom 0 ((bodyL l).take (jL l i)) = some v.toNat ∧ (bodyL l)[jL l i]? = some b ∧ sg = (if negL l then -1 else 1) ∧ jL l (i + 1) = jL l i + 1 := by
    rcases Nat.eq_zero_or_pos i with rfl | hi
    · obtain ⟨rfl, rfl⟩ := h.zero rfl
      have hn : negL l = false := by
        rw [negL_of hb, beq_eq_false_iff_ne]
        intro e
        subst e
        exact absurd h0 (by decide)
      unfold bodyL jL
      rw [hn]
      exact ⟨rfl, hb, rfl, rfl⟩
    · obtain ⟨h3, h4⟩ := h.pos hi
      refine ⟨h4, ?_, h3, ?_⟩
      · unfold bodyL jL
        cases hn : negL l
        · simpa using hb
        · simp only [if_true]
          rw [List.getElem?_tail, show i - 1 + 1 = i by omega]
          exact hb
      · unfold jL
        split <;> omega
  obtain ⟨k1, k2, k3, k4⟩ := key
  refine ⟨k3, ?_⟩
  rw [k4, List.take_add_one, k2, Option.toList_some, decFrom_snoc _ _ _ _ _ k1 (byte_digit h0 h1)]
  congr 1
  omega
theorem itoa_at {m : Int} {i : Nat} {b : UInt8} (h : (itoa m)[i]? = some b) : (48 ≤ b.toNat ∧ b.toNat ≤ 57) ∨ (i = 0 ∧ b = 45) := by
  unfold itoa at h
  split at h
  · cases i with
    | zero => simp at h; exact .inr ⟨rfl, h.symm⟩
    | succ i => exact .inl (dec_digit _ b (List.mem_of_getElem? (by simpa using h)))
  · exact .inl (dec_digit _ b (List.mem_of_getElem? h))
theorem no_num {l : List UInt8} {i : Nat} {b : UInt8} (hb : l[i]? = some b) (h : b.toNat < 48 ∨ 57 < b.toNat) (h0 : i = 0 → b ≠ 45) (m : Int) : itoa m ≠ l := by
  intro e
  subst e
  rcases itoa_at hb with h1 | ⟨h1, h2⟩
  · omega
  · exact h0 h1 h2
theorem NInv.fin {l : List UInt8} {v sg : Int} (h : NInv l l.length v sg) (m : Int) (e : itoa m = l) : sg * v = m := by
  have hne : 0 < l.length := List.length_pos_iff.2 (e ▸ itoa_some m)
  obtain ⟨h1, h2⟩ := h.pos hne
  have hge := h.ge
  by_cases hm : m < 0
  · have el : l = 45 :: decDigits m.natAbs := by rw [← e]; exact if_pos hm
    have hn : negL l = true := by rw [el]; rfl
    rw [if_pos hn] at h1
    unfold bodyL jL at h2
    rw [if_pos hn, if_pos hn, el] at h2
    simp only [List.tail_cons, List.length_cons, Nat.add_sub_cancel, List.take_length] at h2
    rw [decFrom_dec] at h2
    injection h2 with h2
    rw [h1]
    omega
  · have el : l = decDigits m.toNat := by rw [← e]; exact if_neg hm
    have hn : negL l = false := by
      rw [el]
      cases hd : decDigits m.toNat with
      | nil => rfl
      | cons b r =>
        have := (dec_digit m.toNat b (by rw [hd]; exact List.mem_cons_self)).1
        show (some b == some 45) = false
        rw [beq_eq_false_iff_ne]
        intro e
        injection e with e
        subst e
        exact absurd this (by decide)
    rw [hn] at h1
    unfold bodyL jL at h2
    simp only [hn, Bool.false_eq_true, if_false, List.take_length] at h2
    rw [el, decFrom_dec] at h2
    injection h2 with h2
    rw [h1]
    simp
    omega
end Go.Proofs.YtfahlgjolihmkaaDoor
