/- What the specification's Parse knows of its text. -/
import Derived.Test.YtfahlgjolihmkaaDoorTD
import Derived.Test.YtfahlgjolihmkaaDoorTH
namespace Go.Proofs.YtfahlgjolihmkaaDoor
open Go.RowKit Go.Sort

/-- two points stand at j -/
def Dd (p : List UInt8) (j : Nat) : Prop := p[j]? = some 46 ∧ p[j + 1]? = some 46
theorem occ_iff (p : List UInt8) (j : Nat) : Lib.occAt p [46, 46] j = true ↔ Dd p j := by
  unfold Lib.occAt Dd
  have e0 : p[j]? = (p.drop j)[0]? := by simp
  have e1 : p[j + 1]? = (p.drop j)[1]? := by simp
  rw [e0, e1]
  cases p.drop j with
  | nil => simp
  | cons a q =>
    cases q with
    | nil => simp
    | cons b r =>
      simp only [List.isPrefixOf, Bool.and_true, Bool.and_eq_true, beq_iff_eq, List.getElem?_cons_zero, List.getElem?_cons_succ, Option.some.injEq]
      exact ⟨fun h => ⟨h.1.symm, h.2.symm⟩, fun h => ⟨h.1.symm, h.2.symm⟩⟩
theorem cut_dots {p : List UInt8} {d : Nat} (h : Dd p d) (hn : ∀ j, j < d → ¬ Dd p j) : Lib.cut p [46, 46] = (p.take d, p.drop (d + 2), true) := by
  have hi : Lib.index p [46, 46] = d := Lib.index_first (by have := (List.getElem?_eq_some_iff.1 h.1).1; omega) ((occ_iff p d).2 h) fun j hj => by
    rw [← Bool.not_eq_true]
    exact fun e => hn j hj ((occ_iff p j).1 e)
  unfold Lib.cut
  rw [hi, if_pos (by omega), Int.toNat_natCast]
  rfl
theorem cut_nodots {p : List UInt8} (hn : ∀ j, ¬ Dd p j) : (Lib.cut p [46, 46]).2.2 = false := by
  have hi : Lib.index p [46, 46] = -1 := by
    rcases Lib.index_spec p [46, 46] with h | ⟨i, h1, h2, h3, _⟩
    · exact h.1
    · exact absurd ((occ_iff p i).1 h3) (hn i)
  unfold Lib.cut
  rw [hi, if_neg (by omega)]

/-- the loop: what has been read, where the next word begins, how far one has looked -/
structure RInv (l : List UInt8) (ys : List Sp) (fr i : Nat) : Prop where
  a : i ≤ l.length → fr ≤ i ∧ (∀ j, fr ≤ j → j < i → l[j]? ≠ some 32) ∧ ∀ xs, setB xs = true → txtS xs = l → ∃ z zs, xs = ys ++ z :: zs ∧ l.drop fr = txtL (z :: zs)
  b : ¬ i ≤ l.length → ∀ xs, setB xs = true → txtS xs = l → xs = ys
theorem RInv.start {l : List UInt8} (h : l ≠ [45]) : RInv l [] 0 0 := by
  refine ⟨fun _ => ⟨Nat.le_refl _, fun j _ hj => absurd hj (Nat.not_lt_zero _), fun xs hs ht => ?_⟩, fun h => absurd (Nat.zero_le _) h⟩
  cases xs with
  | nil => exact absurd ht.symm h
  | cons z zs => exact ⟨z, zs, rfl, by show l = _; rw [← ht]; exact if_neg (List.cons_ne_nil _ _)⟩
theorem RInv.skip {l : List UInt8} {ys : List Sp} {fr i : Nat} (h : RInv l ys fr i) (hi : i < l.length) (hb : l[i]? ≠ some 32) : RInv l ys fr (i + 1) := by
  obtain ⟨h1, h2, h3⟩ := h.a (by omega)
  refine ⟨fun _ => ⟨by omega, fun j h4 h5 => ?_, h3⟩, fun h => absurd (by omega) h⟩
  by_cases e : j = i
  · subst e; exact hb
  · exact h2 j h4 (by omega)
theorem no_blank {l : List UInt8} {fr i : Nat} (h2 : ∀ j, fr ≤ j → j < i → l[j]? ≠ some 32) : (32 : UInt8) ∉ (l.drop fr).take (i - fr) := by
  intro hm
  obtain ⟨k, hk, e⟩ := List.getElem_of_mem hm
  simp only [List.length_take, List.length_drop] at hk
  refine h2 (fr + k) (by omega) (by omega) ?_
  rw [← e, List.getElem_take, List.getElem_drop]
  exact List.getElem?_eq_getElem (by omega)
theorem RInv.word {l : List UInt8} {ys : List Sp} {fr i : Nat} (h : RInv l ys fr i) (hi : i ≤ l.length) (hb : i < l.length → l[i]? = some 32) :
    ∀ xs, setB xs = true → txtS xs = l → ∃ z zs, xs = ys ++ z :: zs ∧ (l.drop fr).take (i - fr) = wordT z ∧ (i = l.length → zs = []) ∧ (i < l.length → zs ≠ [] ∧ l.drop (i + 1) = txtL zs) := by
  intro xs hs ht
  obtain ⟨h1, h2, h3⟩ := h.a hi
  obtain ⟨z, zs, hx, hd⟩ := h3 xs hs ht
  obtain ⟨c1, c2, c3⟩ := cut_word z zs
  rw [← hd] at c1 c2 c3
  refine ⟨z, zs, hx, ?_⟩
  rcases Nat.lt_or_eq_of_le hi with hlt | heq
  · have e : l.drop fr = (l.drop fr).take (i - fr) ++ (32 :: [] ++ l.drop (i + 1)) := by
      conv => lhs; rw [← List.take_append_drop (i - fr) (l.drop fr)]
      rw [List.drop_drop, show fr + (i - fr) = i by omega, List.drop_eq_getElem_cons hlt]
      have := hb hlt
      rw [List.getElem?_eq_getElem hlt] at this
      rw [Option.some.inj this]
      rfl
    have hc := cut_first (t := []) (r := l.drop (i + 1)) (no_blank h2)
    rw [← e] at hc
    have hne : zs ≠ [] := fun e0 => by
      have := c2 e0
      rw [hc] at this
      cases this
    obtain ⟨z', zs', e0⟩ := List.exists_cons_of_ne_nil hne
    have h5 := c3 z' zs' e0
    rw [hc] at h5 c1
    refine ⟨c1, fun e => by omega, fun _ => ⟨hne, ?_⟩⟩
    exact congrArg (·.1) h5
  · have hf : (l.drop fr).take (i - fr) = l.drop fr := List.take_of_length_le (by simp; omega)
    have hc := cut_not (t := []) (no_blank h2)
    rw [hf] at hc ⊢
    rw [hc] at c1 c3
    refine ⟨c1, fun _ => ?_, fun e => by omega⟩
    cases zs with
    | nil => rfl
    | cons z' zs' =>
      have := congrArg (·.2) (c3 z' zs' rfl)
      cases this
theorem RInv.nodots {l : List UInt8} {ys : List Sp} {fr i : Nat} (h : RInv l ys fr i) (hi : i ≤ l.length) (hb : i < l.length → l[i]? = some 32) (hn : ∀ j, ¬ Dd ((l.drop fr).take (i - fr)) j) : NoText l := by
  intro xs hs ht
  obtain ⟨z, zs, -, hw, -, -⟩ := h.word hi hb xs hs ht
  have := cut_nodots hn
  rw [hw, word_cut] at this
  cases this
theorem RInv.full {l : List UInt8} {ys : List Sp} {fr i : Nat} (h : RInv l ys fr i) (hi : i ≤ l.length) (hy : 128 ≤ ys.length) : NoText l := by
  intro xs hs ht
  obtain ⟨-, -, h3⟩ := h.a hi
  obtain ⟨z, zs, rfl, -⟩ := h3 xs hs ht
  have := (setB_true hs).1
  simp at this
  omega
theorem RInv.nums {l : List UInt8} {ys : List Sp} {fr i d : Nat} (h : RInv l ys fr i) (hi : i ≤ l.length) (hb : i < l.length → l[i]? = some 32)
    (hd : Dd ((l.drop fr).take (i - fr)) d) (hn : ∀ j, j < d → ¬ Dd ((l.drop fr).take (i - fr)) j) {lo hi' : Int} {is has : Bool}
    (h1 : NumPost (((l.drop fr).take (i - fr)).take d) lo is) (h2 : NumPost (((l.drop fr).take (i - fr)).drop (d + 2)) hi' has) :
    ∀ xs, setB xs = true → txtS xs = l → is = true ∧ has = true ∧ ∃ zs, xs = ys ++ (lo, hi') :: zs ∧ (i = l.length → zs = []) ∧ (i < l.length → zs ≠ [] ∧ l.drop (i + 1) = txtL zs) := by
  intro xs hs ht
  obtain ⟨z, zs, hx, hw, ha, hb'⟩ := h.word hi hb xs hs ht
  have hc := cut_dots hd hn
  rw [hw, word_cut] at hc
  have e1 : Lib.itoa z.1 = (wordT z).take d := congrArg (·.1) hc
  have e2 : Lib.itoa z.2 = (wordT z).drop (d + 2) := congrArg (·.2.1) hc
  rw [hw] at h1 h2
  have hz := set_mid (zs := zs) (by rw [← hx]; exact hs)
  obtain ⟨rfl, rfl⟩ := h1.2.1 z.1 (by have := itoa_short (n := z.1) (by omega) (by omega); omega) e1
  obtain ⟨rfl, rfl⟩ := h2.2.1 z.2 (by have := itoa_short (n := z.2) (by omega) (by omega); omega) e2
  exact ⟨rfl, rfl, zs, hx, ha, hb'⟩
theorem RInv.step {l : List UInt8} {ys : List Sp} {fr i : Nat} {x : Sp} (hi : i ≤ l.length)
    (h : ∀ xs, setB xs = true → txtS xs = l → ∃ zs, xs = ys ++ x :: zs ∧ (i = l.length → zs = []) ∧ (i < l.length → zs ≠ [] ∧ l.drop (i + 1) = txtL zs)) : RInv l (ys ++ [x]) (i + 1) (i + 1) := by
  refine ⟨fun h2 => ⟨Nat.le_refl _, fun j h3 h4 => absurd h4 (by omega), fun xs hs ht => ?_⟩, fun h2 xs hs ht => ?_⟩
  · obtain ⟨zs, hx, -, hz⟩ := h xs hs ht
    obtain ⟨hne, hd⟩ := hz (by omega)
    obtain ⟨z', zs', rfl⟩ := List.exists_cons_of_ne_nil hne
    exact ⟨z', zs', by rw [hx]; simp, hd⟩
  · obtain ⟨zs, hx, hz, -⟩ := h xs hs ht
    rw [hx, hz (by omega)]
theorem RInv.fin {l : List UInt8} {ys : List Sp} {fr i : Nat} (h : RInv l ys fr i) (hi : ¬ i ≤ l.length) (hb : ¬ (setB ys = true ∧ txtS ys = l)) : NoText l := by
  intro xs hs ht
  obtain rfl := h.b hi xs hs ht
  exact hb ⟨hs, ht⟩
end Go.Proofs.YtfahlgjolihmkaaDoor
