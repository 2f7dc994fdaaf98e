/- Texts of sets: cut at the first separator, a word back to its span, the whole text word by word. -/
import Derived.Test.YtfahlgjolihmkaaDoorDG
import Derived.Lib.IndexMore
import Derived.Lib.Join
namespace Go.Proofs.YtfahlgjolihmkaaDoor
open Go.Lib
theorem occ_not {x r t : List UInt8} {c : UInt8} (hx : c ∉ x) {j : Nat} (hj : j < x.length) : occAt (x ++ r) (c :: t) j = false := by
  unfold occAt
  rw [List.drop_append_of_le_length (Nat.le_of_lt hj), List.drop_eq_getElem_cons hj, List.cons_append, List.isPrefixOf]
  have : (c == x[j]) = false := by
    rw [beq_eq_false_iff_ne]
    intro e
    exact hx (e ▸ List.getElem_mem hj)
  rw [this, Bool.false_and]
/-- cut at a separator whose first byte stands nowhere before it -/
theorem cut_first {x r t : List UInt8} {c : UInt8} (hx : c ∉ x) : cut (x ++ ((c :: t) ++ r)) (c :: t) = (x, r, true) := by
  have hi : index (x ++ ((c :: t) ++ r)) (c :: t) = x.length := by
    refine index_first (by simp) ?_ fun j hj => occ_not hx hj
    unfold occAt
    rw [List.drop_left]
    exact List.isPrefixOf_iff_prefix.2 (List.prefix_append _ _)
  unfold cut
  rw [hi, if_pos (by omega), Int.toNat_natCast, List.take_left]
  congr 1
  congr 1
  rw [← List.append_assoc, show x.length + (c :: t).length = (x ++ (c :: t)).length by simp, List.drop_left]
theorem cut_not {x t : List UInt8} {c : UInt8} (hx : c ∉ x) : cut x (c :: t) = (x, [], false) := by
  have hi : index x (c :: t) = -1 := by
    rcases index_spec x (c :: t) with h | ⟨i, h1, h2, h3, _⟩
    · exact h.1
    · exfalso
      rcases Nat.lt_or_ge i x.length with h | h
      · have := occ_not (r := []) (t := t) hx h
        rw [List.append_nil] at this
        rw [this] at h3
        cases h3
      · unfold occAt at h3
        rw [List.drop_eq_nil_of_le h] at h3
        cases h3
  unfold cut
  rw [hi, if_neg (by omega)]
/-- a span's word -/
def wordT (s : Int × Int) : List UInt8 := itoa s.1 ++ ([46, 46] ++ itoa s.2)
def txtL (l : List (Int × Int)) : List UInt8 := join (l.map wordT) [32]
/-- the text of a set -/
def txtS (l : List (Int × Int)) : List UInt8 := if l = [] then [45] else txtL l
theorem itoa_no (n : Int) (c : UInt8) (h1 : c ≠ 45) (h2 : c.toNat < 48 ∨ 57 < c.toNat) : c ∉ itoa n := fun h => by
  rcases itoa_byte n c h with e | e
  · exact h1 e
  · omega
theorem word_cut (s : Int × Int) : cut (wordT s) [46, 46] = (itoa s.1, itoa s.2, true) :=
  cut_first (t := [46]) (itoa_no s.1 46 (by decide) (by decide))
theorem word_no (s : Int × Int) : (32 : UInt8) ∉ wordT s := fun h => by
  unfold wordT at h
  rcases List.mem_append.1 h with h | h
  · exact itoa_no s.1 32 (by decide) (by decide) h
  · rcases List.mem_append.1 h with h | h
    · exact absurd h (by decide)
    · exact itoa_no s.2 32 (by decide) (by decide) h
/-- the first word of a text, and the rest -/
theorem txt_cut (s s' : Int × Int) (l : List (Int × Int)) : cut (txtL (s :: s' :: l)) [32] = (wordT s, txtL (s' :: l), true) := by
  have e : txtL (s :: s' :: l) = wordT s ++ ([32] ++ txtL (s' :: l)) := by
    unfold txtL
    rw [List.map_cons, join_cons, List.map_cons, join_cons]
    simp [joinTail]
  rw [e]
  exact cut_first (t := []) (word_no s)
theorem txt_last (s : Int × Int) : cut (txtL [s]) [32] = (wordT s, [], false) := by
  have e : txtL [s] = wordT s := join_one _ _
  rw [e]
  exact cut_not (word_no s)
/-- no text of spans is the text of none -/
theorem txt_minus (s : Int × Int) (l : List (Int × Int)) : txtL (s :: l) ≠ [45] := fun h => by
  have h2 : (46 : UInt8) ∈ txtL (s :: l) := by
    unfold txtL
    rw [List.map_cons, join_cons]
    refine List.mem_append_left _ ?_
    unfold wordT
    exact List.mem_append_right _ (List.mem_append_left _ (by decide))
  rw [h] at h2
  exact absurd h2 (by decide)
/-- a text is one set's -/
theorem txt_inj : ∀ (l m : List (Int × Int)), l ≠ [] → m ≠ [] → txtL l = txtL m → l = m
  | [], _, h, _, _ => absurd rfl h
  | _, [], _, h, _ => absurd rfl h
  | [s], [t], _, _, h => by
    have h1 := txt_last s
    rw [h, txt_last] at h1
    have h2 := word_cut s
    rw [show wordT s = wordT t from (congrArg (·.1) h1).symm, word_cut] at h2
    have e1 := itoa_inj (congrArg (·.1) h2)
    have e2 := itoa_inj (congrArg (·.2.1) h2)
    rw [show t = s from Prod.ext e1 e2]
  | [s], t :: t' :: m, _, _, h => by
    have h1 := txt_last s
    rw [h, txt_cut] at h1
    have h2 : true = false := congrArg (·.2.2) h1
    cases h2
  | s :: s' :: l, [t], _, _, h => by
    have h1 := txt_last t
    rw [← h, txt_cut] at h1
    have h2 : true = false := congrArg (·.2.2) h1
    cases h2
  | s :: s' :: l, t :: t' :: m, _, _, h => by
    have h1 := txt_cut s s' l
    rw [h, txt_cut] at h1
    have h2 := word_cut s
    rw [show wordT s = wordT t from (congrArg (·.1) h1).symm, word_cut] at h2
    have e1 := itoa_inj (congrArg (·.1) h2)
    have e2 := itoa_inj (congrArg (·.2.1) h2)
    have ih := txt_inj (s' :: l) (t' :: m) (by simp) (by simp) (congrArg (·.2.1) h1).symm
    rw [show t = s from Prod.ext e1 e2, ih]
end Go.Proofs.YtfahlgjolihmkaaDoor
