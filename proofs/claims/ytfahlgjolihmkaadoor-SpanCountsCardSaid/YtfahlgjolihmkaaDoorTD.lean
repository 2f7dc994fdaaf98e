/- Parse: what its loop knows of the text. -/
import Derived.Test.YtfahlgjolihmkaaDoorTC
namespace Go.Proofs.YtfahlgjolihmkaaDoor
open Go.RowKit Go.Sort

theorem dec_len : ∀ (k u : Nat), u < 10 ^ (k + 1) → (Lib.decDigits u).length ≤ k + 1
  | 0, u, h => by
    rw [Lib.decDigits, dif_pos (by simpa using h)]
    simp
  | k + 1, u, h => by
    rw [Lib.decDigits]
    split
    · simp
    · have e : 10 ^ (k + 1 + 1) = 10 ^ (k + 1) * 10 := Nat.pow_succ ..
      have := dec_len k (u / 10) (by omega)
      simp only [List.length_append, List.length_cons, List.length_nil]
      omega
theorem itoa_short {n : Int} (h0 : -1099511627776 ≤ n) (h1 : n ≤ 1099511627776) : (Lib.itoa n).length ≤ 14 := by
  unfold Lib.itoa
  split
  · have := dec_len 12 n.natAbs (by omega)
    simp only [List.length_cons]
    omega
  · have := dec_len 12 n.toNat (by omega)
    omega
theorem atoi_back {n : Int} (h0 : -1099511627776 ≤ n) (h1 : n ≤ 1099511627776) : Lib.atoiAll (Lib.itoa n) = .ok n := by
  rw [Lib.atoiAll_short _ (by have := itoa_short h0 h1; omega), atoi_itoa]
  rfl
theorem pSp_word {s : Sp} (h0 : -1099511627776 ≤ s.1) (h1 : s.1 ≤ 1099511627776) (h2 : -1099511627776 ≤ s.2) (h3 : s.2 ≤ 1099511627776) : pSp (wordT s) = some s := by
  have := word_cut s
  refine pSp_ok (by rw [this]) ?_ ?_
  · rw [this]; exact atoi_back h0 h1
  · rw [this]; exact atoi_back h2 h3
theorem set_mid {ys zs : List Sp} {z : Sp} (h : setB (ys ++ z :: zs) = true) : -1099511627776 ≤ z.1 ∧ z.1 < z.2 ∧ z.2 ≤ 1099511627776 := by
  have := set_bounds h (k := ys.length) (by simp)
  simpa [loA, hiA, List.getD_eq_getElem?_getD] using this
theorem pSp_mid {ys zs : List Sp} {z : Sp} (h : setB (ys ++ z :: zs) = true) : pSp (wordT z) = some z := by
  obtain ⟨h0, h1, h2⟩ := set_mid h
  exact pSp_word h0 (by omega) (by omega) h2

/-- the loop of Parse: whatever set has the text l begins with what has been read, and the rest is the text of the others -/
def PInv (l : List UInt8) (ys : List Sp) (rest : List UInt8) (more : Bool) : Prop :=
  ∀ xs, setB xs = true → txtS xs = l → (more = true ∧ ∃ z zs, xs = ys ++ z :: zs ∧ rest = txtL (z :: zs)) ∨ (more = false ∧ xs = ys)
def NoText (l : List UInt8) : Prop := ∀ xs, setB xs = true → txtS xs ≠ l
theorem PInv.start {l : List UInt8} {more : Bool} (hm : more = !decide (l = [45])) : PInv l [] l more := by
  intro xs hs ht
  cases xs with
  | nil =>
    right
    simp only [txtS, if_true] at ht
    subst ht
    exact ⟨by rw [hm]; rfl, rfl⟩
  | cons z zs =>
    left
    have e : txtS (z :: zs) = txtL (z :: zs) := if_neg (by simp)
    rw [e] at ht
    refine ⟨?_, z, zs, rfl, ht.symm⟩
    rw [hm, decide_eq_false (by rw [← ht]; exact txt_minus z zs)]
    rfl
theorem cut_word (z : Sp) (zs : List Sp) : (Lib.cut (txtL (z :: zs)) [32]).1 = wordT z ∧ (zs = [] → (Lib.cut (txtL (z :: zs)) [32]).2.2 = false) ∧ (∀ z' zs', zs = z' :: zs' → (Lib.cut (txtL (z :: zs)) [32]).2 = (txtL zs, true)) := by
  cases zs with
  | nil =>
    rw [txt_last]
    exact ⟨rfl, fun _ => rfl, fun _ _ h => by cases h⟩
  | cons z' zs' =>
    rw [txt_cut]
    exact ⟨rfl, (fun h => by cases h), fun _ _ _ => rfl⟩
theorem PInv.bad {l : List UInt8} {ys : List Sp} {rest : List UInt8} (h : PInv l ys rest true) (hp : pSp (Lib.cut rest [32]).1 = none) : NoText l := by
  intro xs hs ht
  rcases h xs hs ht with ⟨_, z, zs, rfl, rfl⟩ | ⟨hm, _⟩
  · rw [(cut_word z zs).1, pSp_mid hs] at hp
    cases hp
  · cases hm
theorem PInv.step {l : List UInt8} {ys : List Sp} {rest : List UInt8} {z : Sp} (h : PInv l ys rest true) (hp : pSp (Lib.cut rest [32]).1 = some z) : PInv l (ys ++ [z]) (Lib.cut rest [32]).2.1 (Lib.cut rest [32]).2.2 := by
  intro xs hs ht
  rcases h xs hs ht with ⟨_, z', zs, rfl, rfl⟩ | ⟨hm, _⟩
  · rw [(cut_word z' zs).1, pSp_mid hs] at hp
    injection hp with hp
    subst hp
    cases zs with
    | nil => exact .inr ⟨(cut_word z' []).2.1 rfl, by simp⟩
    | cons z2 zs2 =>
      have := (cut_word z' (z2 :: zs2)).2.2 z2 zs2 rfl
      exact .inl ⟨by rw [this], z2, zs2, by simp, by rw [this]⟩
  · cases hm
theorem PInv.fin {l : List UInt8} {ys : List Sp} {rest : List UInt8} {more : Bool} (h : PInv l ys rest more) (hm : more = false ∨ 128 < ys.length) (hb : ¬ (setB ys = true ∧ txtS ys = l)) : NoText l := by
  intro xs hs ht
  rcases h xs hs ht with ⟨h1, z, zs, rfl, _⟩ | ⟨_, rfl⟩
  · rcases hm with h2 | h2
    · rw [h1] at h2; cases h2
    · have := (setB_true hs).1
      simp at this
      omega
  · exact hb ⟨hs, ht⟩
/-- what Parse hands back -/
def ParsePost (l : List UInt8) (w : World) (e : Ending) (w' : World) : Prop :=
  ((∃ xs a c, setB xs = true ∧ txtS xs = l ∧ e = .returned (.tuple #[.slice a xs.length c, .int .i64 0]) ∧ SpansAt w'.heap.size w' a xs.length xs) ∨
    (NoText l ∧ e = .returned (.tuple #[.slice none 0 0, .int .i64 5]))) ∧ Below w.heap.size w w'
end Go.Proofs.YtfahlgjolihmkaaDoor
