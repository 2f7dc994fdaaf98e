/- The mathematics of Fenchel's duality: the price that Meet returns. -/
import Derived.Test.YtdepnhnpklbmiaaB28
namespace Go.Proofs.Ytdepnhnpklbmiaa
open Go.RowKit Go.Sort

/-- the price of a meeting -/
def meetP (a b : Cu) (i j : Nat) : Int := max (befV a i) (-(aftV b j))
theorem befV_range {c : Cu} (h : okC c = true) {k : Nat} (hk : k ≤ c.sl.length) : -1048576 ≤ befV c k ∧ befV c k ≤ 1048576 := by
  unfold befV
  split
  · omega
  · exact okC_sl h (by omega)
theorem aftV_range {c : Cu} (h : okC c = true) {k : Nat} (hk : k ≤ c.sl.length) : -1048576 ≤ aftV c k ∧ aftV c k ≤ 1048576 := by
  unfold aftV
  split
  · omega
  · exact okC_sl h (by omega)

section
variable {a b : Cu} {i j : Nat}
theorem meetP_range (h : MeetOk a b i j) : -1048576 ≤ meetP a b i j ∧ meetP a b i j ≤ 1048576 := by
  have h1 := befV_range h.oa h.la
  have h2 := aftV_range h.ob h.lb
  unfold meetP
  omega
theorem meet_alow (h : MeetOk a b i j) : ∀ t, t < i → iA a.sl t ≤ meetP a b i j := fun t ht => by
  have h1 := asc_mono (ok_asc h.oa) (i := t) (j := i - 1) (by omega) (by have := h.la; omega)
  have h2 : befV a i = iA a.sl (i - 1) := if_neg (by omega)
  unfold meetP
  omega
theorem meet_ahigh (h : MeetOk a b i j) : ∀ t, i ≤ t → t < a.sl.length → meetP a b i j ≤ iA a.sl t := fun t ht htl => by
  have h0 := okC_sl h.oa htl
  have hb : befV a i ≤ iA a.sl t := by
    unfold befV
    split
    · omega
    · exact asc_mono (ok_asc h.oa) (by omega) htl
  have ha : -(aftV b j) ≤ iA a.sl t := by
    unfold aftV
    split
    · omega
    · rename_i hj
      have hit := asc_mono (ok_asc h.oa) ht htl
      rcases h.high with h1 | h1 | h1
      · omega
      · exact absurd h1 hj
      · omega
  unfold meetP
  omega
theorem meet_blow (h : MeetOk a b i j) : ∀ t, t < j → iA b.sl t ≤ -(meetP a b i j) := fun t ht => by
  have htl : t < b.sl.length := by have := h.lb; omega
  have h0 := okC_sl h.ob htl
  have hm := asc_mono (ok_asc h.ob) (i := t) (j := j - 1) (by omega) (by have := h.lb; omega)
  have hb : befV a i ≤ -(iA b.sl t) := by
    unfold befV
    split
    · omega
    · rename_i hi
      rcases h.low with h1 | h1 | h1
      · exact absurd h1 hi
      · omega
      · omega
  have ha : -(aftV b j) ≤ -(iA b.sl t) := by
    unfold aftV
    split
    · omega
    · have := asc_mono (ok_asc h.ob) (i := t) (j := j) (by omega) (by have := h.lb; omega)
      omega
  unfold meetP
  omega
theorem meet_bhigh (h : MeetOk a b i j) : ∀ t, j ≤ t → t < b.sl.length → -(meetP a b i j) ≤ iA b.sl t := fun t ht htl => by
  have hm := asc_mono (ok_asc h.ob) ht htl
  have ha : aftV b j = iA b.sl j := if_neg (by omega)
  unfold meetP
  omega
/-- the price certifies the sum -/
theorem meet_a (h : MeetOk a b i j) : meetP a b i j * (a.fr + i) - valK a i = gre a (meetP a b i j) := gre_eq _ h.la (meet_alow h) (meet_ahigh h)
theorem meet_b (h : MeetOk a b i j) : -(meetP a b i j) * (b.fr + j) - valK b j = gre b (-(meetP a b i j)) := gre_eq _ h.lb (meet_blow h) (meet_bhigh h)
theorem meet_sum (h : MeetOk a b i j) : gre a (meetP a b i j) + gre b (-(meetP a b i j)) = -(valK a i + valK b j) := by
  have h1 := meet_a h
  have h2 := meet_b h
  rw [← h.at_, Int.neg_mul] at h2
  omega
/-- at every price the sum of the greatest is no less -/
theorem weak (q : Int) {k l : Nat} (hk : k ≤ a.sl.length) (hl : l ≤ b.sl.length) (hkl : a.fr + (k : Int) = b.fr + l) : -(gre a q + gre b (-q)) ≤ valK a k + valK b l := by
  have h1 := gre_ge a q hk
  have h2 := gre_ge b (-q) hl
  rw [← hkl, Int.neg_mul] at h2
  omega
/-- no less anywhere, and more before -/
theorem meet_least (h : MeetOk a b i j) {k l : Nat} (hk : k ≤ a.sl.length) (hl : l ≤ b.sl.length) (hkl : a.fr + (k : Int) = b.fr + l) : valK a i + valK b j ≤ valK a k + valK b l ∧ (valK a k + valK b l = valK a i + valK b j → i ≤ k) := by
  have h0 := weak (meetP a b i j) hk hl hkl
  have hs := meet_sum h
  refine ⟨by omega, fun he => ?_⟩
  rcases Nat.lt_or_ge k i with hki | hki
  · exfalso
    have hat := h.at_
    have hlj : l < j := by omega
    have h1 := gre_ge a (meetP a b i j) hk
    have h2 := gre_ge b (-(meetP a b i j)) hl
    have h3 : meetP a b i j * (a.fr + k) - valK a k = gre a (meetP a b i j) := by
      rw [← hkl, Int.neg_mul] at h2
      omega
    have h4 : -(meetP a b i j) * (b.fr + l) - valK b l = gre b (-(meetP a b i j)) := by
      rw [← hkl, Int.neg_mul] at h2 ⊢
      omega
    have t1 : meetP a b i j ≤ iA a.sl (i - 1) := by
      rcases Int.lt_or_le (iA a.sl (i - 1)) (meetP a b i j) with h5 | h5
      · have := gre_lt (c := a) (meetP a b i j) hk ⟨i - 1, .inr ⟨by omega, by have := h.la; omega, h5⟩⟩
        omega
      · exact h5
    have t2 : -(meetP a b i j) ≤ iA b.sl (j - 1) := by
      rcases Int.lt_or_le (iA b.sl (j - 1)) (-(meetP a b i j)) with h5 | h5
      · have := gre_lt (c := b) (-(meetP a b i j)) hl ⟨j - 1, .inr ⟨by omega, by have := h.lb; omega, h5⟩⟩
        omega
      · exact h5
    rcases h.low with h5 | h5 | h5 <;> omega
  · exact hki
/-- no smaller price will do -/
theorem meet_small (h : MeetOk a b i j) (hp : -1048576 < meetP a b i j) : (meetP a b i j - 1) * (a.fr + i) - valK a i < gre a (meetP a b i j - 1) ∨ (1 - meetP a b i j) * (b.fr + j) - valK b j < gre b (1 - meetP a b i j) := by
  have hm : meetP a b i j = befV a i ∨ meetP a b i j = -(aftV b j) := by unfold meetP; omega
  rcases hm with hm | hm
  · left
    have hi : i ≠ 0 := fun h0 => by
      have : befV a i = -1048576 := if_pos h0
      omega
    have hb : befV a i = iA a.sl (i - 1) := if_neg hi
    exact gre_lt _ h.la ⟨i - 1, .inl ⟨by omega, by omega⟩⟩
  · right
    have hj : j ≠ b.sl.length := fun h0 => by
      have : aftV b j = 1048576 := if_pos h0
      omega
    have hb : aftV b j = iA b.sl j := if_neg hj
    exact gre_lt _ h.lb ⟨j, .inr ⟨Nat.le_refl _, by have := h.lb; omega, by omega⟩⟩
end
/-- how great the greatest can be -/
theorem gre_range {c : Cu} (h : okC c = true) {p : Int} (hp : -1073741824 ≤ p ∧ p ≤ 1073741824) : -4503599627370496 ≤ gre c p ∧ gre c p ≤ 4503599627370496 := by
  have h1 := gre_clim (ok_asc h) p
  have h2 := okC_val h (climK_le c p)
  have h3 := okC_fr h
  have h4 := climK_le c p
  have h5 := okC_len h
  have h6 := mul_bound (a := p) (b := c.fr + climK c p) (M := 1073741824) (N := 2097152) (by omega) (by omega)
  omega
end Go.Proofs.Ytdepnhnpklbmiaa
