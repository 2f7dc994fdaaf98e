/- The mathematics of the best division: its price certifies it, and it is the lexicographically first. -/
import Derived.Test.YtdepnhnpklbmiaaQ2
import Derived.Test.YtdepnhnpklbmiaaB25
namespace Go.Proofs.Ytdepnhnpklbmiaa
open Go.RowKit Go.Sort

/-- what is left to divide is not negative -/
theorem leftV_pos (cs : Nat → Cu) (n : Nat) (total : Int) (hok : ∀ j, j < n → okC (cs j) = true) (h0 : splitLo cs n ≤ total) (h1 : total ≤ sumTo (fun i => (cs i).fr + ((cs i).sl.length : Int)) n) : 0 ≤ leftV cs n total := by
  have hd := divided cs n total hok h0 h1
  have hsum := hd.sum
  obtain ⟨p, hp⟩ : ∃ p, priceV cs n total = p := ⟨_, rfl⟩
  -- each climb ends no later than the share
  have hasc : ∀ j, j < n → ascTo (cs j).sl (cs j).sl.length := fun j hj => (okC_true (hok j hj)).2.2.2.1
  have hle : ∀ j, j < n → (climK (cs j) (priceV cs n total) : Int) ≤ kV cs n total j := fun j hj => by
    have h2 : climK (cs j) (priceV cs n total) ≤ kV cs n total j := by
      rw [climK_cnt (hasc j hj)]
      exact cnt_le _ _ _ fun i hi hil => hd.high j hj i hi hil
    omega
  have h2 := sumTo_le n hle
  rw [hsum] at h2
  unfold leftV
  rw [sumTo_add]
  unfold splitLo at h0 h2
  omega
/-- who took more than the climb left nothing to those behind -/
theorem split_full (cs : Nat → Cu) (n : Nat) (total : Int) (hok : ∀ j, j < n → okC (cs j) = true) (h0 : splitLo cs n ≤ total) (h1 : total ≤ sumTo (fun i => (cs i).fr + ((cs i).sl.length : Int)) n) {i j : Nat} (hij : i < j) (hj : j < n)
    (hlt : climK (cs i) (priceV cs n total) < kV cs n total i) : cnt (priceV cs n total + 1) (cs j).sl ≤ kV cs n total j := by
  have hl0 := leftV_pos cs n total hok h0 h1
  obtain ⟨p, hp⟩ : ∃ p, priceV cs n total = p := ⟨_, rfl⟩
  obtain ⟨l0, hl⟩ : ∃ l, leftV cs n total = l := ⟨_, rfl⟩
  unfold kV at hlt ⊢
  rw [hp, hl] at hlt ⊢
  rw [hl] at hl0
  have gi := kD_given cs p n l0 hl0 i
  have gj := kD_given cs p n l0 hl0 j
  have h2 : 0 < leftD cs p n l0 (n - 1 - i) := by
    have a1 := gi.left
    have a2 := gi.pos
    dsimp only at a1 a2
    omega
  have h3 := leftD_mono cs p n l0 hl0 (n - 1 - j + 1) (j - i - 1)
  rw [show n - 1 - j + 1 + (j - i - 1) = n - 1 - i by omega] at h3
  have h4 : leftD cs p n l0 (n - 1 - j + 1) = (give (cs (n - 1 - (n - 1 - j))) p (climK (cs (n - 1 - (n - 1 - j))) p) (leftD cs p n l0 (n - 1 - j))).2 := rfl
  rw [show n - 1 - (n - 1 - j) = j by omega] at h4
  have hasc := (okC_true (hok j hj)).2.2.2.1
  refine cnt_le _ _ _ fun t ht htl => ?_
  rcases gj.stop with h | h | h
  · dsimp only at h
    omega
  · have h : kD cs p n l0 j = _ := h
    omega
  · have h : iA (cs j).sl (kD cs p n l0 j) ≠ p := h
    have h5 := climK_ge hasc (p := p) (j := kD cs p n l0 j) gj.ge (by omega)
    have h6 := asc_mono hasc ht htl
    omega
/-- a choice that is best at a price lies between the counts -/
theorem gre_tight {c : Cu} (_hc : okC c = true) {p : Int} {k : Nat} (hk : k ≤ c.sl.length) (h : p * (c.fr + k) - valK c k = gre c p) : cnt p c.sl ≤ k ∧ k ≤ cnt (p + 1) c.sl := by
  have hno : ¬ ∃ j, (j < k ∧ p < iA c.sl j) ∨ (k ≤ j ∧ j < c.sl.length ∧ iA c.sl j < p) := fun h2 => by
    have := gre_lt p hk h2
    omega
  refine ⟨cnt_le _ _ _ fun j h1 h2 => ?_, cnt_ge _ _ _ hk fun j hj => ?_⟩
  · rcases Int.lt_or_le (iA c.sl j) p with h3 | h3
    · exact absurd ⟨j, .inr ⟨h1, h2, h3⟩⟩ hno
    · exact h3
  · rcases Int.lt_or_le p (iA c.sl j) with h3 | h3
    · exact absurd ⟨j, .inl ⟨hj, h3⟩⟩ hno
    · omega
theorem sumTo_split {f g : Nat → Int} : ∀ n, (∀ j, j < n → f j ≤ g j) → ∀ i, i < n → f i < g i → sumTo f n < sumTo g n
  | 0, _, i, hi, _ => absurd hi (Nat.not_lt_zero _)
  | n + 1, h, i, hi, hl => by
    have h1 := h n (by omega)
    unfold sumTo
    rcases Nat.lt_or_ge i n with h2 | h2
    · have := sumTo_split n (fun j hj => h j (by omega)) i h2 hl
      omega
    · obtain rfl : i = n := by omega
      have := sumTo_le i fun j hj => h j (by omega)
      omega
/-- all that the law asks -/
structure BestM (cs : Nat → Cu) (n : Nat) (total : Int) (p v : Int) (X : List Int) : Prop where
  pos : 0 < n
  le8 : n ≤ 8
  ok : ∀ j, j < n → okC (cs j) = true
  len : X.length = n
  price : -1048576 ≤ p ∧ p ≤ 1048576
  tot : -1073741824 ≤ total ∧ total ≤ 1073741824
  mine : spV cs n X n total = (v, true)
  each : ∀ j, j < n → p * iA X j - (atV (cs j) (iA X j)).1 = gre (cs j) p
  dom : ∀ j, j < n → (atV (cs j) (iA X j)).2 = 0
  sum : p * total - sumTo (fun j => gre (cs j) p) n = v
  other : ∀ O, spV cs n O n total = ((spV cs n O n total).1, true) → v ≤ (spV cs n O n total).1 ∧ ((spV cs n O n total).1 = v → ∀ i, i < n → (∀ j, j < i → iA X j = iA O j) → iA X i ≠ iA O i → iA X i < iA O i)

theorem best_math {cs : Nat → Cu} {n : Nat} {total : Int} (h : splitE cs n total = 0) : BestM cs n total (splitP cs n total) (splitC cs n total) (splitX cs n total) := by
  have h00 := h
  unfold splitE at h
  split at h
  · exact absurd h (by decide)
  split at h
  · exact absurd h (by decide)
  split at h
  · exact absurd h (by decide)
  split at h
  · exact absurd h (by decide)
  rename_i h8 hn0 hall hrange
  have hok := (allOk_iff cs n).1 (by simpa using hall)
  have h0 : splitLo cs n ≤ total := by unfold splitLo; omega
  have h1 : total ≤ sumTo (fun i => (cs i).fr + ((cs i).sl.length : Int)) n := by omega
  have hd := divided cs n total hok h0 h1
  have hP : splitP cs n total = priceV cs n total := if_pos h00
  have hC : splitC cs n total = sumTo (fun j => valK (cs j) (kV cs n total j)) n := if_pos h00
  have hX : splitX cs n total = (List.range n).map (fun j => (cs j).fr + (kV cs n total j : Int)) := if_pos h00
  have hXi : ∀ j, j < n → iA (splitX cs n total) j = (cs j).fr + (kV cs n total j : Int) := fun j hj => by
    rw [hX, iA_get (by simpa using hj)]
    simp
  have hpr : -1048576 ≤ priceV cs n total ∧ priceV cs n total ≤ 1048576 := by
    unfold priceV
    split
    · rename_i hpos
      have hcl := catL_length cs n
      have hlt : (total - splitLo cs n - 1).toNat < (sortI (catL cs n)).length := by rw [sortI_length]; unfold splitLo at *; omega
      have hmem : iA (sortI (catL cs n)) (total - splitLo cs n - 1).toNat ∈ catL cs n := by
        rw [iA_get hlt]
        exact (sortI_perm _).mem_iff.1 (List.getElem_mem hlt)
      have hcat : ∀ k, k ≤ n → ∀ z, z ∈ catL cs k → -1048576 ≤ z ∧ z ≤ 1048576 := by
        intro k
        induction k with
        | zero => intro _ z hz; simp [catL] at hz
        | succ k ih =>
          intro hk z hz
          unfold catL at hz
          rcases List.mem_append.1 hz with h2 | h2
          · exact ih (by omega) z h2
          · obtain ⟨t, ht, rfl⟩ := List.getElem_of_mem h2
            have := okC_sl (hok k (by omega)) ht
            rw [iA_get ht] at this
            exact this
      exact hcat n (Nat.le_refl _) _ hmem
    · omega
  have hlor : -(1048576 * (n : Int)) ≤ sumTo (fun i => (cs i).fr) n ∧ sumTo (fun i => (cs i).fr) n ≤ 1048576 * n := sumTo_range n fun j hj => okC_fr (hok j hj)
  have hhir : -(2097152 * (n : Int)) ≤ sumTo (fun i => (cs i).fr + ((cs i).sl.length : Int)) n ∧ sumTo (fun i => (cs i).fr + ((cs i).sl.length : Int)) n ≤ 2097152 * n := sumTo_range n fun j hj => by
    have a1 := okC_fr (hok j hj)
    have a2 := (okC_true (hok j hj)).2.2.1
    omega
  have hat : ∀ j, j < n → atV (cs j) (iA (splitX cs n total) j) = (valK (cs j) (kV cs n total j), 0) := fun j hj => by
    rw [hXi j hj, atV_in (hok j hj) (hd.le j hj)]
  have heach : ∀ j, j < n → priceV cs n total * ((cs j).fr + (kV cs n total j : Int)) - valK (cs j) (kV cs n total j) = gre (cs j) (priceV cs n total) := fun j hj => gre_eq _ (hd.le j hj) (hd.low j hj) (hd.high j hj)
  have hsx : sumTo (iA (splitX cs n total)) n = total := by
    rw [sumTo_congr n hXi, sumTo_add, hd.sum]
    unfold splitLo
    unfold splitLo at h0
    omega
  have hgs : priceV cs n total * total - sumTo (fun j => gre (cs j) (priceV cs n total)) n = sumTo (fun j => valK (cs j) (kV cs n total j)) n := by
    have e1 : sumTo (fun j => priceV cs n total * iA (splitX cs n total) j) n = priceV cs n total * total := by rw [sumTo_mul (priceV cs n total) (iA (splitX cs n total)) n, hsx]
    have e2 : sumTo (fun j => gre (cs j) (priceV cs n total) + valK (cs j) (kV cs n total j)) n = sumTo (fun j => priceV cs n total * iA (splitX cs n total) j) n := sumTo_congr n fun j hj => by
      have := heach j hj
      rw [hXi j hj]
      omega
    rw [sumTo_add] at e2
    omega
  refine ⟨by omega, by omega, hok, by rw [hX]; simp, by rw [hP]; exact hpr, by omega, ?_, fun j hj => ?_, fun j hj => by rw [hat j hj], by rw [hP, hC]; exact hgs, fun O hO => ?_⟩
  · unfold spV
    rw [if_pos ⟨rfl, fun j hj => by rw [hat j hj]⟩, hsx]
    have : costTo cs (splitX cs n total) n = splitC cs n total := by
      rw [hC]
      exact sumTo_congr n fun j hj => by rw [hat j hj]
    rw [this]
    simp
  · rw [hat j hj, hP, hXi j hj]
    exact heach j hj
  · have hcond : (n = n ∧ inTo cs O n) ∧ total = sumTo (iA O) n := by
      unfold spV at hO
      by_cases hc : n = n ∧ inTo cs O n
      · rw [if_pos hc] at hO
        injection hO with _ hO
        exact ⟨hc, of_decide_eq_true hO⟩
      · rw [if_neg hc] at hO
        injection hO with _ hO
        exact absurd hO (by decide)
    have hval : (spV cs n O n total).1 = costTo cs O n := by unfold spV; rw [if_pos hcond.1]
    rw [hval]
    have hin := hcond.1.2
    have hks : ∀ j, j < n → ∃ k : Nat, k ≤ (cs j).sl.length ∧ iA O j = (cs j).fr + k := fun j hj => (atV_some (hin j hj)).2
    have hge : ∀ j, j < n → priceV cs n total * iA O j - (atV (cs j) (iA O j)).1 ≤ gre (cs j) (priceV cs n total) := fun j hj => by
      obtain ⟨k, hk, e⟩ := hks j hj
      rw [e, atV_in (hok j hj) hk]
      exact gre_ge _ _ hk
    have e1 : sumTo (fun j => priceV cs n total * iA O j) n = priceV cs n total * total := by rw [sumTo_mul (priceV cs n total) (iA O) n, ← hcond.2]
    have e2 : sumTo (fun j => priceV cs n total * iA O j - (atV (cs j) (iA O j)).1) n = priceV cs n total * total - costTo cs O n := by
      have h2 := sumTo_add (fun j => priceV cs n total * iA O j - (atV (cs j) (iA O j)).1) (fun j => (atV (cs j) (iA O j)).1) n
      have h3 : sumTo (fun j => priceV cs n total * iA O j - (atV (cs j) (iA O j)).1 + (atV (cs j) (iA O j)).1) n = sumTo (fun j => priceV cs n total * iA O j) n := sumTo_congr n fun j _ => by omega
      have h4 : sumTo (fun j => (atV (cs j) (iA O j)).1) n = costTo cs O n := rfl
      omega
    have hle := sumTo_le n hge
    refine ⟨by rw [hC]; omega, fun heq i hi hpre hne => ?_⟩
    rw [hC] at heq
    -- every share of the other is best at the price
    have htight : ∀ j, j < n → priceV cs n total * iA O j - (atV (cs j) (iA O j)).1 = gre (cs j) (priceV cs n total) := fun j hj => by
      rcases Int.lt_or_le (priceV cs n total * iA O j - (atV (cs j) (iA O j)).1) (gre (cs j) (priceV cs n total)) with h2 | h2
      · have := sumTo_split n hge j hj h2
        omega
      · have := hge j hj
        omega
    obtain ⟨ki, hki, ei⟩ := hks i hi
    rcases Int.lt_or_le (iA (splitX cs n total) i) (iA O i) with h2 | h2
    · exact h2
    · exfalso
      have hlt : (ki : Int) < kV cs n total i := by rw [hXi i hi] at h2 hne; omega
      have hti := gre_tight (hok i hi) (p := priceV cs n total) hki (by have := htight i hi; rw [ei, atV_in (hok i hi) hki] at this; exact this)
      have hfull := fun j (hij : i < j) (hj : j < n) => split_full cs n total hok h0 h1 hij hj (by rw [climK_cnt (okC_true (hok i hi)).2.2.2.1]; omega)
      have hcmp : ∀ j, j < n → iA O j ≤ iA (splitX cs n total) j := fun j hj => by
        rcases Nat.lt_trichotomy j i with h3 | h3 | h3
        · rw [hpre j h3]
          omega
        · subst h3
          exact h2
        · obtain ⟨kj, hkj, ej⟩ := hks j hj
          have htj := gre_tight (hok j hj) (p := priceV cs n total) hkj (by have := htight j hj; rw [ej, atV_in (hok j hj) hkj] at this; exact this)
          have := hfull j h3 hj
          rw [hXi j hj, ej]
          omega
      have := sumTo_split n hcmp i hi (by rw [hXi i hi, ei]; omega)
      omega

end Go.Proofs.Ytdepnhnpklbmiaa
