/- The mathematics of the best division: its price certifies it, and it is the lexicographically first. -/
import Derived.Test.YtdepnhnpklbmiaaA4
import Derived.Test.YtdepnhnpklbmiaaB25
import Derived.Test.YtdepnhnpklbmiaaSA
namespace Go.Proofs.Ytdepnhnpklbmiaa
open Go.RowKit Go.Sort

/-- what is left to divide is not negative -/
theorem leftV_pos (cs : Nat → Cu) (n : Nat) (total : Int) (hok : ∀ j, j < n → okC (cs j) = true) (h0 : splitLo cs n ≤ total) (h1 : total ≤ sumTo (fun i => (cs i).fr + ((cs i).sl.length : Int)) n) : 0 ≤ leftV cs n total := by
  have hd := divided cs n total hok h0 h1
  have hsum := hd.sum
  obtain ⟨p, hp⟩ : ∃ p, priceV cs n total = p := ⟨_, rfl⟩
  -- each climb ends no later than the share
  have hasc : ∀ j, j < n → ascTo (cs j).sl (cs j).sl.length := fun j hj => (okC_true (hok j hj)).2.2.2.1
  have hle : ∀ j, j < n → (climK (cs j) (priceV cs n total) : Int) ≤ kV cs n total j := fun j hj => by
    have h2 : climK (cs j) (priceV cs n total) ≤ kV cs n total j := by
      rw [climK_cnt (hasc j hj)]
      exact cnt_le _ _ _ fun i hi hil => hd.high j hj i hi hil
    omega
  have h2 := sumTo_le n hle
  rw [hsum] at h2
  unfold leftV
  rw [sumTo_add]
  unfold splitLo at h0 h2
  omega
/-- who took more than the climb left nothing to those behind -/
theorem split_full (cs : Nat → Cu) (n : Nat) (total : Int) (hok : ∀ j, j < n → okC (cs j) = true) (h0 : splitLo cs n ≤ total) (h1 : total ≤ sumTo (fun i => (cs i).fr + ((cs i).sl.length : Int)) n) {i j : Nat} (hij : i < j) (hj : j < n)
    (hlt : climK (cs i) (priceV cs n total) < kV cs n total i) : cnt (priceV cs n total + 1) (cs j).sl ≤ kV cs n total j := by
  have hl0 := leftV_pos cs n total hok h0 h1
  obtain ⟨p, hp⟩ : ∃ p, priceV cs n total = p := ⟨_, rfl⟩
  obtain ⟨l0, hl⟩ : ∃ l, leftV cs n total = l := ⟨_, rfl⟩
  unfold kV at hlt ⊢
  rw [hp, hl] at hlt ⊢
  rw [hl] at hl0
  have gi := kD_given cs p n l0 hl0 i
  have gj := kD_given cs p n l0 hl0 j
  have h2 : 0 < leftD cs p n l0 (n - 1 - i) := by
    have a1 := gi.left
    have a2 := gi.pos
    dsimp only at a1 a2
    omega
  have h3 := leftD_mono cs p n l0 hl0 (n - 1 - j + 1) (j - i - 1)
  rw [show n - 1 - j + 1 + (j - i - 1) = n - 1 - i by omega] at h3
  have h4 : leftD cs p n l0 (n - 1 - j + 1) = (give (cs (n - 1 - (n - 1 - j))) p (climK (cs (n - 1 - (n - 1 - j))) p) (leftD cs p n l0 (n - 1 - j))).2 := rfl
  rw [show n - 1 - (n - 1 - j) = j by omega] at h4
  have hasc := (okC_true (hok j hj)).2.2.2.1
  refine cnt_le _ _ _ fun t ht htl => ?_
  rcases gj.stop with h | h | h
  · dsimp only at h
    omega
  · have h : kD cs p n l0 j = _ := h
    omega
  · have h : iA (cs j).sl (kD cs p n l0 j) ≠ p := h
    have h5 := climK_ge hasc (p := p) (j := kD cs p n l0 j) gj.ge (by omega)
    have h6 := asc_mono hasc ht htl
    omega
/-- a choice that is best at a price lies between the counts -/
theorem gre_tight {c : Cu} (_hc : okC c = true) {p : Int} {k : Nat} (hk : k ≤ c.sl.length) (h : p * (c.fr + k) - valK c k = gre c p) : cnt p c.sl ≤ k ∧ k ≤ cnt (p + 1) c.sl := by
  have hno : ¬ ∃ j, (j < k ∧ p < iA c.sl j) ∨ (k ≤ j ∧ j < c.sl.length ∧ iA c.sl j < p) := fun h2 => by
    have := gre_lt p hk h2
    omega
  refine ⟨cnt_le _ _ _ fun j h1 h2 => ?_, cnt_ge _ _ _ hk fun j hj => ?_⟩
  · rcases Int.lt_or_le (iA c.sl j) p with h3 | h3
    · exact absurd ⟨j, .inr ⟨h1, h2, h3⟩⟩ hno
    · exact h3
  · rcases Int.lt_or_le p (iA c.sl j) with h3 | h3
    · exact absurd ⟨j, .inl ⟨hj, h3⟩⟩ hno
    · omega
theorem sumTo_split {f g : Nat → Int} : ∀ n, (∀ j, j < n → f j ≤ g j) → ∀ i, i < n → f i < g i → sumTo f n < sumTo g n
  | 0, _, i, hi, _ => absurd hi (Nat.not_lt_zero _)
  | n + 1, h, i, hi, hl => by
    have h1 := h n (by omega)
    unfold sumTo
    rcases Nat.lt_or_ge i n with h2 | h2
    · have := sumTo_split n (fun j hj => h j (by omega)) i h2 hl
      omega
    · obtain rfl : i = n := by omega
      have := sumTo_le i fun j hj => h j (by omega)
      omega
/-- all that the law asks -/
structure BestM (cs : Nat → Cu) (n : Nat) (total : Int) (p v : Int) (X : List Int) : Prop where
  pos : 0 < n
  le8 : n ≤ 8
  ok : ∀ j, j < n → okC (cs j) = true
  len : X.length = n
  price : -1048576 ≤ p ∧ p ≤ 1048576
  tot : -1073741824 ≤ total ∧ total ≤ 1073741824
  mine : spV cs n X n total = (v, true)
  each : ∀ j, j < n → p * iA X j - (atV (cs j) (iA X j)).1 = gre (cs j) p
  dom : ∀ j, j < n → (atV (cs j) (iA X j)).2 = 0
  sum : p * total - sumTo (fun j => gre (cs j) p) n = v
  other : ∀ O, spV cs n O n total = ((spV cs n O n total).1, true) → v ≤ (spV cs n O n total).1 ∧ ((spV cs n O n total).1 = v → ∀ i, i < n → (∀ j, j < i → iA X j = iA O j) → iA X i ≠ iA O i → iA X i < iA O i)

theorem best_math {cs : Nat → Cu} {n : Nat} {total : Int} (h : splitE cs n total = 0) : BestM cs n total (splitP cs n total) (splitC cs n total) (splitX cs n total) := by
  have h00 := h
  unfold splitE at h
  split at h
  · exact absurd h (by decide)
  split at h
  · exact absurd h (by decide)
  split at h
  · exact absurd h (by decide)
  split at h
  · exact absurd h (by decide)
  rename_i h8 hn0 hall hrange
  have hok := (allOk_iff cs n).1 (by simpa using hall)
  have h0 : splitLo cs n ≤ total := by unfold splitLo; omega
  have h1 : total ≤ sumTo (fun i => (cs i).fr + ((cs i).sl.length : Int)) n := by omega
  have hd := divided cs n total hok h0 h1
  have hP : splitP cs n total = priceV cs n total := if_pos h00
  have hC : splitC cs n total = sumTo (fun j => valK (cs j) (kV cs n total j)) n := if_pos h00
  have hX : splitX cs n total = (List.range n).map (fun j => (cs j).fr + (kV cs n total j : Int)) := if_pos h00
  have hXi : ∀ j, j < n → iA (splitX cs n total) j = (cs j).fr + (kV cs n total j : Int) := fun j hj => by
    rw [hX, iA_get (by simpa using hj)]
    simp
  have hpr : -1048576 ≤ priceV cs n total ∧ priceV cs n total ≤ 1048576 := by
    unfold priceV
    split
    · rename_i hpos
      have hcl := catL_length cs n
      have hlt : (total - splitLo cs n - 1).toNat < (sortI (catL cs n)).length := by rw [sortI_length]; unfold splitLo at *; omega
      have hmem : iA (sortI (catL cs n)) (total - splitLo cs n - 1).toNat ∈ catL cs n := by
        rw [iA_get hlt]
        exact (sortI_perm _).mem_iff.1 (List.getElem_mem hlt)
      have hcat : ∀ k, k ≤ n → ∀ z, z ∈ catL cs k → -1048576 ≤ z ∧ z ≤ 1048576 := by
        intro k
        induction k with
        | zero => intro _ z hz; simp [catL] at hz
        | succ k ih =>
          intro hk z hz
          unfold catL at hz
          rcases List.mem_append.1 hz with h2 | h2
          · exact ih (by omega) z h2
          · obtain ⟨t, ht, rfl⟩ := List.getElem_of_mem h2
            have := okC_sl (hok k (by omega)) ht
            rw [iA_get ht] at this
            exact this
      exact hcat n (Nat.le_refl _) _ hmem
    · omega
  have hlor : -(1048576 * (n : Int)) ≤ sumTo (fun i => (cs i).fr) n ∧ sumTo (fun i => (cs i).fr) n ≤ 1048576 * n := sumTo_range n fun j hj => okC_fr (hok j hj)
  have hhir : -(2097152 * (n : Int)) ≤ sumTo (fun i => (cs i).fr + ((cs i).sl.length : Int)) n ∧ sumTo (fun i => (cs i).fr + ((cs i).sl.length : Int)) n ≤ 2097152 * n := sumTo_range n fun j hj => by
    have a1 := okC_fr (hok j hj)
    have a2 := (okC_true (hok j hj)).2.2.1
    omega
  have hat : ∀ j, j < n → atV (cs j) (iA (splitX cs n total) j) = (valK (cs j) (kV cs n total j), 0) := fun j hj => by
    rw [hXi j hj, atV_in (hok j hj) (hd.le j hj)]
  have heach : ∀ j, j < n → priceV cs n total * ((cs j).fr + (kV cs n total j : Int)) - valK (cs j) (kV cs n total j) = gre (cs j) (priceV cs n total) := fun j hj => gre_eq _ (hd.le j hj) (hd.low j hj) (hd.high j hj)
  have hsx : sumTo (iA (splitX cs n total)) n = total := by
    rw [sumTo_congr n hXi, sumTo_add, hd.sum]
    unfold splitLo
    unfold splitLo at h0
    omega
  have hgs : priceV cs n total * total - sumTo (fun j => gre (cs j) (priceV cs n total)) n = sumTo (fun j => valK (cs j) (kV cs n total j)) n := by
    have e1 : sumTo (fun j => priceV cs n total * iA (splitX cs n total) j) n = priceV cs n total * total := by rw [sumTo_mul (priceV cs n total) (iA (splitX cs n total)) n, hsx]
    have e2 : sumTo (fun j => gre (cs j) (priceV cs n total) + valK (cs j) (kV cs n total j)) n = sumTo (fun j => priceV cs n total * iA (splitX cs n total) j) n := sumTo_congr n fun j hj => by
      have := heach j hj
      rw [hXi j hj]
      omega
    rw [sumTo_add] at e2
    omega
  refine ⟨by omega, by omega, hok, by rw [hX]; simp, by rw [hP]; exact hpr, by omega, ?_, fun j hj => ?_, fun j hj => by rw [hat j hj], by rw [hP, hC]; exact hgs, fun O hO => ?_⟩
  · unfold spV
    rw [if_pos ⟨rfl, fun j hj => by rw [hat j hj]⟩, hsx]
    have : costTo cs (splitX cs n total) n = splitC cs n total := by
      rw [hC]
      exact sumTo_congr n fun j hj => by rw [hat j hj]
    rw [this]
    simp
  · rw [hat j hj, hP, hXi j hj]
    exact heach j hj
  · have hcond : (n = n ∧ inTo cs O n) ∧ total = sumTo (iA O) n := by
      unfold spV at hO
      by_cases hc : n = n ∧ inTo cs O n
      · rw [if_pos hc] at hO
        injection hO with _ hO
        exact ⟨hc, of_decide_eq_true hO⟩
      · rw [if_neg hc] at hO
        injection hO with _ hO
        exact absurd hO (by decide)
    have hval : (spV cs n O n total).1 = costTo cs O n := by unfold spV; rw [if_pos hcond.1]
    rw [hval]
    have hin := hcond.1.2
    have hks : ∀ j, j < n → ∃ k : Nat, k ≤ (cs j).sl.length ∧ iA O j = (cs j).fr + k := fun j hj => (atV_some (hin j hj)).2
    have hge : ∀ j, j < n → priceV cs n total * iA O j - (atV (cs j) (iA O j)).1 ≤ gre (cs j) (priceV cs n total) := fun j hj => by
      obtain ⟨k, hk, e⟩ := hks j hj
      rw [e, atV_in (hok j hj) hk]
      exact gre_ge _ _ hk
    have e1 : sumTo (fun j => priceV cs n total * iA O j) n = priceV cs n total * total := by rw [sumTo_mul (priceV cs n total) (iA O) n, ← hcond.2]
    have e2 : sumTo (fun j => priceV cs n total * iA O j - (atV (cs j) (iA O j)).1) n = priceV cs n total * total - costTo cs O n := by
      have h2 := sumTo_add (fun j => priceV cs n total * iA O j - (atV (cs j) (iA O j)).1) (fun j => (atV (cs j) (iA O j)).1) n
      have h3 : sumTo (fun j => priceV cs n total * iA O j - (atV (cs j) (iA O j)).1 + (atV (cs j) (iA O j)).1) n = sumTo (fun j => priceV cs n total * iA O j) n := sumTo_congr n fun j _ => by omega
      have h4 : sumTo (fun j => (atV (cs j) (iA O j)).1) n = costTo cs O n := rfl
      omega
    have hle := sumTo_le n hge
    refine ⟨by rw [hC]; omega, fun heq i hi hpre hne => ?_⟩
    rw [hC] at heq
    -- every share of the other is best at the price
    have htight : ∀ j, j < n → priceV cs n total * iA O j - (atV (cs j) (iA O j)).1 = gre (cs j) (priceV cs n total) := fun j hj => by
      rcases Int.lt_or_le (priceV cs n total * iA O j - (atV (cs j) (iA O j)).1) (gre (cs j) (priceV cs n total)) with h2 | h2
      · have := sumTo_split n hge j hj h2
        omega
      · have := hge j hj
        omega
    obtain ⟨ki, hki, ei⟩ := hks i hi
    rcases Int.lt_or_le (iA (splitX cs n total) i) (iA O i) with h2 | h2
    · exact h2
    · exfalso
      have hlt : (ki : Int) < kV cs n total i := by rw [hXi i hi] at h2 hne; omega
      have hti := gre_tight (hok i hi) (p := priceV cs n total) hki (by have := htight i hi; rw [ei, atV_in (hok i hi) hki] at this; exact this)
      have hfull := fun j (hij : i < j) (hj : j < n) => split_full cs n total hok h0 h1 hij hj (by rw [climK_cnt (okC_true (hok i hi)).2.2.2.1]; omega)
      have hcmp : ∀ j, j < n → iA O j ≤ iA (splitX cs n total) j := fun j hj => by
        rcases Nat.lt_trichotomy j i with h3 | h3 | h3
        · rw [hpre j h3]
          omega
        · subst h3
          exact h2
        · obtain ⟨kj, hkj, ej⟩ := hks j hj
          have htj := gre_tight (hok j hj) (p := priceV cs n total) hkj (by have := htight j hj; rw [ej, atV_in (hok j hj) hkj] at this; exact this)
          have := hfull j h3 hj
          rw [hXi j hj, ej]
          omega
      have := sumTo_split n hcmp i hi (by rw [hXi i hi, ei]; omega)
      omega

end Go.Proofs.Ytdepnhnpklbmiaa
/- Split's specification, as mathematics: the rest that is joined behind each curve, and what its search finds. -/
namespace Go.Proofs.Ytdepnhnpklbmiaa
open Go.RowKit Go.Sort

noncomputable def rC (cs : Nat → Cu) (n : Nat) : Nat → Cu
  | 0 => cs (n - 1)
  | m + 1 => joinC (cs (n - 1 - (m + 1))) (rC cs n m)
/-- the last curves from i on, joined -/
noncomputable def restC (cs : Nat → Cu) (n i : Nat) : Cu := rC cs n (n - 1 - i)
theorem rest_end (cs : Nat → Cu) (n : Nat) : restC cs n (n - 1) = cs (n - 1) := by
  unfold restC
  rw [Nat.sub_self]
  rfl
theorem rest_step (cs : Nat → Cu) {n i : Nat} (h : i + 1 < n) : restC cs n i = joinC (cs i) (restC cs n (i + 1)) := by
  unfold restC
  rw [show n - 1 - i = (n - 1 - (i + 1)) + 1 by omega]
  show joinC (cs (n - 1 - (n - 1 - (i + 1) + 1))) _ = _
  rw [show n - 1 - (n - 1 - (i + 1) + 1) = i by omega]
theorem rC_wd {cs : Nat → Cu} {n : Nat} (hok : ∀ j, j < n → okC (cs j) = true) (hn : 0 < n) : ∀ m, m < n → Wd (m + 1) (rC cs n m)
  | 0, _ => wd_ok (hok _ (by omega))
  | m + 1, h => by
    have := wd_join (wd_ok (hok (n - 1 - (m + 1)) (by omega))) (rC_wd hok hn m (by omega))
    rw [show 1 + (m + 1) = m + 1 + 1 by omega] at this
    exact this
theorem rest_wd {cs : Nat → Cu} {n i : Nat} (hok : ∀ j, j < n → okC (cs j) = true) (hi : i < n) : Wd (n - i) (restC cs n i) := by
  have := rC_wd hok (by omega) (n - 1 - i) (by omega)
  rw [show n - 1 - i + 1 = n - i by omega] at this
  exact this
theorem shift_eq (cs : Nat → Cu) (i : Nat) : (fun j => cs (i + (j + 1))) = fun j => cs (i + 1 + j) := by
  funext j
  rw [show i + (j + 1) = i + 1 + j by omega]
theorem sortI_id {xs : List Int} (h : ascTo xs xs.length) : sortI xs = xs := sortI_unique (List.Perm.refl _) (asc_pairwise h)
theorem rest_sl (cs : Nat → Cu) {n : Nat} (hasc : ∀ j, j < n → ascTo (cs j).sl (cs j).sl.length) : ∀ m i, i + m + 1 = n → (restC cs n i).sl = sortI (catL (fun j => cs (i + j)) (m + 1))
  | 0, i, h => by
    obtain rfl : i = n - 1 := by omega
    rw [rest_end]
    show _ = sortI ([] ++ (cs (n - 1 + 0)).sl)
    rw [List.nil_append, Nat.add_zero, sortI_id (hasc _ (by omega))]
  | m + 1, i, h => by
    rw [rest_step cs (by omega)]
    show sortI ((cs i).sl ++ (restC cs n (i + 1)).sl) = _
    rw [rest_sl cs hasc m (i + 1) (by omega), sortI_right, catL_first (fun j => cs (i + j)) (m + 1), shift_eq]
    rfl
theorem sumTo_part (f : Nat → Int) : ∀ i m, sumTo f (i + m) = sumTo f i + sumTo (fun j => f (i + j)) m
  | i, 0 => by simp [sumTo]
  | i, m + 1 => by
    show sumTo f (i + m) + f (i + m) = _
    rw [sumTo_part f i m]
    show _ = sumTo f i + (sumTo (fun j => f (i + j)) m + f (i + m))
    omega
theorem rest_sum (cs : Nat → Cu) {n : Nat} : ∀ m i, i + m + 1 = n → (restC cs n i).fr = sumTo (fun j => (cs (i + j)).fr) (m + 1) ∧ (restC cs n i).fst = sumTo (fun j => (cs (i + j)).fst) (m + 1)
  | 0, i, h => by
    obtain rfl : i = n - 1 := by omega
    rw [rest_end]
    simp [sumTo]
  | m + 1, i, h => by
    rw [rest_step cs (by omega)]
    obtain ⟨h1, h2⟩ := rest_sum cs (n := n) m (i + 1) (by omega)
    rw [sumTo_first, sumTo_first (fun j => (cs (i + j)).fst)]
    have e := shift_eq cs i
    constructor
    · show (cs i).fr + (restC cs n (i + 1)).fr = _
      rw [h1]
      have : (fun j => (cs (i + (j + 1))).fr) = fun j => (cs (i + 1 + j)).fr := by
        funext j
        rw [show i + (j + 1) = i + 1 + j by omega]
      rw [this]
      rfl
    · show (cs i).fst + (restC cs n (i + 1)).fst = _
      rw [h2]
      have : (fun j => (cs (i + (j + 1))).fst) = fun j => (cs (i + 1 + j)).fst := by
        funext j
        rw [show i + (j + 1) = i + 1 + j by omega]
      rw [this]
      rfl

/-- what the search stands on: where it is at each step, and what it finds there -/
structure Found (cs : Nat → Cu) (n : Nat) (total : Int) (K : Nat → Nat) (M : Nat → Nat) : Prop where
  ok : ∀ j, j < n → okC (cs j) = true
  pos : 0 < n
  le8 : n ≤ 8
  kle : ∀ j, j < n → K j ≤ (cs j).sl.length
  mle : ∀ i, i < n → M i ≤ (restC cs n i).sl.length
  left : ∀ i, i < n → total - sumTo (fun j => (cs j).fr + (K j : Int)) i = (restC cs n i).fr + (M i : Int)
  last : total - sumTo (fun j => (cs j).fr + (K j : Int)) (n - 1) = (cs (n - 1)).fr + (K (n - 1) : Int)
  kM : ∀ i, i + 1 < n → K i ≤ M i ∧ M i - K i = M (i + 1)
  eq : ∀ i, i + 1 < n → valK (cs i) (K i) + valK (restC cs n (i + 1)) (M i - K i) = valK (restC cs n i) (M i)
  ne : ∀ i, i + 1 < n → ∀ y, y < K i → M i - y ≤ (restC cs n (i + 1)).sl.length → valK (restC cs n i) (M i) < valK (cs i) y + valK (restC cs n (i + 1)) (M i - y)
theorem found {cs : Nat → Cu} {n : Nat} {total : Int} (h : splitE cs n total = 0) : ∃ M, Found cs n total (kV cs n total) M ∧ prF cs (kV cs n total) n = priceV cs n total ∧ valK (restC cs n 0) (M 0) = sumTo (fun j => valK (cs j) (kV cs n total j)) n := by
  have h00 := h
  unfold splitE at h
  split at h
  · exact absurd h (by decide)
  split at h
  · exact absurd h (by decide)
  split at h
  · exact absurd h (by decide)
  split at h
  · exact absurd h (by decide)
  rename_i h8 hn0 hall hrange
  have hok := (allOk_iff cs n).1 (by simpa using hall)
  have h0 : splitLo cs n ≤ total := by unfold splitLo; omega
  have h1 : total ≤ sumTo (fun i => (cs i).fr + ((cs i).sl.length : Int)) n := by omega
  have hd := divided cs n total hok h0 h1
  have hasc : ∀ j, j < n → ascTo (cs j).sl (cs j).sl.length := fun j hj => ok_asc (hok j hj)
  have hl0 := leftV_pos cs n total hok h0 h1
  have hkd : ∀ i, i < n → kV cs n total i = climK (cs i) (priceV cs n total) ∨ ∀ j, i < j → j < n → ∀ t, kV cs n total j ≤ t → t < (cs j).sl.length → priceV cs n total < iA (cs j).sl t := fun i hi => kD_last hl0 hasc hi
  have hp : -1048576 ≤ priceV cs n total := by
    have := (best_math h00).price.1
    rwa [show splitP cs n total = priceV cs n total from if_pos h00] at this
  have hd0 : ∀ i, i < n → ∃ m', Divided (fun j => cs (i + j)) (n - i) m' (priceV cs n total) (fun j => kV cs n total (i + j)) := fun i hi => hd.last i (by omega)
  obtain ⟨M, hM⟩ : ∃ M : Nat → Nat, ∀ i, i < n → Divided (fun j => cs (i + j)) (n - i) (M i) (priceV cs n total) (fun j => kV cs n total (i + j)) :=
    ⟨fun i => if hi : i < n then (hd0 i hi).choose else 0, fun i hi => by simp only [hi, dif_pos]; exact (hd0 i hi).choose_spec⟩
  generalize hK : kV cs n total = K at *
  generalize hP : priceV cs n total = P at *
  have hsl : ∀ i, i < n → (restC cs n i).sl = sortI (catL (fun j => cs (i + j)) (n - i)) := fun i hi => by
    have := rest_sl cs hasc (n - 1 - i) i (by omega)
    rw [this, show n - 1 - i + 1 = n - i by omega]
  have hfr : ∀ i, i < n → (restC cs n i).fr = sumTo (fun j => (cs (i + j)).fr) (n - i) ∧ (restC cs n i).fst = sumTo (fun j => (cs (i + j)).fst) (n - i) := fun i hi => by
    have := rest_sum cs (n := n) (n - 1 - i) i (by omega)
    rw [show n - 1 - i + 1 = n - i by omega] at this
    exact this
  have hsplit : ∀ i, i < n → total = sumTo (fun j => (cs j).fr + (K j : Int)) i + ((restC cs n i).fr + (M i : Int)) := fun i hi => by
    have e := hd.sum
    have e1 := sumTo_part (fun j => (K j : Int)) i (n - i)
    have e2 := sumTo_part (fun j => (cs j).fr) i (n - i)
    rw [show i + (n - i) = n by omega] at e1 e2
    have e3 := (hM i hi).sum
    (try dsimp only at e3)
    rw [sumTo_add, (hfr i hi).1]
    unfold splitLo at *
    omega
  have hstep : ∀ i, i + 1 < n → ∃ n', n - i = n' + 1 ∧ n - (i + 1) = n' := fun i hi => ⟨n - (i + 1), by omega, rfl⟩
  have hMt : ∀ i, i + 1 < n → K i ≤ M i ∧ M i - K i = M (i + 1) := fun i hi => by
    obtain ⟨n', e1, e2⟩ := hstep i hi
    have h2 := hM i (by omega)
    rw [e1] at h2
    obtain ⟨h3, h4⟩ := h2.tail
    have s1 := h4.sum
    have s2 := (hM (i + 1) hi).sum
    rw [e2] at s2
    have e : (fun j => (K (i + (j + 1)) : Int)) = fun j => (K (i + 1 + j) : Int) := by
      funext j
      rw [show i + (j + 1) = i + 1 + j by omega]
    (try dsimp only at s1 s2 h3)
    rw [e] at s1
    rw [s1] at s2
    exact ⟨h3, by exact Int.ofNat.inj s2⟩
  refine ⟨M, ⟨hok, by omega, by omega, hd.le, fun i hi => ?_, fun i hi => ?_, ?_, hMt, fun i hi => ?_, fun i hi y hy hyl => ?_⟩, ?_, ?_⟩
  · rw [hsl i hi, sortI_length]
    exact sumTo_len (hM i hi)
  · have := hsplit i hi
    omega
  · have := hsplit (n - 1) (by omega)
    rw [rest_end] at this
    have h2 := (hM (n - 1) (by omega)).sum
    rw [show n - (n - 1) = 1 by omega] at h2
    simp only [sumTo] at h2
    rw [Nat.add_zero] at h2
    omega
  · obtain ⟨n', e1, e2⟩ := hstep i hi
    have h2 := hM i (by omega)
    rw [e1] at h2
    have h3 := (share_eq h2).2
    (try dsimp only at h3)
    rw [shift_eq] at h3
    have r1 := hsl (i + 1) hi
    rw [e2] at r1
    have r2 : (restC cs n i).sl = sortI ((cs i).sl ++ (restC cs n (i + 1)).sl) := by rw [rest_step cs hi]; rfl
    have r3 : (restC cs n i).fst = (cs i).fst + (restC cs n (i + 1)).fst := by rw [rest_step cs hi]; rfl
    rw [valK_pS, valK_pS, valK_pS, r2, r3, r1]
    rw [Nat.add_zero] at h3
    omega
  · obtain ⟨n', e1, e2⟩ := hstep i hi
    have h2 := hM i (by omega)
    rw [e1] at h2
    have r1 := hsl (i + 1) hi
    rw [e2] at r1
    have r2 : (restC cs n i).sl = sortI ((cs i).sl ++ (restC cs n (i + 1)).sl) := by rw [rest_step cs hi]; rfl
    have r3 : (restC cs n i).fst = (cs i).fst + (restC cs n (i + 1)).fst := by rw [rest_step cs hi]; rfl
    have h3 := share_ne h2 (by
      rcases hkd i (by omega) with q | q
      · exact .inl (by rw [Nat.add_zero]; exact q)
      · exact .inr fun j hj hjn t ht htl => q (i + j) (by omega) (by omega) t ht htl) (y := y) (by rw [Nat.add_zero]; exact hy) (by rw [shift_eq, ← r1]; exact hyl)
    rw [shift_eq, Nat.add_zero, ← r1, ← r2] at h3
    rw [valK_pS, valK_pS, valK_pS, r3]
    omega
  · refine price_is hd hasc hp (fun e => ?_) (fun e => ?_)
    · rw [← hP]
      exact if_neg (by omega)
    · rw [← hP]
      unfold priceV
      rw [if_pos (by omega)]
      congr 1
      omega
  · have hz := hM 0 (by omega)
    have e : (fun j => cs (0 + j)) = cs := by funext j; rw [Nat.zero_add]
    have eK : (fun j => K (0 + j)) = K := by funext j; rw [Nat.zero_add]
    rw [e, eK, Nat.sub_zero] at hz
    have hc := divided_cost hz (sumTo_len hz)
    have hs0 := hsl 0 (by omega)
    rw [e, Nat.sub_zero] at hs0
    have hf0 := (hfr 0 (by omega)).2
    rw [Nat.sub_zero] at hf0
    have ef : (fun j => (cs (0 + j)).fst) = fun j => (cs j).fst := by funext j; rw [Nat.zero_add]
    rw [ef] at hf0
    rw [valK_pS, hs0, hf0, hc]
end Go.Proofs.Ytdepnhnpklbmiaa
/- Rows of the specification's rows: own memory of From and values. -/
namespace Go.Proofs.Ytdepnhnpklbmiaa
open Go.RowKit Go.Sort

abbrev Rw := Cu × Addr × Nat
def cellsR : List Rw → List Value
  | [] => []
  | r :: rs => .int .i64 r.1.fr :: .slice (some r.2.1) (r.1.sl.length + 1) r.2.2 :: cellsR rs
theorem cellsR_snoc : ∀ (l : List Rw) (r : Rw), cellsR (l ++ [r]) = cellsR l ++ [.int .i64 r.1.fr, .slice (some r.2.1) (r.1.sl.length + 1) r.2.2]
  | [], _ => rfl
  | s :: ss, r => by
    show _ :: _ :: cellsR (ss ++ [r]) = _ :: _ :: (cellsR ss ++ _)
    rw [cellsR_snoc ss r]
theorem cellsR_length : ∀ l : List Rw, (cellsR l).length = l.length * 2
  | [] => rfl
  | s :: ss => by
    show (cellsR ss).length + 1 + 1 = _
    rw [cellsR_length ss, List.length_cons]
    omega
theorem cellsR_at : ∀ (l : List Rw) (i : Nat) (r : Rw), l[i]? = some r → (cellsR l)[i * 2]? = some (.int .i64 r.1.fr) ∧ (cellsR l)[i * 2 + 1]? = some (.slice (some r.2.1) (r.1.sl.length + 1) r.2.2)
  | [], i, r, h => by simp at h
  | s :: ss, 0, r, h => by
    simp at h
    subst h
    exact ⟨rfl, rfl⟩
  | s :: ss, i + 1, r, h => by
    obtain ⟨a, b⟩ := cellsR_at ss i r (by simpa using h)
    have e : (i + 1) * 2 = i * 2 + 1 + 1 := by omega
    refine ⟨?_, ?_⟩
    · rw [e]
      exact a
    · rw [e]
      exact b
theorem cellsR_set : ∀ (l : List Rw) (i : Nat) (r : Rw), i < l.length → ((cellsR l).set (i * 2) (.int .i64 r.1.fr)).set (i * 2 + 1) (.slice (some r.2.1) (r.1.sl.length + 1) r.2.2) = cellsR (l.set i r)
  | [], i, r, h => by simp at h
  | s :: ss, 0, r, h => rfl
  | s :: ss, i + 1, r, h => by
    have e : (i + 1) * 2 = i * 2 + 1 + 1 := by omega
    rw [e]
    show _ :: _ :: ((cellsR ss).set (i * 2) _).set (i * 2 + 1) _ = _ :: _ :: cellsR (ss.set i r)
    rw [cellsR_set ss i r (by simpa using h)]
theorem cellsR_one (l : List Rw) : ∀ u ∈ cellsR l, u.oneCell' = true := by
  induction l with
  | nil => intro u h; simp [cellsR] at h
  | cons s ss ih =>
    intro u h
    rcases List.mem_cons.1 h with rfl | h
    · rfl
    rcases List.mem_cons.1 h with rfl | h
    · rfl
    exact ih u h
/-- one row's values -/
structure RowV (W : World) (own : Option Nat) (r : Rw) : Prop where
  ints : IntsAt W.heap.size W (some r.2.1) (r.1.sl.length + 1) (vals r.1 (r.1.sl.length + 1))
  cap : r.1.sl.length + 1 ≤ r.2.2 ∧ r.2.2 ≤ maxLen
  lt : r.2.1.block < W.heap.size
  ne : own ≠ some r.2.1.block
structure RowsW (base : Nat) (W : World) (a : Option Addr) (n c : Nat) (L : List Rw) : Prop where
  len : L.length = n
  own : W.ownsRow base 64 2 (.slice a n c) n (cellsR L)
  row : ∀ (i : Nat) (r : Rw), L[i]? = some r → RowV W (Value.ownBlock (.slice a n c)) r
theorem RowV.later {W W' : World} {own : Option Nat} {r : Rw} (h : RowV W own r) (hb : Below W.heap.size W W') : RowV W' own r :=
  ⟨h.ints.now hb (Nat.le_refl _), h.cap, by have := h.lt; have := hb.size; omega, h.ne⟩
theorem RowsW.later {base : Nat} {W W' : World} {a : Option Addr} {n c : Nat} {L : List Rw} (h : RowsW base W a n c L) (hb : Below W.heap.size W W') : RowsW base W' a n c L :=
  ⟨h.len, own_below h.own hb, fun i r e => (h.row i r e).later hb⟩
theorem RowsW.nil (base : Nat) (W : World) : RowsW base W none 0 0 [] := ⟨rfl, World.ownsRow_nil _ _ _ _, fun i r h => by simp at h⟩
theorem RowsW.at_ {base : Nat} {W : World} {a : Option Addr} {n c : Nat} {L : List Rw} (h : RowsW base W a n c L) {i : Nat} {r : Rw} (e : L[i]? = some r) :
    ∃ g, a = some ⟨g, 0, none⟩ ∧ base ≤ g ∧ g < W.heap.size ∧ n ≤ c ∧ c ≤ maxLen ∧ W.cell? ⟨g, i * 2, none⟩ = some (.int .i64 r.1.fr) ∧ W.cell? ⟨g, i * 2 + 1, none⟩ = some (.slice (some r.2.1) (r.1.sl.length + 1) r.2.2) ∧ (∀ t, W.frozen? ⟨g, t, none⟩ = false) := by
  have hi : i < L.length := (List.getElem?_eq_some_iff.1 e).1
  rcases h.own.2 with ⟨_, h0⟩ | ⟨g, cap, cur, hv, hbb, hg, hnc, hcm, hr⟩
  · have := h.len
    omega
  · injection hv with h1 h2 h3
    subst h1 h3
    obtain ⟨e1, e2⟩ := cellsR_at L i r e
    have ad : ∀ j, (⟨g, 0, none⟩ : Addr).add j = ⟨g, j, none⟩ := by
      intro j
      by_cases h0 : j = 0
      · subst h0; rfl
      · simp [Addr.add, h0]
    have c0 := h.own.cells (g := g) rfl (i * 2) _ e1
    have c1 := h.own.cells (g := g) rfl (i * 2 + 1) _ e2
    rw [ad] at c0 c1
    exact ⟨g, rfl, hbb, (Array.getElem?_eq_some_iff.1 hg).1, hnc, hcm, c0, c1, fun t => h.own.frozenAt t⟩
/-- the rows so far -/
def AreR (cs : Nat → Cu) (L : List Rw) : Prop := ∀ (i : Nat) (r : Rw), L[i]? = some r → r.1 = cs i
theorem AreR.snoc {cs : Nat → Cu} {L : List Rw} (h : AreR cs L) {r : Rw} (hr : r.1 = cs L.length) : AreR cs (L ++ [r]) := by
  intro i s e
  rcases Nat.lt_or_ge i L.length with h1 | h1
  · rw [List.getElem?_append_left h1] at e
    exact h i s e
  · rw [List.getElem?_append_right h1] at e
    obtain ⟨h2, h3⟩ := List.getElem?_eq_some_iff.1 e
    have : i - L.length = 0 := by simpa using h2
    obtain rfl : i = L.length := by omega
    simp at h3
    rw [← h3]
    exact hr
theorem get_snoc (L : List Rw) (r : Rw) : (L ++ [r])[L.length]? = some r := by simp
/-- a row behind the others -/
theorem RowsW.snoc {base : Nat} {W W' : World} {a a' : Option Addr} {n c c' : Nat} {L : List Rw} (h : RowsW base W a n c L) {r : Rw}
    (hint : IntsAt W.heap.size W (some r.2.1) (r.1.sl.length + 1) (vals r.1 (r.1.sl.length + 1))) (hcap : r.1.sl.length + 1 ≤ r.2.2 ∧ r.2.2 ≤ maxLen) (hlt : r.2.1.block < W.heap.size) (hne : Value.ownBlock (.slice a n c) ≠ some r.2.1.block)
    (hown : W'.ownsRow base 64 2 (.slice a' (n + 1) c') (n + 1) (cellsR L ++ [.int .i64 r.1.fr, .slice (some r.2.1) (r.1.sl.length + 1) r.2.2])) (hg : W.grownBy W' (Value.ownBlock (.slice a n c)))
    (hat : Value.ownBlock (.slice a' (n + 1) c') = Value.ownBlock (.slice a n c) ∨ Value.ownBlock (.slice a' (n + 1) c') = some W.heap.size) : RowsW base W' a' (n + 1) c' (L ++ [r]) := by
  have key : ∀ s : Rw, RowV W (Value.ownBlock (.slice a n c)) s → RowV W' (Value.ownBlock (.slice a' (n + 1) c')) s := fun s hs => by
    refine ⟨?_, hs.cap, by have := hs.lt; have := hg.size; omega, ?_⟩
    · refine ⟨hs.ints.1, ?_⟩
      rcases hs.ints.2 with h0 | ⟨b, off, e, hb, hc⟩
      · exact .inl h0
      · refine .inr ⟨b, off, e, by have := hg.size; omega, fun j hj => ?_⟩
        rw [← hc j hj]
        have hbl : s.2.1.block = b := by injection e with e; rw [e]
        have := hg.block b hb (by intro e2; exact hs.ne (by rw [hbl]; exact e2.symm))
        unfold World.cell?
        simp only [this]
    · rcases hat with h1 | h1
      · rw [h1]
        exact hs.ne
      · rw [h1]
        intro e
        injection e with e
        have := hs.lt
        omega
  refine ⟨by rw [List.length_append, h.len]; rfl, by rw [cellsR_snoc]; exact hown, fun i s e => ?_⟩
  rcases Nat.lt_or_ge i L.length with h1 | h1
  · rw [List.getElem?_append_left h1] at e
    exact key s (h.row i s e)
  · rw [List.getElem?_append_right h1] at e
    obtain ⟨h2, h3⟩ := List.getElem?_eq_some_iff.1 e
    have h4 : i - L.length = 0 := by simpa using h2
    simp [h4] at h3
    rw [← h3]
    exact key r ⟨hint, hcap, hlt, hne⟩
theorem RowsW.snocN {base : Nat} {W W' : World} {a a' : Option Addr} {n c c' : Nat} {L : List Rw} (h : RowsW base W a n c L) {ci : Cu} {ad : Addr} {k ni : Nat} (hl : ci.sl.length = ni)
    (hint : IntsAt W.heap.size W (some ad) (ni + 1) (vals ci (ni + 1))) (hcap : ni + 1 ≤ k ∧ k ≤ maxLen) (hlt : ad.block < W.heap.size) (hne : Value.ownBlock (.slice a n c) ≠ some ad.block)
    (hown : W'.ownsRow base 64 2 (.slice a' (n + 1) c') (n + 1) (cellsR L ++ [.int .i64 ci.fr, .slice (some ad) (ni + 1) k])) (hg : W.grownBy W' (Value.ownBlock (.slice a n c)))
    (hat : Value.ownBlock (.slice a' (n + 1) c') = Value.ownBlock (.slice a n c) ∨ Value.ownBlock (.slice a' (n + 1) c') = some W.heap.size) : RowsW base W' a' (n + 1) c' (L ++ [(ci, ad, k)]) := by
  subst hl
  exact RowsW.snoc (r := (ci, ad, k)) h hint hcap hlt hne hown hg hat
theorem RowsW.atN {base : Nat} {W : World} {a : Option Addr} {n c : Nat} {L : List Rw} (h : RowsW base W a n c L) {i : Nat} {ci : Cu} {ad : Addr} {k ni : Nat} (e : L[i]? = some (ci, ad, k)) (hl : ci.sl.length = ni) :
    ∃ g, a = some ⟨g, 0, none⟩ ∧ base ≤ g ∧ g < W.heap.size ∧ n ≤ c ∧ c ≤ maxLen ∧ W.cell? ⟨g, i * 2, none⟩ = some (.int .i64 ci.fr) ∧ W.cell? ⟨g, i * 2 + 1, none⟩ = some (.slice (some ad) (ni + 1) k) ∧ (∀ t, W.frozen? ⟨g, t, none⟩ = false) := by
  subst hl
  exact h.at_ e
theorem RowsW.copy {base : Nat} {W W' : World} {a a' : Option Addr} {n c c' : Nat} {L : List Rw} (h : RowsW base W a n c L) (hown : W'.ownsRow W.heap.size 64 2 (.slice a' n c') n (cellsR L)) (hb : Below W.heap.size W W') : RowsW W.heap.size W' a' n c' L :=
  ⟨h.len, hown, fun i r e => by
    have h1 := (h.row i r e).later hb
    refine ⟨h1.ints, h1.cap, h1.lt, fun e2 => ?_⟩
    have h2 := (h.row i r e).lt
    have h3 := (hown.lt _ e2).1
    omega⟩
theorem ints_setCell {W : World} {A : Option Addr} {n : Nat} {xs : List Int} {g t : Nat} (h : IntsAt W.heap.size W A n xs) (hne : ∀ ad, A = some ad → ad.block ≠ g) (v : Value) : IntsAt (W.setCell ⟨g, t, none⟩ v).heap.size (W.setCell ⟨g, t, none⟩ v) A n xs := by
  refine ⟨h.1, ?_⟩
  rcases h.2 with h0 | ⟨b, off, e, hb, hc⟩
  · exact .inl h0
  · refine .inr ⟨b, off, e, by simpa [World.setCell] using hb, fun q hq => ?_⟩
    have := hne _ e
    rw [World.cell?_setCell_other _ _ _ _ (by intro e; simp only [Addr.mk.injEq] at e; exact this e.1.symm)]
    exact hc q hq
theorem RowV.setCell {W : World} {g t : Nat} {o : Option Nat} {r : Rw} (h : RowV W o r) (hne : r.2.1.block ≠ g) (v : Value) : RowV (W.setCell ⟨g, t, none⟩ v) o r :=
  ⟨ints_setCell h.ints (fun ad e => by injection e with e; rw [← e]; exact hne) v, h.cap, by have := h.lt; simpa [World.setCell] using this, h.ne⟩
theorem RowsW.stored {base : Nat} {W : World} {g n c : Nat} {L : List Rw} (h : RowsW base W (some ⟨g, 0, none⟩) n c L) {i : Nat} (hi : i < n) {ci : Cu} {ad : Addr} {k ni : Nat} (hl : ci.sl.length = ni)
    (hint : IntsAt W.heap.size W (some ad) (ni + 1) (vals ci (ni + 1))) (hcap : ni + 1 ≤ k ∧ k ≤ maxLen) (hlt : ad.block < W.heap.size) (hne : ad.block ≠ g) :
    RowsW base ((W.setCell ⟨g, i * 2, none⟩ (.int .i64 ci.fr)).setCell ⟨g, i * 2 + 1, none⟩ (.slice (some ad) (ni + 1) k)) (some ⟨g, 0, none⟩) n c (L.set i (ci, ad, k)) := by
  subst hl
  have o1 := (h.own.stored (i * 2) (.int .i64 ci.fr)).1
  have o2 := (o1.stored (i * 2 + 1) (.slice (some ad) (ci.sl.length + 1) k)).1
  have e := cellsR_set L i (ci, ad, k) (by rw [h.len]; exact hi)
  dsimp only at e
  rw [e] at o2
  refine ⟨by rw [List.length_set]; exact h.len, o2, fun j r hj => ?_⟩
  have key : ∀ s : Rw, RowV W (Value.ownBlock (.slice (some ⟨g, 0, none⟩) n c)) s → RowV ((W.setCell ⟨g, i * 2, none⟩ (.int .i64 ci.fr)).setCell ⟨g, i * 2 + 1, none⟩ (.slice (some ad) (ci.sl.length + 1) k)) (Value.ownBlock (.slice (some ⟨g, 0, none⟩) n c)) s := fun s hs => by
    have hn : s.2.1.block ≠ g := fun e => hs.ne (by rw [e]; rfl)
    exact (hs.setCell hn _).setCell hn _
  rw [List.getElem?_set] at hj
  split at hj
  · split at hj
    · injection hj with hj
      rw [← hj]
      exact key _ ⟨hint, hcap, hlt, fun e => hne (by injection e with e; exact e.symm)⟩
    · cases hj
  · exact key r (h.row j r hj)
/-- the rest, joined from behind -/
structure SpI2 (cs : Nat → Cu) (n p2 : Nat) (W2 W : World) (g c : Nat) (L : List Rw) (m : Nat) : Prop where
  rows : RowsW p2 W (some ⟨g, 0, none⟩) n c L
  are : ∀ (j : Nat) (r : Rw), L[j]? = some r → r.1 = if n - 1 - m ≤ j then restC cs n j else cs j
  bl : Below p2 W2 W
theorem SpI2.later {cs : Nat → Cu} {n p2 : Nat} {W2 W W' : World} {g c : Nat} {L : List Rw} {m : Nat} (h : SpI2 cs n p2 W2 W g c L m) (hp : W2.heap.size = p2) (hb : Below W.heap.size W W') : SpI2 cs n p2 W2 W' g c L m :=
  ⟨h.rows.later hb, h.are, h.bl.trans (hb.mono (by have := h.bl.size; omega))⟩
theorem SpI2.start {cs : Nat → Cu} {n base : Nat} {W W' : World} {a : Option Addr} {c : Nat} {L : List Rw} (h : RowsW base W a n c L) (ha : AreR cs L) {a' : Option Addr} {c' : Nat} (h0 : 0 < n) (hown : W'.ownsRow W.heap.size 64 2 (.slice a' n c') n (cellsR L)) (hb : Below W.heap.size W W') :
    ∃ g, a' = some ⟨g, 0, none⟩ ∧ SpI2 cs n W.heap.size W W' g c' L 0 := by
  have hr := h.copy hown hb
  obtain ⟨r0, hr0⟩ : ∃ r, L[0]? = some r := ⟨L[0]'(by rw [h.len]; exact h0), List.getElem?_eq_getElem _⟩
  obtain ⟨g, rfl, -⟩ := hr.at_ hr0
  refine ⟨g, rfl, hr, fun j r e => ?_, hb⟩
  have hj := (List.getElem?_eq_some_iff.1 e).1
  rw [h.len] at hj
  rw [ha j r e]
  split
  · obtain rfl : j = n - 1 := by omega
    rw [rest_end]
  · rfl
theorem SpI2.stored {cs : Nat → Cu} {n p2 : Nat} {W2 W : World} {g c : Nat} {L : List Rw} {m : Nat} (h : SpI2 cs n p2 W2 W g c L m) (hp : p2 ≤ g) {i : Nat} (hi : i + 2 + m = n) {ci : Cu} (hci : ci = restC cs n i) {ad : Addr} {k ni : Nat} (hl : ci.sl.length = ni)
    (hint : IntsAt W.heap.size W (some ad) (ni + 1) (vals ci (ni + 1))) (hcap : ni + 1 ≤ k ∧ k ≤ maxLen) (hlt : ad.block < W.heap.size) (hne : ad.block ≠ g) :
    SpI2 cs n p2 W2 ((W.setCell ⟨g, i * 2, none⟩ (.int .i64 ci.fr)).setCell ⟨g, i * 2 + 1, none⟩ (.slice (some ad) (ni + 1) k)) g c (L.set i (ci, ad, k)) (m + 1) := by
  refine ⟨h.rows.stored (by omega) hl hint hcap hlt hne, fun j r hj => ?_, (h.bl.setCell (p := ⟨g, i * 2, none⟩) hp _).setCell (p := ⟨g, i * 2 + 1, none⟩) hp _⟩
  rw [List.getElem?_set] at hj
  split at hj
  · rename_i he
    subst he
    split at hj
    · injection hj with hj
      rw [← hj, if_pos (by omega)]
      exact hci
    · cases hj
  · rename_i he
    rw [h.are j r hj]
    by_cases h1 : n - 1 - m ≤ j
    · rw [if_pos h1, if_pos (by omega)]
    · rw [if_neg h1, if_neg (by omega)]
theorem two_set {W : World} {g x y : Nat} {u v : Value} {b t : Nat} (h : g ≠ b ∨ (x ≠ t ∧ y ≠ t)) : ((W.setCell ⟨g, x, none⟩ u).setCell ⟨g, y, none⟩ v).cell? ⟨b, t, none⟩ = W.cell? ⟨b, t, none⟩ := by
  rw [World.cell?_setCell_other _ _ _ _ (by intro e; simp only [Addr.mk.injEq] at e; omega), World.cell?_setCell_other _ _ _ _ (by intro e; simp only [Addr.mk.injEq] at e; omega)]
theorem set_some {W : World} {g x t : Nat} {v : Value} (h : ∃ v, W.cell? ⟨g, t, none⟩ = some v) : ∃ u, (W.setCell ⟨g, x, none⟩ v).cell? ⟨g, t, none⟩ = some u := by
  by_cases e : x = t
  · subst e
    obtain ⟨u, h⟩ := h
    exact ⟨v, World.cell?_setCell_same _ _ _ h⟩
  · rw [World.cell?_setCell_other _ _ _ _ (by intro e2; simp only [Addr.mk.injEq] at e2; omega)]
    exact h
end Go.Proofs.Ytdepnhnpklbmiaa
