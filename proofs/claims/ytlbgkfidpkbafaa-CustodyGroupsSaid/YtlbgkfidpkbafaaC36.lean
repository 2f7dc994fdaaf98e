/- What a group could open, by what it holds. -/
import Derived.Test.YtlbgkfidpkbafaaC35
namespace Go.Proofs.Ytlbgkfidpkbafaa
open Go.RowKit
set_option linter.unusedSimpArgs false
set_option linter.unusedVariables false
theorem hasV_bit {P h : Int} (hP : 0 ≤ P) : hasV P h = P.toNat.testBit h.toNat := by
  unfold hasV
  have e : (P.fdiv (2 ^ h.toNat)).toNat = P.toNat / 2 ^ h.toNat := by
    obtain ⟨p, rfl⟩ : ∃ p : Nat, P = (p : Int) := ⟨P.toNat, by omega⟩
    have hp : (0 : Int) ≤ 2 ^ h.toNat := Int.le_of_lt (Int.pow_pos (by decide))
    rw [Int.fdiv_eq_ediv_of_nonneg _ hp]
    have h1 : ((p : Int) / 2 ^ h.toNat) = ((p / 2 ^ h.toNat : Nat) : Int) := by
      rw [Int.natCast_ediv, Int.natCast_pow]
      rfl
    rw [h1, Int.toNat_natCast, Int.toNat_natCast]
  rw [e, Nat.testBit_eq_decide_div_mod_eq, Nat.and_one_is_mod]
  by_cases h1 : P.toNat / 2 ^ h.toNat % 2 = 1
  · rw [h1]
    rfl
  · have : P.toNat / 2 ^ h.toNat % 2 = 0 := by omega
    rw [this]
    rfl
theorem keysF_sorted (s : St) (P : Int) : ∀ c, (keysF s P c).Pairwise (· < ·)
  | 0 => List.Pairwise.nil
  | c + 1 => by
    have ih := keysF_sorted s P c
    simp only [keysF]
    split
    · rw [List.pairwise_append]
      refine ⟨ih, List.pairwise_singleton _ _, fun a ha b hb => ?_⟩
      rw [List.mem_singleton] at hb
      subst hb
      exact ((keysF_mem s P).1 ha).1
    · exact ih
def pairB (s : St) (P : Int) (v a b : Nat) : Prop := meetB s.xs P a b = true ∧ (vN s.xs a).testBit v = true ∧ (vN s.xs b).testBit v = true
theorem innF_bit (s : St) (P : Int) (l : List Nat) (j a0 v : Nat) : ∀ i, (innF s P l j a0 i).testBit v = true ↔ a0.testBit v = true ∨ ∃ q, q < i ∧ pairB s P v (l.getD j 0) (l.getD q 0)
  | 0 => by simp [innF]
  | i + 1 => by
    have ih := innF_bit s P l j a0 v i
    simp only [innF]
    split
    · rename_i h
      rw [Nat.testBit_or, Bool.or_eq_true, ih, Nat.testBit_and, Bool.and_eq_true]
      constructor
      · rintro ((h1 | ⟨q, h1, h2⟩) | ⟨h1, h2⟩)
        · exact .inl h1
        · exact .inr ⟨q, by omega, h2⟩
        · exact .inr ⟨i, by omega, h, h1, h2⟩
      · rintro (h1 | ⟨q, h1, h2⟩)
        · exact .inl (.inl h1)
        · by_cases e : q = i
          · subst e
            exact .inr h2.2
          · exact .inl (.inr ⟨q, by omega, h2⟩)
    · rename_i h
      rw [ih]
      constructor
      · rintro (h1 | ⟨q, h1, h2⟩)
        · exact .inl h1
        · exact .inr ⟨q, by omega, h2⟩
      · rintro (h1 | ⟨q, h1, h2⟩)
        · exact .inl h1
        · by_cases e : q = i
          · subst e
            exact absurd h2.1 h
          · exact .inr ⟨q, by omega, h2⟩
theorem outF_bit (s : St) (P : Int) (l : List Nat) (v : Nat) : ∀ j, (outF s P l j).testBit v = true ↔ ∃ p q, p < j ∧ q < p ∧ pairB s P v (l.getD p 0) (l.getD q 0)
  | 0 => by simp [outF]
  | j + 1 => by
    have ih := outF_bit s P l v j
    simp only [outF]
    rw [innF_bit, ih]
    constructor
    · rintro (⟨p, q, h1, h2, h3⟩ | ⟨q, h1, h2⟩)
      · exact ⟨p, q, by omega, h2, h3⟩
      · exact ⟨j, q, by omega, h1, h2⟩
    · rintro ⟨p, q, h1, h2, h3⟩
      by_cases e : p = j
      · subst e
        exact .inr ⟨q, h2, h3⟩
      · exact .inl ⟨p, q, by omega, h2, h3⟩
theorem couldV_bit (s : St) (P : Int) (v : Nat) : (couldV s P).testBit v = true ↔ ∃ a b, b < a ∧ a < s.n ∧ keyOk s P a = true ∧ keyOk s P b = true ∧ pairB s P v a b := by
  unfold couldV
  rw [outF_bit]
  have hm := fun i => keysF_mem s P (c := s.n) (i := i)
  have hs := keysF_sorted s P s.n
  generalize keysF s P s.n = l at *
  have hg : ∀ i, i < l.length → l.getD i 0 ∈ l := fun i hi => by
    simp only [List.getD_eq_getElem?_getD, List.getElem?_eq_getElem hi, Option.getD_some]
    exact List.getElem_mem hi
  have hlt : ∀ i j, i < j → j < l.length → l.getD i 0 < l.getD j 0 := fun i j h1 h2 => by
    simp only [List.getD_eq_getElem?_getD, List.getElem?_eq_getElem h2, List.getElem?_eq_getElem (Nat.lt_trans h1 h2), Option.getD_some]
    exact List.pairwise_iff_getElem.1 hs i j (Nat.lt_trans h1 h2) h2 h1
  constructor
  · rintro ⟨p, q, h1, h2, h3⟩
    have a1 := (hm _).1 (hg p h1)
    have a2 := (hm _).1 (hg q (by omega))
    exact ⟨_, _, hlt q p h2 h1, a1.1, a1.2, a2.2, h3⟩
  · rintro ⟨a, b, h1, h2, h3, h4, h5⟩
    obtain ⟨p, hp, e1⟩ := List.mem_iff_getElem.1 ((hm a).2 ⟨h2, h3⟩)
    obtain ⟨q, hq, e2⟩ := List.mem_iff_getElem.1 ((hm b).2 ⟨by omega, h4⟩)
    have f1 : l.getD p 0 = a := by simp only [List.getD_eq_getElem?_getD, List.getElem?_eq_getElem hp, Option.getD_some, e1]
    have f2 : l.getD q 0 = b := by simp only [List.getD_eq_getElem?_getD, List.getElem?_eq_getElem hq, Option.getD_some, e2]
    refine ⟨p, q, hp, ?_, by rw [f1, f2]; exact h5⟩
    rcases Nat.lt_or_ge q p with h | h
    · exact h
    · rcases Nat.eq_or_lt_of_le h with h | h
      · subst h
        omega
      · have := hlt p q h hq
        omega
/-- more persons could open no less -/
theorem could_more {s : St} (hs : Good s) {P M : Int} (hP : 0 ≤ P) (hM : 0 ≤ M) : couldV s P &&& couldV s ((P.toNat ||| M.toNat : Nat) : Int) = couldV s P := by
  apply Nat.eq_of_testBit_eq
  intro v
  rw [Nat.testBit_and]
  cases hb : (couldV s P).testBit v with
  | false => rfl
  | true =>
    rw [Bool.true_and]
    obtain ⟨a, b, h1, h2, h3, h4, h5⟩ := (couldV_bit s P v).1 hb
    have up : ∀ k, keyOk s P k = true → keyOk s ((P.toNat ||| M.toNat : Nat) : Int) k = true := fun k h => by
      unfold keyOk at h ⊢
      simp only [Bool.and_eq_true] at h ⊢
      obtain ⟨⟨⟨g1, g2⟩, g3⟩, g4⟩ := h
      refine ⟨⟨⟨?_, g2⟩, g3⟩, g4⟩
      rw [hasV_bit hP] at g1
      rw [hasV_bit (by omega)]
      simp only [Int.toNat_natCast, Nat.testBit_or, g1, Bool.true_or]
    refine (couldV_bit s _ v).2 ⟨a, b, h1, h2, up a h3, up b h4, ?_, h5.2⟩
    have hmeet := h5.1
    have hh : P.toNat.testBit (fG s.xs a 3).toNat = true := by
      unfold keyOk at h3
      simp only [Bool.and_eq_true] at h3
      have := h3.1.1.1
      rwa [hasV_bit hP] at this
    unfold meetB at hmeet ⊢
    simp only [Bool.and_eq_true, Bool.or_eq_true, Bool.not_eq_true', beq_eq_false_iff_ne] at hmeet ⊢
    refine ⟨hmeet.1, hmeet.2.imp id fun g => ⟨g.1, fun e => g.2 ?_⟩⟩
    have e : P.toNat ||| M.toNat = 2 ^ (fG s.xs a 3).toNat := by
      have : ((P.toNat ||| M.toNat : Nat) : Int) = ((2 ^ (fG s.xs a 3).toNat : Nat) : Int) := by
        rw [e, Int.one_mul]
        norm_cast
      exact_mod_cast this
    have : P.toNat = 2 ^ (fG s.xs a 3).toNat := by
      apply Nat.eq_of_testBit_eq
      intro i
      have ei := congrArg (fun x => Nat.testBit x i) e
      simp only [Nat.testBit_or, Nat.testBit_two_pow] at ei
      rw [Nat.testBit_two_pow]
      by_cases hi : (fG s.xs a 3).toNat = i
      · rw [decide_eq_true hi, ← hi]
        exact hh
      · rw [decide_eq_false hi] at ei ⊢
        rw [Bool.or_eq_false_iff] at ei
        exact ei.1
    have e2 : P = ((2 ^ (fG s.xs a 3).toNat : Nat) : Int) := by omega
    rw [e2, Int.one_mul]
    norm_cast
/-! a root more, for a person outside -/
theorem line_app {n : Nat} {xs : List Int} (hw : Wf n xs) (zs : List Int) : ∀ {k : Nat}, k < n → ∀ f, lineN (xs ++ zs) f k = lineN xs f k := by
  intro k hk f
  induction f generalizing k with
  | zero => rfl
  | succ f ih =>
    have e : (xs ++ zs).getD (k * 9 + 1) 0 = xs.getD (k * 9 + 1) 0 := app_old hw.len zs hk (by decide)
    have h1 := hw.ge k hk
    have h2 := hw.le k hk
    simp only [lineN]
    rw [e]
    split
    · rfl
    · rw [ih (by omega)]
theorem line_app' {n : Nat} {xs : List Int} (hw : Wf n xs) (zs : List Int) {k : Nat} (hk : k < n) : line (xs ++ zs) k = line xs k := line_app hw zs hk k
theorem any_congr {l : List Nat} {p q : Nat → Bool} (h : ∀ i ∈ l, p i = q i) : l.any p = l.any q := by
  induction l with
  | nil => rfl
  | cons a l ih =>
    rw [List.any_cons, List.any_cons, h a List.mem_cons_self, ih (fun i hi => h i (List.mem_cons_of_mem _ hi))]
theorem keyOk_app {s : St} (hs : Good s) (zs : List Int) (P : Int) {k : Nat} (hk : k < s.n) : keyOk ⟨s.d, s.n + 1, s.xs ++ zs, s.m, s.es⟩ P k = keyOk s P k := by
  have hw := hs.rng.wf
  have hx := hw.len
  have hl := line_lt hw hk
  have g : ∀ {i o : Nat}, i < s.n → o < 9 → fG (s.xs ++ zs) i o = fG s.xs i o := fun hi ho => app_old hx zs hi ho
  unfold keyOk standsB spentB
  dsimp only
  rw [g hk (by decide), g hk (by decide), g hk (by decide), line_app' hw zs hk]
  rw [any_congr (p := revG (s.xs ++ zs)) (q := revG s.xs) (fun i hi => by
    show (fG (s.xs ++ zs) i 8 != 0) = (fG s.xs i 8 != 0)
    rw [g (hl i hi) (by decide)])]
  rw [any_congr (p := zeroG (s.xs ++ zs)) (q := zeroG s.xs) (fun i hi => by
    unfold zeroG
    rw [g (hl i hi) (by decide)])]
theorem keysF_app {s : St} (hs : Good s) (zs : List Int) (P : Int) : ∀ {c : Nat}, c ≤ s.n → keysF ⟨s.d, s.n + 1, s.xs ++ zs, s.m, s.es⟩ P c = keysF s P c
  | 0, _ => rfl
  | c + 1, hc => by
    simp only [keysF]
    rw [keysF_app hs zs P (c := c) (by omega), keyOk_app hs zs P (by omega)]
theorem innF_app {s : St} (hs : Good s) (zs : List Int) (P : Int) {l : List Nat} (hl : ∀ i ∈ l, i < s.n) {j : Nat} (hj : j < l.length) (a0 : Nat) : ∀ {i : Nat}, i ≤ l.length → innF ⟨s.d, s.n + 1, s.xs ++ zs, s.m, s.es⟩ P l j a0 i = innF s P l j a0 i
  | 0, _ => rfl
  | i + 1, hi => by
    have ih := innF_app hs zs P hl hj a0 (i := i) (by omega)
    have h1 := getD_lt hl hj
    have h2 := getD_lt hl (show i < l.length by omega)
    have g : ∀ {i o : Nat}, i < s.n → o < 9 → fG (s.xs ++ zs) i o = fG s.xs i o := fun hi ho => app_old hs.rng.wf.len zs hi ho
    simp only [innF]
    rw [ih]
    have em : meetB (s.xs ++ zs) P (l.getD j 0) (l.getD i 0) = meetB s.xs P (l.getD j 0) (l.getD i 0) := by
      unfold meetB
      rw [g h1 (show 2 < 9 by decide), g h2 (show 2 < 9 by decide), g h1 (show 3 < 9 by decide), g h2 (show 3 < 9 by decide), g h1 (show 5 < 9 by decide), g h2 (show 5 < 9 by decide)]
    have e4 : ∀ {k : Nat}, k < s.n → vN (s.xs ++ zs) k = vN s.xs k := fun hk => by
      show (fG (s.xs ++ zs) _ 4).toNat = _
      rw [g hk (by decide)]
    rw [em, e4 h1, e4 h2]
theorem outF_app {s : St} (hs : Good s) (zs : List Int) (P : Int) {l : List Nat} (hl : ∀ i ∈ l, i < s.n) : ∀ {j : Nat}, j ≤ l.length → outF ⟨s.d, s.n + 1, s.xs ++ zs, s.m, s.es⟩ P l j = outF s P l j
  | 0, _ => rfl
  | j + 1, hj => by
    simp only [outF]
    rw [outF_app hs zs P hl (j := j) (by omega), innF_app hs zs P hl (by omega) _ (by omega)]
theorem could_root {s : St} (hs : Good s) {P h v r u us : Int} (hh : hasV P h = false) : couldV (grantS s h v r u us).1 P = couldV s P := by
  unfold grantS
  split
  · rfl
  · split
    · rfl
    · dsimp only
      generalize hz : [(s.n : Int) + 1, 0, (s.n : Int) + 1, h, v, r, u, us, 0] = zs
      have hk : keysF ⟨s.d, s.n + 1, s.xs ++ zs, s.m, s.es⟩ P (s.n + 1) = keysF s P s.n := by
        simp only [keysF]
        rw [keysF_app hs zs P (Nat.le_refl _), if_neg ?_]
        have e : fG (s.xs ++ zs) s.n 3 = h := by
          rw [app_new hs.rng.wf.len, ← hz]
          rfl
        unfold keyOk
        dsimp only
        rw [e, hh]
        simp
      unfold couldV
      dsimp only
      rw [hk]
      exact outF_app hs zs P (fun i hi => ((keysF_mem s P).1 hi).1) (Nat.le_refl _)
end Go.Proofs.Ytlbgkfidpkbafaa
