/- The law of what is taken back. -/
import Derived.Test.YtlbgkfidpkbafaaC45
namespace Go.Proofs.Ytlbgkfidpkbafaa
open Go.RowKit
set_option linter.unusedSimpArgs false
set_option linter.unusedVariables false
/-- a book behind two blocks -/
abbrev heap2 (q : Bool) (s : St) : AH := [⟨q, true, 45, 1, .cells [.s (.v (.bool true)), .s (.v (.int .i64 s.d)), .s (.slc 3 0 s.n), .s (.slc 4 0 s.m)]⟩, ⟨q, false, 50, 9, .recs kG s.xs⟩, ⟨q, false, 67, 4, .rows (.int .i64) s.es⟩]
abbrev blB (W : List Int) : Blk := ⟨true, true, 4, 1, .rows .bool W⟩
def b2i (b : Bool) : Int := if b = true then 1 else 0
theorem b2i_ne (b : Bool) : (b2i b != 0) = b := by cases b <;> rfl
theorem revokeS_err {s : St} {no b : Int} (h : (revokeS s no b).2.2 ≠ 0) : (revokeS s no b).1 = s ∧ (revokeS s no b).2.1 = 0 := by
  unfold revokeS at h ⊢
  split
  · exact ⟨rfl, rfl⟩
  rename_i h0
  rw [if_neg h0] at h
  split
  · exact ⟨rfl, rfl⟩
  · rename_i h1
    rw [if_neg h1] at h
    exact absurd rfl h
theorem revokeS_ok {s : St} {no b : Int} (h : (revokeS s no b).2.2 = 0) : ∃ k : Nat, k < s.n ∧ no = (k : Int) + 1 ∧ revokeS s no b = (⟨s.d, s.n, revX s.xs k, s.m, s.es⟩, ((standN s.d s.xs s.n : Nat) - (standN s.d (revX s.xs k) s.n : Nat) : Int), 0) := by
  unfold revokeS at h ⊢
  split
  · rename_i h0
    rw [if_pos h0] at h
    cases h
  rename_i h0
  rw [if_neg h0] at h
  obtain ⟨k, rfl, hk⟩ := inB_k (by simpa using h0 : inB s no = true)
  rw [succ_k] at h ⊢
  split
  · rename_i h1
    rw [if_pos h1] at h
    exact absurd h h1
  · exact ⟨k, hk, rfl, rfl⟩
theorem belowS_at {s : St} (hs : Good s) (k : Nat) : ∀ c, c ≤ s.n → (∀ q, q < (belowS s.xs k c).length → ∃ i, i < c ∧ (belowS s.xs k c).getD q 0 = (i : Int) + 1 ∧ undB s.xs k i = true) ∧ (∀ i, i < c → undB s.xs k i = true → ∃ q, q < (belowS s.xs k c).length ∧ (belowS s.xs k c).getD q 0 = (i : Int) + 1)
  | 0, _ => ⟨fun _ h => absurd h (Nat.not_lt_zero _), fun _ h => absurd h (Nat.not_lt_zero _)⟩
  | c + 1, hc => by
    obtain ⟨ih1, ih2⟩ := belowS_at hs k c (Nat.le_of_succ_le hc)
    simp only [belowS]
    by_cases hu : undB s.xs k c = true
    · rw [if_pos hu, List.length_append]
      have old : ∀ q, q < (belowS s.xs k c).length → (belowS s.xs k c ++ [fG s.xs c 0]).getD q 0 = (belowS s.xs k c).getD q 0 := fun q hq => by
        simp only [List.getD_eq_getElem?_getD]
        rw [List.getElem?_append_left hq]
      have nw : (belowS s.xs k c ++ [fG s.xs c 0]).getD (belowS s.xs k c).length 0 = (c : Int) + 1 := by
        simp only [List.getD_eq_getElem?_getD]
        rw [List.getElem?_append_right (Nat.le_refl _), Nat.sub_self]
        exact hs.no c hc
      refine ⟨fun q hq => ?_, fun i hi hui => ?_⟩
      · rcases Nat.lt_or_ge q (belowS s.xs k c).length with h | h
        · obtain ⟨i, h1, h2, h3⟩ := ih1 q h
          exact ⟨i, Nat.lt_succ_of_lt h1, by rw [old q h]; exact h2, h3⟩
        · have hq : q < (belowS s.xs k c).length + 1 := hq
          obtain rfl : q = (belowS s.xs k c).length := by omega
          exact ⟨c, Nat.lt_succ_self c, nw, hu⟩
      · rcases Nat.lt_succ_iff_lt_or_eq.1 hi with h | rfl
        · obtain ⟨q, h1, h2⟩ := ih2 i h hui
          exact ⟨q, by show q < (belowS s.xs k c).length + 1; omega, by rw [old q h1]; exact h2⟩
        · exact ⟨(belowS s.xs k i).length, by show (belowS s.xs k i).length < (belowS s.xs k i).length + 1; omega, nw⟩
    · rw [if_neg hu, List.append_nil]
      refine ⟨fun q hq => ?_, fun i hi hui => ?_⟩
      · obtain ⟨i, h1, h2⟩ := ih1 q hq
        exact ⟨i, Nat.lt_succ_of_lt h1, h2⟩
      · rcases Nat.lt_succ_iff_lt_or_eq.1 hi with h | rfl
        · exact ih2 i h hui
        · exact absurd hui hu
theorem set_at {W : List Int} {n j : Nat} (hl : W.length = n) (hj : j < n) (x : Int) (i : Nat) : (W.set j x).getD i 0 = if i = j then x else W.getD i 0 := by
  simp only [List.getD_eq_getElem?_getD]
  split
  · rename_i h
    subst h
    rw [List.getElem?_set_self (by omega)]
    rfl
  · rename_i h
    rw [List.getElem?_set_ne (fun e => h e.symm)]
/-- what stood, so far -/
structure WasI (d : Int) (xs : List Int) (n : Nat) (q : Nat × List Int) : Prop where
  c : q.1 ≤ n
  len : q.2.length = n + 1
  at_ : ∀ i, i < q.1 → q.2.getD (i + 1) 0 = b2i (standsB d xs i)
theorem wasI_0 (d : Int) (xs : List Int) (n : Nat) : WasI d xs n (0, List.replicate (n + 1) 0) := ⟨Nat.zero_le _, by simp, fun _ h => absurd h (Nat.not_lt_zero _)⟩
theorem wasI_s {d : Int} {xs : List Int} {n c : Nat} {W : List Int} (h : WasI d xs n (c, W)) (hc : c < n) : WasI d xs n (c + 1, W.set (c + 1) (b2i (standsB d xs c))) := by
  obtain ⟨h1, h2, h3⟩ := h
  dsimp only at h1 h2 h3
  refine ⟨hc, by simpa using h2, fun i hi => ?_⟩
  show (W.set (c + 1) _).getD (i + 1) 0 = _
  rw [set_at h2 (by omega)]
  have hi : i < c + 1 := hi
  split
  · rw [show i = c by omega]
  · exact h3 i (by omega)
/-- what is gone, so far -/
structure GonI (B : List Int) (n k : Nat) (q : Nat × List Int) : Prop where
  c : q.1 ≤ B.length
  len : q.2.length = n + 1
  yes : ∀ i, i < n → (i = k ∨ ∃ p, p < q.1 ∧ B.getD p 0 = (i : Int) + 1) → q.2.getD (i + 1) 0 = 1
  no : ∀ i, i < n → ¬ (i = k ∨ ∃ p, p < q.1 ∧ B.getD p 0 = (i : Int) + 1) → q.2.getD (i + 1) 0 = 0
theorem rep_get (n i : Nat) : (List.replicate n (0 : Int)).getD i 0 = 0 := by
  simp only [List.getD_eq_getElem?_getD, List.getElem?_replicate]
  split <;> rfl
theorem gonI_0 (B : List Int) {n k : Nat} (hk : k < n) : GonI B n k (0, (List.replicate (n + 1) (0 : Int)).set (k + 1) 1) := by
  have hl : (List.replicate (n + 1) (0 : Int)).length = n + 1 := by simp
  refine ⟨Nat.zero_le _, by simp, fun i hi h => ?_, fun i hi h => ?_⟩
  · show ((List.replicate (n + 1) (0 : Int)).set (k + 1) 1).getD (i + 1) 0 = 1
    rw [set_at hl (by omega)]
    rcases h with rfl | ⟨p, hp, _⟩
    · rw [if_pos rfl]
    · exact absurd hp (Nat.not_lt_zero _)
  · show ((List.replicate (n + 1) (0 : Int)).set (k + 1) 1).getD (i + 1) 0 = 0
    rw [set_at hl (by omega), if_neg (fun e => h (.inl (by omega))), rep_get]
theorem gonI_s {B : List Int} {n k c i : Nat} {W : List Int} (h : GonI B n k (c, W)) (hc : c < B.length) (hi : i < n) (hb : B.getD c 0 = (i : Int) + 1) : GonI B n k (c + 1, W.set (i + 1) 1) := by
  obtain ⟨h1, h2, h3, h4⟩ := h
  dsimp only at h1 h2 h3 h4
  refine ⟨hc, by simpa using h2, fun q hq h => ?_, fun q hq h => ?_⟩
  · show (W.set (i + 1) 1).getD (q + 1) 0 = 1
    rw [set_at h2 (by omega)]
    split
    · rfl
    · rename_i hne
      refine h3 q hq (h.imp id fun ⟨p, hp, hbp⟩ => ⟨p, ?_, hbp⟩)
      have hp : p < c + 1 := hp
      rcases Nat.lt_succ_iff_lt_or_eq.1 hp with h | rfl
      · exact h
      · exfalso
        rw [hb] at hbp
        exact hne (by omega)
  · show (W.set (i + 1) 1).getD (q + 1) 0 = 0
    rw [set_at h2 (by omega), if_neg (fun e => h (.inr ⟨c, Nat.lt_succ_self c, by rw [hb, show q = i by omega]⟩))]
    exact h4 q hq fun h' => h (h'.imp id fun ⟨p, hp, hbp⟩ => ⟨p, Nat.lt_succ_of_lt hp, hbp⟩)
theorem gonI_end {s : St} (hs : Good s) {k : Nat} {W : List Int} (hk : k < s.n) (h : GonI (belowS s.xs k s.n) s.n k ((belowS s.xs k s.n).length, W)) {i : Nat} (hi : i < s.n) : W.getD (i + 1) 0 = b2i (decide (k ∈ line s.xs i)) := by
  obtain ⟨_, h2, h3, h4⟩ := h
  dsimp only at h2 h3 h4
  obtain ⟨b1, b2⟩ := belowS_at hs k s.n (Nat.le_refl _)
  by_cases hm : k ∈ line s.xs i
  · rw [decide_eq_true hm]
    refine h3 i hi ?_
    by_cases he : i = k
    · exact .inl he
    · refine .inr (b2 i hi ?_)
      unfold undB
      rw [decide_eq_true hm, beq_eq_false_iff_ne.2 he]
      rfl
  · rw [decide_eq_false hm]
    refine h4 i hi fun h => ?_
    rcases h with rfl | ⟨p, hp, hb⟩
    · exact hm (line_self hs hi)
    · obtain ⟨q, hq, hbq, hu⟩ := b1 p hp
      rw [hb] at hbq
      obtain rfl : i = q := by omega
      unfold undB at hu
      rw [Bool.and_eq_true] at hu
      exact hm (of_decide_eq_true hu.2)
end Go.Proofs.Ytlbgkfidpkbafaa
