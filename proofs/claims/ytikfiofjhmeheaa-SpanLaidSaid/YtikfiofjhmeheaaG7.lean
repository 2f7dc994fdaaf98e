/- The mathematics of the library's stable sort: groups, sorted within, that are merged two by two. -/
import Derived.Test.YtikfiofjhmeheaaG2
namespace Go.Proofs.Ytikfiofjhmeheaa
open Go.RowKit Go.Sort

/-- between k and k' begins a group -/
def Cut (B : Nat → Prop) (k k' : Nat) : Prop := ∃ c, B c ∧ k < c ∧ c ≤ k'
/-- groups, each sorted, an earlier one's indexes below a later one's -/
structure Grp (kf : Nat → Int) (B : Nat → Prop) (n : Nat) (d : Nat → Nat) : Prop where
  low : ∀ k k', k < k' → k' < n → Cut B k k' → d k < d k'
  sort : ∀ k k', k < k' → k' < n → ¬ Cut B k k' → lexL kf (d k) (d k')
  perm : PermOn 0 n (fun k => k) d

theorem Grp.merge {kf : Nat → Int} {B B' : Nat → Prop} {n a b : Nat} {d d' : Nat → Nat} (h : Grp kf B n d) (hb : b ≤ n) (hp : PermOn a b d d') (hs : SortedOn kf a b d') (ha : B' a) (hb' : B' b ∨ n ≤ b)
    (h1 : ∀ c, B' c → B c) (h2 : ∀ c, B c → ¬ (a < c ∧ c < b) → B' c) (h3 : ∀ c, B' c → ¬ (a < c ∧ c < b)) : Grp kf B' n d' := by
  obtain ⟨s, q1, q2, q3, q4⟩ := hp
  refine ⟨fun k k' hk hk' hc => ?_, fun k k' hk hk' hc => ?_, h.perm.trans (PermOn.mono ⟨s, q1, q2, q3, q4⟩ (Nat.zero_le _) hb)⟩
  · obtain ⟨c, c1, c2, c3⟩ := hc
    have c4 := h3 c c1
    have lo : ∀ j, j < c → ∃ i, i < c ∧ d' j = d i := fun j hj => by
      by_cases hin : a ≤ j ∧ j < b
      · have := q1 j hin.1 hin.2
        exact ⟨s j, by omega, q3 j hin.1 hin.2⟩
      · exact ⟨j, hj, q4 j (by omega)⟩
    have up : ∀ j, c ≤ j → j < n → ∃ i, c ≤ i ∧ i < n ∧ d' j = d i := fun j hj hj2 => by
      by_cases hin : a ≤ j ∧ j < b
      · have := q1 j hin.1 hin.2
        exact ⟨s j, by omega, by omega, q3 j hin.1 hin.2⟩
      · exact ⟨j, hj, hj2, q4 j (by omega)⟩
    obtain ⟨i, i1, i2⟩ := lo k c2
    obtain ⟨i', i3, i4, i5⟩ := up k' c3 hk'
    rw [i2, i5]
    exact h.low i i' (by omega) i4 ⟨c, h1 c c1, i1, i3⟩
  · have hka : ¬ (k < a ∧ a ≤ k') := fun hh => hc ⟨a, ha, hh.1, hh.2⟩
    have hkb : ¬ (k < b ∧ b ≤ k') := fun hh => by
      rcases hb' with e | e
      · exact hc ⟨b, e, hh.1, hh.2⟩
      · omega
    by_cases hin : a ≤ k ∧ k' < b
    · exact hs k k' hin.1 hk hin.2
    · rw [q4 k (by omega), q4 k' (by omega)]
      refine h.sort k k' hk hk' fun ⟨c, c1, c2, c3⟩ => hc ⟨c, h2 c c1 (by omega), c2, c3⟩

theorem Grp.start (kf : Nat → Int) (n : Nat) : Grp kf (fun _ => True) n (fun k => k) :=
  ⟨fun _ _ h _ _ => h, fun _ k' h _ hc => absurd ⟨k', trivial, h, Nat.le_refl _⟩ hc, PermOn.refl _ _ _⟩
theorem Grp.congr {kf : Nat → Int} {B B' : Nat → Prop} {n : Nat} {d : Nat → Nat} (h : Grp kf B n d) (e : ∀ c, 0 < c → c < n → (B c ↔ B' c)) : Grp kf B' n d := by
  have hc : ∀ k k', k' < n → (Cut B k k' ↔ Cut B' k k') := fun k k' hk => by
    constructor
    · rintro ⟨c, c1, c2, c3⟩; exact ⟨c, (e c (by omega) (by omega)).1 c1, c2, c3⟩
    · rintro ⟨c, c1, c2, c3⟩; exact ⟨c, (e c (by omega) (by omega)).2 c1, c2, c3⟩
  exact ⟨fun k k' h1 h2 h3 => h.low k k' h1 h2 ((hc k k' h2).2 h3), fun k k' h1 h2 h3 => h.sort k k' h1 h2 fun h4 => h3 ((hc k k' h2).1 h4), h.perm⟩
theorem Grp.fin {kf : Nat → Int} {B : Nat → Prop} {n : Nat} {d : Nat → Nat} (h : Grp kf B n d) (e : ∀ c, 0 < c → c < n → ¬ B c) : PermOn 0 n (fun k => k) d ∧ SortedOn kf 0 n d :=
  ⟨h.perm, fun k k' _ h2 h3 => h.sort k k' h2 h3 fun ⟨c, c1, c2, c3⟩ => e c (by omega) (by omega) c1⟩
theorem Grp.small {kf : Nat → Int} {B : Nat → Prop} {n : Nat} {d : Nat → Nat} (h : Grp kf B n d) : ∀ k, k < n → d k < n := fun k hk =>
  h.perm.all (Q := fun v => v < n) (fun _ _ hj => hj) k (Nat.zero_le _) hk
theorem Grp.runs {kf : Nat → Int} {B : Nat → Prop} {n a m b : Nat} {d : Nat → Nat} (h : Grp kf B n d) (hm : a ≤ m ∧ m ≤ b) (hb : b ≤ n) (h1 : B m) (h2 : ∀ c, B c → ¬ (a < c ∧ c < m)) (h3 : ∀ c, B c → ¬ (m < c ∧ c < b)) : TwoRuns kf a m b d :=
  ⟨fun k k' g1 g2 g3 => h.sort k k' g2 (by omega) fun ⟨c, c1, c2, c3⟩ => h2 c c1 (by omega),
   fun k k' g1 g2 g3 => h.sort k k' g2 (by omega) fun ⟨c, c1, c2, c3⟩ => h3 c c1 (by omega),
   fun k k' g1 g2 g3 g4 => h.low k k' (by omega) (by omega) ⟨m, h1, g2, g3⟩⟩
/-- where each element is a group of its own the indexes ascend -/
theorem Grp.ups {kf : Nat → Int} {B : Nat → Prop} {n a b : Nat} {d : Nat → Nat} (h : Grp kf B n d) (hb : b ≤ n) (h1 : ∀ c, a < c → c < b → B c) : ∀ k k', a ≤ k → k < k' → k' < b → d k < d k' :=
  fun k k' g1 g2 g3 => h.low k k' g2 (by omega) ⟨k', h1 k' (by omega) g3, g2, Nat.le_refl _⟩

/-- below a groups of s, from a on groups of one -/
def B1 (s a : Nat) (c : Nat) : Prop := (c ≤ a ∧ s ∣ c) ∨ a ≤ c
/-- below a groups of two s, from a on groups of s -/
def B2 (s a : Nat) (c : Nat) : Prop := (c ≤ a ∧ 2 * s ∣ c) ∨ (a ≤ c ∧ s ∣ c)

theorem b1_step {kf : Nat → Int} {s t n : Nat} {d d' : Nat → Nat} (h : Grp kf (B1 s (s * t)) n d) (hs : 0 < s) (hb : s * t + s ≤ n) (hp : PermOn (s * t) (s * t + s) d d') (hS : SortedOn kf (s * t) (s * t + s) d') : Grp kf (B1 s (s * (t + 1))) n d' := by
  have e : s * (t + 1) = s * t + s := Nat.mul_succ s t
  refine h.merge hb hp hS (.inl ⟨by omega, Nat.dvd_mul_right _ _⟩) (.inl (.inl ⟨by omega, ⟨t + 1, e.symm⟩⟩)) (fun c hc => ?_) (fun c hc h3 => ?_) (fun c hc => ?_)
  · rcases hc with ⟨c1, c2⟩ | c1
    · by_cases h4 : c ≤ s * t
      · exact .inl ⟨h4, c2⟩
      · exact .inr (by omega)
    · exact .inr (by omega)
  · rcases hc with ⟨c1, c2⟩ | c1
    · exact .inl ⟨by omega, c2⟩
    · by_cases h4 : c = s * t
      · exact .inl ⟨by omega, by rw [h4]; exact Nat.dvd_mul_right _ _⟩
      · exact .inr (by omega)
  · rintro ⟨c1, c2⟩
    rcases hc with ⟨_, q, hq⟩ | c3
    · rw [hq] at c1 c2
      have h5 : s * t < s * q := c1
      have h6 : s * q < s * (t + 1) := by omega
      have h7 := Nat.lt_of_mul_lt_mul_left h5
      have h8 := Nat.lt_of_mul_lt_mul_left h6
      omega
    · omega
theorem b1_last {kf : Nat → Int} {s t n : Nat} {d d' : Nat → Nat} (h : Grp kf (B1 s (s * t)) n d) (_ : 0 < s) (hb : n < s * t + s) (ha : s * t ≤ n) (hp : PermOn (s * t) n d d') (hS : SortedOn kf (s * t) n d') : Grp kf (fun c => s ∣ c) n d' := by
  refine (h.merge (B' := fun c => (c ≤ s * t ∧ s ∣ c) ∨ n ≤ c) (Nat.le_refl _) hp hS (.inl ⟨Nat.le_refl _, Nat.dvd_mul_right _ _⟩) (.inr (Nat.le_refl _)) (fun c hc => ?_) (fun c hc h3 => ?_) (fun c hc => ?_)).congr fun c c1 c2 => ?_
  · rcases hc with hc | hc
    · exact .inl hc
    · exact .inr (by omega)
  · rcases hc with hc | hc
    · exact .inl hc
    · by_cases h4 : c = s * t
      · exact .inl ⟨by omega, by rw [h4]; exact Nat.dvd_mul_right _ _⟩
      · exact .inr (by omega)
  · rintro ⟨c1, c2⟩
    rcases hc with ⟨h4, _⟩ | h4 <;> omega
  · constructor
    · rintro (⟨_, h4⟩ | h4)
      · exact h4
      · omega
    · intro h4
      obtain ⟨q, hq⟩ := h4
      by_cases h5 : c ≤ s * t
      · exact .inl ⟨h5, q, hq⟩
      · exfalso
        have h6 : s * t < s * q := by omega
        have h7 : s * q < s * (t + 1) := by rw [Nat.mul_succ]; omega
        have := Nat.lt_of_mul_lt_mul_left h6
        have := Nat.lt_of_mul_lt_mul_left h7
        omega
theorem b2_start {kf : Nat → Int} {s n : Nat} {d : Nat → Nat} (h : Grp kf (fun c => s ∣ c) n d) : Grp kf (B2 s 0) n d :=
  h.congr fun c c1 _ => ⟨fun h => .inr ⟨Nat.zero_le _, h⟩, fun h => by rcases h with ⟨h1, _⟩ | ⟨_, h1⟩; omega; exact h1⟩
theorem dvd_between {s q c : Nat} (h : s ∣ c) (h1 : s * q < c) (h2 : c < s * (q + 1)) : False := by
  obtain ⟨t, rfl⟩ := h
  have := Nat.lt_of_mul_lt_mul_left h1
  have := Nat.lt_of_mul_lt_mul_left h2
  omega
theorem two_dvd {s c : Nat} (h : 2 * s ∣ c) : s ∣ c := Nat.dvd_trans ⟨2, by omega⟩ h
theorem b2_runs {kf : Nat → Int} {s t n b : Nat} {d : Nat → Nat} (h : Grp kf (B2 s (2 * s * t)) n d) (hs : 0 < s) (h1 : 2 * s * t + s ≤ b) (h2 : b ≤ 2 * s * t + 2 * s) (hb : b ≤ n) : TwoRuns kf (2 * s * t) (2 * s * t + s) b d := by
  have e0 : 2 * s * t = s * (2 * t) := by rw [Nat.mul_comm 2 s, Nat.mul_assoc]
  have e1 : s * (2 * t + 1) = s * (2 * t) + s := Nat.mul_succ _ _
  have e2 : s * (2 * t + 1 + 1) = s * (2 * t + 1) + s := Nat.mul_succ _ _
  have hd : ∀ c, B2 s (2 * s * t) c → s ∣ c := fun c hc => by
    rcases hc with ⟨_, hc⟩ | ⟨_, hc⟩
    · exact two_dvd hc
    · exact hc
  refine h.runs ⟨by omega, h1⟩ hb (.inr ⟨by omega, ⟨2 * t + 1, by omega⟩⟩) (fun c hc hh => ?_) (fun c hc hh => ?_)
  · exact dvd_between (q := 2 * t) (hd c hc) (by omega) (by omega)
  · exact dvd_between (q := 2 * t + 1) (hd c hc) (by omega) (by omega)
theorem b2_step {kf : Nat → Int} {s t n : Nat} {d d' : Nat → Nat} (h : Grp kf (B2 s (2 * s * t)) n d) (hs : 0 < s) (hb : 2 * s * t + 2 * s ≤ n) (hp : PermOn (2 * s * t) (2 * s * t + 2 * s) d d') (hS : SortedOn kf (2 * s * t) (2 * s * t + 2 * s) d') : Grp kf (B2 s (2 * s * (t + 1))) n d' := by
  have e : 2 * s * (t + 1) = 2 * s * t + 2 * s := Nat.mul_succ _ _
  refine h.merge hb hp hS (.inl ⟨by omega, Nat.dvd_mul_right _ _⟩) (.inl (.inl ⟨by omega, ⟨t + 1, e.symm⟩⟩)) (fun c hc => ?_) (fun c hc h3 => ?_) (fun c hc => ?_)
  · rcases hc with ⟨c1, c2⟩ | ⟨c1, c2⟩
    · by_cases h4 : c ≤ 2 * s * t
      · exact .inl ⟨h4, c2⟩
      · exact .inr ⟨by omega, two_dvd c2⟩
    · exact .inr ⟨by omega, c2⟩
  · rcases hc with ⟨c1, c2⟩ | ⟨c1, c2⟩
    · exact .inl ⟨by omega, c2⟩
    · by_cases h4 : c = 2 * s * t
      · exact .inl ⟨by omega, by rw [h4]; exact Nat.dvd_mul_right _ _⟩
      · exact .inr ⟨by omega, c2⟩
  · rintro ⟨c1, c2⟩
    rcases hc with ⟨_, h4⟩ | ⟨h4, _⟩
    · exact dvd_between (q := t) h4 c1 (by omega)
    · omega
theorem b2_last {kf : Nat → Int} {s t n : Nat} {d d' : Nat → Nat} (h : Grp kf (B2 s (2 * s * t)) n d) (_ : 0 < s) (hb : n < 2 * s * t + 2 * s) (ha : 2 * s * t ≤ n) (hp : PermOn (2 * s * t) n d d') (hS : SortedOn kf (2 * s * t) n d') : Grp kf (fun c => 2 * s ∣ c) n d' := by
  have e : 2 * s * (t + 1) = 2 * s * t + 2 * s := Nat.mul_succ _ _
  refine (h.merge (B' := fun c => (c ≤ 2 * s * t ∧ 2 * s ∣ c) ∨ (n ≤ c ∧ s ∣ c)) (Nat.le_refl _) hp hS (.inl ⟨Nat.le_refl _, Nat.dvd_mul_right _ _⟩) (.inr (Nat.le_refl _)) (fun c hc => ?_) (fun c hc h3 => ?_) (fun c hc => ?_)).congr fun c c1 c2 => ?_
  · rcases hc with hc | ⟨hc, hc2⟩
    · exact .inl hc
    · exact .inr ⟨by omega, hc2⟩
  · rcases hc with hc | ⟨hc, hc2⟩
    · exact .inl hc
    · by_cases h4 : c = 2 * s * t
      · exact .inl ⟨by omega, by rw [h4]; exact Nat.dvd_mul_right _ _⟩
      · exact .inr ⟨by omega, hc2⟩
  · rintro ⟨c1, c2⟩
    rcases hc with ⟨h4, _⟩ | ⟨h4, _⟩ <;> omega
  · constructor
    · rintro (⟨_, h4⟩ | ⟨h4, _⟩)
      · exact h4
      · omega
    · intro h4
      by_cases h5 : c ≤ 2 * s * t
      · exact .inl ⟨h5, h4⟩
      · exact (dvd_between (q := t) h4 (by omega) (by omega)).elim
/-- nothing is left to merge: from a on there is one group -/
theorem b2_alone {kf : Nat → Int} {s t n : Nat} {d : Nat → Nat} (h : Grp kf (B2 s (2 * s * t)) n d) (_ : 0 < s) (hb : n ≤ 2 * s * t + s) (_ : 2 * s * t ≤ n) : Grp kf (fun c => 2 * s ∣ c) n d := by
  have e0 : 2 * s * t = s * (2 * t) := by rw [Nat.mul_comm 2 s, Nat.mul_assoc]
  have e1 : s * (2 * t + 1) = s * (2 * t) + s := Nat.mul_succ _ _
  have e : 2 * s * (t + 1) = 2 * s * t + 2 * s := Nat.mul_succ _ _
  refine h.congr fun c c1 c2 => ⟨fun hc => ?_, fun hc => ?_⟩
  · rcases hc with ⟨_, hc⟩ | ⟨h3, hc⟩
    · exact hc
    · by_cases h4 : c = 2 * s * t
      · rw [h4]; exact Nat.dvd_mul_right _ _
      · exact (dvd_between (q := 2 * t) hc (by omega) (by omega)).elim
  · by_cases h5 : c ≤ 2 * s * t
    · exact .inl ⟨h5, hc⟩
    · exact (dvd_between (q := t) hc (by omega) (by omega)).elim

end Go.Proofs.Ytikfiofjhmeheaa
