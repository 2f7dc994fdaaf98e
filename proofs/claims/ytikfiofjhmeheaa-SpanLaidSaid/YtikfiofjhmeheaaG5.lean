/- The library's merge in place. -/
import Derived.Test.YtikfiofjhmeheaaG4
namespace Go.Proofs.Ytikfiofjhmeheaa
open Go.RowKit Go.Sort

theorem rot_triv (d : Nat → Nat) {s m e : Nat} (h : s = m ∨ e = m) (h1 : s ≤ m) (h2 : m ≤ e) : rotF d s m e = d := by
  funext x
  unfold rotF
  rcases h with rfl | rfl
  · repeat' split
    all_goals first | rfl | (exfalso; omega) | (congr 1; omega)
  · repeat' split
    all_goals first | rfl | (exfalso; omega) | (congr 1; omega)

/-- the contract of the merge -/
def SymSaid (g : Nat) (cb : Array Value) (kf : Nat → Int) (w0 : World) (blk n cap len : Nat) : Prop :=
  ∀ (a m b : Nat) (d : Nat → Nat) (w : World), b - a ≤ len → a < m → m < b → b ≤ n → Row w0 w blk n d → TwoRuns kf a m b d → (∀ k, a ≤ k → k < b → d k < n) →
    Calls Try.prog 114 #[.slice (some ⟨blk, 0, none⟩) n cap, .int .i64 a, .int .i64 m, .int .i64 b, .func (.func g) #[] cb] w (InsPost w0 blk n kf a b d)

/-- what the search for the cut knows -/
structure CutI (kf : Nat → Int) (a m b c i j : Nat) (d : Nat → Nat) : Prop where
  lo : a < i → c + m - i < b → kf (d (i - 1)) ≤ kf (d (c + m - i))
  hi : j < m → m < c + m - j → kf (d (c + m - j - 1)) < kf (d j)

/-- the left half behind the rotation, sorted or to be sorted -/
theorem half_done {kf : Nat → Int} {a s c : Nat} {d : Nat → Nat} (h : TwoRuns kf a s c d) (hc : s ≤ a ∨ c ≤ s) (hs : a ≤ s ∧ s ≤ c) : PermOn a c d d ∧ SortedOn kf a c d := by
  refine ⟨PermOn.refl _ _ _, ?_⟩
  rcases hc with h1 | h1
  · obtain rfl : s = a := by omega
    exact h.right
  · obtain rfl : s = c := by omega
    exact h.left
theorem TwoRuns.congr {kf : Nat → Int} {a m b : Nat} {d d' : Nat → Nat} (h : TwoRuns kf a m b d) (e : ∀ k, a ≤ k → k < b → d' k = d k) (hm : a ≤ m ∧ m ≤ b) : TwoRuns kf a m b d' :=
  ⟨fun k k' h1 h2 h3 => by rw [e k h1 (by omega), e k' (by omega) (by omega)]; exact h.left k k' h1 h2 h3,
   fun k k' h1 h2 h3 => by rw [e k (by omega) (by omega), e k' (by omega) h3]; exact h.right k k' h1 h2 h3,
   fun k k' h1 h2 h3 h4 => by rw [e k h1 (by omega), e k' (by omega) h4]; exact h.low k k' h1 h2 h3 h4⟩

/-- all together -/
theorem sym_close {kf : Nat → Int} {a m b s e c : Nat} {d d1 d2 : Nat → Nat} (h : TwoRuns kf a m b d) (hs : a ≤ s ∧ s ≤ m) (he : m ≤ e ∧ e ≤ b) (hc : c = s + (e - m))
    (h1 : a < s → e < b → kf (d (s - 1)) ≤ kf (d e)) (h2 : s < m → m < e → kf (d (e - 1)) < kf (d s))
    (p1 : PermOn a c (rotF d s m e) d1) (s1 : SortedOn kf a c d1) (p2 : PermOn c b d1 d2) (s2 : SortedOn kf c b d2) : PermOn a b d d2 ∧ SortedOn kf a b d2 := by
  subst hc
  have hcut := h.cut hs he h1 h2
  have hj := sorted_join (by omega) (by omega) p1 s1 p2 s2 (fun k k' g1 g2 g3 g4 => by
    have L : ∃ x, rotF d s m e k = d x ∧ (a ≤ x ∧ x < s ∨ m ≤ x ∧ x < e) := by
      unfold rotF
      split
      · exact ⟨_, rfl, by omega⟩
      · split
        · omega
        · exact ⟨_, rfl, by omega⟩
    have R : ∃ x, rotF d s m e k' = d x ∧ (s ≤ x ∧ x < m ∨ e ≤ x ∧ x < b) := by
      unfold rotF
      split
      · omega
      · split
        · exact ⟨_, rfl, by omega⟩
        · exact ⟨_, rfl, by omega⟩
    obtain ⟨x, ex, hx⟩ := L
    obtain ⟨y, ey, hy⟩ := R
    rw [ex, ey]
    exact hcut x y hx hy)
  exact ⟨((PermOn.rot d hs.2 he.1).mono hs.1 he.2).trans hj.1, hj.2⟩

end Go.Proofs.Ytikfiofjhmeheaa
