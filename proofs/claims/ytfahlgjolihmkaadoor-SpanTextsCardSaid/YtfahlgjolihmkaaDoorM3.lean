/- Plain facts: there is one order of n indexes by a key, equal ones by index. -/
import Derived.Test.YtfahlgjolihmkaaDoorM2
namespace Go.Proofs.YtfahlgjolihmkaaDoor

theorem onto (n : Nat) : ∀ s : Nat → Nat, (∀ k, k < n → s k < n) → (∀ k k', k < n → k' < n → s k = s k' → k = k') → ∀ v, v < n → ∃ k, k < n ∧ s k = v := by
  induction n with
  | zero => intro s _ _ v hv; omega
  | succ n ih =>
    intro s h1 h2 v hv
    have hin : ∀ k, k < n → (if s k = n then s n else s k) < n := by
      intro k hk
      split
      · rename_i h
        have := h1 n (by omega)
        have : s n ≠ n := fun e => by have := h2 k n (by omega) (by omega) (by omega); omega
        omega
      · have := h1 k (by omega)
        omega
    have hinj : ∀ k k', k < n → k' < n → (if s k = n then s n else s k) = (if s k' = n then s n else s k') → k = k' := by
      intro k k' hk hk' he
      split at he
      · rename_i hx
        split at he
        · rename_i hy
          exact h2 k k' (by omega) (by omega) (by omega)
        · have := h2 n k' (by omega) (by omega) he
          omega
      · split at he
        · have := h2 k n (by omega) (by omega) he
          omega
        · exact h2 k k' (by omega) (by omega) he
    have hI := ih (fun k => if s k = n then s n else s k) hin hinj
    by_cases hvn : v = s n
    · exact ⟨n, by omega, hvn.symm⟩
    · by_cases hv2 : v = n
      · have hsn := h1 n (by omega)
        obtain ⟨k, hk, he⟩ := hI (s n) (by omega)
        split at he
        · rename_i h
          exact ⟨k, by omega, by omega⟩
        · have := h2 k n (by omega) (by omega) he
          omega
      · obtain ⟨k, hk, he⟩ := hI v (by omega)
        split at he
        · omega
        · exact ⟨k, by omega, he⟩

/-- d is the order of the n indexes -/
def IsOrd (kf : Nat → Int) (n : Nat) (d : Nat → Nat) : Prop := PermOn 0 n (fun k => k) d ∧ SortedOn kf 0 n d
theorem IsOrd.lt {kf : Nat → Int} {n : Nat} {d : Nat → Nat} (h : IsOrd kf n d) {k : Nat} (hk : k < n) : d k < n :=
  h.1.all (Q := fun v => v < n) (fun _ _ h => h) k (Nat.zero_le _) hk
theorem IsOrd.inj {kf : Nat → Int} {n : Nat} {d : Nat → Nat} (h : IsOrd kf n d) {k k' : Nat} (hk : k < n) (hk' : k' < n) (he : d k = d k') : k = k' := by
  rcases Nat.lt_trichotomy k k' with h1 | h1 | h1
  · have := h.2 k k' (Nat.zero_le _) h1 hk'
    rw [he] at this
    exact this.irrefl.elim
  · exact h1
  · have := h.2 k' k (Nat.zero_le _) h1 hk
    rw [he] at this
    exact this.irrefl.elim
theorem IsOrd.onto {kf : Nat → Int} {n : Nat} {d : Nat → Nat} (h : IsOrd kf n d) {v : Nat} (hv : v < n) : ∃ k, k < n ∧ d k = v :=
  YtfahlgjolihmkaaDoor.onto n d (fun _ hk => h.lt hk) (fun _ _ hk hk' he => h.inj hk hk' he) v hv
theorem IsOrd.unique {kf : Nat → Int} {n : Nat} {d e : Nat → Nat} (h : IsOrd kf n d) (g : IsOrd kf n e) : ∀ k, k < n → d k = e k := by
  intro k
  induction k using Nat.strongRecOn with
  | ind k ih =>
    intro hk
    have key : ∀ {d e : Nat → Nat}, IsOrd kf n d → IsOrd kf n e → (∀ j, j < k → d j = e j) → e k = d k ∨ lexL kf (e k) (d k) := by
      intro d e h g ih
      obtain ⟨j, hj, he⟩ := g.onto (h.lt hk)
      have hjk : k ≤ j := by
        rcases Nat.lt_or_ge j k with h1 | h1
        · have h2 := h.inj (k := j) (k' := k) hj hk ((ih j h1).trans he)
          omega
        · exact h1
      rcases Nat.lt_or_ge k j with h1 | h1
      · have := g.2 k j (Nat.zero_le _) h1 hj
        rw [he] at this
        exact .inr this
      · obtain rfl : j = k := by omega
        exact .inl he
    have ih' : ∀ j, j < k → d j = e j := fun j hj => ih j hj (by omega)
    rcases key h g ih' with h1 | h1
    · exact h1.symm
    · rcases key g h (fun j hj => (ih' j hj).symm) with h2 | h2
      · exact h2
      · exact (h1.trans h2).irrefl.elim

/-- the order of the n indexes by the key kf -/
noncomputable def ordF (kf : Nat → Int) (n : Nat) : Nat → Nat := open Classical in if h : ∃ d, IsOrd kf n d then h.choose else fun k => k
theorem ordF_eq {kf : Nat → Int} {n : Nat} {d : Nat → Nat} (h : IsOrd kf n d) : IsOrd kf n (ordF kf n) ∧ ∀ k, k < n → d k = ordF kf n k := by
  have hx : ∃ d, IsOrd kf n d := ⟨d, h⟩
  have : IsOrd kf n (ordF kf n) := by
    unfold ordF
    rw [dif_pos hx]
    exact hx.choose_spec
  exact ⟨this, h.unique this⟩

end Go.Proofs.YtfahlgjolihmkaaDoor
