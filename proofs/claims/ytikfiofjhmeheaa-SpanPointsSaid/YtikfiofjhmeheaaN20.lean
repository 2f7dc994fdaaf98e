/- The specification's way to put indexes in order: one after another, each before the first one with a greater key. -/
import Derived.Test.YtikfiofjhmeheaaN6
namespace Go.Proofs.Ytikfiofjhmeheaa

def ordStep (kf : Nat → Int) (u : Nat) (p : List Nat × Bool) (x : Nat) : List Nat × Bool :=
  if p.2 = false ∧ kf u < kf x then (p.1 ++ [u] ++ [x], true) else (p.1 ++ [x], p.2)
def ordTo (kf : Nat → Int) (u : Nat) (l : List Nat) : List Nat × Bool := l.foldl (ordStep kf u) ([], false)
/-- one more index -/
def ordIns (kf : Nat → Int) (u : Nat) (l : List Nat) : List Nat := if (ordTo kf u l).2 then (ordTo kf u l).1 else (ordTo kf u l).1 ++ [u]
theorem ordTo_snoc (kf : Nat → Int) (u : Nat) (l : List Nat) (x : Nat) : ordTo kf u (l ++ [x]) = ordStep kf u (ordTo kf u l) x := by simp [ordTo]
/-- the first n indexes in order -/
def sortTo (kf : Nat → Int) : Nat → List Nat
  | 0 => []
  | n + 1 => ordIns kf n (sortTo kf n)

theorem snocN (l : List Nat) : l = [] ∨ ∃ k y, l = k ++ [y] := by
  rcases List.eq_nil_or_concat l with h | ⟨ys, t, h⟩
  · exact .inl h
  · exact .inr ⟨ys, t, by simpa using h⟩
theorem ordTo_spec (kf : Nat → Int) (u : Nat) (l : List Nat) (hl : l.Pairwise fun x y => kf x ≤ kf y) :
    ∃ l1 l2, l = l1 ++ l2 ∧ (ordTo kf u l).1 = l1 ++ (if (ordTo kf u l).2 then u :: l2 else []) ∧ ((ordTo kf u l).2 = false → l2 = []) ∧ (∀ x ∈ l1, kf x ≤ kf u) ∧ ((ordTo kf u l).2 = true → ∀ x ∈ l2, kf u < kf x) ∧ ((ordTo kf u l).2 = true → l2 ≠ []) := by
  induction hn : l.length generalizing l with
  | zero =>
    obtain rfl := List.eq_nil_of_length_eq_zero hn
    exact ⟨[], [], rfl, by simp [ordTo], fun _ => rfl, by simp, by simp [ordTo], by simp [ordTo]⟩
  | succ n ih =>
    rcases snocN l with rfl | ⟨k, y, rfl⟩
    · simp at hn
    · obtain ⟨p1, p2, p3⟩ := List.pairwise_append.1 hl
      obtain ⟨l1, l2, h1, h2, h3, h4, h5, h6⟩ := ih k p1 (by simpa using hn)
      rw [ordTo_snoc]
      generalize ordTo kf u k = p at h2 h3 h5 h6 ⊢
      obtain ⟨o, d⟩ := p
      dsimp only at h2 h3 h5 h6
      unfold ordStep
      cases d
      · obtain rfl := h3 rfl
        simp only [List.append_nil, Bool.false_eq_true, if_false] at h1 h2
        subst h1
        by_cases hk : kf u < kf y
        · simp only [hk, and_self, if_true]
          exact ⟨k, [y], rfl, (by rw [h2]; simp), (fun h => (by cases h)), h4, (fun _ x hx => (by rw [List.mem_singleton.1 hx]; exact hk)), (fun _ => (by simp))⟩
        · simp only [hk, and_false, if_false]
          refine ⟨k ++ [y], [], by simp, by rw [h2]; simp, fun _ => rfl, fun x hx => ?_, (fun h => (by cases h)), (fun h => (by cases h))⟩
          rcases List.mem_append.1 hx with hx | hx
          · exact h4 x hx
          · rw [List.mem_singleton.1 hx]; omega
      · simp only [Bool.true_eq_false, false_and, if_false]
        refine ⟨l1, l2 ++ [y], by rw [h1]; simp, by rw [h2]; simp, (fun h => (by cases h)), h4, fun _ x hx => ?_, fun _ => by simp⟩
        rcases List.mem_append.1 hx with hx | hx
        · exact h5 rfl x hx
        · rw [List.mem_singleton.1 hx]
          obtain ⟨z, hz⟩ := List.exists_mem_of_ne_nil _ (h6 rfl)
          have h7 := h5 rfl z hz
          have h8 := p3 z (by rw [h1]; simp [hz]) y (by simp)
          omega
theorem ordIns_spec (kf : Nat → Int) (u : Nat) (l : List Nat) (hl : l.Pairwise (lexL kf)) (hu : ∀ x ∈ l, x < u) : (ordIns kf u l).Pairwise (lexL kf) ∧ (ordIns kf u l).Perm (u :: l) := by
  obtain ⟨l1, l2, h1, h2, h3, h4, h5, _⟩ := ordTo_spec kf u l (hl.imp fun {x y} h => by unfold lexL at h; omega)
  have e : ordIns kf u l = l1 ++ u :: l2 := by
    unfold ordIns
    split
    · rename_i hd; rw [h2, hd]; rfl
    · rename_i hd
      have hd : (ordTo kf u l).2 = false := by simpa using hd
      rw [h2, hd, h3 hd]
      simp
  rw [e]
  subst h1
  obtain ⟨p1, p2, p3⟩ := List.pairwise_append.1 hl
  refine ⟨List.pairwise_append.2 ⟨p1, List.pairwise_cons.2 ⟨fun x hx => ?_, p2⟩, fun x hx y hy => ?_⟩, List.perm_middle⟩
  · cases hd : (ordTo kf u (l1 ++ l2)).2
    · rw [h3 hd] at hx; cases hx
    · exact .inl (h5 hd x hx)
  · rcases List.mem_cons.1 hy with rfl | hy
    · have a1 := h4 x hx
      have a2 := hu x (by simp [hx])
      unfold lexL
      omega
    · exact p3 x hx y hy
theorem sortTo_spec (kf : Nat → Int) (n : Nat) : (sortTo kf n).Pairwise (lexL kf) ∧ (sortTo kf n).Perm (List.range n) := by
  induction n with
  | zero => exact ⟨List.Pairwise.nil, List.Perm.refl _⟩
  | succ n ih =>
    obtain ⟨h1, h2⟩ := ih
    obtain ⟨g1, g2⟩ := ordIns_spec kf n (sortTo kf n) h1 (fun x hx => List.mem_range.1 (h2.mem_iff.1 hx))
    refine ⟨g1, g2.trans ?_⟩
    rw [List.range_succ]
    exact (h2.cons n).trans (List.perm_append_comm (l₁ := [n]) (l₂ := List.range n))
theorem sortTo_length (kf : Nat → Int) (n : Nat) : (sortTo kf n).length = n := by rw [(sortTo_spec kf n).2.length_eq, List.length_range]
theorem sortTo_ord (kf : Nat → Int) (n k : Nat) (hk : k < n) : (sortTo kf n)[k]'(by rw [sortTo_length]; exact hk) = ordF kf n k := by
  obtain ⟨h1, h2⟩ := sortTo_spec kf n
  have hl := sortTo_length kf n
  have hnd : (sortTo kf n).Nodup := h2.nodup_iff.2 List.nodup_range
  have hlt : ∀ k (hk : k < n), (sortTo kf n)[k]'(by omega) < n := fun k hk => List.mem_range.1 (h2.mem_iff.1 (List.getElem_mem _))
  have ho : IsOrd kf n (fun k => if h : k < n then (sortTo kf n)[k]'(by omega) else k) := by
    refine ⟨⟨fun k => if h : k < n then (sortTo kf n)[k]'(by omega) else k, fun k _ hk => ?_, fun k k' _ hk _ hk' he => ?_, fun k _ hk => rfl, fun k hk => ?_⟩, fun k k' _ h3 h4 => ?_⟩
    · dsimp only
      rw [dif_pos hk]
      exact ⟨Nat.zero_le _, hlt k hk⟩
    · dsimp only at he
      rw [dif_pos hk, dif_pos hk'] at he
      exact nodup_inj hnd _ _ he
    · dsimp only
      rw [dif_neg (by omega)]
    · dsimp only
      rw [dif_pos (by omega), dif_pos h4]
      exact List.pairwise_iff_getElem.1 h1 k k' (by omega) (by omega) h3
  have := (ordF_eq ho).2 k hk
  rw [← this, dif_pos hk]

end Go.Proofs.Ytikfiofjhmeheaa
