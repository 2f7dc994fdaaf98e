/- Curves in blocks of their own: what a walk of a law keeps of each of them. -/
import Derived.Test.YtdepnhnpklbmiaaA4
namespace Go.Proofs.Ytdepnhnpklbmiaa
open Go.RowKit Go.Sort

/-- a block that holds a curve -/
structure Box (W : World) (g : Nat) (c : Cu) (A : Option Addr) (n cap : Nat) : Prop where
  hp : W.heap[g]? = some (.cells #[.int .i64 c.fr, .int .i64 c.fst, .slice A n cap] 24 (0, 0))
  cu : CuAt W.heap.size W c A n cap
  big : n ≤ 9223372036854775807
theorem Box.lt {W : World} {g : Nat} {c : Cu} {A : Option Addr} {n cap : Nat} (h : Box W g c A n cap) : g < W.heap.size := (Array.getElem?_eq_some_iff.1 h.hp).1
theorem Box.below {W W' : World} {g : Nat} {c : Cu} {A : Option Addr} {n cap : Nat} (h : Box W g c A n cap) (hb : Below W.heap.size W W') : Box W' g c A n cap :=
  ⟨(hb.block g h.lt).trans h.hp, h.cu.now hb (Nat.le_refl _), h.big⟩
theorem Box.gr {W W' : World} {g : Nat} {c : Cu} {A : Option Addr} {n cap : Nat} (h : Box W g c A n cap) (hg : Gr W W') : Box W' g c A n cap := h.below hg.below
theorem Box.cells {W : World} {g : Nat} {c : Cu} {A : Option Addr} {n cap : Nat} (h : Box W g c A n cap) :
    W.cell? ⟨g, 0, none⟩ = some (.int .i64 c.fr) ∧ W.cell? ⟨g, 1, none⟩ = some (.int .i64 c.fst) ∧ W.cell? ⟨g, 2, none⟩ = some (.slice A n cap) := by
  have h0 := cell_of_heap' h.hp 0
  have h1 := cell_of_heap' h.hp 1
  have h2 := cell_of_heap' h.hp 2
  simp at h0 h1 h2
  exact ⟨h0, h1, h2⟩
theorem box_new {W : World} {c : Cu} {A : Option Addr} {n cap : Nat} (hc : CuAt W.heap.size W c A n cap) (hn : n ≤ 9223372036854775807) : Box (W.alloc (.cells #[.int .i64 c.fr, .int .i64 c.fst, .slice A n cap] 24)) W.heap.size c A n cap :=
  ⟨heap_alloc_new W _, hc.gr ((Gr.refl W).alloc _), hn⟩
theorem cu_of_own {W : World} {base : Nat} {c : Cu} {A : Option Addr} {n cap : Nat} (h : W.ownsRow base 3 1 (.slice A n cap) n (c.sl.map (Value.int .i64))) : CuAt W.heap.size W c A n cap := by
  refine ⟨ints_of_own h, fun _ ad e => ?_, fun e => ?_⟩
  · rcases h.2 with ⟨h1, _⟩ | ⟨g, cp, cur, hv, _, hg, _⟩
    · injection h1 with h1
      rw [h1] at e
      cases e
    · injection hv with h1
      rw [h1] at e
      injection e with e
      subst e
      exact (Array.getElem?_eq_some_iff.1 hg).1
  · rcases h.2 with ⟨h1, _⟩ | ⟨g, cp, cur, hv, _⟩
    · injection h1 with _ h2 h3
      exact ⟨h2, h3⟩
    · injection hv with h1
      rw [h1] at e
      cases e
/-- a curve that a call returned, laid into a variable's block -/
theorem CuPost.box {v : Cu × Int} {w : World} {e : Ending} {w' : World} (h : CuPost v w e w') (hn : v.1.sl.length ≤ 64) :
    ∃ A n cap, e = .returned (.tuple #[.agg #[.int .i64 v.1.fr, .int .i64 v.1.fst, .slice A n cap], .int .i64 v.2]) ∧ Below w.heap.size w w' ∧ Box (w'.alloc (.cells #[.int .i64 v.1.fr, .int .i64 v.1.fst, .slice A n cap] 24)) w'.heap.size v.1 A n cap := by
  obtain ⟨A, n, cap, rfl, ho, hb⟩ := h
  have hl : v.1.sl.length = n := by simpa using ho.1
  exact ⟨A, n, cap, rfl, hb, box_new (cu_of_own ho) (by omega)⟩
theorem okC_len {c : Cu} (h : okC c = true) : c.sl.length ≤ 64 := (okC_true h).2.2.1
theorem res2_len (c : Cu) : (res2 c).1.sl.length ≤ 64 := by
  unfold res2
  split
  · rename_i h
    exact okC_len h
  · exact Nat.zero_le _

/-- the join, if it is valid -/
def joinC (a b : Cu) : Cu := ⟨a.fr + b.fr, a.fst + b.fst, sortI (a.sl ++ b.sl)⟩
theorem joinV_eq (a b : Cu) : joinV a b = if okC a = true ∧ okC b = true then res2 (joinC a b) else (Cu.zero, 2) := rfl
theorem joinV_len (a b : Cu) : (joinV a b).1.sl.length ≤ 64 := by
  rw [joinV_eq]
  split
  · exact res2_len _
  · exact Nat.zero_le _
theorem joinC_comm (a b : Cu) : joinC a b = joinC b a := by
  unfold joinC
  rw [sortI_comm a.sl b.sl, Int.add_comm a.fr, Int.add_comm a.fst]
theorem joinV_comm (a b : Cu) : joinV a b = joinV b a := by
  rw [joinV_eq, joinV_eq, joinC_comm]
  by_cases h : okC a = true ∧ okC b = true
  · rw [if_pos h, if_pos h.symm]
  · rw [if_neg h, if_neg fun h2 => h h2.symm]
theorem joinC_assoc (a b c : Cu) : joinC (joinC a b) c = joinC a (joinC b c) := by
  unfold joinC
  simp only [Int.add_assoc]
  rw [sortI_left, sortI_right, List.append_assoc]
theorem res2_zero {c d : Cu} {e : Int} (h : res2 c = (d, e)) (he : e = 0) : d = c ∧ okC c = true := by
  unfold res2 at h
  split at h
  · rename_i hc
    injection h with h1 h2
    exact ⟨h1.symm, hc⟩
  · injection h with h1 h2
    omega
theorem joinV_zero {a b d : Cu} {e : Int} (h : joinV a b = (d, e)) (he : e = 0) : okC a = true ∧ okC b = true ∧ d = joinC a b ∧ okC d = true := by
  rw [joinV_eq] at h
  split at h
  · rename_i h1
    obtain ⟨h2, h3⟩ := res2_zero h he
    exact ⟨h1.1, h1.2, h2, by rw [h2]; exact h3⟩
  · injection h with h1 h2
    omega
/-- how a join ends -/
theorem joinV_error {a b d : Cu} {e : Int} (h : joinV a b = (d, e)) : (e = 0 ∧ okC a = true ∧ okC b = true) ∨ (e = 2 ∧ okC a = false) ∨ (e = 2 ∧ okC a = true ∧ okC b = false) ∨ (e = 4 ∧ okC a = true ∧ okC b = true) := by
  rw [joinV_eq] at h
  split at h
  · rename_i h1
    unfold res2 at h
    split at h
    · injection h with h2 h3
      exact .inl ⟨h3.symm, h1.1, h1.2⟩
    · injection h with h2 h3
      exact .inr (.inr (.inr ⟨h3.symm, h1.1, h1.2⟩))
  · rename_i h1
    injection h with h2 h3
    cases ha : okC a
    · exact .inr (.inl ⟨h3.symm, rfl⟩)
    · cases hb : okC b
      · exact .inr (.inr (.inl ⟨h3.symm, rfl, rfl⟩))
      · exact absurd ⟨ha, hb⟩ h1
theorem likeB_refl (a : Cu) : likeB a a = true := by
  unfold likeB
  simp
theorem joinC_val {a b : Cu} {i j : Nat} (hi : i ≤ a.sl.length) (hj : j ≤ b.sl.length) : valK (joinC a b) (i + j) ≤ valK a i + valK b j := by
  rw [valK_pS, valK_pS, valK_pS]
  have := joins_le (xs := a.sl) (ys := b.sl) hi hj
  show a.fst + b.fst + pS (sortI (a.sl ++ b.sl)) (i + j) ≤ _
  omega
theorem joinC_has {a b : Cu} (ha : okC a = true) (hb : okC b = true) {m : Nat} (hm : m ≤ a.sl.length + b.sl.length) : ∃ i j, i ≤ a.sl.length ∧ j ≤ b.sl.length ∧ i + j = m ∧ valK (joinC a b) m = valK a i + valK b j := by
  obtain ⟨i, j, h1, h2, h3, h4⟩ := joins_eq (okC_true ha).2.2.2.1 (okC_true hb).2.2.2.1 hm
  refine ⟨i, j, h1, h2, h3, ?_⟩
  rw [valK_pS, valK_pS, valK_pS]
  show a.fst + b.fst + pS (sortI (a.sl ++ b.sl)) m = _
  omega
theorem joinC_len (a b : Cu) : (joinC a b).sl.length = a.sl.length + b.sl.length := by
  show (sortI (a.sl ++ b.sl)).length = _
  rw [sortI_length, List.length_append]
/-- the value at a number of the domain -/
theorem atV_in {c : Cu} (h : okC c = true) {k : Nat} (hk : k ≤ c.sl.length) : atV c (c.fr + k) = (valK c k, 0) := by
  unfold atV
  rw [if_pos h, if_pos (by omega), show (c.fr + (k : Int) - c.fr).toNat = k by omega]
theorem atV_none {c : Cu} {x : Int} (h : (atV c x).2 ≠ 0) : (atV c x).1 = 0 := by
  unfold atV at h ⊢
  split at h
  · split at h
    · exact absurd rfl h
    · rename_i h1 h2
      rw [if_pos h1, if_neg h2]
  · rename_i h1
    rw [if_neg h1]
theorem atV_some {c : Cu} {x : Int} (h : (atV c x).2 = 0) : okC c = true ∧ ∃ k : Nat, k ≤ c.sl.length ∧ x = c.fr + k := by
  unfold atV at h
  split at h
  · rename_i h1
    split at h
    · rename_i h2
      exact ⟨h1, (x - c.fr).toNat, by omega, by omega⟩
    · exact absurd h (by decide)
  · exact absurd h (by decide)

end Go.Proofs.Ytdepnhnpklbmiaa
