/- The walk of SpanCounts. -/
import Derived.Test.YtfahlgjolihmkaaDoorU1
import Derived.Test.YtfahlgjolihmkaaDoorTE
namespace Go.Proofs.YtfahlgjolihmkaaDoor
open Go.RowKit Go.Sort
attribute [local go_sem] Oper.semAt_some

/-- a set, at an address, of at most 128 spans -/
structure SetAt (W : World) (a : Option Addr) (zs : List Sp) : Prop where
  at_ : SpansAt W.heap.size W a zs.length zs
  set : SetS zs
  few : zs.length ≤ 128
theorem SetAt.now {W W' : World} {a : Option Addr} {zs : List Sp} (h : SetAt W a zs) (hb : Below W.heap.size W W') : SetAt W' a zs := ⟨h.at_.now hb (Nat.le_refl _), h.set, h.few⟩
theorem SetAt.setB {W : World} {a : Option Addr} {zs : List Sp} (h : SetAt W a zs) : setB zs = true := set_setB h.set h.few
def sizeL (zs : List Sp) : Int := befA zs zs.length
theorem size_bounds {zs : List Sp} (hs : SetS zs) (hf : zs.length ≤ 128) : 0 ≤ sizeL zs ∧ sizeL zs ≤ 281474976710656 := by
  have := befA_le (setB_true (set_setB hs hf)).2 hf zs.length (Nat.le_refl _)
  unfold sizeL
  omega
theorem SetAt.size {W : World} {a : Option Addr} {zs : List Sp} (h : SetAt W a zs) (c : Nat) :
    Calls Tryd.prog 15 #[.slice a zs.length c] W fun e w' => e = .returned (.tuple #[.int .i64 (sizeL zs), .int .i64 0]) ∧ Below W.heap.size W w' := by
  have := Size_any a zs.length c zs W h.at_
  rw [h.setB] at this
  exact this
/-- how many numbers of the set are below x -/
def rankL (zs : List Sp) (x : Int) : Int := rankTo zs x zs.length
theorem SetAt.rank {W : World} {a : Option Addr} {zs : List Sp} (h : SetAt W a zs) (c : Nat) (x : Int) (hr : -9223372036854775808 ≤ x ∧ x ≤ 9223372036854775807) :
    Calls Tryd.prog 16 #[.slice a zs.length c, .int .i64 x] W fun e w' => e = .returned (.tuple #[.int .i64 (rankL zs x), .int .i64 0]) ∧ Below W.heap.size W w' := by
  have := Rank_any a zs.length c x zs W h.at_ hr
  unfold rankV at this
  rw [h.setB] at this
  exact this
theorem rank_bounds {zs : List Sp} (hs : SetS zs) (hf : zs.length ≤ 128) (x : Int) : 0 ≤ rankL zs x ∧ rankL zs x ≤ 281474976710656 := by
  have := rank_le (x := x) (setB_true (set_setB hs hf)).2 hf zs.length (Nat.le_refl _)
  unfold rankL
  omega
/-- the number at a place: there is one, and which; or there is none -/
def NthPost (zs : List Sp) (i y f : Int) : Prop :=
  (0 ≤ i ∧ i < sizeL zs ∧ f = 0 ∧ inB zs y = true ∧ rankL zs y = i ∧ -1099511627776 ≤ y ∧ y ≤ 1099511627776) ∨ (¬ (0 ≤ i ∧ i < sizeL zs) ∧ f = 6 ∧ y = 0)
theorem SetAt.nth {W : World} {a : Option Addr} {zs : List Sp} (h : SetAt W a zs) (c : Nat) (i : Int) (hr : -9223372036854775808 ≤ i ∧ i ≤ 9223372036854775807) :
    ∃ y f, NthPost zs i y f ∧ Calls Tryd.prog 17 #[.slice a zs.length c, .int .i64 i] W fun e w' => e = .returned (.tuple #[.int .i64 y, .int .i64 f]) ∧ Below W.heap.size W w' := by
  have hc := Nth_any a zs.length c i zs W h.at_ hr
  have hset := (setB_true h.setB).2
  by_cases hin : 0 ≤ i ∧ i < sizeL zs
  · obtain ⟨k, hk, h1⟩ := hit_some zs hin.1 zs.length hin.2
    obtain ⟨z1, z2, z3⟩ := hit_rank hset hk h1
    rw [nth_hit h.setB hk h1] at hc
    have hb := okB_true (hset k hk).1
    exact ⟨_, 0, .inl ⟨hin.1, hin.2, rfl, inB_true hk z1 z2, z3, by omega, by omega⟩, hc⟩
  · rw [nth_none h.setB fun k hk h1 => hin (hit_range hset h.few hk h1)] at hc
    exact ⟨0, 6, .inr ⟨hin, rfl, rfl⟩, hc⟩
theorem rank_succ (zs : List Sp) (x : Int) (k : Nat) : rankTo zs x (k + 1) = if loA zs k < x then rankTo zs x k + ((if x < hiA zs k then x else hiA zs k) - loA zs k) else rankTo zs x k := rfl
/-- .. at the place that Rank gives -/
theorem nth_rank {zs : List Sp} (hs : SetS zs) (hf : zs.length ≤ 128) {x y f : Int} (h : NthPost zs (rankL zs x) y f) : f = 0 → x ≤ y ∧ (inB zs x = true → y = x) := by
  intro h0
  have hset := (setB_true (set_setB hs hf)).2
  rcases h with ⟨h1, h2, -, h4, h5, -, -⟩ | ⟨-, h2, -⟩
  · rcases rank_nth rfl hset hf (x := x) with h6 | ⟨k, hk, h7, h8, h9⟩
    · unfold rankL sizeL at h2
      omega
    · -- y is the number there: both have as many below, and both are in the set
      obtain ⟨z1, z2, z3⟩ := hit_rank hset hk h7
      have key : ∀ p q : Int, inB zs p = true → p < q → rankL zs p < rankL zs q := by
        intro p q hp hpq
        obtain ⟨j, hj, p1, p2⟩ := inB_iff.1 hp
        have hj2 : rankTo zs p zs.length = befA zs j + (p - loA zs j) := by
          have hh : hitN zs (befA zs j + (p - loA zs j)) j := ⟨by omega, by omega⟩
          have := (hit_rank hset hj hh).2.2
          rw [show loA zs j + (befA zs j + (p - loA zs j)) - befA zs j = p by omega] at this
          exact this
        have hfull : rankTo zs q j = befA zs j := rank_full hset j (by omega) fun t ht => by have := set_lo hset j hj t ht; omega
        have hmono : ∀ m, j + 1 ≤ m → m ≤ zs.length → rankTo zs q (j + 1) ≤ rankTo zs q m := by
          intro m h1 h2
          induction m with
          | zero => omega
          | succ m ih =>
            rcases Nat.lt_or_ge m (j + 1) with h3 | h3
            · rw [show m + 1 = j + 1 by omega]; exact Int.le_refl _
            · have := ih h3 (by omega)
              have hb := okB_true (hset m (by omega)).1
              rw [rank_succ zs q m]
              by_cases h4 : loA zs m < q
              · rw [if_pos h4]
                split <;> omega
              · rw [if_neg h4]
                exact this
        have hst : rankTo zs q (j + 1) = befA zs j + ((if q < hiA zs j then q else hiA zs j) - loA zs j) := by
          simp only [rankTo]
          rw [if_pos (by omega), hfull]
        have h10 := hmono zs.length (by omega) (Nat.le_refl _)
        unfold rankL
        rw [hj2]
        rw [hst] at h10
        split at h10 <;> omega
      obtain ⟨y2, hy2⟩ : ∃ q, loA zs k + rankTo zs x zs.length - befA zs k = q := ⟨_, rfl⟩
      rw [hy2] at z1 z2 z3 h8 h9
      have hin2 := inB_true hk z1 z2
      have hz3 : rankL zs y2 = rankL zs x := z3
      have hyy : y = y2 := by
        rcases Int.lt_trichotomy y y2 with h | h | h
        · have := key y y2 h4 h; omega
        · exact h
        · have := key y2 y hin2 h; omega
      subst hyy
      exact ⟨h8, h9⟩
  · omega
end Go.Proofs.YtfahlgjolihmkaaDoor
