/- Contract of alive: it returns true. -/
import Derived.Test.YtfahlgjolihmkaaDoorP1
namespace Go.Proofs.YtfahlgjolihmkaaDoor
open Go.RowKit Go.Sort

theorem spans_lit {W : World} {b : Nat} {cs : Array Value} {t : TypeId} (xs : List Sp) (h : W.heap[b]? = some (.cells cs t (0, 0))) (hcs : cs = (flat xs).toArray) : SpansAt W.heap.size W (some ⟨b, 0, none⟩) xs.length xs := by
  subst hcs
  refine ⟨rfl, .inr ⟨b, 0, rfl, lt_of_heap h, fun i hi => ?_⟩⟩
  have hf := flat_get xs i hi
  rw [cell_of_heap h, cell_of_heap h]
  simpa using hf
theorem spans_of_own {W : World} {base k c : Nat} {a : Option Addr} {xs : List Sp} (h : W.ownsRow base 41 2 (.slice a k c) k (flat xs)) (hk : xs.length = k) : SpansAt W.heap.size W a k xs := by
  refine ⟨hk, ?_⟩
  rcases h.2 with ⟨_, h0⟩ | ⟨g, cap, cur, hv, hb, hg, hr⟩
  · exact .inl h0
  · injection hv with h1 h2 h3
    subst h1
    refine .inr ⟨g, 0, rfl, lt_of_heap hg, fun i hi => ?_⟩
    have hf := flat_get xs i (by omega)
    rw [Nat.zero_add]
    have e : ∀ j, (⟨g, 0, none⟩ : Addr).add j = ⟨g, j, none⟩ := fun j => by
      by_cases h0 : j = 0
      · subst h0; rfl
      · simp [Addr.add, h0]
    have c0 := h.cells (g := g) rfl (i * 2) _ hf.1
    have c1 := h.cells (g := g) rfl (i * 2 + 1) _ hf.2
    rw [e] at c0 c1
    exact ⟨c0, c1⟩
theorem ints_lit {W : World} {b : Nat} {cs : Array Value} {t : TypeId} (xs : List Int) (h : W.heap[b]? = some (.cells cs t (0, 0))) (hcs : cs = (xs.map (Value.int .i64)).toArray) : IntsAt W.heap.size W (some ⟨b, 0, none⟩) xs.length xs := by
  subst hcs
  refine ⟨rfl, .inr ⟨b, 0, rfl, lt_of_heap h, fun i hi => ?_⟩⟩
  rw [cell_of_heap h]
  simp [iA, List.getD_eq_getElem?_getD, hi]

def al1 : List Sp := [(5, 9), (1, 3), (3, 5)]
def al2 : List Sp := [(0, 4), (0, 3), (3, 8), (6, 10)]
theorem al1_ord : IsOrd (keyA (fun a _ => a) al1) 3 (fun k => if k = 0 then 1 else if k = 1 then 2 else if k = 2 then 0 else k) := by
  refine ⟨⟨fun k => if k = 0 then 1 else if k = 1 then 2 else if k = 2 then 0 else k, fun k _ h => ?_, fun k k' _ h _ h' he => ?_, fun k _ h => rfl, fun k hk => ?_⟩, fun k k' _ h h' => ?_⟩
  · dsimp only
    split
    · omega
    · split
      · omega
      · split <;> omega
  · match k, k', h, h' with
    | 0, 0, _, _ => rfl
    | 0, 1, _, _ => simp at he
    | 0, 2, _, _ => simp at he
    | 1, 0, _, _ => simp at he
    | 1, 1, _, _ => rfl
    | 1, 2, _, _ => simp at he
    | 2, 0, _, _ => simp at he
    | 2, 1, _, _ => simp at he
    | 2, 2, _, _ => rfl
  · dsimp only
    rw [if_neg (by omega), if_neg (by omega), if_neg (by omega)]
  · have h3 : (k = 0 ∧ k' = 1) ∨ (k = 0 ∧ k' = 2) ∨ (k = 1 ∧ k' = 2) := by omega
    rcases h3 with ⟨rfl, rfl⟩ | ⟨rfl, rfl⟩ | ⟨rfl, rfl⟩ <;> exact .inl (by decide)
theorem al1_of : ofV al1 = [(1, 9)] := by
  have h := (ordF_eq al1_ord).2
  have h0 := h 0 (by decide)
  have h1 := h 1 (by decide)
  have h2 := h 2 (by decide)
  simp at h0 h1 h2
  have hu : ups 3 3 = [0, 1, 2] := by decide
  unfold ofV ofL
  rw [if_pos (by decide)]
  show ofTo al1 (ups 3 3) = _
  rw [hu]
  simp only [ofTo, List.foldl_cons, List.foldl_nil]
  show putL (putL (putL [] (loA al1 (ordF _ 3 0), hiA al1 (ordF _ 3 0))) (loA al1 (ordF _ 3 1), hiA al1 (ordF _ 3 1))) (loA al1 (ordF _ 3 2), hiA al1 (ordF _ 3 2)) = _
  rw [← h0, ← h1, ← h2]
  decide
theorem al1_check : checkE al1 = 0 := by decide
theorem al2_cov : covE al2 0 10 = 0 ∧ covT al2 0 10 = [0, 2, 3] := by decide


set_option maxHeartbeats 2000000 in
set_option maxRecDepth 100000 in
theorem alive_any (w : World) : Calls Tryd.prog 6 #[] w fun e w' => e = .returned (.bool true) ∧ Below w.heap.size w w' := by
  go_enter Tryd.func6, Tryd.ntmps6
  go_wp2_with fail
  -- Of
  have b1 : (w.alloc (.cells #[.int .i64 5, .int .i64 9, .int .i64 1, .int .i64 3, .int .i64 3, .int .i64 5] 41)).heap[w.heap.size]? = some (.cells #[.int .i64 5, .int .i64 9, .int .i64 1, .int .i64 3, .int .i64 3, .int .i64 5] 41 (0, 0)) := World.alloc_heap_new w _
  have hB1 := (Below.refl w.heap.size w).alloc (Nat.le_refl _) (.cells #[.int .i64 5, .int .i64 9, .int .i64 1, .int .i64 3, .int .i64 3, .int .i64 5] 41)
  generalize w.alloc (.cells #[.int .i64 5, .int .i64 9, .int .i64 1, .int .i64 3, .int .i64 3, .int .i64 5] 41) = W1 at b1 hB1 ⊢
  have h1 := Of_any _ _ 3 al1 W1 (spans_lit al1 b1 rfl) (fun _ => stable_small _ (by decide))
  rw [al1_check, al1_of] at h1
  refine h1.mono ?_
  rintro e w2 ⟨a, c, rfl, ho, hb⟩
  have hB2 := hide (hB1.trans (hb.mono hB1.size))
  have hS2 := spans_of_own ho rfl
  have HS2 := hide hS2
  have ha : ∃ g, a = some ⟨g, 0, none⟩ := by
    obtain ⟨g, c', he, _⟩ := own_row ho (by decide)
    injection he with h1 h2 h3
    exact ⟨g, h1⟩
  obtain ⟨g, rfl⟩ := ha
  clear b1 hB1 h1 ho hb hS2
  go_wp2_with fail
  -- Cover
  have b2 : (w2.alloc (.cells #[.int .i64 0, .int .i64 4, .int .i64 0, .int .i64 3, .int .i64 3, .int .i64 8, .int .i64 6, .int .i64 10] 41)).heap[w2.heap.size]? = some (.cells #[.int .i64 0, .int .i64 4, .int .i64 0, .int .i64 3, .int .i64 3, .int .i64 8, .int .i64 6, .int .i64 10] 41 (0, 0)) := World.alloc_heap_new w2 _
  have hB3 := (Below.refl w2.heap.size w2).alloc (Nat.le_refl _) (.cells #[.int .i64 0, .int .i64 4, .int .i64 0, .int .i64 3, .int .i64 3, .int .i64 8, .int .i64 6, .int .i64 10] 41)
  generalize w2.alloc (.cells #[.int .i64 0, .int .i64 4, .int .i64 0, .int .i64 3, .int .i64 3, .int .i64 8, .int .i64 6, .int .i64 10] 41) = W3 at b2 hB3 ⊢
  have h2 := Cover_any 0 10 _ _ 4 al2 W3 (spans_lit al2 b2 rfl)
  rw [al2_cov.1, al2_cov.2] at h2
  refine h2.mono ?_
  rintro e w4 ⟨A1, n1, c1, rfl, hi, hb⟩
  obtain rfl : n1 = 3 := hi.1.symm
  have hB4 := hide (hB3.trans (hb.mono hB3.size))
  have HI4 := hide hi
  have HS4 := hide (HS2.out.below hB4.out)
  have HB4 := hide (hB2.out.trans (hB4.out.mono hB2.out.size))
  have hle4 : w2.heap.size ≤ w4.heap.size := hB4.out.size
  have HLE := hide hle4
  clear b2 hB3 h2 hi hb hB4 hB2 HS2 hle4
  go_wp2_with fail
  -- Size
  refine (Size_any _ _ c [(1, 9)] w4 (HS4.out.mono HLE.out)).mono ?_
  rintro e w5 ⟨rfl, hb⟩
  have h8 : (if setB [(1, 9)] then befA [(1, 9)] [((1 : Int), (9 : Int))].length else 0) = 8 ∧ (if setB [((1 : Int), (9 : Int))] then (0 : Int) else 2) = 0 := by decide
  rw [h8.1, h8.2]
  have HS5 := hide (HS4.out.below (hb.mono HLE.out))
  have HI5 := hide (HI4.out.below hb)
  have HB5 := hide (HB4.out.trans (hb.mono HB4.out.size))
  have HLE5 := hide (Nat.le_trans HLE.out hb.size)
  have HL45 := hide hb.size
  clear hb h8 HS4 HI4 HB4 HLE
  unfold numV
  go_wp2_with fail
  -- same
  have b3 : (w5.alloc (.cells #[.int .i64 1, .int .i64 9] 41)).heap[w5.heap.size]? = some (.cells #[.int .i64 1, .int .i64 9] 41 (0, 0)) := World.alloc_heap_new w5 _
  have hB6 := (Below.refl w5.heap.size w5).alloc (Nat.le_refl _) (.cells #[.int .i64 1, .int .i64 9] 41)
  generalize w5.alloc (.cells #[.int .i64 1, .int .i64 9] 41) = W6 at b3 hB6 ⊢
  have h3 := same_any _ _ _ c _ 1 [(1, 9)] [(1, 9)] W6 ((HS5.out.below (hB6.mono HLE5.out)).mono (Nat.le_trans HLE5.out hB6.size)) (spans_lit [(1, 9)] b3 rfl) (by decide) (by decide)
  rw [decide_eq_true rfl] at h3
  refine h3.mono ?_
  rintro e w7 ⟨rfl, q, hq⟩
  have hB7 : Below w5.heap.size w5 w7 := by rw [hq]; exact (hB6.trans (((Gr.refl W6).drewN q).below.mono hB6.size))
  have HI7 := hide (HI5.out.below (hB7.mono HL45.out))
  have HB7 := hide (HB5.out.trans (hB7.mono HB5.out.size))
  have HL47 := hide (Nat.le_trans HL45.out hB7.size)
  clear b3 hB6 h3 hq hB7 HI5 HB5 HL45
  go_wp2_with fail
  -- alike
  have b4 : (w7.alloc (.cells #[.int .i64 0, .int .i64 2, .int .i64 3] 3)).heap[w7.heap.size]? = some (.cells #[.int .i64 0, .int .i64 2, .int .i64 3] 3 (0, 0)) := World.alloc_heap_new w7 _
  have hB8 := (Below.refl w7.heap.size w7).alloc (Nat.le_refl _) (.cells #[.int .i64 0, .int .i64 2, .int .i64 3] 3)
  generalize w7.alloc (.cells #[.int .i64 0, .int .i64 2, .int .i64 3] 3) = W8 at b4 hB8 ⊢
  have h4 := alike_any _ _ 3 c1 _ 3 [0, 2, 3] [0, 2, 3] W8 ((HI7.out.below (hB8.mono HL47.out)).mono (Nat.le_trans HL47.out hB8.size)) (ints_lit [0, 2, 3] b4 rfl) (by decide) (by decide)
  rw [decide_eq_true rfl] at h4
  refine h4.mono ?_
  rintro e w9 ⟨rfl, q, hq⟩
  have hB9 : Below w7.heap.size w7 w9 := by rw [hq]; exact (hB8.trans (((Gr.refl W8).drewN q).below.mono hB8.size))
  have HB9 := hide (HB7.out.trans (hB9.mono HB7.out.size))
  clear b4 hB8 h4 hq hB9 HI7 HB7
  go_wp2
  go_ret
  exact ⟨rfl, HB9.out⟩

end Go.Proofs.YtfahlgjolihmkaaDoor
