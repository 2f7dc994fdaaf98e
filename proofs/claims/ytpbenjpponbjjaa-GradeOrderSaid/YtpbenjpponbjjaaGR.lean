/- Level's closure; highest. -/
import Derived.Test.YtpbenjpponbjjaaGQ
import Derived.Deep.OwnRows
namespace Go.Proofs.Ytpbenjpponbjjaa
open Go.RowKit Go.Sort Go.BigFrame
theorem ent69 : ∀ args w, (callFunc 69 args).run Try.prog w = .ok (.enter 69 args) w := enters_of Try.func69 (by kernel_rfl) rfl
theorem ent67 : ∀ args w, (callFunc 67 args).run Try.prog w = .ok (.enter 67 args) w := enters_of Try.func67 (by kernel_rfl) rfl
theorem box1 {W : World} {p : Nat} {a : Value} {ty : TypeId} (h : W.heap[p]? = some (.cells #[a] ty (0, 0))) : W.cell? ⟨p, 0, none⟩ = some a := by simp [World.cell?, h]
theorem levelC_any (A : Option Addr) (n c : Nat) (l : List Qt) (b2 i : Nat) (p : Int) (w : World) (hx : QtAt w.heap.size w A n l) (hn : n ≤ 1000000) (hi : i < n) (h2 : w.cell? ⟨b2, 0, none⟩ = some (.slice A n c)) (k2 : b2 < w.heap.size) :
    Calls Try.prog 67 #[.int .i64 i, .int .i64 p, .pointer (some ⟨b2, 0, none⟩)] w fun e w' => e = .returned (.bool (l.any (suitP (qA l i).1 p))) ∧ Below w.heap.size w w' := by
  obtain ⟨y, hy⟩ : ∃ y, w.heap.size = y := ⟨_, rfl⟩
  obtain ⟨W1, hW1⟩ : ∃ W1, w.alloc (.cells #[.int .i64 i] 3) = W1 := ⟨_, rfl⟩
  obtain ⟨z, hz⟩ : ∃ z, W1.heap.size = z := ⟨_, rfl⟩
  obtain ⟨W2, hW2⟩ : ∃ W2, W1.alloc (.cells #[.int .i64 p] 3) = W2 := ⟨_, rfl⟩
  have g1 : Gr w W1 := by rw [← hW1]; exact (Gr.refl w).alloc _
  have g2 : Gr W1 W2 := by rw [← hW2]; exact (Gr.refl W1).alloc _
  have e1 : W1.heap[y]? = some (.cells #[.int .i64 i] 3 (0, 0)) := by rw [← hW1, ← hy]; exact heap_alloc_new _ _
  have e2 : W2.heap[z]? = some (.cells #[.int .i64 p] 3 (0, 0)) := by rw [← hW2, ← hz]; exact heap_alloc_new _ _
  have e12 := (g2.block (lt_of_heap e1)).trans e1
  have hb := (g1.trans g2).below
  have hx2 := hx.now hb (Nat.le_refl _)
  have cb := (hb.cell (p := ⟨b2, 0, none⟩) k2).trans h2
  have HC := hide (qContainsFunc_any 69 A n c l W2 hx2 hn (.pointer (some ⟨z, 0, none⟩)) (.pointer (some ⟨b2, 0, none⟩)) (.pointer (some ⟨y, 0, none⟩)) (suitP (qA l i).1 p) ent69 (fun j hj w3 hw =>
    suit_any A n c l (qA l j) z b2 y i p w3 (hx2.now hw (Nat.le_refl _)) hn hi (box1 ((hw.block z (lt_of_heap e2)).trans e2)) ((hw.cell (p := ⟨b2, 0, none⟩) (Nat.lt_of_lt_of_le k2 hb.size)).trans cb) (box1 ((hw.block y (lt_of_heap e12)).trans e12))
      (Nat.lt_of_lt_of_le (lt_of_heap e2) hw.size) (Nat.lt_of_lt_of_le (Nat.lt_of_lt_of_le k2 hb.size) hw.size) (Nat.lt_of_lt_of_le (lt_of_heap e12) hw.size)))
  have HB := hide hb
  obtain ⟨q, hq⟩ : ∃ q, l.any (suitP (qA l i).1 p) = q := ⟨_, rfl⟩
  rw [hq] at HC ⊢
  clear hq g1 g2 e1 e2 e12 hb hx2 hx h2 k2 hn hi
  go_enter Try.func67, Try.ntmps67
  go_wp2_with fail
  refine HC.out.mono ?_
  rintro e w3 ⟨rfl, hb3⟩
  have HB3 := hide (bel_next HB.out hb3)
  clear hb3 HC HB hW1 hW2 hy hz cb
  go_wp2_with fail
  go_ret
  exact ⟨rfl, HB3.out⟩
/-- the greatest price that suits; 0 if none does -/
def topP (l : List Qt) (f : Int → Bool) : Int := l.foldl (fun m q => if f q.2.1 then max m q.2.1 else m) 0
theorem topP_fold (f : Int → Bool) : ∀ (l : List Qt) (m t : Int), m ≤ t → (t = m ∨ ∃ q ∈ l, q.2.1 = t ∧ f t = true) → (∀ q ∈ l, f q.2.1 = true → q.2.1 ≤ t) → l.foldl (fun m q => if f q.2.1 then max m q.2.1 else m) m = t
  | [], m, t, _, h, _ => by
    rcases h with h | ⟨q, hq, _⟩
    · exact h.symm
    · cases hq
  | q :: l, m, t, hm, h, hmax => by
    rw [List.foldl_cons]
    have h0 := hmax q (by simp)
    refine topP_fold f l _ t ?_ ?_ (fun r hr => hmax r (by simp [hr]))
    · split
      · rename_i hf; have := h0 hf; omega
      · exact hm
    · rcases h with h | ⟨r, hr, h1, h2⟩
      · left
        split
        · rename_i hf; have := h0 hf; omega
        · exact h
      · rcases List.mem_cons.1 hr with rfl | hr
        · left
          rw [h1, if_pos h2]; omega
        · exact .inr ⟨r, hr, h1, h2⟩
theorem topP_none {l : List Qt} {f : Int → Bool} (h : ∀ q ∈ l, f q.2.1 = false) : topP l f = 0 := topP_fold f l 0 0 (Int.le_refl _) (.inl rfl) (fun q hq hf => by rw [h q hq] at hf; cases hf)
theorem topP_hit {l : List Qt} {f : Int → Bool} {q : Qt} (hq : q ∈ l) (h0 : 0 ≤ q.2.1) (hf : f q.2.1 = true) (h : ∀ r ∈ l, f r.2.1 = true → r.2.1 ≤ q.2.1) : topP l f = q.2.1 := topP_fold f l 0 _ h0 (.inr ⟨q, hq, rfl, hf⟩) h
/-- a row of ints of which k have been set -/
def fitV (n : Nat) (f : Nat → Int) : Array Value := ((List.range n).map fun i => Value.int .i64 (f i)).toArray
def upto (k : Nat) (f : Nat → Int) (i : Nat) : Int := if i < k then f i else 0
theorem fitV_made (n : Nat) (f : Nat → Int) : madeCells #[.int .i64 0] n = fitV n (upto 0 f) := by
  apply Array.toList_inj.1
  rw [toList_madeCells_one]
  unfold fitV upto
  simp [List.map_const']
theorem fitV_get (n : Nat) (f : Nat → Int) {i : Nat} (hi : i < n) : (fitV n f)[i]? = some (.int .i64 (f i)) := by
  unfold fitV
  simp [hi]
theorem fitV_set (n : Nat) (f : Nat → Int) (k : Nat) : (fitV n (upto k f)).setIfInBounds k (.int .i64 (f k)) = fitV n (upto (k + 1) f) := by
  apply Array.ext_getElem?
  intro i
  unfold fitV upto
  rw [Array.getElem?_setIfInBounds]
  by_cases h : k = i
  · subst h
    by_cases hn : k < n
    · simp [hn]
    · simp [hn]
  · rw [if_neg h]
    by_cases hn : i < n
    · simp only [List.getElem?_toArray, List.getElem?_map, List.getElem?_range hn, Option.map_some]
      congr 2
      by_cases h1 : i < k
      · rw [if_pos h1, if_pos (by omega)]
      · rw [if_neg h1, if_neg (by omega)]
    · simp [hn]
theorem fitV_skip (n : Nat) (f : Nat → Int) (k : Nat) (h : f k = 0) : fitV n (upto k f) = fitV n (upto (k + 1) f) := by
  unfold fitV
  congr 2
  funext i
  unfold upto
  by_cases h1 : i < k
  · rw [if_pos h1, if_pos (by omega)]
  · by_cases h2 : i = k
    · subst h2; simp [h]
    · rw [if_neg h1, if_neg (by omega)]
end Go.Proofs.Ytpbenjpponbjjaa
