/- Two boxes with a row each: one of a fixed length, made before; the other one grows. What an append and stores leave. -/
import Derived.Test.YtikfiofjhmeheaaN26
import Derived.Laws.OwnMore
namespace Go.Proofs.Ytikfiofjhmeheaa
open Go.RowKit Go.Sort

theorem Kept.setRow {bs : List Nat} {W : World} {g off : Nat} (v : Value) (hr : RowOf bs W g) (hb : g ∉ bs) : Kept bs W (W.setCell ⟨g, off, none⟩ v) := by
  have hc : ∀ b, b ∈ bs → (W.setCell ⟨g, off, none⟩ v).cell? ⟨b, 0, none⟩ = W.cell? ⟨b, 0, none⟩ := fun b hb' =>
    World.cell?_setCell_other _ _ _ _ (by intro e; simp only [Addr.mk.injEq] at e; exact hb (by rw [e.1]; exact hb'))
  exact ⟨rfl, rfl, rfl, by simp [World.setCell], fun j o hj ho hnb hr' => Below.heap_setCell _ _ _ _ (by show j ≠ g; rintro rfl; exact hr' hr), fun g' hg => .inl (hg.congr hc), fun hA g' hg => by have := hA g' (hg.congr hc); simpa [World.setCell] using this⟩

structure TrayS (n₀ base : Nat) (W : World) (p q g n : Nat) (T : List Int) (u : Value) (k : Nat) (E : List Int) : Prop where
  bt : Boxed W p 43 (.slice (some ⟨g, 0, none⟩) n n)
  be : Boxed W q 43 u
  ot : W.ownsRow base 3 1 (.slice (some ⟨g, 0, none⟩) n n) n (T.map (Value.int .i64))
  oe : W.ownsRow n₀ 3 1 u k (E.map (Value.int .i64))

/-- the places: the fixed row, its box, the other box; all below n₀ -/
structure Places (n₀ base p q g : Nat) : Prop where
  bp : base ≤ p
  bq : base ≤ q
  bg : base ≤ g
  p0 : p < n₀
  q0 : q < n₀
  g0 : g < n₀
  gp : g ≠ p
  gq : g ≠ q
  pq : p ≠ q

theorem row_heap {W : World} {base : Nat} {e : TypeId} {size n c : Nat} {b : Nat} {zs : List Value} (h : W.ownsRow base e size (.slice (some ⟨b, 0, none⟩) n c) n zs) : ∃ cs, W.heap[b]? = some (.cells cs e (0, 0)) := by
  rcases h.2 with ⟨h', _⟩ | ⟨g', cap, cur, h', _, hg, _⟩
  · simp at h'
  · simp only [Value.slice.injEq, Option.some.injEq, Addr.mk.injEq, and_true, true_and] at h'
    obtain ⟨rfl, rfl⟩ := h'
    exact ⟨_, hg⟩

/-- what a change of the rows and boxes leaves of the rest -/
structure Left (n₀ : Nat) (p q g : Nat) (u : Value) (W W' : World) : Prop where
  others : KeepsOthers W W'
  kept : Kept [p, q] W W'
  size : W.heap.size ≤ W'.heap.size
  below : ∀ n w, n ≤ n₀ → n ≤ p → n ≤ q → n ≤ g → Below n w W → Below n w W'
  block : ∀ b, b < W.heap.size → b ≠ p → b ≠ q → b ≠ g → u.ownBlock ≠ some b → W'.heap[b]? = W.heap[b]?

theorem TrayS.append {n₀ base : Nat} {W w5 : World} {p q g n k : Nat} {u v1 : Value} {T E : List Int} {x : Int} {tmp : Obj} (h : TrayS n₀ base W p q g n T u k E) (hp : Places n₀ base p q g) (hW : n₀ ≤ W.heap.size)
    (hown : w5.ownsRow n₀ 3 1 v1 (k + 1) (E.map (Value.int .i64) ++ [.int .i64 x])) (hgrow : (W.alloc tmp).grownBy w5 u.ownBlock) (hat : v1.ownBlock = u.ownBlock ∨ v1.ownBlock = some (W.alloc tmp).heap.size) :
    (∃ a c, v1 = .slice a (k + 1) c) ∧ Boxed w5 q 43 u ∧ TrayS n₀ base (w5.setCell ⟨q, 0, none⟩ v1) p q g n T v1 (k + 1) (E ++ [x]) ∧ Left n₀ p q g u W (w5.setCell ⟨q, 0, none⟩ v1) := by
  have hlu := h.oe.lt
  have hl1 := hown.lt
  have hne : ∀ b, b < n₀ → some b ≠ u.ownBlock := fun b hb e => by have := (hlu b e.symm).1; omega
  have hold : ∀ b t s, b < n₀ → Boxed W b t s → Boxed w5 b t s := fun b t s hb hs => (hs.alloc tmp).kept hgrow (hne b hb)
  have hsz : W.heap.size ≤ w5.heap.size := by have := hgrow.size; simp at this; omega
  have hpl : p < W.heap.size := h.bt.lt
  have hql : q < W.heap.size := h.be.lt
  have hbs : ∀ b, b ∈ [p, q] → b < W.heap.size := by
    intro b hb
    simp at hb
    omega
  have hot : w5.ownsRow base 3 1 (.slice (some ⟨g, 0, none⟩) n n) n (T.map (Value.int .i64)) := (h.ot.alloc tmp).kept hgrow (.inr fun e => hne g hp.g0 e)
  refine ⟨own_slice hown, hold q _ _ hp.q0 h.be, ⟨(hold p _ _ hp.p0 h.bt).other hp.pq v1, (hold q _ _ hp.q0 h.be).set v1, hot.kept (grownBy_setCell' w5 q v1) (.inr fun e => ?_), ?_⟩, ?_, ?_, ?_, ?_, ?_⟩
  · simp only [Value.ownBlock, Option.some.injEq] at e
    exact hp.gq (by first | exact e.symm | exact e)
  · have := hown.kept (grownBy_setCell' w5 q v1) (.inr fun e => by
      have := (hown.lt q e).1
      have := hp.q0
      omega)
    simpa using this
  · refine ((KeepsOthers.alloc W tmp).trans (KeepsOthers.of_grownBy hgrow fun j o ej hj => ?_)).trans (KeepsOthers.setCell _ _ _)
    rcases (h.oe.alloc tmp).2 with ⟨hv, _⟩ | ⟨g, cap, cur, hv, _, hgb, _⟩
    · rw [hv] at ej
      cases ej
    · rw [hv] at ej
      injection ej with ej
      have ej : g = j := ej
      subst ej
      rw [hgb] at hj
      injection hj with hj
      rw [← hj]
      rfl
  · exact kept_append (by simp) h.be hbs hgrow hat (fun b hb e => by have := (hlu b e).1; have := hp.p0; have := hp.q0; simp at hb; omega) (fun g e => (hl1 g e).2)
  · simpa [World.setCell] using hsz
  · intro m w hn hnp hnq hng hb
    refine ((hb.alloc (by omega) tmp).grown hgrow (by simp; omega) fun j ej => ?_).setCell (p := ⟨q, 0, none⟩) hnq v1
    have := (hlu j ej).1
    omega
  · intro b hb hbp hbq hbg hbu
    exact (Below.heap_setCell _ _ _ _ hbq).trans ((hgrow.block b (by simp; omega) (fun e => hbu e.symm)).trans (Below.heap_alloc _ _ _ hb))

theorem map_set_int (E : List Int) (t : Nat) (x : Int) : (E.map (Value.int .i64)).set t (.int .i64 x) = (E.set t x).map (Value.int .i64) := by rw [List.map_set]

theorem TrayS.storeE {n₀ base : Nat} {W : World} {p q g n k b c : Nat} {T E : List Int} (h : TrayS n₀ base W p q g n T (.slice (some ⟨b, 0, none⟩) k c) k E) (hp : Places n₀ base p q g) (t : Nat) (x : Int) :
    TrayS n₀ base (W.setCell ⟨b, t, none⟩ (.int .i64 x)) p q g n T (.slice (some ⟨b, 0, none⟩) k c) k (E.set t x) ∧ Left n₀ p q g (.slice (some ⟨b, 0, none⟩) k c) W (W.setCell ⟨b, t, none⟩ (.int .i64 x)) := by
  have hb0 : n₀ ≤ b := (h.oe.lt b rfl).1
  have h1 := hp.p0
  have h2 := hp.q0
  have h3 := hp.g0
  obtain ⟨hs, hg⟩ := h.oe.stored t (.int .i64 x)
  rw [map_set_int] at hs
  refine ⟨⟨?_, ?_, h.ot.kept hg (.inr ?_), hs⟩, KeepsOthers.setCell _ _ _, Kept.setRow _ ⟨q, by simp, _, h.be.cell, rfl⟩ (by simp; omega), by simp [World.setCell], ?_, ?_⟩
  · exact (Below.heap_setCell _ _ _ _ (by show p ≠ b; omega)).trans h.bt
  · exact (Below.heap_setCell _ _ _ _ (by show q ≠ b; omega)).trans h.be
  · simp only [Value.ownBlock]
    intro e
    injection e with e
    omega
  · intro m w hm _ _ _ hb
    exact hb.setCell (p := ⟨b, t, none⟩) (by show m ≤ b; omega) _
  · intro b' hb' _ _ _ hu
    exact Below.heap_setCell _ _ _ _ (by show b' ≠ b; intro e; exact hu (by rw [e]; rfl))

theorem TrayS.storeT {n₀ base : Nat} {W : World} {p q g n k : Nat} {u : Value} {T E : List Int} (h : TrayS n₀ base W p q g n T u k E) (hp : Places n₀ base p q g) (t : Nat) (x : Int) :
    TrayS n₀ base (W.setCell ⟨g, t, none⟩ (.int .i64 x)) p q g n (T.set t x) u k E ∧ Left n₀ p q g u W (W.setCell ⟨g, t, none⟩ (.int .i64 x)) := by
  have h1 := hp.gp
  have h2 := hp.gq
  have h3 := hp.g0
  obtain ⟨hs, hg⟩ := h.ot.stored t (.int .i64 x)
  rw [map_set_int] at hs
  refine ⟨⟨?_, ?_, hs, h.oe.kept hg (.inr ?_)⟩, KeepsOthers.setCell _ _ _, Kept.setRow _ ⟨p, by simp, _, h.bt.cell, rfl⟩ (by simp; omega), by simp [World.setCell], ?_, ?_⟩
  · exact (Below.heap_setCell _ _ _ _ (by show p ≠ g; omega)).trans h.bt
  · exact (Below.heap_setCell _ _ _ _ (by show q ≠ g; omega)).trans h.be
  · intro e
    have := (h.oe.lt g (by first | exact e | exact e.symm)).1
    omega
  · intro m w _ _ _ hm hb
    exact hb.setCell (p := ⟨g, t, none⟩) (by show m ≤ g; omega) _
  · intro b' hb' _ _ hbg _
    exact Below.heap_setCell _ _ _ _ (by show b' ≠ g; exact hbg)

theorem Left.trans {n₀ p q g : Nat} {u u' : Value} {W W' W'' : World} (h : Left n₀ p q g u W W') (k : Left n₀ p q g u' W' W'') :
    KeepsOthers W W'' ∧ Kept [p, q] W W'' ∧ W.heap.size ≤ W''.heap.size ∧ ∀ n w, n ≤ n₀ → n ≤ p → n ≤ q → n ≤ g → Below n w W → Below n w W'' :=
  ⟨h.others.trans k.others, h.kept.trans k.kept, Nat.le_trans h.size k.size, fun n w a b c d e => k.below n w a b c d (h.below n w a b c d e)⟩

/-- a row that is not empty lies in a block -/
theorem row_block {W : World} {base : Nat} {e : TypeId} {size k c : Nat} {a : Option Addr} {zs : List Value} (h : W.ownsRow base e size (.slice a (k + 1) c) (k + 1) zs) : ∃ b, a = some ⟨b, 0, none⟩ := by
  rcases h.2 with ⟨h', _⟩ | ⟨g', cap, cur, h', _⟩
  · simp at h'
  · simp only [Value.slice.injEq] at h'
    exact ⟨g', h'.1⟩

end Go.Proofs.Ytikfiofjhmeheaa
