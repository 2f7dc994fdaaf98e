/- Contract of the law's told. -/
import Derived.Test.YtdepnhnpklbmiaaB16
namespace Go.Proofs.Ytdepnhnpklbmiaa
open Go.RowKit Go.Sort

/-- a's row is written over -/
structure ToldI (base : Nat) (w wr : World) (p : Nat) (A : Option Addr) (n cap : Nat) (V : Array Value) : Prop where
  arg : wr.heap[p]? = some (.cells V 24 (0, 0))
  row : ∃ T : List Int, wr.ownsRow base 3 1 (.slice A n cap) n (T.map (Value.int .i64))
  below : Below base w wr
  lt : p < wr.heap.size

theorem ToldI.next {base : Nat} {w wr : World} {p g n cap : Nat} {V : Array Value} {k : Nat} (h : ToldI base w wr p (some ⟨g, 0, none⟩) n cap V) (hk : k < n) (hpg : p ≠ g) (hb : base ≤ g) (z : Int) :
    ToldI base w (wr.setCell ⟨g, k, none⟩ (.int .i64 z)) p (some ⟨g, 0, none⟩) n cap V ∧ (∃ v, wr.cell? ⟨g, k, none⟩ = some v) ∧ wr.frozen? ⟨g, k, none⟩ = false := by
  obtain ⟨T, hT⟩ := h.row
  have hs := (hT.stored k (.int .i64 z)).1
  rw [← List.map_set] at hs
  refine ⟨⟨?_, ⟨_, hs⟩, ?_, ?_⟩, ⟨_, (own_cell hT hk).1⟩, (own_cell hT hk).2⟩
  · rw [heap_setCell_other _ ⟨g, k, none⟩ p _ hpg]
    exact h.arg
  · exact h.below.setCell (p := ⟨g, k, none⟩) hb _
  · simpa using h.lt

set_option maxHeartbeats 2000000 in
set_option maxRecDepth 100000 in
theorem told_any (a b : Cu) (base : Nat) (A1 : Option Addr) (n1 k1 : Nat) (A2 : Option Addr) (n2 k2 : Nat) (x y : Int) (w : World) (ha : w.ownsRow base 3 1 (.slice A1 n1 k1) n1 (a.sl.map (Value.int .i64))) (hbs : base ≤ w.heap.size) (hb : IntsAt w.heap.size w A2 n2 b.sl) (h1 : n1 ≤ 9223372036854775807) (h2 : n2 ≤ 9223372036854775807) :
    Calls Try.prog 23 #[.agg #[.int .i64 a.fr, .int .i64 a.fst, .slice A1 n1 k1], .int .i64 x, .agg #[.int .i64 b.fr, .int .i64 b.fst, .slice A2 n2 k2], .int .i64 y] w fun e w' => e = .returned (.bool (likeB a b && x == y)) ∧ Below base w w' := by
  have mixed := mixedOrders
  have HGT : Hid (∀ g, A1 = some ⟨g, 0, none⟩ → base ≤ g ∧ g < w.heap.size) := fun g e => ha.lt g (by rw [e]; rfl)
  have HFO : Hid (0 < n1 → ∃ g, A1 = some ⟨g, 0, none⟩) := fun h0 => by
    rcases ha.2 with ⟨_, h⟩ | ⟨g, cap, cur, hv, _⟩
    · omega
    · injection hv with hv
      exact ⟨g, hv⟩
  obtain ⟨p, hp⟩ : ∃ p, w.heap.size = p := ⟨_, rfl⟩
  obtain ⟨W1, hW1⟩ : ∃ W1, (w.alloc (.cells #[.int .i64 a.fr, .int .i64 a.fst, .slice A1 n1 k1] 24)).alloc (.cells #[.int .i64 b.fr, .int .i64 b.fst, .slice A2 n2 k2] 24) = W1 := ⟨_, rfl⟩
  have hG1 : Gr w W1 := by rw [← hW1]; exact ((Gr.refl w).alloc _).alloc _
  have ua : W1.heap[p]? = some (.cells #[.int .i64 a.fr, .int .i64 a.fst, .slice A1 n1 k1] 24 (0, 0)) := by
    rw [← hW1, ← hp]
    exact (Below.heap_alloc _ _ _ (by simp)).trans (heap_alloc_new w _)
  have ub : W1.heap[p + 1]? = some (.cells #[.int .i64 b.fr, .int .i64 b.fst, .slice A2 n2 k2] 24 (0, 0)) := by
    rw [← hW1, ← hp]
    simpa using heap_alloc_new (w.alloc (.cells #[.int .i64 a.fr, .int .i64 a.fst, .slice A1 n1 k1] 24)) (.cells #[.int .i64 b.fr, .int .i64 b.fst, .slice A2 n2 k2] 24)
  have hs1 : W1.heap.size = p + 2 := by rw [← hW1, ← hp]; simp
  have HL := hide (alike_any a b A1 n1 k1 A2 n2 k2 W1 ((ints_of_own ha).gr hG1) (hb.gr hG1) h1 h2)
  have HG1 := hide hG1
  have HA := hide ha
  have a0 := cell_of_heap' ua 0
  have a1 := cell_of_heap' ua 1
  have a2 := cell_of_heap' ua 2
  have b0 := cell_of_heap' ub 0
  have b1 := cell_of_heap' ub 1
  have b2 := cell_of_heap' ub 2
  simp at a0 a1 a2 b0 b1 b2
  have HU := hide ua
  generalize likeB a b = r at HL
  clear ha hb hG1 ua ub
  go_enter Try.func23, Try.ntmps23
  go_wp2_with fail
  try rw [hp]
  refine HL.out.mono ?_
  rintro e w2 ⟨rfl, hG2⟩
  have hG12 := HG1.out.trans hG2
  have HT0 : Hid (ToldI base w w2 p A1 n1 k1 #[.int .i64 a.fr, .int .i64 a.fst, .slice A1 n1 k1]) := ⟨(hG2.block (k := p) (by omega)).trans HU.out, ⟨_, own_below HA.out hG12.below⟩, hG12.below.mono hbs, by have := hG2.size; omega⟩
  have HGT2 : Hid (∀ g, A1 = some ⟨g, 0, none⟩ → base ≤ g ∧ g < p) := fun g e => by have := HGT.out g e; omega
  clear hG2 hG12 HL HU a0 a1 a2 b0 b1 b2 hW1 hp
  cases r
  · go_wp2_with fail
    go_loopw [10] (fun i wr => ∃ k : Nat, k ≤ n1 ∧ i = .int .i64 k ∧ Hid (ToldI base w wr p A1 n1 k1 #[.int .i64 a.fr, .int .i64 a.fst, .slice A1 n1 k1])) (fun i _ => n1 - (intOf i).toNat)
    case atStart => exact ⟨0, Nat.zero_le _, rfl, HT0⟩
    case round =>
      obtain ⟨k, hk, rfl, HT⟩ := hrel
      have a2 := cell_of_heap' HT.out.arg 2
      simp at a2
      by_cases hlt : k < n1
      · obtain ⟨g, rfl⟩ := HFO.out (by omega)
        obtain ⟨hg1, hg2⟩ := HGT2.out g rfl
        obtain ⟨hn, ⟨v, e2⟩, e3⟩ := HT.out.next hlt (by omega) hg1 (-77)
        have HN := hide hn
        have hlt' : (k : Int) < (n1 : Int) := by omega
        clear hn
        go_wp2_with fail
        exact ⟨⟨k + 1, by omega, by go_num, HN⟩, by simp [intOf]; omega⟩
      · obtain rfl : k = n1 := by omega
        go_wp2
        go_ret
        exact ⟨rfl, HT.out.below⟩
  · go_wp2_with fail
    go_loopw [10] (fun i wr => ∃ k : Nat, k ≤ n1 ∧ i = .int .i64 k ∧ Hid (ToldI base w wr p A1 n1 k1 #[.int .i64 a.fr, .int .i64 a.fst, .slice A1 n1 k1])) (fun i _ => n1 - (intOf i).toNat)
    case atStart => exact ⟨0, Nat.zero_le _, rfl, HT0⟩
    case round =>
      obtain ⟨k, hk, rfl, HT⟩ := hrel
      have a2 := cell_of_heap' HT.out.arg 2
      simp at a2
      by_cases hlt : k < n1
      · obtain ⟨g, rfl⟩ := HFO.out (by omega)
        obtain ⟨hg1, hg2⟩ := HGT2.out g rfl
        obtain ⟨hn, ⟨v, e2⟩, e3⟩ := HT.out.next hlt (by omega) hg1 (-77)
        have HN := hide hn
        have hlt' : (k : Int) < (n1 : Int) := by omega
        clear hn
        go_wp2_with fail
        exact ⟨⟨k + 1, by omega, by go_num, HN⟩, by simp [intOf]; omega⟩
      · obtain rfl : k = n1 := by omega
        go_wp2
        go_ret
        exact ⟨rfl, HT.out.below⟩

end Go.Proofs.Ytdepnhnpklbmiaa
