/- Contract of the law's own. -/
import Derived.Test.YtdepnhnpklbmiaaB15
namespace Go.Proofs.Ytdepnhnpklbmiaa
open Go.RowKit Go.Sort

/-- k numbers of xs are copied into the row g -/
structure OwnI (w wr : World) (p g n : Nat) (xs : List Int) (V : Array Value) (k : Nat) : Prop where
  arg : wr.heap[p]? = some (.cells V 24 (0, 0))
  row : ∃ T : List Int, wr.ownsRow g 3 1 (.slice (some ⟨g, 0, none⟩) n n) n (T.map (Value.int .i64)) ∧ ∀ j, j < k → iA T j = iA xs j
  below : Below w.heap.size w wr
  res : wr.heap[p + 1]? = some (.cells #[.int .i64 0, .int .i64 0, .slice none 0 0] 24 (0, 0))
  lt : p + 1 < wr.heap.size

theorem OwnI.next {w wr : World} {p g n : Nat} {xs : List Int} {V : Array Value} {k : Nat} (h : OwnI w wr p g n xs V k) (hk : k < n) (hpg : p + 1 < g) (hwg : w.heap.size ≤ g) (q : Nat) :
    OwnI w ((wr.drewN q).setCell ⟨g, k, none⟩ (.int .i64 (iA xs k))) p g n xs V (k + 1) ∧ (∀ q, ∃ v, (wr.drewN q).cell? ⟨g, k, none⟩ = some v) ∧ ∀ q, (wr.drewN q).frozen? ⟨g, k, none⟩ = false := by
  have hG := fun q => (Gr.refl wr).drewN q
  obtain ⟨T, hT, hTx⟩ := h.row
  have hTl : T.length = n := by simpa using hT.1
  have hT9 := fun q => own_below hT (hG q).below
  have hs := (hT9 q |>.stored k (.int .i64 (iA xs k))).1
  rw [← List.map_set] at hs
  refine ⟨⟨?_, ⟨_, hs, fun j hj => ?_⟩, ?_, ?_, ?_⟩, fun q => ⟨_, (own_cell (hT9 q) hk).1⟩, fun q => (own_cell (hT9 q) hk).2⟩
  · rw [heap_setCell_other _ ⟨g, k, none⟩ p _ (by show p ≠ g; omega)]
    exact ((hG q).block (by have := h.lt; omega)).trans h.arg
  · rw [iA_set _ _ _ _ (by omega)]
    by_cases hjk : j = k
    · rw [if_pos hjk, hjk]
    · rw [if_neg hjk]
      exact hTx j (by omega)
  · exact (h.below.trans ((hG q).below.mono h.below.size)).setCell (p := ⟨g, k, none⟩) hwg _
  · rw [heap_setCell_other _ ⟨g, k, none⟩ (p + 1) _ (by show p + 1 ≠ g; omega)]
    exact ((hG q).block h.lt).trans h.res
  · simpa using h.lt

theorem results16 {W : World} {g : Nat} {a b c : Value} {t : TypeId} (h : W.heap[g]? = some (.cells #[a, b, c] t (0, 0))) (x0 x1 : Value) (rest : List Value) :
    (results Try.f16 (x0 :: x1 :: .pointer (some ⟨g, 0, none⟩) :: rest).toArray).run Try.prog W = .ok (.agg #[a, b, c]) W := by
  have h0 := cell_of_heap' h 0
  have h1 := cell_of_heap' h 1
  have h2 := cell_of_heap' h 2
  simp at h0 h1 h2
  simp [results, Try.results16, go_sem, h0, h1, h2]

theorem own_le {w : World} {base base' size n : Nat} {e : TypeId} {v : Value} {xs : List Value} (h : w.ownsRow base e size v n xs) (hb : base' ≤ base) : w.ownsRow base' e size v n xs :=
  ⟨h.1, h.2.imp id fun ⟨g, cap, cur, h1, h2, h3⟩ => ⟨g, cap, cur, h1, Nat.le_trans hb h2, h3⟩⟩

def OwnPost (c : Cu) (n : Nat) (w : World) (e : Ending) (w' : World) : Prop :=
  ∃ A, e = .returned (.agg #[.int .i64 c.fr, .int .i64 c.fst, .slice A n n]) ∧ w'.ownsRow w.heap.size 3 1 (.slice A n n) n (c.sl.map (Value.int .i64)) ∧ Below w.heap.size w w'

set_option maxHeartbeats 2000000 in
set_option maxRecDepth 100000 in
theorem own_any (c : Cu) (A : Option Addr) (n cap : Nat) (w : World) (hx : IntsAt w.heap.size w A n c.sl) (hn : n ≤ 1000000) :
    Calls Try.prog 16 #[.agg #[.int .i64 c.fr, .int .i64 c.fst, .slice A n cap]] w (OwnPost c n w) := by
  have mixed := mixedOrders
  have HX := hide hx
  obtain ⟨f, hf⟩ : ∃ f, c.fr = f := ⟨_, rfl⟩
  obtain ⟨s, hs⟩ : ∃ f, c.fst = f := ⟨_, rfl⟩
  have HC : Hid (c.fr = f ∧ c.fst = s) := ⟨hf, hs⟩
  rw [hf, hs]
  obtain ⟨p, hp⟩ : ∃ p, w.heap.size = p := ⟨_, rfl⟩
  have hmk2 := run_make_row' (P := Try.prog) 22 3 (.int .i64 0) 8 Try.underlying22 info3 rfl .i64 .i64 n (by omega) (by omega)
  obtain ⟨g, hg⟩ : ∃ g, p + 1 + 1 = g := ⟨_, rfl⟩
  have hno : ∀ W0 : World, W0.heap.size = g → (W0.alloc (.cells (madeCells #[.int .i64 0] n) 3)).ownsRow g 3 1 (.slice (some ⟨g, 0, none⟩) n n) n ((List.replicate n (0 : Int)).map (Value.int .i64)) := fun W0 h0 => by rw [← h0]; exact made_ints W0 (Nat.le_refl _) (by omega)
  have HS0 : Hid (OwnI w (((w.alloc (.cells #[.int .i64 f, .int .i64 s, .slice A n cap] 24)).alloc (.cells #[.int .i64 0, .int .i64 0, .slice none 0 0] 24)).alloc (.cells (madeCells #[.int .i64 0] n) 3)) p g n c.sl #[.int .i64 f, .int .i64 s, .slice A n cap] 0) := by
    refine ⟨?_, ⟨_, hno _ (by simp; omega), fun j hj => by omega⟩, (((Gr.refl w).alloc _).alloc _).alloc _ |>.below, ?_, by simp; omega⟩
    · rw [← hp]
      exact (Below.heap_alloc _ _ _ (by simp; omega)).trans ((Below.heap_alloc _ _ _ (by simp)).trans (heap_alloc_new w _))
    · rw [← hp]
      refine (Below.heap_alloc _ _ _ (by simp)).trans ?_
      simpa using heap_alloc_new (w.alloc (.cells #[.int .i64 f, .int .i64 s, .slice A n cap] 24)) (.cells #[.int .i64 0, .int .i64 0, .slice none 0 0] 24)
  obtain ⟨W1, hW1⟩ : ∃ W1, ((w.alloc (.cells #[.int .i64 f, .int .i64 s, .slice A n cap] 24)).alloc (.cells #[.int .i64 0, .int .i64 0, .slice none 0 0] 24)).alloc (.cells (madeCells #[.int .i64 0] n) 3) = W1 := ⟨_, rfl⟩
  rw [hW1] at HS0
  clear hx hf hs hno
  go_enter Try.func16, Try.ntmps16
  go_wp2_with fail
  try simp only [World.size_alloc]
  try rw [hp]
  try rw [hW1]
  try rw [hg]
  go_loopw [4] (fun i wr => ∃ k : Nat, k ≤ n ∧ i = .int .i64 k ∧ Hid (OwnI w wr p g n c.sl #[.int .i64 f, .int .i64 s, .slice A n cap] k)) (fun i _ => n - (intOf i).toNat)
  case atStart => exact ⟨0, Nat.zero_le _, rfl, HS0⟩
  case round =>
    obtain ⟨k, hk, rfl, HO⟩ := hrel
    by_cases hlt : k < n
    · obtain ⟨b, off, rfl, hb, c0⟩ := HX.out.at_ hlt
      have hlt' : (k : Int) < (n : Int) := by omega
      have hb' : b < w.heap.size := hb
      have E0 : wr.cell? ⟨b, off + k, none⟩ = some (.int .i64 (iA c.sl k)) := (HO.out.below.cell (p := ⟨b, off + k, none⟩) hb).trans c0
      have E1 : wr.cell? ⟨p, 2, none⟩ = some (.slice (some ⟨b, off, none⟩) n cap) := by have := cell_of_heap' HO.out.arg 2; simpa using this
      have HN := hide (fun q => HO.out.next hlt (by omega) (by omega) q)
      obtain ⟨v, E2⟩ := (HN.out 0).2.1 0
      have E3 := (HN.out 0).2.2 0
      rw [World.drewN_zero] at E2 E3
      generalize iA c.sl k = z at E0 HN
      clear c0
      go_wp2_with fail
      exact ⟨⟨k + 1, by omega, by go_num, by have := (HN.out 0).1; rwa [World.drewN_zero] at this⟩, by simp [intOf]; omega⟩
    · obtain rfl : k = n := by omega
      have HH := hide HO.out.res
      have za := fun i => cell_of_heap' HO.out.arg i
      have zr := fun i => cell_of_heap' HO.out.res i
      have a0 := za 0
      have a1 := za 1
      have a2 := za 2
      have r0 := zr 0
      have r1 := zr 1
      have r2 := zr 2
      have y0 := frozen_of_heap' HO.out.res 0
      have y1 := frozen_of_heap' HO.out.res 1
      have y2 := frozen_of_heap' HO.out.res 2
      have y3 := frozen_of_heap' HO.out.arg 2
      simp at a0 a1 a2 r0 r1 r2
      clear za zr
      go_wp2_with fail
      have hh2 : (wr.setCell ⟨p, 2, none⟩ (.slice (some ⟨g, 0, none⟩) k k)).heap[p + 1]? = some (.cells #[.int .i64 0, .int .i64 0, .slice none 0 0] 24 (0, 0)) := by
        rw [heap_setCell_other _ ⟨p, 2, none⟩ (p + 1) _ (by show p + 1 ≠ p; omega)]
        exact HH.out
      refine bodyPost_ret (results16 (set3_heap hh2 _ _ _) _ _ _) rfl ?_
      obtain ⟨T, hT, hTx⟩ := HO.out.row
      have hTl : T.length = k := by simpa using hT.1
      have hTe : T = c.sl := ints_ext (by rw [hTl, HX.out.1]) (fun j hj => hTx j (by omega))
      subst hTe
      have hF := own_set3 (RowKit.ownsRow_setCell_below hT (a := ⟨p, 2, none⟩) (by show p < g; omega) (.slice (some ⟨g, 0, none⟩) k k)) (g := p + 1) (by omega) (.int .i64 f) (.int .i64 s) (.slice (some ⟨g, 0, none⟩) k k)
      exact ⟨_, by rw [HC.out.1, HC.out.2], own_le hF (by omega), set3_below (HO.out.below.setCell (p := ⟨p, 2, none⟩) (by show _ ≤ p; omega) _) (by omega) _ _ _⟩
end Go.Proofs.Ytdepnhnpklbmiaa
