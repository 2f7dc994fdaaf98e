/- Contract of the law's own. -/
import Derived.Test.YtdepnhnpklbmiaaA3
namespace Go.Proofs.Ytdepnhnpklbmiaa
open Go.RowKit Go.Sort

/-- k numbers of xs are copied into the row g -/
structure OwnI (w wr : World) (p g n : Nat) (xs : List Int) (V : Array Value) (k : Nat) : Prop where
  arg : wr.heap[p]? = some (.cells V 24 (0, 0))
  row : ∃ T : List Int, wr.ownsRow g 3 1 (.slice (some ⟨g, 0, none⟩) n n) n (T.map (Value.int .i64)) ∧ ∀ j, j < k → iA T j = iA xs j
  below : Below w.heap.size w wr
  res : wr.heap[p + 1]? = some (.cells #[.int .i64 0, .int .i64 0, .slice none 0 0] 24 (0, 0))
  lt : p + 1 < wr.heap.size

theorem OwnI.next {w wr : World} {p g n : Nat} {xs : List Int} {V : Array Value} {k : Nat} (h : OwnI w wr p g n xs V k) (hk : k < n) (hpg : p + 1 < g) (hwg : w.heap.size ≤ g) (q : Nat) :
    OwnI w ((wr.drewN q).setCell ⟨g, k, none⟩ (.int .i64 (iA xs k))) p g n xs V (k + 1) ∧ (∀ q, ∃ v, (wr.drewN q).cell? ⟨g, k, none⟩ = some v) ∧ ∀ q, (wr.drewN q).frozen? ⟨g, k, none⟩ = false := by
  have hG := fun q => (Gr.refl wr).drewN q
  obtain ⟨T, hT, hTx⟩ := h.row
  have hTl : T.length = n := by simpa using hT.1
  have hT9 := fun q => own_below hT (hG q).below
  have hs := (hT9 q |>.stored k (.int .i64 (iA xs k))).1
  rw [← List.map_set] at hs
  refine ⟨⟨?_, ⟨_, hs, fun j hj => ?_⟩, ?_, ?_, ?_⟩, fun q => ⟨_, (own_cell (hT9 q) hk).1⟩, fun q => (own_cell (hT9 q) hk).2⟩
  · rw [heap_setCell_other _ ⟨g, k, none⟩ p _ (by show p ≠ g; omega)]
    exact ((hG q).block (by have := h.lt; omega)).trans h.arg
  · rw [iA_set _ _ _ _ (by omega)]
    by_cases hjk : j = k
    · rw [if_pos hjk, hjk]
    · rw [if_neg hjk]
      exact hTx j (by omega)
  · exact (h.below.trans ((hG q).below.mono h.below.size)).setCell (p := ⟨g, k, none⟩) hwg _
  · rw [heap_setCell_other _ ⟨g, k, none⟩ (p + 1) _ (by show p + 1 ≠ g; omega)]
    exact ((hG q).block h.lt).trans h.res
  · simpa using h.lt

theorem results16 {W : World} {g : Nat} {a b c : Value} {t : TypeId} (h : W.heap[g]? = some (.cells #[a, b, c] t (0, 0))) (x0 x1 : Value) (rest : List Value) :
    (results Try.f16 (x0 :: x1 :: .pointer (some ⟨g, 0, none⟩) :: rest).toArray).run Try.prog W = .ok (.agg #[a, b, c]) W := by
  have h0 := cell_of_heap' h 0
  have h1 := cell_of_heap' h 1
  have h2 := cell_of_heap' h 2
  simp at h0 h1 h2
  simp [results, Try.results16, go_sem, h0, h1, h2]

theorem own_le {w : World} {base base' size n : Nat} {e : TypeId} {v : Value} {xs : List Value} (h : w.ownsRow base e size v n xs) (hb : base' ≤ base) : w.ownsRow base' e size v n xs :=
  ⟨h.1, h.2.imp id fun ⟨g, cap, cur, h1, h2, h3⟩ => ⟨g, cap, cur, h1, Nat.le_trans hb h2, h3⟩⟩

def OwnPost (c : Cu) (n : Nat) (w : World) (e : Ending) (w' : World) : Prop :=
  ∃ A, e = .returned (.agg #[.int .i64 c.fr, .int .i64 c.fst, .slice A n n]) ∧ w'.ownsRow w.heap.size 3 1 (.slice A n n) n (c.sl.map (Value.int .i64)) ∧ Below w.heap.size w w'

set_option maxHeartbeats 2000000 in
set_option maxRecDepth 100000 in
theorem own_any (c : Cu) (A : Option Addr) (n cap : Nat) (w : World) (hx : IntsAt w.heap.size w A n c.sl) (hn : n ≤ 1000000) :
    Calls Try.prog 16 #[.agg #[.int .i64 c.fr, .int .i64 c.fst, .slice A n cap]] w (OwnPost c n w) := by
  have mixed := mixedOrders
  have HX := hide hx
  obtain ⟨f, hf⟩ : ∃ f, c.fr = f := ⟨_, rfl⟩
  obtain ⟨s, hs⟩ : ∃ f, c.fst = f := ⟨_, rfl⟩
  have HC : Hid (c.fr = f ∧ c.fst = s) := ⟨hf, hs⟩
  rw [hf, hs]
  obtain ⟨p, hp⟩ : ∃ p, w.heap.size = p := ⟨_, rfl⟩
  have hmk2 := run_make_row' (P := Try.prog) 22 3 (.int .i64 0) 8 Try.underlying22 info3 rfl .i64 .i64 n (by omega) (by omega)
  obtain ⟨g, hg⟩ : ∃ g, p + 1 + 1 = g := ⟨_, rfl⟩
  have hno : ∀ W0 : World, W0.heap.size = g → (W0.alloc (.cells (madeCells #[.int .i64 0] n) 3)).ownsRow g 3 1 (.slice (some ⟨g, 0, none⟩) n n) n ((List.replicate n (0 : Int)).map (Value.int .i64)) := fun W0 h0 => by rw [← h0]; exact made_ints W0 (Nat.le_refl _) (by omega)
  have HS0 : Hid (OwnI w (((w.alloc (.cells #[.int .i64 f, .int .i64 s, .slice A n cap] 24)).alloc (.cells #[.int .i64 0, .int .i64 0, .slice none 0 0] 24)).alloc (.cells (madeCells #[.int .i64 0] n) 3)) p g n c.sl #[.int .i64 f, .int .i64 s, .slice A n cap] 0) := by
    refine ⟨?_, ⟨_, hno _ (by simp; omega), fun j hj => by omega⟩, (((Gr.refl w).alloc _).alloc _).alloc _ |>.below, ?_, by simp; omega⟩
    · rw [← hp]
      exact (Below.heap_alloc _ _ _ (by simp; omega)).trans ((Below.heap_alloc _ _ _ (by simp)).trans (heap_alloc_new w _))
    · rw [← hp]
      refine (Below.heap_alloc _ _ _ (by simp)).trans ?_
      simpa using heap_alloc_new (w.alloc (.cells #[.int .i64 f, .int .i64 s, .slice A n cap] 24)) (.cells #[.int .i64 0, .int .i64 0, .slice none 0 0] 24)
  obtain ⟨W1, hW1⟩ : ∃ W1, ((w.alloc (.cells #[.int .i64 f, .int .i64 s, .slice A n cap] 24)).alloc (.cells #[.int .i64 0, .int .i64 0, .slice none 0 0] 24)).alloc (.cells (madeCells #[.int .i64 0] n) 3) = W1 := ⟨_, rfl⟩
  rw [hW1] at HS0
  clear hx hf hs hno
  go_enter Try.func16, Try.ntmps16
  go_wp2_with fail
  try simp only [World.size_alloc]
  try rw [hp]
  try rw [hW1]
  try rw [hg]
  go_loopw [4] (fun i wr => ∃ k : Nat, k ≤ n ∧ i = .int .i64 k ∧ Hid (OwnI w wr p g n c.sl #[.int .i64 f, .int .i64 s, .slice A n cap] k)) (fun i _ => n - (intOf i).toNat)
  case atStart => exact ⟨0, Nat.zero_le _, rfl, HS0⟩
  case round =>
    obtain ⟨k, hk, rfl, HO⟩ := hrel
    by_cases hlt : k < n
    · obtain ⟨b, off, rfl, hb, c0⟩ := HX.out.at_ hlt
      have hlt' : (k : Int) < (n : Int) := by omega
      have hb' : b < w.heap.size := hb
      have E0 : wr.cell? ⟨b, off + k, none⟩ = some (.int .i64 (iA c.sl k)) := (HO.out.below.cell (p := ⟨b, off + k, none⟩) hb).trans c0
      have E1 : wr.cell? ⟨p, 2, none⟩ = some (.slice (some ⟨b, off, none⟩) n cap) := by have := cell_of_heap' HO.out.arg 2; simpa using this
      have HN := hide (fun q => HO.out.next hlt (by omega) (by omega) q)
      obtain ⟨v, E2⟩ := (HN.out 0).2.1 0
      have E3 := (HN.out 0).2.2 0
      rw [World.drewN_zero] at E2 E3
      generalize iA c.sl k = z at E0 HN
      clear c0
      go_wp2_with fail
      exact ⟨⟨k + 1, by omega, by go_num, by have := (HN.out 0).1; rwa [World.drewN_zero] at this⟩, by simp [intOf]; omega⟩
    · obtain rfl : k = n := by omega
      have HH := hide HO.out.res
      have za := fun i => cell_of_heap' HO.out.arg i
      have zr := fun i => cell_of_heap' HO.out.res i
      have a0 := za 0
      have a1 := za 1
      have a2 := za 2
      have r0 := zr 0
      have r1 := zr 1
      have r2 := zr 2
      have y0 := frozen_of_heap' HO.out.res 0
      have y1 := frozen_of_heap' HO.out.res 1
      have y2 := frozen_of_heap' HO.out.res 2
      have y3 := frozen_of_heap' HO.out.arg 2
      simp at a0 a1 a2 r0 r1 r2
      clear za zr
      go_wp2_with fail
      have hh2 : (wr.setCell ⟨p, 2, none⟩ (.slice (some ⟨g, 0, none⟩) k k)).heap[p + 1]? = some (.cells #[.int .i64 0, .int .i64 0, .slice none 0 0] 24 (0, 0)) := by
        rw [heap_setCell_other _ ⟨p, 2, none⟩ (p + 1) _ (by show p + 1 ≠ p; omega)]
        exact HH.out
      refine bodyPost_ret (results16 (set3_heap hh2 _ _ _) _ _ _) rfl ?_
      obtain ⟨T, hT, hTx⟩ := HO.out.row
      have hTl : T.length = k := by simpa using hT.1
      have hTe : T = c.sl := ints_ext (by rw [hTl, HX.out.1]) (fun j hj => hTx j (by omega))
      subst hTe
      have hF := own_set3 (RowKit.ownsRow_setCell_below hT (a := ⟨p, 2, none⟩) (by show p < g; omega) (.slice (some ⟨g, 0, none⟩) k k)) (g := p + 1) (by omega) (.int .i64 f) (.int .i64 s) (.slice (some ⟨g, 0, none⟩) k k)
      exact ⟨_, by rw [HC.out.1, HC.out.2], own_le hF (by omega), set3_below (HO.out.below.setCell (p := ⟨p, 2, none⟩) (by show _ ≤ p; omega) _) (by omega) _ _ _⟩
end Go.Proofs.Ytdepnhnpklbmiaa
/- Contract of the law's told. -/
namespace Go.Proofs.Ytdepnhnpklbmiaa
open Go.RowKit Go.Sort

/-- a's row is written over -/
structure ToldI (base : Nat) (w wr : World) (p : Nat) (A : Option Addr) (n cap : Nat) (V : Array Value) : Prop where
  arg : wr.heap[p]? = some (.cells V 24 (0, 0))
  row : ∃ T : List Int, wr.ownsRow base 3 1 (.slice A n cap) n (T.map (Value.int .i64))
  below : Below base w wr
  lt : p < wr.heap.size

theorem ToldI.next {base : Nat} {w wr : World} {p g n cap : Nat} {V : Array Value} {k : Nat} (h : ToldI base w wr p (some ⟨g, 0, none⟩) n cap V) (hk : k < n) (hpg : p ≠ g) (hb : base ≤ g) (z : Int) :
    ToldI base w (wr.setCell ⟨g, k, none⟩ (.int .i64 z)) p (some ⟨g, 0, none⟩) n cap V ∧ (∃ v, wr.cell? ⟨g, k, none⟩ = some v) ∧ wr.frozen? ⟨g, k, none⟩ = false := by
  obtain ⟨T, hT⟩ := h.row
  have hs := (hT.stored k (.int .i64 z)).1
  rw [← List.map_set] at hs
  refine ⟨⟨?_, ⟨_, hs⟩, ?_, ?_⟩, ⟨_, (own_cell hT hk).1⟩, (own_cell hT hk).2⟩
  · rw [heap_setCell_other _ ⟨g, k, none⟩ p _ hpg]
    exact h.arg
  · exact h.below.setCell (p := ⟨g, k, none⟩) hb _
  · simpa using h.lt

set_option maxHeartbeats 2000000 in
set_option maxRecDepth 100000 in
theorem told_any (a b : Cu) (base : Nat) (A1 : Option Addr) (n1 k1 : Nat) (A2 : Option Addr) (n2 k2 : Nat) (x y : Int) (w : World) (ha : w.ownsRow base 3 1 (.slice A1 n1 k1) n1 (a.sl.map (Value.int .i64))) (hbs : base ≤ w.heap.size) (hb : IntsAt w.heap.size w A2 n2 b.sl) (h1 : n1 ≤ 9223372036854775807) (h2 : n2 ≤ 9223372036854775807) :
    Calls Try.prog 23 #[.agg #[.int .i64 a.fr, .int .i64 a.fst, .slice A1 n1 k1], .int .i64 x, .agg #[.int .i64 b.fr, .int .i64 b.fst, .slice A2 n2 k2], .int .i64 y] w fun e w' => e = .returned (.bool (likeB a b && x == y)) ∧ Below base w w' := by
  have mixed := mixedOrders
  have HGT : Hid (∀ g, A1 = some ⟨g, 0, none⟩ → base ≤ g ∧ g < w.heap.size) := fun g e => ha.lt g (by rw [e]; rfl)
  have HFO : Hid (0 < n1 → ∃ g, A1 = some ⟨g, 0, none⟩) := fun h0 => by
    rcases ha.2 with ⟨_, h⟩ | ⟨g, cap, cur, hv, _⟩
    · omega
    · injection hv with hv
      exact ⟨g, hv⟩
  obtain ⟨p, hp⟩ : ∃ p, w.heap.size = p := ⟨_, rfl⟩
  obtain ⟨W1, hW1⟩ : ∃ W1, (w.alloc (.cells #[.int .i64 a.fr, .int .i64 a.fst, .slice A1 n1 k1] 24)).alloc (.cells #[.int .i64 b.fr, .int .i64 b.fst, .slice A2 n2 k2] 24) = W1 := ⟨_, rfl⟩
  have hG1 : Gr w W1 := by rw [← hW1]; exact ((Gr.refl w).alloc _).alloc _
  have ua : W1.heap[p]? = some (.cells #[.int .i64 a.fr, .int .i64 a.fst, .slice A1 n1 k1] 24 (0, 0)) := by
    rw [← hW1, ← hp]
    exact (Below.heap_alloc _ _ _ (by simp)).trans (heap_alloc_new w _)
  have ub : W1.heap[p + 1]? = some (.cells #[.int .i64 b.fr, .int .i64 b.fst, .slice A2 n2 k2] 24 (0, 0)) := by
    rw [← hW1, ← hp]
    simpa using heap_alloc_new (w.alloc (.cells #[.int .i64 a.fr, .int .i64 a.fst, .slice A1 n1 k1] 24)) (.cells #[.int .i64 b.fr, .int .i64 b.fst, .slice A2 n2 k2] 24)
  have hs1 : W1.heap.size = p + 2 := by rw [← hW1, ← hp]; simp
  have HL := hide (alike_any a b A1 n1 k1 A2 n2 k2 W1 ((ints_of_own ha).gr hG1) (hb.gr hG1) h1 h2)
  have HG1 := hide hG1
  have HA := hide ha
  have a0 := cell_of_heap' ua 0
  have a1 := cell_of_heap' ua 1
  have a2 := cell_of_heap' ua 2
  have b0 := cell_of_heap' ub 0
  have b1 := cell_of_heap' ub 1
  have b2 := cell_of_heap' ub 2
  simp at a0 a1 a2 b0 b1 b2
  have HU := hide ua
  generalize likeB a b = r at HL
  clear ha hb hG1 ua ub
  go_enter Try.func23, Try.ntmps23
  go_wp2_with fail
  try rw [hp]
  refine HL.out.mono ?_
  rintro e w2 ⟨rfl, hG2⟩
  have hG12 := HG1.out.trans hG2
  have HT0 : Hid (ToldI base w w2 p A1 n1 k1 #[.int .i64 a.fr, .int .i64 a.fst, .slice A1 n1 k1]) := ⟨(hG2.block (k := p) (by omega)).trans HU.out, ⟨_, own_below HA.out hG12.below⟩, hG12.below.mono hbs, by have := hG2.size; omega⟩
  have HGT2 : Hid (∀ g, A1 = some ⟨g, 0, none⟩ → base ≤ g ∧ g < p) := fun g e => by have := HGT.out g e; omega
  clear hG2 hG12 HL HU a0 a1 a2 b0 b1 b2 hW1 hp
  cases r
  · go_wp2_with fail
    go_loopw [10] (fun i wr => ∃ k : Nat, k ≤ n1 ∧ i = .int .i64 k ∧ Hid (ToldI base w wr p A1 n1 k1 #[.int .i64 a.fr, .int .i64 a.fst, .slice A1 n1 k1])) (fun i _ => n1 - (intOf i).toNat)
    case atStart => exact ⟨0, Nat.zero_le _, rfl, HT0⟩
    case round =>
      obtain ⟨k, hk, rfl, HT⟩ := hrel
      have a2 := cell_of_heap' HT.out.arg 2
      simp at a2
      by_cases hlt : k < n1
      · obtain ⟨g, rfl⟩ := HFO.out (by omega)
        obtain ⟨hg1, hg2⟩ := HGT2.out g rfl
        obtain ⟨hn, ⟨v, e2⟩, e3⟩ := HT.out.next hlt (by omega) hg1 (-77)
        have HN := hide hn
        have hlt' : (k : Int) < (n1 : Int) := by omega
        clear hn
        go_wp2_with fail
        exact ⟨⟨k + 1, by omega, by go_num, HN⟩, by simp [intOf]; omega⟩
      · obtain rfl : k = n1 := by omega
        go_wp2
        go_ret
        exact ⟨rfl, HT.out.below⟩
  · go_wp2_with fail
    go_loopw [10] (fun i wr => ∃ k : Nat, k ≤ n1 ∧ i = .int .i64 k ∧ Hid (ToldI base w wr p A1 n1 k1 #[.int .i64 a.fr, .int .i64 a.fst, .slice A1 n1 k1])) (fun i _ => n1 - (intOf i).toNat)
    case atStart => exact ⟨0, Nat.zero_le _, rfl, HT0⟩
    case round =>
      obtain ⟨k, hk, rfl, HT⟩ := hrel
      have a2 := cell_of_heap' HT.out.arg 2
      simp at a2
      by_cases hlt : k < n1
      · obtain ⟨g, rfl⟩ := HFO.out (by omega)
        obtain ⟨hg1, hg2⟩ := HGT2.out g rfl
        obtain ⟨hn, ⟨v, e2⟩, e3⟩ := HT.out.next hlt (by omega) hg1 (-77)
        have HN := hide hn
        have hlt' : (k : Int) < (n1 : Int) := by omega
        clear hn
        go_wp2_with fail
        exact ⟨⟨k + 1, by omega, by go_num, HN⟩, by simp [intOf]; omega⟩
      · obtain rfl : k = n1 := by omega
        go_wp2
        go_ret
        exact ⟨rfl, HT.out.below⟩

end Go.Proofs.Ytdepnhnpklbmiaa
/- Contract of Bottom. -/
namespace Go.Proofs.Ytdepnhnpklbmiaa
open Go.RowKit Go.Sort

theorem clim_on {c : Cu} {p q : Int} {n k k' : Nat} (h : Clim c p n 0 k) (h' : Clim c q n k k') (hpq : p ≤ q) : Clim c q n 0 k' :=
  ⟨Nat.zero_le _, h'.2.1, fun j h1 h2 => by
    by_cases hj : j < k
    · have := h.2.2.1 j h1 hj
      omega
    · exact h'.2.2.1 j (by omega) h2, h'.2.2.2⟩


theorem results38 (W : World) (x0 x1 a b c d : Value) (rest : List Value) :
    (results Try.f38 (x0 :: x1 :: a :: b :: c :: d :: rest).toArray).run Try.prog W = .ok (.tuple #[a, b, c, d]) W := by
  simp [results, Try.results38, go_sem]

/-- what Bottom answers -/
def botE (c : Cu) : Ending := if okC c = true then .returned (.tuple #[.int .i64 (valK c (climK c 0)), .int .i64 (c.fr + climK c 0), .int .i64 (c.fr + climK c 1), .int .i64 0]) else .returned (.tuple #[.int .i64 0, .int .i64 0, .int .i64 0, .int .i64 2])
set_option maxHeartbeats 4000000 in
set_option maxRecDepth 100000 in
theorem Bottom_any (c : Cu) (A : Option Addr) (n cap : Nat) (w : World) (hx : CuAt w.heap.size w c A n cap) (hn : n ≤ 9223372036854775807) :
    Calls Try.prog 38 #[.agg #[.int .i64 c.fr, .int .i64 c.fst, .slice A n cap]] w fun e w' => e = botE c ∧ Below w.heap.size w w' := by
  have mixed := mixedOrders
  obtain ⟨W1, hW1⟩ : ∃ W1, w.alloc (.cells #[.int .i64 c.fr, .int .i64 c.fst, .slice A n cap] 24) = W1 := ⟨_, rfl⟩
  obtain ⟨p, hp⟩ : ∃ p, w.heap.size = p := ⟨_, rfl⟩
  have hG1 : Gr w W1 := by rw [← hW1]; exact (Gr.refl w).alloc _
  have hs1 : W1.heap.size = p + 1 := by rw [← hW1, ← hp]; simp
  have ua : W1.heap[p]? = some (.cells #[.int .i64 c.fr, .int .i64 c.fst, .slice A n cap] 24 (0, 0)) := by
    rw [← hW1, ← hp]
    exact heap_alloc_new w _
  have HUA := hide ua
  have HX := hide hx
  have HG1 := hide hG1
  have HV := hide (Valid_any c A n cap W1 (hx.gr hG1).sl hn)
  have a0 := cell_of_heap' ua 0
  have a1 := cell_of_heap' ua 1
  have a2 := cell_of_heap' ua 2
  simp at a0 a1 a2
  clear ua hx hG1
  go_enter Try.func38, Try.ntmps38
  go_wp2_with fail
  try rw [hp]
  refine HV.out.mono ?_
  rintro e w2 ⟨rfl, hG2⟩
  have HG2 := hide (HG1.out.trans hG2)
  have b2 := (hG2.block (k := p) (by omega)).trans HUA.out
  have hlt : p < w2.heap.size := by have := hG2.size; omega
  have HUA2 := hide b2
  have c0 := cell_of_heap' b2 0
  have c1 := cell_of_heap' b2 1
  have c2 := cell_of_heap' b2 2
  simp at c0 c1 c2
  clear b2 hG2 a0 a1 a2
  cases hva : okC c
  · have HJ : Hid (botE c = .returned (.tuple #[.int .i64 0, .int .i64 0, .int .i64 0, .int .i64 2])) := if_neg (by rw [hva]; simp)
    have HB : Hid (Below w.heap.size w w2) := HG2.out.below
    clear hva
    go_wp2
    refine bodyPost_ret (results38 _ _ _ _ _ _ _ _) rfl ?_
    exact ⟨HJ.out.symm, HB.out⟩
  have HJ : Hid (botE c = .returned (.tuple #[.int .i64 (valK c (climK c 0)), .int .i64 (c.fr + climK c 0), .int .i64 (c.fr + climK c 1), .int .i64 0])) := if_pos hva
  have hX2 := HX.out.gr HG2.out
  have HAT := hide (at_any c A n cap 0 w2 hva hX2.sl hX2.old (Nat.zero_le _))
  have e00 : c.fr + ((0 : Nat) : Int) = c.fr := by omega
  rw [e00] at HAT
  have HVA := hide hva
  have HX2 := hide hX2
  clear hX2 hva
  go_wp2_with fail
  refine HAT.out.mono ?_
  rintro e w3 ⟨rfl, hB3⟩
  have hs3 : p < w3.heap.size := by have := hB3.size; omega
  obtain ⟨g, hg⟩ : ∃ g, w3.heap.size = g := ⟨_, rfl⟩
  have HB3 := hide hB3
  obtain ⟨W4, hW4⟩ : ∃ W4, (w3.alloc (.cells #[.int .i64 c.fr, .int .i64 c.fst, .slice A n cap, .int .i64 c.fr, .int .i64 (valK c 0)] 61)) = W4 := ⟨_, rfl⟩
  have hG4 : Gr w3 W4 := by rw [← hW4]; exact (Gr.refl w3).alloc _
  have hb4 : W4.heap[g]? = some (.cells #[.int .i64 c.fr, .int .i64 c.fst, .slice A n cap, .int .i64 c.fr, .int .i64 (valK c 0)] 61 (0, 0)) := by
    rw [← hW4, ← hg]
    exact heap_alloc_new w3 _
  have hs4 : W4.heap.size = g + 1 := by rw [← hW4, ← hg]; simp
  have d0 := fun j => cell_of_heap' hb4 j
  have f0 := fun j => frozen_of_heap' hb4 j
  have hX3 := HX2.out.now hB3 (Nat.le_refl _)
  have ON : OnWay W4 g 0 c A n cap 0 := by
    refine ⟨⟨by omega, by simpa using d0 0, by simpa using d0 1, by simpa using d0 2, ?_, ?_, f0 _, f0 _⟩, hX3.sl.gr hG4, fun hz ad e => by have := hX3.old hz ad e; omega, Nat.zero_le _⟩
    · have := d0 3
      simp at this
      simpa using this
    · have := d0 4
      simp at this
      simpa using this
  have HCL := hide (climb_any g 0 c A n cap 0 0 W4 HVA.out ON)
  have HB4 : Hid (Below w.heap.size w W4) := (HG2.out.below.trans (hB3.mono HG2.out.size)).trans (hG4.below.mono (HG2.out.below.trans (hB3.mono HG2.out.size)).size)
  have hwg : w.heap.size ≤ g := by have := HG2.out.size; have := hB3.size; omega
  have hln : c.sl.length = n := HX.out.sl.1
  have HLN := hide hln
  unfold wkV
  clear hB3 d0 f0 ON hX3 hb4 hG4 hln
  go_wp2_with fail
  refine HCL.out.mono ?_
  rintro e w5 ⟨rfl, k1, hc1, ho, hk5⟩
  obtain rfl := clim_is HLN.out hc1
  have HC1 := hide hc1
  have HK5 := hide hk5
  have HCL2 := hide (fun q => climb_any g 0 c A n cap (climK c 0) 1 (w5.drewN q) HVA.out (ho.gr ((Gr.refl w5).drewN q)))
  have HQ5 : Hid (∀ q, Wkd g 0 W4 (w5.drewN q)) := fun q => hk5.trans (Wkd.of_gr ho.wk.lt ((Gr.refl w5).drewN q))
  have g3 : ∀ nq, (w5.drewN nq).cell? ⟨g, 3, none⟩ = some (.int .i64 (c.fr + (climK c 0 : Int))) := fun _ => by simpa using ho.wk.c3
  have g4 : ∀ nq, (w5.drewN nq).cell? ⟨g, 4, none⟩ = some (.int .i64 (valK c (climK c 0))) := fun _ => by simpa using ho.wk.c4
  clear hc1 ho hk5 HCL HAT c0 c1 c2
  go_wp2_with fail
  go_quiet (fail)
  have HCL3 := hide (HCL2.out nq)
  have HK6 := hide (HQ5.out nq)
  generalize w5.drewN nq = w6 at HCL3 HK6 ⊢
  clear g3 g4 HCL2 HQ5
  go_wp2_with fail
  refine HCL3.out.mono ?_
  rintro e w7 ⟨rfl, k2, hc2, ho, hk7⟩
  obtain rfl := clim_is HLN.out (clim_on HC1.out hc2 (by decide))
  have HB7 : Hid (∀ q, Below w.heap.size w (w7.drewN q)) := fun q => ((HK6.out.trans hk7).trans (Wkd.of_gr ho.wk.lt ((Gr.refl w7).drewN q))).below HB4.out hwg HB4.out.size
  have z3 : ∀ nq, (w7.drewN nq).cell? ⟨g, 3, none⟩ = some (.int .i64 (c.fr + (climK c 1 : Int))) := fun _ => by simpa using ho.wk.c3
  clear hc2 ho hk7 HCL3
  go_wp2_with fail
  go_quiet (fail)
  go_wp2
  refine bodyPost_ret (results38 _ _ _ _ _ _ _ _) rfl ?_
  exact ⟨HJ.out.symm, HB7.out _⟩
end Go.Proofs.Ytdepnhnpklbmiaa
/- Contract of Tilt. -/
namespace Go.Proofs.Ytdepnhnpklbmiaa
open Go.RowKit Go.Sort

theorem mul_range {a b : Int} (h1 : -1048576 ≤ a ∧ a ≤ 1048576) (h2 : -1048576 ≤ b ∧ b ≤ 1048576) : -1099511627776 ≤ a * b ∧ a * b ≤ 1099511627776 := by
  have h := Nat.mul_le_mul (show a.natAbs ≤ 1048576 by omega) (show b.natAbs ≤ 1048576 by omega)
  rw [← Int.natAbs_mul] at h
  generalize a * b = m at h
  omega
theorem iA_map {xs : List Int} {k : Nat} (f : Int → Int) (hk : k < xs.length) : iA (xs.map f) k = f (iA xs k) := by
  simp [iA, List.getD_eq_getElem?_getD, hk]

/-- what Tilt answers -/
def tiltV (c : Cu) (d : Int) : Cu × Int := if okC c = true ∧ inB d 1048576 = true then res2 ⟨c.fr, c.fst + d * c.fr, c.sl.map (fun s => s + d)⟩ else (Cu.zero, 2)

theorem results32 {W : World} {g : Nat} {a b c : Value} {t : TypeId} (h : W.heap[g]? = some (.cells #[a, b, c] t (0, 0))) (x0 x1 x2 x3 y : Value) (rest : List Value) :
    (results Try.f32 (x0 :: x1 :: x2 :: x3 :: .pointer (some ⟨g, 0, none⟩) :: y :: rest).toArray).run Try.prog W = .ok (.tuple #[.agg #[a, b, c], y]) W := by
  have h0 := cell_of_heap' h 0
  have h1 := cell_of_heap' h 1
  have h2 := cell_of_heap' h 2
  simp at h0 h1 h2
  simp [results, Try.results32, go_sem, h0, h1, h2]

set_option maxHeartbeats 4000000 in
set_option maxRecDepth 100000 in
theorem Tilt_any (c : Cu) (A : Option Addr) (n cap : Nat) (d : Int) (w : World) (hx : CuAt w.heap.size w c A n cap) (hn : n ≤ 9223372036854775807) :
    Calls Try.prog 32 #[.agg #[.int .i64 c.fr, .int .i64 c.fst, .slice A n cap], .int .i64 d] w (CuPost (tiltV c d) w) := by
  have mixed := mixedOrders
  obtain ⟨W1, hW1⟩ : ∃ W1, (w.alloc (.cells #[.int .i64 c.fr, .int .i64 c.fst, .slice A n cap] 24)).alloc (.cells #[.int .i64 0, .int .i64 0, .slice none 0 0] 24) = W1 := ⟨_, rfl⟩
  obtain ⟨p, hp⟩ : ∃ p, w.heap.size = p := ⟨_, rfl⟩
  have hG1 : Gr w W1 := by rw [← hW1]; exact ((Gr.refl w).alloc _).alloc _
  have hs1 : W1.heap.size = p + 2 := by rw [← hW1, ← hp]; simp
  have ua : W1.heap[p]? = some (.cells #[.int .i64 c.fr, .int .i64 c.fst, .slice A n cap] 24 (0, 0)) := by
    rw [← hW1, ← hp]
    exact (Below.heap_alloc _ _ _ (by simp)).trans (heap_alloc_new w _)
  have ur : W1.heap[p + 1]? = some (.cells #[.int .i64 0, .int .i64 0, .slice none 0 0] 24 (0, 0)) := by
    rw [← hW1, ← hp]
    simpa using heap_alloc_new (w.alloc (.cells #[.int .i64 c.fr, .int .i64 c.fst, .slice A n cap] 24)) (.cells #[.int .i64 0, .int .i64 0, .slice none 0 0] 24)
  have HUA := hide ua
  have HUR := hide ur
  have HX := hide hx
  have HG1 := hide hG1
  have HV := hide (Valid_any c A n cap W1 (hx.gr hG1).sl (by omega))
  have HWI := hide (fun W => within_any d 1048576 W (by decide) (by decide))
  have a0 := cell_of_heap' ua 0
  have a1 := cell_of_heap' ua 1
  have a2 := cell_of_heap' ua 2
  simp at a0 a1 a2
  clear ua ur hx hG1
  go_enter Try.func32, Try.ntmps32
  go_wp2_with fail
  try rw [hp]
  refine HV.out.mono ?_
  rintro e w2 ⟨rfl, hG2⟩
  have HG2 := hide (HG1.out.trans hG2)
  have hs2 : p + 2 ≤ w2.heap.size := by have := hG2.size; omega
  have b2 := (hG2.block (k := p) (by omega)).trans HUA.out
  have q2 := (hG2.block (k := p + 1) (by omega)).trans HUR.out
  have HUA2 := hide b2
  have HUR2 := hide q2
  have c0 := cell_of_heap' b2 0
  have c1 := cell_of_heap' b2 1
  have c2 := cell_of_heap' b2 2
  have r0 := cell_of_heap' q2 0
  have r1 := cell_of_heap' q2 1
  have r2 := cell_of_heap' q2 2
  have y0 := frozen_of_heap' q2 0
  have y1 := frozen_of_heap' q2 1
  have y2 := frozen_of_heap' q2 2
  simp at c0 c1 c2 r0 r1 r2
  clear b2 q2 hG2 a0 a1 a2
  cases hva : okC c
  · have HJ : Hid (tiltV c d = (Cu.zero, 2)) := if_neg (by rw [hva]; simp)
    have HB2 : Hid (Below w.heap.size w w2) := HG2.out.below
    clear hva
    go_wp2_with fail
    refine bodyPost_ret (results32 (set3_heap HUR2.out _ _ _) _ _ _ _ _ _) rfl ?_
    refine ⟨none, 0, 0, by rw [HJ.out] <;> rfl, ?_, set3_below HB2.out (by omega) _ _ _⟩
    rw [HJ.out]
    exact World.ownsRow_nil _ _ _ _
  have HVA := hide hva
  have hn64 : n ≤ 64 := by have h1 := (okC_true hva).2.2.1; have h2 := HX.out.sl.1; omega
  clear hva
  go_wp2_with fail
  refine (HWI.out _).mono ?_
  rintro e w3 ⟨rfl, hw3⟩
  subst hw3
  cases hib : inB d 1048576
  · have HJ : Hid (tiltV c d = (Cu.zero, 2)) := if_neg (by rw [hib]; simp)
    have HB2 := hide HG2.out.below
    clear hib
    go_wp2_with fail
    refine bodyPost_ret (results32 (set3_heap HUR2.out _ _ _) _ _ _ _ _ _) rfl ?_
    refine ⟨none, 0, 0, by rw [HJ.out] <;> rfl, ?_, set3_below HB2.out (by omega) _ _ _⟩
    rw [HJ.out]
    exact World.ownsRow_nil _ _ _ _
  have hdr : -1048576 ≤ d ∧ d ≤ 1048576 := by simpa [inB] using hib
  have HJ : Hid (tiltV c d = res2 ⟨c.fr, c.fst + d * c.fr, c.sl.map (fun s => s + d)⟩) := if_pos ⟨HVA.out, hib⟩
  have hmk2 := run_make_row' (P := Try.prog) 22 3 (.int .i64 0) 8 Try.underlying22 info3 rfl .i64 .i64 n (by omega) (by omega)
  have hX3 := HX.out.gr HG2.out
  have HB3 := hide HG2.out.below
  obtain ⟨g, hg⟩ : ∃ g, w3.heap.size = g := ⟨_, rfl⟩
  have l2 : (w3.alloc (.cells (madeCells #[.int .i64 0] n) 3)).cell? ⟨p, 2, none⟩ = some (.slice A n cap) := (World.cell?_alloc_lt _ _ _ (by show p < _; omega)).trans c2
  have hno : (w3.alloc (.cells (madeCells #[.int .i64 0] n) 3)).ownsRow g 3 1 (.slice (some ⟨g, 0, none⟩) n n) n ((List.replicate n (0 : Int)).map (Value.int .i64)) := by rw [← hg]; exact made_ints w3 (Nat.le_refl _) (by omega)
  have HS0 : Hid (OwnI w (w3.alloc (.cells (madeCells #[.int .i64 0] n) 3)) p g n (c.sl.map (fun s => s + d)) #[.int .i64 c.fr, .int .i64 c.fst, .slice A n cap] 0) :=
    ⟨(Below.heap_alloc _ _ _ (by omega)).trans HUA2.out, ⟨_, hno, fun j hj => by omega⟩, HB3.out.alloc HB3.out.size _, (Below.heap_alloc _ _ _ (by omega)).trans HUR2.out, by simp; omega⟩
  have HX4 := hide (hX3.gr ((Gr.refl w3).alloc (.cells (madeCells #[.int .i64 0] n) 3)))
  clear hib hX3 hno
  go_wp2_with fail
  try rw [hg]
  go_loopw [25] (fun i wr => ∃ k : Nat, k ≤ n ∧ i = .int .i64 k ∧ Hid (OwnI w wr p g n (c.sl.map (fun s => s + d)) #[.int .i64 c.fr, .int .i64 c.fst, .slice A n cap] k)) (fun i _ => n - (intOf i).toNat)
  case atStart => exact ⟨0, Nat.zero_le _, rfl, HS0⟩
  case round =>
    obtain ⟨k, hk, rfl, HO⟩ := hrel
    by_cases hlt : k < n
    · obtain ⟨b, off, rfl, hb, c0⟩ := HX.out.sl.at_ hlt
      have hlt' : (k : Int) < (n : Int) := by omega
      have E0 : wr.cell? ⟨b, off + k, none⟩ = some (.int .i64 (iA c.sl k)) := (HO.out.below.cell (p := ⟨b, off + k, none⟩) hb).trans c0
      have HN := hide (fun q => HO.out.next hlt (by omega) (by omega) q)
      obtain ⟨v, E2⟩ := (HN.out 0).2.1 0
      have E3 := (HN.out 0).2.2 0
      rw [World.drewN_zero] at E2 E3
      have hm : iA (c.sl.map (fun s => s + d)) k = iA c.sl k + d := iA_map _ (by have := HX.out.sl.1; omega)
      have hzr : -1048576 ≤ iA c.sl k ∧ iA c.sl k ≤ 1048576 := okC_sl HVA.out (by have := HX.out.sl.1; omega)
      rw [hm] at HN
      generalize iA c.sl k = z at E0 HN hzr
      have hwz : IntKind.i64.wrap (z + d) = z + d := by rw [IntKind.wrap_i64]; omega
      clear c0 hm
      go_wp2_with fail
      exact ⟨⟨k + 1, by omega, by go_num, by have := (HN.out 0).1; rwa [World.drewN_zero] at this⟩, by simp [intOf]; omega⟩
    · obtain rfl : k = n := by omega
      have hfr := okC_fr HVA.out
      have hfs : -1099511627776 ≤ c.fst ∧ c.fst ≤ 1099511627776 := by have := (okC_true HVA.out).2.1; simpa [inB] using this
      have hmr := mul_range hdr hfr
      obtain ⟨m, hm⟩ : ∃ m, d * c.fr = m := ⟨_, rfl⟩
      rw [hm] at hmr HJ
      have hw1 : IntKind.i64.wrap (d * c.fr) = m := by rw [hm, IntKind.wrap_i64]; omega
      have hw2 : IntKind.i64.wrap (c.fst + m) = c.fst + m := by rw [IntKind.wrap_i64]; omega
      obtain ⟨T, hT, hTx⟩ := HO.out.row
      have hTl : T.length = k := by simpa using hT.1
      have hTe : T = c.sl.map (fun s => s + d) := ints_ext (by rw [hTl, List.length_map, HX.out.sl.1]) (fun j hj => hTx j (by omega))
      rw [hTe] at hT
      have HT := hide hT
      have HRS := hide (result_any ⟨c.fr, c.fst + m, c.sl.map (fun s => s + d)⟩ (some ⟨g, 0, none⟩) k k wr (ints_of_own hT) (by omega))
      have za := fun i => cell_of_heap' HO.out.arg i
      have a0 := za 0
      have a1 := za 1
      have a2 := za 2
      simp at a0 a1 a2
      clear za c0 c1 r0 r1 r2 y0 y1 y2 hT hTe hTx
      go_wp2_with fail
      refine HRS.out.mono ?_
      rintro e w5 ⟨rfl, hb5⟩
      have hz5 := (hb5.block (p + 1) (by have := HO.out.lt; omega)).trans HO.out.res
      have HZ5 := hide hz5
      have HB5 : Hid (Below w.heap.size w w5) := HO.out.below.trans (hb5.mono HO.out.below.size)
      have HT5 := hide (own_below HT.out hb5)
      have r0 := cell_of_heap' hz5 0
      have r1 := cell_of_heap' hz5 1
      have r2 := cell_of_heap' hz5 2
      have y0 := frozen_of_heap' hz5 0
      have y1 := frozen_of_heap' hz5 1
      have y2 := frozen_of_heap' hz5 2
      simp at r0 r1 r2
      clear hz5 hb5 a0 a1 a2
      unfold resV
      by_cases hok : okC ⟨c.fr, c.fst + m, c.sl.map (fun s => s + d)⟩ = true
      · rw [if_pos hok]
        have HJ2 : Hid (tiltV c d = (⟨c.fr, c.fst + m, c.sl.map (fun s => s + d)⟩, 0)) := by show _ = _; rw [HJ.out, res2, if_pos hok]
        clear hok
        go_wp2_with fail
        refine bodyPost_ret (results32 (set3_heap HZ5.out _ _ _) _ _ _ _ _ _) rfl ?_
        refine ⟨some ⟨g, 0, none⟩, k, k, by rw [HJ2.out] <;> rfl, ?_, set3_below HB5.out (by omega) _ _ _⟩
        rw [HJ2.out]
        exact own_base (own_set3 HT5.out (by omega) _ _ _) (by omega)
      · rw [if_neg hok]
        have HJ2 : Hid (tiltV c d = (Cu.zero, 4)) := by show _ = _; rw [HJ.out, res2, if_neg hok]
        clear hok
        go_wp2_with fail
        refine bodyPost_ret (results32 (set3_heap HZ5.out _ _ _) _ _ _ _ _ _) rfl ?_
        refine ⟨none, 0, 0, by rw [HJ2.out] <;> rfl, ?_, set3_below HB5.out (by omega) _ _ _⟩
        rw [HJ2.out]
        exact World.ownsRow_nil _ _ _ _
end Go.Proofs.Ytdepnhnpklbmiaa
