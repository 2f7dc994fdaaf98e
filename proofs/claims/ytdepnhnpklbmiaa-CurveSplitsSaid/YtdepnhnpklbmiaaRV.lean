/- Contract of the specification's Valid. -/
import Derived.Test.YtdepnhnpklbmiaaA1
namespace Go.Proofs.Ytdepnhnpklbmiaa
open Go.RowKit Go.Sort

/-- the first k slopes are in their limits and do not fall -/
def goodTo (xs : List Int) (k : Nat) : Prop := ∀ j, j < k → (-1048576 ≤ iA xs j ∧ iA xs j ≤ 1048576) ∧ (0 < j → iA xs (j - 1) ≤ iA xs j)
theorem okC_not {c : Cu} (h : okC c = true → False) : okC c = false := by
  cases hc : okC c
  · rfl
  · exact (h hc).elim
theorem inB_of {n : Int} {m : Int} (h : -m ≤ n ∧ n ≤ m) : inB n m = true := decide_eq_true h
theorem okC_good {c : Cu} (h1 : -1048576 ≤ c.fr ∧ c.fr ≤ 1048576) (h2 : -1099511627776 ≤ c.fst ∧ c.fst ≤ 1099511627776) (h3 : c.sl.length ≤ 64) (h4 : goodTo c.sl c.sl.length) : okC c = true :=
  decide_eq_true ⟨inB_of h1, inB_of h2, h3, fun i hi => by have := (h4 (i + 1) hi).2 (by omega); simpa using this, fun i hi => inB_of (h4 i hi).1⟩
theorem okC_asc1 {c : Cu} (h : okC c = true) {k : Nat} (hk : k < c.sl.length) (h0 : 0 < k) : iA c.sl (k - 1) ≤ iA c.sl k := by
  have := (okC_true h).2.2.2.1 (k - 1) (by omega)
  rwa [show k - 1 + 1 = k by omega] at this
theorem okC_sl1 {c : Cu} (h : okC c = true) {k : Nat} (hk : k < c.sl.length) : -1048576 ≤ iA c.sl k ∧ iA c.sl k ≤ 1048576 := inB_true ((okC_true h).2.2.2.2 k hk)

set_option maxHeartbeats 4000000 in
set_option maxRecDepth 100000 in
theorem refValid_any (c : Cu) (A : Option Addr) (n cap : Nat) (w : World) (hx : IntsAt w.heap.size w A n c.sl) (hn : n ≤ 9223372036854775807) :
    Calls Try.prog 20 #[.agg #[.int .i64 c.fr, .int .i64 c.fst, .slice A n cap]] w fun e w' => e = .returned (.bool (okC c)) ∧ Gr w w' := by
  have mixed := mixedOrders
  obtain ⟨p, hp⟩ : ∃ p, w.heap.size = p := ⟨_, rfl⟩
  obtain ⟨f, hf⟩ : ∃ f, c.fr = f := ⟨_, rfl⟩
  obtain ⟨s, hs⟩ : ∃ s, c.fst = s := ⟨_, rfl⟩
  rw [hf, hs]
  obtain ⟨W1, hW1⟩ : ∃ W1, w.alloc (.cells #[.int .i64 f, .int .i64 s, .slice A n cap] 24) = W1 := ⟨_, rfl⟩
  have hG1 : Gr w W1 := by rw [← hW1]; exact (Gr.refl w).alloc _
  have ua : W1.heap[p]? = some (.cells #[.int .i64 f, .int .i64 s, .slice A n cap] 24 (0, 0)) := by
    rw [← hW1, ← hp]
    exact heap_alloc_new w _
  have a0 := cell_of_heap' ua 0
  have a1 := cell_of_heap' ua 1
  have a2 := cell_of_heap' ua 2
  simp at a0 a1 a2
  have HX := hide (hx.gr hG1)
  have HL := hide hx.1
  have HG1 := hide hG1
  have HFS := hide (show c.fr = f ∧ c.fst = s from ⟨hf, hs⟩)
  clear hx hG1 ua hf hs
  go_enter Try.func20, Try.ntmps20
  by_cases h1 : f < -1048576
  · have d1 : decide (f < -1048576) = true := decide_eq_true h1
    have HJ : Hid (okC c = false) := okC_not fun h => by have := inB_true (okC_true h).1; have := HFS.out.1; omega
    clear h1
    go_wp2
    go_ret
    exact ⟨ret_bool HJ.out.symm, HG1.out⟩
  have d1 : decide (f < -1048576) = false := decide_eq_false h1
  by_cases h2 : 1048576 < f
  · have d2 : decide (1048576 < f) = true := decide_eq_true h2
    have HJ : Hid (okC c = false) := okC_not fun h => by have := inB_true (okC_true h).1; have := HFS.out.1; omega
    clear h1 h2
    go_wp2
    go_ret
    exact ⟨ret_bool HJ.out.symm, HG1.out⟩
  have d2 : decide (1048576 < f) = false := decide_eq_false h2
  by_cases h3 : s < -1099511627776
  · have d3 : decide (s < -1099511627776) = true := decide_eq_true h3
    have HJ : Hid (okC c = false) := okC_not fun h => by have := inB_true (okC_true h).2.1; have := HFS.out.2; omega
    clear h1 h2 h3
    go_wp2
    go_ret
    exact ⟨ret_bool HJ.out.symm, HG1.out⟩
  have d3 : decide (s < -1099511627776) = false := decide_eq_false h3
  by_cases h4 : 1099511627776 < s
  · have d4 : decide (1099511627776 < s) = true := decide_eq_true h4
    have HJ : Hid (okC c = false) := okC_not fun h => by have := inB_true (okC_true h).2.1; have := HFS.out.2; omega
    clear h1 h2 h3 h4
    go_wp2
    go_ret
    exact ⟨ret_bool HJ.out.symm, HG1.out⟩
  have d4 : decide (1099511627776 < s) = false := decide_eq_false h4
  by_cases h5 : (64 : Int) < (n : Int)
  · have d5 : decide ((64 : Int) < (n : Int)) = true := decide_eq_true h5
    have d5' : 64 < n := by omega
    have HJ : Hid (okC c = false) := okC_not fun h => by have := (okC_true h).2.2.1; have := HL.out; omega
    clear h1 h2 h3 h4 h5
    go_wp2
    go_ret
    exact ⟨ret_bool HJ.out.symm, HG1.out⟩
  have d5 : decide ((64 : Int) < (n : Int)) = false := decide_eq_false h5
  have d5' : ¬ 64 < n := by omega
  have HR : Hid ((-1048576 ≤ f ∧ f ≤ 1048576) ∧ (-1099511627776 ≤ s ∧ s ≤ 1099511627776) ∧ n ≤ 64) := by show _ ∧ _; omega
  clear h1 h2 h3 h4 h5
  go_wp2_with fail
  try rw [hp]
  clear d1 d2 d3 d4 d5 d5'
  go_loopw [3] (fun vi wr => ∃ k : Nat, k ≤ n ∧ vi = .int .i64 k ∧ Hid (goodTo c.sl k) ∧ Hid (∃ q, wr = W1.drewN q)) (fun vi _ => n - (intOf vi).toNat)
  case atStart => exact ⟨0, Nat.zero_le _, rfl, fun j hj => absurd hj (Nat.not_lt_zero _), ⟨0, rfl⟩⟩
  case round =>
    obtain ⟨k, hk, rfl, HN, HW⟩ := hrel
    have E2 : ∀ nq, (wr.drewN nq).cell? ⟨p, 2, none⟩ = some (.slice A n cap) := fun nq => by obtain ⟨q, rfl⟩ := HW.out; exact a2
    have E2' := E2 0
    rw [World.drewN_zero] at E2'
    by_cases hlt : k < n
    · have hlt' : (k : Int) < (n : Int) := by omega
      have hn64 := HR.out.2.2
      have hw1 : IntKind.i64.wrap ((k : Int) + 1) = ((k + 1 : Nat) : Int) := by rw [IntKind.wrap_i64]; omega
      have HQ : Hid (∀ nq, ∃ q, wr.drewN nq = W1.drewN q) := fun nq => by obtain ⟨q, rfl⟩ := HW.out; exact ⟨q + nq, World.drewN_drewN _ _ _⟩
      obtain ⟨b, off, rfl, hb, c0⟩ := HX.out.at_ hlt
      have E0 : ∀ nq, (wr.drewN nq).cell? ⟨b, off + k, none⟩ = some (.int .i64 (iA c.sl k)) := fun nq => by obtain ⟨q, rfl⟩ := HW.out; exact c0
      have HB1 : Hid (iA c.sl k < -1048576 ∨ 1048576 < iA c.sl k → okC c = false) := fun h => okC_not fun h2 => by have := okC_sl1 h2 (k := k) (by have := HL.out; omega); omega
      have HB2 : Hid (0 < k → iA c.sl k < iA c.sl (k - 1) → okC c = false) := fun h0 h => okC_not fun h2 => by have := okC_asc1 h2 (k := k) (by have := HL.out; omega) h0; omega
      have HG : Hid ((-1048576 ≤ iA c.sl k ∧ iA c.sl k ≤ 1048576) → (0 < k → iA c.sl (k - 1) ≤ iA c.sl k) → goodTo c.sl (k + 1)) := fun h1 h2 j hj => by
        rcases Nat.lt_or_ge j k with h | h
        · exact HN.out j h
        · obtain rfl : j = k := by omega
          exact ⟨h1, h2⟩
      have HE1 : Hid (0 < k → ∀ nq, (wr.drewN nq).cell? ⟨b, off + (k - 1), none⟩ = some (.int .i64 (iA c.sl (k - 1)))) := fun h0 nq => by
        have := HX.out.at2 (k := k - 1) (by omega)
        obtain ⟨q, rfl⟩ := HW.out
        exact this
      obtain ⟨z, hz⟩ : ∃ z, iA c.sl k = z := ⟨_, rfl⟩
      rw [hz] at E0 HB1 HB2 HG
      clear c0 hz hb HN
      by_cases h1 : z < -1048576
      · have g1 : decide (z < -1048576) = true := decide_eq_true h1
        have HJ := hide (HB1.out (.inl h1))
        clear h1 HB1 HB2 HG HE1
        go_wp2_with fail
        go_quiet (fail)
        go_wp2
        go_ret
        exact ⟨ret_bool HJ.out.symm, by obtain ⟨q, hq⟩ := HQ.out nq; rw [hq]; exact HG1.out.drewN q⟩
      have g1 : decide (z < -1048576) = false := decide_eq_false h1
      by_cases h2 : 1048576 < z
      · have g2 : decide (1048576 < z) = true := decide_eq_true h2
        have HJ := hide (HB1.out (.inr h2))
        clear h1 h2 HB1 HB2 HG HE1
        go_wp2_with fail
        go_quiet (fail)
        go_wp2
        go_ret
        exact ⟨ret_bool HJ.out.symm, by obtain ⟨q, hq⟩ := HQ.out nq; rw [hq]; exact HG1.out.drewN q⟩
      have g2 : decide (1048576 < z) = false := decide_eq_false h2
      by_cases h0 : 0 < k
      · have g3 : decide ((0 : Int) < (k : Int)) = true := decide_eq_true (by omega)
        have E1 := HE1.out h0
        have hw2 : IntKind.i64.wrap ((k : Int) - 1) = ((k - 1 : Nat) : Int) := by rw [IntKind.wrap_i64]; omega
        have hl1 : ((k - 1 : Nat) : Int) < (n : Int) := by omega
        obtain ⟨y, hy⟩ : ∃ y, iA c.sl (k - 1) = y := ⟨_, rfl⟩
        rw [hy] at E1 HB2 HG
        obtain ⟨k1, hk1⟩ : ∃ q, k - 1 = q := ⟨_, rfl⟩
        rw [hk1] at E1 hw2 hl1
        by_cases h3 : z < y
        · have g4 : decide (z < y) = true := decide_eq_true h3
          have HJ := hide (HB2.out h0 h3)
          have g5 : decide (0 < k) = true := decide_eq_true h0
          clear h1 h2 h3 HB1 HB2 HG HE1 hy hk1
          go_wp2_with fail
          go_quiet (fail)
          go_wp2
          go_ret
          exact ⟨ret_bool HJ.out.symm, by obtain ⟨q, hq⟩ := HQ.out nq; rw [hq]; exact HG1.out.drewN q⟩
        · have g4 : decide (z < y) = false := decide_eq_false h3
          have HG2 := hide (HG.out (by omega) (fun _ => by omega))
          have g5 : decide (0 < k) = true := decide_eq_true h0
          clear h1 h2 h3 HB1 HB2 HG HE1 hy hk1
          go_wp2_with fail
          go_quiet (fail)
          go_wp2
          go_roundw
          case rel => exact ⟨k + 1, by omega, rfl, HG2, HQ.out nq⟩
          case measure => simp [intOf]; omega
      · have HG2 := hide (HG.out (by omega) (fun h => absurd h h0))
        obtain rfl : k = 0 := by omega
        have E0' : ∀ nq, (wr.drewN nq).cell? ⟨b, off, none⟩ = some (.int .i64 z) := E0
        have hlt2 : (0 : Int) < (n : Int) := hlt'
        have hw3 : IntKind.i64.wrap (0 + 1) = 1 := by decide
        clear h1 h2 h0 HB1 HB2 HG HE1 E0 hlt' hw1
        go_wp2_with fail
        go_quiet (fail)
        go_wp2
        go_roundw
        case rel => exact ⟨1, by omega, rfl, HG2, HQ.out nq⟩
        case measure => simp [intOf]; omega
    · obtain rfl : k = n := by omega
      have hkk : ¬ ((k : Int) < (k : Int)) := by omega
      have HJ : Hid (okC c = true) := okC_good (by have := HFS.out.1; have := HR.out; omega) (by have := HFS.out.2; have := HR.out; omega) (by have := HL.out; have := HR.out; omega) (by rw [HL.out]; exact HN.out)
      go_wp2
      go_ret
      exact ⟨ret_bool HJ.out.symm, by obtain ⟨q, rfl⟩ := HW.out; exact HG1.out.drewN q⟩
end Go.Proofs.Ytdepnhnpklbmiaa
