/- Contract of At. -/
import Derived.Test.YtdepnhnpklbmiaaB13
namespace Go.Proofs.Ytdepnhnpklbmiaa
open Go.RowKit Go.Sort

/-- what At answers -/
def atV (c : Cu) (x : Int) : Int × Int := if okC c = true then (if c.fr ≤ x ∧ x ≤ c.fr + c.sl.length then (valK c (x - c.fr).toNat, 0) else (0, 6)) else (0, 2)

set_option maxHeartbeats 2000000 in
set_option maxRecDepth 100000 in
theorem At_any (c : Cu) (A : Option Addr) (n cap : Nat) (x : Int) (w : World) (hx : CuAt w.heap.size w c A n cap) (hn : n ≤ 9223372036854775807) :
    Calls Try.prog 17 #[.agg #[.int .i64 c.fr, .int .i64 c.fst, .slice A n cap], .int .i64 x] w fun e w' => e = .returned (.tuple #[.int .i64 (atV c x).1, .int .i64 (atV c x).2]) ∧ Below w.heap.size w w' := by
  have mixed := mixedOrders
  obtain ⟨W1, hW1⟩ : ∃ W1, w.alloc (.cells #[.int .i64 c.fr, .int .i64 c.fst, .slice A n cap] 24) = W1 := ⟨_, rfl⟩
  obtain ⟨p, hp⟩ : ∃ p, w.heap.size = p := ⟨_, rfl⟩
  have hG1 : Gr w W1 := by rw [← hW1]; exact (Gr.refl w).alloc _
  have hs1 : W1.heap.size = p + 1 := by rw [← hW1, ← hp]; simp
  have ua : W1.heap[p]? = some (.cells #[.int .i64 c.fr, .int .i64 c.fst, .slice A n cap] 24 (0, 0)) := by
    rw [← hW1, ← hp]
    exact heap_alloc_new w _
  have HUA := hide ua
  have HX := hide hx
  have HX1 := hide (hx.gr hG1)
  have hl : (c.sl.length : Int) = n := by have := hx.sl.1; omega
  have HG1 := hide hG1
  have HV := hide (Valid_any c A n cap W1 HX1.out.sl hn)
  have a0 := cell_of_heap' ua 0
  have a1 := cell_of_heap' ua 1
  have a2 := cell_of_heap' ua 2
  simp at a0 a1 a2
  clear ua hx hG1
  go_enter Try.func17, Try.ntmps17
  go_wp2_with fail
  try rw [hp]
  refine HV.out.mono ?_
  rintro e w2 ⟨rfl, hG2⟩
  have HG2 := hide (HG1.out.trans hG2)
  have b2 := (hG2.block (k := p) (by omega)).trans HUA.out
  have hlt : p < w2.heap.size := by have := hG2.size; omega
  have HUA2 := hide b2
  have c0 := cell_of_heap' b2 0
  have c1 := cell_of_heap' b2 1
  have c2 := cell_of_heap' b2 2
  simp at c0 c1 c2
  clear b2 hG2 a0 a1 a2
  cases hva : okC c
  · have HJ : Hid (atV c x = (0, 2)) := if_neg (by rw [hva]; simp)
    clear hva
    go_wp2
    go_ret2
    exact ⟨by rw [HJ.out] <;> rfl, HG2.out.below⟩
  have h0 := okC_fr hva
  have hn64 : n ≤ 64 := by have := (okC_true hva).2.2.1; omega
  obtain ⟨f, hf⟩ : ∃ f, c.fr = f := ⟨_, rfl⟩
  have HF := hide (fun W => fromOf_any c A n cap W)
  have HT := hide (fun W => toOf_any c A n cap W h0.1 h0.2 (by omega))
  rw [hf] at HF HT
  have HVA := hide hva
  obtain ⟨t, ht⟩ : ∃ t, f + (n : Int) = t := ⟨_, rfl⟩
  rw [ht] at HT
  clear hva
  go_wp2_with fail
  refine (HF.out _).mono ?_
  rintro e w3 ⟨rfl, hG3⟩
  have HG3 := hide (HG2.out.trans hG3)
  have b3 := (hG3.block (k := p) hlt).trans HUA2.out
  have hlt3 : p < w3.heap.size := by have := hG3.size; omega
  have HUA3 := hide b3
  have d0 := cell_of_heap' b3 0
  have d1 := cell_of_heap' b3 1
  have d2 := cell_of_heap' b3 2
  simp at d0 d1 d2
  rw [hf] at d0
  clear b3 hG3 c0 c1 c2
  by_cases hxf : x < f
  · have hd : decide (x < f) = true := decide_eq_true hxf
    have HJ : Hid (atV c x = (0, 6)) := by
      show _ = _
      unfold atV
      rw [if_pos HVA.out, if_neg (by omega)]
    clear hxf HT
    go_wp2
    go_ret2
    exact ⟨by rw [HJ.out] <;> rfl, HG3.out.below⟩
  have hd : decide (x < f) = false := decide_eq_false hxf
  go_wp2_with fail
  refine (HT.out _).mono ?_
  rintro e w4 ⟨rfl, hG4⟩
  have HG4 := hide (HG3.out.trans hG4)
  have b4 := (hG4.block (k := p) hlt3).trans HUA3.out
  have hlt4 : p < w4.heap.size := by have := hG4.size; omega
  have e0 := cell_of_heap' b4 0
  have e1 := cell_of_heap' b4 1
  have e2 := cell_of_heap' b4 2
  simp at e0 e1 e2
  rw [hf] at e0
  clear b4 hG4 d0 d1 d2
  by_cases hxt : t < x
  · have hd2 : decide (t < x) = true := decide_eq_true hxt
    have HJ : Hid (atV c x = (0, 6)) := by
      show _ = _
      unfold atV
      rw [if_pos HVA.out, if_neg (by omega)]
    clear hxf hxt HT
    go_wp2
    go_ret2
    exact ⟨by rw [HJ.out] <;> rfl, HG4.out.below⟩
  have hd2 : decide (t < x) = false := decide_eq_false hxt
  obtain ⟨k, hk⟩ : ∃ k : Nat, (x - c.fr).toNat = k := ⟨_, rfl⟩
  have hkx : c.fr + (k : Int) = x := by omega
  have hkn : k ≤ n := by omega
  have HJ : Hid (atV c x = (valK c k, 0)) := by
    show _ = _
    unfold atV
    rw [if_pos HVA.out, if_pos (by omega), hk]
  have hX4 := HX.out.gr HG4.out
  have HAT := hide (at_any c A n cap k w4 HVA.out hX4.sl hX4.old hkn)
  rw [hkx, hf] at HAT
  obtain ⟨v, hv⟩ : ∃ v, valK c k = v := ⟨_, rfl⟩
  rw [hv] at HAT HJ
  clear hX4 hxf hxt
  go_wp2_with fail
  refine HAT.out.mono ?_
  rintro e w5 ⟨rfl, hB5⟩
  have HB5 : Hid (Below w.heap.size w w5) := HG4.out.below.trans (hB5.mono HG4.out.size)
  have hfd : ∀ W : World, (Instr.field 61 (.agg #[.int .i64 f, .int .i64 c.fst, .slice A n cap, .int .i64 x, .int .i64 v]) 2).run Try.prog W = .ok (.int .i64 v) W := fun _ => by kernel_rfl
  unfold wkV
  clear hB5
  go_wp2
  go_ret2
  exact ⟨by rw [HJ.out] <;> rfl, HB5.out⟩
end Go.Proofs.Ytdepnhnpklbmiaa
