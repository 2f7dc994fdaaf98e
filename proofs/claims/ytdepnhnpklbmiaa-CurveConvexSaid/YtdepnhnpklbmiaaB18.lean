/- Contract of Bottom. -/
import Derived.Test.YtdepnhnpklbmiaaB17
namespace Go.Proofs.Ytdepnhnpklbmiaa
open Go.RowKit Go.Sort

theorem clim_on {c : Cu} {p q : Int} {n k k' : Nat} (h : Clim c p n 0 k) (h' : Clim c q n k k') (hpq : p ≤ q) : Clim c q n 0 k' :=
  ⟨Nat.zero_le _, h'.2.1, fun j h1 h2 => by
    by_cases hj : j < k
    · have := h.2.2.1 j h1 hj
      omega
    · exact h'.2.2.1 j (by omega) h2, h'.2.2.2⟩


theorem results38 (W : World) (x0 x1 a b c d : Value) (rest : List Value) :
    (results Try.f38 (x0 :: x1 :: a :: b :: c :: d :: rest).toArray).run Try.prog W = .ok (.tuple #[a, b, c, d]) W := by
  simp [results, Try.results38, go_sem]

/-- what Bottom answers -/
def botE (c : Cu) : Ending := if okC c = true then .returned (.tuple #[.int .i64 (valK c (climK c 0)), .int .i64 (c.fr + climK c 0), .int .i64 (c.fr + climK c 1), .int .i64 0]) else .returned (.tuple #[.int .i64 0, .int .i64 0, .int .i64 0, .int .i64 2])
set_option maxHeartbeats 4000000 in
set_option maxRecDepth 100000 in
theorem Bottom_any (c : Cu) (A : Option Addr) (n cap : Nat) (w : World) (hx : CuAt w.heap.size w c A n cap) (hn : n ≤ 9223372036854775807) :
    Calls Try.prog 38 #[.agg #[.int .i64 c.fr, .int .i64 c.fst, .slice A n cap]] w fun e w' => e = botE c ∧ Below w.heap.size w w' := by
  have mixed := mixedOrders
  obtain ⟨W1, hW1⟩ : ∃ W1, w.alloc (.cells #[.int .i64 c.fr, .int .i64 c.fst, .slice A n cap] 24) = W1 := ⟨_, rfl⟩
  obtain ⟨p, hp⟩ : ∃ p, w.heap.size = p := ⟨_, rfl⟩
  have hG1 : Gr w W1 := by rw [← hW1]; exact (Gr.refl w).alloc _
  have hs1 : W1.heap.size = p + 1 := by rw [← hW1, ← hp]; simp
  have ua : W1.heap[p]? = some (.cells #[.int .i64 c.fr, .int .i64 c.fst, .slice A n cap] 24 (0, 0)) := by
    rw [← hW1, ← hp]
    exact heap_alloc_new w _
  have HUA := hide ua
  have HX := hide hx
  have HG1 := hide hG1
  have HV := hide (Valid_any c A n cap W1 (hx.gr hG1).sl hn)
  have a0 := cell_of_heap' ua 0
  have a1 := cell_of_heap' ua 1
  have a2 := cell_of_heap' ua 2
  simp at a0 a1 a2
  clear ua hx hG1
  go_enter Try.func38, Try.ntmps38
  go_wp2_with fail
  try rw [hp]
  refine HV.out.mono ?_
  rintro e w2 ⟨rfl, hG2⟩
  have HG2 := hide (HG1.out.trans hG2)
  have b2 := (hG2.block (k := p) (by omega)).trans HUA.out
  have hlt : p < w2.heap.size := by have := hG2.size; omega
  have HUA2 := hide b2
  have c0 := cell_of_heap' b2 0
  have c1 := cell_of_heap' b2 1
  have c2 := cell_of_heap' b2 2
  simp at c0 c1 c2
  clear b2 hG2 a0 a1 a2
  cases hva : okC c
  · have HJ : Hid (botE c = .returned (.tuple #[.int .i64 0, .int .i64 0, .int .i64 0, .int .i64 2])) := if_neg (by rw [hva]; simp)
    have HB : Hid (Below w.heap.size w w2) := HG2.out.below
    clear hva
    go_wp2
    refine bodyPost_ret (results38 _ _ _ _ _ _ _ _) rfl ?_
    exact ⟨HJ.out.symm, HB.out⟩
  have HJ : Hid (botE c = .returned (.tuple #[.int .i64 (valK c (climK c 0)), .int .i64 (c.fr + climK c 0), .int .i64 (c.fr + climK c 1), .int .i64 0])) := if_pos hva
  have hX2 := HX.out.gr HG2.out
  have HAT := hide (at_any c A n cap 0 w2 hva hX2.sl hX2.old (Nat.zero_le _))
  have e00 : c.fr + ((0 : Nat) : Int) = c.fr := by omega
  rw [e00] at HAT
  have HVA := hide hva
  have HX2 := hide hX2
  clear hX2 hva
  go_wp2_with fail
  refine HAT.out.mono ?_
  rintro e w3 ⟨rfl, hB3⟩
  have hs3 : p < w3.heap.size := by have := hB3.size; omega
  obtain ⟨g, hg⟩ : ∃ g, w3.heap.size = g := ⟨_, rfl⟩
  have HB3 := hide hB3
  obtain ⟨W4, hW4⟩ : ∃ W4, (w3.alloc (.cells #[.int .i64 c.fr, .int .i64 c.fst, .slice A n cap, .int .i64 c.fr, .int .i64 (valK c 0)] 61)) = W4 := ⟨_, rfl⟩
  have hG4 : Gr w3 W4 := by rw [← hW4]; exact (Gr.refl w3).alloc _
  have hb4 : W4.heap[g]? = some (.cells #[.int .i64 c.fr, .int .i64 c.fst, .slice A n cap, .int .i64 c.fr, .int .i64 (valK c 0)] 61 (0, 0)) := by
    rw [← hW4, ← hg]
    exact heap_alloc_new w3 _
  have hs4 : W4.heap.size = g + 1 := by rw [← hW4, ← hg]; simp
  have d0 := fun j => cell_of_heap' hb4 j
  have f0 := fun j => frozen_of_heap' hb4 j
  have hX3 := HX2.out.now hB3 (Nat.le_refl _)
  have ON : OnWay W4 g 0 c A n cap 0 := by
    refine ⟨⟨by omega, by simpa using d0 0, by simpa using d0 1, by simpa using d0 2, ?_, ?_, f0 _, f0 _⟩, hX3.sl.gr hG4, fun hz ad e => by have := hX3.old hz ad e; omega, Nat.zero_le _⟩
    · have := d0 3
      simp at this
      simpa using this
    · have := d0 4
      simp at this
      simpa using this
  have HCL := hide (climb_any g 0 c A n cap 0 0 W4 HVA.out ON)
  have HB4 : Hid (Below w.heap.size w W4) := (HG2.out.below.trans (hB3.mono HG2.out.size)).trans (hG4.below.mono (HG2.out.below.trans (hB3.mono HG2.out.size)).size)
  have hwg : w.heap.size ≤ g := by have := HG2.out.size; have := hB3.size; omega
  have hln : c.sl.length = n := HX.out.sl.1
  have HLN := hide hln
  unfold wkV
  clear hB3 d0 f0 ON hX3 hb4 hG4 hln
  go_wp2_with fail
  refine HCL.out.mono ?_
  rintro e w5 ⟨rfl, k1, hc1, ho, hk5⟩
  obtain rfl := clim_is HLN.out hc1
  have HC1 := hide hc1
  have HK5 := hide hk5
  have HCL2 := hide (fun q => climb_any g 0 c A n cap (climK c 0) 1 (w5.drewN q) HVA.out (ho.gr ((Gr.refl w5).drewN q)))
  have HQ5 : Hid (∀ q, Wkd g 0 W4 (w5.drewN q)) := fun q => hk5.trans (Wkd.of_gr ho.wk.lt ((Gr.refl w5).drewN q))
  have g3 : ∀ nq, (w5.drewN nq).cell? ⟨g, 3, none⟩ = some (.int .i64 (c.fr + (climK c 0 : Int))) := fun _ => by simpa using ho.wk.c3
  have g4 : ∀ nq, (w5.drewN nq).cell? ⟨g, 4, none⟩ = some (.int .i64 (valK c (climK c 0))) := fun _ => by simpa using ho.wk.c4
  clear hc1 ho hk5 HCL HAT c0 c1 c2
  go_wp2_with fail
  go_quiet (fail)
  have HCL3 := hide (HCL2.out nq)
  have HK6 := hide (HQ5.out nq)
  generalize w5.drewN nq = w6 at HCL3 HK6 ⊢
  clear g3 g4 HCL2 HQ5
  go_wp2_with fail
  refine HCL3.out.mono ?_
  rintro e w7 ⟨rfl, k2, hc2, ho, hk7⟩
  obtain rfl := clim_is HLN.out (clim_on HC1.out hc2 (by decide))
  have HB7 : Hid (∀ q, Below w.heap.size w (w7.drewN q)) := fun q => ((HK6.out.trans hk7).trans (Wkd.of_gr ho.wk.lt ((Gr.refl w7).drewN q))).below HB4.out hwg HB4.out.size
  have z3 : ∀ nq, (w7.drewN nq).cell? ⟨g, 3, none⟩ = some (.int .i64 (c.fr + (climK c 1 : Int))) := fun _ => by simpa using ho.wk.c3
  clear hc2 ho hk7 HCL3
  go_wp2_with fail
  go_quiet (fail)
  go_wp2
  refine bodyPost_ret (results38 _ _ _ _ _ _ _ _) rfl ?_
  exact ⟨HJ.out.symm, HB7.out _⟩
end Go.Proofs.Ytdepnhnpklbmiaa
