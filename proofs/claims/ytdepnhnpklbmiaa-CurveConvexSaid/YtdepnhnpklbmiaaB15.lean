/- Contracts of the law's at, few and alike. -/
import Derived.Test.YtdepnhnpklbmiaaB14
namespace Go.Proofs.Ytdepnhnpklbmiaa
open Go.RowKit Go.Sort

set_option maxHeartbeats 2000000 in
set_option maxRecDepth 100000 in
theorem lawAt_any (c : Cu) (A : Option Addr) (n cap : Nat) (x : Int) (w : World) (hx : CuAt w.heap.size w c A n cap) (hn : n ≤ 9223372036854775807) :
    Calls Try.prog 46 #[.agg #[.int .i64 c.fr, .int .i64 c.fst, .slice A n cap], .int .i64 x] w fun e w' => e = .returned (.tuple #[.int .i64 (atV c x).1, .bool ((atV c x).2 == 0)]) ∧ Below w.heap.size w w' := by
  have mixed := mixedOrders
  obtain ⟨W1, hW1⟩ : ∃ W1, w.alloc (.cells #[.int .i64 c.fr, .int .i64 c.fst, .slice A n cap] 24) = W1 := ⟨_, rfl⟩
  obtain ⟨p, hp⟩ : ∃ p, w.heap.size = p := ⟨_, rfl⟩
  have hG1 : Gr w W1 := by rw [← hW1]; exact (Gr.refl w).alloc _
  have ua : W1.heap[p]? = some (.cells #[.int .i64 c.fr, .int .i64 c.fst, .slice A n cap] 24 (0, 0)) := by
    rw [← hW1, ← hp]
    exact heap_alloc_new w _
  have HX1 := hide (hx.gr hG1)
  have HG1 := hide hG1
  have HV := hide (At_any c A n cap x W1 HX1.out hn)
  have a0 := cell_of_heap' ua 0
  have a1 := cell_of_heap' ua 1
  have a2 := cell_of_heap' ua 2
  simp at a0 a1 a2
  clear ua hx hG1
  generalize atV c x = v at HV
  obtain ⟨v, e⟩ := v
  go_enter Try.func46, Try.ntmps46
  go_wp2_with fail
  try rw [hp]
  refine HV.out.mono ?_
  rintro e w2 ⟨rfl, hB2⟩
  have HB2 : Hid (Below w.heap.size w w2) := HG1.out.below.trans (hB2.mono HG1.out.size)
  clear hB2 a0 a1 a2
  go_wp2
  go_ret2
  exact ⟨rfl, HB2.out⟩

set_option maxHeartbeats 400000 in
theorem few_any (c : Cu) (A : Option Addr) (n cap : Nat) (w : World) :
    Calls Try.prog 14 #[.agg #[.int .i64 c.fr, .int .i64 c.fst, .slice A n cap]] w fun e w' => e = .returned (.bool (decide (n ≤ 100))) ∧ Gr w w' := by
  generalize c.fr = f at *
  generalize c.fst = g
  go_enter Try.func14, Try.ntmps14
  go_wp2
  go_ret
  exact ⟨ret_bool (decide_eq_decide.2 (by omega)), (Gr.refl _).alloc _⟩

/-- the same curve -/
def likeB (a b : Cu) : Bool := a.fr == b.fr && a.fst == b.fst && decide (a.sl = b.sl)
set_option maxHeartbeats 2000000 in
set_option maxRecDepth 100000 in
theorem alike_any (a b : Cu) (A1 : Option Addr) (n1 k1 : Nat) (A2 : Option Addr) (n2 k2 : Nat) (w : World) (ha : IntsAt w.heap.size w A1 n1 a.sl) (hb : IntsAt w.heap.size w A2 n2 b.sl) (h1 : n1 ≤ 9223372036854775807) (h2 : n2 ≤ 9223372036854775807) :
    Calls Try.prog 25 #[.agg #[.int .i64 a.fr, .int .i64 a.fst, .slice A1 n1 k1], .agg #[.int .i64 b.fr, .int .i64 b.fst, .slice A2 n2 k2]] w fun e w' => e = .returned (.bool (likeB a b)) ∧ Gr w w' := by
  have mixed := mixedOrders
  have HJ : Hid (likeB a b = (a.fr == b.fr && a.fst == b.fst && decide (a.sl = b.sl))) := rfl
  have HS := hide (fun W (hg : Gr w W) => same_any A1 A2 n1 k1 n2 k2 a.sl b.sl W (ha.gr hg) (hb.gr hg) h1 h2)
  generalize decide (a.sl = b.sl) = r at HJ HS
  obtain ⟨f1, hf1⟩ : ∃ f, a.fr = f := ⟨_, rfl⟩
  obtain ⟨f2, hf2⟩ : ∃ f, b.fr = f := ⟨_, rfl⟩
  obtain ⟨g1, hg1⟩ : ∃ f, a.fst = f := ⟨_, rfl⟩
  obtain ⟨g2, hg2⟩ : ∃ f, b.fst = f := ⟨_, rfl⟩
  rw [hf1, hf2, hg1, hg2] at HJ
  rw [hf1, hf2, hg1, hg2]
  have HG := hide (((Gr.refl w).alloc (.cells #[.int .i64 f1, .int .i64 g1, .slice A1 n1 k1] 24)).alloc (.cells #[.int .i64 f2, .int .i64 g2, .slice A2 n2 k2] 24))
  cases hq1 : f1 == f2
  · rw [hq1] at HJ
    go_enter Try.func25, Try.ntmps25
    go_wp2
    go_ret
    exact ⟨ret_bool (by rw [HJ.out]; rfl), HG.out⟩
  cases hq2 : g1 == g2
  · rw [hq1, hq2] at HJ
    go_enter Try.func25, Try.ntmps25
    go_wp2
    go_ret
    exact ⟨ret_bool (by rw [HJ.out]; rfl), HG.out⟩
  rw [hq1, hq2] at HJ
  go_enter Try.func25, Try.ntmps25
  go_wp2_with fail
  refine (HS.out _ HG.out).mono ?_
  rintro e w2 ⟨rfl, q, rfl⟩
  clear HS
  go_wp2
  go_ret
  exact ⟨ret_bool (by rw [HJ.out]; cases r <;> rfl), HG.out.drewN q⟩

end Go.Proofs.Ytdepnhnpklbmiaa
