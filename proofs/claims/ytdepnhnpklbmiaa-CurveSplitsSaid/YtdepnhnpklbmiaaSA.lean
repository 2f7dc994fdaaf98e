/- The specification's rows with wide bounds: To, Value, has; rows of rows. -/
import Derived.Test.YtdepnhnpklbmiaaW19
import Derived.Test.YtdepnhnpklbmiaaW16
import Derived.Test.YtdepnhnpklbmiaaA3
import Derived.Shelf.SlSortCmp.QuietGrown
import Derived.Deep.DeepCutAuto
import Derived.Deep.RegionHeld3
import Derived.Laws.OwnMore
namespace Go.Proofs.Ytdepnhnpklbmiaa
open Go.RowKit Go.Sort

set_option maxHeartbeats 400000 in
theorem To_v (fr : Int) (A : Option Addr) (n cap : Nat) (w : World) (h0 : -1099511627776 ≤ fr ∧ fr ≤ 1099511627776) (hn : n ≤ 1000000) :
    Calls Try.prog 65 #[.agg #[.int .i64 fr, .slice A n cap]] w fun e w' => e = .returned (.int .i64 (fr + n - 1)) ∧ Gr w w' := by
  obtain ⟨h1, h2⟩ := h0
  go_enter Try.func65, Try.ntmps65
  go_wp2
  go_ret
  exact ⟨rfl, (Gr.refl _).alloc _⟩

set_option maxHeartbeats 1000000 in
set_option maxRecDepth 100000 in
theorem Value_v (fr x : Int) (A : Option Addr) (n cap k : Nat) (xs : List Int) (w : World) (hx : IntsAt w.heap.size w A n xs) (_h0 : -1099511627776 ≤ fr ∧ fr ≤ 1099511627776) (hk : k < n) (hn : n ≤ 1000000) (hxk : x = fr + k) :
    Calls Try.prog 54 #[.agg #[.int .i64 fr, .slice A n cap], .int .i64 x] w fun e w' => e = .returned (.int .i64 (iA xs k)) ∧ Gr w w' := by
  obtain ⟨W1, hW1⟩ : ∃ W1, w.alloc (.cells #[.int .i64 fr, .slice A n cap] 64) = W1 := ⟨_, rfl⟩
  have hG1 : Gr w W1 := by rw [← hW1]; exact (Gr.refl w).alloc _
  obtain ⟨b, off, rfl, hb, c0⟩ := (hx.gr hG1).at_ hk
  have hw1 : IntKind.i64.wrap (x - fr) = (k : Int) := by rw [IntKind.wrap_i64]; omega
  have hk' : (k : Int) < (n : Int) := by omega
  have a0 := heap_alloc_new w (.cells #[.int .i64 fr, .slice (some ⟨b, off, none⟩) n cap] 64)
  rw [hW1] at a0
  have d0 := cell_of_heap' a0 0
  have d1 := cell_of_heap' a0 1
  simp at d0 d1
  have HG := hide hG1
  generalize iA xs k = v at c0 ⊢
  clear hx hG1 hb a0 _h0 hxk
  go_enter Try.func54, Try.ntmps54
  go_wp2
  go_ret
  exact ⟨rfl, HG.out⟩

set_option maxHeartbeats 1000000 in
set_option maxRecDepth 100000 in
theorem has_v (fr x : Int) (A : Option Addr) (n cap : Nat) (w : World) (h0 : -1099511627776 ≤ fr ∧ fr ≤ 1099511627776) (hn : n ≤ 1000000) :
    Calls Try.prog 53 #[.agg #[.int .i64 fr, .slice A n cap], .int .i64 x] w fun e w' => e = .returned (.bool (decide (fr ≤ x ∧ x ≤ fr + n - 1))) ∧ Gr w w' := by
  obtain ⟨W1, hW1⟩ : ∃ W1, w.alloc (.cells #[.int .i64 fr, .slice A n cap] 64) = W1 := ⟨_, rfl⟩
  have hG1 : Gr w W1 := by rw [← hW1]; exact (Gr.refl w).alloc _
  have a0 := heap_alloc_new w (.cells #[.int .i64 fr, .slice A n cap] 64)
  rw [hW1] at a0
  have d0 := cell_of_heap' a0 0
  have d1 := cell_of_heap' a0 1
  simp at d0 d1
  have HT := hide (To_v fr A n cap W1 h0 hn)
  have HG := hide hG1
  clear hG1 a0 h0 hn
  by_cases c1 : fr ≤ x
  · by_cases c2 : x ≤ fr + n - 1
    · rw [decide_eq_true ⟨c1, c2⟩]
      go_enter Try.func53, Try.ntmps53
      go_wp2_with fail
      refine HT.out.mono ?_
      rintro e w2 ⟨rfl, hg⟩
      go_wp2_with fail
      go_ret
      exact ⟨ret_bool (by simp [c2]), HG.out.trans hg⟩
    · rw [decide_eq_false fun h => c2 h.2]
      go_enter Try.func53, Try.ntmps53
      go_wp2_with fail
      refine HT.out.mono ?_
      rintro e w2 ⟨rfl, hg⟩
      go_wp2_with fail
      go_ret
      exact ⟨ret_bool (by simp [c2]), HG.out.trans hg⟩
  · rw [decide_eq_false fun h => c1 h.1]
    go_enter Try.func53, Try.ntmps53
    go_wp2_with fail
    go_ret
    exact ⟨by first | rfl | exact ret_bool (by simp [c1]), HG.out⟩
end Go.Proofs.Ytdepnhnpklbmiaa
