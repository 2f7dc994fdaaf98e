/- Contracts of Grow and Shrink. -/
import Derived.Test.YtikfiofjhmeheaaN8
namespace Go.Proofs.Ytikfiofjhmeheaa
open Go.RowKit Go.Sort

set_option maxHeartbeats 1000000 in
theorem grow1 (w0 : World) (Br : Nat) (r : Int) (hr : 0 ≤ r ∧ r ≤ 1099511627776) (hc : w0.cell? ⟨Br, 0, none⟩ = some (.int .i64 r)) (hl : Br < w0.heap.size) : ChangeCalls w0 80 #[.pointer (some ⟨Br, 0, none⟩)] (growF r) := by
  intro a b W hb hok
  obtain ⟨o1, o2, o3⟩ := okB_true hok
  have c0 := (hb.cell (p := ⟨Br, 0, none⟩) hl).trans hc
  have l0 : Br < W.heap.size := Nat.lt_of_lt_of_le hl hb.size
  obtain ⟨r1, r2⟩ := hr
  have HB : Hid (Below W.heap.size W W) := Below.refl _ _
  have m1 : (if a - r < -1099511627776 then (-1099511627776 : Int) else a - r) = (growF r (a, b)).1 := by unfold growF; dsimp only; omega
  have m2 : (if 1099511627776 < b + r then (1099511627776 : Int) else b + r) = (growF r (a, b)).2 := by unfold growF; dsimp only; omega
  clear hc hl hb hok
  generalize (growF r (a, b)).1 = u at m1 ⊢
  generalize (growF r (a, b)).2 = v at m2 ⊢
  go_enter Try.func80, Try.ntmps80
  go_wp2
  refine bodyPost_ret (v := .agg #[.int .i64 u, .int .i64 v]) (by simp [results, Try.results80, go_sem]) rfl ⟨rfl, ?_⟩
  exact ((Below.refl _ _).alloc (Nat.le_refl _) _).alloc (by simp) _

set_option maxHeartbeats 2000000 in
theorem shrink1 (w0 : World) (Br : Nat) (r : Int) (hr : 0 ≤ r ∧ r ≤ 1099511627776) (hc : w0.cell? ⟨Br, 0, none⟩ = some (.int .i64 r)) (hl : Br < w0.heap.size) : ChangeCalls w0 82 #[.pointer (some ⟨Br, 0, none⟩)] (shrinkF r) := by
  intro a b W hb hok
  obtain ⟨o1, o2, o3⟩ := okB_true hok
  have c0 := (hb.cell (p := ⟨Br, 0, none⟩) hl).trans hc
  have l0 : Br < W.heap.size := Nat.lt_of_lt_of_le hl hb.size
  obtain ⟨r1, r2⟩ := hr
  clear hc hl hb hok
  have n1 := World.new_ne W ⟨Br, 0, none⟩ c0
  by_cases h1 : -1099511627776 < a
  · by_cases h2 : b < 1099511627776
    · have HE : Hid ((shrinkF r (a, b)).1 = a + r ∧ (shrinkF r (a, b)).2 = b - r) := by unfold shrinkF; exact ⟨if_pos h1, if_pos h2⟩
      rw [HE.out.1, HE.out.2]
      go_enter Try.func82, Try.ntmps82
      go_wp2
      refine bodyPost_ret (v := .agg #[.int .i64 (a + r), .int .i64 (b - r)]) (by simp [results, Try.results82, go_sem]) rfl ⟨rfl, ?_⟩
      exact ((Below.refl _ _).alloc (Nat.le_refl _) _).alloc (by simp) _
    · have HE : Hid ((shrinkF r (a, b)).1 = a + r ∧ (shrinkF r (a, b)).2 = b) := by unfold shrinkF; exact ⟨if_pos h1, if_neg h2⟩
      rw [HE.out.1, HE.out.2]
      go_enter Try.func82, Try.ntmps82
      go_wp2
      refine bodyPost_ret (v := .agg #[.int .i64 (a + r), .int .i64 b]) (by simp [results, Try.results82, go_sem]) rfl ⟨rfl, ?_⟩
      exact ((Below.refl _ _).alloc (Nat.le_refl _) _).alloc (by simp) _
  · by_cases h2 : b < 1099511627776
    · have HE : Hid ((shrinkF r (a, b)).1 = a ∧ (shrinkF r (a, b)).2 = b - r) := by unfold shrinkF; exact ⟨if_neg h1, if_pos h2⟩
      rw [HE.out.1, HE.out.2]
      go_enter Try.func82, Try.ntmps82
      go_wp2
      refine bodyPost_ret (v := .agg #[.int .i64 a, .int .i64 (b - r)]) (by simp [results, Try.results82, go_sem]) rfl ⟨rfl, ?_⟩
      exact ((Below.refl _ _).alloc (Nat.le_refl _) _).alloc (by simp) _
    · have HE : Hid ((shrinkF r (a, b)).1 = a ∧ (shrinkF r (a, b)).2 = b) := by unfold shrinkF; exact ⟨if_neg h1, if_neg h2⟩
      rw [HE.out.1, HE.out.2]
      go_enter Try.func82, Try.ntmps82
      go_wp2
      refine bodyPost_ret (v := .agg #[.int .i64 a, .int .i64 b]) (by simp [results, Try.results82, go_sem]) rfl ⟨rfl, ?_⟩
      exact ((Below.refl _ _).alloc (Nat.le_refl _) _).alloc (by simp) _

set_option maxHeartbeats 1000000 in
theorem Grow_any (A : Option Addr) (n cap : Nat) (r : Int) (xs : List Sp) (w : World) (hx : SpansAt w.heap.size w A n xs) :
    Calls Try.prog 39 #[.slice A n cap, .int .i64 r] w (SetPost (tolE xs r) (tolV (growF r) xs r) w) := by
  have hG := (Gr.refl w).alloc (.cells #[.int .i64 r] 3)
  have HR := hide (resize_any 80 #[.pointer (some ⟨w.heap.size, 0, none⟩)] (growF r) A n cap r xs (w.alloc (.cells #[.int .i64 r] 3)) (enters_of Try.func80 (by kernel_rfl) rfl)
    (fun hr => grow1 _ w.heap.size r hr (by simp) (by simp)) (hx.gr hG))
  have HG := hide hG
  clear hx hG
  go_enter Try.func39, Try.ntmps39
  go_wp2_with fail
  refine HR.out.mono ?_
  rintro e w2 ⟨a, c, rfl, ho, hb⟩
  have HO := hide (own_base (base' := w.heap.size) ho (by simp))
  have HB := hide (HG.out.below.trans (hb.mono HG.out.size))
  clear ho hb HR HG
  go_wp2
  go_ret2
  exact ⟨a, c, rfl, HO.out, HB.out⟩

set_option maxHeartbeats 1000000 in
theorem Shrink_any (A : Option Addr) (n cap : Nat) (r : Int) (xs : List Sp) (w : World) (hx : SpansAt w.heap.size w A n xs) :
    Calls Try.prog 41 #[.slice A n cap, .int .i64 r] w (SetPost (tolE xs r) (tolV (shrinkF r) xs r) w) := by
  have hG := (Gr.refl w).alloc (.cells #[.int .i64 r] 3)
  have HR := hide (resize_any 82 #[.pointer (some ⟨w.heap.size, 0, none⟩)] (shrinkF r) A n cap r xs (w.alloc (.cells #[.int .i64 r] 3)) (enters_of Try.func82 (by kernel_rfl) rfl)
    (fun hr => shrink1 _ w.heap.size r hr (by simp) (by simp)) (hx.gr hG))
  have HG := hide hG
  clear hx hG
  go_enter Try.func41, Try.ntmps41
  go_wp2_with fail
  refine HR.out.mono ?_
  rintro e w2 ⟨a, c, rfl, ho, hb⟩
  have HO := hide (own_base (base' := w.heap.size) ho (by simp))
  have HB := hide (HG.out.below.trans (hb.mono HG.out.size))
  clear ho hb HR HG
  go_wp2
  go_ret2
  exact ⟨a, c, rfl, HO.out, HB.out⟩

end Go.Proofs.Ytikfiofjhmeheaa
