/- Contract of Nth: the number of a set with exactly i smaller ones. -/
import Derived.Test.YtikfiofjhmeheaaC5
namespace Go.Proofs.Ytikfiofjhmeheaa
open Go.RowKit Go.Sort
attribute [local go_sem] Oper.semAt_some

theorem results35 (W : World) (x0 x1 x2 x3 : Value) (rest : List Value) (p q : Nat) (v u : Value) (h4 : W.cell? ⟨p, 0, none⟩ = some v) (h5 : W.cell? ⟨q, 0, none⟩ = some u) :
    (results Try.f35 (x0 :: x1 :: x2 :: x3 :: .pointer (some ⟨p, 0, none⟩) :: .pointer (some ⟨q, 0, none⟩) :: rest).toArray).run Try.prog W = .ok (.tuple #[v, u]) W := by
  simp [results, Try.results35, go_sem, h4, h5]
/-- two stores into two boxes -/
theorem two_set {W : World} {a b : Nat} {va vb : Value} {ta tb : TypeId} (ha : Boxed W a ta va) (hb : Boxed W b tb vb) (hne : a ≠ b) (u v : Value) :
    Boxed ((W.setCell ⟨a, 0, none⟩ u).setCell ⟨b, 0, none⟩ v) a ta u ∧ Boxed ((W.setCell ⟨a, 0, none⟩ u).setCell ⟨b, 0, none⟩ v) b tb v :=
  ⟨(ha.set u).other hne v, (hb.other (Ne.symm hne) u).set v⟩

set_option maxRecDepth 100000 in
set_option maxHeartbeats 4000000 in
theorem Nth_in (A : Option Addr) (n cap : Nat) (i : Int) (xs : List Sp) (w : World) (hx : SpansAt w.heap.size w A n xs) (hr : -9223372036854775808 ≤ i ∧ i ≤ 9223372036854775807) :
    CallsIn Fence.wide 10 Try.prog 35 #[.slice A n cap, .int .i64 i] w fun e w' => e = .returned (nthV xs i) ∧ Below w.heap.size w w' := by
  have HX := hide hx
  clear hx
  refine callsIn_of_wp_marks Try.func35 rfl trivial ?_ rfl
  simp only [Try.ntmps35, List.size_toArray, List.length_cons, List.length_nil, Nat.reduceAdd, Nat.reduceSub, Array.replicate_succ, Array.replicate_zero, List.push_toArray, List.append_toArray, List.nil_append, List.cons_append]
  gi_wp2_with fail
  have hg1 := (((Gr.refl w).alloc (.cells #[.int .i64 i] 3)).alloc (.cells #[.int .i64 0] 3)).alloc (.cells #[.int .i64 0] 26)
  obtain ⟨w1, hw1⟩ : ∃ w1, ((w.alloc (.cells #[.int .i64 i] 3)).alloc (.cells #[.int .i64 0] 3)).alloc (.cells #[.int .i64 0] 26) = w1 := ⟨_, rfl⟩
  have bX : Boxed w1 w.heap.size 3 (.int .i64 i) := by rw [← hw1]; exact heap_old _ (heap_old _ (heap_new _ rfl))
  have b4 : Boxed w1 (w.heap.size + 1) 3 (.int .i64 0) := by rw [← hw1]; exact heap_old _ (heap_new _ (size_alloc' _ rfl))
  have b5 : Boxed w1 (w.heap.size + 1 + 1) 26 (.int .i64 0) := by rw [← hw1]; exact heap_new _ (size_alloc' _ (size_alloc' _ rfl))
  have hs1 : w1.heap.size = w.heap.size + 3 := by rw [← hw1]; simp
  rw [hw1] at hg1 ⊢
  clear hw1
  have HV := hide (callsIn_wide (n := 9).2 (Valid_any A n cap xs w1 (HX.out.gr hg1)))
  cases hv : setB xs
  · have HE : Hid (nthV xs i = numV 0 2) := nth_bad hv
    refine ⟨trivial, HV.out.mono ?_⟩
    rintro e w2 ⟨rfl, hG⟩
    rw [hv]
    have c4 := (boxed_gr b4 hG).cell
    have c5 := (boxed_gr b5 hG).cell
    have f4 := (boxed_gr b4 hG).frozen
    have f5 := (boxed_gr b5 hG).frozen
    have h2 := two_set (boxed_gr b4 hG) (boxed_gr b5 hG) (by omega) (.int .i64 0) (.int .i64 2)
    have HB := hide (hg1.trans hG).below
    clear hg1 hG bX b4 b5 HV
    gi_wp2
    exact ⟨_, results35 _ _ _ _ _ _ _ _ _ _ h2.1.cell h2.2.cell, by rw [HE.out]; rfl, (HB.out.setCell (by dsimp only; omega) _).setCell (by dsimp only; omega) _⟩
  · have HS := hide (setB_true hv)
    have HSB := hide hv
    refine ⟨trivial, HV.out.mono ?_⟩
    rintro e w2 ⟨rfl, hG⟩
    rw [hv]
    have hle : w.heap.size + 3 ≤ w2.heap.size := by have := hG.size; omega
    have bA := Boxed.new w2 22 (.slice A n cap)
    have bX0 := (boxed_gr bX hG).alloc (.cells #[.slice A n cap] 22)
    have b40 := (boxed_gr b4 hG).alloc (.cells #[.slice A n cap] 22)
    have b50 := (boxed_gr b5 hG).alloc (.cells #[.slice A n cap] 22)
    have hG0 := (hg1.trans hG).alloc (.cells #[.slice A n cap] 22)
    clear hg1 hG bX b4 b5 HV hv
    gi_wp2_with (refine ⟨trivial, ?_⟩; gi_at_call 78; refine (callsIn_wide (n := 9).2 (counted_any A n cap _)).mono ?_; rintro e w3 ⟨rfl, rfl⟩)
    have hsz : (w2.alloc (.cells #[.slice A n cap] 22)).heap.size = w2.heap.size + 1 := by simp
    obtain ⟨W0, hW0⟩ : ∃ W0, w2.alloc (.cells #[.slice A n cap] 22) = W0 := ⟨_, rfl⟩
    rw [hW0] at bA hG0 hsz bX0 b40 b50 ⊢
    clear hW0
    have hnr : ∀ g, ¬ RowOf [] W0 g := by
      rintro g ⟨b, hb, _⟩
      cases hb
    have hst : setTo xs n := by rw [← HX.out.1]; exact HS.out.2
    have hn128 : n ≤ 128 := by have := HS.out.1; have := HX.out.1; omega
    have HST := hide hst
    clear hst
    refine wpIn_rangeFunc_ownH rfl (by omega) (gf := 100) (lb := #[.pointer (some ⟨w2.heap.size, 0, none⟩)]) rfl trivial (enters_of Try.func100 (by kernel_rfl) rfl)
      (counted_stops 9 (by omega) w2.heap.size [] A n cap xs HST.out hn128 W0 (by simp) (fun g h => absurd h (hnr g)) bA.cell (by omega) w.heap.size (by omega)
        (HX.out.below hG0.below) (fun k hk => ⟨by simp, hnr k⟩)) (Kept.hKt _) (Kept.hKb (by simp)) (Below.refl _ _) (fun _ => rfl)
      (fun pre W => Boxed W w.heap.size 3 (.int .i64 i) ∧ Boxed W (w.heap.size + 1) 3 (.int .i64 0) ∧ Boxed W (w.heap.size + 1 + 1) 26 (.int .i64 0) ∧ (∀ y, y ∈ pre → ¬ hitN xs i y.1) ∧ Below w.heap.size w W ∧ W0.heap.size ≤ W.heap.size)
      (fun c _ W => c = .ret ∧ (∃ y, y < n ∧ hitN xs i y ∧ Boxed W (w.heap.size + 1) 3 (.int .i64 (loA xs y + i - befA xs y)) ∧ Boxed W (w.heap.size + 1 + 1) 26 (.int .i64 0)) ∧ Below w.heap.size w W ∧ W0.heap.size ≤ W.heap.size)
      ?hI ?hIx
      ⟨bX0, b40, b50, fun y hy => by (cases hy), hG0.below, Nat.le_refl _⟩
      (fun y a' W => ∃ Bx, W0.heap.size ≤ Bx ∧ W.heap[Bx]? = some (.cells #[.int .i64 (loA xs y.1), .int .i64 (hiA xs y.1)] 42 (0, 0)) ∧
        a' = { tmps := #[.slice A n cap, .int .i64 i, undef, .pointer (some ⟨w.heap.size, 0, none⟩), .pointer (some ⟨w.heap.size + 1, 0, none⟩), .pointer (some ⟨w.heap.size + 1 + 1, 0, none⟩), .int .i64 (befA xs y.1), .pointer (some ⟨Bx, 0, none⟩), .slice A n cap, .bool true, .bool false, .slice A n cap, .func (.func 100) #[] #[.pointer (some ⟨w2.heap.size, 0, none⟩)], .int .i64 (befA xs y.1), .agg #[.int .i64 (loA xs y.1), .int .i64 (hiA xs y.1)], undef, undef, undef, undef, undef, undef, undef, undef, undef, undef, undef, undef, undef, undef, undef, undef, undef, undef, undef, undef], defers := [] })
      (fun y a' s W W' row hs hg hr => by
        obtain ⟨Bx, h1, h2, h3⟩ := hs
        exact ⟨Bx, h1, cells_own h2 rfl hg hr, h3⟩)
      ?assign ?body ?done ?stop
    case hI =>
      intro pre W W' row hs hg hrow
      obtain ⟨h1, h2, h3, h4, h5, h6⟩ := hs
      exact ⟨cells_own h1 rfl hg hrow, cells_own h2 rfl hg hrow, cells_own h3 rfl hg hrow, h4, (ownFrom_below (β := Unit) (Nat.le_refl _) (by omega)) () W W' row h5 hg hrow, Nat.le_trans h6 hg.size⟩
    case hIx =>
      intro c pre W W' row hs hg hrow
      obtain ⟨h0, ⟨y, h1, h2, h3, h3'⟩, h4, h5⟩ := hs
      exact ⟨h0, ⟨y, h1, h2, cells_own h3 rfl hg hrow, cells_own h3' rfl hg hrow⟩, (ownFrom_below (β := Unit) (Nat.le_refl _) (by omega)) () W W' row h4 hg hrow, Nat.le_trans h5 hg.size⟩
    case assign =>
      rintro l pre y W K ⟨hbx, hb4, hb5, hno, hbel, hsz2⟩ hK
      dsimp only [encC]
      gi_wp2
      exact hK _ _ ((KeepsOthers.alloc _ _).from _) ((Kept.refl _ W).alloc (by simp) _) ⟨hbx.alloc _, hb4.alloc _, hb5.alloc _, hno, hbel.alloc (by have := hbel.size; omega) _, by simp; omega⟩ ⟨W.heap.size, hsz2, World.alloc_heap_new W _, rfl⟩
    case body =>
      rintro l pre y a' W hl ⟨r, hr⟩ ⟨hbx, hb4, hb5, hno, hbel, hsz2⟩ ⟨Bx, hBx, hbxx, rfl⟩ hlt
      have c0 := cell_of_heap hbxx 0
      have c1 := cell_of_heap hbxx 1
      have e0 := hbx.cell
      simp at c0 c1
      have hyn : y.1 < n := y.2
      obtain ⟨o1, o2, o3⟩ := okB_true (HST.out y.1 hyn).1
      obtain ⟨q1, q2⟩ := befA_le HST.out hn128 y.1 (by omega)
      have q3 : befA xs y.1 ≤ 281474976710656 := by omega
      clear q2
      by_cases h1 : befA xs y.1 ≤ i
      · have hd1 : decide (befA xs y.1 ≤ i) = true := decide_eq_true h1
        by_cases h2 : i - befA xs y.1 < hiA xs y.1 - loA xs y.1
        · have hd2 : decide (i - befA xs y.1 < hiA xs y.1 - loA xs y.1) = true := decide_eq_true h2
          have c4 := hb4.cell
          have c5 := hb5.cell
          have f4 := hb4.frozen
          have f5 := hb5.frozen
          have h3 := two_set hb4 hb5 (by omega) (.int .i64 (loA xs y.1 + i - befA xs y.1)) (.int .i64 0)
          have H3 := hide h3
          have HB := hide hbel
          clear h3 hbel
          gi_wp2
          exact ⟨((KeepsOthers.setCell _ _ _).trans (KeepsOthers.setCell _ _ _)).from _, rfl, ⟨y.1, hyn, ⟨h1, h2⟩, H3.out.1, H3.out.2⟩, (HB.out.setCell (by dsimp only; omega) _).setCell (by dsimp only; omega) _, by simp [World.setCell]; omega⟩
        · have hd2 : decide (i - befA xs y.1 < hiA xs y.1 - loA xs y.1) = false := decide_eq_false h2
          gi_wp2
          exact ⟨KeepsFrom.refl _ _, Kept.refl _ _, hbx, hb4, hb5, fun z hz => by
            rw [List.mem_append] at hz
            rcases hz with hz | hz
            · exact hno z hz
            · obtain rfl : z = y := by simpa using hz
              exact fun h => by have := h.2; omega, hbel, by omega⟩
      · have hd1 : decide (befA xs y.1 ≤ i) = false := decide_eq_false h1
        gi_wp2
        exact ⟨KeepsFrom.refl _ _, Kept.refl _ _, hbx, hb4, hb5, fun z hz => by
          rw [List.mem_append] at hz
          rcases hz with hz | hz
          · exact hno z hz
          · obtain rfl : z = y := by simpa using hz
            exact fun h => by have := h.1; omega, hbel, by omega⟩
    case done =>
      rintro D ys W hD rfl ⟨hbx, hb4, hb5, hno, hbel, hsz2⟩ hK
      have HE : Hid (nthV xs i = numV 0 6) := nth_none HSB.out (fun k hk => hno ⟨k, by rw [HX.out.1] at hk; exact hk⟩ (by rw [ups_all]; simp))
      have c4 := hb4.cell
      have c5 := hb5.cell
      have f4 := hb4.frozen
      have f5 := hb5.frozen
      have h3 := two_set hb4 hb5 (by omega) (.int .i64 0) (.int .i64 6)
      have HK : Hid (((W.setCell ⟨w.heap.size + 1, 0, none⟩ (.int .i64 0)).setCell ⟨w.heap.size + 1 + 1, 0, none⟩ (.int .i64 6)).heap[D]? = some (.deferred (some []))) :=
        (Below.heap_setCell _ _ _ _ (by dsimp only; omega)).trans ((Below.heap_setCell _ _ _ _ (by dsimp only; omega)).trans hK)
      have H3 := hide h3
      have HB := hide hbel
      clear h3 hbel hK
      gi_wp2
      refine ⟨by simp, .inl ⟨_, _, rfl, run_takeDeferred HK.out, ?_⟩⟩
      have k4 := boxed_put H3.out.1 (.deferred none) HK.out rfl
      have k5 := boxed_put H3.out.2 (.deferred none) HK.out rfl
      exact ⟨_, results35 _ _ _ _ _ _ _ _ _ _ k4.cell k5.cell, by rw [HE.out]; rfl, ((HB.out.setCell (by dsimp only; omega) _).setCell (by dsimp only; omega) _).trans (belowK_b (w := w) (Nat.le_refl _) _ D _ _ (by omega) HK.out rfl rfl)⟩
    case stop =>
      rintro D c pre W hD _ ⟨rfl, ⟨y, hy, hh, hb4, hb5⟩, hbel, hsz2⟩ hK
      have HE : Hid (nthV xs i = numV (loA xs y + i - befA xs y) 0) := nth_hit HSB.out (by rw [HX.out.1]; exact hy) hh
      gi_wp2
      refine ⟨by simp, .inl ⟨_, _, rfl, run_takeDeferred hK, ?_⟩⟩
      have k4 := boxed_put hb4 (.deferred none) hK rfl
      have k5 := boxed_put hb5 (.deferred none) hK rfl
      exact ⟨_, results35 _ _ _ _ _ _ _ _ _ _ k4.cell k5.cell, by rw [HE.out]; rfl, hbel.trans (belowK_b (w := w) (Nat.le_refl _) W D _ _ (by omega) hK rfl rfl)⟩

theorem Nth_any (A : Option Addr) (n cap : Nat) (i : Int) (xs : List Sp) (w : World) (hx : SpansAt w.heap.size w A n xs) (hr : -9223372036854775808 ≤ i ∧ i ≤ 9223372036854775807) :
    Calls Try.prog 35 #[.slice A n cap, .int .i64 i] w fun e w' => e = .returned (nthV xs i) ∧ Below w.heap.size w w' :=
  callsIn_wide.1 (Nth_in A n cap i xs w hx hr)

end Go.Proofs.Ytikfiofjhmeheaa
