/- Contract of Rank: how many numbers of a set are less. -/
import Derived.Test.YtikfiofjhmeheaaC4
import Derived.Test.YtikfiofjhmeheaaD2
namespace Go.Proofs.Ytikfiofjhmeheaa
open Go.RowKit Go.Sort
attribute [local go_sem] Oper.semAt_some

def rankC (xs : List Sp) (x : Int) {n : Nat} (pre : List (Fin n)) : Int := match pre.getLast? with
  | none => 0
  | some i => rankTo xs x (i.1 + 1)
theorem rankC_snoc (xs : List Sp) (x : Int) {n : Nat} (pre : List (Fin n)) (i : Fin n) : rankC xs x (pre ++ [i]) = rankTo xs x (i.1 + 1) := by
  simp [rankC]
theorem rankC_ups (xs : List Sp) (x : Int) (n k : Nat) (h : k ≤ n) : rankC xs x (ups n k) = rankTo xs x k := by
  cases k with
  | zero => simp [ups_zero, rankC, rankTo]
  | succ k => rw [ups_succ (by omega), rankC_snoc]
theorem rank_next {xs : List Sp} {x : Int} {n k : Nat} (h : setTo xs n) (hk : k < n) (hx : loA xs k < x) : rankTo xs x (k + 1) = befA xs k + (if hiA xs k < x then hiA xs k else x) - loA xs k := by
  rw [rankTo, if_pos hx, rank_at h hk hx]
  split <;> split <;> omega

set_option maxRecDepth 100000 in
set_option maxHeartbeats 4000000 in
theorem Rank_in (A : Option Addr) (n cap : Nat) (x : Int) (xs : List Sp) (w : World) (hx : SpansAt w.heap.size w A n xs) (hr : -9223372036854775808 ≤ x ∧ x ≤ 9223372036854775807) :
    CallsIn Fence.wide 10 Try.prog 37 #[.slice A n cap, .int .i64 x] w fun e w' => e = .returned (rankV xs x) ∧ Below w.heap.size w w' := by
  obtain ⟨w1, hw1⟩ : ∃ w1, w.alloc (.cells #[.int .i64 x] 3) = w1 := ⟨_, rfl⟩
  have bX : Boxed w1 w.heap.size 3 (.int .i64 x) := by rw [← hw1]; exact Boxed.new w 3 _
  have hg1 : Gr w w1 := by rw [← hw1]; exact (Gr.refl w).alloc _
  have hs1 : w1.heap.size = w.heap.size + 1 := by rw [← hw1]; simp
  have HX := hide hx
  have HV := hide (callsIn_wide (n := 9).2 (Valid_any A n cap xs w1 (hx.gr hg1)))
  clear hx
  refine callsIn_of_wp_marks Try.func37 rfl trivial ?_ rfl
  simp only [Try.ntmps37, List.size_toArray, List.length_cons, List.length_nil, Nat.reduceAdd, Nat.reduceSub, Array.replicate_succ, Array.replicate_zero, List.push_toArray, List.append_toArray, List.nil_append, List.cons_append]
  cases hv : setB xs
  · have HE : Hid (rankV xs x = numV 0 2) := by show rankV xs x = numV 0 2; unfold rankV; rw [hv]; rfl
    gi_wp2_with (refine ⟨trivial, ?_⟩; gi_at_call 23; refine HV.out.mono ?_; rintro e w2 ⟨rfl, hG⟩)
    exact ⟨_, results_tmp2 rfl _ _ _, by rw [HE.out]; rfl, (hg1.trans hG).below⟩
  · have HS := hide (setB_true hv)
    have HE : Hid (rankV xs x = numV (rankTo xs x n) 0) := by show rankV xs x = _; unfold rankV; rw [hv, HX.out.1]; rfl
    gi_wp2_with (refine ⟨trivial, ?_⟩; first | (gi_at_call 23; refine HV.out.mono ?_; rintro e w2 ⟨rfl, hG⟩) | (gi_at_call 78; refine (callsIn_wide (n := 9).2 (counted_any A n cap _)).mono ?_; rintro e w3 ⟨rfl, rfl⟩))
    have bX2 := boxed_gr bX hG
    have bX3 := (bX2.alloc (.cells #[.int .i64 0] 3)).alloc (.cells #[.slice A n cap] 22)
    have bN := Boxed.new w2 3 (.int .i64 0)
    have bA := Boxed.new (w2.alloc (.cells #[.int .i64 0] 3)) 22 (.slice A n cap)
    have bN2 := bN.alloc (.cells #[.slice A n cap] 22)
    rw [World.size_alloc] at bA
    have hG0 := ((hg1.trans hG).alloc (.cells #[.int .i64 0] 3)).alloc (.cells #[.slice A n cap] 22)
    have hsz : ((w2.alloc (.cells #[.int .i64 0] 3)).alloc (.cells #[.slice A n cap] 22)).heap.size = w2.heap.size + 2 := by simp
    have hle : w.heap.size + 1 ≤ w2.heap.size := by have := hG.size; omega
    obtain ⟨W0, hW0⟩ : ∃ W0, (w2.alloc (.cells #[.int .i64 0] 3)).alloc (.cells #[.slice A n cap] 22) = W0 := ⟨_, rfl⟩
    rw [hW0] at bA bN2 hG0 hsz bX3 ⊢
    clear hW0 bN hG bX bX2 hw1
    have hnr : ∀ g, ¬ RowOf [w2.heap.size] W0 g := by
      rintro g ⟨b, hb, v, hc, ho⟩
      obtain rfl : b = w2.heap.size := by simpa using hb
      rw [bN2.cell] at hc
      injection hc with hc
      subst hc
      cases ho
    have hst : setTo xs n := by rw [← HX.out.1]; exact HS.out.2
    have hn128 : n ≤ 128 := by have := HS.out.1; have := HX.out.1; omega
    have HST := hide hst
    clear hst
    refine wpIn_rangeFunc_ownH rfl (by omega) (gf := 100) (lb := #[.pointer (some ⟨w2.heap.size + 1, 0, none⟩)]) rfl trivial (enters_of Try.func100 (by kernel_rfl) rfl)
      (counted_stops 9 (by omega) (w2.heap.size + 1) [w2.heap.size] A n cap xs HST.out hn128 W0 (by simp; omega) (fun g h => absurd h (hnr g)) bA.cell (by omega) w.heap.size (by omega)
        (HX.out.below hG0.below) (fun k hk => ⟨by simp; omega, hnr k⟩)) (Kept.hKt _) (Kept.hKb (by simp; omega)) (Below.refl _ _) (fun _ => rfl)
      (fun pre W => Boxed W w2.heap.size 3 (.int .i64 (rankC xs x pre)) ∧ Boxed W w.heap.size 3 (.int .i64 x) ∧ Below w.heap.size w W ∧ W0.heap.size ≤ W.heap.size)
      (fun c pre W => c = .exit 0 ∧ (∃ pr y, pre = pr ++ [y] ∧ x ≤ loA xs y.1 ∧ Boxed W w2.heap.size 3 (.int .i64 (rankC xs x pr))) ∧ Below w.heap.size w W ∧ W0.heap.size ≤ W.heap.size)
      (OwnFrom.and (Own.from (boxed_own _ _ _) _) (OwnFrom.and (Own.from (boxed_own _ _ _) _) (OwnFrom.and (ownFrom_below (Nat.le_refl _) (by omega)) (ownFrom_size _ _))))
      ?hIx
      ⟨bN2, bX3, hG0.below, Nat.le_refl _⟩
      (fun y a' W => ∃ Bx, W0.heap.size ≤ Bx ∧ W.heap[Bx]? = some (.cells #[.int .i64 (loA xs y.1), .int .i64 (hiA xs y.1)] 42 (0, 0)) ∧
        a' = { tmps := #[.slice A n cap, .int .i64 x, undef, .pointer (some ⟨w.heap.size, 0, none⟩), .int .i64 0, .int .i64 0, .pointer (some ⟨w2.heap.size, 0, none⟩), .int .i64 (befA xs y.1), .pointer (some ⟨Bx, 0, none⟩), .slice A n cap, .bool true, .bool false, .slice A n cap, .func (.func 100) #[] #[.pointer (some ⟨w2.heap.size + 1, 0, none⟩)], .int .i64 (befA xs y.1), .agg #[.int .i64 (loA xs y.1), .int .i64 (hiA xs y.1)], undef, undef, undef, undef, undef, undef, undef, undef, undef, undef, undef, undef, undef, undef], defers := [] })
      (fun y a' s W W' row hs hg hr => by
        obtain ⟨Bx, h1, h2, h3⟩ := hs
        exact ⟨Bx, h1, cells_own h2 rfl hg hr, h3⟩)
      ?assign ?body ?done ?stop
    case hIx =>
      intro c pre W W' row hs hg hrow
      obtain ⟨h0, ⟨pr, y, h1, h2, h3⟩, h4, h5⟩ := hs
      exact ⟨h0, ⟨pr, y, h1, h2, cells_own h3 rfl hg hrow⟩, (ownFrom_below (β := Unit) (Nat.le_refl _) (by omega)) () W W' row h4 hg hrow, Nat.le_trans h5 hg.size⟩
    case assign =>
      rintro l pre y W K ⟨hb, hbx, hbel, hsz2⟩ hK
      dsimp only [encC]
      gi_wp2
      have hbl := hb.lt
      exact hK _ _ ((KeepsOthers.alloc _ _).from _) ((Kept.refl _ W).alloc (by simp; omega) _) ⟨hb.alloc _, hbx.alloc _, hbel.alloc (by have := hbel.size; omega) _, by simp; omega⟩ ⟨W.heap.size, hsz2, World.alloc_heap_new W _, rfl⟩
    case body =>
      rintro l pre y a' W hl ⟨r, hr⟩ ⟨hb, hbx, hbel, hsz2⟩ ⟨Bx, hBx, hbxx, rfl⟩ hlt
      have c0 := cell_of_heap hbxx 0
      have c1 := cell_of_heap hbxx 1
      have d0 := hb.cell
      have d1 := hb.frozen
      have e0 := hbx.cell
      simp at c0 c1
      have hyn : y.1 < n := y.2
      obtain ⟨o1, o2, o3⟩ := okB_true (HST.out y.1 hyn).1
      obtain ⟨q1, q2⟩ := befA_le HST.out hn128 y.1 (by omega)
      have q3 : befA xs y.1 ≤ 281474976710656 := by omega
      clear q2
      by_cases h1 : x ≤ loA xs y.1
      · have hd1 : decide (x ≤ loA xs y.1) = true := decide_eq_true h1
        gi_wp2
        exact ⟨KeepsFrom.refl _ _, rfl, ⟨pre, y, rfl, h1, hb⟩, hbel, hsz2⟩
      · have hd1 : decide (x ≤ loA xs y.1) = false := decide_eq_false h1
        have HN := hide (rank_next HST.out hyn (show loA xs y.1 < x by omega))
        by_cases h2 : hiA xs y.1 < x
        · have hm : (if hiA xs y.1 < x then hiA xs y.1 else x) = hiA xs y.1 := if_pos h2
          have HN2 : Hid (rankTo xs x (y.1 + 1) = befA xs y.1 + hiA xs y.1 - loA xs y.1) := by show _ = _; rw [HN.out, hm]
          clear HN
          gi_wp2
          exact ⟨(KeepsOthers.setCell _ _ _).from _, Kept.setBox _ _ _ _ (by simp) rfl, ⟨by rw [rankC_snoc, HN2.out]; exact hb.set _, hbx.other (by omega) _, hbel.setCell (by simp; omega) _, by simp [World.setCell]; omega⟩⟩
        · have hm : (if hiA xs y.1 < x then hiA xs y.1 else x) = x := if_neg h2
          have HN2 : Hid (rankTo xs x (y.1 + 1) = befA xs y.1 + x - loA xs y.1) := by show _ = _; rw [HN.out, hm]
          clear HN
          gi_wp2
          exact ⟨(KeepsOthers.setCell _ _ _).from _, Kept.setBox _ _ _ _ (by simp) rfl, ⟨by rw [rankC_snoc, HN2.out]; exact hb.set _, hbx.other (by omega) _, hbel.setCell (by simp; omega) _, by simp [World.setCell]; omega⟩⟩
    case done =>
      rintro D ys W hD rfl ⟨hb, hbx, hbel, hsz2⟩ hK
      rw [rankC_ups _ _ _ _ (Nat.le_refl _)] at hb
      have d0 := hb.cell
      have d1 := hb.frozen
      gi_wp2
      refine ⟨by simp, .inl ⟨_, _, rfl, run_takeDeferred hK, ?_⟩⟩
      exact ⟨_, results_tmp2 rfl _ _ _, by rw [HE.out]; rfl, hbel.trans (belowK_b (w := w) (Nat.le_refl _) W D _ _ (by omega) hK rfl rfl)⟩
    case stop =>
      rintro D c pre W hD ⟨k, hk, hpre⟩ ⟨rfl, ⟨pr, y, h1, h2, hb⟩, hbel, hsz2⟩ hK
      have hpk : pr = ups n k ∧ y = ⟨k, hk⟩ := by
        rw [hpre, ups_succ hk] at h1
        have h3 := List.append_inj' h1 rfl
        exact ⟨h3.1.symm, by simpa using h3.2.symm⟩
      obtain ⟨rfl, rfl⟩ := hpk
      rw [rankC_ups _ _ _ _ (by omega), ← rank_stop HST.out hk h2 n (by omega) (Nat.le_refl _)] at hb
      have d0 := hb.cell
      have d1 := hb.frozen
      clear h1
      gi_wp2
      refine ⟨by simp, .inl ⟨_, _, rfl, run_takeDeferred hK, ?_⟩⟩
      exact ⟨_, results_tmp2 rfl _ _ _, by rw [HE.out]; rfl, hbel.trans (belowK_b (w := w) (Nat.le_refl _) W D _ _ (by omega) hK rfl rfl)⟩

theorem Rank_any (A : Option Addr) (n cap : Nat) (x : Int) (xs : List Sp) (w : World) (hx : SpansAt w.heap.size w A n xs) (hr : -9223372036854775808 ≤ x ∧ x ≤ 9223372036854775807) :
    Calls Try.prog 37 #[.slice A n cap, .int .i64 x] w fun e w' => e = .returned (rankV xs x) ∧ Below w.heap.size w w' :=
  callsIn_wide.1 (Rank_in A n cap x xs w hx hr)

end Go.Proofs.Ytikfiofjhmeheaa
