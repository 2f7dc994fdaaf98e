/- Contracts of the plain Rank, Size and Nth. -/
import Derived.Test.YtfahlgjolihmkaaDoorZ2
import Derived.Test.YtfahlgjolihmkaaDoorD2
namespace Go.Proofs.YtfahlgjolihmkaaDoor
open Go.RowKit Go.Sort

/-- how many numbers below x the first k spans have -/
def rankTo (xs : List Sp) (x : Int) : Nat → Int
  | 0 => 0
  | k + 1 => if loA xs k < x then rankTo xs x k + ((if x < hiA xs k then x else hiA xs k) - loA xs k) else rankTo xs x k
theorem befA_step {xs : List Sp} {n : Nat} (h : setTo xs n) : ∀ k, k ≤ n → ∀ j, j < k → befA xs (j + 1) ≤ befA xs k
  | 0, _, _, hj => by omega
  | k + 1, hk, j, hj => by
    have h1 := okB_true (h k (by omega)).1
    rcases Nat.lt_or_ge j k with h2 | h2
    · have := befA_step h k (by omega) j h2
      rw [befA_succ xs k]
      omega
    · obtain rfl : j = k := by omega
      exact Int.le_refl _
theorem set_lo {xs : List Sp} {n : Nat} (h : setTo xs n) : ∀ k, k < n → ∀ j, j < k → hiA xs j < loA xs k
  | 0, _, _, hj => by omega
  | k + 1, hk, j, hj => by
    have h1 := okB_true (h k (by omega)).1
    have h2 := (h (k + 1) hk).2 (by omega)
    rw [Nat.add_sub_cancel] at h2
    rcases Nat.lt_or_ge j k with h3 | h3
    · have := set_lo h k (by omega) j h3
      omega
    · obtain rfl : j = k := by omega
      exact h2
/-- where span k begins below x, all spans before it lie below x -/
theorem rank_full {xs : List Sp} {x : Int} {n : Nat} (h : setTo xs n) : ∀ k, k ≤ n → (∀ j, j < k → hiA xs j ≤ x) → rankTo xs x k = befA xs k
  | 0, _, _ => rfl
  | k + 1, hk, hx => by
    have h1 := okB_true (h k (by omega)).1
    have h2 := hx k (by omega)
    unfold rankTo
    rw [if_pos (by omega), if_neg (by omega), rank_full h k (by omega) (fun j hj => hx j (by omega)), befA_succ]
theorem rank_at {xs : List Sp} {x : Int} {n k : Nat} (h : setTo xs n) (hk : k < n) (hx : loA xs k < x) : rankTo xs x k = befA xs k :=
  rank_full h k (by omega) (fun j hj => by have := set_lo h k hk j hj; omega)
/-- from the first span that begins at x or behind it on, nothing more counts -/
theorem rank_stop {xs : List Sp} {x : Int} {n k : Nat} (h : setTo xs n) (hk : k < n) (hx : x ≤ loA xs k) : ∀ m, k ≤ m → m ≤ n → rankTo xs x m = rankTo xs x k
  | 0, h0, _ => by obtain rfl : k = 0 := by omega
                   rfl
  | m + 1, h0, hm => by
    rcases Nat.lt_or_ge k (m + 1) with h1 | h1
    · have h2 : x ≤ loA xs m := by
        rcases Nat.lt_or_ge k m with h3 | h3
        · have h4 := set_lo h m (by omega) k h3
          have := okB_true (h k hk).1
          omega
        · obtain rfl : k = m := by omega
          exact hx
      rw [rankTo, if_neg (by omega), rank_stop h hk hx m (by omega) (by omega)]
    · obtain rfl : k = m + 1 := by omega
      rfl
theorem rank_le {xs : List Sp} {x : Int} {n : Nat} (h : setTo xs n) (hn : n ≤ 128) : ∀ k, k ≤ n → 0 ≤ rankTo xs x k ∧ rankTo xs x k ≤ k * 2199023255552
  | 0, _ => ⟨Int.le_refl _, by simp [rankTo]⟩
  | k + 1, hk => by
    have h1 := okB_true (h k (by omega)).1
    have h2 := rank_le (x := x) h hn k (by omega)
    unfold rankTo
    split
    · split <;> omega
    · omega
def rankV (xs : List Sp) (x : Int) : Value := numV (if setB xs then rankTo xs x xs.length else 0) (if setB xs then 0 else 2)

/-- does span k hold the i-th number? -/
def hitN (xs : List Sp) (i : Int) (k : Nat) : Prop := befA xs k ≤ i ∧ i - befA xs k < hiA xs k - loA xs k
theorem hit_one {xs : List Sp} {i : Int} {n j k : Nat} (h : setTo xs n) (hj : j < n) (hk : k < n) (h1 : hitN xs i j) (h2 : hitN xs i k) : j = k := by
  have a := fun (h3 : j < k) => befA_step h k (by omega) j h3
  have b := fun (h3 : k < j) => befA_step h j (by omega) k h3
  rw [befA_succ] at a b
  obtain ⟨p1, p2⟩ := h1
  obtain ⟨q1, q2⟩ := h2
  rcases Nat.lt_trichotomy j k with h3 | h3 | h3
  · have := a h3; omega
  · exact h3
  · have := b h3; omega
open Classical in
noncomputable def nthV (xs : List Sp) (i : Int) : Value :=
  if setB xs then (if h : ∃ k, k < xs.length ∧ hitN xs i k then numV (loA xs h.choose + i - befA xs h.choose) 0 else numV 0 6) else numV 0 2
theorem nth_bad {xs : List Sp} {i : Int} (h : setB xs = false) : nthV xs i = numV 0 2 := by unfold nthV; rw [h]; simp
theorem nth_none {xs : List Sp} {i : Int} (h : setB xs = true) (hn : ∀ k, k < xs.length → ¬ hitN xs i k) : nthV xs i = numV 0 6 := by
  unfold nthV
  rw [if_pos h, dif_neg (by rintro ⟨k, hk, h1⟩; exact hn k hk h1)]
theorem nth_hit {xs : List Sp} {i : Int} {k : Nat} (h : setB xs = true) (hk : k < xs.length) (h1 : hitN xs i k) : nthV xs i = numV (loA xs k + i - befA xs k) 0 := by
  have he : ∃ k, k < xs.length ∧ hitN xs i k := ⟨k, hk, h1⟩
  unfold nthV
  rw [if_pos h, dif_pos he]
  rw [hit_one (setB_true h).2 he.choose_spec.1 hk he.choose_spec.2 h1]

end Go.Proofs.YtfahlgjolihmkaaDoor
/- Contracts of the plain Size and Nth. -/
namespace Go.Proofs.YtfahlgjolihmkaaDoor
open Go.RowKit Go.Sort

def sizeV (xs : List Sp) : Value := numV (if setB xs then befA xs xs.length else 0) (if setB xs then 0 else 2)
theorem rank_size (xs : List Sp) : rankV xs 1099511627776 = sizeV xs := by
  unfold rankV sizeV
  cases h : setB xs
  · rfl
  · have hs := (setB_true h).2
    rw [if_pos rfl, if_pos rfl, rank_full hs xs.length (Nat.le_refl _) (fun j hj => (okB_true (hs j hj).1).2.2)]
    rfl

end Go.Proofs.YtfahlgjolihmkaaDoor
/- Contract of Rank: how many numbers of a set are less. -/
namespace Go.Proofs.YtfahlgjolihmkaaDoor
open Go.RowKit Go.Sort
attribute [local go_sem] Oper.semAt_some

def rankC (xs : List Sp) (x : Int) {n : Nat} (pre : List (Fin n)) : Int := match pre.getLast? with
  | none => 0
  | some i => rankTo xs x (i.1 + 1)
theorem rankC_snoc (xs : List Sp) (x : Int) {n : Nat} (pre : List (Fin n)) (i : Fin n) : rankC xs x (pre ++ [i]) = rankTo xs x (i.1 + 1) := by
  simp [rankC]
theorem rankC_ups (xs : List Sp) (x : Int) (n k : Nat) (h : k ≤ n) : rankC xs x (ups n k) = rankTo xs x k := by
  cases k with
  | zero => simp [ups_zero, rankC, rankTo]
  | succ k => rw [ups_succ (by omega), rankC_snoc]
theorem rank_next {xs : List Sp} {x : Int} {n k : Nat} (h : setTo xs n) (hk : k < n) (hx : loA xs k < x) : rankTo xs x (k + 1) = befA xs k + (if hiA xs k < x then hiA xs k else x) - loA xs k := by
  rw [rankTo, if_pos hx, rank_at h hk hx]
  split <;> split <;> omega

set_option maxRecDepth 100000 in
set_option maxHeartbeats 4000000 in
theorem Rank_in (A : Option Addr) (n cap : Nat) (x : Int) (xs : List Sp) (w : World) (hx : SpansAt w.heap.size w A n xs) (hr : -9223372036854775808 ≤ x ∧ x ≤ 9223372036854775807) :
    CallsIn Fence.wide 10 Tryd.prog 16 #[.slice A n cap, .int .i64 x] w fun e w' => e = .returned (rankV xs x) ∧ Below w.heap.size w w' := by
  obtain ⟨w1, hw1⟩ : ∃ w1, w.alloc (.cells #[.int .i64 x] 3) = w1 := ⟨_, rfl⟩
  have bX : Boxed w1 w.heap.size 3 (.int .i64 x) := by rw [← hw1]; exact Boxed.new w 3 _
  have hg1 : Gr w w1 := by rw [← hw1]; exact (Gr.refl w).alloc _
  have hs1 : w1.heap.size = w.heap.size + 1 := by rw [← hw1]; simp
  have HX := hide hx
  have HV := hide (callsIn_wide (n := 9).2 (Valid_any A n cap xs w1 (hx.gr hg1)))
  clear hx
  refine callsIn_of_wp_marks Tryd.func16 rfl trivial ?_ rfl
  simp only [Tryd.ntmps16, List.size_toArray, List.length_cons, List.length_nil, Nat.reduceAdd, Nat.reduceSub, Array.replicate_succ, Array.replicate_zero, List.push_toArray, List.append_toArray, List.nil_append, List.cons_append]
  cases hv : setB xs
  · have HE : Hid (rankV xs x = numV 0 2) := by show rankV xs x = numV 0 2; unfold rankV; rw [hv]; rfl
    gi_wp2_with (refine ⟨trivial, ?_⟩; gi_at_call 22; refine HV.out.mono ?_; rintro e w2 ⟨rfl, hG⟩)
    exact ⟨_, results_tmp2 rfl _ _ _, by rw [HE.out]; rfl, (hg1.trans hG).below⟩
  · have HS := hide (setB_true hv)
    have HE : Hid (rankV xs x = numV (rankTo xs x n) 0) := by show rankV xs x = _; unfold rankV; rw [hv, HX.out.1]; rfl
    gi_wp2_with (refine ⟨trivial, ?_⟩; first | (gi_at_call 22; refine HV.out.mono ?_; rintro e w2 ⟨rfl, hG⟩) | (gi_at_call 33; refine (callsIn_wide (n := 9).2 (counted_any A n cap _)).mono ?_; rintro e w3 ⟨rfl, rfl⟩))
    have bX2 := boxed_gr bX hG
    have bX3 := (bX2.alloc (.cells #[.int .i64 0] 3)).alloc (.cells #[.slice A n cap] 22)
    have bN := Boxed.new w2 3 (.int .i64 0)
    have bA := Boxed.new (w2.alloc (.cells #[.int .i64 0] 3)) 22 (.slice A n cap)
    have bN2 := bN.alloc (.cells #[.slice A n cap] 22)
    rw [World.size_alloc] at bA
    have hG0 := ((hg1.trans hG).alloc (.cells #[.int .i64 0] 3)).alloc (.cells #[.slice A n cap] 22)
    have hsz : ((w2.alloc (.cells #[.int .i64 0] 3)).alloc (.cells #[.slice A n cap] 22)).heap.size = w2.heap.size + 2 := by simp
    have hle : w.heap.size + 1 ≤ w2.heap.size := by have := hG.size; omega
    obtain ⟨W0, hW0⟩ : ∃ W0, (w2.alloc (.cells #[.int .i64 0] 3)).alloc (.cells #[.slice A n cap] 22) = W0 := ⟨_, rfl⟩
    rw [hW0] at bA bN2 hG0 hsz bX3 ⊢
    clear hW0 bN hG bX bX2 hw1
    have hnr : ∀ g, ¬ RowOf [w2.heap.size] W0 g := by
      rintro g ⟨b, hb, v, hc, ho⟩
      obtain rfl : b = w2.heap.size := by simpa using hb
      rw [bN2.cell] at hc
      injection hc with hc
      subst hc
      cases ho
    have hst : setTo xs n := by rw [← HX.out.1]; exact HS.out.2
    have hn128 : n ≤ 128 := by have := HS.out.1; have := HX.out.1; omega
    have HST := hide hst
    clear hst
    refine wpIn_rangeFunc_ownH rfl (by omega) (gf := 49) (lb := #[.pointer (some ⟨w2.heap.size + 1, 0, none⟩)]) rfl trivial (enters_of Tryd.func49 (by kernel_rfl) rfl)
      (counted_stops 9 (by omega) (w2.heap.size + 1) [w2.heap.size] A n cap xs HST.out hn128 W0 (by simp; omega) (fun g h => absurd h (hnr g)) bA.cell (by omega) w.heap.size (by omega)
        (HX.out.below hG0.below) (fun k hk => ⟨by simp; omega, hnr k⟩)) (Kept.hKt _) (Kept.hKb (by simp; omega)) (Below.refl _ _) (fun _ => rfl)
      (fun pre W => Boxed W w2.heap.size 3 (.int .i64 (rankC xs x pre)) ∧ Boxed W w.heap.size 3 (.int .i64 x) ∧ Below w.heap.size w W ∧ W0.heap.size ≤ W.heap.size)
      (fun c pre W => c = .exit 0 ∧ (∃ pr y, pre = pr ++ [y] ∧ x ≤ loA xs y.1 ∧ Boxed W w2.heap.size 3 (.int .i64 (rankC xs x pr))) ∧ Below w.heap.size w W ∧ W0.heap.size ≤ W.heap.size)
      (OwnFrom.and (Own.from (boxed_own _ _ _) _) (OwnFrom.and (Own.from (boxed_own _ _ _) _) (OwnFrom.and (ownFrom_below (Nat.le_refl _) (by omega)) (ownFrom_size _ _))))
      ?hIx
      ⟨bN2, bX3, hG0.below, Nat.le_refl _⟩
      (fun y a' W => ∃ Bx, W0.heap.size ≤ Bx ∧ W.heap[Bx]? = some (.cells #[.int .i64 (loA xs y.1), .int .i64 (hiA xs y.1)] 41 (0, 0)) ∧
        a' = { tmps := #[.slice A n cap, .int .i64 x, undef, .pointer (some ⟨w.heap.size, 0, none⟩), .int .i64 0, .int .i64 0, .pointer (some ⟨w2.heap.size, 0, none⟩), .int .i64 (befA xs y.1), .pointer (some ⟨Bx, 0, none⟩), .slice A n cap, .bool true, .bool false, .slice A n cap, .func (.func 49) #[] #[.pointer (some ⟨w2.heap.size + 1, 0, none⟩)], .int .i64 (befA xs y.1), .agg #[.int .i64 (loA xs y.1), .int .i64 (hiA xs y.1)], undef, undef, undef, undef, undef, undef, undef, undef, undef, undef, undef, undef, undef, undef], defers := [] })
      (fun y a' s W W' row hs hg hr => by
        obtain ⟨Bx, h1, h2, h3⟩ := hs
        exact ⟨Bx, h1, cells_own h2 rfl hg hr, h3⟩)
      ?assign ?body ?done ?stop
    case hIx =>
      intro c pre W W' row hs hg hrow
      obtain ⟨h0, ⟨pr, y, h1, h2, h3⟩, h4, h5⟩ := hs
      exact ⟨h0, ⟨pr, y, h1, h2, cells_own h3 rfl hg hrow⟩, (ownFrom_below (β := Unit) (Nat.le_refl _) (by omega)) () W W' row h4 hg hrow, Nat.le_trans h5 hg.size⟩
    case assign =>
      rintro l pre y W K ⟨hb, hbx, hbel, hsz2⟩ hK
      dsimp only [encC]
      gi_wp2
      have hbl := hb.lt
      exact hK _ _ ((KeepsOthers.alloc _ _).from _) ((Kept.refl _ W).alloc (by simp; omega) _) ⟨hb.alloc _, hbx.alloc _, hbel.alloc (by have := hbel.size; omega) _, by simp; omega⟩ ⟨W.heap.size, hsz2, World.alloc_heap_new W _, rfl⟩
    case body =>
      rintro l pre y a' W hl ⟨r, hr⟩ ⟨hb, hbx, hbel, hsz2⟩ ⟨Bx, hBx, hbxx, rfl⟩ hlt
      have c0 := cell_of_heap hbxx 0
      have c1 := cell_of_heap hbxx 1
      have d0 := hb.cell
      have d1 := hb.frozen
      have e0 := hbx.cell
      simp at c0 c1
      have hyn : y.1 < n := y.2
      obtain ⟨o1, o2, o3⟩ := okB_true (HST.out y.1 hyn).1
      obtain ⟨q1, q2⟩ := befA_le HST.out hn128 y.1 (by omega)
      have q3 : befA xs y.1 ≤ 281474976710656 := by omega
      clear q2
      by_cases h1 : x ≤ loA xs y.1
      · have hd1 : decide (x ≤ loA xs y.1) = true := decide_eq_true h1
        gi_wp2
        exact ⟨KeepsFrom.refl _ _, rfl, ⟨pre, y, rfl, h1, hb⟩, hbel, hsz2⟩
      · have hd1 : decide (x ≤ loA xs y.1) = false := decide_eq_false h1
        have HN := hide (rank_next HST.out hyn (show loA xs y.1 < x by omega))
        by_cases h2 : hiA xs y.1 < x
        · have hm : (if hiA xs y.1 < x then hiA xs y.1 else x) = hiA xs y.1 := if_pos h2
          have HN2 : Hid (rankTo xs x (y.1 + 1) = befA xs y.1 + hiA xs y.1 - loA xs y.1) := by show _ = _; rw [HN.out, hm]
          clear HN
          gi_wp2
          exact ⟨(KeepsOthers.setCell _ _ _).from _, Kept.setBox _ _ _ _ (by simp) rfl, ⟨by rw [rankC_snoc, HN2.out]; exact hb.set _, hbx.other (by omega) _, hbel.setCell (by simp; omega) _, by simp [World.setCell]; omega⟩⟩
        · have hm : (if hiA xs y.1 < x then hiA xs y.1 else x) = x := if_neg h2
          have HN2 : Hid (rankTo xs x (y.1 + 1) = befA xs y.1 + x - loA xs y.1) := by show _ = _; rw [HN.out, hm]
          clear HN
          gi_wp2
          exact ⟨(KeepsOthers.setCell _ _ _).from _, Kept.setBox _ _ _ _ (by simp) rfl, ⟨by rw [rankC_snoc, HN2.out]; exact hb.set _, hbx.other (by omega) _, hbel.setCell (by simp; omega) _, by simp [World.setCell]; omega⟩⟩
    case done =>
      rintro D ys W hD rfl ⟨hb, hbx, hbel, hsz2⟩ hK
      rw [rankC_ups _ _ _ _ (Nat.le_refl _)] at hb
      have d0 := hb.cell
      have d1 := hb.frozen
      gi_wp2
      refine ⟨by simp, .inl ⟨_, _, rfl, run_takeDeferred hK, ?_⟩⟩
      exact ⟨_, results_tmp2 rfl _ _ _, by rw [HE.out]; rfl, hbel.trans (belowK_b (w := w) (Nat.le_refl _) W D _ _ (by omega) hK rfl rfl)⟩
    case stop =>
      rintro D c pre W hD ⟨k, hk, hpre⟩ ⟨rfl, ⟨pr, y, h1, h2, hb⟩, hbel, hsz2⟩ hK
      have hpk : pr = ups n k ∧ y = ⟨k, hk⟩ := by
        rw [hpre, ups_succ hk] at h1
        have h3 := List.append_inj' h1 rfl
        exact ⟨h3.1.symm, by simpa using h3.2.symm⟩
      obtain ⟨rfl, rfl⟩ := hpk
      rw [rankC_ups _ _ _ _ (by omega), ← rank_stop HST.out hk h2 n (by omega) (Nat.le_refl _)] at hb
      have d0 := hb.cell
      have d1 := hb.frozen
      clear h1
      gi_wp2
      refine ⟨by simp, .inl ⟨_, _, rfl, run_takeDeferred hK, ?_⟩⟩
      exact ⟨_, results_tmp2 rfl _ _ _, by rw [HE.out]; rfl, hbel.trans (belowK_b (w := w) (Nat.le_refl _) W D _ _ (by omega) hK rfl rfl)⟩

theorem Rank_any (A : Option Addr) (n cap : Nat) (x : Int) (xs : List Sp) (w : World) (hx : SpansAt w.heap.size w A n xs) (hr : -9223372036854775808 ≤ x ∧ x ≤ 9223372036854775807) :
    Calls Tryd.prog 16 #[.slice A n cap, .int .i64 x] w fun e w' => e = .returned (rankV xs x) ∧ Below w.heap.size w w' :=
  callsIn_wide.1 (Rank_in A n cap x xs w hx hr)

end Go.Proofs.YtfahlgjolihmkaaDoor
/- Contract of Nth: the number of a set with exactly i smaller ones. -/
namespace Go.Proofs.YtfahlgjolihmkaaDoor
open Go.RowKit Go.Sort
attribute [local go_sem] Oper.semAt_some

theorem results35 (W : World) (x0 x1 x2 x3 : Value) (rest : List Value) (p q : Nat) (v u : Value) (h4 : W.cell? ⟨p, 0, none⟩ = some v) (h5 : W.cell? ⟨q, 0, none⟩ = some u) :
    (results Tryd.f17 (x0 :: x1 :: x2 :: x3 :: .pointer (some ⟨p, 0, none⟩) :: .pointer (some ⟨q, 0, none⟩) :: rest).toArray).run Tryd.prog W = .ok (.tuple #[v, u]) W := by
  simp [results, Tryd.results17, go_sem, h4, h5]
/-- two stores into two boxes -/
theorem two_set {W : World} {a b : Nat} {va vb : Value} {ta tb : TypeId} (ha : Boxed W a ta va) (hb : Boxed W b tb vb) (hne : a ≠ b) (u v : Value) :
    Boxed ((W.setCell ⟨a, 0, none⟩ u).setCell ⟨b, 0, none⟩ v) a ta u ∧ Boxed ((W.setCell ⟨a, 0, none⟩ u).setCell ⟨b, 0, none⟩ v) b tb v :=
  ⟨(ha.set u).other hne v, (hb.other (Ne.symm hne) u).set v⟩

set_option maxRecDepth 100000 in
set_option maxHeartbeats 4000000 in
theorem Nth_in (A : Option Addr) (n cap : Nat) (i : Int) (xs : List Sp) (w : World) (hx : SpansAt w.heap.size w A n xs) (hr : -9223372036854775808 ≤ i ∧ i ≤ 9223372036854775807) :
    CallsIn Fence.wide 10 Tryd.prog 17 #[.slice A n cap, .int .i64 i] w fun e w' => e = .returned (nthV xs i) ∧ Below w.heap.size w w' := by
  have HX := hide hx
  clear hx
  refine callsIn_of_wp_marks Tryd.func17 rfl trivial ?_ rfl
  simp only [Tryd.ntmps17, List.size_toArray, List.length_cons, List.length_nil, Nat.reduceAdd, Nat.reduceSub, Array.replicate_succ, Array.replicate_zero, List.push_toArray, List.append_toArray, List.nil_append, List.cons_append]
  gi_wp2_with fail
  have hg1 := (((Gr.refl w).alloc (.cells #[.int .i64 i] 3)).alloc (.cells #[.int .i64 0] 3)).alloc (.cells #[.int .i64 0] 25)
  obtain ⟨w1, hw1⟩ : ∃ w1, ((w.alloc (.cells #[.int .i64 i] 3)).alloc (.cells #[.int .i64 0] 3)).alloc (.cells #[.int .i64 0] 25) = w1 := ⟨_, rfl⟩
  have bX : Boxed w1 w.heap.size 3 (.int .i64 i) := by rw [← hw1]; exact heap_old _ (heap_old _ (heap_new _ rfl))
  have b4 : Boxed w1 (w.heap.size + 1) 3 (.int .i64 0) := by rw [← hw1]; exact heap_old _ (heap_new _ (size_alloc' _ rfl))
  have b5 : Boxed w1 (w.heap.size + 1 + 1) 25 (.int .i64 0) := by rw [← hw1]; exact heap_new _ (size_alloc' _ (size_alloc' _ rfl))
  have hs1 : w1.heap.size = w.heap.size + 3 := by rw [← hw1]; simp
  rw [hw1] at hg1 ⊢
  clear hw1
  have HV := hide (callsIn_wide (n := 9).2 (Valid_any A n cap xs w1 (HX.out.gr hg1)))
  cases hv : setB xs
  · have HE : Hid (nthV xs i = numV 0 2) := nth_bad hv
    refine ⟨trivial, HV.out.mono ?_⟩
    rintro e w2 ⟨rfl, hG⟩
    rw [hv]
    have c4 := (boxed_gr b4 hG).cell
    have c5 := (boxed_gr b5 hG).cell
    have f4 := (boxed_gr b4 hG).frozen
    have f5 := (boxed_gr b5 hG).frozen
    have h2 := two_set (boxed_gr b4 hG) (boxed_gr b5 hG) (by omega) (.int .i64 0) (.int .i64 2)
    have HB := hide (hg1.trans hG).below
    clear hg1 hG bX b4 b5 HV
    gi_wp2
    exact ⟨_, results35 _ _ _ _ _ _ _ _ _ _ h2.1.cell h2.2.cell, by rw [HE.out]; rfl, (HB.out.setCell (by dsimp only; omega) _).setCell (by dsimp only; omega) _⟩
  · have HS := hide (setB_true hv)
    have HSB := hide hv
    refine ⟨trivial, HV.out.mono ?_⟩
    rintro e w2 ⟨rfl, hG⟩
    rw [hv]
    have hle : w.heap.size + 3 ≤ w2.heap.size := by have := hG.size; omega
    have bA := Boxed.new w2 22 (.slice A n cap)
    have bX0 := (boxed_gr bX hG).alloc (.cells #[.slice A n cap] 22)
    have b40 := (boxed_gr b4 hG).alloc (.cells #[.slice A n cap] 22)
    have b50 := (boxed_gr b5 hG).alloc (.cells #[.slice A n cap] 22)
    have hG0 := (hg1.trans hG).alloc (.cells #[.slice A n cap] 22)
    clear hg1 hG bX b4 b5 HV hv
    gi_wp2_with (refine ⟨trivial, ?_⟩; gi_at_call 33; refine (callsIn_wide (n := 9).2 (counted_any A n cap _)).mono ?_; rintro e w3 ⟨rfl, rfl⟩)
    have hsz : (w2.alloc (.cells #[.slice A n cap] 22)).heap.size = w2.heap.size + 1 := by simp
    obtain ⟨W0, hW0⟩ : ∃ W0, w2.alloc (.cells #[.slice A n cap] 22) = W0 := ⟨_, rfl⟩
    rw [hW0] at bA hG0 hsz bX0 b40 b50 ⊢
    clear hW0
    have hnr : ∀ g, ¬ RowOf [] W0 g := by
      rintro g ⟨b, hb, _⟩
      cases hb
    have hst : setTo xs n := by rw [← HX.out.1]; exact HS.out.2
    have hn128 : n ≤ 128 := by have := HS.out.1; have := HX.out.1; omega
    have HST := hide hst
    clear hst
    refine wpIn_rangeFunc_ownH rfl (by omega) (gf := 49) (lb := #[.pointer (some ⟨w2.heap.size, 0, none⟩)]) rfl trivial (enters_of Tryd.func49 (by kernel_rfl) rfl)
      (counted_stops 9 (by omega) w2.heap.size [] A n cap xs HST.out hn128 W0 (by simp) (fun g h => absurd h (hnr g)) bA.cell (by omega) w.heap.size (by omega)
        (HX.out.below hG0.below) (fun k hk => ⟨by simp, hnr k⟩)) (Kept.hKt _) (Kept.hKb (by simp)) (Below.refl _ _) (fun _ => rfl)
      (fun pre W => Boxed W w.heap.size 3 (.int .i64 i) ∧ Boxed W (w.heap.size + 1) 3 (.int .i64 0) ∧ Boxed W (w.heap.size + 1 + 1) 25 (.int .i64 0) ∧ (∀ y, y ∈ pre → ¬ hitN xs i y.1) ∧ Below w.heap.size w W ∧ W0.heap.size ≤ W.heap.size)
      (fun c _ W => c = .ret ∧ (∃ y, y < n ∧ hitN xs i y ∧ Boxed W (w.heap.size + 1) 3 (.int .i64 (loA xs y + i - befA xs y)) ∧ Boxed W (w.heap.size + 1 + 1) 25 (.int .i64 0)) ∧ Below w.heap.size w W ∧ W0.heap.size ≤ W.heap.size)
      ?hI ?hIx
      ⟨bX0, b40, b50, fun y hy => by (cases hy), hG0.below, Nat.le_refl _⟩
      (fun y a' W => ∃ Bx, W0.heap.size ≤ Bx ∧ W.heap[Bx]? = some (.cells #[.int .i64 (loA xs y.1), .int .i64 (hiA xs y.1)] 41 (0, 0)) ∧
        a' = { tmps := #[.slice A n cap, .int .i64 i, undef, .pointer (some ⟨w.heap.size, 0, none⟩), .pointer (some ⟨w.heap.size + 1, 0, none⟩), .pointer (some ⟨w.heap.size + 1 + 1, 0, none⟩), .int .i64 (befA xs y.1), .pointer (some ⟨Bx, 0, none⟩), .slice A n cap, .bool true, .bool false, .slice A n cap, .func (.func 49) #[] #[.pointer (some ⟨w2.heap.size, 0, none⟩)], .int .i64 (befA xs y.1), .agg #[.int .i64 (loA xs y.1), .int .i64 (hiA xs y.1)], undef, undef, undef, undef, undef, undef, undef, undef, undef, undef, undef, undef, undef, undef, undef, undef, undef, undef, undef, undef], defers := [] })
      (fun y a' s W W' row hs hg hr => by
        obtain ⟨Bx, h1, h2, h3⟩ := hs
        exact ⟨Bx, h1, cells_own h2 rfl hg hr, h3⟩)
      ?assign ?body ?done ?stop
    case hI =>
      intro pre W W' row hs hg hrow
      obtain ⟨h1, h2, h3, h4, h5, h6⟩ := hs
      exact ⟨cells_own h1 rfl hg hrow, cells_own h2 rfl hg hrow, cells_own h3 rfl hg hrow, h4, (ownFrom_below (β := Unit) (Nat.le_refl _) (by omega)) () W W' row h5 hg hrow, Nat.le_trans h6 hg.size⟩
    case hIx =>
      intro c pre W W' row hs hg hrow
      obtain ⟨h0, ⟨y, h1, h2, h3, h3'⟩, h4, h5⟩ := hs
      exact ⟨h0, ⟨y, h1, h2, cells_own h3 rfl hg hrow, cells_own h3' rfl hg hrow⟩, (ownFrom_below (β := Unit) (Nat.le_refl _) (by omega)) () W W' row h4 hg hrow, Nat.le_trans h5 hg.size⟩
    case assign =>
      rintro l pre y W K ⟨hbx, hb4, hb5, hno, hbel, hsz2⟩ hK
      dsimp only [encC]
      gi_wp2
      exact hK _ _ ((KeepsOthers.alloc _ _).from _) ((Kept.refl _ W).alloc (by simp) _) ⟨hbx.alloc _, hb4.alloc _, hb5.alloc _, hno, hbel.alloc (by have := hbel.size; omega) _, by simp; omega⟩ ⟨W.heap.size, hsz2, World.alloc_heap_new W _, rfl⟩
    case body =>
      rintro l pre y a' W hl ⟨r, hr⟩ ⟨hbx, hb4, hb5, hno, hbel, hsz2⟩ ⟨Bx, hBx, hbxx, rfl⟩ hlt
      have c0 := cell_of_heap hbxx 0
      have c1 := cell_of_heap hbxx 1
      have e0 := hbx.cell
      simp at c0 c1
      have hyn : y.1 < n := y.2
      obtain ⟨o1, o2, o3⟩ := okB_true (HST.out y.1 hyn).1
      obtain ⟨q1, q2⟩ := befA_le HST.out hn128 y.1 (by omega)
      have q3 : befA xs y.1 ≤ 281474976710656 := by omega
      clear q2
      by_cases h1 : befA xs y.1 ≤ i
      · have hd1 : decide (befA xs y.1 ≤ i) = true := decide_eq_true h1
        by_cases h2 : i - befA xs y.1 < hiA xs y.1 - loA xs y.1
        · have hd2 : decide (i - befA xs y.1 < hiA xs y.1 - loA xs y.1) = true := decide_eq_true h2
          have c4 := hb4.cell
          have c5 := hb5.cell
          have f4 := hb4.frozen
          have f5 := hb5.frozen
          have h3 := two_set hb4 hb5 (by omega) (.int .i64 (loA xs y.1 + i - befA xs y.1)) (.int .i64 0)
          have H3 := hide h3
          have HB := hide hbel
          clear h3 hbel
          gi_wp2
          exact ⟨((KeepsOthers.setCell _ _ _).trans (KeepsOthers.setCell _ _ _)).from _, rfl, ⟨y.1, hyn, ⟨h1, h2⟩, H3.out.1, H3.out.2⟩, (HB.out.setCell (by dsimp only; omega) _).setCell (by dsimp only; omega) _, by simp [World.setCell]; omega⟩
        · have hd2 : decide (i - befA xs y.1 < hiA xs y.1 - loA xs y.1) = false := decide_eq_false h2
          gi_wp2
          exact ⟨KeepsFrom.refl _ _, Kept.refl _ _, hbx, hb4, hb5, fun z hz => by
            rw [List.mem_append] at hz
            rcases hz with hz | hz
            · exact hno z hz
            · obtain rfl : z = y := by simpa using hz
              exact fun h => by have := h.2; omega, hbel, by omega⟩
      · have hd1 : decide (befA xs y.1 ≤ i) = false := decide_eq_false h1
        gi_wp2
        exact ⟨KeepsFrom.refl _ _, Kept.refl _ _, hbx, hb4, hb5, fun z hz => by
          rw [List.mem_append] at hz
          rcases hz with hz | hz
          · exact hno z hz
          · obtain rfl : z = y := by simpa using hz
            exact fun h => by have := h.1; omega, hbel, by omega⟩
    case done =>
      rintro D ys W hD rfl ⟨hbx, hb4, hb5, hno, hbel, hsz2⟩ hK
      have HE : Hid (nthV xs i = numV 0 6) := nth_none HSB.out (fun k hk => hno ⟨k, by rw [HX.out.1] at hk; exact hk⟩ (by rw [ups_all]; simp))
      have c4 := hb4.cell
      have c5 := hb5.cell
      have f4 := hb4.frozen
      have f5 := hb5.frozen
      have h3 := two_set hb4 hb5 (by omega) (.int .i64 0) (.int .i64 6)
      have HK : Hid (((W.setCell ⟨w.heap.size + 1, 0, none⟩ (.int .i64 0)).setCell ⟨w.heap.size + 1 + 1, 0, none⟩ (.int .i64 6)).heap[D]? = some (.deferred (some []))) :=
        (Below.heap_setCell _ _ _ _ (by dsimp only; omega)).trans ((Below.heap_setCell _ _ _ _ (by dsimp only; omega)).trans hK)
      have H3 := hide h3
      have HB := hide hbel
      clear h3 hbel hK
      gi_wp2
      refine ⟨by simp, .inl ⟨_, _, rfl, run_takeDeferred HK.out, ?_⟩⟩
      have k4 := boxed_put H3.out.1 (.deferred none) HK.out rfl
      have k5 := boxed_put H3.out.2 (.deferred none) HK.out rfl
      exact ⟨_, results35 _ _ _ _ _ _ _ _ _ _ k4.cell k5.cell, by rw [HE.out]; rfl, ((HB.out.setCell (by dsimp only; omega) _).setCell (by dsimp only; omega) _).trans (belowK_b (w := w) (Nat.le_refl _) _ D _ _ (by omega) HK.out rfl rfl)⟩
    case stop =>
      rintro D c pre W hD _ ⟨rfl, ⟨y, hy, hh, hb4, hb5⟩, hbel, hsz2⟩ hK
      have HE : Hid (nthV xs i = numV (loA xs y + i - befA xs y) 0) := nth_hit HSB.out (by rw [HX.out.1]; exact hy) hh
      gi_wp2
      refine ⟨by simp, .inl ⟨_, _, rfl, run_takeDeferred hK, ?_⟩⟩
      have k4 := boxed_put hb4 (.deferred none) hK rfl
      have k5 := boxed_put hb5 (.deferred none) hK rfl
      exact ⟨_, results35 _ _ _ _ _ _ _ _ _ _ k4.cell k5.cell, by rw [HE.out]; rfl, hbel.trans (belowK_b (w := w) (Nat.le_refl _) W D _ _ (by omega) hK rfl rfl)⟩

theorem Nth_any (A : Option Addr) (n cap : Nat) (i : Int) (xs : List Sp) (w : World) (hx : SpansAt w.heap.size w A n xs) (hr : -9223372036854775808 ≤ i ∧ i ≤ 9223372036854775807) :
    Calls Tryd.prog 17 #[.slice A n cap, .int .i64 i] w fun e w' => e = .returned (nthV xs i) ∧ Below w.heap.size w w' :=
  callsIn_wide.1 (Nth_in A n cap i xs w hx hr)

end Go.Proofs.YtfahlgjolihmkaaDoor
