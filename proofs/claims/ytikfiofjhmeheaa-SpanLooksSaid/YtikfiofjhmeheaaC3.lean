/- Contracts of the plain Rank, Size and Nth. -/
import Derived.Test.YtikfiofjhmeheaaC2
namespace Go.Proofs.Ytikfiofjhmeheaa
open Go.RowKit Go.Sort

/-- how many numbers below x the first k spans have -/
def rankTo (xs : List Sp) (x : Int) : Nat → Int
  | 0 => 0
  | k + 1 => if loA xs k < x then rankTo xs x k + ((if x < hiA xs k then x else hiA xs k) - loA xs k) else rankTo xs x k
theorem befA_step {xs : List Sp} {n : Nat} (h : setTo xs n) : ∀ k, k ≤ n → ∀ j, j < k → befA xs (j + 1) ≤ befA xs k
  | 0, _, _, hj => by omega
  | k + 1, hk, j, hj => by
    have h1 := okB_true (h k (by omega)).1
    rcases Nat.lt_or_ge j k with h2 | h2
    · have := befA_step h k (by omega) j h2
      rw [befA_succ xs k]
      omega
    · obtain rfl : j = k := by omega
      exact Int.le_refl _
theorem set_lo {xs : List Sp} {n : Nat} (h : setTo xs n) : ∀ k, k < n → ∀ j, j < k → hiA xs j < loA xs k
  | 0, _, _, hj => by omega
  | k + 1, hk, j, hj => by
    have h1 := okB_true (h k (by omega)).1
    have h2 := (h (k + 1) hk).2 (by omega)
    rw [Nat.add_sub_cancel] at h2
    rcases Nat.lt_or_ge j k with h3 | h3
    · have := set_lo h k (by omega) j h3
      omega
    · obtain rfl : j = k := by omega
      exact h2
/-- where span k begins below x, all spans before it lie below x -/
theorem rank_full {xs : List Sp} {x : Int} {n : Nat} (h : setTo xs n) : ∀ k, k ≤ n → (∀ j, j < k → hiA xs j ≤ x) → rankTo xs x k = befA xs k
  | 0, _, _ => rfl
  | k + 1, hk, hx => by
    have h1 := okB_true (h k (by omega)).1
    have h2 := hx k (by omega)
    unfold rankTo
    rw [if_pos (by omega), if_neg (by omega), rank_full h k (by omega) (fun j hj => hx j (by omega)), befA_succ]
theorem rank_at {xs : List Sp} {x : Int} {n k : Nat} (h : setTo xs n) (hk : k < n) (hx : loA xs k < x) : rankTo xs x k = befA xs k :=
  rank_full h k (by omega) (fun j hj => by have := set_lo h k hk j hj; omega)
/-- from the first span that begins at x or behind it on, nothing more counts -/
theorem rank_stop {xs : List Sp} {x : Int} {n k : Nat} (h : setTo xs n) (hk : k < n) (hx : x ≤ loA xs k) : ∀ m, k ≤ m → m ≤ n → rankTo xs x m = rankTo xs x k
  | 0, h0, _ => by obtain rfl : k = 0 := by omega
                   rfl
  | m + 1, h0, hm => by
    rcases Nat.lt_or_ge k (m + 1) with h1 | h1
    · have h2 : x ≤ loA xs m := by
        rcases Nat.lt_or_ge k m with h3 | h3
        · have h4 := set_lo h m (by omega) k h3
          have := okB_true (h k hk).1
          omega
        · obtain rfl : k = m := by omega
          exact hx
      rw [rankTo, if_neg (by omega), rank_stop h hk hx m (by omega) (by omega)]
    · obtain rfl : k = m + 1 := by omega
      rfl
theorem rank_le {xs : List Sp} {x : Int} {n : Nat} (h : setTo xs n) (hn : n ≤ 128) : ∀ k, k ≤ n → 0 ≤ rankTo xs x k ∧ rankTo xs x k ≤ k * 2199023255552
  | 0, _ => ⟨Int.le_refl _, by simp [rankTo]⟩
  | k + 1, hk => by
    have h1 := okB_true (h k (by omega)).1
    have h2 := rank_le (x := x) h hn k (by omega)
    unfold rankTo
    split
    · split <;> omega
    · omega
def rankV (xs : List Sp) (x : Int) : Value := numV (if setB xs then rankTo xs x xs.length else 0) (if setB xs then 0 else 2)

/-- does span k hold the i-th number? -/
def hitN (xs : List Sp) (i : Int) (k : Nat) : Prop := befA xs k ≤ i ∧ i - befA xs k < hiA xs k - loA xs k
theorem hit_one {xs : List Sp} {i : Int} {n j k : Nat} (h : setTo xs n) (hj : j < n) (hk : k < n) (h1 : hitN xs i j) (h2 : hitN xs i k) : j = k := by
  have a := fun (h3 : j < k) => befA_step h k (by omega) j h3
  have b := fun (h3 : k < j) => befA_step h j (by omega) k h3
  rw [befA_succ] at a b
  obtain ⟨p1, p2⟩ := h1
  obtain ⟨q1, q2⟩ := h2
  rcases Nat.lt_trichotomy j k with h3 | h3 | h3
  · have := a h3; omega
  · exact h3
  · have := b h3; omega
open Classical in
noncomputable def nthV (xs : List Sp) (i : Int) : Value :=
  if setB xs then (if h : ∃ k, k < xs.length ∧ hitN xs i k then numV (loA xs h.choose + i - befA xs h.choose) 0 else numV 0 6) else numV 0 2
theorem nth_bad {xs : List Sp} {i : Int} (h : setB xs = false) : nthV xs i = numV 0 2 := by unfold nthV; rw [h]; simp
theorem nth_none {xs : List Sp} {i : Int} (h : setB xs = true) (hn : ∀ k, k < xs.length → ¬ hitN xs i k) : nthV xs i = numV 0 6 := by
  unfold nthV
  rw [if_pos h, dif_neg (by rintro ⟨k, hk, h1⟩; exact hn k hk h1)]
theorem nth_hit {xs : List Sp} {i : Int} {k : Nat} (h : setB xs = true) (hk : k < xs.length) (h1 : hitN xs i k) : nthV xs i = numV (loA xs k + i - befA xs k) 0 := by
  have he : ∃ k, k < xs.length ∧ hitN xs i k := ⟨k, hk, h1⟩
  unfold nthV
  rw [if_pos h, dif_pos he]
  rw [hit_one (setB_true h).2 he.choose_spec.1 hk he.choose_spec.2 h1]

set_option maxHeartbeats 1000000 in
set_option maxRecDepth 100000 in
theorem refRank_any (A : Option Addr) (n cap : Nat) (x : Int) (xs : List Sp) (w : World) (hx : SpansAt w.heap.size w A n xs) (hr : -9223372036854775808 ≤ x ∧ x ≤ 9223372036854775807) :
    Calls Try.prog 38 #[.slice A n cap, .int .i64 x] w fun e w' => e = .returned (rankV xs x) ∧ Below w.heap.size w w' := by
  have mixed := mixedOrders
  have HX := hide hx
  have HV := hide (refValid_any A n cap xs w hx)
  clear hx
  cases hv : setB xs
  · have HE : Hid (rankV xs x = numV 0 2) := by show rankV xs x = numV 0 2; unfold rankV; rw [hv]; rfl
    rw [hv] at HV
    clear hv
    go_enter Try.func38, Try.ntmps38
    go_wp2_with fail
    refine HV.out.mono ?_
    rintro e w2 ⟨rfl, hG⟩
    go_wp2
    go_ret2
    exact ⟨by rw [HE.out]; rfl, hG.below⟩
  · have HS := hide (setB_true hv)
    have HE : Hid (rankV xs x = numV (rankTo xs x n) 0) := by show rankV xs x = _; unfold rankV; rw [hv, HX.out.1]; rfl
    rw [hv] at HV
    clear hv
    go_enter Try.func38, Try.ntmps38
    go_wp2_with fail
    refine HV.out.mono ?_
    rintro e w2 ⟨rfl, hG⟩
    have HG := hide hG
    have HX2 := hide (HX.out.below hG.below)
    clear hG HV
    go_wp2
    go_loopw [6, 7] (fun vr vk wr => ∃ k : Nat, k ≤ n ∧ vk = .int .i64 k ∧ vr = .int .i64 (rankTo xs x k) ∧ Hid (∃ q, wr = w2.drewN q)) (fun _ vk _ => n - (intOf vk).toNat)
    case atStart => exact ⟨0, Nat.zero_le _, rfl, rfl, ⟨0, rfl⟩⟩
    case round =>
      obtain ⟨k, hk, rfl, rfl, HW⟩ := hrel
      have hn128 : n ≤ 128 := by have := HS.out.1; have := HX.out.1; omega
      by_cases hlt : k < n
      · obtain ⟨b, off, rfl, hb, c0, c1⟩ := HX2.out.at_ hlt
        have hst : setTo xs n := by rw [← HX.out.1]; exact HS.out.2
        obtain ⟨o1, o2, o3⟩ := okB_true (hst k hlt).1
        obtain ⟨r1, r2⟩ := rank_le (x := x) hst hn128 k hk
        have r3 : rankTo xs x k ≤ 281474976710656 := by omega
        have hlt' : (k : Int) < (n : Int) := by omega
        have E0 : ∀ nq, (wr.drewN nq).cell? ⟨b, off + k * 2, none⟩ = some (.int .i64 (loA xs k)) := fun nq => by obtain ⟨q, rfl⟩ := HW.out; exact c0
        have E1 : ∀ nq, (wr.drewN nq).cell? ⟨b, off + k * 2 + 1, none⟩ = some (.int .i64 (hiA xs k)) := fun nq => by obtain ⟨q, rfl⟩ := HW.out; exact c1
        have E00 : wr.cell? ⟨b, off + k * 2, none⟩ = some (.int .i64 (loA xs k)) := E0 0
        clear c0 c1 hst r2
        have HR : Hid (rankTo xs x (k + 1) = if loA xs k < x then rankTo xs x k + ((if x < hiA xs k then x else hiA xs k) - loA xs k) else rankTo xs x k) := rfl
        generalize rankTo xs x k = rk at HR r1 r3 ⊢
        by_cases h1 : loA xs k < x
        · have hd1 : decide (loA xs k < x) = true := decide_eq_true h1
          have HR2 : Hid (rankTo xs x (k + 1) = rk + ((if x < hiA xs k then x else hiA xs k) - loA xs k)) := by show rankTo xs x (k + 1) = _; rw [HR.out, if_pos h1]
          clear HR
          by_cases h2 : x < hiA xs k
          · have HR3 : Hid (rankTo xs x (k + 1) = rk + (x - loA xs k)) := by show rankTo xs x (k + 1) = _; rw [HR2.out, if_pos h2]
            have hm : (if x < hiA xs k then x else hiA xs k) = x := if_pos h2
            clear HR2
            go_wp2_with fail
            go_quiet (fail)
            go_wp2
            go_roundw
            case rel => exact ⟨k + 1, by omega, by go_num, by rw [HR3.out], by obtain ⟨q, rfl⟩ := HW.out; exact ⟨q + nq, World.drewN_drewN _ _ _⟩⟩
            case measure => simp [intOf]; omega
          · have HR3 : Hid (rankTo xs x (k + 1) = rk + (hiA xs k - loA xs k)) := by show rankTo xs x (k + 1) = _; rw [HR2.out, if_neg h2]
            have hm : (if x < hiA xs k then x else hiA xs k) = hiA xs k := if_neg h2
            clear HR2
            go_wp2_with fail
            go_quiet (fail)
            go_wp2
            go_roundw
            case rel => exact ⟨k + 1, by omega, by go_num, by rw [HR3.out], by obtain ⟨q, rfl⟩ := HW.out; exact ⟨q + nq, World.drewN_drewN _ _ _⟩⟩
            case measure => simp [intOf]; omega
        · have hd1 : decide (loA xs k < x) = false := decide_eq_false h1
          have HR2 : Hid (rankTo xs x (k + 1) = rk) := by show rankTo xs x (k + 1) = _; rw [HR.out, if_neg h1]
          clear HR
          go_wp2
          go_roundw
          case rel => exact ⟨k + 1, by omega, by go_num, by rw [HR2.out], HW⟩
          case measure => simp [intOf]; omega
      · obtain rfl : k = n := by omega
        go_wp2
        go_ret2
        refine ⟨by rw [HE.out]; rfl, ?_⟩
        obtain ⟨q, rfl⟩ := HW.out
        exact (HG.out.drewN q).below

end Go.Proofs.Ytikfiofjhmeheaa
