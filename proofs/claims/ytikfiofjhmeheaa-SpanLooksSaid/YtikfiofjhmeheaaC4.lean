/- Contracts of the plain Size and Nth. -/
import Derived.Test.YtikfiofjhmeheaaC3
namespace Go.Proofs.Ytikfiofjhmeheaa
open Go.RowKit Go.Sort

def sizeV (xs : List Sp) : Value := numV (if setB xs then befA xs xs.length else 0) (if setB xs then 0 else 2)
theorem rank_size (xs : List Sp) : rankV xs 1099511627776 = sizeV xs := by
  unfold rankV sizeV
  cases h : setB xs
  · rfl
  · have hs := (setB_true h).2
    rw [if_pos rfl, if_pos rfl, rank_full hs xs.length (Nat.le_refl _) (fun j hj => (okB_true (hs j hj).1).2.2)]
    rfl

set_option maxHeartbeats 400000 in
theorem refSize_any (A : Option Addr) (n cap : Nat) (xs : List Sp) (w : World) (hx : SpansAt w.heap.size w A n xs) :
    Calls Try.prog 34 #[.slice A n cap] w fun e w' => e = .returned (sizeV xs) ∧ Below w.heap.size w w' := by
  have HR := refRank_any A n cap 1099511627776 xs w hx (by decide)
  rw [rank_size] at HR
  unfold sizeV numV at HR ⊢
  have HR := hide HR
  clear hx
  generalize (if setB xs = true then befA xs xs.length else 0) = a at HR ⊢
  generalize (if setB xs = true then (0 : Int) else 2) = b at HR ⊢
  go_enter Try.func34, Try.ntmps34
  go_wp2_with fail
  refine HR.out.mono ?_
  rintro e w2 ⟨rfl, hG⟩
  go_wp2
  go_ret2
  exact ⟨rfl, hG⟩

set_option maxHeartbeats 1000000 in
set_option maxRecDepth 100000 in
theorem refNth_any (A : Option Addr) (n cap : Nat) (i : Int) (xs : List Sp) (w : World) (hx : SpansAt w.heap.size w A n xs) (hr : -9223372036854775808 ≤ i ∧ i ≤ 9223372036854775807) :
    Calls Try.prog 36 #[.slice A n cap, .int .i64 i] w fun e w' => e = .returned (nthV xs i) ∧ Below w.heap.size w w' := by
  have mixed := mixedOrders
  have HX := hide hx
  have HV := hide (refValid_any A n cap xs w hx)
  clear hx
  cases hv : setB xs
  · have HE : Hid (nthV xs i = numV 0 2) := nth_bad hv
    rw [hv] at HV
    clear hv
    go_enter Try.func36, Try.ntmps36
    go_wp2_with fail
    refine HV.out.mono ?_
    rintro e w2 ⟨rfl, hG⟩
    go_wp2
    go_ret2
    exact ⟨by rw [HE.out]; rfl, hG.below⟩
  · have HS := hide (setB_true hv)
    have HSB := hide hv
    rw [hv] at HV
    clear hv
    go_enter Try.func36, Try.ntmps36
    go_wp2_with fail
    refine HV.out.mono ?_
    rintro e w2 ⟨rfl, hG⟩
    have HG := hide hG
    have HX2 := hide (HX.out.below hG.below)
    clear hG HV
    go_wp2
    go_loopw [1, 6] (fun vi vk wr => ∃ k : Nat, k ≤ n ∧ vk = .int .i64 k ∧ vi = .int .i64 (i - befA xs k) ∧ Hid (∀ j, j < k → ¬ hitN xs i j) ∧ (k ≠ 0 → 0 ≤ i - befA xs k) ∧ Hid (∃ q, wr = w2.drewN q)) (fun _ vk _ => n - (intOf vk).toNat)
    case atStart => exact ⟨0, Nat.zero_le _, rfl, by rw [show befA xs 0 = 0 from rfl, Int.sub_zero], fun j hj => by omega, fun h => absurd rfl h, ⟨0, rfl⟩⟩
    case round =>
      obtain ⟨k, hk, rfl, rfl, HN, h0, HW⟩ := hrel
      have hn128 : n ≤ 128 := by have := HS.out.1; have := HX.out.1; omega
      have hst : setTo xs n := by rw [← HX.out.1]; exact HS.out.2
      obtain ⟨p1, p2⟩ := befA_le hst hn128 k hk
      have p3 : befA xs k ≤ 281474976710656 := by omega
      have p4 : i - befA xs k ≤ 9223372036854775807 := by omega
      by_cases hlt : k < n
      · obtain ⟨b, off, rfl, hb, c0, c1⟩ := HX2.out.at_ hlt
        obtain ⟨o1, o2, o3⟩ := okB_true (hst k hlt).1
        have hlt' : (k : Int) < (n : Int) := by omega
        have E0 : ∀ nq, (wr.drewN nq).cell? ⟨b, off + k * 2, none⟩ = some (.int .i64 (loA xs k)) := fun nq => by obtain ⟨q, rfl⟩ := HW.out; exact c0
        have E1 : ∀ nq, (wr.drewN nq).cell? ⟨b, off + k * 2 + 1, none⟩ = some (.int .i64 (hiA xs k)) := fun nq => by obtain ⟨q, rfl⟩ := HW.out; exact c1
        clear c0 c1 p2
        by_cases hi : 0 ≤ i - befA xs k
        · have hd0 : decide (0 ≤ i - befA xs k) = true := decide_eq_true hi
          by_cases h1 : i - befA xs k < hiA xs k - loA xs k
          · have hd1 : decide (i - befA xs k < hiA xs k - loA xs k) = true := decide_eq_true h1
            have HE : Hid (nthV xs i = numV (loA xs k + i - befA xs k) 0) := nth_hit HSB.out (by rw [HX.out.1]; exact hlt) ⟨by omega, h1⟩
            have HAR : Hid (loA xs k + (i - befA xs k) = loA xs k + i - befA xs k) := by show _ = _; omega
            clear hst
            go_wp2_with fail
            go_quiet (fail)
            go_wp2
            go_ret2
            refine ⟨by rw [HE.out, ← HAR.out]; rfl, ?_⟩
            obtain ⟨q, rfl⟩ := HW.out
            exact ((HG.out.drewN q).drewN _).below
          · have hd1 : decide (i - befA xs k < hiA xs k - loA xs k) = false := decide_eq_false h1
            have HB : Hid (befA xs (k + 1) = befA xs k + (hiA xs k - loA xs k)) := befA_succ xs k
            have HNN : Hid (∀ j, j < k + 1 → ¬ hitN xs i j) := by
              intro j hj
              rcases Nat.lt_or_ge j k with h | h
              · exact HN.out j h
              · obtain rfl : j = k := by omega
                exact fun h => h1 h.2
            clear hst
            go_wp2_with fail
            go_quiet (fail)
            go_wp2
            go_roundw
            case rel => exact ⟨k + 1, by omega, by go_num, by rw [HB.out, ← Int.sub_sub], HNN, fun _ => by rw [HB.out]; omega, by obtain ⟨q, rfl⟩ := HW.out; exact ⟨q + nq, World.drewN_drewN _ _ _⟩⟩
            case measure => simp [intOf]; omega
        · have hd0 : decide (0 ≤ i - befA xs k) = false := decide_eq_false hi
          obtain rfl : k = 0 := by
            rcases Nat.eq_zero_or_pos k with h | h
            · exact h
            · exact absurd (h0 (by omega)) hi
          have HE : Hid (nthV xs i = numV 0 6) := nth_none HSB.out (fun j hj h => by
            have := (befA_le hst hn128 j (by rw [HX.out.1] at hj; omega)).1
            have h2 : befA xs 0 = 0 := rfl
            have := h.1
            omega)
          clear hst
          go_wp2
          go_ret2
          refine ⟨by rw [HE.out]; rfl, ?_⟩
          obtain ⟨q, rfl⟩ := HW.out
          exact (HG.out.drewN q).below
      · obtain rfl : k = n := by omega
        have HE : Hid (nthV xs i = numV 0 6) := nth_none HSB.out (fun j hj => HN.out j (by rw [HX.out.1] at hj; omega))
        clear hst p2
        go_wp2
        go_ret2
        refine ⟨by rw [HE.out]; rfl, ?_⟩
        obtain ⟨q, rfl⟩ := HW.out
        exact (HG.out.drewN q).below

end Go.Proofs.Ytikfiofjhmeheaa
