/- Contracts of Stab, Disjoint and meets. -/
import Derived.Test.YtikfiofjhmeheaaN23
import Derived.Test.YtikfiofjhmeheaaG8
namespace Go.Proofs.Ytikfiofjhmeheaa
open Go.RowKit Go.Sort

set_option maxHeartbeats 1000000 in
theorem Stab_any (A : Option Addr) (n cap : Nat) (xs : List Sp) (w : World) (hx : SpansAt w.heap.size w A n xs) :
    Calls Try.prog 47 #[.slice A n cap] w (ListPost (checkE xs) (stabP xs) w) := by
  have HW := hide (stab_any A n cap xs w hx (fun h => stable_any n (by omega)))
  clear hx
  go_enter Try.func47, Try.ntmps47
  go_wp2_with fail
  refine HW.out.mono ?_
  rintro e w2 ⟨A1, A2, n1, c1, n2, c2, rfl, h1, h2, hb⟩
  have H1 := hide h1
  have HB := hide hb
  clear h1 h2 hb HW
  go_wp2
  go_ret2
  exact ⟨A1, n1, c1, rfl, H1.out, HB.out⟩

set_option maxHeartbeats 1000000 in
theorem Disjoint_any (A : Option Addr) (n cap : Nat) (xs : List Sp) (w : World) (hx : SpansAt w.heap.size w A n xs) :
    Calls Try.prog 48 #[.slice A n cap] w (ListPost (checkE xs) (stabO xs) w) := by
  have HW := hide (stab_any A n cap xs w hx (fun h => stable_any n (by omega)))
  clear hx
  go_enter Try.func48, Try.ntmps48
  go_wp2_with fail
  refine HW.out.mono ?_
  rintro e w2 ⟨A1, A2, n1, c1, n2, c2, rfl, h1, h2, hb⟩
  have H1 := hide h2
  have HB := hide hb
  clear h1 h2 hb HW
  go_wp2
  go_ret2
  exact ⟨A2, n2, c2, rfl, H1.out, HB.out⟩

/-- has the span one of the first k numbers? -/
def anyTo (lo hi : Int) (ys : List Int) : Nat → Bool
  | 0 => false
  | k + 1 => anyTo lo hi ys k || hasB lo hi (iA ys k)
theorem anyTo_iff (lo hi : Int) (ys : List Int) : ∀ k, anyTo lo hi ys k = true ↔ ∃ j, j < k ∧ hasB lo hi (iA ys j) = true
  | 0 => by simp [anyTo]
  | k + 1 => by
    unfold anyTo
    rw [Bool.or_eq_true, anyTo_iff lo hi ys k]
    constructor
    · rintro (⟨j, h1, h2⟩ | h)
      · exact ⟨j, by omega, h2⟩
      · exact ⟨k, by omega, h⟩
    · rintro ⟨j, h1, h2⟩
      rcases Nat.lt_or_ge j k with h | h
      · exact .inl ⟨j, h, h2⟩
      · obtain rfl : j = k := by omega
        exact .inr h2
/-- has every span one of the numbers? -/
def meetsB (xs : List Sp) (n : Nat) (ys : List Int) (m : Nat) : Bool := decide (∀ i, i < n → anyTo (loA xs i) (hiA xs i) ys m = true)

set_option maxHeartbeats 4000000 in
set_option maxRecDepth 100000 in
theorem meets_any (A A2 : Option Addr) (n cap m cap2 : Nat) (xs : List Sp) (ys : List Int) (w : World) (hx : SpansAt w.heap.size w A n xs) (hy : IntsAt w.heap.size w A2 m ys) (hn : n ≤ 1000000) (hm : m ≤ 1000000) :
    Calls Try.prog 61 #[.slice A n cap, .slice A2 m cap2] w fun e w' => e = .returned (.bool (meetsB xs n ys m)) ∧ Gr w w' := by
  have mixed := mixedOrders
  have HX := hide hx
  have HY := hide hy
  clear hx hy
  go_enter Try.func61, Try.ntmps61
  go_wp2
  go_loopw [5] (fun vi wr => ∃ i : Nat, i ≤ n ∧ vi = .int .i64 i ∧ Hid (∀ j, j < i → anyTo (loA xs j) (hiA xs j) ys m = true) ∧ Hid (Gr w wr)) (fun vi _ => n - (intOf vi).toNat)
  case atStart => exact ⟨0, Nat.zero_le _, rfl, hide fun j hj => by omega, Gr.refl _⟩
  case round =>
    obtain ⟨i, hi, rfl, HA, HG⟩ := hrel
    by_cases hin : i < n
    · have hin' : (i : Int) < (n : Int) := by omega
      obtain ⟨b, off, rfl, hb, c0, c1⟩ := HX.out.at_ hin
      obtain ⟨wo, hwo⟩ : ∃ wo : World, wo = wr := ⟨_, rfl⟩
      subst hwo
      go_wp2
      go_loopw [6, 7] (fun vm vk wr => ∃ (k : Nat) (mt : Bool), k ≤ m ∧ vk = .int .i64 k ∧ vm = .bool mt ∧ Hid (mt = anyTo (loA xs i) (hiA xs i) ys k) ∧ Hid (Gr w wr)) (fun _ vk _ => m - (intOf vk).toNat)
      case atStart => exact ⟨0, false, Nat.zero_le _, rfl, rfl, rfl, HG⟩
      case round =>
        obtain ⟨k, mt, hk, rfl, rfl, HM, HG2⟩ := hrel
        by_cases hkm : k < m
        · have hkm' : (k : Int) < (m : Int) := by omega
          obtain ⟨b2, off2, rfl, hb2, c2⟩ := HY.out.at_ hkm
          have E0 : ∀ nq, (wr.drewN nq).cell? ⟨b, off + i * 2, none⟩ = some (.int .i64 (loA xs i)) := fun _ => (HG2.out.cell (p := ⟨b, _, none⟩) hb).trans c0
          have E1 : ∀ nq, (wr.drewN nq).cell? ⟨b, off + i * 2 + 1, none⟩ = some (.int .i64 (hiA xs i)) := fun _ => (HG2.out.cell (p := ⟨b, _, none⟩) hb).trans c1
          have E2 : ∀ nq, (wr.drewN nq).cell? ⟨b2, off2 + k, none⟩ = some (.int .i64 (iA ys k)) := fun _ => (HG2.out.cell (p := ⟨b2, _, none⟩) hb2).trans c2
          have HS : Hid (anyTo (loA xs i) (hiA xs i) ys (k + 1) = (mt || hasB (loA xs i) (hiA xs i) (iA ys k))) := by show _ = _; rw [HM.out]; rfl
          clear c0 c1 c2 HM
          generalize loA xs i = ll at *
          generalize hiA xs i = hh at *
          generalize iA ys k = yy at *
          cases mt
          · by_cases h1 : ll ≤ yy
            · have hd1 : decide (ll ≤ yy) = true := decide_eq_true h1
              by_cases h2 : yy < hh
              · have hd2 : decide (yy < hh) = true := decide_eq_true h2
                have HS2 : Hid (true = anyTo ll hh ys (k + 1)) := by show _ = _; rw [HS.out]; exact (show hasB ll hh yy = true from decide_eq_true ⟨h1, h2⟩).symm
                clear h1 h2 HS
                go_wp2_with fail
                go_quiet (fail)
                go_wp2
                go_roundw
                case rel => exact ⟨k + 1, true, by omega, by go_num, rfl, HS2, HG2.out.drewN _⟩
                case measure => simp [intOf]; omega
              · have hd2 : decide (yy < hh) = false := decide_eq_false h2
                have HS2 : Hid (false = anyTo ll hh ys (k + 1)) := by show _ = _; rw [HS.out]; exact (show hasB ll hh yy = false from decide_eq_false (fun h => h2 h.2)).symm
                clear h1 h2 HS
                go_wp2_with fail
                go_quiet (fail)
                go_wp2
                go_roundw
                case rel => exact ⟨k + 1, false, by omega, by go_num, rfl, HS2, HG2.out.drewN _⟩
                case measure => simp [intOf]; omega
            · have hd1 : decide (ll ≤ yy) = false := decide_eq_false h1
              have HS2 : Hid (false = anyTo ll hh ys (k + 1)) := by show _ = _; rw [HS.out]; exact (show hasB ll hh yy = false from decide_eq_false (fun h => h1 h.1)).symm
              clear h1 HS
              go_wp2_with fail
              go_quiet (fail)
              go_wp2
              go_roundw
              case rel => exact ⟨k + 1, false, by omega, by go_num, rfl, HS2, HG2.out.drewN _⟩
              case measure => simp [intOf]; omega
          · have HS2 : Hid (true = anyTo ll hh ys (k + 1)) := by show _ = _; rw [HS.out]; rfl
            clear HS
            go_wp2_with fail
            go_quiet (fail)
            go_wp2
            go_roundw
            case rel => exact ⟨k + 1, true, by omega, by go_num, rfl, HS2, HG2.out.drewN _⟩
            case measure => simp [intOf]; omega
        · obtain rfl : k = m := by omega
          cases mt
          · have HF : Hid (meetsB xs n ys k = false) := by
              show meetsB xs n ys k = false
              unfold meetsB
              rw [decide_eq_false_iff_not]
              intro h
              have := h i hin
              rw [← HM.out] at this
              cases this
            go_wp2
            go_ret
            exact ⟨ret_bool (by rw [HF.out]), HG2.out⟩
          · have HA2 : Hid (∀ j, j < i + 1 → anyTo (loA xs j) (hiA xs j) ys k = true) := hide fun j hj => by
              rcases Nat.lt_or_ge j i with h | h
              · exact HA.out j h
              · obtain rfl : j = i := by omega
                exact HM.out.symm
            go_wp2
            go_roundw
            case rel => exact ⟨i + 1, by omega, by go_num, HA2, HG2⟩
            case measure => simp [intOf]; omega
    · obtain rfl : i = n := by omega
      have HF : Hid (meetsB xs i ys m = true) := decide_eq_true HA.out
      go_wp2
      go_ret
      exact ⟨ret_bool (by rw [HF.out]), HG.out⟩

end Go.Proofs.Ytikfiofjhmeheaa
