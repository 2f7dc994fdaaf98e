/- Contracts of containing, of stab's test, of IndexFunc and ContainsFunc at it. -/
import Derived.Test.YtikfiofjhmeheaaD2
namespace Go.Proofs.Ytikfiofjhmeheaa
open Go.RowKit Go.Sort

/-- how many of the first k spans have x -/
def conTo (xs : List Sp) (x : Int) : Nat → Nat
  | 0 => 0
  | k + 1 => if hasB (loA xs k) (hiA xs k) x = true then conTo xs x k + 1 else conTo xs x k
theorem conTo_le (xs : List Sp) (x : Int) : ∀ k, conTo xs x k ≤ k
  | 0 => by simp [conTo]
  | k + 1 => by
    have := conTo_le xs x k
    unfold conTo
    split <;> omega

set_option maxHeartbeats 2000000 in
set_option maxRecDepth 100000 in
theorem containing_any (A : Option Addr) (n cap : Nat) (x : Int) (xs : List Sp) (w : World) (hx : SpansAt w.heap.size w A n xs) (hn : n ≤ 1000000) :
    Calls Try.prog 90 #[.slice A n cap, .int .i64 x] w fun e w' => e = .returned (.int .i64 (conTo xs x n : Nat)) ∧ Gr w w' := by
  have HX := hide hx
  clear hx
  go_enter Try.func90, Try.ntmps90
  go_wp2
  go_loopw [5, 10] (fun vb i wr => ∃ k : Nat, k ≤ n ∧ i = .int .i64 k ∧ vb = .int .i64 (conTo xs x k : Nat) ∧ Gr w wr) (fun _ i _ => n - (intOf i).toNat)
  case atStart => exact ⟨0, Nat.zero_le _, rfl, rfl, Gr.refl _⟩
  case round =>
    obtain ⟨k, hk, rfl, rfl, hG⟩ := hrel
    by_cases hlt : k < n
    · obtain ⟨b, off, rfl, hb, c0, c1⟩ := HX.out.at_ hlt
      have d0 := (hG.cell (p := ⟨b, off + k * 2, none⟩) hb).trans c0
      have d1 := (hG.cell (p := ⟨b, off + k * 2 + 1, none⟩) hb).trans c1
      have hlt' : (k : Int) < (n : Int) := by omega
      have hle := conTo_le xs x k
      have HG := hide hG
      clear c0 c1 hG
      cases hv : hasB (loA xs k) (hiA xs k) x
      · have HE : Hid (conTo xs x (k + 1) = conTo xs x k) := by show conTo xs x (k + 1) = conTo xs x k; rw [conTo, if_neg (by rw [hv]; decide)]
        generalize conTo xs x k = t at HE hle ⊢
        go_wp2_with (go_at_call 105; refine (contains_any _ _ _ _).mono ?_; rintro e w' ⟨rfl, rfl⟩)
        go_roundw
        case rel => exact ⟨k + 1, by omega, by go_num, by rw [HE.out], (HG.out.alloc _).alloc _⟩
        case measure => simp [intOf]; omega
      · have HE : Hid (conTo xs x (k + 1) = conTo xs x k + 1) := by show conTo xs x (k + 1) = conTo xs x k + 1; rw [conTo, if_pos hv]
        generalize conTo xs x k = t at HE hle ⊢
        have ht : (t : Int) + 1 ≤ 1000000 := by omega
        go_wp2_with (go_at_call 105; refine (contains_any _ _ _ _).mono ?_; rintro e w' ⟨rfl, rfl⟩)
        go_roundw
        case rel => exact ⟨k + 1, by omega, by go_num, by rw [HE.out]; go_num, (HG.out.alloc _).alloc _⟩
        case measure => simp [intOf]; omega
    · obtain rfl : k = n := by omega
      go_wp2
      go_ret
      exact ⟨rfl, hG⟩

set_option maxHeartbeats 400000 in
theorem has104_any (lo hi x : Int) (Bx : Nat) (w : World) (h0 : w.cell? ⟨Bx, 0, none⟩ = some (.int .i64 lo)) (h1 : w.cell? ⟨Bx, 1, none⟩ = some (.int .i64 hi)) :
    Calls Try.prog 104 #[.int .i64 x, .pointer (some ⟨Bx, 0, none⟩)] w fun e w' => e = .returned (.bool (hasB lo hi x)) ∧ Gr w w' := by
  go_enter Try.func104, Try.ntmps104
  go_wp2_with (go_at_call 105; refine (contains_any _ _ _ _).mono ?_; rintro e w' ⟨rfl, rfl⟩)
  go_ret
  exact ⟨rfl, (Gr.refl _).alloc _⟩

/-- what IndexFunc says of the points ys and the span -/
def IdxPost (lo hi : Int) (n : Nat) (ys : List Int) (w : World) (e : Ending) (w' : World) : Prop :=
  ∃ r : Int, e = .returned (.int .i64 r) ∧ Gr w w' ∧ ((0 ≤ r ∧ ∃ j, j < n ∧ hasB lo hi (iA ys j) = true) ∨ (r = -1 ∧ ∀ j, j < n → hasB lo hi (iA ys j) = false))

set_option maxHeartbeats 2000000 in
set_option maxRecDepth 100000 in
theorem index_any (A : Option Addr) (n cap Bx : Nat) (lo hi : Int) (ys : List Int) (w : World) (hy : IntsAt w.heap.size w A n ys) (hn : n ≤ 1000000)
    (h0 : w.cell? ⟨Bx, 0, none⟩ = some (.int .i64 lo)) (h1 : w.cell? ⟨Bx, 1, none⟩ = some (.int .i64 hi)) (hl : Bx < w.heap.size) :
    Calls Try.prog 87 #[.slice A n cap, .func (.func 104) #[] #[.pointer (some ⟨Bx, 0, none⟩)]] w (IdxPost lo hi n ys w) := by
  have HY := hide hy
  have H0 := hide h0
  have H1 := hide h1
  clear hy h0 h1
  go_enter Try.func87, Try.ntmps87
  go_wp2
  go_loopw [8] (fun i wr => ∃ k : Nat, k ≤ n ∧ i = .int .i64 k ∧ Hid (∀ j, j < k → hasB lo hi (iA ys j) = false) ∧ Gr w wr) (fun i _ => n - (intOf i).toNat)
  case atStart => exact ⟨0, Nat.zero_le _, rfl, hide fun j hj => by omega, Gr.refl _⟩
  case round =>
    obtain ⟨k, hk, rfl, HA, hG⟩ := hrel
    by_cases hlt : k < n
    · obtain ⟨b, off, rfl, hb, c0⟩ := HY.out.at_ hlt
      have d0 := (hG.cell (p := ⟨b, off + k, none⟩) hb).trans c0
      have HB := hide ((hG.cell (p := ⟨Bx, 0, none⟩) hl).trans H0.out)
      have HC := hide ((hG.cell (p := ⟨Bx, 1, none⟩) hl).trans H1.out)
      have hlt' : (k : Int) < (n : Int) := by omega
      have HG := hide hG
      clear c0 hG
      have HF := hide (has104_any lo hi (iA ys k) Bx wr HB.out HC.out)
      cases hv : hasB lo hi (iA ys k)
      · have HV := hide hv
        rw [hv] at HF
        clear hv
        go_wp2_with (go_at_call 104; refine HF.out.mono ?_; rintro e w' ⟨rfl, hG2⟩; have HG2 := hide hG2; clear hG2)
        go_roundw
        case rel => exact ⟨k + 1, by omega, by go_num, hide fun j hj => (by
            rcases Nat.lt_or_ge j k with h | h
            · exact HA.out j h
            · obtain rfl : j = k := by omega
              exact HV.out), HG.out.trans HG2.out⟩
        case measure => simp [intOf]; omega
      · have HV := hide hv
        rw [hv] at HF
        clear hv
        go_wp2_with (go_at_call 104; refine HF.out.mono ?_; rintro e w' ⟨rfl, hG2⟩; have HG2 := hide hG2; clear hG2)
        go_ret
        exact ⟨_, rfl, HG.out.trans HG2.out, .inl ⟨by omega, k, hlt, HV.out⟩⟩
    · obtain rfl : k = n := by omega
      have HG := hide hG
      clear hG
      go_wp2
      go_ret
      exact ⟨_, rfl, HG.out, .inr ⟨rfl, HA.out⟩⟩

/-- is one of the points in the span? -/
def anyIn (lo hi : Int) (ys : List Int) : Bool := ys.any fun y => hasB lo hi y
theorem anyIn_true {lo hi : Int} {ys : List Int} {j : Nat} (hj : j < ys.length) (h : hasB lo hi (iA ys j) = true) : anyIn lo hi ys = true := by
  unfold iA at h
  rw [List.getD_eq_getElem?_getD, List.getElem?_eq_getElem hj] at h
  exact List.any_eq_true.2 ⟨ys[j], List.getElem_mem hj, h⟩
theorem anyIn_false {lo hi : Int} {ys : List Int} (h : ∀ j, j < ys.length → hasB lo hi (iA ys j) = false) : anyIn lo hi ys = false := by
  unfold anyIn
  rw [List.any_eq_false]
  intro y hy
  obtain ⟨j, hj, rfl⟩ := List.mem_iff_getElem.1 hy
  have := h j hj
  unfold iA at this
  rw [List.getD_eq_getElem?_getD, List.getElem?_eq_getElem hj] at this
  simpa using this

set_option maxHeartbeats 1000000 in
theorem containsFunc_any (A : Option Addr) (n cap Bx : Nat) (lo hi : Int) (ys : List Int) (w : World) (hy : IntsAt w.heap.size w A n ys) (hn : n ≤ 1000000)
    (h0 : w.cell? ⟨Bx, 0, none⟩ = some (.int .i64 lo)) (h1 : w.cell? ⟨Bx, 1, none⟩ = some (.int .i64 hi)) (hl : Bx < w.heap.size) :
    Calls Try.prog 103 #[.slice A n cap, .func (.func 104) #[] #[.pointer (some ⟨Bx, 0, none⟩)]] w fun e w' => e = .returned (.bool (anyIn lo hi ys)) ∧ Gr w w' := by
  have HI := hide (index_any A n cap Bx lo hi ys w hy hn h0 h1 hl)
  have HY := hide hy
  clear hy h0 h1
  go_enter Try.func103, Try.ntmps103
  go_wp2_with fail
  refine HI.out.mono ?_
  rintro e w' ⟨r, rfl, hG, hr⟩
  have HG := hide hG
  have hl := HY.out.1
  clear hG HI
  rcases hr with ⟨hr, j, hj, h⟩ | ⟨rfl, h⟩
  · have HT := hide (anyIn_true (by rw [hl]; exact hj) h)
    have hd : decide (0 ≤ r) = true := decide_eq_true hr
    clear h hr
    go_wp2
    go_ret
    exact ⟨ret_bool (by rw [HT.out]), HG.out⟩
  · have HT := hide (anyIn_false (lo := lo) (hi := hi) (ys := ys) (by rw [hl]; exact h))
    clear h
    go_wp2
    go_ret
    exact ⟨ret_bool (by rw [HT.out]), HG.out⟩

end Go.Proofs.Ytikfiofjhmeheaa
