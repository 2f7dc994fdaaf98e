/- same; check. -/
import Derived.Test.YtpbenjpponbjjaaGT
namespace Go.Proofs.Ytpbenjpponbjjaa
open Go.RowKit Go.Sort Go.BigFrame
theorem ints_ext {xs ys : List Int} (hl : xs.length = ys.length) (h : ∀ i, i < xs.length → iA xs i = iA ys i) : xs = ys := by
  apply List.ext_getElem hl
  intro i h1 h2
  have := h i h1
  unfold iA at this
  rw [List.getD_eq_getElem?_getD, List.getD_eq_getElem?_getD, List.getElem?_eq_getElem h1, List.getElem?_eq_getElem h2] at this
  exact this
set_option maxHeartbeats 2000000 in
theorem same_any (A B : Option Addr) (n m c d : Nat) (xs ys : List Int) (w : World) (hx : IntsAt w.heap.size w A n xs) (hy : IntsAt w.heap.size w B m ys) (hn : n ≤ 1000000) (hm : m ≤ 1000000) :
    Calls Try.prog 35 #[.slice A n c, .slice B m d] w fun e w' => e = .returned (.bool (decide (xs = ys))) ∧ Gr w w' := by
  have mixed := mixedOrders
  have HX := hide hx
  have HY := hide hy
  have HXL := hide hx.1
  have HYL := hide hy.1
  have HN := hide hn
  by_cases hnm : n = m
  · subst hnm
    clear hx hy hm
    go_enter Try.func35, Try.ntmps35
    go_wp2_with fail
    go_loopw [5] (fun vi wr => ∃ i : Nat, vi = .int .i64 i ∧ i ≤ n ∧ Hid (∀ j, j < i → iA xs j = iA ys j) ∧ Hid (Gr w wr)) (fun vi _ => n - (intOf vi).toNat)
    case atStart => exact ⟨0, rfl, Nat.zero_le _, fun j hj => absurd hj (Nat.not_lt_zero _), Gr.refl _⟩
    case round =>
      obtain ⟨i, rfl, hi, HI, HG⟩ := hrel
      by_cases hlt : i < n
      · have hlt' : (i : Int) < (n : Int) := by omega
        obtain ⟨b, off, rfl, hb, c0⟩ := HX.out.at_ hlt
        obtain ⟨b', off', rfl, hb', c1⟩ := HY.out.at_ hlt
        have d0 := (HG.out.cell (p := ⟨b, off + i, none⟩) hb).trans c0
        have d1 := (HG.out.cell (p := ⟨b', off' + i, none⟩) hb').trans c1
        have HS : Hid (iA xs i = iA ys i → ∀ j, j < i + 1 → iA xs j = iA ys j) := fun h j hj => by
          rcases Nat.lt_or_ge j i with q | q
          · exact HI.out j q
          · obtain rfl : j = i := by omega
            exact h
        have HD : Hid (iA xs i ≠ iA ys i → decide (xs = ys) = false) := fun h => decide_eq_false (fun e => h (by rw [e]))
        generalize iA xs i = x at d0 HS HD
        generalize iA ys i = y at d1 HS HD
        have HQ := hide (show i + 1 ≤ n by omega)
        have hN := HN.out
        clear c0 c1 hb hb' hi
        go_upto_region 6 with (fail)
        have HGW := hide HG.out.drew
        by_cases hxy : x = y
        · have hne : (x != y) = false := by simp [hxy]
          have HS2 := hide (HS.out hxy)
          clear hxy HS HD
          go_region
          all_goals
            go_wp2_with fail
            go_roundw
            case rel => exact ⟨i + 1, by go_num, HQ.out, HS2, HGW⟩
            case measure => have := HQ.out; simp [intOf]; omega
        · have hne : (x != y) = true := by simp [hxy]
          have HD2 := hide (HD.out hxy)
          clear hxy HS HD
          go_region
          all_goals
            go_wp2_with fail
            go_ret
            exact ⟨by rw [HD2.out]; rfl, HGW.out⟩
      · obtain rfl : i = n := by omega
        have hd : ¬ (i : Int) < (i : Int) := by omega
        have HD : Hid (decide (xs = ys) = true) := decide_eq_true (ints_ext (by rw [HXL.out, HYL.out]) (by rw [HXL.out]; exact HI.out))
        clear hi hlt
        go_wp2_with fail
        go_ret
        exact ⟨by rw [HD.out]; rfl, HG.out⟩
  · have hq : ((n : Int) != (m : Int)) = true := bne_iff_ne.2 (by omega)
    have HD : Hid (decide (xs = ys) = false) := decide_eq_false (fun e => hnm (by rw [← HXL.out, ← HYL.out, e]))
    clear hx hy hnm
    go_enter Try.func35, Try.ntmps35
    go_wp2_with fail
    go_ret
    exact ⟨by rw [HD.out]; rfl, Gr.refl _⟩
def checkG (l : List Gd) (many : Nat) : Int := if many < l.length then 3 else if l.all validG then 0 else 2
set_option maxHeartbeats 2000000 in
theorem check_any (A : Option Addr) (n c many : Nat) (l : List Gd) (w : World) (hx : GdAt w.heap.size w A n l) (hn : n ≤ 1000000) (hmany : many ≤ 1000000) : Calls Try.prog 57 #[.slice A n c, .int .i64 many] w fun e w' => e = .returned (.int .i64 (checkG l many)) ∧ Below w.heap.size w w' := by
  have mixed := mixedOrders
  have HX := hide hx
  have HLEN := hide hx.len
  by_cases hbig : many < n
  · have hbig' : (many : Int) < (n : Int) := by omega
    have HR : Hid (checkG l many = 3) := by show _ = _; unfold checkG; rw [HLEN.out, if_pos hbig]
    clear hx
    go_enter Try.func57, Try.ntmps57
    go_wp2_with fail
    go_ret
    exact ⟨by rw [HR.out]; rfl, Below.refl _ _⟩
  have hbig' : ¬ (many : Int) < (n : Int) := by omega
  have HR : Hid (checkG l many = if l.all validG then 0 else 2) := by show _ = _; unfold checkG; rw [HLEN.out, if_neg hbig]
  have HN := hide hn
  clear hx hn
  go_enter Try.func57, Try.ntmps57
  go_wp2_with fail
  clear hbig hbig'
  go_loopw [13] (fun vi wr => ∃ i : Nat, vi = .int .i64 i ∧ i ≤ n ∧ Hid (∀ j, j < i → validG (gA l j) = true) ∧ Hid (Below w.heap.size w wr)) (fun vi _ => n - (intOf vi).toNat)
  case atStart => exact ⟨0, rfl, Nat.zero_le _, fun j hj => absurd hj (Nat.not_lt_zero _), Below.refl _ _⟩
  case round =>
    obtain ⟨i, rfl, hi, HI, HG⟩ := hrel
    by_cases hlt : i < n
    · have hlt' : (i : Int) < (n : Int) := by omega
      obtain ⟨b, off, rfl, hb, c0, c1, c2⟩ := HX.out.at_ hlt
      have d0 := (HG.out.cell (p := ⟨b, off + i * 3, none⟩) hb).trans c0
      have d1 := (HG.out.cell (p := ⟨b, off + i * 3 + 1, none⟩) hb).trans c1
      have d2 := (HG.out.cell (p := ⟨b, off + i * 3 + 2, none⟩) hb).trans c2
      have hN := HN.out
      have HS : Hid (validG (gA l i) = true → ∀ j, j < i + 1 → validG (gA l j) = true) := fun h j hj => by
        rcases Nat.lt_or_ge j i with q | q
        · exact HI.out j q
        · obtain rfl : j = i := by omega
          exact h
      have HF : Hid (validG (gA l i) = false → checkG l many = 2) := fun h => by
        rw [HR.out]
        have : l.all validG = false := List.all_eq_false.2 ⟨_, gA_mem (by rw [HLEN.out]; exact hlt), by rw [h]; decide⟩
        rw [this]; rfl
      have HQ := hide (show i + 1 ≤ n by omega)
      generalize gA l i = o at d0 d1 d2 HS HF
      obtain ⟨o1, o2, o3⟩ := o
      have d0 : wr.cell? ⟨b, off + i * 3, none⟩ = some (.int .i64 o1) := d0
      have d1 : wr.cell? ⟨b, off + i * 3 + 1, none⟩ = some (.int .i64 o2) := d1
      have d2 : wr.cell? ⟨b, off + i * 3 + 2, none⟩ = some (.int .i64 o3) := d2
      obtain ⟨p, hp⟩ : ∃ p, wr.heap.size = p := ⟨_, rfl⟩
      obtain ⟨W1, hW1⟩ : ∃ W1, wr.alloc (.cells #[.int .i64 o1, .int .i64 o2, .int .i64 o3] 23) = W1 := ⟨_, rfl⟩
      have hb1 : Below wr.heap.size wr W1 := by rw [← hW1]; exact (Below.refl _ _).alloc (Nat.le_refl _) _
      have h1 : W1.heap[p]? = some (.cells #[.int .i64 o1, .int .i64 o2, .int .i64 o3] 23 (0, 0)) := by rw [← hW1, ← hp]; exact heap_alloc_new _ _
      have HG1 := hide (bel_next HG.out hb1)
      have KV := hide (valid_any (o1, o2, o3) W1)
      obtain ⟨x0, x1, x2⟩ := box3 h1
      obtain ⟨v, hv⟩ : ∃ v, validG (o1, o2, o3) = v := ⟨_, rfl⟩
      rw [hv] at KV HS HF
      clear c0 c1 c2 hi hb hb1 h1 hv
      go_wp2_with fail
      refine KV.out.mono ?_
      rintro e w2 ⟨rfl, hb2⟩
      have HG2 := hide (bel_next HG1.out hb2)
      clear x0 x1 x2 hb2 KV hW1 hp
      cases v with
      | false =>
        have HF2 := hide (HF.out rfl)
        go_wp2_with fail
        go_ret
        exact ⟨by rw [HF2.out]; rfl, HG2.out⟩
      | true =>
        have HS2 := hide (HS.out rfl)
        go_wp2_with fail
        go_roundw
        case rel => exact ⟨i + 1, by go_num, HQ.out, HS2, HG2⟩
        case measure => have := HQ.out; simp [intOf]; omega
    · obtain rfl : i = n := by omega
      have hd : ¬ (i : Int) < (i : Int) := by omega
      have HF : Hid (checkG l many = 0) := by
        show _ = _
        rw [HR.out]
        have : l.all validG = true := by
          rw [List.all_eq_true]
          intro x hx
          obtain ⟨j, hj, rfl⟩ := List.getElem_of_mem hx
          have := HI.out j (by rw [← HLEN.out]; exact hj)
          unfold gA at this
          rw [List.getD_eq_getElem?_getD, List.getElem?_eq_getElem hj] at this
          exact this
        rw [this]; rfl
      clear hi hlt
      go_wp2_with fail
      go_ret
      exact ⟨by rw [HF.out]; rfl, HG.out⟩
end Go.Proofs.Ytpbenjpponbjjaa
