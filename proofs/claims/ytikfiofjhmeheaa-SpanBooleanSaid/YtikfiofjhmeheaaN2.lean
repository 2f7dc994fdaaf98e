/- Contracts of the specification's put and keeps. -/
import Derived.Test.YtikfiofjhmeheaaN6
import Derived.Test.YtikfiofjhmeheaaQ0
namespace Go.Proofs.Ytikfiofjhmeheaa
open Go.RowKit Go.Sort

/-- a row of ints of the call's own, and nothing old has turned -/
def OwnI (w W : World) (a : Option Addr) (c : Nat) (ys : List Int) : Prop :=
  W.ownsRow w.heap.size 3 1 (.slice a ys.length c) ys.length (ys.map (Value.int .i64)) ∧ Below w.heap.size w W
theorem OwnI.nil (w : World) : OwnI w w none 0 [] := ⟨World.ownsRow_nil _ _ _ _, Below.refl _ _⟩
theorem OwnI.drewN {w W : World} {a : Option Addr} {c : Nat} {ys : List Int} (h : OwnI w W a c ys) (q : Nat) : OwnI w (W.drewN q) a c ys :=
  ⟨h.1, h.2.trans (((Gr.refl W).drewN q).below.mono h.2.size)⟩
theorem OwnI.append {w W w5 : World} {a : Option Addr} {c : Nat} {ys : List Int} {y : Int} {t : Obj} {v : Value} (h : OwnI w W a c ys)
    (ho : w5.ownsRow w.heap.size 3 1 v (ys.length + 1) ((ys.map (Value.int .i64)) ++ [.int .i64 y])) (hg : (W.alloc t).grownBy w5 (Value.slice a ys.length c).ownBlock) {zs : List Int} (hz : zs = ys ++ [y]) :
    ∃ a' c', v = .slice a' zs.length c' ∧ OwnI w w5 a' c' zs := by
  subst hz
  obtain ⟨a', c', rfl⟩ := own_slice ho
  have hl : (ys ++ [y]).length = ys.length + 1 := by simp
  refine ⟨a', c', by rw [hl], ?_, ?_⟩
  · rw [hl, List.map_append]
    exact ho
  · have hb := h.2
    exact (hb.alloc hb.size t).grown hg (by have := hb.size; simp; omega) (fun k e => (h.1.lt k e).1)
theorem OwnI.ints {w W : World} {a : Option Addr} {c : Nat} {ys : List Int} (h : OwnI w W a c ys) : IntsAt W.heap.size W a ys.length ys := ints_of_own h.1

theorem take_one {l : List Int} {k : Nat} (h : k < l.length) : l.take (k + 1) = l.take k ++ [iA l k] := by
  rw [List.take_succ_eq_append_getElem h, iA_get h]

/-- what put hands back -/
def NumsPost (w : World) (ys : List Int) (e : Ending) (w' : World) : Prop := ∃ a c, e = .returned (.slice a ys.length c) ∧ OwnI w w' a c ys

theorem len_of {x : Int} {l : List Int} {k : Nat} {ys : List Int} {d : Bool} (h : insTo x (l.take k) = (ys, d)) : ys.length ≤ k + 1 := by
  have h1 := insTo_length x (l.take k)
  rw [h] at h1
  have h3 : (l.take k).length ≤ k := List.length_take_le _ _
  dsimp only at h1
  split at h1 <;> omega

set_option maxHeartbeats 4000000 in
set_option maxRecDepth 100000 in
theorem refput_any (A : Option Addr) (n cap : Nat) (x : Int) (l : List Int) (w : World) (hx : IntsAt w.heap.size w A n l) (hn : n ≤ 1000000) :
    Calls Try.prog 91 #[.slice A n cap, .int .i64 x] w (NumsPost w (insN l x)) := by
  have mixed := mixedOrders
  obtain ⟨i0, hi0, hz0, hz1, hz2⟩ := info_parts info3
  have HX := hide hx
  clear hx
  go_enter Try.func91, Try.ntmps91
  go_wp2
  go_loopw [5, 6, 7] (fun vo vd vi wr => ∃ (k : Nat) (a : Option Addr) (c : Nat) (ys : List Int) (d : Bool), k ≤ n ∧ vi = .int .i64 k ∧ vd = .bool d ∧ vo = .slice a ys.length c ∧ ys.length ≤ 1000001 ∧ Hid (insTo x (l.take k) = (ys, d)) ∧ Hid (OwnI w wr a c ys)) (fun _ _ vi _ => n - (intOf vi).toNat)
  case atStart => exact ⟨0, none, 0, [], false, Nat.zero_le _, rfl, rfl, rfl, by simp, rfl, OwnI.nil w⟩
  case round =>
    obtain ⟨k, a, c, ys, d, hk, rfl, rfl, rfl, hyl, HI, HO⟩ := hrel
    have HB1 : Hid (ys.length + 1 ≤ maxLen) := by show _ ≤ _; unfold maxLen; omega
    have HB2 : Hid ((ys.length + 1) * 8 ≤ 140737488355328) := by show _ ≤ _; omega
    have HB3 : Hid (w.heap.size ≤ (wr.alloc (.cells #[.int .i64 x] 3)).heap.size) := by show _ ≤ _; have := HO.out.2.size; simp; omega
    obtain ⟨zs, hz⟩ : ∃ zs, zs = ys ++ [x] := ⟨_, rfl⟩
    have hzl : zs.length = ys.length + 1 := by rw [hz]; simp
    have HZ := hide hz
    have HZL := hide hzl
    clear hz hzl
    by_cases hlt : k < n
    · have hlt' : (k : Int) < (n : Int) := by omega
      obtain ⟨b, off, rfl, hb, c0⟩ := HX.out.at_ hlt
      have e0 := (HO.out.2.cell (p := ⟨b, off + k, none⟩) hb).trans c0
      have HS : Hid (insTo x (l.take (k + 1)) = insStep x (ys, d) (iA l k)) := by show insTo x (l.take (k + 1)) = _; rw [take_one (by rw [HX.out.1]; exact hlt), insTo_snoc, HI.out]
      have HC0 := hide c0
      clear c0
      generalize iA l k = y at e0 HS HC0
      have HB4 : Hid (zs.length + 1 ≤ maxLen) := by show _ ≤ _; rw [HZL.out]; unfold maxLen; omega
      have HB5 : Hid ((zs.length + 1) * 8 ≤ 140737488355328) := by show _ ≤ _; rw [HZL.out]; omega
      have HB6 : Hid (w.heap.size ≤ (wr.alloc (.cells #[.int .i64 y] 3)).heap.size) := by show _ ≤ _; have := HO.out.2.size; simp; omega
      cases d
      · by_cases h1 : x ≤ y
        · have hd1 : decide (x ≤ y) = true := decide_eq_true h1
          by_cases h2 : y = x
          · have hd2 : (y != x) = false := by simp [h2]
            have HS2 : Hid (insTo x (l.take (k + 1)) = (zs, true)) := by show insTo x (l.take (k + 1)) = _; rw [HS.out, HZ.out]; simp [insStep, h2]
            have HLN := hide (len_of HS2.out)
            clear h1 h2 HS
            go_wp2_with (at_builtin; refine wpList_append_own_at _ rfl (.tmp 24) (.tmp 26) _ rfl w.heap.size 3 i0 (.int .i64 0) 1 8 Try.underlying43 hi0 hz0 hz1 hz2 rfl (by decide) _ _ _ rfl (HO.out.1.alloc _) ⟨wr.heap.size, 0, none⟩ 1 1 [.int .i64 x] rfl rfl (cell_one_new _ _ _) (by simp [Value.oneCell']) HB1.out HB2.out HB3.out ?_; intro v5 w5 hown5 hgrow5 hnil5 hat5; obtain ⟨a5, c5, rfl, HO5⟩ := HO.out.append hown5 hgrow5 HZ.out; have HO5 := hide HO5; have e5 := (HO5.out.2.cell (p := ⟨b, off + k, none⟩) hb).trans HC0.out; have HC5 : Hid (w.heap.size ≤ (w5.alloc (.cells #[.int .i64 y] 3)).heap.size) := (by show w.heap.size ≤ _; have := HO5.out.2.size; simp; omega); clear hown5 hgrow5 hnil5 hat5)
            go_roundw
            case rel => exact ⟨k + 1, a5, c5, zs, true, by omega, by go_num, rfl, rfl, by have := HLN.out; omega, HS2, HO5⟩
            case measure => simp [intOf]; omega
          · have hd2 : (y != x) = true := by simp [h2]
            obtain ⟨zt, hzt⟩ : ∃ zt, zt = zs ++ [y] := ⟨_, rfl⟩
            have HZT := hide hzt
            have HS2 : Hid (insTo x (l.take (k + 1)) = (zt, true)) := by show insTo x (l.take (k + 1)) = _; rw [HS.out, HZT.out, HZ.out]; simp [insStep, h1, h2]
            have HLN := hide (len_of HS2.out)
            clear h1 h2 HS hzt
            go_wp2_with (first | (at_builtin; refine wpList_append_own_at _ rfl (.tmp 24) (.tmp 26) _ rfl w.heap.size 3 i0 (.int .i64 0) 1 8 Try.underlying43 hi0 hz0 hz1 hz2 rfl (by decide) _ _ _ rfl (HO.out.1.alloc _) ⟨wr.heap.size, 0, none⟩ 1 1 [.int .i64 x] rfl rfl (cell_one_new _ _ _) (by simp [Value.oneCell']) HB1.out HB2.out HB3.out ?_; intro v5 w5 hown5 hgrow5 hnil5 hat5; obtain ⟨a5, c5, rfl, HO5⟩ := HO.out.append hown5 hgrow5 HZ.out; have HO5 := hide HO5; have e5 := (HO5.out.2.cell (p := ⟨b, off + k, none⟩) hb).trans HC0.out; have HC5 : Hid (w.heap.size ≤ (w5.alloc (.cells #[.int .i64 y] 3)).heap.size) := (by show w.heap.size ≤ _; have := HO5.out.2.size; simp; omega); clear hown5 hgrow5 hnil5 hat5) | (at_builtin; refine wpList_append_own_at _ rfl (.tmp 34) (.tmp 39) _ rfl w.heap.size 3 i0 (.int .i64 0) 1 8 Try.underlying43 hi0 hz0 hz1 hz2 rfl (by decide) _ _ _ rfl (HO5.out.1.alloc _) ⟨w5.heap.size, 0, none⟩ 1 1 [.int .i64 y] rfl rfl (cell_one_new _ _ _) (by simp [Value.oneCell']) HB4.out HB5.out HC5.out ?_; intro v6 w6 hown6 hgrow6 hnil6 hat6; obtain ⟨a6, c6, rfl, HO6⟩ := HO5.out.append hown6 hgrow6 HZT.out; have HO6 := hide HO6; have e6 := (HO6.out.2.cell (p := ⟨b, off + k, none⟩) hb).trans HC0.out; have HC6 : Hid (w.heap.size ≤ (w6.alloc (.cells #[.int .i64 y] 3)).heap.size) := (by show w.heap.size ≤ _; have := HO6.out.2.size; simp; omega); clear hown6 hgrow6 hnil6 hat6))
            go_roundw
            case rel => exact ⟨k + 1, a6, c6, zt, true, by omega, by go_num, rfl, rfl, by have := HLN.out; omega, HS2, HO6⟩
            case measure => simp [intOf]; omega
        · have hd1 : decide (x ≤ y) = false := decide_eq_false h1
          have hd2 : (y != x) = true := by simp; omega
          obtain ⟨zt, hzt⟩ : ∃ zt, zt = ys ++ [y] := ⟨_, rfl⟩
          have HZT := hide hzt
          have HS2 : Hid (insTo x (l.take (k + 1)) = (zt, false)) := by show insTo x (l.take (k + 1)) = _; rw [HS.out, HZT.out]; simp [insStep, h1]; omega
          have HLN := hide (len_of HS2.out)
          clear h1 HS hzt
          go_wp2_with (at_builtin; refine wpList_append_own_at _ rfl (.tmp 34) (.tmp 39) _ rfl w.heap.size 3 i0 (.int .i64 0) 1 8 Try.underlying43 hi0 hz0 hz1 hz2 rfl (by decide) _ _ _ rfl (HO.out.1.alloc _) ⟨wr.heap.size, 0, none⟩ 1 1 [.int .i64 y] rfl rfl (cell_one_new _ _ _) (by simp [Value.oneCell']) HB1.out HB2.out HB6.out ?_; intro v6 w6 hown6 hgrow6 hnil6 hat6; obtain ⟨a6, c6, rfl, HO6⟩ := HO.out.append hown6 hgrow6 HZT.out; have HO6 := hide HO6; have e6 := (HO6.out.2.cell (p := ⟨b, off + k, none⟩) hb).trans HC0.out; have HC6 : Hid (w.heap.size ≤ (w6.alloc (.cells #[.int .i64 y] 3)).heap.size) := (by show w.heap.size ≤ _; have := HO6.out.2.size; simp; omega); clear hown6 hgrow6 hnil6 hat6)
          go_roundw
          case rel => exact ⟨k + 1, a6, c6, zt, false, by omega, by go_num, rfl, rfl, by have := HLN.out; omega, HS2, HO6⟩
          case measure => simp [intOf]; omega
      · by_cases h2 : y = x
        · have hd2 : (y != x) = false := by simp [h2]
          have HS2 : Hid (insTo x (l.take (k + 1)) = (ys, true)) := by show insTo x (l.take (k + 1)) = _; rw [HS.out]; simp [insStep, h2]
          clear h2 HS
          go_wp2
          go_roundw
          case rel => exact ⟨k + 1, a, c, ys, true, by omega, by go_num, rfl, rfl, by omega, HS2, HO⟩
          case measure => simp [intOf]; omega
        · have hd2 : (y != x) = true := by simp [h2]
          obtain ⟨zt, hzt⟩ : ∃ zt, zt = ys ++ [y] := ⟨_, rfl⟩
          have HZT := hide hzt
          have HS2 : Hid (insTo x (l.take (k + 1)) = (zt, true)) := by show insTo x (l.take (k + 1)) = _; rw [HS.out, HZT.out]; simp [insStep, h2]
          have HLN := hide (len_of HS2.out)
          clear h2 HS hzt
          go_wp2_with (at_builtin; refine wpList_append_own_at _ rfl (.tmp 34) (.tmp 39) _ rfl w.heap.size 3 i0 (.int .i64 0) 1 8 Try.underlying43 hi0 hz0 hz1 hz2 rfl (by decide) _ _ _ rfl (HO.out.1.alloc _) ⟨wr.heap.size, 0, none⟩ 1 1 [.int .i64 y] rfl rfl (cell_one_new _ _ _) (by simp [Value.oneCell']) HB1.out HB2.out HB6.out ?_; intro v6 w6 hown6 hgrow6 hnil6 hat6; obtain ⟨a6, c6, rfl, HO6⟩ := HO.out.append hown6 hgrow6 HZT.out; have HO6 := hide HO6; have e6 := (HO6.out.2.cell (p := ⟨b, off + k, none⟩) hb).trans HC0.out; have HC6 : Hid (w.heap.size ≤ (w6.alloc (.cells #[.int .i64 y] 3)).heap.size) := (by show w.heap.size ≤ _; have := HO6.out.2.size; simp; omega); clear hown6 hgrow6 hnil6 hat6)
          go_roundw
          case rel => exact ⟨k + 1, a6, c6, zt, true, by omega, by go_num, rfl, rfl, by have := HLN.out; omega, HS2, HO6⟩
          case measure => simp [intOf]; omega
    · obtain rfl : k = n := by omega
      have hI := HI.out
      rw [List.take_of_length_le (by rw [HX.out.1]; exact Nat.le_refl _)] at hI
      cases d
      · have HE : Hid (insN l x = zs) := by show insN l x = zs; unfold insN; rw [hI, HZ.out]; simp
        clear hI
        go_wp2_with (at_builtin; refine wpList_append_own_at _ rfl (.tmp 43) (.tmp 45) _ rfl w.heap.size 3 i0 (.int .i64 0) 1 8 Try.underlying43 hi0 hz0 hz1 hz2 rfl (by decide) _ _ _ rfl (HO.out.1.alloc _) ⟨wr.heap.size, 0, none⟩ 1 1 [.int .i64 x] rfl rfl (cell_one_new _ _ _) (by simp [Value.oneCell']) HB1.out HB2.out HB3.out ?_; intro v5 w5 hown5 hgrow5 hnil5 hat5; obtain ⟨a5, c5, rfl, HO5⟩ := HO.out.append hown5 hgrow5 HZ.out; have HO5 := hide HO5; clear hown5 hgrow5 hnil5 hat5)
        go_ret
        unfold NumsPost
        rw [HE.out]
        exact ⟨a5, c5, rfl, HO5.out⟩
      · have HE : Hid (insN l x = ys) := by show insN l x = ys; unfold insN; rw [hI]; simp
        clear hI
        go_wp2
        go_ret
        unfold NumsPost
        rw [HE.out]
        exact ⟨a, c, rfl, HO.out⟩

set_option maxHeartbeats 1000000 in
theorem keeps_any (kind : Int) (p q : Bool) (w : World) (hk : kind = 0 ∨ kind = 1 ∨ kind = 2) : Calls Try.prog 92 #[.int .i64 kind, .bool p, .bool q] w fun e w' => e = .returned (.bool (keepB kind p q)) ∧ w = w' := by
  rcases hk with rfl | rfl | rfl <;> cases p <;> cases q
  all_goals
    go_enter Try.func92, Try.ntmps92
    go_wp2
    go_ret
    exact ⟨rfl, rfl⟩

end Go.Proofs.Ytikfiofjhmeheaa
