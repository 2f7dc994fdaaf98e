/- Contracts of the specification's grown, Grow and Shrink. -/
import Derived.Test.YtikfiofjhmeheaaN11
import Derived.Test.YtikfiofjhmeheaaN8
namespace Go.Proofs.Ytikfiofjhmeheaa
open Go.RowKit Go.Sort

/-- one span wider, as the specification says it -/
def wideF (r : Int) (s : Sp) : Sp := (max (-1099511627776) (s.1 - r), min 1099511627776 (s.2 + r))
theorem grownL_eq (xs : List Sp) (r : Int) : grownL xs r = madeL 0 (xs.map (wideF r)) [] := rfl

set_option maxHeartbeats 4000000 in
set_option maxRecDepth 100000 in
theorem grown_any (A : Option Addr) (n cap : Nat) (r : Int) (hr : 0 ≤ r ∧ r ≤ 1099511627776) (xs : List Sp) (w : World) (hx : SpansAt w.heap.size w A n xs) (hok : ∀ s ∈ xs, okB s.1 s.2 = true) (hn : n ≤ 5000) :
    Calls Try.prog 81 #[.slice A n cap, .int .i64 r] w (MadePost w (grownL xs r)) := by
  have mixed := mixedOrders
  obtain ⟨i0, hi0, hz0, hz1, hz2⟩ := info_parts info42
  have HX := hide hx
  have HOK := hide hok
  obtain ⟨r1, r2⟩ := hr
  clear hx hok
  go_enter Try.func81, Try.ntmps81
  go_wp2
  go_loopw [5, 6] (fun vo vi wr => ∃ (k : Nat) (a : Option Addr) (c : Nat) (out : List Sp), k ≤ n ∧ vi = .int .i64 k ∧ vo = .slice a k c ∧ Hid ((xs.take k).map (wideF r) = out) ∧ Hid (OwnS w wr a c k out)) (fun _ vi _ => n - (intOf vi).toNat)
  case atStart => exact ⟨0, none, 0, [], Nat.zero_le _, rfl, rfl, rfl, OwnS.nil w⟩
  case round =>
    obtain ⟨k, a, c, out, hk, rfl, rfl, HR, HO⟩ := hrel
    by_cases hlt : k < n
    · as_aux_lemma =>
      have hlt' : (k : Int) < (n : Int) := by omega
      obtain ⟨b, off, rfl, hb, c0, c1⟩ := HX.out.at_ hlt
      have e0 := (HO.out.2.2.cell (p := ⟨b, off + k * 2, none⟩) hb).trans c0
      have e1 := (HO.out.2.2.cell (p := ⟨b, off + k * 2 + 1, none⟩) hb).trans c1
      have HS2 : Hid ((xs.take (k + 1)).map (wideF r) = out ++ [wideF r (loA xs k, hiA xs k)]) := by show (xs.take (k + 1)).map _ = _; rw [take_succ_sp (by rw [HX.out.1]; exact hlt), List.map_append, HR.out]; rfl
      have hokk := HOK.out (loA xs k, hiA xs k) (by rw [(loA_get (show k < xs.length by rw [HX.out.1]; exact hlt)).1, (loA_get (show k < xs.length by rw [HX.out.1]; exact hlt)).2]; exact List.getElem_mem _)
      clear c0 c1
      generalize loA xs k = x at e0 HS2 hokk
      generalize hiA xs k = y at e1 HS2 hokk
      obtain ⟨o1, o2, o3⟩ := okB_true hokk
      dsimp only at o1 o2 o3
      obtain ⟨u, v, hu⟩ : ∃ u v, wideF r (x, y) = (u, v) := ⟨_, _, rfl⟩
      rw [hu] at HS2
      have m1 : (if -1099511627776 < x - r then x - r else (-1099511627776 : Int)) = u := by unfold wideF at hu; injection hu with h1 h2; dsimp only at h1 h2; rw [← h1]; omega
      have m2 : (if y + r < 1099511627776 then y + r else (1099511627776 : Int)) = v := by unfold wideF at hu; injection hu with h1 h2; dsimp only at h1 h2; rw [← h2]; omega
      have m3 : (if x - r < -1099511627776 then (-1099511627776 : Int) else x - r) = u := by unfold wideF at hu; injection hu with h1 h2; dsimp only at h1 h2; rw [← h1]; omega
      have m4 : (if 1099511627776 < y + r then (1099511627776 : Int) else y + r) = v := by unfold wideF at hu; injection hu with h1 h2; dsimp only at h1 h2; rw [← h2]; omega
      have s1 : IntKind.i64.wrap (x - r) = x - r := by rw [IntKind.wrap_i64]; omega
      have s2 : IntKind.i64.wrap (y + r) = y + r := by rw [IntKind.wrap_i64]; omega
      have hwb : w.heap.size ≤ wr.heap.size := HO.out.2.2.size
      have hbw : b < wr.heap.size := by omega
      have hne : (Value.slice a k c).ownBlock ≠ some b := fun e => by have := (HO.out.2.1.lt b e).1; omega
      have hN1 : k + 1 ≤ maxLen := by unfold maxLen; omega
      have hN2 : (k + 1) * 16 ≤ 140737488355328 := by omega
      have HF0 := hide e0
      have HF1 := hide e1
      clear hu hokk
      go_wp2_with fail
      go_region_held3 (fun w' => w'.cell? ⟨b, off + k * 2, none⟩ = some (.int .i64 x) ∧ w'.cell? ⟨b, off + k * 2 + 1, none⟩ = some (.int .i64 y))
        (first | go_keep | exact ⟨(hgrow.cell_far ⟨b, off + k * 2, none⟩ (by simp; omega) (Ne.symm hne)).trans ((World.cell?_alloc_lt wr _ ⟨b, off + k * 2, none⟩ hbw).trans HF0.out), (hgrow.cell_far ⟨b, off + k * 2 + 1, none⟩ (by simp; omega) (Ne.symm hne)).trans ((World.cell?_alloc_lt wr _ ⟨b, off + k * 2 + 1, none⟩ hbw).trans HF1.out)⟩)
        ((refine step_append_lies _ (by rfl) _ _ _ (by rfl) w.heap.size 42 i0 _ 2 16 Try.underlying22 hi0 hz0 hz1 hz2 rfl (by omega) (.slice a k c) k (flat out) (by rfl) ((HO.out.2.1.alloc _).drew) ⟨wr.heap.size, 0, none⟩ 1 1 [.int .i64 u, .int .i64 v] (by rfl) (by rfl) (World.news_of_block (cs := #[.int .i64 u, .int .i64 v]) (t := 42) (fr := (0, 0)) (heap_alloc_new wr _)) (by simp [Value.oneCell']) (by omega) hN1 hN2 (by simp; omega) (wr.heap.size + 1) (by simp) ?_; intro gg c2 w1 hown1 hgrow hat hlt1))
      all_goals
        go_wp2
        go_roundw
        case rel => exact ⟨k + 1, some ⟨gg, 0, none⟩, c2, out ++ [(u, v)], by omega, by go_num, rfl, HS2, HO.out.append hown1 hgrow⟩
        case measure => simp [intOf]; omega
    · obtain rfl : k = n := by omega
      have hR := HR.out
      rw [List.take_of_length_le (by rw [HX.out.1]; exact Nat.le_refl _)] at hR
      have HR2 := hide hR
      clear hR
      go_wp2_with fail
      refine (made_any 0 (.inl rfl) a none k c 0 0 out [] wr (spans_of_own HO.out.2.1 HO.out.1) ⟨rfl, .inl rfl⟩ (by omega) (by omega)).mono ?_
      rintro e w2 ⟨a2, c2, rfl, h⟩
      have HO2 := hide h.2.1
      have HB2 := hide (HO.out.2.2.trans (h.2.2.mono HO.out.2.2.size))
      clear h
      go_wp2
      go_ret
      unfold MadePost
      rw [grownL_eq, HR2.out]
      exact ⟨a2, c2, rfl, rfl, own_base HO2.out HO.out.2.2.size, HB2.out⟩

end Go.Proofs.Ytikfiofjhmeheaa
