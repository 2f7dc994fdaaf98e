/- Contract of the specification's sorted. -/
import Derived.Test.YtikfiofjhmeheaaN20
import Derived.Test.YtikfiofjhmeheaaQ0
namespace Go.Proofs.Ytikfiofjhmeheaa
open Go.RowKit Go.Sort

def natI (l : List Nat) : List Int := l.map fun k : Nat => (k : Int)
/-- a row of indexes of the call's own -/
def OwnN (w W : World) (a : Option Addr) (c N : Nat) (ys : List Nat) : Prop := ys.length = N ∧ W.ownsRow w.heap.size 3 1 (.slice a N c) N ((natI ys).map (Value.int .i64)) ∧ Below w.heap.size w W
theorem OwnN.nil (w : World) : OwnN w w none 0 0 [] := ⟨rfl, World.ownsRow_nil _ _ _ _, Below.refl _ _⟩
theorem OwnN.room {w W : World} {a : Option Addr} {c N : Nat} {ys : List Nat} (h : OwnN w W a c N ys) (o : Obj) : w.heap.size ≤ (W.alloc o).heap.size := by have := h.2.2.size; simp; omega
theorem OwnN.drewN {w W : World} {a : Option Addr} {c N : Nat} {ys : List Nat} (h : OwnN w W a c N ys) (q : Nat) : OwnN w (W.drewN q) a c N ys :=
  ⟨h.1, h.2.1, h.2.2.trans (((Gr.refl W).drewN q).below.mono h.2.2.size)⟩
theorem OwnN.append {w W w1 : World} {a a' : Option Addr} {c c' N : Nat} {ys : List Nat} {y : Nat} {t : Obj} (h : OwnN w W a c N ys)
    (ho : w1.ownsRow w.heap.size 3 1 (.slice a' (N + 1) c') (N + 1) (((natI ys).map (Value.int .i64)) ++ [.int .i64 (y : Int)])) (hg : (W.alloc t).grownBy w1 (Value.slice a N c).ownBlock) : OwnN w w1 a' c' (N + 1) (ys ++ [y]) := by
  refine ⟨by rw [List.length_append, h.1]; rfl, by unfold natI at ho ⊢; rw [List.map_append, List.map_append]; exact ho, ?_⟩
  have hb := h.2.2
  exact (hb.alloc hb.size t).grown hg (by have := hb.size; simp; omega) (fun k e => (h.2.1.lt k e).1)
theorem OwnN.ints {w W : World} {a : Option Addr} {c N : Nat} {ys : List Nat} (h : OwnN w W a c N ys) : IntsAt W.heap.size W a N (natI ys) := by
  have := ints_of_own (a := a) (k := N) (c := c) (xs := natI ys) (W := W) (base := w.heap.size)
  have hl : (natI ys).length = N := by unfold natI; rw [List.length_map, h.1]
  have h2 := h.2.1
  subst hl
  exact ints_of_own h2
/-- the slice lies in a block that is new since w -/
def FreshA (w : World) (a : Option Addr) : Prop := ∀ ad, a = some ad → w.heap.size ≤ ad.block
theorem OwnN.fresh {w0 w W : World} {a : Option Addr} {c N : Nat} {ys : List Nat} (h : OwnN w W a c N ys) (hs : w0.heap.size ≤ w.heap.size) : FreshA w0 a := fun ad e => by
  subst e
  have := (h.2.1.lt ad.block rfl).1
  omega
theorem natI_at {ys : List Nat} {i : Nat} (h : i < ys.length) : iA (natI ys) i = (ys[i] : Int) := by
  unfold iA natI
  simp [List.getD_eq_getElem?_getD, h]
/-- the key by which sorted goes -/
def keyB (byHi : Bool) (xs : List Sp) (i : Nat) : Int := if byHi then hiA xs i else loA xs i
theorem ordTo_len (kf : Nat → Int) (u : Nat) (l : List Nat) : (ordTo kf u l).1.length = l.length + (if (ordTo kf u l).2 then 1 else 0) := by
  induction hn : l.length generalizing l with
  | zero =>
    obtain rfl := List.eq_nil_of_length_eq_zero hn
    simp [ordTo]
  | succ n ih =>
    rcases snocN l with rfl | ⟨k, y, rfl⟩
    · simp at hn
    · have := ih k (by simpa using hn)
      rw [ordTo_snoc]
      generalize ordTo kf u k = p at this ⊢
      obtain ⟨o, d⟩ := p
      unfold ordStep
      cases d
      · by_cases h1 : kf u < kf y <;> simp [h1] at this ⊢ <;> omega
      · simp at this ⊢; omega
theorem take_oneN {l : List Nat} {k : Nat} (h : k < l.length) : l.take (k + 1) = l.take k ++ [l[k]] := by rw [List.take_succ_eq_append_getElem h]

set_option maxHeartbeats 8000000 in
set_option maxRecDepth 100000 in
theorem sorted_lo (A : Option Addr) (n cap : Nat) (xs : List Sp) (w : World) (hx : SpansAt w.heap.size w A n xs) (hn : n ≤ 100000) :
    Calls Try.prog 85 #[.slice A n cap, .bool false] w fun e w' => ∃ a c, e = .returned (.slice a n c) ∧ IntsAt w'.heap.size w' a n (natI (sortTo (keyB false xs) n)) ∧ Below w.heap.size w w' ∧ FreshA w a := by
  have mixed := mixedOrders
  obtain ⟨i0, hi0, hz0, hz1, hz2⟩ := info_parts info3
  have HX := hide hx
  have HKF : Hid (∀ k, keyB false xs k = loA xs k) := fun k => rfl
  generalize keyB false xs = kf at HKF ⊢
  clear hx
  go_enter Try.func85, Try.ntmps85
  go_wp2
  go_loopw [5, 6] (fun vo vn wr => ∃ (u : Nat) (a : Option Addr) (c : Nat), u ≤ n ∧ vn = .int .i64 u ∧ vo = .slice a u c ∧ Hid (IntsAt wr.heap.size wr a u (natI (sortTo kf u))) ∧ Hid (Below w.heap.size w wr) ∧ Hid (FreshA w a)) (fun _ vn _ => n - (intOf vn).toNat)
  case atStart => exact ⟨0, none, 0, Nat.zero_le _, rfl, rfl, ⟨rfl, .inl rfl⟩, Below.refl _ _, fun ad h => by cases h⟩
  case round =>
    obtain ⟨u, a, c, hu, rfl, rfl, HI, HB, HFA⟩ := hrel
    by_cases hlt : u < n
    · as_aux_lemma =>
      have hlt' : (u : Int) < (n : Int) := by omega
      obtain ⟨wo, hwo⟩ : ∃ wo : World, wo = wr := ⟨_, rfl⟩
      subst hwo
      have HXo := hide (HX.out.now HB.out (Nat.le_refl _))
      obtain ⟨lst, hlst⟩ : ∃ lst, lst = sortTo kf u := ⟨_, rfl⟩
      rw [← hlst] at HI
      have HLS := hide hlst
      have hll : lst.length = u := by rw [hlst]; exact sortTo_length kf u
      have hlm : ∀ x ∈ lst, x < u := fun x hx => List.mem_range.1 ((sortTo_spec kf u).2.mem_iff.1 (by rw [← hlst]; exact hx))
      have HLL := hide hll
      have HLM := hide hlm
      clear hlst hll hlm HX
      go_wp2
      go_loopw [7, 8, 9] (fun vx vd vi wr => ∃ (i : Nat) (a' : Option Addr) (c' N : Nat) (ys : List Nat) (d : Bool), i ≤ u ∧ vi = .int .i64 i ∧ vd = .bool d ∧ vx = .slice a' N c' ∧ N ≤ i + 1 ∧ Hid (ordTo kf u (lst.take i) = (ys, d)) ∧ Hid (OwnN wo wr a' c' N ys)) (fun _ _ vi _ => u - (intOf vi).toNat)
      case atStart => exact ⟨0, none, 0, 0, [], false, Nat.zero_le _, rfl, rfl, rfl, by omega, rfl, OwnN.nil wo⟩
      case round =>
        obtain ⟨i, a', c', N, ys, d, hi, rfl, rfl, rfl, hNi, HT, HO⟩ := hrel
        have HB1 : Hid (N + 1 ≤ maxLen) := by show _ ≤ _; unfold maxLen; omega
        have HB2 : Hid ((N + 1) * 8 ≤ 140737488355328) := by show _ ≤ _; omega
        have HB3 : Hid (N + 1 + 1 ≤ maxLen) := by show _ ≤ _; unfold maxLen; omega
        have HB4 : Hid ((N + 1 + 1) * 8 ≤ 140737488355328) := by show _ ≤ _; omega
        by_cases hiu : i < u
        · as_aux_lemma =>
          have hiu' : (i : Int) < (u : Int) := by omega
          obtain ⟨o, ho⟩ : ∃ o, o = lst[i]'(by rw [HLL.out]; exact hiu) := ⟨_, rfl⟩
          have hou : o < u := by rw [ho]; exact HLM.out _ (List.getElem_mem _)
          have hon : (o : Int) < (n : Int) := by omega
          obtain ⟨b2, off2, rfl, hb2, co⟩ := HI.out.at_ hiu
          rw [natI_at (by rw [HLL.out]; exact hiu), ← ho] at co
          obtain ⟨b, off, rfl, hb, c0, c1⟩ := HXo.out.at_ hlt
          obtain ⟨c2, c3⟩ := HXo.out.at2 (k := o) (by omega)
          have HT2 : Hid (ordTo kf u (lst.take (i + 1)) = ordStep kf u (ys, d) o) := by show ordTo kf u _ = _; rw [take_oneN (by rw [HLL.out]; exact hiu), ordTo_snoc, HT.out, ← ho]
          have HLN := hide (ordTo_len kf u (lst.take (i + 1)))
          have E0 : ∀ nq, (wr.drewN nq).cell? ⟨b, off + u * 2, none⟩ = some (.int .i64 (loA xs u)) := fun _ => (HO.out.2.2.cell (p := ⟨b, off + u * 2, none⟩) hb).trans c0
          have E1 : ∀ nq, (wr.drewN nq).cell? ⟨b, off + u * 2 + 1, none⟩ = some (.int .i64 (hiA xs u)) := fun _ => (HO.out.2.2.cell (p := ⟨b, off + u * 2 + 1, none⟩) hb).trans c1
          have E2 : ∀ nq, (wr.drewN nq).cell? ⟨b, off + o * 2, none⟩ = some (.int .i64 (loA xs o)) := fun _ => (HO.out.2.2.cell (p := ⟨b, off + o * 2, none⟩) hb).trans c2
          have E3 : ∀ nq, (wr.drewN nq).cell? ⟨b, off + o * 2 + 1, none⟩ = some (.int .i64 (hiA xs o)) := fun _ => (HO.out.2.2.cell (p := ⟨b, off + o * 2 + 1, none⟩) hb).trans c3
          have E4 : ∀ nq, (wr.drewN nq).cell? ⟨b2, off2 + i, none⟩ = some (.int .i64 (o : Int)) := fun _ => (HO.out.2.2.cell (p := ⟨b2, off2 + i, none⟩) hb2).trans co
          have HCO := hide co
          have HKU := HKF.out u
          have HKO := HKF.out o
          have HK1 := hide HKU
          have HK2 := hide HKO
          clear ho c0 c1 c2 c3 co HKU HKO hou
          cases d
          · by_cases hk : loA xs u < loA xs o
            · have hd : decide (loA xs u < loA xs o) = true := decide_eq_true hk
              have HT3 : Hid (ordTo kf u (lst.take (i + 1)) = (ys ++ [u] ++ [o], true)) := by show _ = _; rw [HT2.out]; unfold ordStep; rw [if_pos ⟨rfl, by rw [HK1.out, HK2.out]; exact hk⟩]
              clear hk HT2
              go_wp2_with fail
              go_quiet (fail)
              have HO2 := hide (HO.out.drewN nq)
              have f4 := E4 nq
              clear E0 E1 E2 E3 E4 HO
              generalize wr.drewN nq = W2 at HO2 f4 ⊢
              clear nq
              go_wp2_with (first | (at_builtin; refine wpList_append_own_at _ rfl (.tmp 58) (.tmp 60) _ rfl wo.heap.size 3 i0 (.int .i64 0) 1 8 Try.underlying43 hi0 hz0 hz1 hz2 rfl (by decide) _ _ _ rfl (HO2.out.2.1.alloc _) ⟨W2.heap.size, 0, none⟩ 1 1 [.int .i64 (u : Int)] rfl rfl (cell_one_new _ _ _) (by simp [Value.oneCell']) HB1.out HB2.out (HO2.out.room _) ?_; intro v5 w5 hown5 hgrow5 hnil5 hat5; obtain ⟨a5, c5, rfl⟩ := own_slice hown5; have HO5 := hide (HO2.out.append hown5 hgrow5); have e5 := (HO5.out.2.2.cell (p := ⟨b2, off2 + i, none⟩) hb2).trans HCO.out; clear hown5 hgrow5 hnil5 hat5) | (at_builtin; refine wpList_append_own_at _ rfl (.tmp 62) (.tmp 67) _ rfl wo.heap.size 3 i0 (.int .i64 0) 1 8 Try.underlying43 hi0 hz0 hz1 hz2 rfl (by decide) _ _ _ rfl (HO5.out.2.1.alloc _) ⟨w5.heap.size, 0, none⟩ 1 1 [.int .i64 (o : Int)] rfl rfl (cell_one_new _ _ _) (by simp [Value.oneCell']) HB3.out HB4.out (HO5.out.room _) ?_; intro v6 w6 hown6 hgrow6 hnil6 hat6; obtain ⟨a6, c6, rfl⟩ := own_slice hown6; have HO6 := hide (HO5.out.append hown6 hgrow6); have e6 := (HO6.out.2.2.cell (p := ⟨b2, off2 + i, none⟩) hb2).trans HCO.out; clear hown6 hgrow6 hnil6 hat6))
              go_roundw
              case rel => exact ⟨i + 1, a6, c6, N + 1 + 1, _, true, by omega, by go_num, rfl, rfl, by have h1 := HLN.out; rw [HT3.out] at h1; have h2 := HO6.out.1; have h3 := List.length_take_le (i + 1) lst; simp at h1 h2; omega, HT3, HO6⟩
              case measure => simp [intOf]; omega
            · have hd : decide (loA xs u < loA xs o) = false := decide_eq_false hk
              have HT3 : Hid (ordTo kf u (lst.take (i + 1)) = (ys ++ [o], false)) := by show _ = _; rw [HT2.out]; unfold ordStep; rw [if_neg (fun h => hk (by have := h.2; rwa [HK1.out, HK2.out] at this))]
              clear hk HT2
              go_wp2_with fail
              go_quiet (fail)
              have HO2 := hide (HO.out.drewN nq)
              have f4 := E4 nq
              clear E0 E1 E2 E3 E4 HO
              generalize wr.drewN nq = W2 at HO2 f4 ⊢
              clear nq
              go_wp2_with (at_builtin; refine wpList_append_own_at _ rfl (.tmp 62) (.tmp 67) _ rfl wo.heap.size 3 i0 (.int .i64 0) 1 8 Try.underlying43 hi0 hz0 hz1 hz2 rfl (by decide) _ _ _ rfl (HO2.out.2.1.alloc _) ⟨W2.heap.size, 0, none⟩ 1 1 [.int .i64 (o : Int)] rfl rfl (cell_one_new _ _ _) (by simp [Value.oneCell']) HB1.out HB2.out (HO2.out.room _) ?_; intro v6 w6 hown6 hgrow6 hnil6 hat6; obtain ⟨a6, c6, rfl⟩ := own_slice hown6; have HO6 := hide (HO2.out.append hown6 hgrow6); have e6 := (HO6.out.2.2.cell (p := ⟨b2, off2 + i, none⟩) hb2).trans HCO.out; clear hown6 hgrow6 hnil6 hat6)
              go_roundw
              case rel => exact ⟨i + 1, a6, c6, N + 1, _, false, by omega, by go_num, rfl, rfl, by omega, HT3, HO6⟩
              case measure => simp [intOf]; omega
          · have HT3 : Hid (ordTo kf u (lst.take (i + 1)) = (ys ++ [o], true)) := by show _ = _; rw [HT2.out]; unfold ordStep; rw [if_neg (fun h => by cases h.1)]
            clear HT2
            go_wp2_with fail
            go_quiet (fail)
            have HO2 := hide (HO.out.drewN nq)
            have f4 := E4 nq
            clear E0 E1 E2 E3 E4 HO
            generalize wr.drewN nq = W2 at HO2 f4 ⊢
            clear nq
            go_wp2_with (at_builtin; refine wpList_append_own_at _ rfl (.tmp 62) (.tmp 67) _ rfl wo.heap.size 3 i0 (.int .i64 0) 1 8 Try.underlying43 hi0 hz0 hz1 hz2 rfl (by decide) _ _ _ rfl (HO2.out.2.1.alloc _) ⟨W2.heap.size, 0, none⟩ 1 1 [.int .i64 (o : Int)] rfl rfl (cell_one_new _ _ _) (by simp [Value.oneCell']) HB1.out HB2.out (HO2.out.room _) ?_; intro v6 w6 hown6 hgrow6 hnil6 hat6; obtain ⟨a6, c6, rfl⟩ := own_slice hown6; have HO6 := hide (HO2.out.append hown6 hgrow6); have e6 := (HO6.out.2.2.cell (p := ⟨b2, off2 + i, none⟩) hb2).trans HCO.out; clear hown6 hgrow6 hnil6 hat6)
            go_roundw
            case rel => exact ⟨i + 1, a6, c6, N + 1, _, true, by omega, by go_num, rfl, rfl, by omega, HT3, HO6⟩
            case measure => simp [intOf]; omega
        · obtain rfl : i = u := by omega
          have hT := HT.out
          rw [List.take_of_length_le (by rw [HLL.out]; exact Nat.le_refl _)] at hT
          have hlen := ordTo_len kf i lst
          rw [hT, HLL.out] at hlen
          cases d
          · have HE : Hid (sortTo kf (i + 1) = ys ++ [i]) := by show ordIns kf i (sortTo kf i) = _; rw [← HLS.out]; unfold ordIns; rw [hT]; rfl
            have hN : N = i := by have := HO.out.1; simp at hlen; omega
            subst hN
            clear hT hlen
            go_wp2_with (at_builtin; refine wpList_append_own_at _ rfl (.tmp 71) (.tmp 73) _ rfl wo.heap.size 3 i0 (.int .i64 0) 1 8 Try.underlying43 hi0 hz0 hz1 hz2 rfl (by decide) _ _ _ rfl (HO.out.2.1.alloc _) ⟨wr.heap.size, 0, none⟩ 1 1 [.int .i64 (N : Int)] rfl rfl (cell_one_new _ _ _) (by simp [Value.oneCell']) HB1.out HB2.out (HO.out.room _) ?_; intro v5 w5 hown5 hgrow5 hnil5 hat5; obtain ⟨a5, c5, rfl⟩ := own_slice hown5; have HO5 := hide (HO.out.append hown5 hgrow5); clear hown5 hgrow5 hnil5 hat5)
            go_roundw
            case rel => exact ⟨N + 1, a5, c5, by omega, by go_num, rfl, by rw [HE.out]; exact HO5.out.ints, HB.out.trans (HO5.out.2.2.mono HB.out.size), HO5.out.fresh HB.out.size⟩
            case measure => simp [intOf]; omega
          · have HE : Hid (sortTo kf (i + 1) = ys) := by show ordIns kf i (sortTo kf i) = _; rw [← HLS.out]; unfold ordIns; rw [hT]; rfl
            have hN : N = i + 1 := by have := HO.out.1; simp at hlen; omega
            subst hN
            clear hT hlen
            go_wp2
            go_roundw
            case rel => exact ⟨i + 1, a', c', by omega, by go_num, rfl, by rw [HE.out]; exact HO.out.ints, HB.out.trans (HO.out.2.2.mono HB.out.size), HO.out.fresh HB.out.size⟩
            case measure => simp [intOf]; omega
    · obtain rfl : u = n := by omega
      go_wp2
      go_ret
      exact ⟨a, c, rfl, HI.out, HB.out, HFA.out⟩

set_option maxHeartbeats 8000000 in
set_option maxRecDepth 100000 in
theorem sorted_hi (A : Option Addr) (n cap : Nat) (xs : List Sp) (w : World) (hx : SpansAt w.heap.size w A n xs) (hn : n ≤ 100000) :
    Calls Try.prog 85 #[.slice A n cap, .bool true] w fun e w' => ∃ a c, e = .returned (.slice a n c) ∧ IntsAt w'.heap.size w' a n (natI (sortTo (keyB true xs) n)) ∧ Below w.heap.size w w' ∧ FreshA w a := by
  have mixed := mixedOrders
  obtain ⟨i0, hi0, hz0, hz1, hz2⟩ := info_parts info3
  have HX := hide hx
  have HKF : Hid (∀ k, keyB true xs k = hiA xs k) := fun k => rfl
  generalize keyB true xs = kf at HKF ⊢
  clear hx
  go_enter Try.func85, Try.ntmps85
  go_wp2
  go_loopw [5, 6] (fun vo vn wr => ∃ (u : Nat) (a : Option Addr) (c : Nat), u ≤ n ∧ vn = .int .i64 u ∧ vo = .slice a u c ∧ Hid (IntsAt wr.heap.size wr a u (natI (sortTo kf u))) ∧ Hid (Below w.heap.size w wr) ∧ Hid (FreshA w a)) (fun _ vn _ => n - (intOf vn).toNat)
  case atStart => exact ⟨0, none, 0, Nat.zero_le _, rfl, rfl, ⟨rfl, .inl rfl⟩, Below.refl _ _, fun ad h => by cases h⟩
  case round =>
    obtain ⟨u, a, c, hu, rfl, rfl, HI, HB, HFA⟩ := hrel
    by_cases hlt : u < n
    · as_aux_lemma =>
      have hlt' : (u : Int) < (n : Int) := by omega
      obtain ⟨wo, hwo⟩ : ∃ wo : World, wo = wr := ⟨_, rfl⟩
      subst hwo
      have HXo := hide (HX.out.now HB.out (Nat.le_refl _))
      obtain ⟨lst, hlst⟩ : ∃ lst, lst = sortTo kf u := ⟨_, rfl⟩
      rw [← hlst] at HI
      have HLS := hide hlst
      have hll : lst.length = u := by rw [hlst]; exact sortTo_length kf u
      have hlm : ∀ x ∈ lst, x < u := fun x hx => List.mem_range.1 ((sortTo_spec kf u).2.mem_iff.1 (by rw [← hlst]; exact hx))
      have HLL := hide hll
      have HLM := hide hlm
      clear hlst hll hlm HX
      go_wp2
      go_loopw [7, 8, 9] (fun vx vd vi wr => ∃ (i : Nat) (a' : Option Addr) (c' N : Nat) (ys : List Nat) (d : Bool), i ≤ u ∧ vi = .int .i64 i ∧ vd = .bool d ∧ vx = .slice a' N c' ∧ N ≤ i + 1 ∧ Hid (ordTo kf u (lst.take i) = (ys, d)) ∧ Hid (OwnN wo wr a' c' N ys)) (fun _ _ vi _ => u - (intOf vi).toNat)
      case atStart => exact ⟨0, none, 0, 0, [], false, Nat.zero_le _, rfl, rfl, rfl, by omega, rfl, OwnN.nil wo⟩
      case round =>
        obtain ⟨i, a', c', N, ys, d, hi, rfl, rfl, rfl, hNi, HT, HO⟩ := hrel
        have HB1 : Hid (N + 1 ≤ maxLen) := by show _ ≤ _; unfold maxLen; omega
        have HB2 : Hid ((N + 1) * 8 ≤ 140737488355328) := by show _ ≤ _; omega
        have HB3 : Hid (N + 1 + 1 ≤ maxLen) := by show _ ≤ _; unfold maxLen; omega
        have HB4 : Hid ((N + 1 + 1) * 8 ≤ 140737488355328) := by show _ ≤ _; omega
        by_cases hiu : i < u
        · as_aux_lemma =>
          have hiu' : (i : Int) < (u : Int) := by omega
          obtain ⟨o, ho⟩ : ∃ o, o = lst[i]'(by rw [HLL.out]; exact hiu) := ⟨_, rfl⟩
          have hou : o < u := by rw [ho]; exact HLM.out _ (List.getElem_mem _)
          have hon : (o : Int) < (n : Int) := by omega
          obtain ⟨b2, off2, rfl, hb2, co⟩ := HI.out.at_ hiu
          rw [natI_at (by rw [HLL.out]; exact hiu), ← ho] at co
          obtain ⟨b, off, rfl, hb, c0, c1⟩ := HXo.out.at_ hlt
          obtain ⟨c2, c3⟩ := HXo.out.at2 (k := o) (by omega)
          have HT2 : Hid (ordTo kf u (lst.take (i + 1)) = ordStep kf u (ys, d) o) := by show ordTo kf u _ = _; rw [take_oneN (by rw [HLL.out]; exact hiu), ordTo_snoc, HT.out, ← ho]
          have HLN := hide (ordTo_len kf u (lst.take (i + 1)))
          have E0 : ∀ nq, (wr.drewN nq).cell? ⟨b, off + u * 2, none⟩ = some (.int .i64 (loA xs u)) := fun _ => (HO.out.2.2.cell (p := ⟨b, off + u * 2, none⟩) hb).trans c0
          have E1 : ∀ nq, (wr.drewN nq).cell? ⟨b, off + u * 2 + 1, none⟩ = some (.int .i64 (hiA xs u)) := fun _ => (HO.out.2.2.cell (p := ⟨b, off + u * 2 + 1, none⟩) hb).trans c1
          have E2 : ∀ nq, (wr.drewN nq).cell? ⟨b, off + o * 2, none⟩ = some (.int .i64 (loA xs o)) := fun _ => (HO.out.2.2.cell (p := ⟨b, off + o * 2, none⟩) hb).trans c2
          have E3 : ∀ nq, (wr.drewN nq).cell? ⟨b, off + o * 2 + 1, none⟩ = some (.int .i64 (hiA xs o)) := fun _ => (HO.out.2.2.cell (p := ⟨b, off + o * 2 + 1, none⟩) hb).trans c3
          have E4 : ∀ nq, (wr.drewN nq).cell? ⟨b2, off2 + i, none⟩ = some (.int .i64 (o : Int)) := fun _ => (HO.out.2.2.cell (p := ⟨b2, off2 + i, none⟩) hb2).trans co
          have HCO := hide co
          have HKU := HKF.out u
          have HKO := HKF.out o
          have HK1 := hide HKU
          have HK2 := hide HKO
          clear ho c0 c1 c2 c3 co HKU HKO hou
          cases d
          · by_cases hk : hiA xs u < hiA xs o
            · have hd : decide (hiA xs u < hiA xs o) = true := decide_eq_true hk
              have HT3 : Hid (ordTo kf u (lst.take (i + 1)) = (ys ++ [u] ++ [o], true)) := by show _ = _; rw [HT2.out]; unfold ordStep; rw [if_pos ⟨rfl, by rw [HK1.out, HK2.out]; exact hk⟩]
              clear hk HT2
              go_wp2_with fail
              go_quiet (fail)
              have HO1 := hide (HO.out.drewN nq)
              have E0' : ∀ mq, ((wr.drewN nq).drewN mq).cell? ⟨b, off + u * 2 + 1, none⟩ = some (.int .i64 (hiA xs u)) := fun _ => E1 0
              have E1' : ∀ mq, ((wr.drewN nq).drewN mq).cell? ⟨b, off + o * 2 + 1, none⟩ = some (.int .i64 (hiA xs o)) := fun _ => E3 0
              have E2' : ∀ mq, ((wr.drewN nq).drewN mq).cell? ⟨b2, off2 + i, none⟩ = some (.int .i64 (o : Int)) := fun _ => E4 0
              clear E0 E1 E2 E3 E4
              generalize wr.drewN nq = W1 at HO1 E0' E1' E2' ⊢
              clear nq HO
              go_wp2_with fail
              go_quiet (fail)
              have HO2 := hide (HO1.out.drewN nq)
              have f4 := E2' nq
              clear E0' E1' E2' HO1
              generalize W1.drewN nq = W2 at HO2 f4 ⊢
              clear nq
              go_wp2_with (first | (at_builtin; refine wpList_append_own_at _ rfl (.tmp 58) (.tmp 60) _ rfl wo.heap.size 3 i0 (.int .i64 0) 1 8 Try.underlying43 hi0 hz0 hz1 hz2 rfl (by decide) _ _ _ rfl (HO2.out.2.1.alloc _) ⟨W2.heap.size, 0, none⟩ 1 1 [.int .i64 (u : Int)] rfl rfl (cell_one_new _ _ _) (by simp [Value.oneCell']) HB1.out HB2.out (HO2.out.room _) ?_; intro v5 w5 hown5 hgrow5 hnil5 hat5; obtain ⟨a5, c5, rfl⟩ := own_slice hown5; have HO5 := hide (HO2.out.append hown5 hgrow5); have e5 := (HO5.out.2.2.cell (p := ⟨b2, off2 + i, none⟩) hb2).trans HCO.out; clear hown5 hgrow5 hnil5 hat5) | (at_builtin; refine wpList_append_own_at _ rfl (.tmp 62) (.tmp 67) _ rfl wo.heap.size 3 i0 (.int .i64 0) 1 8 Try.underlying43 hi0 hz0 hz1 hz2 rfl (by decide) _ _ _ rfl (HO5.out.2.1.alloc _) ⟨w5.heap.size, 0, none⟩ 1 1 [.int .i64 (o : Int)] rfl rfl (cell_one_new _ _ _) (by simp [Value.oneCell']) HB3.out HB4.out (HO5.out.room _) ?_; intro v6 w6 hown6 hgrow6 hnil6 hat6; obtain ⟨a6, c6, rfl⟩ := own_slice hown6; have HO6 := hide (HO5.out.append hown6 hgrow6); have e6 := (HO6.out.2.2.cell (p := ⟨b2, off2 + i, none⟩) hb2).trans HCO.out; clear hown6 hgrow6 hnil6 hat6))
              go_roundw
              case rel => exact ⟨i + 1, a6, c6, N + 1 + 1, _, true, by omega, by go_num, rfl, rfl, by have h1 := HLN.out; rw [HT3.out] at h1; have h2 := HO6.out.1; have h3 := List.length_take_le (i + 1) lst; simp at h1 h2; omega, HT3, HO6⟩
              case measure => simp [intOf]; omega
            · have hd : decide (hiA xs u < hiA xs o) = false := decide_eq_false hk
              have HT3 : Hid (ordTo kf u (lst.take (i + 1)) = (ys ++ [o], false)) := by show _ = _; rw [HT2.out]; unfold ordStep; rw [if_neg (fun h => hk (by have := h.2; rwa [HK1.out, HK2.out] at this))]
              clear hk HT2
              go_wp2_with fail
              go_quiet (fail)
              have HO1 := hide (HO.out.drewN nq)
              have E0' : ∀ mq, ((wr.drewN nq).drewN mq).cell? ⟨b, off + u * 2 + 1, none⟩ = some (.int .i64 (hiA xs u)) := fun _ => E1 0
              have E1' : ∀ mq, ((wr.drewN nq).drewN mq).cell? ⟨b, off + o * 2 + 1, none⟩ = some (.int .i64 (hiA xs o)) := fun _ => E3 0
              have E2' : ∀ mq, ((wr.drewN nq).drewN mq).cell? ⟨b2, off2 + i, none⟩ = some (.int .i64 (o : Int)) := fun _ => E4 0
              clear E0 E1 E2 E3 E4
              generalize wr.drewN nq = W1 at HO1 E0' E1' E2' ⊢
              clear nq HO
              go_wp2_with fail
              go_quiet (fail)
              have HO2 := hide (HO1.out.drewN nq)
              have f4 := E2' nq
              clear E0' E1' E2' HO1
              generalize W1.drewN nq = W2 at HO2 f4 ⊢
              clear nq
              go_wp2_with (at_builtin; refine wpList_append_own_at _ rfl (.tmp 62) (.tmp 67) _ rfl wo.heap.size 3 i0 (.int .i64 0) 1 8 Try.underlying43 hi0 hz0 hz1 hz2 rfl (by decide) _ _ _ rfl (HO2.out.2.1.alloc _) ⟨W2.heap.size, 0, none⟩ 1 1 [.int .i64 (o : Int)] rfl rfl (cell_one_new _ _ _) (by simp [Value.oneCell']) HB1.out HB2.out (HO2.out.room _) ?_; intro v6 w6 hown6 hgrow6 hnil6 hat6; obtain ⟨a6, c6, rfl⟩ := own_slice hown6; have HO6 := hide (HO2.out.append hown6 hgrow6); have e6 := (HO6.out.2.2.cell (p := ⟨b2, off2 + i, none⟩) hb2).trans HCO.out; clear hown6 hgrow6 hnil6 hat6)
              go_roundw
              case rel => exact ⟨i + 1, a6, c6, N + 1, _, false, by omega, by go_num, rfl, rfl, by omega, HT3, HO6⟩
              case measure => simp [intOf]; omega
          · have HT3 : Hid (ordTo kf u (lst.take (i + 1)) = (ys ++ [o], true)) := by show _ = _; rw [HT2.out]; unfold ordStep; rw [if_neg (fun h => by cases h.1)]
            clear HT2
            go_wp2_with fail
            go_quiet (fail)
            have HO1 := hide (HO.out.drewN nq)
            have E0' : ∀ mq, ((wr.drewN nq).drewN mq).cell? ⟨b, off + u * 2 + 1, none⟩ = some (.int .i64 (hiA xs u)) := fun _ => E1 0
            have E1' : ∀ mq, ((wr.drewN nq).drewN mq).cell? ⟨b, off + o * 2 + 1, none⟩ = some (.int .i64 (hiA xs o)) := fun _ => E3 0
            have E2' : ∀ mq, ((wr.drewN nq).drewN mq).cell? ⟨b2, off2 + i, none⟩ = some (.int .i64 (o : Int)) := fun _ => E4 0
            clear E0 E1 E2 E3 E4
            generalize wr.drewN nq = W1 at HO1 E0' E1' E2' ⊢
            clear nq HO
            go_wp2_with fail
            go_quiet (fail)
            have HO2 := hide (HO1.out.drewN nq)
            have f4 := E2' nq
            clear E0' E1' E2' HO1
            generalize W1.drewN nq = W2 at HO2 f4 ⊢
            clear nq
            go_wp2_with (at_builtin; refine wpList_append_own_at _ rfl (.tmp 62) (.tmp 67) _ rfl wo.heap.size 3 i0 (.int .i64 0) 1 8 Try.underlying43 hi0 hz0 hz1 hz2 rfl (by decide) _ _ _ rfl (HO2.out.2.1.alloc _) ⟨W2.heap.size, 0, none⟩ 1 1 [.int .i64 (o : Int)] rfl rfl (cell_one_new _ _ _) (by simp [Value.oneCell']) HB1.out HB2.out (HO2.out.room _) ?_; intro v6 w6 hown6 hgrow6 hnil6 hat6; obtain ⟨a6, c6, rfl⟩ := own_slice hown6; have HO6 := hide (HO2.out.append hown6 hgrow6); have e6 := (HO6.out.2.2.cell (p := ⟨b2, off2 + i, none⟩) hb2).trans HCO.out; clear hown6 hgrow6 hnil6 hat6)
            go_roundw
            case rel => exact ⟨i + 1, a6, c6, N + 1, _, true, by omega, by go_num, rfl, rfl, by omega, HT3, HO6⟩
            case measure => simp [intOf]; omega
        · obtain rfl : i = u := by omega
          have hT := HT.out
          rw [List.take_of_length_le (by rw [HLL.out]; exact Nat.le_refl _)] at hT
          have hlen := ordTo_len kf i lst
          rw [hT, HLL.out] at hlen
          cases d
          · have HE : Hid (sortTo kf (i + 1) = ys ++ [i]) := by show ordIns kf i (sortTo kf i) = _; rw [← HLS.out]; unfold ordIns; rw [hT]; rfl
            have hN : N = i := by have := HO.out.1; simp at hlen; omega
            subst hN
            clear hT hlen
            go_wp2_with (at_builtin; refine wpList_append_own_at _ rfl (.tmp 71) (.tmp 73) _ rfl wo.heap.size 3 i0 (.int .i64 0) 1 8 Try.underlying43 hi0 hz0 hz1 hz2 rfl (by decide) _ _ _ rfl (HO.out.2.1.alloc _) ⟨wr.heap.size, 0, none⟩ 1 1 [.int .i64 (N : Int)] rfl rfl (cell_one_new _ _ _) (by simp [Value.oneCell']) HB1.out HB2.out (HO.out.room _) ?_; intro v5 w5 hown5 hgrow5 hnil5 hat5; obtain ⟨a5, c5, rfl⟩ := own_slice hown5; have HO5 := hide (HO.out.append hown5 hgrow5); clear hown5 hgrow5 hnil5 hat5)
            go_roundw
            case rel => exact ⟨N + 1, a5, c5, by omega, by go_num, rfl, by rw [HE.out]; exact HO5.out.ints, HB.out.trans (HO5.out.2.2.mono HB.out.size), HO5.out.fresh HB.out.size⟩
            case measure => simp [intOf]; omega
          · have HE : Hid (sortTo kf (i + 1) = ys) := by show ordIns kf i (sortTo kf i) = _; rw [← HLS.out]; unfold ordIns; rw [hT]; rfl
            have hN : N = i + 1 := by have := HO.out.1; simp at hlen; omega
            subst hN
            clear hT hlen
            go_wp2
            go_roundw
            case rel => exact ⟨i + 1, a', c', by omega, by go_num, rfl, by rw [HE.out]; exact HO.out.ints, HB.out.trans (HO.out.2.2.mono HB.out.size), HO.out.fresh HB.out.size⟩
            case measure => simp [intOf]; omega
    · obtain rfl : u = n := by omega
      go_wp2
      go_ret
      exact ⟨a, c, rfl, HI.out, HB.out, HFA.out⟩

end Go.Proofs.Ytikfiofjhmeheaa
