/- Curves in memory; contracts of the library's Sort at an own row, and of allSlopes. -/
import Derived.Test.YtdepnhnpklbmiaaA1
import Derived.Lib.OwnBridge
import Derived.Laws.AppendOwnNone
import Derived.Maps.AppendAt
namespace Go.Proofs.Ytdepnhnpklbmiaa
open Go.RowKit Go.Sort

/-- a curve's slopes lie below B -/
structure CuAt (B : Nat) (w : World) (c : Cu) (A : Option Addr) (n cap : Nat) : Prop where
  sl : IntsAt B w A n c.sl
  old : 0 < n → ∀ ad, A = some ad → ad.block < B
  nil : A = none → n = 0 ∧ cap = 0
theorem CuAt.now {B : Nat} {w w' : World} {c : Cu} {A : Option Addr} {n cap : Nat} (h : CuAt B w c A n cap) (hb : Below B w w') (hB : B ≤ w.heap.size) : CuAt w'.heap.size w' c A n cap :=
  ⟨h.sl.now hb hB, fun hz ad e => by have := h.old hz ad e; have := hb.size; omega, h.nil⟩
theorem CuAt.below {B : Nat} {w w' : World} {c : Cu} {A : Option Addr} {n cap : Nat} (h : CuAt B w c A n cap) (hb : Below B w w') : CuAt B w' c A n cap :=
  ⟨h.sl.below hb, h.old, h.nil⟩
theorem CuAt.gr {w w' : World} {c : Cu} {A : Option Addr} {n cap : Nat} (h : CuAt w.heap.size w c A n cap) (hg : Gr w w') : CuAt w'.heap.size w' c A n cap := h.now hg.below (Nat.le_refl _)

/-- a list of curves in memory; the i-th one's slopes are the slice ss i -/
structure CurvesAt (B : Nat) (w : World) (A : Option Addr) (n : Nat) (cs : Nat → Cu) (ss : Nat → Option Addr × Nat × Nat) : Prop where
  row : n = 0 ∨ ∃ b off, A = some ⟨b, off, none⟩ ∧ b < B ∧ ∀ i, i < n → w.cell? ⟨b, off + i * 3, none⟩ = some (.int .i64 (cs i).fr) ∧ w.cell? ⟨b, off + i * 3 + 1, none⟩ = some (.int .i64 (cs i).fst) ∧ w.cell? ⟨b, off + i * 3 + 2, none⟩ = some (.slice (ss i).1 (ss i).2.1 (ss i).2.2)
  cu : ∀ i, i < n → CuAt B w (cs i) (ss i).1 (ss i).2.1 (ss i).2.2
theorem CurvesAt.below {B : Nat} {w w' : World} {A : Option Addr} {n : Nat} {cs : Nat → Cu} {ss : Nat → Option Addr × Nat × Nat} (h : CurvesAt B w A n cs ss) (hb : Below B w w') : CurvesAt B w' A n cs ss :=
  ⟨h.row.imp id fun ⟨b, off, h1, h2, h3⟩ => ⟨b, off, h1, h2, fun i hi => ⟨(hb.cell (p := ⟨b, _, none⟩) h2).trans (h3 i hi).1, (hb.cell (p := ⟨b, _, none⟩) h2).trans (h3 i hi).2.1, (hb.cell (p := ⟨b, _, none⟩) h2).trans (h3 i hi).2.2⟩⟩, fun i hi => (h.cu i hi).below hb⟩
theorem CurvesAt.now {B : Nat} {w w' : World} {A : Option Addr} {n : Nat} {cs : Nat → Cu} {ss : Nat → Option Addr × Nat × Nat} (h : CurvesAt B w A n cs ss) (hb : Below B w w') (hB : B ≤ w.heap.size) : CurvesAt w'.heap.size w' A n cs ss :=
  ⟨h.row.imp id fun ⟨b, off, h1, h2, h3⟩ => ⟨b, off, h1, by have := hb.size; omega, fun i hi => ⟨(hb.cell (p := ⟨b, _, none⟩) h2).trans (h3 i hi).1, (hb.cell (p := ⟨b, _, none⟩) h2).trans (h3 i hi).2.1, (hb.cell (p := ⟨b, _, none⟩) h2).trans (h3 i hi).2.2⟩⟩, fun i hi => (h.cu i hi).now hb hB⟩
theorem CurvesAt.at_ {B : Nat} {w : World} {A : Option Addr} {n : Nat} {cs : Nat → Cu} {ss : Nat → Option Addr × Nat × Nat} (h : CurvesAt B w A n cs ss) {k : Nat} (hk : k < n) :
    ∃ b off, A = some ⟨b, off, none⟩ ∧ b < B ∧ w.cell? ⟨b, off + k * 3, none⟩ = some (.int .i64 (cs k).fr) ∧ w.cell? ⟨b, off + k * 3 + 1, none⟩ = some (.int .i64 (cs k).fst) ∧ w.cell? ⟨b, off + k * 3 + 2, none⟩ = some (.slice (ss k).1 (ss k).2.1 (ss k).2.2) := by
  rcases h.row with h0 | ⟨b, off, e, hlt, hc⟩
  · omega
  · exact ⟨b, off, e, hlt, hc k hk⟩

/-- the numbers, sorted -/
def sortI (zs : List Int) : List Int := zs.mergeSort fun x y => decide (x ≤ y)
theorem sortI_length (zs : List Int) : (sortI zs).length = zs.length := List.length_mergeSort zs
theorem sort_own {w : World} {base N c : Nat} {a : Option Addr} {zs : List Int} (h : w.ownsRow base 3 1 (.slice a N c) N (zs.map (Value.int .i64))) (hN : N ≤ 1000000) :
    Calls Try.prog 82 #[.slice a N c] w fun e w' => e = .returned (.tuple #[]) ∧ w'.ownsRow base 3 1 (.slice a N c) N ((sortI zs).map (Value.int .i64)) ∧ w.heap.size ≤ w'.heap.size ∧ ∀ n w0, n ≤ base → Below n w0 w → Below n w0 w' := by
  have hl : zs.length = N := by simpa using h.1
  by_cases hv : (Value.slice a N c) = .slice none 0 0
  · injection hv with h1 h2 h3
    subst h1; subst h2; subst h3
    have hz : zs = [] := List.eq_nil_of_length_eq_zero hl
    subst hz
    refine (lib_Sort_int_none none 0 w).mono ?_
    rintro e w' ⟨rfl, rfl⟩
    exact ⟨rfl, by simpa [sortI] using h, Nat.le_refl _, fun n w0 _ hb => hb⟩
  · obtain ⟨g, cap, e1, h1, h2, h3, h4, h5, h6⟩ := Lib.holds_of_ownsRow h hv
    injection e1 with e1 _ e3
    subst e1; subst e3
    have hs := lib_Sort_int g 0 c zs w h6 h2 (by omega)
    rw [h5] at hs
    refine hs.mono ?_
    rintro e w' ⟨rfl, n, os, rfl⟩
    have ho := Lib.ownsRow_putRow (enc := Value.int .i64) (q := n) (k := N) (ys := sortI zs) h (by rw [sortI_length]; exact hl) (Nat.le_refl _)
    rw [List.take_of_length_le (by rw [sortI_length]; omega)] at ho
    have hg : Gr (putRow (Value.int .i64) (Sort.ahead w n) g 0 (zs.mergeSort fun x y => decide (x ≤ y)).toArray) (grow (putRow (Value.int .i64) (Sort.ahead w n) g 0 (zs.mergeSort fun x y => decide (x ≤ y)).toArray) os) := ⟨0, os, rfl⟩
    refine ⟨rfl, ho.kept (hg.grownBy none) (.inr (by simp [Value.ownBlock])), ?_, fun m w0 hm hb => ?_⟩
    · simp [putRow, mapBlock, Sort.ahead]
    · have hb2 := Lib.below_putRow (enc := Value.int .i64) (g := g) (q := n) (d := (zs.mergeSort fun x y => decide (x ≤ y)).toArray) hb (Nat.le_trans hm h1)
      have hsp : (putRow (Value.int .i64) (Sort.ahead w n) g 0 (zs.mergeSort fun x y => decide (x ≤ y)).toArray).heap.size = w.heap.size := by simp [putRow, mapBlock, Sort.ahead]
      exact hb2.trans (hg.below.mono (by rw [hsp]; omega))

theorem addr_add (b o j : Nat) : (⟨b, o, none⟩ : Addr).add j = ⟨b, o + j, none⟩ := by
  by_cases h0 : j = 0
  · subst h0; rfl
  · simp [Addr.add, h0]
/-- the slopes of the first k curves -/
def catL (cs : Nat → Cu) : Nat → List Int
  | 0 => []
  | k + 1 => catL cs k ++ (cs k).sl
def AllPost (zs : List Int) (w : World) (e : Ending) (w' : World) : Prop := ∃ a c, e = .returned (.slice a zs.length c) ∧ w'.ownsRow w.heap.size 3 1 (.slice a zs.length c) zs.length (zs.map (Value.int .i64)) ∧ Below w.heap.size w w'
theorem info3 : (Try.prog.info? 3).map (fun i => (i.zero, i.size, i.bytes)) = some (some (.int .i64 0), 1, 8) := by kernel_rfl
theorem own_slice {w : World} {base : Nat} {e : TypeId} {size n : Nat} {v : Value} {xs : List Value} (h : w.ownsRow base e size v n xs) : ∃ a c, v = .slice a n c := by
  rcases h.2 with ⟨rfl, rfl⟩ | ⟨g, cap, cur, rfl, _⟩
  · exact ⟨_, _, rfl⟩
  · exact ⟨_, _, rfl⟩

set_option maxHeartbeats 4000000 in
set_option maxRecDepth 100000 in
theorem allSlopes_any (A : Option Addr) (n cap : Nat) (cs : Nat → Cu) (ss : Nat → Option Addr × Nat × Nat) (w : World) (hx : CurvesAt w.heap.size w A n cs ss) (hn : n ≤ 1000) (hm : ∀ i, i < n → (cs i).sl.length ≤ 64) :
    Calls Try.prog 66 #[.slice A n cap] w (AllPost (sortI (catL cs n)) w) := by
  have mixed := mixedOrders
  obtain ⟨i0, hi0, hz0, hz1, hz2⟩ := info_parts info3
  have HX := hide hx
  have HM := hide hm
  clear hx hm
  go_enter Try.func66, Try.ntmps66
  go_wp2
  go_loopw [3, 8] (fun vs vi wr => ∃ (i : Nat) (a : Option Addr) (c N : Nat), i ≤ n ∧ vi = .int .i64 i ∧ vs = .slice a N c ∧ N ≤ 64 * i ∧ Hid (wr.ownsRow w.heap.size 3 1 (.slice a N c) N ((catL cs i).map (Value.int .i64))) ∧ Hid (Below w.heap.size w wr)) (fun _ vi _ => n - (intOf vi).toNat)
  case atStart => exact ⟨0, none, 0, 0, Nat.zero_le _, rfl, rfl, Nat.zero_le _, World.ownsRow_nil _ _ _ _, Below.refl _ _⟩
  case round =>
    obtain ⟨i, a, c, N, hi, rfl, rfl, hN, HO, HB⟩ := hrel
    by_cases hin : i < n
    · have hin' : (i : Int) < (n : Int) := by omega
      obtain ⟨b, off, rfl, hb, c0, c1, c2⟩ := HX.out.at_ hin
      have d0 := (HB.out.cell (p := ⟨b, off + i * 3, none⟩) hb).trans c0
      have d1 := (HB.out.cell (p := ⟨b, off + i * 3 + 1, none⟩) hb).trans c1
      have d2 := (HB.out.cell (p := ⟨b, off + i * 3 + 2, none⟩) hb).trans c2
      have HCU := hide (HX.out.cu i hin)
      have hlen := HM.out i hin
      have HS : Hid (catL cs (i + 1) = catL cs i ++ (cs i).sl) := rfl
      generalize cs i = ci at d0 d1 HCU HS hlen
      generalize ss i = si at d2 HCU
      obtain ⟨Ai, ni, ki⟩ := si
      have d2 : wr.cell? ⟨b, off + i * 3 + 2, none⟩ = some (.slice Ai ni ki) := d2
      have HCU : Hid (CuAt w.heap.size w ci Ai ni ki) := HCU
      have hl := HCU.out.sl.1
      have hsz := HB.out.size
      obtain ⟨W1, hW1⟩ : ∃ W1, wr.alloc (.cells #[.int .i64 ci.fr, .int .i64 ci.fst, .slice Ai ni ki] 24) = W1 := ⟨_, rfl⟩
      have HO1 : Hid (W1.ownsRow w.heap.size 3 1 (.slice a N c) N ((catL cs i).map (Value.int .i64))) := by show World.ownsRow _ _ _ _ _ _ _; rw [← hW1]; exact HO.out.alloc _
      have HB1 : Hid (Below w.heap.size w W1) := by show Below _ _ _; rw [← hW1]; exact HB.out.alloc hsz _
      have e2 : W1.cell? ⟨wr.heap.size, 2, none⟩ = some (.slice Ai ni ki) := by rw [← hW1]; simp
      have hs1 : w.heap.size ≤ W1.heap.size := HB1.out.size
      have HB63 : Hid (N + ni ≤ maxLen) := hide (by unfold maxLen; omega)
      have HBB : Hid ((N + ni) * 8 ≤ 140737488355328) := hide (by omega)
      have HII := hide (HCU.out.sl.below HB1.out)
      clear c0 c1 c2 HO HB
      cases Ai with
      | none =>
        obtain ⟨rfl, rfl⟩ := HCU.out.nil rfl
        have HE : Hid (catL cs (i + 1) = catL cs i) := by show _ = _; rw [HS.out, List.eq_nil_of_length_eq_zero hl, List.append_nil]
        subst hW1
        go_wp2_with (at_builtin; refine wpList_append_own_none rfl (.tmp 12) (.tmp 14) _ rfl w.heap.size 3 i0 1 Try.underlying22 hi0 _ _ _ rfl HO1.out rfl ?_)
        go_roundw
        case rel => exact ⟨i + 1, a, c, N, by omega, by go_num, rfl, by omega, by rw [HE.out]; exact HO1.out, HB1⟩
        case measure => simp [intOf]; omega
      | some ad =>
        have HNEW : Hid (∀ j u, (ci.sl.map (Value.int .i64))[j]? = some u → W1.cell? (ad.add j) = some u) := fun j u hu => by
          obtain ⟨hll, h0 | ⟨b', off', e, hb', hc⟩⟩ := HII.out
          · have : ci.sl = [] := List.eq_nil_of_length_eq_zero (by omega)
            rw [this] at hu
            simp at hu
          · injection e with e
            subst e
            rw [List.getElem?_map] at hu
            have hj : j < ci.sl.length := by
              rcases Nat.lt_or_ge j ci.sl.length with h | h
              · exact h
              · rw [List.getElem?_eq_none h] at hu
                cases hu
            rw [List.getElem?_eq_getElem hj] at hu
            injection hu with hu
            subst hu
            have := hc j (by omega)
            rw [iA_get hj] at this
            rw [addr_add]
            exact this
        go_wp2_with (at_builtin; refine wpList_append_own_at _ rfl (.tmp 12) (.tmp 14) _ rfl w.heap.size 3 i0 (.int .i64 0) 1 8 Try.underlying22 hi0 hz0 hz1 hz2 rfl (by decide) _ _ _ rfl HO1.out ad ni ki (ci.sl.map (Value.int .i64)) rfl (by simp [hl]) HNEW.out (by intro u hu; obtain ⟨y, _, rfl⟩ := List.mem_map.1 hu; rfl) HB63.out HBB.out hs1 ?_; intro v5 w5 hown5 hgrow5 hnil5 hat5; obtain ⟨a5, c5, rfl⟩ := own_slice hown5; have HO5 : Hid (w5.ownsRow w.heap.size 3 1 (.slice a5 (N + ni) c5) (N + ni) ((catL cs (i + 1)).map (Value.int .i64))) := (by show World.ownsRow _ _ _ _ _ _ _; rw [HS.out, List.map_append]; exact hown5); have HB5 : Hid (Below w.heap.size w w5) := hide (HB1.out.grown hgrow5 hs1 (fun k e => (HO1.out.lt k e).1)); clear hown5 hgrow5 hnil5 hat5)
        go_roundw
        case rel => exact ⟨i + 1, a5, c5, N + ni, by omega, by go_num, rfl, by omega, HO5, HB5⟩
        case measure => simp [intOf]; omega
    · obtain rfl : i = n := by omega
      have HSO := hide (sort_own HO.out (by omega))
      have hcl : (catL cs i).length = N := by simpa using HO.out.1
      go_wp2_with fail
      refine HSO.out.mono ?_
      rintro e w5 ⟨rfl, ho, hsz, hbb⟩
      have HO5 := hide ho
      have HB5 := hide (hbb _ _ (Nat.le_refl _) HB.out)
      clear ho hbb HSO
      go_wp2
      go_ret
      have hln : (sortI (catL cs i)).length = N := by rw [sortI_length, hcl]
      exact ⟨a, c, by rw [hln]; rfl, by rw [hln]; exact HO5.out, HB5.out⟩

end Go.Proofs.Ytdepnhnpklbmiaa
