/- slices.Backward; Root. -/
import Derived.Test.YtbinmkigolkhcaaDoorZB
import Derived.RangeFuncNested
import Derived.RangeFuncBound
import Derived.RangeFuncCalls
import Derived.RangeFuncLeaves
import Derived.RangeFuncBox
import Derived.Shelf.Abstract
import Derived.Shelf.RegionOpen
import Derived.OwnWalkIn
import Derived.TacticsInMore
import Derived.LoopNIn
import Derived.LoopIn
set_option linter.unusedSimpArgs false
set_option linter.unusedVariables false
namespace Go.Proofs.YtbinmkigolkhcaaDoor
open Go.RowKit Go.Sort Go.Shelf
attribute [local go_sem] Oper.semAt_some

/-- the blocks below D but g are as they were -/
def KpG (D g : Nat) (A B : World) : Prop := ∀ k, k < D → k ≠ g → B.heap[k]? = A.heap[k]?
theorem KpG.t {D g : Nat} {A B C : World} (h : KpG D g A B) (k : KpG D g B C) : KpG D g A C := fun j h1 h2 => (k j h1 h2).trans (h j h1 h2)
theorem KpG.cell {D g : Nat} {A B : World} (h : KpG D g A B) {p : Addr} (hb : p.block < D) (hg : p.block ≠ g) : B.cell? p = A.cell? p := by
  unfold World.cell?
  rw [h _ hb hg]
/-- what has come after k rounds over a list of n, from behind -/
def backs (n k : Nat) : List Nat := (List.range k).map fun j => n - 1 - j
theorem backs_succ (n k : Nat) : backs n (k + 1) = backs n k ++ [n - 1 - k] := by simp [backs, List.range_succ]
theorem backs_length (n k : Nat) : (backs n k).length = k := by simp [backs]
theorem cell_new1 (W : World) (v : Value) (t : TypeId) : (W.alloc (.cells #[v] t)).cell? ⟨W.heap.size, 0, none⟩ = some v ∧ (W.alloc (.cells #[v] t)).frozen? ⟨W.heap.size, 0, none⟩ = false := ⟨by simp, by simp⟩

theorem Backward_any (A : Option Addr) (n c : Nat) (w : World) :
    Calls Tryd.prog 86 #[.slice A n c] w fun e w' => e = .returned (.func (.func 100) #[] #[.pointer (some ⟨w.heap.size, 0, none⟩)]) ∧ w' = w.alloc (.cells #[.slice A n c] 36) := by
  go_enter Tryd.func86, Tryd.ntmps86
  go_wp2
  go_ret
  exact ⟨rfl, rfl⟩

set_option maxRecDepth 100000 in
set_option maxHeartbeats 2000000 in
theorem back_in (n : Nat) (hn : 1 ≤ n) (l Bs D g b off len cap : Nat) (zs : List Nat) (hlen : len ≤ 1000000) (hBD : Bs < D) (hBg : Bs ≠ g) (hb : b < D) (hbg : b ≠ g) (J Jx : List Nat → World → Prop)
    (hY : ∀ pre x W, J pre W → pre.length < len → YieldAt Fence.wide (n - 1) Tryd.prog l #[.int .i64 (x : Nat), .int .u64 (zs.getD x 0 : Nat)] W fun e W' =>
      (e = .returned (.bool true) ∧ J (pre ++ [x]) W' ∧ KpG D g W W') ∨ (e = .returned (.bool false) ∧ Jx (pre ++ [x]) W'))
    (W : World) (hBs : W.cell? ⟨Bs, 0, none⟩ = some (.slice (some ⟨b, off, none⟩) len cap)) (hc : ∀ j, j < len → W.cell? ⟨b, off + j, none⟩ = some (.int .u64 (zs.getD j 0 : Nat))) (h0 : J [] W) :
    CallsIn Fence.wide n Tryd.prog 100 #[.func (.yield l) #[] #[], .pointer (some ⟨Bs, 0, none⟩)] W fun e W' => (∃ v, e = .returned v) ∧
      ((∃ ys, ys = backs len len ∧ J ys W') ∨ (∃ pre, True ∧ Jx pre W')) := by
  have mixed := mixedOrders
  refine callsIn_of_wp Tryd.func100 rfl trivial ?_ rfl
  simp only [Tryd.ntmps100, List.size_toArray, List.length_cons, List.length_nil, Nat.reduceAdd, Nat.reduceSub, Array.replicate_succ, Array.replicate_zero, List.push_toArray, List.append_toArray, List.nil_append, List.cons_append]
  gi_wp2
  gi_loopw [3] (fun i wr => ∃ k : Nat, k ≤ len ∧ i = .int .i64 ((len : Int) - 1 - k) ∧ J (backs len k) wr ∧ KpG D g W wr)
    (fun i _ => (intOf i + 1).toNat)
  case atStart => exact ⟨0, Nat.zero_le _, by go_num, h0, fun k _ _ => rfl⟩
  case round =>
    obtain ⟨k, hk, rfl, hJs, hnx⟩ := hrel
    by_cases hlt : k < len
    · obtain ⟨fn, tmps, assign, body, hy, hR⟩ := hY _ (len - 1 - k) wr hJs (by rw [backs_length]; exact hlt)
      rw [← backs_succ] at hR
      have hcx := (hnx.cell (p := ⟨b, off + (len - 1 - k), none⟩) hb hbg).trans (hc (len - 1 - k) (by omega))
      have hBx := (hnx.cell (p := ⟨Bs, 0, none⟩) hBD hBg).trans hBs
      obtain ⟨j, hj⟩ : ∃ j, len - 1 - k = j := ⟨_, rfl⟩
      have e1 : (len : Int) - 1 - k = (j : Int) := by omega
      rw [hj] at hcx hy
      rw [e1]
      have hj2 : j < len := by omega
      have hj3 : (j : Int) < (len : Int) := by omega
      have HN : Hid ((j : Int) - 1 = (len : Int) - 1 - ((k + 1 : Nat) : Int)) := by show _ = _; omega
      clear hBs e1
      obtain ⟨z, hz⟩ : ∃ z, zs.getD j 0 = z := ⟨_, rfl⟩
      rw [hz] at hcx hy
      gi_wp2
      refine hR.mono ?_
      rintro e W3 (⟨rfl, hJ3, hk3⟩ | ⟨rfl, hJx3⟩)
      · gi_wp2
        go_roundw
        case rel => exact ⟨k + 1, by omega, by rw [← HN.out], hJ3, hnx.t hk3⟩
        case measure => simp [intOf]
      · gi_wp2
        refine bodyPost_ret (results_none rfl _ _ _) rfl ?_
        exact ⟨⟨_, rfl⟩, .inr ⟨_, trivial, hJx3⟩⟩
    · obtain rfl : k = len := by omega
      have e1 : (k : Int) - 1 - k = -1 := by omega
      rw [e1]
      gi_wp2
      go_end0
      exact ⟨⟨_, rfl⟩, .inl ⟨_, rfl, hJs⟩⟩

/-- the root made of the peaks: of the last one, then k of the others, from behind -/
def rpF (ps : List Nat) (n : Nat) : Nat → Nat
  | 0 => ps.getD n 0
  | k + 1 => nodeV (ps.getD (n - 1 - k) 0) (rpF ps n k)
def peaksRoot (ps : List Nat) : Nat := if ps.length = 0 then 0 else rpF ps (ps.length - 1) (ps.length - 1)
theorem getD_lt {ps : List Nat} (h : ∀ p ∈ ps, p < 18446744073709551616) (i : Nat) : ps.getD i 0 < 18446744073709551616 := by
  rw [List.getD_eq_getElem?_getD]
  rcases Nat.lt_or_ge i ps.length with h1 | h1
  · rw [List.getElem?_eq_getElem h1]
    exact h _ (List.getElem_mem _)
  · rw [List.getElem?_eq_none h1]
    decide
def rpL (ps : List Nat) (r : Nat) (pre : List Nat) : Nat := pre.foldl (fun r j => nodeV (ps.getD j 0) r) r
theorem rpL_snoc (ps : List Nat) (r : Nat) (pre : List Nat) (j : Nat) : rpL ps r (pre ++ [j]) = nodeV (ps.getD j 0) (rpL ps r pre) := by unfold rpL; rw [List.foldl_append, List.foldl_cons, List.foldl_nil]
theorem rpL_backs (ps : List Nat) (n : Nat) : ∀ k, rpL ps (ps.getD n 0) (backs n k) = rpF ps n k
  | 0 => rfl
  | k + 1 => by rw [backs_succ, rpL_snoc, rpL_backs ps n k]; rfl
theorem rpL_lt {ps : List Nat} {r : Nat} (hr : r < 18446744073709551616) (pre : List Nat) : rpL ps r pre < 18446744073709551616 := by
  rcases List.eq_nil_or_concat pre with rfl | ⟨p, j, rfl⟩
  · exact hr
  · rw [List.concat_eq_append, rpL_snoc]; exact nodeV_lt _ _
theorem rpF_lt {ps : List Nat} (h : ∀ p ∈ ps, p < 18446744073709551616) (n : Nat) : ∀ k, rpF ps n k < 18446744073709551616
  | 0 => getD_lt h n
  | k + 1 => nodeV_lt _ _

set_option maxRecDepth 100000 in
set_option maxHeartbeats 2000000 in
theorem Root_any (F : Nat → Prop) (w : World) (b : Nat) (ls : List (List UInt8)) (ps : List Nat) (Ae : Option Addr) (ce : Nat) (Ap : Option Addr) (cp : Nat) (h : LogAt F w b ls ps Ae ce Ap cp) (hl : 1 ≤ ls.length) (hps : 1 ≤ ps.length) (hps2 : ps.length ≤ 64) :
    Calls Tryd.prog 50 #[.pointer (some ⟨b, 0, none⟩)] w fun e w' => e = .returned (.int .u64 (rpF ps (ps.length - 1) (ps.length - 1) : Nat)) ∧ Below w.heap.size w w' := by
  have mixed := mixedOrders
  have HLEN := hide (Len_any F w b ls ps Ae ce Ap cp h)
  have c2 := h.c2
  have hb := h.lt
  have HPB := hide h.pb
  obtain ⟨g, rfl, hcell, hg, hle⟩ : ∃ g, Ap = some ⟨g, 0, none⟩ ∧ (∀ j, j < ps.length → w.cell? ⟨g, 0 + j, none⟩ = some (.int .u64 (ps.getD j 0 : Nat))) ∧ g < w.heap.size ∧ ps.length ≤ cp := by
    rcases h.pks.2 with ⟨e, h0⟩ | ⟨g, cap, cur, hv, _, hg, hle, _⟩
    · omega
    · injection hv with h1 h2 h3
      subst h1; subst h3
      refine ⟨g, rfl, fun j hj => ?_, (Array.getElem?_eq_some_iff.1 hg).1, hle⟩
      have c0 := h.pks.cells (g := g) rfl j (.int .u64 (ps.getD j 0 : Nat)) (by
        unfold cellsP
        rw [List.getElem?_map, List.getElem?_eq_getElem hj, List.getD_eq_getElem?_getD, List.getElem?_eq_getElem hj]
        rfl)
      have ad : (⟨g, 0, none⟩ : Addr).add j = ⟨g, j, none⟩ := by
        by_cases h0 : j = 0
        · subst h0; rfl
        · simp [Addr.add, h0]
      rw [ad] at c0
      rw [Nat.zero_add]
      exact c0
  clear h
  obtain ⟨n, hn⟩ : ∃ n, ps.length = n + 1 := ⟨ps.length - 1, by omega⟩
  rw [hn] at c2 hcell hle ⊢
  rw [show n + 1 - 1 = n by omega]
  have z0 : ((ls.length : Int) == 0) = false := beq_eq_false_iff_ne.2 (by omega)
  have clast := hcell n (by omega)
  rw [Nat.zero_add] at clast
  have n1 : wrap64 (((n + 1 : Nat) : Int) - 1) = (n : Int) := by rw [IntWalk.wrap64_in _ (by omega)]; omega
  have n2 : (n : Int) ≤ (cp : Int) := by omega
  have n3 : (n : Int) < ((n + 1 : Nat) : Int) := by omega
  have HC := hide hcell
  clear hcell
  obtain ⟨r0, hr0⟩ : ∃ r0, ps.getD n 0 = r0 := ⟨_, rfl⟩
  rw [hr0] at clast
  have HR1 : Hid (r0 < 18446744073709551616) := by rw [← hr0]; exact getD_lt HPB.out n
  have HRP : Hid (rpL ps r0 (backs n n) = rpF ps n n) := by rw [← hr0]; exact rpL_backs ps n n
  clear hr0
  refine (callsIn_wide (n := 10)).1 ?_
  refine callsIn_of_wp_marks Tryd.func50 rfl trivial ?_ rfl
  simp only [Tryd.ntmps50, List.size_toArray, List.length_cons, List.length_nil, Nat.reduceAdd, Nat.reduceSub, Array.replicate_succ, Array.replicate_zero, List.push_toArray, List.append_toArray, List.nil_append, List.cons_append]
  gi_wp2_with fail
  refine ⟨trivial, (callsIn_wide (n := 9).2 HLEN.out).mono ?_⟩
  rintro e w2 ⟨rfl, rfl⟩
  gi_wp2_with fail
  refine ⟨trivial, (callsIn_wide (n := 9).2 (Backward_any _ _ _ _)).mono ?_⟩
  rintro e w2 ⟨rfl, hw2⟩
  have hs2 : w2.heap.size = w.heap.size + 2 := by rw [hw2]; simp
  have cb : w2.cell? ⟨w.heap.size + 1, 0, none⟩ = some (.slice (some ⟨g, 0, none⟩) n cp) := by
    have := cell_new1 (w.alloc (.cells #[.int .u64 r0] 24)) (.slice (some ⟨g, 0, none⟩) n cp) 36
    rw [World.size_alloc] at this
    rw [hw2]
    exact this.1
  have hs := cell_new1 w (.int .u64 r0) 24
  have ca : w2.cell? ⟨w.heap.size, 0, none⟩ = some (.int .u64 r0) := by rw [hw2]; exact (((Gr.refl _).alloc _).cell (p := ⟨w.heap.size, 0, none⟩) (by simp)).trans hs.1
  have fa : w2.frozen? ⟨w.heap.size, 0, none⟩ = false := by rw [hw2]; exact (((Gr.refl _).alloc _).frozen (p := ⟨w.heap.size, 0, none⟩) (by simp)).trans hs.2
  have hb2 : Below w.heap.size w w2 := by rw [hw2]; exact ((Below.refl _ w).alloc (Nat.le_refl _) _).alloc (by simp) _
  simp only [World.size_alloc]
  obtain ⟨p, hp⟩ : ∃ p, w.heap.size = p := ⟨_, rfl⟩
  rw [hp] at hs2 cb ca fa hb2 hg ⊢
  clear hw2 hs
  gi_wp2_with fail
  refine wpIn_rangeFunc_ownF rfl (by decide) (gf := 100) (lb := #[.pointer (some ⟨p + 1, 0, none⟩)]) rfl trivial (enters_of Tryd.func100 (by kernel_rfl) rfl)
    (encs := fun x : Nat => #[Value.int .i64 (x : Nat), .int .u64 (ps.getD x 0 : Nat)]) (Kp := KpG (p + 2) p) (S := fun ys => ys = backs n n) (Sp := fun _ => True) (N := n) (w0 := w2)
    (fun l J Jx W hW _ _ hY h0 => back_in 9 (by decide) l (p + 1) (p + 2) p g 0 n cp ps (by omega) (by omega) (by omega) (by omega) (by omega) J Jx hY W ((hW.cell (p := ⟨p + 1, 0, none⟩) (by show p + 1 < _; omega)).trans cb) (fun j hj => ((hW.cell (p := ⟨g, 0 + j, none⟩) (by show g < _; omega)).trans (hb2.cell (p := ⟨g, 0 + j, none⟩) hg)).trans (HC.out j (by omega))) h0)
    (fun h k => h.t k) (fun W l o o' hl ho _ _ k hk hkg => World.putObj_heap_other (by omega)) (Below.refl _ _) (fun _ => rfl)
    (fun pre W => (W.cell? ⟨p, 0, none⟩ = some (.int .u64 (rpL ps r0 pre : Nat)) ∧ W.frozen? ⟨p, 0, none⟩ = false) ∧ Below p w2 W)
    (fun _ _ _ => False)
    (OwnFrom.and (Own.from (fun s A B row hs hg hr => ⟨cell_kept hs.1 hg hr, (frozen_kept hs.1 hg hr).trans hs.2⟩) _) (ownFrom_below (by omega) (by omega)))
    (fun _ => fun _ _ _ _ hs _ _ => hs)
    ⟨⟨ca, fa⟩, Below.refl _ _⟩
    (fun x => { tmps := #[.pointer (some ⟨b, 0, none⟩), undef, .int .u64 0, .int .i64 n, .pointer (some ⟨p, 0, none⟩), undef, .int .u64 (ps.getD x 0 : Nat), .pointer (some ⟨b, 0, none⟩), .int .i64 ls.length, .bool false, .pointer (some ⟨b, 0, none⟩), .pointer (some ⟨b, 0, none⟩), .pointer (some ⟨b, 2, none⟩), .slice (some ⟨g, 0, none⟩) (n + 1) cp, .int .i64 ((n : Int) + 1), .int .i64 n, .pointer (some ⟨b, 0, none⟩), .pointer (some ⟨b, 0, none⟩), .pointer (some ⟨b, 2, none⟩), .slice (some ⟨g, 0, none⟩) (n + 1) cp, .int .i64 n, .pointer (some ⟨g, n, none⟩), .int .u64 r0, .pointer (some ⟨b, 0, none⟩), .pointer (some ⟨b, 0, none⟩), .pointer (some ⟨b, 2, none⟩), .slice (some ⟨g, 0, none⟩) (n + 1) cp, .int .i64 n, .slice (some ⟨g, 0, none⟩) n cp, .func (.func 100) #[] #[.pointer (some ⟨p + 1, 0, none⟩)], .int .i64 x, .int .u64 (ps.getD x 0 : Nat), undef, undef, undef, undef], defers := [] }) ?assign ?body ?done ?stop
  case assign =>
    intro l x W K hK
    gi_wp2
    exact hK
  case body =>
    rintro l pre x W ⟨⟨hc, hf⟩, hB⟩ _
    dsimp only
    have HS := hide (rpL_snoc ps r0 pre x)
    have hz2 := getD_lt HPB.out x
    have hr2 := rpL_lt (ps := ps) HR1.out pre
    obtain ⟨z, hz⟩ : ∃ z, ps.getD x 0 = z := ⟨_, rfl⟩
    obtain ⟨r, hr⟩ : ∃ r, rpL ps r0 pre = r := ⟨_, rfl⟩
    rw [hz] at hz2 HS ⊢
    rw [hr] at hc hr2 HS
    have HN := hide (Node_any z r hz2 hr2 W)
    have hsz := hB.size
    have hp1 : p < W.heap.size := by omega
    clear hz2 hr2 hz hr
    gi_wp2_with fail
    refine ⟨trivial, (CallsIn.inRound l (callsIn_wide (n := 7).2 HN.out)).mono ?_⟩
    rintro e w5 ⟨rfl, hb5⟩
    have hc5 := (hb5.cell (p := ⟨p, 0, none⟩) hp1).trans hc
    have hf5 := (hb5.frozen (p := ⟨p, 0, none⟩) hp1).trans hf
    have HB5 := hide hb5
    clear hc hf hb5
    gi_wp2
    have HG : W.grownBy w5 none := ⟨HB5.out.os, HB5.out.tape, HB5.out.output, HB5.out.size, fun k hk _ => HB5.out.block k hk⟩
    have HO : KeepsOthers W w5 := KeepsOthers.of_grownBy HG (fun j o h => by cases h)
    refine ⟨HO.trans (KeepsOthers.setCell _ _ _), fun k hk hkg => ?_, ⟨?_, ?_⟩, ?_⟩
    · exact (Below.heap_setCell _ _ _ _ hkg).trans (HB5.out.block k (by omega))
    · rw [HS.out]; exact World.cell?_setCell_same' _ _ _ (by rw [hc5]; rfl)
    · rw [World.frozen?_setCell]; exact hf5
    · exact (hB.trans (HB5.out.mono (by omega))).setCell (p := ⟨p, 0, none⟩) (Nat.le_refl _) _
  case done =>
    rintro D ys W hD rfl ⟨⟨hc, hf⟩, hB⟩ hK
    rw [HRP.out] at hc
    gi_wp2
    refine ⟨by simp, .inl ⟨_, _, rfl, run_takeDeferred hK, ?_⟩⟩
    refine ⟨_, results_tmp rfl _ _ _, rfl, ?_⟩
    rw [hp]
    exact (hb2.trans hB).trans (belowK_b (w := w2) (by omega) W D _ _ hD hK rfl rfl)
  case stop =>
    rintro D c pre W _ _ h _
    exact h.elim
end Go.Proofs.YtbinmkigolkhcaaDoor
