/- slices.Values at quotes; AppendSeq, Collect. -/
import Derived.Test.YtpbenjpponbjjaaGL
import Derived.RangeFuncNested
import Derived.RangeFuncBound
import Derived.RangeFuncCalls
import Derived.RangeFuncLeaves
import Derived.RangeFuncBox
import Derived.Shelf.Abstract
import Derived.Shelf.RegionOpen
import Derived.OwnWalkIn
import Derived.TacticsInMore
import Derived.LoopNIn
import Derived.LoopIn
set_option linter.unusedSimpArgs false
set_option linter.unusedVariables false
namespace Go.Proofs.Ytpbenjpponbjjaa
open Go.RowKit Go.Sort Go.Shelf Go.BigFrame
attribute [local go_sem] Oper.semAt_some
/-- the blocks below D but g are as they were -/
def KpG (D g : Nat) (A B : World) : Prop := A.heap.size ≤ B.heap.size ∧ ∀ k, k < D → k ≠ g → B.heap[k]? = A.heap[k]?
theorem KpG.t {D g : Nat} {A B C : World} (h : KpG D g A B) (k : KpG D g B C) : KpG D g A C := ⟨Nat.le_trans h.1 k.1, fun j h1 h2 => (k.2 j h1 h2).trans (h.2 j h1 h2)⟩
theorem KpG.cell {D g : Nat} {A B : World} (h : KpG D g A B) {p : Addr} (hb : p.block < D) (hg : p.block ≠ g) : B.cell? p = A.cell? p := by
  unfold World.cell?
  rw [h.2 _ hb hg]
theorem cell_new1 (W : World) (v : Value) (t : TypeId) : (W.alloc (.cells #[v] t)).cell? ⟨W.heap.size, 0, none⟩ = some v ∧ (W.alloc (.cells #[v] t)).frozen? ⟨W.heap.size, 0, none⟩ = false := ⟨by simp, by simp⟩
abbrev qV (q : Qt) : Value := .agg #[.int .i64 q.1.1, .int .i64 q.1.2.1, .int .i64 q.1.2.2, .int .i64 q.2.1, .int .i64 q.2.2]

theorem Values_any (A : Option Addr) (n c : Nat) (w : World) :
    Calls Try.prog 91 #[.slice A n c] w fun e w' => e = .returned (.func (.func 110) #[] #[.pointer (some ⟨w.heap.size, 0, none⟩)]) ∧ w' = w.alloc (.cells #[.slice A n c] 36) := by
  go_enter Try.func91, Try.ntmps91
  go_wp2
  go_ret
  exact ⟨rfl, rfl⟩

set_option maxRecDepth 100000 in
set_option maxHeartbeats 2000000 in
theorem values_in (n : Nat) (hn : 1 ≤ n) (l Bs D g : Nat) (A : Option Addr) (len cap : Nat) (ql : List Qt) (hlen : len ≤ 1000000) (hBD : Bs < D) (hBg : Bs ≠ g) (J Jx : List Nat → World → Prop)
    (W : World) (hJ : AbidesFrom W.heap.size J)
    (hY : ∀ pre x W, J pre W → pre.length < len → YieldAt Fence.wide (n - 1) Try.prog l #[qV (qA ql x)] W fun e W' =>
      (e = .returned (.bool true) ∧ J (pre ++ [x]) W' ∧ KpG D g W W') ∨ (e = .returned (.bool false) ∧ Jx (pre ++ [x]) W'))
    (hD : D ≤ W.heap.size) (hBs : W.cell? ⟨Bs, 0, none⟩ = some (.slice A len cap)) (hc : QtAt D W A len ql) (hcg : 0 < len → ∀ b off, A = some ⟨b, off, none⟩ → b ≠ g) (h0 : J [] W) :
    CallsIn Fence.wide n Try.prog 110 #[.func (.yield l) #[] #[], .pointer (some ⟨Bs, 0, none⟩)] W fun e W' => (∃ v, e = .returned v) ∧
      ((∃ ys, ys = List.range len ∧ J ys W') ∨ (∃ pre, True ∧ Jx pre W')) := by
  have mixed := mixedOrders
  refine callsIn_of_wp Try.func110 rfl trivial ?_ rfl
  simp only [Try.ntmps110, List.size_toArray, List.length_cons, List.length_nil, Nat.reduceAdd, Nat.reduceSub, Array.replicate_succ, Array.replicate_zero, List.push_toArray, List.append_toArray, List.nil_append, List.cons_append]
  gi_wp2
  gi_loopw [7] (fun i wr => ∃ k : Nat, k ≤ len ∧ i = .int .i64 k ∧ J (List.range k) wr ∧ KpG D g W wr)
    (fun i _ => len - (intOf i).toNat)
  case atStart => exact ⟨0, Nat.zero_le _, rfl, h0, Nat.le_refl _, fun k _ _ => rfl⟩
  case round =>
    obtain ⟨k, hk, rfl, hJs, hnx⟩ := hrel
    have hsz := hnx.1
    by_cases hlt : k < len
    · have hlt' : (k : Int) < (len : Int) := by omega
      obtain ⟨b, off, rfl, hb, c0, c1, c2, c3, c4⟩ := hc.at_ hlt
      have hbg := hcg (by omega) b off rfl
      have d0 := (hnx.cell (p := ⟨b, off + k * 5, none⟩) hb hbg).trans c0
      have d1 := (hnx.cell (p := ⟨b, off + k * 5 + 1, none⟩) hb hbg).trans c1
      have d2 := (hnx.cell (p := ⟨b, off + k * 5 + 2, none⟩) hb hbg).trans c2
      have d3 := (hnx.cell (p := ⟨b, off + k * 5 + 3, none⟩) hb hbg).trans c3
      have d4 := (hnx.cell (p := ⟨b, off + k * 5 + 4, none⟩) hb hbg).trans c4
      obtain ⟨W1, hW1⟩ : ∃ W1, wr.alloc (.cells #[.int .i64 (qA ql k).1.1, .int .i64 (qA ql k).1.2.1, .int .i64 (qA ql k).1.2.2, .int .i64 (qA ql k).2.1, .int .i64 (qA ql k).2.2] 60) = W1 := ⟨_, rfl⟩
      obtain ⟨z, hz⟩ : ∃ z, wr.heap.size = z := ⟨_, rfl⟩
      have hJ1 : J (List.range k) W1 := hJ _ wr W1 none hJs (by rw [← hW1]; exact World.grownBy_alloc wr _ none) (fun r e => by cases e)
      obtain ⟨fn, tmps, assign, body, hy, hR⟩ := hY _ k W1 hJ1 (by rw [List.length_range]; exact hlt)
      have hb1 : Below wr.heap.size wr W1 := by rw [← hW1]; exact (Below.refl _ _).alloc (Nat.le_refl _) _
      have h1 : W1.heap[z]? = some (.cells #[.int .i64 (qA ql k).1.1, .int .i64 (qA ql k).1.2.1, .int .i64 (qA ql k).1.2.2, .int .i64 (qA ql k).2.1, .int .i64 (qA ql k).2.2] 60 (0, 0)) := by rw [← hW1, ← hz]; exact heap_alloc_new _ _
      have HK1 : Hid (KpG D g W W1) := hide (hnx.t ⟨hb1.size, fun j hj _ => hb1.block j (by omega)⟩)
      obtain ⟨x0, x1, x2, x3, x4⟩ := box5 h1
      have hR2 := hide hR
      rw [← List.range_succ] at hR2
      have HQ := hide (show k + 1 ≤ len by omega)
      clear c0 c1 c2 c3 c4 h1 hb1 hk hlt hR hnx hsz hbg hb
      gi_wp2
      refine hR2.out.mono ?_
      rintro e W3 (⟨rfl, hJ3, hk3⟩ | ⟨rfl, hJx3⟩)
      · have HK3 := hide (HK1.out.t hk3)
        clear hk3 x0 x1 x2 x3 x4 d0 d1 d2 d3 d4 hW1 hz hy
        gi_wp2
        go_roundw
        case rel => exact ⟨k + 1, HQ.out, by go_num, hJ3, HK3.out⟩
        case measure => have := HQ.out; simp [intOf]; omega
      · gi_wp2
        refine bodyPost_ret (results_none rfl _ _ _) rfl ?_
        exact ⟨⟨_, rfl⟩, .inr ⟨_, trivial, hJx3⟩⟩
    · obtain rfl : k = len := by omega
      have e1 : ¬ (k : Int) < (k : Int) := by omega
      gi_wp2
      go_end0
      exact ⟨⟨_, rfl⟩, .inl hJs⟩
end Go.Proofs.Ytpbenjpponbjjaa
