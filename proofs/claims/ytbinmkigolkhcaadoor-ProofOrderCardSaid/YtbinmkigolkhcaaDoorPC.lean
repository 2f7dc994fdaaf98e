/- The bytes of a number, of a node; Node. -/
import Derived.Test.YtbinmkigolkhcaaDoorPB
import Derived.Maps.AppendAt
namespace Go.Proofs.YtbinmkigolkhcaaDoor
open Go.RowKit Go.Sort
attribute [local go_sem] Oper.semAt_some

def cellsB (l : List UInt8) : List Value := l.map fun b => .int .u8 (b.toNat : Nat)
theorem info5 : (Tryd.prog.info? 5).map (fun i => (i.zero, i.size, i.bytes)) = some (some (.int .u8 0), 1, 1) := by kernel_rfl

theorem cell_one_at {W : World} {n : Nat} (x : Value) (t : TypeId) (h : W.heap.size = n) : ∀ j u, [x][j]? = some u → (W.alloc (.cells #[x] t)).cell? ((⟨n, 0, none⟩ : Addr).add j) = some u := by
  subst h
  exact cell_one_new _ _ _
theorem own_slice {w : World} {base : Nat} {e : TypeId} {size n : Nat} {v : Value} {xs : List Value} (h : w.ownsRow base e size v n xs) : ∃ a c, v = .slice a n c := by
  rcases h.2 with ⟨rfl, rfl⟩ | ⟨g, cap, cur, rfl, _⟩
  · exact ⟨_, _, rfl⟩
  · exact ⟨_, _, rfl⟩

theorem own_lt {w : World} {base : Nat} {e : TypeId} {size n : Nat} {v : Value} {xs : List Value} (h : w.ownsRow base e size v n xs) : ∀ g, v.ownBlock = some g → base ≤ g ∧ g < w.heap.size := h.lt

set_option maxHeartbeats 2000000 in
set_option maxRecDepth 100000 in
theorem appendNumber_any (n₀ : Nat) (a : Option Addr) (c k : Nat) (xs : List Value) (x : Nat) (hx : x < 18446744073709551616) (w : World) (hk : k ≤ 1000000) (hn₀ : n₀ ≤ w.heap.size) (ho : w.ownsRow n₀ 5 1 (.slice a k c) k xs) :
    Calls Tryd.prog 90 #[.slice a k c, .int .u64 x] w fun e w' => ∃ a' c', e = .returned (.slice a' (k + 8) c') ∧ w'.ownsRow n₀ 5 1 (.slice a' (k + 8) c') (k + 8) (xs ++ cellsB (eight x)) ∧ Below n₀ w w' := by
  have mixed := mixedOrders
  obtain ⟨i0, hi0, hz0, hz1, hz2⟩ := info_parts info5
  have HX := hide hx
  have HO0 : Hid (w.ownsRow n₀ 5 1 (.slice a k c) k (xs ++ cellsB (eightF 0 x))) := by show w.ownsRow _ _ _ _ _ (xs ++ []); rw [List.append_nil]; exact ho
  clear hx ho
  go_enter Tryd.func90, Tryd.ntmps90
  go_wp2_with fail
  go_loopw [0, 1, 5] (fun vb vx vi wr => ∃ (i : Nat) (a' : Option Addr) (c' : Nat), i ≤ 8 ∧ vb = .slice a' (k + i) c' ∧ vx = .int .u64 (x / 256 ^ i : Nat) ∧ vi = .int .i64 i ∧ Hid (wr.ownsRow n₀ 5 1 (.slice a' (k + i) c') (k + i) (xs ++ cellsB (eightF i x)) ∧ Below n₀ w wr)) (fun _ _ vi _ => 8 - (intOf vi).toNat)
  case atStart => exact ⟨0, a, c, by omega, rfl, by simp, rfl, ⟨HO0.out, Below.refl _ _⟩⟩
  case round =>
    obtain ⟨i, a', c', hi, rfl, rfl, rfl, HI⟩ := hrel
    by_cases hlt : i < 8
    · have hlt' : (i : Int) < 8 := by omega
      obtain ⟨q, hq⟩ : ∃ q, x / 256 ^ i = q := ⟨_, rfl⟩
      have hq2 : x / 256 ^ (i + 1) = q / 256 := by rw [Nat.pow_succ, ← Nat.div_div_eq_div_mul, hq]
      have hs : cellsB (eightF (i + 1) x) = cellsB (eightF i x) ++ [.int .u8 ((q : Int) % 256)] := by
        rw [eightF_snoc, hq]
        unfold cellsB
        rw [List.map_append, List.map_singleton]
        congr 3
        have : (UInt8.ofNat (q % 256)).toNat = q % 256 := by simp
        rw [this]
        omega
      have HQ := hide hq2
      have HS := hide hs
      rw [hq]
      clear hq hq2 hs
      have hb4 : n₀ ≤ (wr.alloc (.cells #[.int .u8 ((q : Int) % 256)] 5)).heap.size := by have := HI.out.2.size; simp; omega
      have hbb1 : k + i + 1 ≤ maxLen := by unfold maxLen; omega
      have hbb2 : (k + i + 1) * 1 ≤ 140737488355328 := by omega
      have HLT := hide hlt
      clear hlt hk hi
      go_wp2_with (at_builtin; refine wpList_append_own_at _ rfl (.tmp 7) (.tmp 10) _ rfl n₀ 5 i0 (.int .u8 0) 1 1 Tryd.underlying23 hi0 hz0 hz1 hz2 rfl (by decide) _ _ _ rfl (HI.out.1.alloc _) ⟨wr.heap.size, 0, none⟩ 1 1 [.int .u8 ((q : Int) % 256)] rfl rfl (cell_one_at _ _ rfl) (by simp [Value.oneCell']) hbb1 hbb2 hb4 ?_; intro v1 w5 hown1 hgrow1 hnil1 hat1)
      obtain ⟨a2, c2, rfl⟩ := own_slice hown1
      have hB5 : Below n₀ w w5 := by
        have h1 := HI.out.2.alloc (Nat.le_trans hn₀ HI.out.2.size) (.cells #[.int .u8 ((q : Int) % 256)] 5)
        refine h1.trans ⟨hgrow1.os, hgrow1.tape, hgrow1.output, hgrow1.size, fun k hk => hgrow1.block k (Nat.lt_of_lt_of_le hk (Nat.le_trans hn₀ h1.size)) fun e => ?_⟩
        have := (own_lt HI.out.1 k e.symm).1
        omega
      have h8 := HLT.out
      refine ⟨⟨i + 1, a2, c2, by omega, rfl, by rw [HQ.out]; simp, by go_num, ⟨?_, hB5⟩⟩, by simp [intOf]; omega⟩
      rw [HS.out, ← List.append_assoc]
      exact hown1
    · obtain rfl : i = 8 := by omega
      go_wp2_with fail
      go_ret
      exact ⟨a', c', rfl, HI.out.1, HI.out.2⟩
end Go.Proofs.YtbinmkigolkhcaaDoor
