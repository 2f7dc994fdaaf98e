/- The hashes: mixOn, Mix, Leaf; the bytes of a node, Node. -/
import Derived.Test.YtbinmkigolkhcaaDoorPA
import Derived.Laws.Bits64
namespace Go.Proofs.YtbinmkigolkhcaaDoor
open Go.RowKit Go.Sort
attribute [local go_sem] Oper.semAt_some

theorem mix_step {M x : Nat} (hM : M < 18446744073709551616) (hx : x < 256) :
    IntKind.u64.wrap (bits .xor .u64 (M : Int) (IntKind.u64.wrap (x : Int)) * 1099511628211) = (((M ^^^ x) * 1099511628211 % 18446744073709551616 : Nat) : Int) := by
  have e : IntKind.u64.wrap (x : Int) = (x : Int) := by rw [IntKind.wrap_u64]; omega
  rw [e, bits_xor_u64_nat M x hM (by omega), IntKind.wrap_u64]
  omega

set_option maxHeartbeats 2000000 in
set_option maxRecDepth 100000 in
theorem mixOn_any (h : Nat) (hh : h < 18446744073709551616) (A : Option Addr) (n cap : Nat) (l : List UInt8) (w : World) (hx : BytesAt w.heap.size w A n l) (hn : n ≤ 1000000) :
    Calls Tryd.prog 58 #[.int .u64 h, .slice A n cap] w fun e w' => e = .returned (.int .u64 (mixN h l : Nat)) ∧ w = w' := by
  have mixed := mixedOrders
  have HX := hide hx
  have HH := hide hh
  have hlen := hx.1
  clear hx hh
  go_enter Tryd.func58, Tryd.ntmps58
  go_wp2_with fail
  go_loopw [0, 9] (fun vh vi wr => ∃ i : Nat, i ≤ n ∧ vi = .int .i64 i ∧ vh = .int .u64 (mixN h (l.take i) : Nat) ∧ w = wr) (fun _ vi _ => n - (intOf vi).toNat)
  case atStart => exact ⟨0, Nat.zero_le _, rfl, rfl, rfl⟩
  case round =>
    obtain ⟨i, hi, rfl, rfl, rfl⟩ := hrel
    by_cases hlt : i < n
    · have hlt' : (i : Int) < (n : Int) := by omega
      obtain ⟨b, off, rfl, hb, c0⟩ := HX.out.at_ hlt
      have ht := mixN_take (h := h) (l := l) (i := i) (by omega)
      have hx256 : (l.getD i 0).toNat < 256 := UInt8.toNat_lt _
      unfold mixS at ht
      obtain ⟨x, hxx⟩ : ∃ x, (l.getD i 0).toNat = x := ⟨_, rfl⟩
      rw [hxx] at ht c0 hx256
      have HT := hide ht
      have HX2 := hide hx256
      clear ht hxx hx256
      go_wp2_with fail
      refine ⟨⟨i + 1, by omega, by go_num, ?_, trivial⟩, by simp [intOf]; omega⟩
      rw [mix_step (mixN_lt HH.out _) HX2.out, HT.out]
    · obtain rfl : i = n := by omega
      go_wp2_with fail
      go_ret
      exact ⟨by rw [List.take_of_length_le (Nat.le_of_eq hlen)]; rfl, rfl⟩
theorem Mix_any (A : Option Addr) (n cap : Nat) (l : List UInt8) (w : World) (hx : BytesAt w.heap.size w A n l) (hn : n ≤ 1000000) :
    Calls Tryd.prog 20 #[.slice A n cap] w fun e w' => e = .returned (.int .u64 (mixV l : Nat)) ∧ w = w' := by
  have HM := hide (mixOn_any 14695981039346656037 (by decide) A n cap l w hx hn)
  clear hx
  go_enter Tryd.func20, Tryd.ntmps20
  go_wp2_with fail
  refine HM.out.mono ?_
  rintro e w1 ⟨rfl, rfl⟩
  go_wp2
  go_ret
  exact ⟨rfl, rfl⟩
theorem leaf_eq (l : List UInt8) : leafV l = mixN (mixV [0]) l := by
  unfold leafV mixV leafB
  rw [show (0 :: l) = [0] ++ l from rfl, mixN_append]
theorem bytes_one (w : World) (b : UInt8) : BytesAt (w.alloc (.cells #[.int .u8 (b.toNat : Nat)] 5)).heap.size (w.alloc (.cells #[.int .u8 (b.toNat : Nat)] 5)) (some ⟨w.heap.size, 0, none⟩) 1 [b] := by
  refine ⟨rfl, .inr ⟨w.heap.size, 0, rfl, by simp, fun i hi => ?_⟩⟩
  obtain rfl : i = 0 := by omega
  simp
theorem Leaf_any (A : Option Addr) (n cap : Nat) (l : List UInt8) (w : World) (hx : BytesAt w.heap.size w A n l) (hn : n ≤ 1000000) :
    Calls Tryd.prog 22 #[.slice A n cap] w fun e w' => e = .returned (.int .u64 (leafV l : Nat)) ∧ Below w.heap.size w w' := by
  have hb := ((Gr.refl w).alloc (.cells #[.int .u8 0] 5)).below
  have HX := hide (hx.now hb (Nat.le_refl _))
  have H1 := hide (Mix_any (some ⟨w.heap.size, 0, none⟩) 1 1 [0] (w.alloc (.cells #[.int .u8 0] 5)) (bytes_one w 0) (by omega))
  have H2 := hide (mixOn_any (mixV [0]) (mixV_lt _) A n cap l (w.alloc (.cells #[.int .u8 0] 5)) HX.out hn)
  rw [← leaf_eq] at H2
  have HB := hide hb
  clear hx hb
  go_enter Tryd.func22, Tryd.ntmps22
  go_wp2_with fail
  refine H1.out.mono ?_
  rintro e w1 ⟨rfl, rfl⟩
  generalize mixV [0] = m0 at H2 ⊢
  go_wp2_with fail
  refine H2.out.mono ?_
  rintro e w1 ⟨rfl, rfl⟩
  go_wp2
  go_ret
  exact ⟨rfl, HB.out⟩
end Go.Proofs.YtbinmkigolkhcaaDoor
