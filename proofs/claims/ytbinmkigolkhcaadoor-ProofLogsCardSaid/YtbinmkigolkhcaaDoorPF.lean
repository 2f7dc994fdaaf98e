/- Small ones: isTooLong, isPlace; a step, its bytes, Follow. -/
import Derived.Test.YtbinmkigolkhcaaDoorPE
namespace Go.Proofs.YtbinmkigolkhcaaDoor
open Go.RowKit Go.Sort
attribute [local go_sem] Oper.semAt_some

theorem isTooLong_any (A : Option Addr) (n c : Nat) (w : World) :
    Calls Tryd.prog 67 #[.slice A n c] w fun e w' => e = .returned (.bool (decide ((256 : Int) < (n : Int)))) ∧ w = w' := by
  go_enter Tryd.func67, Tryd.ntmps67
  go_wp2
  go_ret
  exact ⟨rfl, rfl⟩
def placeB (i n : Int) : Bool := decide (0 ≤ i ∧ i < n ∧ n ≤ 4096)
theorem isPlace_any (i n : Int) (w : World) :
    Calls Tryd.prog 66 #[.int .i64 i, .int .i64 n] w fun e w' => e = .returned (.bool (placeB i n)) ∧ w = w' := by
  rcases Int.lt_or_le i 0 with h | h
  · go_enter Tryd.func66, Tryd.ntmps66
    go_wp2
    go_ret
    exact ⟨ret_bool (by simp [placeB]; omega), rfl⟩
  · rcases Int.lt_or_le i n with h2 | h2
    · go_enter Tryd.func66, Tryd.ntmps66
      go_wp2
      go_ret
      exact ⟨ret_bool (by simp [placeB, h, h2]), rfl⟩
    · go_enter Tryd.func66, Tryd.ntmps66
      go_wp2
      go_ret
      exact ⟨ret_bool (by simp [placeB]; omega), rfl⟩
/-- a step: the hash, and whether it stands left -/
abbrev St := Nat × Bool
def stepB (h : Nat) (s : St) : List UInt8 := if s.2 then nodeB s.1 h else nodeB h s.1
theorem leadFn_any (h : Nat) (b c : Bool) (w : World) :
    Calls Tryd.prog 94 #[.agg #[.int .u64 h, .bool b], .bool c] w fun e w' => e = .returned (.bool (b == c)) ∧ Below w.heap.size w w' := by
  have hb := ((Gr.refl w).alloc (.cells #[.int .u64 h, .bool b] 41)).below
  go_enter Tryd.func94, Tryd.ntmps94
  go_wp2
  go_ret
  exact ⟨rfl, hb⟩
set_option maxHeartbeats 1000000 in
theorem stepBytes_any (h : Nat) (s : St) (hh : h < 18446744073709551616) (hs : s.1 < 18446744073709551616) (w : World) :
    Calls Tryd.prog 71 #[.int .u64 h, .agg #[.int .u64 s.1, .bool s.2]] w fun e w' => ∃ a c, e = .returned (.slice a 17 c) ∧ BytesAt w'.heap.size w' a 17 (stepB h s) ∧ Below w.heap.size w w' := by
  obtain ⟨s1, s2⟩ := s
  have hb := ((Gr.refl w).alloc (.cells #[.int .u64 s1, .bool s2] 41)).below
  have HB := hide hb
  cases s2
  · have HN := hide (nodeBytes_any h s1 hh hs (w.alloc (.cells #[.int .u64 s1, .bool false] 41)))
    clear hh hs hb
    go_enter Tryd.func71, Tryd.ntmps71
    go_wp2_with fail
    refine HN.out.mono ?_
    rintro e w1 ⟨a, c, rfl, ho, hb⟩
    go_wp2
    go_ret
    exact ⟨a, c, rfl, bytes_of_own ho, HB.out.trans (hb.mono HB.out.size)⟩
  · have HN := hide (nodeBytes_any s1 h hs hh (w.alloc (.cells #[.int .u64 s1, .bool true] 41)))
    clear hh hs hb
    go_enter Tryd.func71, Tryd.ntmps71
    go_wp2_with fail
    refine HN.out.mono ?_
    rintro e w1 ⟨a, c, rfl, ho, hb⟩
    go_wp2
    go_ret
    exact ⟨a, c, rfl, bytes_of_own ho, HB.out.trans (hb.mono HB.out.size)⟩
end Go.Proofs.YtbinmkigolkhcaaDoor
