/- Byte strings compared: string(..) of bytes, same, bytes.Equal; leafBytes. -/
import Derived.Test.YtbinmkigolkhcaaDoorHZ
import Derived.Laws.BytesArg
import Derived.WideShapes
set_option linter.unusedSimpArgs false
set_option linter.unusedVariables false
namespace Go.Proofs.YtbinmkigolkhcaaDoor
open Go.RowKit Go.Sort
attribute [local go_sem] Oper.semAt_some

def numsB (l : List UInt8) : List Int := l.map fun b => ((b.toNat : Nat) : Int)
theorem numsB_inj {l m : List UInt8} (h : numsB l = numsB m) : l = m := by
  have h2 : (numsB l).map (fun z => UInt8.ofNat z.toNat) = (numsB m).map (fun z => UInt8.ofNat z.toNat) := by rw [h]
  have back : ∀ l : List UInt8, (numsB l).map (fun z => UInt8.ofNat z.toNat) = l := by
    intro l
    unfold numsB
    rw [List.map_map]
    conv => rhs; rw [← List.map_id l]
    apply List.map_congr_left
    intro a _
    simp
  rw [back, back] at h2
  exact h2
set_option maxRecDepth 100000 in
theorem conv_any {B : Nat} {w : World} {A : Option Addr} {n : Nat} {l : List UInt8} (h : BytesAt B w A n l) (c : Nat) :
    (convert 23 9 (.slice A n c)).run Tryd.prog w = .ok (.string (strOfNums (numsB l))) w := by
  have hl := h.1
  cases A with
  | none =>
    have h0 : n = 0 := by
      rcases h.2 with h0 | ⟨b, off, e, _⟩
      · exact h0
      · cases e
    subst h0
    rw [List.eq_nil_of_length_eq_zero hl]
    exact run_convert_bytes_nil w 23 5 Tryd.underlying23 Tryd.underlying5 0 c 9 Tryd.underlying9
  | some ad =>
    rcases Nat.eq_zero_or_pos n with h0 | h0
    · subst h0
      rw [List.eq_nil_of_length_eq_zero hl]
      have hload : (loadCells ad 0).run Tryd.prog w = .ok (([] : List Int).map (Value.int .u8)).toArray w := by
        have := run_loadCells_list (P := Tryd.prog) w ad [] (fun j v hj => by simp at hj)
        simpa using this
      rw [run_convert_bytes_string w 23 9 5 _ 0 c Tryd.underlying23 Tryd.underlying5 Tryd.underlying9, run_bytesToString w _ 0 c [] hload]
      rfl
    · rcases h.2 with h1 | ⟨b, off, e, _, hc⟩
      · omega
      · injection e with e
        subst e
        refine run_convert_bytes_arg w 23 5 Tryd.underlying23 Tryd.underlying5 b off n c (numsB l) (by unfold numsB; rw [List.length_map]; exact hl) (fun i hi => ?_) 9 Tryd.underlying9
        rw [hc i hi]
        unfold numsB
        rw [List.getD_eq_getElem?_getD, List.getD_eq_getElem?_getD, List.getElem?_map, List.getElem?_eq_getElem (by omega)]
        rfl

/-- the string that bytes spell -/
def strB (l : List UInt8) : ByteArray := strOfNums (numsB l)
theorem strB_inj {l m : List UInt8} (h : strB l = strB m) : l = m := by
  unfold strB strOfNums at h
  have h2 := congrArg (fun b : ByteArray => b.data.toList) h
  simp only at h2
  have back : ∀ l : List UInt8, (numsB l).map (fun z => UInt8.ofNat z.toNat) = l := by
    intro l
    unfold numsB
    rw [List.map_map]
    conv => rhs; rw [← List.map_id l]
    apply List.map_congr_left
    intro a _
    simp
  rw [back, back] at h2
  exact h2
theorem strB_beq (l m : List UInt8) : ((strB l).toList == (strB m).toList) = decide (l = m) := by
  rw [ByteArray.toList_eq, ByteArray.toList_eq]
  by_cases h : l = m
  · subst h; simp
  · rw [decide_eq_false h]
    refine beq_eq_false_iff_ne.2 fun e => h (strB_inj ?_)
    exact Go.WideShapes.bytes_inj e
set_option maxHeartbeats 1000000 in
theorem same_any (A : Option Addr) (n c : Nat) (B : Option Addr) (m d : Nat) (l k : List UInt8) (w : World) (hx : BytesAt w.heap.size w A n l) (hy : BytesAt w.heap.size w B m k) :
    Calls Tryd.prog 76 #[.slice A n c, .slice B m d] w fun e w' => e = .returned (.bool (decide (l = k))) ∧ w = w' := by
  have mixed := mixedOrders
  have k1 := conv_any hx c
  have k2 := conv_any hy d
  have hb := strB_beq l k
  unfold strB at hb
  obtain ⟨s1, h1⟩ : ∃ s, strOfNums (numsB l) = s := ⟨_, rfl⟩
  obtain ⟨s2, h2⟩ : ∃ s, strOfNums (numsB k) = s := ⟨_, rfl⟩
  rw [h1] at k1 hb
  rw [h2] at k2 hb
  have HB := hide hb
  clear hb h1 h2 hx hy
  go_enter Tryd.func76, Tryd.ntmps76
  go_wp2_with fail
  go_ret
  exact ⟨ret_bool HB.out, rfl⟩
theorem bytesEq_any (A : Option Addr) (n c : Nat) (B : Option Addr) (m d : Nat) (l k : List UInt8) (w : World) (hx : BytesAt w.heap.size w A n l) (hy : BytesAt w.heap.size w B m k) :
    Calls Tryd.prog 74 #[.slice A n c, .slice B m d] w fun e w' => e = .returned (.bool (decide (l = k))) ∧ w = w' := by
  refine (Tryd.bytes_Equal _ _ (numsB l) (numsB k) w (conv_any hx c) (conv_any hy d)).mono ?_
  rintro e w' ⟨rfl, rfl⟩
  refine ⟨ret_bool ?_, rfl⟩
  have back : ∀ l : List UInt8, Lib.bytesOf (numsB l) = l := by
    intro l
    unfold Lib.bytesOf numsB
    rw [List.map_map]
    conv => rhs; rw [← List.map_id l]
    apply List.map_congr_left
    intro a _
    simp
  rw [back, back]
  by_cases h : l = k
  · subst h; simp
  · rw [decide_eq_false h]
    exact beq_eq_false_iff_ne.2 h
set_option maxHeartbeats 2000000 in
set_option maxRecDepth 100000 in
theorem leafBytes_any (A : Option Addr) (n c : Nat) (l : List UInt8) (w : World) (hx : BytesAt w.heap.size w A n l) (hn : n ≤ 1000000) : Calls Tryd.prog 98 #[.slice A n c] w (RowP (n + 1) (leafB l) w) := by
  have mixed := mixedOrders
  obtain ⟨i0, hi0, hz0, hz1, hz2⟩ := info_parts info5
  have hal : Below w.heap.size w (w.alloc (.cells #[.int .u8 0] 5)) := (Below.refl _ w).alloc (Nat.le_refl _) _
  have HS := hide (src_bytes (hx.below hal))
  have HO : Hid ((w.alloc (.cells #[.int .u8 0] 5)).ownsRow w.heap.size 5 1 (.slice (some ⟨w.heap.size, 0, none⟩) 1 1) 1 (cellsB [0])) := World.ownsRow_lit w #[.int .u8 0] 1 (Nat.le_refl _) (by decide) rfl
  have HL := hide (show (cellsB l).length = n * 1 by rw [len_cellsB, hx.1, Nat.mul_one])
  have hbb1 : 1 + n ≤ maxLen := by unfold maxLen; omega
  have hbb2 : (1 + n) * 1 ≤ 140737488355328 := by omega
  have hb4 : w.heap.size ≤ (w.alloc (.cells #[.int .u8 0] 5)).heap.size := by simp
  have HAL := hide hal
  clear hx hn hal
  go_enter Tryd.func98, Tryd.ntmps98
  go_wp2_with (at_builtin; refine wpList_append_src rfl (.tmp 3) (.tmp 4) _ rfl w.heap.size 5 i0 (.int .u8 0) 1 1 Tryd.underlying23 hi0 hz0 hz1 hz2 rfl (by decide) _ _ _ rfl HO.out A n c (cellsB l) rfl HL.out HS.out (one_bytes l) hbb1 hbb2 hb4 ?_; intro v1 w5 hown1 hgrow1 hat1)
  obtain ⟨a2, c2, rfl⟩ := own_slice hown1
  have hB5 : Below w.heap.size w w5 := HAL.out.trans (below_own HO.out hgrow1 (Nat.le_refl _) HAL.out.size)
  have e : 1 + n = n + 1 := Nat.add_comm _ _
  rw [e] at hown1 ⊢
  go_ret
  exact ⟨a2, c2, rfl, hown1, hB5⟩
end Go.Proofs.YtbinmkigolkhcaaDoor
