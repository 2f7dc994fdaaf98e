/- Steps in memory; Follow. -/
import Derived.Test.YtbinmkigolkhcaaDoorPF
namespace Go.Proofs.YtbinmkigolkhcaaDoor
open Go.RowKit Go.Sort
attribute [local go_sem] Oper.semAt_some

def stH (ss : List St) (i : Nat) : Nat := (ss.getD i (0, false)).1
def stL (ss : List St) (i : Nat) : Bool := (ss.getD i (0, false)).2
/-- the slice value (address A, length n) holds the steps ss, in a block below B -/
def StepsAt (B : Nat) (w : World) (A : Option Addr) (n : Nat) (ss : List St) : Prop :=
  ss.length = n ∧ (n = 0 ∨ ∃ b off, A = some ⟨b, off, none⟩ ∧ b < B ∧ ∀ i, i < n → w.cell? ⟨b, off + i * 2, none⟩ = some (.int .u64 (stH ss i : Nat)) ∧ w.cell? ⟨b, off + i * 2 + 1, none⟩ = some (.bool (stL ss i)) ∧ stH ss i < 18446744073709551616)
theorem StepsAt.mono {B B' : Nat} {w : World} {A : Option Addr} {n : Nat} {ss : List St} (h : StepsAt B w A n ss) (hB : B ≤ B') : StepsAt B' w A n ss := by
  refine ⟨h.1, ?_⟩
  rcases h.2 with h0 | ⟨b, off, e, hlt, hc⟩
  · exact .inl h0
  · exact .inr ⟨b, off, e, by omega, hc⟩
theorem StepsAt.below {B : Nat} {w w' : World} {A : Option Addr} {n : Nat} {ss : List St} (h : StepsAt B w A n ss) (hb : Below B w w') : StepsAt B w' A n ss := by
  refine ⟨h.1, ?_⟩
  rcases h.2 with h0 | ⟨b, off, e, hlt, hc⟩
  · exact .inl h0
  · exact .inr ⟨b, off, e, hlt, fun i hi => ⟨(hb.cell (p := ⟨b, _, none⟩) hlt).trans (hc i hi).1, (hb.cell (p := ⟨b, _, none⟩) hlt).trans (hc i hi).2.1, (hc i hi).2.2⟩⟩
theorem StepsAt.now {B : Nat} {w w' : World} {A : Option Addr} {n : Nat} {ss : List St} (h : StepsAt B w A n ss) (hb : Below B w w') (hB : B ≤ w.heap.size) : StepsAt w'.heap.size w' A n ss :=
  (h.below hb).mono (Nat.le_trans hB hb.size)
theorem StepsAt.at_ {B : Nat} {w : World} {A : Option Addr} {n : Nat} {ss : List St} (h : StepsAt B w A n ss) {k : Nat} (hk : k < n) :
    ∃ b off, A = some ⟨b, off, none⟩ ∧ b < B ∧ w.cell? ⟨b, off + k * 2, none⟩ = some (.int .u64 (stH ss k : Nat)) ∧ w.cell? ⟨b, off + k * 2 + 1, none⟩ = some (.bool (stL ss k)) ∧ stH ss k < 18446744073709551616 := by
  rcases h.2 with h0 | ⟨b, off, e, hlt, hc⟩
  · omega
  · exact ⟨b, off, e, hlt, hc k hk⟩
def followV (l : List UInt8) (ss : List St) : Nat := ss.foldl (fun h s => mixV (stepB h s)) (leafV l)
theorem follow_lt (l : List UInt8) : ∀ ss : List St, followV l ss < 18446744073709551616 := by
  intro ss
  rcases List.eq_nil_or_concat ss with rfl | ⟨ss, s, rfl⟩
  · exact leafV_lt l
  · unfold followV
    rw [List.concat_eq_append, List.foldl_append]
    exact mixV_lt _
theorem follow_take {l : List UInt8} {ss : List St} {i : Nat} (hi : i < ss.length) : followV l (ss.take (i + 1)) = mixV (stepB (followV l (ss.take i)) (stH ss i, stL ss i)) := by
  unfold followV stH stL
  rw [List.take_add_one, List.getElem?_eq_getElem hi, List.foldl_append, Option.toList_some, List.getD_eq_getElem?_getD, List.getElem?_eq_getElem hi, Option.getD_some]
  rfl
theorem stepB_length (h : Nat) (s : St) : (stepB h s).length = 17 := by
  unfold stepB nodeB eight
  split <;> simp [eightF_length]

set_option maxHeartbeats 2000000 in
set_option maxRecDepth 100000 in
theorem Follow_any (A : Option Addr) (n c : Nat) (l : List UInt8) (S : Option Addr) (m d : Nat) (ss : List St) (w : World) (hx : BytesAt w.heap.size w A n l) (hn : n ≤ 1000000) (hs : StepsAt w.heap.size w S m ss) (hm : m ≤ 1000000) :
    Calls Tryd.prog 34 #[.slice A n c, .slice S m d] w fun e w' => e = .returned (.int .u64 (followV l ss : Nat)) ∧ Below w.heap.size w w' := by
  have mixed := mixedOrders
  have HL := hide (Leaf_any A n c l w hx hn)
  have HS := hide hs
  have hlen := hs.1
  clear hx hs
  go_enter Tryd.func34, Tryd.ntmps34
  go_wp2_with fail
  refine HL.out.mono ?_
  rintro e w1 ⟨rfl, hb1⟩
  have HB1 := hide hb1
  clear hb1 HL
  obtain ⟨v0, hv0⟩ : ∃ v0, leafV l = v0 := ⟨_, rfl⟩
  rw [hv0]
  have HV0 := hide hv0
  clear hv0
  go_wp2_with fail
  go_loopw [5, 12] (fun vh vi wr => ∃ i : Nat, i ≤ m ∧ vi = .int .i64 i ∧ vh = .int .u64 (followV l (ss.take i) : Nat) ∧ Hid (Below w.heap.size w wr)) (fun _ vi _ => m - (intOf vi).toNat)
  case atStart => exact ⟨0, Nat.zero_le _, rfl, by rw [← HV0.out]; rfl, HB1⟩
  case round =>
    obtain ⟨i, hi, rfl, rfl, HB⟩ := hrel
    by_cases hlt : i < m
    · have hlt' : (i : Int) < (m : Int) := by omega
      obtain ⟨b, off, rfl, hb, c0, c1, hh⟩ := (HS.out.below HB.out).at_ hlt
      have ht := hide (follow_take (l := l) (ss := ss) (i := i) (by omega))
      obtain ⟨x, hxx⟩ : ∃ x, stH ss i = x := ⟨_, rfl⟩
      obtain ⟨y, hyy⟩ : ∃ y, stL ss i = y := ⟨_, rfl⟩
      obtain ⟨h0, hh0⟩ : ∃ h0, followV l (ss.take i) = h0 := ⟨_, rfl⟩
      have hl0 : h0 < 18446744073709551616 := by rw [← hh0]; exact follow_lt l _
      rw [hxx, hyy, hh0] at ht
      rw [hh0]
      rw [hxx] at c0 hh
      rw [hyy] at c1
      clear hxx hyy hh0
      have hbA := HB.out.alloc HB.out.size (.cells #[.int .u64 x, .bool y] 41)
      have HBA := hide hbA
      have HN := hide (stepBytes_any h0 (x, y) hl0 hh (wr.alloc (.cells #[.int .u64 x, .bool y] 41)))
      clear hbA hl0 hh
      go_wp2_with fail
      refine HN.out.mono ?_
      rintro e w2 ⟨a2, c2, rfl, ho2, hb2⟩
      have HB2 := hide (HBA.out.trans (hb2.mono HBA.out.size))
      have HM := hide (Mix_any a2 17 c2 _ w2 ho2 (by omega))
      clear ho2 hb2 HN
      go_wp2_with fail
      refine HM.out.mono ?_
      rintro e w3 ⟨rfl, rfl⟩
      rw [← ht.out]
      go_wp2_with fail
      exact ⟨⟨i + 1, by omega, by go_num, rfl, HB2⟩, by simp [intOf]; omega⟩
    · obtain rfl : i = m := by omega
      go_wp2_with fail
      go_ret
      exact ⟨by rw [List.take_of_length_le (Nat.le_of_eq hlen)]; rfl, HB.out⟩
end Go.Proofs.YtbinmkigolkhcaaDoor
