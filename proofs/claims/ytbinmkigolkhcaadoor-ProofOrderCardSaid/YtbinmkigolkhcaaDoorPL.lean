/- EqualFunc, leadFrom, Included. -/
import Derived.Test.YtbinmkigolkhcaaDoorPJ
namespace Go.Proofs.YtbinmkigolkhcaaDoor
open Go.RowKit Go.Sort
attribute [local go_sem] Oper.semAt_some

def BoolsAt (B : Nat) (w : World) (A : Option Addr) (n : Nat) (l : List Bool) : Prop :=
  l.length = n ∧ (n = 0 ∨ ∃ b off, A = some ⟨b, off, none⟩ ∧ b < B ∧ ∀ i, i < n → w.cell? ⟨b, off + i, none⟩ = some (.bool (l.getD i false)))
theorem BoolsAt.below {B : Nat} {w w' : World} {A : Option Addr} {n : Nat} {l : List Bool} (h : BoolsAt B w A n l) (hb : Below B w w') : BoolsAt B w' A n l := by
  refine ⟨h.1, ?_⟩
  rcases h.2 with h0 | ⟨b, off, e, hlt, hc⟩
  · exact .inl h0
  · exact .inr ⟨b, off, e, hlt, fun i hi => (hb.cell (p := ⟨b, off + i, none⟩) hlt).trans (hc i hi)⟩
theorem BoolsAt.at_ {B : Nat} {w : World} {A : Option Addr} {n i : Nat} {l : List Bool} (h : BoolsAt B w A n l) (hi : i < n) :
    ∃ b off, A = some ⟨b, off, none⟩ ∧ b < B ∧ w.cell? ⟨b, off + i, none⟩ = some (.bool (l.getD i false)) := by
  rcases h.2 with h0 | ⟨b, off, e, hb, hc⟩
  · omega
  · exact ⟨b, off, e, hb, hc i hi⟩
theorem bools_of_own {W : World} {base k c : Nat} {a : Option Addr} {l : List Bool} (h : W.ownsRow base 4 1 (.slice a k c) k (cellsL l)) : BoolsAt W.heap.size W a k l := by
  have hl : l.length = k := by have := h.1; unfold cellsL at this; simpa using this
  refine ⟨hl, ?_⟩
  rcases h.2 with ⟨_, h0⟩ | ⟨g, cap, cur, hv, hb, hg, hr⟩
  · exact .inl h0
  · injection hv with h1 h2 h3
    subst h1
    refine .inr ⟨g, 0, rfl, (Array.getElem?_eq_some_iff.1 hg).1, fun i hi => ?_⟩
    rw [Nat.zero_add]
    have e : (⟨g, 0, none⟩ : Addr).add i = ⟨g, i, none⟩ := by
      by_cases h0 : i = 0
      · subst h0; rfl
      · simp [Addr.add, h0]
    have c0 := h.cells (g := g) rfl i (.bool (l.getD i false)) (by
      unfold cellsL
      rw [List.getElem?_map, List.getElem?_eq_getElem (by omega), List.getD_eq_getElem?_getD, List.getElem?_eq_getElem (by omega)]
      rfl)
    rw [e] at c0
    exact c0
def leadB (ss : List St) (l : List Bool) : Bool := decide (ss.map (·.2) = l)
theorem lead_len {ss : List St} {l : List Bool} (h : ss.length ≠ l.length) : leadB ss l = false := by
  refine decide_eq_false fun e => h ?_
  rw [← e, List.length_map]
theorem lead_ne {ss : List St} {l : List Bool} {i : Nat} (hi : i < ss.length) (h2 : i < l.length) (h : stL ss i ≠ l.getD i false) : leadB ss l = false := by
  refine decide_eq_false fun e => h ?_
  subst e
  unfold stL
  rw [List.getD_eq_getElem?_getD, List.getD_eq_getElem?_getD, List.getElem?_map, List.getElem?_eq_getElem hi]
  rfl
theorem lead_all {ss : List St} {l : List Bool} (hl : ss.length = l.length) (h : ∀ i, i < ss.length → stL ss i = l.getD i false) : leadB ss l = true := by
  refine decide_eq_true (List.ext_getElem (by rw [List.length_map, hl]) fun i h1 h2 => ?_)
  rw [List.length_map] at h1
  have := h i h1
  unfold stL at this
  rw [List.getD_eq_getElem?_getD, List.getD_eq_getElem?_getD, List.getElem?_eq_getElem h1, List.getElem?_eq_getElem h2] at this
  rw [List.getElem_map]
  exact this

set_option maxHeartbeats 2000000 in
set_option maxRecDepth 100000 in
theorem EqualFunc_any (S : Option Addr) (m d : Nat) (ss : List St) (Q : Option Addr) (k e : Nat) (l : List Bool) (w : World) (hs : StepsAt w.heap.size w S m ss) (hl : BoolsAt w.heap.size w Q k l) (hm : m ≤ 1000000) (hk : k ≤ 1000000) :
    Calls Tryd.prog 92 #[.slice S m d, .slice Q k e, .func (.func 94) #[] #[]] w fun e w' => e = .returned (.bool (leadB ss l)) ∧ Below w.heap.size w w' := by
  have mixed := mixedOrders
  have HS := hide hs
  have HL := hide hl
  have l1 := hs.1
  have l2 := hl.1
  clear hs hl
  by_cases hmk : m = k
  · subst hmk
    go_enter Tryd.func92, Tryd.ntmps92
    go_wp2_with fail
    go_loopw [17] (fun vi wr => ∃ i : Nat, i ≤ m ∧ vi = .int .i64 i ∧ (∀ j, j < i → stL ss j = l.getD j false) ∧ Hid (Below w.heap.size w wr)) (fun vi _ => m - (intOf vi).toNat)
    case atStart => exact ⟨0, Nat.zero_le _, rfl, fun j hj => absurd hj (Nat.not_lt_zero _), Below.refl _ _⟩
    case round =>
      obtain ⟨i, hi, rfl, hall, HB⟩ := hrel
      have HA := hide hall
      clear hall
      by_cases hlt : i < m
      · have hlt' : (i : Int) < (m : Int) := by omega
        obtain ⟨b, off, rfl, hb, c0, c1, -⟩ := (HS.out.below HB.out).at_ hlt
        obtain ⟨b2, off2, rfl, hb2, c2⟩ := (HL.out.below HB.out).at_ hlt
        obtain ⟨x, hxx⟩ : ∃ x, stH ss i = x := ⟨_, rfl⟩
        obtain ⟨y, hyy⟩ : ∃ y, stL ss i = y := ⟨_, rfl⟩
        obtain ⟨z, hzz⟩ : ∃ z, l.getD i false = z := ⟨_, rfl⟩
        rw [hxx] at c0
        rw [hyy] at c1
        rw [hzz] at c2
        have HBA := hide (HB.out.alloc HB.out.size (.cells #[.int .u64 x, .bool y] 41))
        have HF := hide (leadFn_any x y z (wr.alloc (.cells #[.int .u64 x, .bool y] 41)))
        have c3 : (wr.alloc (.cells #[.int .u64 x, .bool y] 41)).cell? ⟨b2, off2 + i, none⟩ = some (.bool z) := ((Gr.refl wr).alloc _).cell (Nat.lt_of_lt_of_le hb2 HB.out.size) |>.trans c2
        have HY := hide hyy
        have HZ := hide hzz
        clear hxx hyy hzz c2
        by_cases hyz : y = z
        · have hq : (y == z) = true := by rw [hyz]; cases z <;> rfl
          have HYZ := hide hyz
          clear hyz
          go_wp2_with fail
          refine HF.out.mono ?_
          rintro e w2 ⟨rfl, hb2⟩
          have HB2 := hide (HBA.out.trans (hb2.mono HBA.out.size))
          clear hb2
          go_wp2_with fail
          refine ⟨⟨i + 1, by omega, by go_num, fun j hj => ?_, HB2⟩, by simp [intOf]; omega⟩
          rcases Nat.lt_or_ge j i with h | h
          · exact HA.out j h
          · obtain rfl : j = i := by omega
            rw [HY.out, HZ.out, HYZ.out]
        · have hq : (y == z) = false := by cases y <;> cases z <;> first | rfl | exact absurd rfl hyz
          have HR := hide (lead_ne (ss := ss) (l := l) (i := i) (by omega) (by omega) (by rw [HY.out, HZ.out]; exact hyz))
          clear hyz
          go_wp2_with fail
          refine HF.out.mono ?_
          rintro e w2 ⟨rfl, hb2⟩
          have HB2 := hide (HBA.out.trans (hb2.mono HBA.out.size))
          clear hb2
          go_wp2_with fail
          go_ret
          exact ⟨by rw [HR.out]; rfl, HB2.out⟩
      · obtain rfl : i = m := by omega
        have HR := hide (lead_all (ss := ss) (l := l) (by omega) (by rw [l1]; exact HA.out))
        go_wp2_with fail
        go_ret
        exact ⟨by rw [HR.out]; rfl, HB.out⟩
  · have z1 : ((m : Int) != (k : Int)) = true := bne_iff_ne.2 (by omega)
    rw [lead_len (by omega)]
    go_enter Tryd.func92, Tryd.ntmps92
    go_wp2_with fail
    go_ret
    exact ⟨rfl, Below.refl _ _⟩

set_option maxHeartbeats 1000000 in
theorem leadFrom_any (i n : Nat) (S : Option Addr) (m d : Nat) (ss : List St) (w : World) (h1 : i < n) (h2 : n ≤ 1000000) (hs : StepsAt w.heap.size w S m ss) (hm : m ≤ 1000000) :
    Calls Tryd.prog 68 #[.int .i64 i, .int .i64 n, .slice S m d] w fun e w' => e = .returned (.bool (leadB ss (sidesV i n))) ∧ Below w.heap.size w w' := by
  have HC := hide (sides_any n n i w (Nat.le_refl _) (by omega) h1 h2)
  have HS := hide hs
  have HL := hide (sides_len i n)
  clear hs
  unfold SidesPost at HC
  obtain ⟨L, hL⟩ : ∃ L, sidesV i n = L := ⟨_, rfl⟩
  rw [hL] at HC HL ⊢
  clear hL
  go_enter Tryd.func68, Tryd.ntmps68
  go_wp2_with fail
  refine HC.out.mono ?_
  rintro e w1 ⟨a, c, rfl, ho, hb⟩
  have HB := hide hb
  have HE := hide (EqualFunc_any S m d ss a L.length c L w1 (HS.out.now hb (Nat.le_refl _)) (bools_of_own ho) hm (by have := HL.out; omega))
  clear ho hb HC
  go_wp2_with fail
  refine HE.out.mono ?_
  rintro e w2 ⟨rfl, hb2⟩
  go_wp2
  go_ret
  exact ⟨rfl, HB.out.trans (hb2.mono HB.out.size)⟩
end Go.Proofs.YtbinmkigolkhcaaDoor
