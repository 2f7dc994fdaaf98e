/- ProofMakes. -/
import Derived.Test.YtbinmkigolkhcaaDoorJB
import Derived.Laws.OwnMore
set_option linter.unusedSimpArgs false
set_option linter.unusedVariables false
namespace Go.Proofs.YtbinmkigolkhcaaDoor
open Go.RowKit Go.Sort
attribute [local go_sem] Oper.semAt_some

/-- every s-th cell of a row is a hash, whatever one -/
def HashP (xs : List Value) (L s : Nat) : Prop := ∀ k, k < L → ∃ x : Int, xs[k * s]? = some (.int .u64 x)
theorem HashP.set {xs : List Value} {L s : Nat} (h : HashP xs L s) (hs : 0 < s) {k : Nat} (x : Int) : HashP (xs.set (k * s) (.int .u64 x)) L s := by
  intro j hj
  obtain ⟨y, hy⟩ := h j hj
  by_cases e : k * s = j * s
  · refine ⟨x, ?_⟩
    have hl : j * s < xs.length := by
      rcases Nat.lt_or_ge (j * s) xs.length with h1 | h1
      · exact h1
      · rw [List.getElem?_eq_none h1] at hy; cases hy
    rw [e, List.getElem?_set_self hl]
  · exact ⟨y, by rw [List.getElem?_set_ne e]; exact hy⟩
theorem hashP_steps : ∀ ss : List St, HashP (cellsS ss) ss.length 2 := fun ss k hk => ⟨_, (cellsS_at ss k hk).1⟩
theorem hashP_hashes (hs : List Nat) : HashP (cellsP hs) hs.length 1 := fun k hk => ⟨(hs[k] : Nat), by
  unfold cellsP
  rw [Nat.mul_one, List.getElem?_map, List.getElem?_eq_getElem hk]
  rfl⟩
/-- a row whose hashes may have been raised -/
def Raised (base : Nat) (e : TypeId) (s : Nat) (w : World) (a : Option Addr) (L c : Nat) : Prop := ∃ xs, w.ownsRow base e s (.slice a L c) L xs ∧ HashP xs L s
theorem Raised.at_ {base : Nat} {e : TypeId} {s : Nat} {w : World} {a : Option Addr} {L c k : Nat} (h : Raised base e s w a L c) (hk : k < L) (hs : 0 < s) :
    ∃ g x, a = some ⟨g, 0, none⟩ ∧ base ≤ g ∧ w.cell? ⟨g, k * s, none⟩ = some (.int .u64 x) ∧ w.frozen? ⟨g, k * s, none⟩ = false ∧ ∀ y : Int, Raised base e s (w.setCell ⟨g, k * s, none⟩ (.int .u64 y)) (some ⟨g, 0, none⟩) L c := by
  obtain ⟨xs, ho, hp⟩ := h
  obtain ⟨x, hx⟩ := hp k hk
  rcases ho.2 with ⟨_, h0⟩ | ⟨g, cap, cur, hv, hb, _⟩
  · omega
  · injection hv with h1 h2 h3
    subst h1
    have hj : k * s < L * s := Nat.mul_lt_mul_of_pos_right hk hs
    refine ⟨g, x, rfl, hb, (ho.cellAt (k * s) hj).trans hx, ho.frozenAt (k * s), fun y => ⟨_, (ho.stored (k * s) (.int .u64 y)).1, hp.set hs y⟩⟩
def RoundI (B0 : Nat) (w wr : World) (S : Option Addr) (X1 : List St) (H : Option Addr) (Y1 : List Nat) : Prop :=
  Below w.heap.size w wr ∧ StepsAt B0 wr S X1.length X1 ∧ HashesAt B0 wr H Y1.length Y1 ∧ B0 ≤ wr.heap.size ∧ w.heap.size ≤ B0

set_option maxHeartbeats 4000000 in
set_option maxRecDepth 100000 in
theorem makes_law (A : Option Addr) (n c : Nat) (ls : List (List UInt8)) (i m : Int) (w : World) (hE : Env w) (hx : ListsIn w.heap.size w A n ls) (hc : n ≤ c) (hn : n ≤ 9223372036854775807) :
    Calls Tryd.prog 4 #[.slice A n c, .int .i64 i, .int .i64 m] w (TrueP w) := by
  have mixed := mixedOrders
  have HF := hide (few_any A n c ls w hx hn)
  cases hf : fewB ls
  · rw [hf] at HF
    have HA := hide (alive_env hE)
    clear hf hx hc hn hE
    go_enter Tryd.func4, Tryd.ntmps4
    go_wp2_with fail
    refine HF.out.mono ?_
    rintro e w1 ⟨rfl, rfl⟩
    go_wp2_with fail
    refine HA.out.mono ?_
    rintro e w1 ⟨rfl, hb⟩
    go_wp2_with fail
    go_ret
    exact ⟨rfl, hb⟩
  rw [hf] at HF
  obtain ⟨h1, h2⟩ := few_true hf
  have hX := hx.to (fun l hl => Nat.le_trans (h2 l hl) (by decide))
  have hsm : Small ls := fun l hl => Nat.le_trans (h2 l hl) (by decide)
  have hlen := hx.1
  have R1 := hide (refInclude_any A n c ls i w hX (by omega) hc hsm)
  have R2 : Hid (∀ w1, Below w.heap.size w w1 → Calls Tryd.prog 27 #[.slice A n c, .int .i64 m] w1 (TwoHashes (extendV ls m) w1)) := fun w1 hb => refExtend_any A n c ls m w1 (hX.now hb (Nat.le_refl _)) (by omega) hc hsm
  have P1 : Hid (∀ w1, Below w.heap.size w w1 → Calls Tryd.prog 28 #[.slice A n c, .int .i64 i] w1 (TwoSteps (pIncludeV ls i) w1)) := fun w1 hb => pInclude_any A n c ls i w1 (hX.now hb (Nat.le_refl _)) (by omega) hc
  have P2 : Hid (∀ w1, Below w.heap.size w w1 → Calls Tryd.prog 30 #[.slice A n c, .int .i64 m] w1 (TwoHashes (extendV ls m) w1)) := fun w1 hb => pExtend_any A n c ls m w1 (hX.now hb (Nat.le_refl _)) (by omega) hc
  have hb1 : (pIncludeV ls i).1.length ≤ 100 ∧ StBound (pIncludeV ls i).1 := by
    unfold pIncludeV
    split
    · exact ⟨by simp, fun s hs => by simp at hs⟩
    · split
      · exact ⟨by simp, fun s hs => by simp at hs⟩
      · exact ⟨Nat.le_trans (steps_len _ _) h1, steps_bound _ _⟩
  have hb2 : (extendV ls m).1.length ≤ 100 ∧ ∀ p ∈ (extendV ls m).1, p < 18446744073709551616 := by
    unfold extendV
    split
    · exact ⟨by simp, fun s hs => by simp at hs⟩
    · split
      · exact ⟨by simp, fun s hs => by simp at hs⟩
      · exact ⟨Nat.le_trans (growth_len _ _ _) h1, growth_bound _ _ _⟩
  obtain ⟨X, hX'⟩ : ∃ X, pIncludeV ls i = X := ⟨_, rfl⟩
  obtain ⟨Y, hY'⟩ : ∃ Y, extendV ls m = Y := ⟨_, rfl⟩
  rw [hX'] at R1 P1 hb1
  rw [hY'] at R2 P2 hb2
  obtain ⟨X1, X2⟩ := X
  obtain ⟨Y1, Y2⟩ := Y
  have R1' : Hid (Calls Tryd.prog 26 #[.slice A n c, .int .i64 i] w fun e w' => ∃ a c, e = .returned (.tuple #[.slice a X1.length c, .int .i64 X2]) ∧ w'.ownsRow w.heap.size 41 2 (.slice a X1.length c) X1.length (cellsS X1) ∧ Below w.heap.size w w') := R1.out
  have R2' : Hid (∀ w1, Below w.heap.size w w1 → Calls Tryd.prog 27 #[.slice A n c, .int .i64 m] w1 fun e w' => ∃ a c, e = .returned (.tuple #[.slice a Y1.length c, .int .i64 Y2]) ∧ w'.ownsRow w1.heap.size 24 1 (.slice a Y1.length c) Y1.length (cellsP Y1) ∧ Below w1.heap.size w1 w') := R2.out
  have P1' : Hid (∀ w1, Below w.heap.size w w1 → Calls Tryd.prog 28 #[.slice A n c, .int .i64 i] w1 fun e w' => ∃ a c, e = .returned (.tuple #[.slice a X1.length c, .int .i64 X2]) ∧ w'.ownsRow w1.heap.size 41 2 (.slice a X1.length c) X1.length (cellsS X1) ∧ Below w1.heap.size w1 w') := P1.out
  have P2' : Hid (∀ w1, Below w.heap.size w w1 → Calls Tryd.prog 30 #[.slice A n c, .int .i64 m] w1 fun e w' => ∃ a c, e = .returned (.tuple #[.slice a Y1.length c, .int .i64 Y2]) ∧ w'.ownsRow w1.heap.size 24 1 (.slice a Y1.length c) Y1.length (cellsP Y1) ∧ Below w1.heap.size w1 w') := P2.out
  have HB1 : Hid (X1.length ≤ 100 ∧ StBound X1) := hb1
  have HB2 : Hid (Y1.length ≤ 100 ∧ ∀ p ∈ Y1, p < 18446744073709551616) := hb2
  have HE := hide hE
  have zx : (X2 != X2) = false := by simp
  have zy : (Y2 != Y2) = false := by simp
  obtain ⟨p, hp⟩ : ∃ p, X1.length = p := ⟨_, rfl⟩
  obtain ⟨q, hq⟩ : ∃ q, Y1.length = q := ⟨_, rfl⟩
  rw [hp] at R1' P1' HB1
  rw [hq] at R2' P2' HB2
  have HPQ := hide (And.intro hp hq)
  clear hf hx hc hn hE h1 h2 hX hsm hlen R1 R2 P1 P2 hb1 hb2 hX' hY' hp hq
  go_enter Tryd.func4, Tryd.ntmps4
  go_wp2_with fail
  refine HF.out.mono ?_
  rintro e w1 ⟨rfl, rfl⟩
  go_wp2_with fail
  refine R1'.out.mono ?_
  rintro e w2 ⟨S, cS, rfl, ho, hb⟩
  have HBw := hide hb
  have HS2 : Hid (StepsAt w2.heap.size w2 S p X1) := steps_of_own ho HB1.out.2
  have C2 := hide (R2'.out w2 hb)
  clear ho hb R1' R2'
  go_wp2_with fail
  refine C2.out.mono ?_
  rintro e w3 ⟨H, cH, rfl, ho, hb⟩
  have HI0 : Hid (RoundI w3.heap.size w w3 S X1 H Y1) := by
    refine ⟨HBw.out.trans (hb.mono HBw.out.size), ?_, ?_, Nat.le_refl _, Nat.le_trans HBw.out.size hb.size⟩
    · rw [HPQ.out.1]; exact HS2.out.now hb (Nat.le_refl _)
    · rw [HPQ.out.2]; exact hashes_of_own ho HB2.out.2
  obtain ⟨B0, hB0⟩ : ∃ B0, w3.heap.size = B0 := ⟨_, rfl⟩
  rw [hB0] at HI0
  clear ho hb C2 HBw HS2 hB0
  go_wp2_with fail
  go_loopw [11] (fun vi wr => ∃ t : Nat, t ≤ 2 ∧ vi = .int .i64 t ∧ Hid (RoundI B0 w wr S X1 H Y1)) (fun vi _ => 2 - (intOf vi).toNat)
  case atStart => exact ⟨0, Nat.zero_le _, rfl, HI0⟩
  case round =>
    obtain ⟨t, ht, rfl, HI⟩ := hrel
    obtain ⟨wo, rfl⟩ : ∃ wo, wo = wr := ⟨_, rfl⟩
    by_cases hlt : t < 2
    · have hlt' : (t : Int) < 2 := by omega
      have HLT := hide hlt
      have C1 := hide (P1'.out wo HI.out.1)
      clear hlt ht
      go_wp2_with fail
      refine C1.out.mono ?_
      rintro e w4 ⟨a4, c4, rfl, ho, hb⟩
      have HB4 := hide hb
      have hst : StepsAt w4.heap.size w4 a4 p X1 := steps_of_own ho HB1.out.2
      have HSm := hide (steps_same a4 p c4 S cS X1 w4 hst (by rw [← HPQ.out.1]; exact (HI.out.2.1.below (hb.mono HI.out.2.2.2.1)).mono (Nat.le_trans HI.out.2.2.2.1 hb.size)) (by have := HB1.out.1; omega))
      have HO4 := hide ho
      clear ho hb hst C1
      go_wp2_with fail
      refine HSm.out.mono ?_
      rintro e w5 ⟨rfl, hb⟩
      have HR5 : Hid (Raised wo.heap.size 41 2 w5 a4 p c4) := ⟨_, own_keep HO4.out hb (Nat.le_refl _), by have := hashP_steps X1; rw [HPQ.out.1] at this; exact this⟩
      have HB5 := hide (HB4.out.trans (hb.mono HB4.out.size))
      clear hb HSm HO4
      go_wp2_with fail
      go_loopw [14] (fun vi wr => ∃ k : Nat, k ≤ p ∧ vi = .int .i64 k ∧ Hid (Raised wo.heap.size 41 2 wr a4 p c4 ∧ Below wo.heap.size wo wr)) (fun vi _ => p - (intOf vi).toNat)
      case atStart => exact ⟨0, Nat.zero_le _, rfl, HR5.out, HB5.out⟩
      case round =>
        obtain ⟨k, hk, rfl, HK⟩ := hrel
        obtain ⟨wk, rfl⟩ : ∃ wk, wk = wr := ⟨_, rfl⟩
        by_cases hlt : k < p
        · have hlt' : (k : Int) < (p : Int) := by omega
          have hp100 := HB1.out.1
          obtain ⟨g, x, rfl, hg, cg, fg, hset⟩ := HK.out.1.at_ hlt (by decide)
          have HSET := hide hset
          have HG := hide hg
          have HLK := hide hlt
          have hbl := HK.out.2
          have HBL := hide hbl
          clear hset hg hlt hk hbl
          go_wp2_with fail
          go_roundw
          case measure => have := HLK.out; simp [intOf]; omega
          exact ⟨k + 1, by have := HLK.out; omega, by go_num, HSET.out _, HBL.out.setCell (p := ⟨g, k * 2, none⟩) HG.out _⟩
        · obtain rfl : k = p := by omega
          have HB6 := hide HK.out.2
          have C6 := hide (P2'.out wk (HI.out.1.trans (HK.out.2.mono HI.out.1.size)))
          clear hlt hk HR5 HB5 HB4
          go_wp2_with fail
          refine C6.out.mono ?_
          rintro e w7 ⟨a7, c7, rfl, ho, hb⟩
          have hbW := HB6.out.trans (hb.mono HB6.out.size)
          have hht : HashesAt w7.heap.size w7 a7 q Y1 := hashes_of_own ho HB2.out.2
          have HSm := hide (hashes_same a7 q c7 H cH Y1 w7 hht (by rw [← HPQ.out.2]; exact (HI.out.2.2.1.below (hbW.mono HI.out.2.2.2.1)).mono (Nat.le_trans HI.out.2.2.2.1 hbW.size)) (by have := HB2.out.1; omega))
          have HO7 := hide ho
          have HB7 := hide hb
          clear ho hb hbW hht C6
          go_wp2_with fail
          refine HSm.out.mono ?_
          rintro e w8 ⟨rfl, hb⟩
          have HR8 : Hid (Raised wk.heap.size 24 1 w8 a7 q c7) := ⟨_, own_keep HO7.out hb (Nat.le_refl _), by have := hashP_hashes Y1; rw [HPQ.out.2] at this; exact this⟩
          have HB8 := hide (HB7.out.trans (hb.mono HB7.out.size))
          clear hb HSm HO7
          go_wp2_with fail
          go_loopw [16] (fun vi wr => ∃ k : Nat, k ≤ q ∧ vi = .int .i64 k ∧ Hid (Raised wk.heap.size 24 1 wr a7 q c7 ∧ Below wk.heap.size wk wr)) (fun vi _ => q - (intOf vi).toNat)
          case atStart => exact ⟨0, Nat.zero_le _, rfl, HR8.out, HB8.out⟩
          case round =>
            obtain ⟨k2, hk, rfl, HZ⟩ := hrel
            obtain ⟨wz, rfl⟩ : ∃ wz, wz = wr := ⟨_, rfl⟩
            by_cases hlt : k2 < q
            · have hlt' : (k2 : Int) < (q : Int) := by omega
              have hq100 := HB2.out.1
              obtain ⟨g, x, rfl, hg, cg, fg, hset⟩ := HZ.out.1.at_ hlt (by decide)
              rw [Nat.mul_one] at cg fg hset
              have HSET := hide hset
              have HG := hide hg
              have HLK := hide hlt
              have HBL := hide HZ.out.2
              clear hset hg hlt hk
              go_wp2_with fail
              go_roundw
              case measure => have := HLK.out; simp [intOf]; omega
              exact ⟨k2 + 1, by have := HLK.out; omega, by go_num, HSET.out _, HBL.out.setCell (p := ⟨g, k2, none⟩) HG.out _⟩
            · obtain rfl : k2 = q := by omega
              have HIz : Hid (RoundI B0 w wz S X1 H Y1) := by
                obtain ⟨i1, i2, i3, i4, i5⟩ := HI.out
                have hbz := HB6.out.trans (HZ.out.2.mono HB6.out.size)
                exact ⟨i1.trans (hbz.mono i1.size), i2.below (hbz.mono i4), i3.below (hbz.mono i4), Nat.le_trans i4 hbz.size, i5⟩
              clear hlt hk
              go_wp2_with fail
              go_roundw
              case measure => have := HLT.out; simp [intOf]; omega
              exact ⟨t + 1, by have := HLT.out; omega, by go_num, HIz⟩
    · obtain rfl : t = 2 := by omega
      have HAL := hide (alive_env (HE.out.after HI.out.1))
      have HBF := hide HI.out.1
      clear hlt ht
      go_wp2_with fail
      refine HAL.out.mono ?_
      rintro e w9 ⟨rfl, hb⟩
      go_wp2_with fail
      go_ret
      exact ⟨rfl, HBF.out.trans (hb.mono HBF.out.size)⟩
end Go.Proofs.YtbinmkigolkhcaaDoor
