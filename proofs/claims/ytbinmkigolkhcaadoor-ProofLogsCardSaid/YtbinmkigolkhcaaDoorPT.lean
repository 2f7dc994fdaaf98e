/- raise. -/
import Derived.Test.YtbinmkigolkhcaaDoorPS
set_option linter.unusedSimpArgs false
set_option linter.unusedVariables false
namespace Go.Proofs.YtbinmkigolkhcaaDoor
open Go.RowKit Go.Sort
attribute [local go_sem] Oper.semAt_some

theorem info24 : (Tryd.prog.info? 24).map (fun i => (i.zero, i.size, i.bytes)) = some (some (.int .u64 0), 1, 8) := by kernel_rfl
def rzF (ps : List Nat) (x : Nat) : Nat → Nat
  | 0 => x
  | i + 1 => nodeV (ps.getD (ps.length - 1 - i) 0) (rzF ps x i)
def raiseV (ps : List Nat) (x t : Nat) : List Nat := ps.take (ps.length - t) ++ [rzF ps x t]
theorem rzF_lt {ps : List Nat} {x : Nat} (hx : x < 18446744073709551616) : ∀ i, rzF ps x i < 18446744073709551616
  | 0 => hx
  | i + 1 => nodeV_lt _ _
section
variable {F : Nat → Prop} {w : World} {b : Nat} {ls : List (List UInt8)} {ps : List Nat} {Ae : Option Addr} {ce : Nat} {Ap : Option Addr} {cp : Nat}
theorem LogAt.f2 (h : LogAt F w b ls ps Ae ce Ap cp) : w.frozen? ⟨b, 2, none⟩ = false := by unfold World.frozen?; simp [h.blk]
theorem LogAt.f1 (h : LogAt F w b ls ps Ae ce Ap cp) : w.frozen? ⟨b, 1, none⟩ = false := by unfold World.frozen?; simp [h.blk]
theorem LogAt.peak (h : LogAt F w b ls ps Ae ce Ap cp) {q : Nat} (hq : q < ps.length) : ∃ g, Ap = some ⟨g, 0, none⟩ ∧ w.cell? ⟨g, q, none⟩ = some (.int .u64 (ps.getD q 0 : Nat)) ∧ g < w.heap.size ∧ ps.length ≤ cp := by
  rcases h.pks.2 with ⟨e, h0⟩ | ⟨g, cap, cur, hv, _, hg, hle, _⟩
  · omega
  · injection hv with h1 h2 h3
    subst h1; subst h3
    have c0 := h.pks.cells (g := g) rfl q (.int .u64 (ps.getD q 0 : Nat)) (by
      unfold cellsP
      rw [List.getElem?_map, List.getElem?_eq_getElem hq, List.getD_eq_getElem?_getD, List.getElem?_eq_getElem hq]
      rfl)
    have ad : (⟨g, 0, none⟩ : Addr).add q = ⟨g, q, none⟩ := by
      by_cases h0 : q = 0
      · subst h0; rfl
      · simp [Addr.add, h0]
    rw [ad] at c0
    exact ⟨g, rfl, c0, (Array.getElem?_eq_some_iff.1 hg).1, hle⟩
end
def RaisePost (F : Nat → Prop) (b : Nat) (ls : List (List UInt8)) (ps : List Nat) (Ae : Option Addr) (ce : Nat) (w : World) (e : Ending) (w' : World) : Prop :=
  e = .returned (.tuple #[]) ∧ Mods F w w' ∧ ∃ Ap' cp', LogAt (fun k => F k ∨ w.heap.size ≤ k) w' b ls ps Ae ce Ap' cp'

set_option maxHeartbeats 4000000 in
set_option maxRecDepth 100000 in
theorem raise_any (F : Nat → Prop) (w : World) (b : Nat) (ls : List (List UInt8)) (ps : List Nat) (Ae : Option Addr) (ce : Nat) (Ap : Option Addr) (cp : Nat) (h : LogAt F w b ls ps Ae ce Ap cp) (hl : ls.length ≤ 4096) (hps : ps.length ≤ 64)
    (x : Nat) (hx : x < 18446744073709551616) (t : Nat) (ht : Lib.ctz 64 ls.length = t) (htp : t ≤ ps.length) (hT : TabAt 1 Lib.deBruijn64tab w) :
    Calls Tryd.prog 85 #[.pointer (some ⟨b, 0, none⟩), .int .u64 x] w (RaisePost F b ls (raiseV ps x t) Ae ce w) := by
  have mixed := mixedOrders
  obtain ⟨i0, hi0, hz0, hz1, hz2⟩ := info_parts info24
  have HTZ := hide (Tryd.bits_TrailingZeros ls.length (by omega) w (fun _ => hT))
  rw [ht] at HTZ
  have c1 := h.c1
  have w1 : IntKind.u64.wrap (ls.length : Int) = (ls.length : Int) := by rw [IntKind.wrap_u64]; omega
  have HLG : Hid (LogAt (fun k => F k ∨ w.heap.size ≤ k) w b ls ps Ae ce Ap cp) := h.wider fun k hk => .inl hk
  have HX := hide hx
  have HPB := hide h.pb
  have HB := hide (show ls.length ≤ 4096 ∧ ps.length ≤ 64 ∧ t ≤ ps.length from ⟨hl, hps, htp⟩)
  clear h hT ht hx hl hps htp
  go_enter Tryd.func85, Tryd.ntmps85
  go_wp2_with fail
  refine HTZ.out.mono ?_
  rintro e w2 ⟨rfl, rfl⟩
  clear HTZ w1 c1
  go_wp2_with fail
  go_loopw [4, 14] (fun vp vi wr => ∃ i : Nat, i ≤ t ∧ vi = .int .i64 i ∧ vp = .int .u64 (rzF ps x i : Nat) ∧ Hid (LogAt (fun k => F k ∨ w2.heap.size ≤ k) wr b ls (ps.take (ps.length - i)) Ae ce Ap cp ∧ Mods (fun k => F k ∨ w2.heap.size ≤ k) w2 wr)) (fun _ vi _ => t - (intOf vi).toNat)
  case atStart => exact ⟨0, Nat.zero_le _, rfl, rfl, by rw [Nat.sub_zero, List.take_length]; exact HLG.out, Mods.refl _ _⟩
  case round =>
    obtain ⟨i, hi, rfl, rfl, HI⟩ := hrel
    obtain ⟨hb1, hb2, hb3⟩ := HB.out
    have hlen : (ps.take (ps.length - i)).length = ps.length - i := by rw [List.length_take]; omega
    by_cases hlt : i < t
    · have hlt' : (i : Int) < (t : Int) := by omega
      obtain ⟨q, hq⟩ : ∃ q, ps.length - i = q + 1 := ⟨ps.length - i - 1, by omega⟩
      have hq2 : ps.length - (i + 1) = q := by omega
      have hq3 : ps.length - 1 - i = q := by omega
      rw [hq] at hlen HI
      obtain ⟨g, rfl, cg, hg, hcp⟩ := HI.out.1.peak (q := q) (by omega)
      have c2 := HI.out.1.c2
      rw [hlen] at c2 hcp
      have hz : (ps.take (q + 1)).getD q 0 = ps.getD q 0 := by simp [List.getD_eq_getElem?_getD]
      rw [hz] at cg
      have hz2 := getD_lt HPB.out q
      have hr2 := rzF_lt (ps := ps) HX.out i
      have HE : Hid (rzF ps x (i + 1) = nodeV (ps.getD q 0) (rzF ps x i)) := by show rzF ps x (i + 1) = _; rw [← hq3]; rfl
      obtain ⟨z, hzz⟩ : ∃ z, ps.getD q 0 = z := ⟨_, rfl⟩
      obtain ⟨r, hrr⟩ : ∃ r, rzF ps x i = r := ⟨_, rfl⟩
      rw [hzz] at cg hz2 HE
      rw [hrr] at hr2 HE ⊢
      have HN : Hid (∀ wq, Calls Tryd.prog 24 #[.int .u64 z, .int .u64 r] wq fun e w' => e = .returned (.int .u64 (nodeV z r : Nat)) ∧ Below wq.heap.size wq w') := fun wq => Node_any z r hz2 hr2 wq
      have n0 : (q : Int) ≤ 64 := by omega
      have n5 : (i : Int) ≤ 64 := by omega
      have n2 : (q : Int) ≤ (cp : Int) := by omega
      have HQ := hide (show ps.length - (i + 1) = q ∧ (ps.take (q + 1)).take q = ps.take q ∧ i < t ∧ (ps.take (q + 1)).length = q + 1 from ⟨hq2, by rw [List.take_take, Nat.min_eq_left (by omega)], hlt, hlen⟩)
      clear hz hz2 hr2 hzz hrr hq hq2 hq3 hlen hcp hlt hb1 hb2 hb3
      go_wp2_with fail
      refine (HN.out _).mono ?_
      rintro e w3 ⟨rfl, hbw⟩
      have HL3 := hide (HI.out.1.stays hbw)
      have HM3 := hide (HI.out.2.trans (Mods.of_below _ hbw))
      have c3 := (HL3.out.c2)
      rw [HQ.out.2.2.2] at c3
      have f3 := HL3.out.f2
      clear hbw c2 cg
      go_wp2_with fail
      refine ⟨⟨i + 1, by have := HQ.out.2.2.1; omega, by go_num, by rw [HE.out], ?_, ?_⟩, by have := HQ.out.2.2.1; simp [intOf]; omega⟩
      · rw [HQ.out.1, ← HQ.out.2.1]
        exact HL3.out.shrink (by rw [HQ.out.2.2.2]; omega)
      · exact HM3.out.trans (Mods.set _ HL3.out.fb 2 _)
    · obtain rfl : i = t := by omega
      have c2 := HI.out.1.c2
      have f2 := HI.out.1.f2
      have HLP := hide HI.out.1
      have HMM := hide HI.out.2
      rw [hlen] at c2
      obtain ⟨m, hm⟩ : ∃ m, ps.length - i = m := ⟨_, rfl⟩
      rw [hm] at c2 hlen HLP
      obtain ⟨r, hrr⟩ : ∃ r, rzF ps x i = r := ⟨_, rfl⟩
      have hr2 := rzF_lt (ps := ps) HX.out i
      have HR : Hid (raiseV ps x i = ps.take m ++ [r]) := by show raiseV ps x i = _; unfold raiseV; rw [hm, hrr]
      rw [hrr] at hr2 ⊢
      have hpk := HLP.out.pks
      rw [hlen] at hpk
      have HPK := hide hpk
      have HR2 := hide hr2
      have HLN := hide hlen
      have hbb1 : m + 1 ≤ maxLen := by unfold maxLen; omega
      have hbb2 : (m + 1) * 8 ≤ 140737488355328 := by omega
      have hb4 : 0 ≤ (wr.alloc (.cells #[.int .u64 r] 24)).heap.size := Nat.zero_le _
      clear hrr hr2 hpk hlen hm HI hb1 hb2 hb3 hi hlt
      go_wp2_with (at_builtin; go_loud (refine wpList_append_lies _ rfl (.tmp 45) (.tmp 47) _ rfl 0 24 i0 (.int .u64 0) 1 8 Tryd.underlying36 hi0 hz0 hz1 hz2 rfl (by decide) _ _ _ rfl (HPK.out.alloc _) ⟨wr.heap.size, 0, none⟩ 1 1 [.int .u64 r] rfl rfl (cell_one_at _ _ rfl) (by simp [Value.oneCell']) (by decide) hbb1 hbb2 hb4 _ rfl ?_; intro g3 c3 w5 hown1 hgrow1 hat1 hlt1; have HOWN := hide hown1; have HG := hide hgrow1; have HAT := hide hat1; have f5 := (hgrow1.frozen_far ⟨b, 2, none⟩ (by simp; have := HLP.out.lt; omega) (by intro e; obtain ⟨cur, hc⟩ := own_block HPK.out e.symm; exact absurd (cell_ty hc HLP.out.blk) (by decide))).trans ((((Gr.refl wr).alloc _).frozen (p := ⟨b, 2, none⟩) HLP.out.lt).trans f2); have c5 := (hgrow1.cell_far ⟨b, 2, none⟩ (by simp; have := HLP.out.lt; omega) (by intro e; obtain ⟨cur, hc⟩ := own_block HPK.out e.symm; exact absurd (cell_ty hc HLP.out.blk) (by decide))).trans ((((Gr.refl wr).alloc _).cell (p := ⟨b, 2, none⟩) HLP.out.lt).trans c2); clear hown1 hgrow1 hat1))
      go_end0
      rw [HR.out]
      have hLa := HLP.out.stays (((Below.refl wr.heap.size wr).alloc (Nat.le_refl _) (.cells #[.int .u64 r] 24)))
      have hPa := HPK.out.alloc (.cells #[.int .u64 r] 24)
      have hlen2 : (ps.take m ++ [r]).length = m + 1 := by rw [List.length_append, HLN.out]; rfl
      have hf : ∀ k, (Value.slice (some ⟨g3, 0, none⟩) (m + 1) c3).ownBlock = some k → F k ∨ w2.heap.size ≤ k := by
        intro k hk
        cases hk
        rcases HAT.out with h1 | h1
        · exact HLP.out.fp g3 (by rw [HLN.out]; exact h1)
        · refine .inr ?_
          have := HMM.out.size
          rw [h1]
          simp
          omega
      have hcp : cellsP (ps.take m ++ [r]) = cellsP (ps.take m) ++ [.int .u64 r] := by unfold cellsP; rw [List.map_append]; rfl
      have := hLa.kept24 (ps' := ps.take m ++ [r]) (Ap' := some ⟨g3, 0, none⟩) (cp' := c3) (grown_keeps hPa HG.out) (by rw [hlen2, hcp]; exact HOWN.out) (by
        intro p hp
        rcases List.mem_append.1 hp with h1 | h1
        · exact HPB.out p (List.mem_of_mem_take h1)
        · rw [List.mem_singleton] at h1
          rw [h1]
          exact HR2.out) (by rw [hlen2]; exact hf)
      rw [hlen2] at this
      refine ⟨rfl, Mods.old ?_, _, _, this⟩
      refine HMM.out.trans ((Mods.of_below _ ((Below.refl wr.heap.size wr).alloc (Nat.le_refl _) _)).trans ((Mods.of_grown HG.out fun k hk => ?_).trans (Mods.set _ HLP.out.fb 2 _)))
      exact HLP.out.fp k (by rw [HLN.out]; exact hk)
end Go.Proofs.YtbinmkigolkhcaaDoor
