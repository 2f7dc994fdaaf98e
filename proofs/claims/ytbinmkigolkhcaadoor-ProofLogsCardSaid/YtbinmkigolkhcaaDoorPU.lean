/- Add. -/
import Derived.Test.YtbinmkigolkhcaaDoorPT
import Derived.Deep.RegionLaw
set_option linter.unusedSimpArgs false
set_option linter.unusedVariables false
namespace Go.Proofs.YtbinmkigolkhcaaDoor
open Go.RowKit Go.Sort
attribute [local go_sem] Oper.semAt_some

theorem info23 : (Tryd.prog.info? 23).map (fun i => (i.zero, i.size, i.bytes)) = some (some (.slice none 0 0), 1, 24) := by kernel_rfl
def CloneP (n : Nat) (l : List UInt8) (w : World) (e : Ending) (w' : World) : Prop :=
  ∃ a c, e = .returned (.slice a n c) ∧ w'.ownsRow w.heap.size 5 1 (.slice a n c) n (cellsB l) ∧ Below w.heap.size w w'
theorem clone_any (A : Option Addr) (n c : Nat) (l : List UInt8) (w : World) (hx : BytesAt w.heap.size w A n l) (hn : n ≤ 1000000) : Calls Tryd.prog 84 #[.slice A n c] w (CloneP n l w) := by
  cases A with
  | none =>
    have h0 : n = 0 := by
      rcases hx.2 with h | ⟨b, off, e, _⟩
      · exact h
      · cases e
    subst h0
    have hl : l = [] := List.eq_nil_of_length_eq_zero hx.1
    subst hl
    refine (Tryd.bytes_Clone_nil 0 c w).mono ?_
    rintro e w' ⟨rfl, rfl⟩
    exact ⟨none, 0, rfl, World.ownsRow_nil _ _ _ _, Below.refl _ _⟩
  | some a =>
    have hm : (l.map fun b => ((b.toNat : Nat) : Int)).map (Value.int .u8) = cellsB l := by
      unfold cellsB
      rw [List.map_map]
      rfl
    refine (Tryd.bytes_Clone_at a n c (l.map fun b => ((b.toNat : Nat) : Int)) w (by rw [List.length_map]; exact hx.1) (by omega) fun i hi => ?_).mono ?_
    · rcases hx.2 with h | ⟨b, off, e, _, hc⟩
      · omega
      · injection e with e
        subst e
        have e2 : (⟨b, off, none⟩ : Addr).add i = ⟨b, off + i, none⟩ := by
          by_cases h0 : i = 0
          · subst h0; rfl
          · simp [Addr.add, h0]
        have hl := hx.1
        rw [e2, hc i hi]
        have : (l.map fun b => ((b.toNat : Nat) : Int)).getD i 0 = ((l.getD i 0).toNat : Nat) := by
          rw [List.getD_eq_getElem?_getD, List.getD_eq_getElem?_getD, List.getElem?_map, List.getElem?_eq_getElem (by omega)]
          rfl
        rw [this]
    · rintro e w' ⟨v', rfl, ho, -, hb⟩
      rw [hm] at ho
      obtain ⟨a', c', rfl⟩ := own_slice ho
      exact ⟨a', c', rfl, ho, hb⟩
theorem Mods.wider {F G : Nat → Prop} {w w' : World} (h : Mods F w w') (hG : ∀ k, F k → G k) : Mods G w w' := ⟨h.os, h.tape, h.output, h.size, fun k hk hn => h.same k hk fun e => hn (hG k e)⟩
theorem BytesAt.mods {F : Nat → Prop} {B : Nat} {w w' : World} {A : Option Addr} {n : Nat} {l : List UInt8} (h : BytesAt B w A n l) (hm : Mods F w w') (hA : 0 < n → ∀ a, A = some a → ¬ F a.block) (hB : B ≤ w.heap.size) : BytesAt w'.heap.size w' A n l := by
  refine ⟨h.1, ?_⟩
  rcases h.2 with h0 | ⟨b, off, e, hb, hc⟩
  · exact .inl h0
  · rcases Nat.eq_zero_or_pos n with h0 | h0
    · exact .inl h0
    · have hs := hm.size
      exact .inr ⟨b, off, e, by omega, fun i hi => (World.cell?_of_block (a := ⟨b, off + i, none⟩) (hm.same b (by omega) (hA h0 _ e))).trans (hc i hi)⟩
theorem TabAt.mods {F : Nat → Prop} {w w' : World} {tab : List Nat} (h : TabAt 1 tab w) (hm : Mods F w w') (hF : ¬ F 1) (h1 : 1 < w.heap.size) : TabAt 1 tab w' := fun j hj =>
  (World.cell?_of_block (a := ⟨1, j, none⟩) (hm.same 1 h1 hF)).trans (h j hj)
def AddPost (F : Nat → Prop) (b : Nat) (ls : List (List UInt8)) (ps : List Nat) (w : World) (e : Ending) (w' : World) : Prop :=
  e = .returned (.tuple #[.int .i64 (ls.length - 1 : Nat), .int .i64 0]) ∧ Mods F w w' ∧ ∃ Ae' ce' Ap' cp', LogAt (fun k => F k ∨ w.heap.size ≤ k) w' b ls ps Ae' ce' Ap' cp'

set_option maxHeartbeats 4000000 in
set_option maxRecDepth 100000 in
theorem Add_any (F : Nat → Prop) (w : World) (b : Nat) (ls : List (List UInt8)) (ps : List Nat) (Ae : Option Addr) (ce : Nat) (Ap : Option Addr) (cp : Nat) (h : LogAt F w b ls ps Ae ce Ap cp) (hl : ls.length < 4096) (hps : ps.length ≤ 63)
    (A : Option Addr) (n c : Nat) (l : List UInt8) (hx : BytesAt w.heap.size w A n l) (hn : n ≤ 256) (t : Nat) (ht : Lib.ctz 64 (ls.length + 1) = t) (htp : t ≤ ps.length) (hAF : 0 < n → ∀ a, A = some a → ¬ F a.block) (hF1 : ¬ F 1) (hw1 : 1 < w.heap.size) (hT : TabAt 1 Lib.deBruijn64tab w) :
    Calls Tryd.prog 44 #[.pointer (some ⟨b, 0, none⟩), .slice A n c] w (AddPost F b (ls ++ [l]) (raiseV ps (leafV l) t) w) := by
  have mixed := mixedOrders
  obtain ⟨i0, hi0, hz0, hz1, hz2⟩ := info_parts info23
  have HM := hide (isMade_any b w h.c0)
  have HTL := hide (isTooLong_any A n c w)
  rw [decide_eq_false (by omega)] at HTL
  have z1 : ((ls.length : Int) == 4096) = false := beq_eq_false_iff_ne.2 (by omega)
  have hdrew : Below w.heap.size w w.drew := ((Gr.refl w).drew).below
  have HXD := hide (hx.below hdrew)
  have HC := hide (clone_any A n c l w.drew (hx.now hdrew (Nat.le_refl _)) (by omega))
  have hLD := h.stays hdrew
  have c1 := h.c1
  have HX := hide hx
  have HAF := hide hAF
  have HLD := hide hLD
  have HBD := hide hdrew
  have hbd := hLD.lt
  have HB := hide (show ls.length < 4096 ∧ ps.length ≤ 63 ∧ n ≤ 256 ∧ Lib.ctz 64 (ls.length + 1) = t ∧ t ≤ ps.length ∧ ¬ F 1 ∧ 1 < w.heap.size from ⟨hl, hps, hn, ht, htp, hF1, hw1⟩)
  have HT := hide hT
  have hbb1 : ls.length + 1 ≤ maxLen := by unfold maxLen; omega
  have hbb2 : (ls.length + 1) * 24 ≤ 140737488355328 := by omega
  have f1 := h.f1
  clear hAF h hdrew hLD hx hl hps hn ht htp hF1 hw1 hT
  go_enter Tryd.func44, Tryd.ntmps44
  go_wp2_with fail
  refine HM.out.mono ?_
  rintro e w1 ⟨rfl, rfl⟩
  go_wp2_with fail
  refine HTL.out.mono ?_
  rintro e w2 ⟨rfl, rfl⟩
  go_wp2_with fail
  go_region_law (first | (refine step_append_lies _ (by rfl) _ _ _ (by rfl) 0 23 i0 _ 1 24 Tryd.underlying22 hi0 hz0 hz1 hz2 rfl (by omega) (.slice Ae ls.length ce) ls.length vs (by rfl) (HO3.out.alloc _) ⟨w3.heap.size, 0, none⟩ 1 1 [.slice a n cc] (by rfl) (by rfl) (World.news_of_block (cs := #[.slice a n cc]) (t := 23) (fr := (0, 0)) (heap_alloc_new w3 _)) (by simp [Value.oneCell']) (by omega) hbb1 hbb2 (Nat.zero_le _) (w3.heap.size + 1) (by simp) ?_; intro g5 c5 w5 hown hgrow hat hlt5; have f5 := (hgrow.frozen_far ⟨b, 1, none⟩ (by simp; omega) (by intro e; obtain ⟨cur, hc⟩ := own_block HO3.out e.symm; exact absurd (cell_ty hc HL3.out.blk) (by decide))).trans ((((Gr.refl w3).alloc _).frozen (p := ⟨b, 1, none⟩) hb3l).trans HL3.out.f1); have e5 := (hgrow.cell_far ⟨b, 1, none⟩ (by simp; omega) (by intro e; obtain ⟨cur, hc⟩ := own_block HO3.out e.symm; exact absurd (cell_ty hc HL3.out.blk) (by decide))).trans ((((Gr.refl w3).alloc _).cell (p := ⟨b, 1, none⟩) hb3l).trans c13); have HOWN := hide hown; have HG := hide hgrow; have HAT := hide hat; clear hown hgrow hat) | (go_simp; go_at_call 84; refine HC.out.mono ?_; rintro e w3 ⟨a, cc, rfl, hoc, hb3⟩; have HL3 := hide (HLD.out.stays hb3); have c13 := HL3.out.c1; have hb3l := HL3.out.lt; obtain ⟨vs, hovs, hev⟩ := HL3.out.ents; have HO3 := hide hovs; have HEV := hide hev; have HOC := hide hoc; have HB3 := hide hb3; clear hovs hev hoc hb3))
  all_goals
    have hlen : (ls ++ [l]).length = ls.length + 1 := by rw [List.length_append]; rfl
    have HL3a := (HL3.out.stays ((Below.refl w3.heap.size w3).alloc (Nat.le_refl _) (.cells #[.slice a n cc] 23))).wider (G := fun k => F k ∨ w.heap.size ≤ k) fun k hk => .inl hk
    have hw3 : w.heap.size ≤ w3.heap.size := Nat.le_trans HBD.out.size HB3.out.size
    have hln := HX.out.1
    have hEA : Each (w3.alloc (.cells #[.slice a n cc] 23)) (vs ++ [.slice a n cc]) (ls ++ [l]) := by
      have hk : Keeps5 w3 (w3.alloc (.cells #[.slice a n cc] 23)) := fun k cur hc => (((Below.refl w3.heap.size w3).alloc (Nat.le_refl _) _).block k (Array.getElem?_eq_some_iff.1 hc).1).trans hc
      refine Each.snoc ?_ (HEV.out.kept hk)
      refine ⟨a, cc, by rw [hln], by have := HB.out.2.2.1; omega, ?_⟩
      rw [hln]
      exact (own_zero HOC.out).alloc _
    have HL6 := HL3a.kept23 (w5 := w5) (Ae' := some ⟨g5, 0, none⟩) (ce' := c5) (ls' := ls ++ [l]) (grown_keeps (HO3.out.alloc _) HG.out) (by rw [hlen]; exact HOWN.out) hEA (by
      intro k hk
      cases hk
      rcases HAT.out with h1 | h1
      · exact .inl (HL3.out.fe g5 h1)
      · exact .inr (by show w.heap.size ≤ g5; omega))
    rw [hlen] at HL6
    have HM6 : Mods F w (w5.setCell ⟨b, 1, none⟩ (.slice (some ⟨g5, 0, none⟩) (ls.length + 1) c5)) := by
      refine ((Mods.of_below F HBD.out).trans (Mods.of_below F HB3.out)).trans ((Mods.of_below F ((Below.refl w3.heap.size w3).alloc (Nat.le_refl _) (.cells #[.slice a n cc] 23))).trans ((Mods.of_grown HG.out fun k hk => HL3.out.fe k hk).trans (Mods.set _ HL3.out.fb 1 _)))
    obtain ⟨W6, hW6⟩ : ∃ W6, w5.setCell ⟨b, 1, none⟩ (.slice (some ⟨g5, 0, none⟩) (ls.length + 1) c5) = W6 := ⟨_, rfl⟩
    rw [hW6] at HL6 HM6 ⊢
    have HLF := hide (Leaf_any A n c l W6 (HX.out.mods HM6 HAF.out (Nat.le_refl _)) (by have := HB.out.2.2.1; omega))
    have H6 := hide HL6
    have M6 := hide HM6
    clear HL6 HM6 HL3a hEA hW6 c13 hb3l f5 e5 c1 f1 hlt5
    go_wp2_with fail
    refine HLF.out.mono ?_
    rintro e w7 ⟨rfl, hb7⟩
    have M7 := hide (M6.out.trans (Mods.of_below F hb7))
    have H7 := H6.out.stays hb7
    have HR := hide (raise_any _ w7 b (ls ++ [l]) ps _ c5 Ap cp H7 (by have := HB.out.1; omega) (by have := HB.out.2.1; omega) (leafV l) (leafV_lt l) t (by rw [hlen]; exact HB.out.2.2.2.1) HB.out.2.2.2.2.1 (TabAt.mods HT.out M7.out HB.out.2.2.2.2.2.1 HB.out.2.2.2.2.2.2))
    obtain ⟨v0, hv0⟩ : ∃ v0, leafV l = v0 := ⟨_, rfl⟩
    rw [hv0] at HR ⊢
    have HV0 := hide hv0
    clear hb7 H7 hv0 HLF
    go_wp2_with fail
    refine HR.out.mono ?_
    rintro e w8 ⟨rfl, hm8, Ap', cp', h8⟩
    have c8 := h8.c1
    rw [hlen] at c8
    have hln2 : (ls.length : Int) < 4096 := by have := HB.out.1; omega
    have H8 := hide h8
    have HM8 := hide hm8
    clear h8 hm8 HR hlen hln hw3 z1
    go_wp2_with fail
    go_ret2
    rw [← HV0.out] at H8
    refine ⟨?_, Mods.old ((M7.out.wider fun k hk => .inl hk).trans HM8.out), _, _, _, _, H8.out.wider fun k hk => ?_⟩
    · have : (ls ++ [l]).length - 1 = ls.length := by rw [List.length_append]; rfl
      rw [this]
      rfl
    · rcases hk with h | h
      · exact h
      · exact .inr (by have := M7.out.size; omega)
end Go.Proofs.YtbinmkigolkhcaaDoor
