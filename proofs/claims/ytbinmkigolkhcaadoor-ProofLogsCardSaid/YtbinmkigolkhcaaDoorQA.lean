/- Add, with where the entries' bytes lie. -/
import Derived.Test.YtbinmkigolkhcaaDoorLA
import Derived.Test.YtbinmkigolkhcaaDoorHR
set_option linter.unusedSimpArgs false
set_option linter.unusedVariables false
namespace Go.Proofs.YtbinmkigolkhcaaDoor
open Go.RowKit Go.Sort
attribute [local go_sem] Oper.semAt_some

/-- the entries of a row lie in blocks of C -/
def EntsIn (C : Nat → Prop) (w : World) (Ae : Option Addr) (n : Nat) : Prop := ∀ g j v, Ae = some ⟨g, 0, none⟩ → j < n → w.cell? ⟨g, j, none⟩ = some v → ∀ k, v.ownBlock = some k → C k
theorem EntsIn.wider {C D : Nat → Prop} {w : World} {Ae : Option Addr} {n : Nat} (h : EntsIn C w Ae n) (hC : ∀ k, C k → D k) : EntsIn D w Ae n := fun g j v e hj hc k hk => hC k (h g j v e hj hc k hk)
theorem EntsIn.stays {C : Nat → Prop} {w w' : World} {Ae : Option Addr} {n : Nat} (h : EntsIn C w Ae n) (hA : ∀ g, Ae = some ⟨g, 0, none⟩ → 0 < n → g < w.heap.size) (hb : Below w.heap.size w w') : EntsIn C w' Ae n := fun g j v e hj hc k hk =>
  h g j v e hj ((hb.cell (p := ⟨g, j, none⟩) (hA g e (by omega))).symm.trans hc) k hk
theorem LogAt.ents_lt {F : Nat → Prop} {w : World} {b : Nat} {ls : List (List UInt8)} {ps : List Nat} {Ae : Option Addr} {ce : Nat} {Ap : Option Addr} {cp : Nat} (h : LogAt F w b ls ps Ae ce Ap cp) : ∀ g, Ae = some ⟨g, 0, none⟩ → 0 < ls.length → g < w.heap.size := fun g e hn => by
  obtain ⟨vs, ho, -⟩ := h.ents
  rcases ho.2 with ⟨_, h0⟩ | ⟨g', cap, cur, hv, _, hg, _⟩
  · omega
  · injection hv with h1 h2 h3
    rw [h1] at e
    injection e with e
    injection e with e
    subst e
    exact (Array.getElem?_eq_some_iff.1 hg).1
theorem ents_vs {C : Nat → Prop} {w : World} {Ae : Option Addr} {n ce : Nat} {vs : List Value} (ho : w.ownsRow 0 23 1 (.slice Ae n ce) n vs) (h : EntsIn C w Ae n) : ∀ v ∈ vs, ∀ k, v.ownBlock = some k → C k := by
  intro v hv k hk
  obtain ⟨j, hj, rfl⟩ := List.getElem_of_mem hv
  have hl : vs.length = n := by have := ho.1; omega
  rcases ho.2 with ⟨_, h0⟩ | ⟨g, cap, cur, hv, _⟩
  · omega
  · injection hv with h1 h2 h3
    subst h1
    have c0 := ho.cells (g := g) rfl j _ (List.getElem?_eq_getElem hj)
    rw [add_here] at c0
    rw [Nat.zero_add] at c0
    exact h g j _ rfl (by omega) c0 k hk
theorem vs_ents {C : Nat → Prop} {w : World} {Ae : Option Addr} {n ce : Nat} {vs : List Value} (ho : w.ownsRow 0 23 1 (.slice Ae n ce) n vs) (h : ∀ v ∈ vs, ∀ k, v.ownBlock = some k → C k) : EntsIn C w Ae n := by
  intro g j v e hj hc k hk
  have hl : vs.length = n := by have := ho.1; omega
  subst e
  have c0 := ho.cells (g := g) rfl j _ (List.getElem?_eq_getElem (by omega : j < vs.length))
  rw [add_here] at c0
  rw [Nat.zero_add, hc] at c0
  injection c0 with c0
  subst c0
  exact h _ (List.getElem_mem _) k hk
/-- blocks of other types than 24 and 65 stay -/
def KeepT (w w' : World) : Prop := ∀ (k : Nat) (cur : Array Value) (t : TypeId), w.heap[k]? = some (.cells cur t (0, 0)) → t ≠ 24 → t ≠ 65 → w'.heap[k]? = some (.cells cur t (0, 0))
theorem KeepT.refl (w : World) : KeepT w w := fun _ _ _ h _ _ => h
theorem KeepT.trans {a b c : World} (h : KeepT a b) (k : KeepT b c) : KeepT a c := fun i cur t h1 h2 h3 => k i cur t (h i cur t h1 h2 h3) h2 h3
theorem KeepT.of_below {w w' : World} (h : Below w.heap.size w w') : KeepT w w' := fun k cur t h1 _ _ => (h.block k (Array.getElem?_eq_some_iff.1 h1).1).trans h1
theorem KeepT.of_grown {w w' : World} (h : ∀ (k : Nat) (cur : Array Value) (t : TypeId), w.heap[k]? = some (.cells cur t (0, 0)) → t ≠ 24 → w'.heap[k]? = some (.cells cur t (0, 0))) : KeepT w w' := fun k cur t h1 h2 _ => h k cur t h1 h2
theorem KeepT.set {w : World} {b : Nat} {cur : Array Value} (hb : w.heap[b]? = some (.cells cur 65 (0, 0))) (i : Nat) (v : Value) : KeepT w (w.setCell ⟨b, i, none⟩ v) := fun k cur' t h1 _ h3 =>
  (Below.heap_setCell _ _ _ _ fun e => by
    have e : k = b := e
    subst e
    exact h3 (cell_ty h1 hb)).trans h1
def RaisePostC (F : Nat → Prop) (b : Nat) (ls : List (List UInt8)) (ps : List Nat) (Ae : Option Addr) (ce : Nat) (w : World) (e : Ending) (w' : World) : Prop := RaisePost F b ls ps Ae ce w e w' ∧ KeepT w w'
def AddPostC (C F : Nat → Prop) (b : Nat) (ls : List (List UInt8)) (ps : List Nat) (w : World) (e : Ending) (w' : World) : Prop :=
  e = .returned (.tuple #[.int .i64 (ls.length - 1 : Nat), .int .i64 0]) ∧ Mods F w w' ∧ ∃ Ae' ce' Ap' cp', LogAt (fun k => F k ∨ w.heap.size ≤ k) w' b ls ps Ae' ce' Ap' cp' ∧ EntsIn (fun k => C k ∨ w.heap.size ≤ k) w' Ae' ls.length

set_option maxHeartbeats 4000000 in
set_option maxRecDepth 100000 in
theorem raiseC_any (F : Nat → Prop) (w : World) (b : Nat) (ls : List (List UInt8)) (ps : List Nat) (Ae : Option Addr) (ce : Nat) (Ap : Option Addr) (cp : Nat) (h : LogAt F w b ls ps Ae ce Ap cp) (hl : ls.length ≤ 4096) (hps : ps.length ≤ 64)
    (x : Nat) (hx : x < 18446744073709551616) (t : Nat) (ht : Lib.ctz 64 ls.length = t) (htp : t ≤ ps.length) (hT : TabAt 1 Lib.deBruijn64tab w) :
    Calls Tryd.prog 85 #[.pointer (some ⟨b, 0, none⟩), .int .u64 x] w (RaisePostC F b ls (raiseV ps x t) Ae ce w) := by
  have mixed := mixedOrders
  obtain ⟨i0, hi0, hz0, hz1, hz2⟩ := info_parts info24
  have HTZ := hide (Tryd.bits_TrailingZeros ls.length (by omega) w (fun _ => hT))
  rw [ht] at HTZ
  have c1 := h.c1
  have w1 : IntKind.u64.wrap (ls.length : Int) = (ls.length : Int) := by rw [IntKind.wrap_u64]; omega
  have HLG : Hid (LogAt (fun k => F k ∨ w.heap.size ≤ k) w b ls ps Ae ce Ap cp) := h.wider fun k hk => .inl hk
  have HX := hide hx
  have HPB := hide h.pb
  have HB := hide (show ls.length ≤ 4096 ∧ ps.length ≤ 64 ∧ t ≤ ps.length from ⟨hl, hps, htp⟩)
  clear h hT ht hx hl hps htp
  go_enter Tryd.func85, Tryd.ntmps85
  go_wp2_with fail
  refine HTZ.out.mono ?_
  rintro e w2 ⟨rfl, rfl⟩
  clear HTZ w1 c1
  go_wp2_with fail
  go_loopw [4, 14] (fun vp vi wr => ∃ i : Nat, i ≤ t ∧ vi = .int .i64 i ∧ vp = .int .u64 (rzF ps x i : Nat) ∧ Hid (LogAt (fun k => F k ∨ w2.heap.size ≤ k) wr b ls (ps.take (ps.length - i)) Ae ce Ap cp ∧ Mods (fun k => F k ∨ w2.heap.size ≤ k) w2 wr) ∧ Hid (KeepT w2 wr)) (fun _ vi _ => t - (intOf vi).toNat)
  case atStart => exact ⟨0, Nat.zero_le _, rfl, rfl, ⟨by rw [Nat.sub_zero, List.take_length]; exact HLG.out, Mods.refl _ _⟩, KeepT.refl _⟩
  case round =>
    obtain ⟨i, hi, rfl, rfl, HI, HKT⟩ := hrel
    obtain ⟨hb1, hb2, hb3⟩ := HB.out
    have hlen : (ps.take (ps.length - i)).length = ps.length - i := by rw [List.length_take]; omega
    by_cases hlt : i < t
    · have hlt' : (i : Int) < (t : Int) := by omega
      obtain ⟨q, hq⟩ : ∃ q, ps.length - i = q + 1 := ⟨ps.length - i - 1, by omega⟩
      have hq2 : ps.length - (i + 1) = q := by omega
      have hq3 : ps.length - 1 - i = q := by omega
      rw [hq] at hlen HI
      obtain ⟨g, rfl, cg, hg, hcp⟩ := HI.out.1.peak (q := q) (by omega)
      have c2 := HI.out.1.c2
      rw [hlen] at c2 hcp
      have hz : (ps.take (q + 1)).getD q 0 = ps.getD q 0 := by simp [List.getD_eq_getElem?_getD]
      rw [hz] at cg
      have hz2 := getD_lt HPB.out q
      have hr2 := rzF_lt (ps := ps) HX.out i
      have HE : Hid (rzF ps x (i + 1) = nodeV (ps.getD q 0) (rzF ps x i)) := by show rzF ps x (i + 1) = _; rw [← hq3]; rfl
      obtain ⟨z, hzz⟩ : ∃ z, ps.getD q 0 = z := ⟨_, rfl⟩
      obtain ⟨r, hrr⟩ : ∃ r, rzF ps x i = r := ⟨_, rfl⟩
      rw [hzz] at cg hz2 HE
      rw [hrr] at hr2 HE ⊢
      have HN : Hid (∀ wq, Calls Tryd.prog 24 #[.int .u64 z, .int .u64 r] wq fun e w' => e = .returned (.int .u64 (nodeV z r : Nat)) ∧ Below wq.heap.size wq w') := fun wq => Node_any z r hz2 hr2 wq
      have n0 : (q : Int) ≤ 64 := by omega
      have n5 : (i : Int) ≤ 64 := by omega
      have n2 : (q : Int) ≤ (cp : Int) := by omega
      have HQ := hide (show ps.length - (i + 1) = q ∧ (ps.take (q + 1)).take q = ps.take q ∧ i < t ∧ (ps.take (q + 1)).length = q + 1 from ⟨hq2, by rw [List.take_take, Nat.min_eq_left (by omega)], hlt, hlen⟩)
      clear hz hz2 hr2 hzz hrr hq hq2 hq3 hlen hcp hlt hb1 hb2 hb3
      go_wp2_with fail
      refine (HN.out _).mono ?_
      rintro e w3 ⟨rfl, hbw⟩
      have HL3 := hide (HI.out.1.stays hbw)
      have HM3 := hide (HI.out.2.trans (Mods.of_below _ hbw))
      have HK3 := hide (HKT.out.trans (KeepT.of_below hbw))
      have c3 := (HL3.out.c2)
      rw [HQ.out.2.2.2] at c3
      have f3 := HL3.out.f2
      clear hbw c2 cg
      go_wp2_with fail
      refine ⟨⟨i + 1, by have := HQ.out.2.2.1; omega, by go_num, by rw [HE.out], ⟨?_, ?_⟩, ?_⟩, by have := HQ.out.2.2.1; simp [intOf]; omega⟩
      · rw [HQ.out.1, ← HQ.out.2.1]
        exact HL3.out.shrink (by rw [HQ.out.2.2.2]; omega)
      · exact HM3.out.trans (Mods.set _ HL3.out.fb 2 _)
      · exact HK3.out.trans (KeepT.set HL3.out.blk 2 _)
    · obtain rfl : i = t := by omega
      have c2 := HI.out.1.c2
      have f2 := HI.out.1.f2
      have HLP := hide HI.out.1
      have HMM := hide HI.out.2
      rw [hlen] at c2
      obtain ⟨m, hm⟩ : ∃ m, ps.length - i = m := ⟨_, rfl⟩
      rw [hm] at c2 hlen HLP
      obtain ⟨r, hrr⟩ : ∃ r, rzF ps x i = r := ⟨_, rfl⟩
      have hr2 := rzF_lt (ps := ps) HX.out i
      have HR : Hid (raiseV ps x i = ps.take m ++ [r]) := by show raiseV ps x i = _; unfold raiseV; rw [hm, hrr]
      rw [hrr] at hr2 ⊢
      have hpk := HLP.out.pks
      rw [hlen] at hpk
      have HPK := hide hpk
      have HR2 := hide hr2
      have HLN := hide hlen
      have hbb1 : m + 1 ≤ maxLen := by unfold maxLen; omega
      have hbb2 : (m + 1) * 8 ≤ 140737488355328 := by omega
      have hb4 : 0 ≤ (wr.alloc (.cells #[.int .u64 r] 24)).heap.size := Nat.zero_le _
      clear hrr hr2 hpk hlen hm HI hb1 hb2 hb3 hi hlt
      go_wp2_with (at_builtin; go_loud (refine wpList_append_lies _ rfl (.tmp 45) (.tmp 47) _ rfl 0 24 i0 (.int .u64 0) 1 8 Tryd.underlying36 hi0 hz0 hz1 hz2 rfl (by decide) _ _ _ rfl (HPK.out.alloc _) ⟨wr.heap.size, 0, none⟩ 1 1 [.int .u64 r] rfl rfl (cell_one_at _ _ rfl) (by simp [Value.oneCell']) (by decide) hbb1 hbb2 hb4 _ rfl ?_; intro g3 c3 w5 hown1 hgrow1 hat1 hlt1; have HOWN := hide hown1; have HG := hide hgrow1; have HAT := hide hat1; have f5 := (hgrow1.frozen_far ⟨b, 2, none⟩ (by simp; have := HLP.out.lt; omega) (by intro e; obtain ⟨cur, hc⟩ := own_block HPK.out e.symm; exact absurd (cell_ty hc HLP.out.blk) (by decide))).trans ((((Gr.refl wr).alloc _).frozen (p := ⟨b, 2, none⟩) HLP.out.lt).trans f2); have c5 := (hgrow1.cell_far ⟨b, 2, none⟩ (by simp; have := HLP.out.lt; omega) (by intro e; obtain ⟨cur, hc⟩ := own_block HPK.out e.symm; exact absurd (cell_ty hc HLP.out.blk) (by decide))).trans ((((Gr.refl wr).alloc _).cell (p := ⟨b, 2, none⟩) HLP.out.lt).trans c2); clear hown1 hgrow1 hat1))
      go_end0
      rw [HR.out]
      have hLa := HLP.out.stays (((Below.refl wr.heap.size wr).alloc (Nat.le_refl _) (.cells #[.int .u64 r] 24)))
      have hPa := HPK.out.alloc (.cells #[.int .u64 r] 24)
      have hlen2 : (ps.take m ++ [r]).length = m + 1 := by rw [List.length_append, HLN.out]; rfl
      have hf : ∀ k, (Value.slice (some ⟨g3, 0, none⟩) (m + 1) c3).ownBlock = some k → F k ∨ w2.heap.size ≤ k := by
        intro k hk
        cases hk
        rcases HAT.out with h1 | h1
        · exact HLP.out.fp g3 (by rw [HLN.out]; exact h1)
        · refine .inr ?_
          have := HMM.out.size
          rw [h1]
          simp
          omega
      have hcp : cellsP (ps.take m ++ [r]) = cellsP (ps.take m) ++ [.int .u64 r] := by unfold cellsP; rw [List.map_append]; rfl
      have := hLa.kept24 (ps' := ps.take m ++ [r]) (Ap' := some ⟨g3, 0, none⟩) (cp' := c3) (grown_keeps hPa HG.out) (by rw [hlen2, hcp]; exact HOWN.out) (by
        intro p hp
        rcases List.mem_append.1 hp with h1 | h1
        · exact HPB.out p (List.mem_of_mem_take h1)
        · rw [List.mem_singleton] at h1
          rw [h1]
          exact HR2.out) (by rw [hlen2]; exact hf)
      rw [hlen2] at this
      refine ⟨⟨rfl, Mods.old ?_, _, _, this⟩, ?_⟩
      rotate_left
      · have hb5 := grown_keeps hPa HG.out b _ 65 hLa.blk (by decide)
        exact (HKT.out.trans (KeepT.of_below ((Below.refl wr.heap.size wr).alloc (Nat.le_refl _) _))).trans ((KeepT.of_grown (grown_keeps hPa HG.out)).trans (KeepT.set hb5 2 _))
      refine HMM.out.trans ((Mods.of_below _ ((Below.refl wr.heap.size wr).alloc (Nat.le_refl _) _)).trans ((Mods.of_grown HG.out fun k hk => ?_).trans (Mods.set _ HLP.out.fb 2 _)))
      exact HLP.out.fp k (by rw [HLN.out]; exact hk)

set_option maxHeartbeats 4000000 in
set_option maxRecDepth 100000 in
theorem AddC_any (C F : Nat → Prop) (w : World) (b : Nat) (ls : List (List UInt8)) (ps : List Nat) (Ae : Option Addr) (ce : Nat) (Ap : Option Addr) (cp : Nat) (h : LogAt F w b ls ps Ae ce Ap cp) (hl : ls.length < 4096) (hps : ps.length ≤ 63)
    (A : Option Addr) (n c : Nat) (l : List UInt8) (hx : BytesAt w.heap.size w A n l) (hn : n ≤ 256) (t : Nat) (ht : Lib.ctz 64 (ls.length + 1) = t) (htp : t ≤ ps.length) (hAF : 0 < n → ∀ a, A = some a → ¬ F a.block) (hF1 : ¬ F 1) (hw1 : 1 < w.heap.size) (hT : TabAt 1 Lib.deBruijn64tab w) (hin : EntsIn C w Ae ls.length) :
    Calls Tryd.prog 44 #[.pointer (some ⟨b, 0, none⟩), .slice A n c] w (AddPostC C F b (ls ++ [l]) (raiseV ps (leafV l) t) w) := by
  have mixed := mixedOrders
  obtain ⟨i0, hi0, hz0, hz1, hz2⟩ := info_parts info23
  have HM := hide (isMade_any b w h.c0)
  have HTL := hide (isTooLong_any A n c w)
  rw [decide_eq_false (by omega)] at HTL
  have z1 : ((ls.length : Int) == 4096) = false := beq_eq_false_iff_ne.2 (by omega)
  have hdrew : Below w.heap.size w w.drew := ((Gr.refl w).drew).below
  have HXD := hide (hx.below hdrew)
  have HC := hide (clone_any A n c l w.drew (hx.now hdrew (Nat.le_refl _)) (by omega))
  have hLD := h.stays hdrew
  have c1 := h.c1
  have HX := hide hx
  have HAF := hide hAF
  have HLD := hide hLD
  have HBD := hide hdrew
  have hbd := hLD.lt
  have HB := hide (show ls.length < 4096 ∧ ps.length ≤ 63 ∧ n ≤ 256 ∧ Lib.ctz 64 (ls.length + 1) = t ∧ t ≤ ps.length ∧ ¬ F 1 ∧ 1 < w.heap.size from ⟨hl, hps, hn, ht, htp, hF1, hw1⟩)
  have HT := hide hT
  have hbb1 : ls.length + 1 ≤ maxLen := by unfold maxLen; omega
  have hbb2 : (ls.length + 1) * 24 ≤ 140737488355328 := by omega
  have f1 := h.f1
  have HIN := hide hin
  have HLD0 := hide h
  clear hin hAF h hdrew hLD hx hl hps hn ht htp hF1 hw1 hT
  go_enter Tryd.func44, Tryd.ntmps44
  go_wp2_with fail
  refine HM.out.mono ?_
  rintro e w1 ⟨rfl, rfl⟩
  go_wp2_with fail
  refine HTL.out.mono ?_
  rintro e w2 ⟨rfl, rfl⟩
  go_wp2_with fail
  go_region_law (first | (refine step_append_lies _ (by rfl) _ _ _ (by rfl) 0 23 i0 _ 1 24 Tryd.underlying22 hi0 hz0 hz1 hz2 rfl (by omega) (.slice Ae ls.length ce) ls.length vs (by rfl) (HO3.out.alloc _) ⟨w3.heap.size, 0, none⟩ 1 1 [.slice a n cc] (by rfl) (by rfl) (World.news_of_block (cs := #[.slice a n cc]) (t := 23) (fr := (0, 0)) (heap_alloc_new w3 _)) (by simp [Value.oneCell']) (by omega) hbb1 hbb2 (Nat.zero_le _) (w3.heap.size + 1) (by simp) ?_; intro g5 c5 w5 hown hgrow hat hlt5; have f5 := (hgrow.frozen_far ⟨b, 1, none⟩ (by simp; omega) (by intro e; obtain ⟨cur, hc⟩ := own_block HO3.out e.symm; exact absurd (cell_ty hc HL3.out.blk) (by decide))).trans ((((Gr.refl w3).alloc _).frozen (p := ⟨b, 1, none⟩) hb3l).trans HL3.out.f1); have e5 := (hgrow.cell_far ⟨b, 1, none⟩ (by simp; omega) (by intro e; obtain ⟨cur, hc⟩ := own_block HO3.out e.symm; exact absurd (cell_ty hc HL3.out.blk) (by decide))).trans ((((Gr.refl w3).alloc _).cell (p := ⟨b, 1, none⟩) hb3l).trans c13); have HOWN := hide hown; have HG := hide hgrow; have HAT := hide hat; clear hown hgrow hat) | (go_simp; go_at_call 84; refine HC.out.mono ?_; rintro e w3 ⟨a, cc, rfl, hoc, hb3⟩; have HL3 := hide (HLD.out.stays hb3); have c13 := HL3.out.c1; have hb3l := HL3.out.lt; obtain ⟨vs, hovs, hev⟩ := HL3.out.ents; have HO3 := hide hovs; have HEV := hide hev; have HOC := hide hoc; have HB3 := hide hb3; clear hovs hev hoc hb3))
  all_goals
    have hlen : (ls ++ [l]).length = ls.length + 1 := by rw [List.length_append]; rfl
    have HL3a := (HL3.out.stays ((Below.refl w3.heap.size w3).alloc (Nat.le_refl _) (.cells #[.slice a n cc] 23))).wider (G := fun k => F k ∨ w.heap.size ≤ k) fun k hk => .inl hk
    have hw3 : w.heap.size ≤ w3.heap.size := Nat.le_trans HBD.out.size HB3.out.size
    have hln := HX.out.1
    have hEA : Each (w3.alloc (.cells #[.slice a n cc] 23)) (vs ++ [.slice a n cc]) (ls ++ [l]) := by
      have hk : Keeps5 w3 (w3.alloc (.cells #[.slice a n cc] 23)) := fun k cur hc => (((Below.refl w3.heap.size w3).alloc (Nat.le_refl _) _).block k (Array.getElem?_eq_some_iff.1 hc).1).trans hc
      refine Each.snoc ?_ (HEV.out.kept hk)
      refine ⟨a, cc, by rw [hln], by have := HB.out.2.2.1; omega, ?_⟩
      rw [hln]
      exact (own_zero HOC.out).alloc _
    have HL6 := HL3a.kept23 (w5 := w5) (Ae' := some ⟨g5, 0, none⟩) (ce' := c5) (ls' := ls ++ [l]) (grown_keeps (HO3.out.alloc _) HG.out) (by rw [hlen]; exact HOWN.out) hEA (by
      intro k hk
      cases hk
      rcases HAT.out with h1 | h1
      · exact .inl (HL3.out.fe g5 h1)
      · exact .inr (by show w.heap.size ≤ g5; omega))
    rw [hlen] at HL6
    have HM6 : Mods F w (w5.setCell ⟨b, 1, none⟩ (.slice (some ⟨g5, 0, none⟩) (ls.length + 1) c5)) := by
      refine ((Mods.of_below F HBD.out).trans (Mods.of_below F HB3.out)).trans ((Mods.of_below F ((Below.refl w3.heap.size w3).alloc (Nat.le_refl _) (.cells #[.slice a n cc] 23))).trans ((Mods.of_grown HG.out fun k hk => HL3.out.fe k hk).trans (Mods.set _ HL3.out.fb 1 _)))
    have HV6 : Hid ((w5.setCell ⟨b, 1, none⟩ (.slice (some ⟨g5, 0, none⟩) (ls.length + 1) c5)).ownsRow 0 23 1 (.slice (some ⟨g5, 0, none⟩) (ls.length + 1) c5) (ls.length + 1) (vs ++ [.slice a n cc])) := by
      refine own_same HOWN.out fun k hk => ?_
      have hb5 := grown_keeps (HO3.out.alloc _) HG.out b _ 65 (HL3.out.stays ((Below.refl w3.heap.size w3).alloc (Nat.le_refl _) (.cells #[.slice a n cc] 23))).blk (by decide)
      obtain ⟨cur, hc⟩ := own_block HOWN.out hk
      exact Below.heap_setCell _ _ _ _ fun e => by
        have e : k = b := e
        subst e
        exact absurd (cell_ty hc hb5) (by decide)
    have HVS : Hid (∀ v ∈ vs ++ [.slice a n cc], ∀ k, v.ownBlock = some k → C k ∨ w.heap.size ≤ k) := by
      intro v hv k hk
      rcases List.mem_append.1 hv with h1 | h1
      · exact .inl (ents_vs HO3.out ((HIN.out.stays HLD0.out.ents_lt (HBD.out.trans (HB3.out.mono HBD.out.size)))) v h1 k hk)
      · rw [List.mem_singleton] at h1
        subst h1
        have := (own_lt HOC.out k hk).1
        exact .inr (by have := HBD.out.size; omega)
    obtain ⟨W6, hW6⟩ : ∃ W6, w5.setCell ⟨b, 1, none⟩ (.slice (some ⟨g5, 0, none⟩) (ls.length + 1) c5) = W6 := ⟨_, rfl⟩
    rw [hW6] at HL6 HM6 HV6 ⊢
    have HLF := hide (Leaf_any A n c l W6 (HX.out.mods HM6 HAF.out (Nat.le_refl _)) (by have := HB.out.2.2.1; omega))
    have H6 := hide HL6
    have M6 := hide HM6
    clear HL6 HM6 HL3a hEA hW6 c13 hb3l f5 e5 c1 f1 hlt5
    go_wp2_with fail
    refine HLF.out.mono ?_
    rintro e w7 ⟨rfl, hb7⟩
    have M7 := hide (M6.out.trans (Mods.of_below F hb7))
    have H7 := H6.out.stays hb7
    have HV7 := hide (own_keep HV6.out hb7 (Nat.zero_le _))
    have HR := hide (raiseC_any _ w7 b (ls ++ [l]) ps _ c5 Ap cp H7 (by have := HB.out.1; omega) (by have := HB.out.2.1; omega) (leafV l) (leafV_lt l) t (by rw [hlen]; exact HB.out.2.2.2.1) HB.out.2.2.2.2.1 (TabAt.mods HT.out M7.out HB.out.2.2.2.2.2.1 HB.out.2.2.2.2.2.2))
    obtain ⟨v0, hv0⟩ : ∃ v0, leafV l = v0 := ⟨_, rfl⟩
    rw [hv0] at HR ⊢
    have HV0 := hide hv0
    clear hb7 H7 hv0 HLF
    go_wp2_with fail
    refine HR.out.mono ?_
    rintro e w8 ⟨⟨rfl, hm8, Ap', cp', h8⟩, hk8⟩
    have c8 := h8.c1
    rw [hlen] at c8
    have hln2 : (ls.length : Int) < 4096 := by have := HB.out.1; omega
    have H8 := hide h8
    have HK8 := hide hk8
    clear hk8
    have HM8 := hide hm8
    clear h8 hm8 HR hlen hln hw3 z1
    go_wp2_with fail
    go_ret2
    rw [← HV0.out] at H8
    refine ⟨?_, Mods.old ((M7.out.wider fun k hk => .inl hk).trans HM8.out), _, _, _, _, H8.out.wider fun k hk => ?_, ?_⟩
    · have : (ls ++ [l]).length - 1 = ls.length := by rw [List.length_append]; rfl
      rw [this]
      rfl
    · rcases hk with h | h
      · exact h
      · exact .inr (by have := M7.out.size; omega)
    · have hV8 : w8.ownsRow 0 23 1 (.slice (some ⟨g5, 0, none⟩) (ls.length + 1) c5) (ls.length + 1) (vs ++ [.slice a n cc]) := own_same HV7.out fun k hk => by
        obtain ⟨cur, hc⟩ := own_block HV7.out hk
        rw [hc]
        exact HK8.out k cur 23 hc (by decide) (by decide)
      have hll : (ls ++ [l]).length = ls.length + 1 := by rw [List.length_append]; rfl
      rw [hll]
      exact vs_ents hV8 HVS.out
end Go.Proofs.YtbinmkigolkhcaaDoor
