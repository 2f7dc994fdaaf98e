/- A log's copy. -/
import Derived.Test.YtbinmkigolkhcaaDoorQD
import Derived.Laws.CopyOwn
import Derived.StillTailTactics
import Derived.Deep.RegionHeld3
import Derived.Deep.OwnRows
import Derived.Deep.DeepCutAuto
set_option linter.unusedSimpArgs false
set_option linter.unusedVariables false
namespace Go.Proofs.YtbinmkigolkhcaaDoor
open Go.RowKit Go.Sort
attribute [local go_sem] Oper.semAt_some

def CloneLP (q : Nat) (vs : List Value) (w : World) (e : Ending) (w' : World) : Prop :=
  ∃ a c, e = .returned (.slice a q c) ∧ w'.ownsRow w.heap.size 23 1 (.slice a q c) q vs ∧ Below w.heap.size w w'
set_option maxHeartbeats 2000000 in
set_option maxRecDepth 100000 in
theorem cloneL_any (A : Option Addr) (q c : Nat) (vs : List Value) (w : World) (hA : A = none → q = 0 ∧ c = 0) (hl : vs.length = q) (hq : q ≤ 4096) (hsrc : Src w A q vs) (hone : ∀ u ∈ vs, u.oneCell' = true) :
    Calls Tryd.prog 83 #[.slice A q c] w (CloneLP q vs w) := by
  have mixed := mixedOrders
  rcases hsrc with ⟨rfl, rfl, rfl⟩ | ⟨ad, rfl, hc⟩
  · obtain ⟨-, rfl⟩ := hA rfl
    clear hone hl hq hA
    have he : ∀ w : World, (binOp .eql 22 (.slice none 0 0) (.slice none 0 0)).run Tryd.prog w = .ok (.bool true) w := fun _ => rfl
    go_enter Tryd.func83, Tryd.ntmps83
    go_wp2_with fail
    go_ret
    exact ⟨none, 0, rfl, World.ownsRow_nil _ _ _ _, Below.refl _ _⟩
  · have hb1 : Below w.heap.size w (w.alloc (.cells #[] 23)) := (Below.refl _ w).alloc (Nat.le_refl _) _
    have ho0 : (w.alloc (.cells #[] 23)).ownsRow w.heap.size 23 1 (.slice (some ⟨w.heap.size, 0, none⟩) 0 0) 0 [] := ⟨rfl, .inr ⟨w.heap.size, 0, #[], rfl, Nat.le_refl _, heap_alloc_new w _, Nat.le_refl _, Nat.zero_le _, rfl, rfl⟩⟩
    obtain ⟨i0, hi0, hz0, hz1, hz2⟩ := info_parts info23
    have hvl1 : vs.length = q * 1 := by omega
    have hbb1 : 0 + q ≤ maxLen := by unfold maxLen; omega
    have hbb2 : (0 + q) * 24 ≤ 140737488355328 := by omega
    have hs : Src (w.alloc (.cells #[] 23)) (some ad) q vs := .inr ⟨ad, rfl, fun j u hu => (hb1.cell (World.block_lt_of_cell? _ _ (hc j u hu))).trans (hc j u hu)⟩
    have hb4 : w.heap.size ≤ (w.alloc (.cells #[] 23)).heap.size := hb1.size
    have HB1 := hide hb1
    have HO := hide ho0
    clear hb1 ho0 hc hA hl hq
    have he : ∀ w : World, (binOp .eql 22 (.slice (some ad) q c) (.slice none 0 0)).run Tryd.prog w = .ok (.bool false) w := fun _ => rfl
    go_enter Tryd.func83, Tryd.ntmps83
    go_wp2_with (at_builtin; refine wpList_append_src rfl (.tmp 5) (.tmp 6) _ rfl w.heap.size 23 i0 (.slice none 0 0) 1 24 Tryd.underlying22 hi0 hz0 hz1 hz2 rfl (by decide) _ _ _ rfl HO.out (some ad) q c vs rfl hvl1 hs hone hbb1 hbb2 hb4 ?_; intro v1 w5 hown1 hgrow1 hat1)
    rw [List.nil_append, Nat.zero_add] at hown1
    obtain ⟨a1, c1, rfl⟩ := own_slice hown1
    go_ret
    exact ⟨a1, c1, rfl, hown1, HB1.out.trans (below_own HO.out hgrow1 (Nat.le_refl _) hb4)⟩

/-- what the copy's literal has laid -/
structure CopI (w wx : World) (g d q m : Nat) (a : Option Addr) (c : Nat) (vs : List Value) : Prop where
  bl : Below w.heap.size w wx
  own : wx.ownsRow w.heap.size 23 1 (.slice a q c) q vs
  blk : wx.heap[g]? = some (.cells #[.bool true, .slice a q c, .slice (some ⟨d, 0, none⟩) m m] 65 (0, 0))
  pks : wx.heap[d]? = some (.cells (madeCells #[.int .u64 0] m) 24 (0, 0))
  hg : w.heap.size ≤ g
  hd : w.heap.size ≤ d
theorem CopI.now {w wx w' : World} {g d q m : Nat} {a : Option Addr} {c : Nat} {vs : List Value} (h : CopI w wx g d q m a c vs) (hb : Below wx.heap.size wx w') : CopI w w' g d q m a c vs :=
  ⟨h.bl.trans (hb.mono h.bl.size), own_keep h.own hb (Nat.le_refl _), (hb.block g (Array.getElem?_eq_some_iff.1 h.blk).1).trans h.blk, (hb.block d (Array.getElem?_eq_some_iff.1 h.pks).1).trans h.pks, h.hg, h.hd⟩
/-- a copy of a log: new blocks, the entries' bytes shared -/
def CopyP (C : Nat → Prop) (ls : List (List UInt8)) (w : World) (e : Ending) (w' : World) : Prop :=
  ∃ b F Ae ce Ap cp, e = .returned (.pointer (some ⟨b, 0, none⟩)) ∧ Below w.heap.size w w' ∧ LogC C F w' b ls Ae ce Ap cp ∧ ∀ k, F k → w.heap.size ≤ k
theorem copy_done {C F : Nat → Prop} {w wx X : World} {b g d : Nat} {ls : List (List UInt8)} {Ae : Option Addr} {ce : Nat} {Ap : Option Addr} {cp : Nat} {a : Option Addr} {c : Nat} {vs : List Value} (h : LogC C F w b ls Ae ce Ap cp)
    (hi : CopI w wx g d ls.length (peaksV ls).length a c vs) (hE : Each w vs ls) (hv : ∀ v ∈ vs, ∀ k, v.ownBlock = some k → C k) (hl : (peaksV ls).length ≤ 13)
    (hd : X.heap[d]? = some (.cells (cellsP (peaksV ls)).toArray 24 (0, 0))) (hs : ∀ k, k ≠ d → k < wx.heap.size → X.heap[k]? = wx.heap[k]?) (hb : Below w.heap.size w X) : CopyP C ls w (.returned (.pointer (some ⟨g, 0, none⟩))) X := by
  have hgl := (Array.getElem?_eq_some_iff.1 hi.blk).1
  have hgd : g ≠ d := fun e => by
    subst e
    exact absurd (cell_ty hi.blk hi.pks) (by decide)
  have ho : X.ownsRow w.heap.size 23 1 (.slice a ls.length c) ls.length vs := own_same hi.own fun k hk => by
    obtain ⟨cur, hc⟩ := own_block hi.own hk
    exact hs k (fun e => by subst e; exact absurd (cell_ty hc hi.pks) (by decide)) (Array.getElem?_eq_some_iff.1 hc).1
  have hdl := (Array.getElem?_eq_some_iff.1 hd).1
  have hF : ∀ k, (k = g ∨ (Value.slice a ls.length c).ownBlock = some k ∨ k = d) → w.heap.size ≤ k ∧ k < X.heap.size := by
    rintro k (rfl | hk | rfl)
    · refine ⟨hi.hg, ?_⟩
      have := hs k hgd hgl
      rw [hi.blk] at this
      exact (Array.getElem?_eq_some_iff.1 this).1
    · exact own_lt ho k hk
    · exact ⟨hi.hd, hdl⟩
  refine ⟨g, fun k => k = g ∨ (Value.slice a ls.length c).ownBlock = some k ∨ k = d, a, c, some ⟨d, 0, none⟩, (peaksV ls).length, rfl, hb, ⟨⟨(hs g hgd hgl).trans hi.blk, ⟨vs, own_zero ho, ?_⟩, ?_, h.at_.pb, .inl rfl, fun k hk => .inr (.inl hk), fun k hk => ?_⟩, vs_ents (own_zero ho) hv, fun k hk => (hF k hk).2, fun k hk => ?_, fun k hk hf => ?_⟩, fun k hk => (hF k hk).1⟩
  · exact hE.mods fun v hvv k hk => hb.block k (h.cl k (hv v hvv k hk))
  · refine ⟨by unfold cellsP; rw [List.length_map, Nat.mul_one], .inr ⟨d, (peaksV ls).length, _, rfl, Nat.zero_le _, hd, Nat.le_refl _, by unfold maxLen; omega, ?_, ?_⟩⟩
    · unfold cellsP; simp
    · rw [Nat.mul_one]; exact List.take_of_length_le (by unfold cellsP; simp)
  · injection hk with hk
    exact .inr (.inr hk.symm)
  · exact Nat.lt_of_lt_of_le (h.cl k hk) hb.size
  · have := (hF k hf).1
    have := h.cl k hk
    omega
set_option maxHeartbeats 4000000 in
set_option maxRecDepth 100000 in
theorem copy_any (C F : Nat → Prop) (w : World) (b : Nat) (ls : List (List UInt8)) (Ae : Option Addr) (ce : Nat) (Ap : Option Addr) (cp : Nat) (h : LogC C F w b ls Ae ce Ap cp) (hl : ls.length ≤ 4096) :
    Calls Tryd.prog 43 #[.pointer (some ⟨b, 0, none⟩)] w (CopyP C ls w) := by
  have mixed := mixedOrders
  have HM := hide (isMade_any b w h.at_.c0)
  have c1 := h.at_.c1
  have c2 := h.at_.c2
  obtain ⟨vs, ho, hE⟩ := h.at_.ents
  have hv := ents_vs ho h.ents
  have hpl := peaks_len64 hl
  have hvl : vs.length = ls.length := by have := ho.1; omega
  have HCL : Hid (∀ w1, Below w.heap.size w w1 → Calls Tryd.prog 83 #[.slice Ae ls.length ce] w1 (CloneLP ls.length vs w1)) := by
    intro w1 hb
    have ho1 := own_keep ho hb (Nat.zero_le _)
    refine cloneL_any Ae ls.length ce vs w1 (fun e => ?_) hvl hl ?_ ?_
    · rcases (own_addr ho).2 with ⟨_, h2, h3⟩ | ⟨g, h2⟩
      · exact ⟨h2, h3⟩
      · rw [e] at h2; cases h2
    · rcases (own_addr ho).2 with ⟨h1, h2, h3⟩ | ⟨g, h2⟩
      · exact .inl ⟨h1, h2, List.eq_nil_of_length_eq_zero (by omega)⟩
      · refine .inr ⟨_, h2, fun j u hu => ?_⟩
        subst h2
        exact ho1.cells (g := g) rfl j u hu
    · intro u hu
      obtain ⟨j, hj, rfl⟩ := List.getElem_of_mem hu
      obtain ⟨v, e, a, c, rfl, -, -⟩ := hE.at_ j (by omega)
      rw [List.getElem?_eq_getElem hj] at e
      injection e with e
      rw [e]
      rfl
  unfold CloneLP at HCL
  obtain ⟨m, hm⟩ : ∃ m, (peaksV ls).length = m := ⟨_, rfl⟩
  have hmk := run_make_row' (P := Tryd.prog) 36 24 (.int .u64 0) 8 Tryd.underlying36 info24 rfl .i64 .i64 m (by omega) (by omega)
  rw [hm] at c2
  obtain ⟨q, hq⟩ : ∃ q, ls.length = q := ⟨_, rfl⟩
  rw [hq] at c1 HCL
  have HH := hide h
  have HD := hide ((Gr.refl w).drew).below
  have HDA : Hid (∀ o, Below w.heap.size w (w.alloc o).drew) := fun o => (((Gr.refl w).alloc o).drew).below
  have HAL : Hid (∀ w3 o, Below w.heap.size w w3 → Below w.heap.size w (w3.alloc o)) := fun w3 o hb => hb.alloc hb.size o
  have KK : Hid (∀ w', Below w.heap.size w w' → w'.cell? ⟨b, 1, none⟩ = some (.slice Ae q ce) ∧ w'.cell? ⟨b, 2, none⟩ = some (.slice Ap m cp)) := fun w' hb =>
    ⟨(hb.cell (p := ⟨b, 1, none⟩) h.at_.lt).trans c1, (hb.cell (p := ⟨b, 2, none⟩) h.at_.lt).trans c2⟩
  have HQM := hide (And.intro hq (And.intro hm hvl))
  have HHV := hide hv
  have HHE := hide hE
  have HHO := hide ho
  clear h c1 c2 ho hE hv hpl hvl hm hq
  go_enter Tryd.func43, Tryd.ntmps43
  go_wp2_with fail
  refine HM.out.mono ?_
  rintro e w1 ⟨rfl, rfl⟩
  go_upto_region 3 with (fail)
  go_cut [3] (fun sv wx => ∃ g d a c, sv = .pointer (some ⟨g, 0, none⟩) ∧ Hid (CopI w wx g d q m a c vs))
  case first => as_aux_lemma =>
    go_region_held3 (fun w' => w'.cell? ⟨b, 1, none⟩ = some (.slice Ae q ce) ∧ w'.cell? ⟨b, 2, none⟩ = some (.slice Ap m cp)) (first | exact KK.out _ HD.out | exact KK.out _ HB3.out | exact KK.out _ (HDA.out _) | exact KK.out _ (HAL.out _ _ HB3.out) | exact KK.out _ (HAL.out _ _ (HAL.out _ _ HB3.out))) (first | (go_at_call 83; (with_reducible refine (HCL.out _ HD.out).mono ?_); rintro e w3 ⟨a3, c3, rfl, ho3, hb3⟩; have HO3 := hide ho3; have HB3 := hide (HD.out.trans (hb3.mono HD.out.size)); clear ho3 hb3) | (go_at_call 83; (with_reducible refine (HCL.out _ (HDA.out _)).mono ?_); rintro e w3 ⟨a3, c3, rfl, ho3, hb3⟩; have HO3 := hide ho3; have HB3 := hide ((HDA.out _).trans (hb3.mono (HDA.out _).size)); have HPB := hide hb3; clear ho3 hb3))
    · go_wp2_with fail
      go_meet
      have hs3 := HB3.out.size
      have hbx : Below w3.heap.size w3 ((w3.alloc (.cells (madeCells #[.int .u64 0] m) 24)).alloc (.cells #[.bool true, .slice a3 q c3, .slice (some ⟨w3.heap.size, 0, none⟩) m m] 65)) := ((Below.refl _ w3).alloc (Nat.le_refl _) _).alloc (by simp) _
      refine ⟨w3.heap.size + 1, w3.heap.size, a3, c3, rfl, ⟨HB3.out.trans (hbx.mono hs3), own_keep HO3.out hbx HD.out.size, ?_, ?_, by omega, by omega⟩⟩
      · have := heap_alloc_new (w3.alloc (.cells (madeCells #[.int .u64 0] m) 24)) (.cells #[.bool true, .slice a3 q c3, .slice (some ⟨w3.heap.size, 0, none⟩) m m] 65)
        simpa using this
      · refine (((Below.refl _ (w3.alloc (.cells (madeCells #[.int .u64 0] m) 24))).alloc (Nat.le_refl _) _).block w3.heap.size (by simp)).trans ?_
        exact heap_alloc_new w3 _
    · go_wp2_with fail
      go_meet
      have hs3 := HB3.out.size
      have hbx : Below w3.heap.size w3 (w3.alloc (.cells #[.bool true, .slice a3 q c3, .slice (some ⟨w.heap.size, 0, none⟩) m m] 65)) := (Below.refl _ w3).alloc (Nat.le_refl _) _
      have hd : w3.heap[w.heap.size]? = some (.cells (madeCells #[.int .u64 0] m) 24 (0, 0)) := by
        refine (HPB.out.block w.heap.size (by simp [World.drew])).trans ?_
        exact heap_alloc_new w _
      refine ⟨w3.heap.size, w.heap.size, a3, c3, rfl, ⟨HB3.out.trans (hbx.mono hs3), own_keep HO3.out hbx (HDA.out _).size, heap_alloc_new w3 _, (hbx.block _ (Array.getElem?_eq_some_iff.1 hd).1).trans hd, by omega, Nat.le_refl _⟩⟩
  case rest => as_aux_lemma =>
    obtain ⟨g, d, a, c, rfl, HI⟩ := hcut
    obtain ⟨w2, rfl⟩ : ∃ w2, w2 = wc := ⟨_, rfl⟩
    go_upto_region 4 with (fail)
    have k2 := (KK.out w2 HI.out.bl).2
    have u2 : w2.cell? ⟨g, 2, none⟩ = some (.slice (some ⟨d, 0, none⟩) m m) := by unfold World.cell?; simp [HI.out.blk]
    have HJ := hide (HI.out.now ((Gr.refl w2).drew).below)
    go_still_tail 8, (by kernel_rfl)
    change wpList _ _ _ _ _ w2.drew
    obtain ⟨w4, hw4⟩ : ∃ w4, w2.drew = w4 := ⟨_, rfl⟩
    rw [hw4] at HJ ⊢
    clear hw4 k2 u2 HI
    have i24 : (Tryd.prog.info? 24).map (·.size) = some 1 := by kernel_rfl
    have hpk := own_keep HH.out.at_.pks HJ.out.bl (Nat.zero_le _)
    rw [HQM.out.2.1] at hpk
    have hlm : (cellsP (peaksV ls)).length = m := by unfold cellsP; rw [List.length_map]; exact HQM.out.2.1
    have h13 : (peaksV ls).length ≤ 13 := peaks_len64 hl
    have hJ2 := HJ.out
    have hpd := HJ.out.pks
    rcases Nat.eq_zero_or_pos m with h0 | h0
    · subst h0
      have hnil : cellsP (peaksV ls) = [] := List.eq_nil_of_length_eq_zero hlm
      have hfin := copy_done (X := w4) HH.out (by rw [HQM.out.1, HQM.out.2.1]; exact hJ2) HHE.out HHV.out h13 (by rw [hnil]; have e : madeCells #[Value.int .u64 0] 0 = (#[] : Array Value) := Array.eq_empty_of_size_eq_zero (size_madeCells _ 0); rw [e] at hpd; exact hpd) (fun k _ _ => rfl) HJ.out.bl
      have HFIN := hide hfin
      clear hfin hpd hJ2 h13 hnil hlm hpk
      refine wpList_copy_nothing rfl (.tmp 23) (.tmp 27) 36 36 rfl 24 Tryd.underlying36 i24 (some ⟨d, 0, none⟩) Ap 0 0 0 cp rfl rfl rfl ?_
      go_wp2_with fail
      go_ret
      exact HFIN.out
    · obtain ⟨gp, hgp⟩ : ∃ gp, Ap = some ⟨gp, 0, none⟩ := by
        rcases (own_addr hpk).2 with ⟨_, h2, _⟩ | h2
        · omega
        · exact h2
      subst hgp
      have hsz : (madeCells #[Value.int .u64 0] m).size = m := size_madeCells _ _
      have hfit : 0 + (cellsP (peaksV ls)).length ≤ (madeCells #[Value.int .u64 0] m).size := by rw [hsz]; omega
      have hone : ∀ v ∈ cellsP (peaksV ls), v.oneCell' = true := fun v hv => by
        unfold cellsP at hv
        obtain ⟨x, -, rfl⟩ := List.mem_map.1 hv
        rfl
      have hsrc : ∀ j v, (cellsP (peaksV ls))[j]? = some v → w4.cell? ((⟨gp, 0, none⟩ : Addr).add j) = some v := fun j v hv => hpk.cells (g := gp) rfl j v hv
      have hmin : (cellsP (peaksV ls)).length = Nat.min m m := by rw [hlm]; exact (Nat.min_self m).symm
      have hrow : ((madeCells #[Value.int .u64 0] m).toList.take 0 ++ (cellsP (peaksV ls) ++ (madeCells #[Value.int .u64 0] m).toList.drop (0 + (cellsP (peaksV ls)).length))).toArray = (cellsP (peaksV ls)).toArray := by
        have : (madeCells #[Value.int .u64 0] m).toList.drop (0 + (cellsP (peaksV ls)).length) = [] := List.drop_eq_nil_of_le (by rw [Array.length_toList, hsz]; omega)
        rw [this]
        simp
      have hfin : ∀ X, X = w4.setRow d (cellsP (peaksV ls)).toArray → CopyP C ls w (.returned (.pointer (some ⟨g, 0, none⟩))) X := fun X hX => by
        subst hX
        exact copy_done HH.out (by rw [HQM.out.1, HQM.out.2.1]; exact hJ2) HHE.out HHV.out h13 (setRow_heap w4 d _ _ 24 _ hpd) (fun k hk _ => setRow_other w4 d k _ hk) (below_setRow HJ.out.bl hJ2.hd _)
      have HFIN := hide hfin
      have HROW := hide hrow
      clear hfin hJ2 h13 hpk hrow hsz hlm
      refine wpList_copy_own rfl (.tmp 23) (.tmp 27) 36 36 rfl 24 Tryd.underlying36 i24 d 0 m m ⟨gp, 0, none⟩ m cp rfl rfl _ 24 hpd (cellsP (peaksV ls)) hmin hsrc hfit hone ?_
      rw [HROW.out]
      obtain ⟨X, hX⟩ : ∃ X, w4.setRow d (cellsP (peaksV ls)).toArray = X := ⟨_, rfl⟩
      rw [hX]
      have HX := hide (HFIN.out X hX.symm)
      clear hX HFIN hsrc hmin hfit hone hpd
      go_wp2_with fail
      go_ret
      exact HX.out
end Go.Proofs.YtbinmkigolkhcaaDoor
