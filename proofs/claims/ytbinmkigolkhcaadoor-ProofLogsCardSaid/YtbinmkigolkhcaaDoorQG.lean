/- added: a log and its reference with more entries. -/
import Derived.Test.YtbinmkigolkhcaaDoorQF
import Derived.Deep.DeepCutAuto
import Derived.Deep.RegionHeld3
set_option linter.unusedSimpArgs false
set_option linter.unusedVariables false
namespace Go.Proofs.YtbinmkigolkhcaaDoor
open Go.RowKit Go.Sort
attribute [local go_sem] Oper.semAt_some

structure AddIx (C F : Nat → Prop) (w wr : World) (p b : Nat) (ls : List (List UInt8)) (C' F' : Nat → Prop) (A : Option Addr) (q c : Nat) (Ae : Option Addr) (ce : Nat) (Ap : Option Addr) (cp : Nat) : Prop where
  bx : Box1 wr p (.slice A q c)
  by_ : Box1 wr (p + 1) (.slice none 0 0)
  md : Mods F w wr
  lg : LogC C' F' wr b ls Ae ce Ap cp
  li : ListsC C' wr A q ls
  ad : Adr A q c
  c1 : ∀ k, C k → C' k
  c2 : ∀ k, C' k → C k ∨ p ≤ k
  f2 : ∀ k, F' k → F k ∨ p ≤ k
  np : ¬ C' p ∧ ¬ C' (p + 1) ∧ ¬ F' p ∧ ¬ F' (p + 1)
def AddI (C F : Nat → Prop) (w wr : World) (p b : Nat) (ls : List (List UInt8)) : Prop := ∃ C' F' A q c Ae ce Ap cp, AddIx C F w wr p b ls C' F' A q c Ae ce Ap cp
def AddedP (C F : Nat → Prop) (b : Nat) (ls : List (List UInt8)) (w : World) (e : Ending) (w' : World) : Prop :=
  ∃ A q c C' F' Ae ce Ap cp, e = .returned (.tuple #[.agg #[.slice A q c], .bool true]) ∧ Mods F w w' ∧ LogC C' F' w' b ls Ae ce Ap cp ∧ ListsC C' w' A q ls ∧ Adr A q c ∧ (∀ k, C k → C' k) ∧ (∀ k, C' k → C k ∨ w.heap.size ≤ k) ∧ (∀ k, F' k → F k ∨ w.heap.size ≤ k)
theorem logN_len (ls es : List (List UInt8)) (i : Nat) : (logN ls es i).length ≤ ls.length + i := by
  obtain ⟨m, h1, h2, -⟩ := logN_more ls es i
  rw [h1, List.length_append]
  omega

theorem box_old {w w' : World} (hb : Below (w.alloc (.cells #[.slice none 0 0] 59)).drew.heap.size (w.alloc (.cells #[.slice none 0 0] 59)).drew w') : Box1 w' w.heap.size (.slice none 0 0) := by
  have h1 : Box1 (w.alloc (.cells #[.slice none 0 0] 59)).drew w.heap.size (.slice none 0 0) := heap_alloc_new w _
  exact h1.below hb
/-- behind the specification's Add: its list, and the box of it -/
structure Six (w3 wx : World) (h : Nat) (A : Option Addr) (q c : Nat) (C3 C4 : Nat → Prop) (ls : List (List UInt8)) : Prop where
  bl : Below w3.heap.size w3 wx
  bx : Box1 wx h (.slice A q c)
  li : ListsC C4 wx A q ls
  ad : Adr A q c
  c1 : ∀ k, C3 k → C4 k
  c2 : ∀ k, C4 k → C3 k ∨ w3.heap.size ≤ k
  cl : ∀ k, C4 k → k < wx.heap.size
  nh : ¬ C4 h
  hh : w3.heap.size ≤ h
theorem Six.of {w3 w4 : World} {h : Nat} {A : Option Addr} {q c : Nat} {C3 C4 : Nat → Prop} {ls : List (List UInt8)} {z : Value} (hb : Below w3.heap.size w3 w4) (hz : Box1 w4 h z) (hl : ListsC C4 w4 A q ls) (ha : Adr A q c) (c1 : ∀ k, C3 k → C4 k) (c2 : ∀ k, C4 k → C3 k ∨ w3.heap.size ≤ k) (cl : ∀ k, C4 k → k < w4.heap.size) (nh : ¬ C4 h) (hh : w3.heap.size ≤ h) :
    Six w3 (w4.setCell ⟨h, 0, none⟩ (.slice A q c)) h A q c C3 C4 ls := by
  have hms : Mods (fun j => j = h) w4 (w4.setCell ⟨h, 0, none⟩ (.slice A q c)) := Mods.set (F := fun j => j = h) w4 rfl 0 _
  exact ⟨hb.setCell (p := ⟨h, 0, none⟩) hh _, hz.set _, hl.mods hms (fun j hj e => nh (by rw [← e]; exact hj)), ha, c1, c2, fun k hk => Nat.lt_of_lt_of_le (cl k hk) hms.size, nh, hh⟩
theorem Six.now {w3 wx w' : World} {h : Nat} {A : Option Addr} {q c : Nat} {C3 C4 : Nat → Prop} {ls : List (List UInt8)} (s : Six w3 wx h A q c C3 C4 ls) (hb : Below wx.heap.size wx w') : Six w3 w' h A q c C3 C4 ls :=
  ⟨s.bl.trans (hb.mono s.bl.size), s.bx.below hb, s.li.now hb, s.ad, s.c1, s.c2, fun k hk => Nat.lt_of_lt_of_le (s.cl k hk) hb.size, s.nh, s.hh⟩
theorem add_next {C F C' F' C3 F3 C4 : Nat → Prop} {w wr w2 w3 w6 wz : World} {p b h : Nat} {ls ls' : List (List UInt8)} {A A4 : Option Addr} {q c q4 c4 : Nat} {Ae : Option Addr} {ce : Nat} {Ap : Option Addr} {cp : Nat} {Ae3 : Option Addr} {ce3 : Nat} {Ap3 : Option Addr} {cp3 : Nat} {ao : Option Addr} {nk co : Nat} {xs : List Value}
    (hp : w.heap.size = p) (hI : AddIx C F w wr p b ls C' F' A q c Ae ce Ap cp) (hB2 : Below wr.heap.size wr w2) (hO : w2.ownsRow wr.heap.size 5 1 (.slice ao nk co) nk xs) (hm3 : Mods F' w2 w3) (h3 : LogC C3 F3 w3 b ls' Ae3 ce3 Ap3 cp3)
    (k1 : ∀ k, C' k → C3 k) (k2 : ∀ k, C3 k → C' k ∨ w2.heap.size ≤ k) (k3 : ∀ k, F3 k → F' k ∨ w2.heap.size ≤ k) (hS : Six w3 w6 h A4 q4 c4 C3 C4 ls')
    (hz : Mods (fun j => (Value.slice ao nk co).ownBlock = some j) (w6.setCell ⟨p, 0, none⟩ (.slice A4 q4 c4)) wz) : AddI C F w wz p b ls' := by
  have hOl := own_lt hO
  have hpr := hI.by_.lt
  have hs2 := hB2.size
  have hs3 := hm3.size
  have hs6 := hS.bl.size
  have hms : Mods (fun j => j = p) w6 (w6.setCell ⟨p, 0, none⟩ (.slice A4 q4 c4)) := Mods.set (F := fun j => j = p) w6 rfl 0 _
  have nC3 : ∀ j, C3 j → j ≠ p ∧ j ≠ p + 1 ∧ ¬ (Value.slice ao nk co).ownBlock = some j := fun j hj => by
    rcases k2 j hj with e | e
    · have := hI.lg.cl j e
      refine ⟨fun h => hI.np.1 (by rw [← h]; exact e), fun h => hI.np.2.1 (by rw [← h]; exact e), fun h => ?_⟩
      have := (hOl j h).1
      omega
    · refine ⟨by omega, by omega, fun h => ?_⟩
      have := (hOl j h).2
      omega
  have nF3 : ∀ j, F3 j → j ≠ p ∧ j ≠ p + 1 ∧ ¬ (Value.slice ao nk co).ownBlock = some j := fun j hj => by
    rcases k3 j hj with e | e
    · have := hI.lg.fl j e
      refine ⟨fun h => hI.np.2.2.1 (by rw [← h]; exact e), fun h => hI.np.2.2.2 (by rw [← h]; exact e), fun h => ?_⟩
      have := (hOl j h).1
      omega
    · refine ⟨by omega, by omega, fun h => ?_⟩
      have := (hOl j h).2
      omega
  have nC4 : ∀ j, C4 j → j ≠ p ∧ j ≠ p + 1 ∧ ¬ (Value.slice ao nk co).ownBlock = some j := fun j hj => by
    rcases hS.c2 j hj with e | e
    · exact nC3 j e
    · refine ⟨by omega, by omega, fun h => ?_⟩
      have := (hOl j h).2
      omega
  have hlg := ((h3.now hS.bl).mods hms (fun j hj e => (nF3 j hj).1 e) (fun j hj e => (nC3 j hj).1 e)).mods hz (fun j hj => (nF3 j hj).2.2) (fun j hj => (nC3 j hj).2.2)
  have hli := (hS.li.mods hms (fun j hj e => (nC4 j hj).1 e)).mods hz (fun j hj => (nC4 j hj).2.2)
  have nO : ∀ j, j < wr.heap.size → ¬ (Value.slice ao nk co).ownBlock = some j := fun j hj h => by
    have := (hOl j h).1
    omega
  have hbp6 : Box1 w6 p (.slice A q c) := by
    have h2 := hI.bx.below hB2
    have h4 : Box1 w3 p (.slice A q c) := h2.same (hm3.same p h2.lt hI.np.2.2.1)
    exact h4.below hS.bl
  have hby6 : Box1 w6 (p + 1) (.slice none 0 0) := by
    have h2 := hI.by_.below hB2
    have h4 : Box1 w3 (p + 1) (.slice none 0 0) := h2.same (hm3.same (p + 1) h2.lt hI.np.2.2.2)
    exact h4.below hS.bl
  have hbp7 := hbp6.set (.slice A4 q4 c4)
  have hby7 := hby6.far (by omega : p + 1 ≠ p) (.slice A4 q4 c4)
  refine ⟨C4, F3, A4, q4, c4, Ae3, ce3, Ap3, cp3, hbp7.same (hz.same p hbp7.lt (nO p hI.bx.lt)), hby7.same (hz.same (p + 1) hby7.lt (nO (p + 1) hpr)), Mods.old ?_, hlg.more hS.c1 (fun j hj => ?_) (fun j hj hf => ?_), hli, hS.ad, fun j hj => hS.c1 j (k1 j (hI.c1 j hj)), fun j hj => ?_, fun j hj => ?_, fun h => (nC4 p h).1 rfl, fun h => (nC4 _ h).2.1 rfl, fun h => (nF3 p h).1 rfl, fun h => (nF3 _ h).2.1 rfl⟩
  · rw [hp]
    refine (hI.md.wider fun j hj => .inl hj).trans ((Mods.of_below _ hB2).trans ((hm3.wider fun j hj => hI.f2 j hj).trans ((Mods.of_below _ hS.bl).trans ((hms.wider fun j hj => .inr (by omega)).trans (hz.wider fun j hj => .inr ?_)))))
    have := (hOl j hj).1
    omega
  · have h1 := hS.cl j hj
    have h2 := hms.size
    have h4 := hz.size
    omega
  · rcases hS.c2 j hj with e | e
    · exact h3.cf j e hf
    · have := h3.fl j hf
      omega
  · rcases hS.c2 j hj with e | e
    · rcases k2 j e with e | e
      · exact hI.c2 j e
      · exact .inr (by omega)
    · exact .inr (by omega)
  · rcases k3 j hj with e | e
    · exact hI.f2 j e
    · exact .inr (by omega)
set_option maxHeartbeats 4000000 in
set_option maxRecDepth 100000 in
theorem added_any (C F : Nat → Prop) (w : World) (b : Nat) (ls : List (List UInt8)) (Ae : Option Addr) (ce : Nat) (Ap : Option Addr) (cp : Nat) (A : Option Addr) (q c : Nat) (B : Option Addr) (m d : Nat) (ms : List (List UInt8))
    (hlg : LogC C F w b ls Ae ce Ap cp) (hli : ListsC C w A q ls) (hA : Adr A q c) (hm : ListsC C w B m ms) (hsz : ls.length + m ≤ 4000) (hw1 : 1 < w.heap.size) (hT : TabAt 1 Lib.deBruijn64tab w) (hF1 : ¬ F 1) :
    Calls Tryd.prog 41 #[.pointer (some ⟨b, 0, none⟩), .agg #[.slice A q c], .slice B m d] w (AddedP C F b (logN ls ms m) w) := by
  have mixed := mixedOrders
  obtain ⟨p, hp⟩ : ∃ p, w.heap.size = p := ⟨_, rfl⟩
  have hb1 : Below w.heap.size w (w.alloc (.cells #[.slice A q c] 59)) := (Below.refl _ w).alloc (Nat.le_refl _) _
  have hc1 : Box1 (w.alloc (.cells #[.slice A q c] 59)) p (.slice A q c) := by rw [← hp]; exact heap_alloc_new w _
  obtain ⟨W, hW⟩ : ∃ W, w.alloc (.cells #[.slice A q c] 59) = W := ⟨_, rfl⟩
  have hs1 : W.heap.size = p + 1 := by rw [← hW, ← hp]; simp
  rw [hW] at hb1 hc1
  have hb2 : Below W.heap.size W (W.alloc (.cells #[.slice none 0 0] 59)) := (Below.refl _ W).alloc (Nat.le_refl _) _
  have hc2 : Box1 (W.alloc (.cells #[.slice none 0 0] 59)) (p + 1) (.slice none 0 0) := by rw [← hs1]; exact heap_alloc_new W _
  have hc1' := hc1.below hb2
  have hbt := hb1.trans (hb2.mono hb1.size)
  obtain ⟨W2, hW2⟩ : ∃ W2, W.alloc (.cells #[.slice none 0 0] 59) = W2 := ⟨_, rfl⟩
  rw [hW2] at hb2 hc2 hc1' hbt
  have HI0 : Hid (AddI C F w W2 p b (logN ls ms 0)) :=
    ⟨C, F, A, q, c, Ae, ce, Ap, cp, hc1', hc2, Mods.of_below F hbt, hlg.now hbt, hli.now hbt, hA, fun k h => h, fun k h => .inl h, fun k h => .inl h, fun h => by have := hlg.cl _ h; omega, fun h => by have := hlg.cl _ h; omega, fun h => by have := hlg.fl _ h; omega, fun h => by have := hlg.fl _ h; omega⟩
  have HCF := hide hlg.cf
  have HMS := hide hm
  have HEN := hide (And.intro hw1 (And.intro hT (And.intro hF1 (And.intro hsz (And.intro hp (And.intro hm.1 hlg.cl))))))
  obtain ⟨i0, hi0, hz0, hz1, hz2⟩ := info_parts info5
  clear hb1 hc1 hb2 hc2 hc1' hbt hlg hli hA hm hw1 hT hF1 hsz
  go_enter Tryd.func41, Tryd.ntmps41
  go_upto_region 1 with (fail)
  clear hW hW2 hs1 hp
  go_wp2_with fail
  go_loopw [8] (fun vi wr => ∃ k : Nat, k ≤ m ∧ vi = .int .i64 k ∧ Hid (AddI C F w wr p b (logN ls ms k))) (fun vi _ => m - (intOf vi).toNat)
  case atStart => exact ⟨0, Nat.zero_le _, rfl, HI0⟩
  case round =>
    obtain ⟨k, hk, rfl, HI⟩ := hrel
    by_cases hlt : k < m
    · have hlt' : (k : Int) < (m : Int) := by omega
      obtain ⟨wo, rfl⟩ : ∃ wo, wo = wr := ⟨_, rfl⟩
      obtain ⟨C', F', A', q', c', Ae', ce', Ap', cp', hI⟩ := HI.out
      have hmr : ListsC C wo B m ms := HMS.out.mods hI.md HCF.out
      obtain ⟨gB, offB, Bk, nk, ck, rfl, hCb, hbl, kB, hBy, hnk⟩ := hmr.at_ (i := k) hlt
      obtain ⟨lk, hlk⟩ : ∃ lk, ms.getD k [] = lk := ⟨_, rfl⟩
      rw [hlk] at hBy
      have hb1 : Below wo.heap.size wo (wo.alloc (.cells #[] 5)) := (Below.refl _ wo).alloc (Nat.le_refl _) _
      have ho0 : (wo.alloc (.cells #[] 5)).ownsRow wo.heap.size 5 1 (.slice (some ⟨wo.heap.size, 0, none⟩) 0 0) 0 [] := ⟨rfl, .inr ⟨wo.heap.size, 0, #[], rfl, Nat.le_refl _, heap_alloc_new wo _, Nat.le_refl _, Nat.zero_le _, rfl, rfl⟩⟩
      have hs : Src (wo.alloc (.cells #[] 5)) Bk nk (cellsB lk) := src_bytes (hBy.1.now hb1 (Nat.le_refl _))
      have hcl : (cellsB lk).length = nk * 1 := by unfold cellsB; rw [List.length_map, hBy.1.1]; omega
      have hbb1 : 0 + nk ≤ maxLen := by unfold maxLen; omega
      have hbb2 : (0 + nk) * 1 ≤ 140737488355328 := by omega
      have hb4 : wo.heap.size ≤ (wo.alloc (.cells #[] 5)).heap.size := hb1.size
      have kB1 := (hb1.cell (p := ⟨gB, offB + k, none⟩) hbl).trans kB
      have HO0 := hide ho0
      have HB1 := hide hb1
      have HII := hide hI
      have HMR := hide hmr
      have HBY := hide hBy
      have HKB := hide (And.intro kB (And.intro hbl hCb))
      have HNK := hide (And.intro hnk (And.intro hlk (And.intro hlt hk)))
      clear hb1 ho0 hI hmr hBy kB hbl hCb hnk hlk hlt hk HI
      go_wp2_with (at_builtin; refine wpList_append_src rfl (.tmp 22) (.tmp 26) _ rfl wo.heap.size 5 i0 (.int .u8 0) 1 1 Tryd.underlying23 hi0 hz0 hz1 hz2 rfl (by decide) _ _ _ rfl HO0.out Bk nk ck (cellsB lk) rfl hcl hs (cellsB_one lk) hbb1 hbb2 hb4 ?_; intro v1 w2 hown hgrow hat; refine Hid.out ?_)
      refine Lib.hid ?_
      rw [List.nil_append, Nat.zero_add] at hown
      obtain ⟨ao, co, rfl⟩ := own_slice hown
      have hB2 : Below wo.heap.size wo w2 := HB1.out.trans (below_own HO0.out hgrow (Nat.le_refl _) hb4)
      have hoL := own_lt hown
      obtain ⟨hw1, hT, hF1, hsz, hpw, hmsl, hCl⟩ := HEN.out
      have hI := HII.out
      have hp2 : p + 2 ≤ wo.heap.size := by have := hI.by_.lt; omega
      have hT2 : TabAt 1 Lib.deBruijn64tab w2 := TabAt.mods (TabAt.mods hT hI.md hF1 hw1) (Mods.of_below (fun _ => False) hB2) (fun h => h) (by omega)
      have hCA := Add_C C' F' w2 b (logN ls ms k) Ae' ce' Ap' cp' (hI.lg.now hB2) (by have := logN_len ls ms k; have := HNK.out.2.2.1; omega) ao nk co lk (bytes_of_own hown) (fun _ a ha hF => by
        subst ha
        have := (hoL a.block rfl).1
        have := hI.lg.fl _ hF
        omega) (fun h => by rcases hI.f2 1 h with h | h; exact hF1 h; omega) (by have := hB2.size; omega) hT2
      obtain ⟨⟨⟨x, E⟩, ls'⟩, hadd⟩ : ∃ X, addV (logN ls ms k) lk = X := ⟨_, rfl⟩
      rw [hadd] at hCA
      have hnext : logN ls ms (k + 1) = ls' := by
        show (addV (logN ls ms k) (ms.getD k [])).2 = ls'
        rw [HNK.out.2.1, hadd]
      have HCA := hide hCA
      have HOW := hide hown
      have HB2 := hide hB2
      have HADD := hide (And.intro hadd hnext)
      unfold AddCP at HCA
      dsimp only at HCA
      clear hown hgrow hat hB2 hoL hw1 hT hF1 hsz hpw hmsl hCl hI hp2 hT2 hCA hadd hnext hs hcl hbb1 hbb2 hb4 kB1 HO0 HB1
      go_wp2_with fail
      refine HCA.out.mono ?_
      rintro _ w3 ⟨rfl, hm3, C3, F3, Ae3, ce3, Ap3, cp3, h3, k1, k2, k3⟩
      have hI := HII.out
      have hCF' := hI.lg.cf
      have hbx3 : Box1 w3 p (.slice A' q' c') := by
        have h2 := hI.bx.below HB2.out
        exact h2.same (hm3.same p h2.lt hI.np.2.2.1)
      have hli3 := ((hI.li.now HB2.out).mods hm3 hCF').wider k1
      have hC0 : ∀ j, C j → ¬ F' j := fun j hj => hCF' j (hI.c1 j hj)
      have hmr3 := (HMR.out.now HB2.out).mods hm3 hC0
      have hby3 : BytesC C w3 Bk nk lk := ((HBY.out.mods (Mods.of_below (fun _ => False) HB2.out) (fun _ _ h => h))).mods hm3 hC0
      have kB3 : w3.cell? ⟨gB, offB + k, none⟩ = some (.slice Bk nk ck) := by
        have h2 := (HB2.out.cell (p := ⟨gB, offB + k, none⟩) HKB.out.2.1).trans HKB.out.1
        exact (World.cell?_of_block (a := ⟨gB, offB + k, none⟩) (hm3.same gB (Nat.lt_of_lt_of_le HKB.out.2.1 HB2.out.size) (hC0 gB HKB.out.2.2))).trans h2
      have KK : Hid (∀ w', Below w3.heap.size w3 w' → w'.cell? ⟨p, 0, none⟩ = some (.slice A' q' c') ∧ w'.cell? ⟨gB, offB + k, none⟩ = some (.slice Bk nk ck)) := fun w' hb =>
        ⟨(hbx3.below hb).facts.1, (hb.cell (p := ⟨gB, offB + k, none⟩) (Nat.lt_of_lt_of_le HKB.out.2.1 (Nat.le_trans HB2.out.size hm3.size))).trans kB3⟩
      have C7 : Hid (∀ w', Below w3.heap.size w3 w' → Calls Tryd.prog 77 #[.agg #[.slice A' q' c'], .slice Bk nk ck] w' (RAddP C3 ((x, E), ls') w')) := fun w' hb => by
        have := rAdd_any C3 A' q' c' (logN ls ms k) Bk nk ck lk w' (hli3.now hb) hI.ad (by have := logN_len ls ms k; have := hli3.1; have := HNK.out.2.2.1; have := HEN.out.2.2.2.1; omega) (hby3.1.now hb (Nat.le_refl _)) (fun e => by
          rcases hby3.1.2 with h | ⟨_, _, h, _⟩
          · exact h
          · rw [e] at h; cases h) HNK.out.1
        rw [HADD.out.1] at this
        exact this
      unfold RAddP at C7
      dsimp only at C7
      have HH3 := hide (And.intro h3 (And.intro k1 (And.intro k2 k3)))
      have HM3 := hide hm3
      have HY3 := hide hby3
      have HD := hide ((Gr.refl w3).drew).below
      have HDA : Hid (∀ o, Below w3.heap.size w3 (w3.alloc o).drew) := fun o => (((Gr.refl w3).alloc o).drew).below
      have HAL : Hid (∀ w4 o, Below w3.heap.size w3 w4 → Below w3.heap.size w3 (w4.alloc o)) := fun w4 o hb => hb.alloc hb.size o
      clear HCA hm3 h3 k1 k2 k3 hI hCF' hbx3 hli3 hC0 hmr3 hby3 kB3
      go_upto_region 6 with (fail)
      go_cut [12, 13, 14] (fun s12 s13 s14 wx => ∃ h A4 q4 c4 C4, s12 = .pointer (some ⟨h, 0, none⟩) ∧ s13 = .int .i64 (x : Nat) ∧ s14 = .int .i64 E ∧ Hid (Six w3 wx h A4 q4 c4 C3 C4 ls'))
      case first => as_aux_lemma =>
        go_region_held3 (fun w' => w'.cell? ⟨p, 0, none⟩ = some (.slice A' q' c') ∧ w'.cell? ⟨gB, offB + k, none⟩ = some (.slice Bk nk ck)) (first | exact KK.out _ HD.out | exact KK.out _ HB4.out | exact KK.out _ (HDA.out _) | exact KK.out _ (HAL.out _ _ HB4.out) | exact KK.out _ (HB4.out.setCell (p := ⟨w3.heap.size, 0, none⟩) (Nat.le_refl _) _)) (first | (go_at_call 77; (with_reducible refine (C7.out _ HD.out).mono ?_); rintro _ w4 ⟨A4, q4, c4, rfl, hb4, hl4, ha4⟩; have HB4 := hide (HD.out.trans (hb4.mono HD.out.size)); have HL4 := hide hl4; have HA4 := hide ha4; have z0 := (cell_new1 w4 (.slice none 0 0) 59).1; have z1 := (cell_new1 w4 (.slice none 0 0) 59).2; clear hb4 hl4 ha4) | (go_at_call 77; (with_reducible refine (C7.out _ (HDA.out _)).mono ?_); rintro _ w4 ⟨A4, q4, c4, rfl, hb4, hl4, ha4⟩; have HB4 := hide ((HDA.out _).trans (hb4.mono (HDA.out _).size)); have HBQ := hide hb4; have HL4 := hide hl4; have HA4 := hide ha4; have z0 := (box_old hb4).facts.1; have z1 := (box_old hb4).facts.2; clear hb4 hl4 ha4))
        · go_wp2_with fail
          go_meet
          have hcl := HH3.out.1.cl
          have hs4 := HB4.out.size
          have hb5 : Below w4.heap.size w4 (w4.alloc (.cells #[.slice A4 q4 c4] 59)) := (Below.refl _ w4).alloc (Nat.le_refl _) _
          have hl5 : ListsC (fun j => C3 j ∨ (w3.heap.size ≤ j ∧ j < w4.heap.size)) w4 A4 q4 ls' := HL4.out
          refine ⟨w4.heap.size, A4, q4, c4, fun j => C3 j ∨ (w3.heap.size ≤ j ∧ j < w4.heap.size), rfl, rfl, rfl, ⟨HB4.out.trans (hb5.mono hs4), heap_alloc_new w4 _, hl5.now hb5, HA4.out, fun j hj => .inl hj, fun j hj => hj.imp id fun h => h.1, fun j hj => ?_, fun hj => ?_, hs4⟩⟩
          · have := hb5.size
            rcases hj with h | h
            · have := hcl j h; omega
            · omega
          · rcases hj with h | h
            · have := hcl _ h; omega
            · omega
        · go_wp2_with fail
          go_meet
          have hcl := HH3.out.1.cl
          have hs4 := HBQ.out.size
          have hsA : (w3.alloc (.cells #[.slice none 0 0] 59)).drew.heap.size = w3.heap.size + 1 := by simp [World.drew]
          rw [hsA] at hs4
          have hl5 : ListsC (fun j => C3 j ∨ (w3.heap.size + 1 ≤ j ∧ j < w4.heap.size)) w4 A4 q4 ls' := by
            have := HL4.out
            rw [hsA] at this
            exact this
          refine ⟨w3.heap.size, A4, q4, c4, fun j => C3 j ∨ (w3.heap.size + 1 ≤ j ∧ j < w4.heap.size), rfl, rfl, rfl, Six.of HB4.out (box_old HBQ.out) hl5 HA4.out (fun j hj => .inl hj) (fun j hj => hj.imp id fun h => by omega) (fun j hj => ?_) (fun hj => ?_) (Nat.le_refl _)⟩
          · rcases hj with h | h
            · have := hcl j h; omega
            · omega
          · rcases hj with h | h
            · have := hcl _ h; omega
            · omega
      case rest => as_aux_lemma =>
        obtain ⟨h, A4, q4, c4, C4, rfl, rfl, rfl, HS⟩ := hcut
        obtain ⟨w5, rfl⟩ : ∃ w5, w5 = wc := ⟨_, rfl⟩
        have hb5 := HS.out.bl
        have hyo : w5.ownsRow wo.heap.size 5 1 (.slice ao nk co) nk (cellsB lk) := by
          have h1 := own_same HOW.out fun j hj => HM3.out.same j (own_lt HOW.out j hj).2 (fun hf => by
            have := (own_lt HOW.out j hj).1
            have := HII.out.lg.fl _ hf
            omega)
          exact own_keep h1 hb5 (Nat.le_refl _)
        have r1 : ∀ nq, (w5.drewN nq).cell? ⟨gB, offB + k, none⟩ = some (.slice Bk nk ck) := fun _ => (KK.out w5 hb5).2
        have q1 : ∀ nq, (convert 23 9 (.slice ao nk co)).run Tryd.prog (w5.drewN nq) = .ok (.string (strOfNums (numsB lk))) (w5.drewN nq) := fun nq => conv_any ((bytes_of_own hyo).now ((Gr.refl w5).drewN nq).below (Nat.le_refl _)) co
        have q2 : ∀ nq, (convert 23 9 (.slice Bk nk ck)).run Tryd.prog (w5.drewN nq) = .ok (.string (strOfNums (numsB lk))) (w5.drewN nq) := fun nq => conv_any (HY3.out.1.now (hb5.trans (((Gr.refl w5).drewN nq).below.mono hb5.size)) (Nat.le_refl _)) ck
        obtain ⟨t1, ht1⟩ : ∃ s, strOfNums (numsB lk) = s := ⟨_, rfl⟩
        simp only [ht1] at q1 q2
        have zt : (t1.toList == t1.toList) = true := by simp
        have zx : ((x : Int) != (x : Int)) = false := by simp
        have zE : (E != E) = false := by simp
        have HYO := hide hyo
        have hlt' : (k : Int) < (m : Int) := by have := HNK.out.2.2.1; omega
        clear hb5 hyo ht1 HD HDA HAL C7
        go_upto_region 7 with (fail)
        go_quiet (fail)
        have HS6 := hide (HS.out.now ((Gr.refl w5).drewN nq).below)
        have HYO6 := hide (own_keep HYO.out ((Gr.refl w5).drewN nq).below (Nat.le_refl _))
        obtain ⟨w6, hw6⟩ : ∃ w6, w5.drewN nq = w6 := ⟨_, rfl⟩
        rw [hw6] at HS6 HYO6 ⊢
        have hbp6 : Box1 w6 p (.slice A' q' c') := by
          have h2 := HII.out.bx.below HB2.out
          have h4 : Box1 w3 p (.slice A' q' c') := h2.same (HM3.out.same p h2.lt HII.out.np.2.2.1)
          exact h4.below HS6.out.bl
        obtain ⟨u0, u1⟩ := hbp6.facts
        obtain ⟨u2, u3⟩ := HS6.out.bx.facts
        have HO7 : Hid (OwnB wo.heap.size (w6.setCell ⟨p, 0, none⟩ (.slice A4 q4 c4)) ao nk co) := by
          refine ownB_of (l := lk) (own_same HYO6.out fun j hj => Below.heap_setCell _ _ _ _ fun e => ?_) (by have := HYO6.out.1; unfold cellsB at this; rw [List.length_map] at this; omega)
          have := (own_lt HYO6.out j hj).1
          have := HII.out.bx.lt
          have e : j = p := e
          omega
        have hnk3 : (nk : Int) ≤ 1000000 := by have := HNK.out.1; omega
        have HNX : Hid (∀ wz, Mods (fun j => (Value.slice ao nk co).ownBlock = some j) (w6.setCell ⟨p, 0, none⟩ (.slice A4 q4 c4)) wz → AddI C F w wz p b (logN ls ms (k + 1))) := fun wz hz => by
          rw [HADD.out.2]
          exact add_next HEN.out.2.2.2.2.1 HII.out HB2.out HOW.out HM3.out HH3.out.1 HH3.out.2.1 HH3.out.2.2.1 HH3.out.2.2.2 HS6.out hz
        clear hw6 hbp6 r1 q1 q2 zt zx zE HYO HS HS6 HYO6 HY3 HH3 HM3 HB2 HOW HADD HII HMR HBY HKB KK
        go_wp2_with fail
        go_loopw [15] (fun vi wz => ∃ j : Nat, j ≤ nk ∧ vi = .int .i64 j ∧ Hid (Mods (fun j => (Value.slice ao nk co).ownBlock = some j) (w6.setCell ⟨p, 0, none⟩ (.slice A4 q4 c4)) wz ∧ OwnB wo.heap.size wz ao nk co)) (fun vi _ => nk - (intOf vi).toNat)
        case atStart => exact ⟨0, Nat.zero_le _, rfl, Mods.refl _ _, HO7.out⟩
        case round =>
          obtain ⟨j, hj, rfl, HK⟩ := hrel
          by_cases hjl : j < nk
          · have hjl' : (j : Int) < (nk : Int) := by omega
            obtain ⟨g, y, rfl, hg, cg, fg, hset⟩ := HK.out.2.at_ hjl
            have HSET := hide hset
            have HJL := hide hjl
            have HMD := hide HK.out.1
            clear hset hg hjl hj
            go_wp2_with fail
            go_roundw
            case measure => have := HJL.out; simp [intOf]; omega
            exact ⟨j + 1, by have := HJL.out; omega, by go_num, HMD.out.trans (Mods.set (F := fun j => (Value.slice (some ⟨g, 0, none⟩) nk co).ownBlock = some j) wr rfl j _), HSET.out _⟩
          · obtain rfl : j = nk := by omega
            have HNX2 := hide (HNX.out _ HK.out.1)
            have hk32 : (m : Int) ≤ 4000 := by have := HEN.out.2.2.2.1; omega
            have HKM := hide HNK.out.2.2
            clear hjl hj HNX HO7
            go_wp2_with fail
            go_roundw
            case measure => have := HKM.out.1; simp [intOf]; omega
            exact ⟨k + 1, by have := HKM.out.1; omega, by go_num, HNX2.out⟩
    · obtain rfl : k = m := by omega
      obtain ⟨C', F', A', q', c', Ae', ce', Ap', cp', hI⟩ := HI.out
      obtain ⟨u0, u1⟩ := hI.bx.facts
      obtain ⟨u2, u3⟩ := hI.by_.facts
      have hfin : AddedP C F b (logN ls ms k) w (.returned (.tuple #[.agg #[.slice A' q' c'], .bool true])) (wr.setCell ⟨p + 1, 0, none⟩ (.slice A' q' c')) := by
        have hpw : w.heap.size = p := HEN.out.2.2.2.2.1
        have hms : Mods (fun j => j = p + 1) wr (wr.setCell ⟨p + 1, 0, none⟩ (.slice A' q' c')) := Mods.set (F := fun j => j = p + 1) wr rfl 0 _
        refine ⟨A', q', c', C', F', Ae', ce', Ap', cp', rfl, ⟨hms.os.trans hI.md.os, hms.tape.trans hI.md.tape, hms.output.trans hI.md.output, Nat.le_trans hI.md.size hms.size, fun j hj hF => ?_⟩, hI.lg.mods hms (fun j hj e => hI.np.2.2.2 (by rw [← e]; exact hj)) (fun j hj e => hI.np.2.1 (by rw [← e]; exact hj)), hI.li.mods hms (fun j hj e => hI.np.2.1 (by rw [← e]; exact hj)), hI.ad, hI.c1, by rw [hpw]; exact hI.c2, by rw [hpw]; exact hI.f2⟩
        exact (hms.same j (Nat.lt_of_lt_of_le hj hI.md.size) (by omega)).trans (hI.md.same j hj hF)
      have HFIN := hide hfin
      clear hfin hI hlt hk HI
      go_wp2_with fail
      refine bodyPost_ret (v := .tuple #[.agg #[.slice A' q' c'], .bool true]) (by simp [results, Tryd.results41, go_sem, u2]) rfl ?_
      exact HFIN.out
end Go.Proofs.YtbinmkigolkhcaaDoor
