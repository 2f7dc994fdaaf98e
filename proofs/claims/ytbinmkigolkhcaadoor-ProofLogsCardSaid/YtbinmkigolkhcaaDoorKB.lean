/- collision. -/
import Derived.Test.YtbinmkigolkhcaaDoorKA
import Derived.Test.YtbinmkigolkhcaaDoorIA
import Derived.Deep.RegionHeld3
import Derived.Deep.DeepCutAuto
set_option linter.unusedSimpArgs false
set_option linter.unusedVariables false
namespace Go.Proofs.YtbinmkigolkhcaaDoor
open Go.RowKit Go.Sort
attribute [local go_sem] Oper.semAt_some

/-- a block that holds two byte strings' slices -/
def BoxB (W : World) (g : Nat) (x y : Value) : Prop := W.heap[g]? = some (.cells #[x, y] 52 (0, 0))
theorem BoxB.lt {W : World} {g : Nat} {x y : Value} (h : BoxB W g x y) : g < W.heap.size := (Array.getElem?_eq_some_iff.1 h).1
theorem BoxB.below {W W' : World} {g : Nat} {x y : Value} (h : BoxB W g x y) (hb : Below W.heap.size W W') : BoxB W' g x y := (hb.block g h.lt).trans h
theorem BoxB.facts {W : World} {g : Nat} {x y : Value} (h : BoxB W g x y) : W.cell? ⟨g, 0, none⟩ = some x ∧ W.cell? ⟨g, 1, none⟩ = some y ∧ W.frozen? ⟨g, 0, none⟩ = false ∧ W.frozen? ⟨g, 1, none⟩ = false := by
  unfold BoxB at h
  refine ⟨?_, ?_, ?_, ?_⟩
  · unfold World.cell?; simp [h]
  · unfold World.cell?; simp [h]
  · unfold World.frozen?; simp [h]
  · unfold World.frozen?; simp [h]
theorem BoxB.set {W : World} {g : Nat} {x y : Value} (h : BoxB W g x y) (u v : Value) : BoxB ((W.setCell ⟨g, 0, none⟩ u).setCell ⟨g, 1, none⟩ v) g u v := by
  have h1 : BoxB (W.setCell ⟨g, 0, none⟩ u) g u y := by
    have := heap_setCell_same W g 0 _ _ u h
    simpa [BoxB] using this
  have := heap_setCell_same _ g 1 _ _ v h1
  simpa [BoxB] using this
theorem BoxB.far {W : World} {g g2 : Nat} {x y : Value} (h : BoxB W g x y) (hne : g ≠ g2) (u v : Value) : BoxB ((W.setCell ⟨g2, 0, none⟩ u).setCell ⟨g2, 1, none⟩ v) g x y :=
  set_far (set_far h hne) hne
theorem cell_set2 {W : World} {g b k : Nat} {u v : Value} (h : b ≠ g) : ((W.setCell ⟨g, 0, none⟩ u).setCell ⟨g, 1, none⟩ v).cell? ⟨b, k, none⟩ = W.cell? ⟨b, k, none⟩ :=
  World.cell?_of_block (a := ⟨b, k, none⟩) ((Below.heap_setCell _ _ _ _ h).trans (Below.heap_setCell _ _ _ _ h))
theorem box_no_byte {W : World} {g k : Nat} {A1 A2 : Option Addr} {n1 c1 n2 c2 : Nat} {v : Int} (h : BoxB W g (.slice A1 n1 c1) (.slice A2 n2 c2)) (hc : W.cell? ⟨g, k, none⟩ = some (.int .u8 v)) : False := by
  unfold BoxB at h
  unfold World.cell? at hc
  simp only [h] at hc
  rcases k with _ | _ | k
  · simp at hc
  · simp at hc
  · simp at hc
theorem BytesAt.set2 {W : World} {A : Option Addr} {n g : Nat} {l : List UInt8} {A1 A2 : Option Addr} {n1 c1 n2 c2 : Nat} (h : BytesAt W.heap.size W A n l) (hb : BoxB W g (.slice A1 n1 c1) (.slice A2 n2 c2)) (u v : Value) : BytesAt ((W.setCell ⟨g, 0, none⟩ u).setCell ⟨g, 1, none⟩ v).heap.size ((W.setCell ⟨g, 0, none⟩ u).setCell ⟨g, 1, none⟩ v) A n l := by
  refine ⟨h.1, ?_⟩
  rcases h.2 with h0 | ⟨b, off, e, hlt, hc⟩
  · exact .inl h0
  · refine .inr ⟨b, off, e, by simpa [World.setCell] using hlt, fun i hi => ?_⟩
    have hne : b ≠ g := fun e => by
      subst e
      exact box_no_byte hb (hc i hi)
    have h1 : ((W.setCell ⟨g, 0, none⟩ u).setCell ⟨g, 1, none⟩ v).heap[b]? = W.heap[b]? := (Below.heap_setCell _ _ _ _ hne).trans (Below.heap_setCell _ _ _ _ hne)
    exact (World.cell?_of_block (a := ⟨b, off + i, none⟩) h1).trans (hc i hi)
/-- where the two ways stand at a level -/
structure CollI (p q : Nat) (w wr : World) (l1 : List UInt8) (s1 : List St) (l2 : List UInt8) (s2 : List St) (i : Nat) (a1 : Option Addr) (n1 c1 : Nat) (a2 : Option Addr) (n2 c2 : Nat) : Prop where
  bl : Below p w wr
  zp : BoxB wr p (.slice none 0 0) (.slice none 0 0)
  bq : BoxB wr q (.slice a1 n1 c1) (.slice a2 n2 c2)
  pq : p < q
  x1 : BytesAt wr.heap.size wr a1 n1 (levF l1 s1 i)
  x2 : BytesAt wr.heap.size wr a2 n2 (levF l2 s2 i)
  no : ∀ j, j < i → mixV (levF l1 s1 j) ≠ mixV (levF l2 s2 j)
  b1 : n1 ≤ 100000
  b2 : n2 ≤ 100000
theorem CollI.later {p q : Nat} {w wr w' : World} {l1 : List UInt8} {s1 : List St} {l2 : List UInt8} {s2 : List St} {i : Nat} {a1 : Option Addr} {n1 c1 : Nat} {a2 : Option Addr} {n2 c2 : Nat} (h : CollI p q w wr l1 s1 l2 s2 i a1 n1 c1 a2 n2 c2) (hb : Below wr.heap.size wr w') : CollI p q w w' l1 s1 l2 s2 i a1 n1 c1 a2 n2 c2 :=
  ⟨h.bl.trans (hb.mono (Nat.le_of_lt h.zp.lt)), h.zp.below hb, h.bq.below hb, h.pq, h.x1.now hb (Nat.le_refl _), h.x2.now hb (Nat.le_refl _), h.no, h.b1, h.b2⟩
/-- the level at which the ways are told: the first at which the hashes are the same, or the last -/
def CollPost (l1 : List UInt8) (s1 : List St) (l2 : List UInt8) (s2 : List St) (m : Nat) (w : World) (e : Ending) (w' : World) : Prop :=
  ∃ k a1 n1 c1 a2 n2 c2, e = .returned (.agg #[.slice a1 n1 c1, .slice a2 n2 c2]) ∧ BytesAt w'.heap.size w' a1 n1 (levF l1 s1 k) ∧ BytesAt w'.heap.size w' a2 n2 (levF l2 s2 k) ∧ n1 ≤ 100000 ∧ n2 ≤ 100000 ∧
    k ≤ m ∧ (∀ j, j < k → mixV (levF l1 s1 j) ≠ mixV (levF l2 s2 j)) ∧ (k < m → mixV (levF l1 s1 k) = mixV (levF l2 s2 k)) ∧ Below w.heap.size w w'

set_option maxHeartbeats 4000000 in
set_option maxRecDepth 100000 in
theorem collision_any (A : Option Addr) (n c : Nat) (l1 : List UInt8) (S : Option Addr) (m d : Nat) (s1 : List St) (B : Option Addr) (n' c' : Nat) (l2 : List UInt8) (T : Option Addr) (d' : Nat) (s2 : List St) (w : World)
    (hx : BytesAt w.heap.size w A n l1) (hn : n ≤ 50000) (hs : StepsAt w.heap.size w S m s1) (hy : BytesAt w.heap.size w B n' l2) (hn' : n' ≤ 50000) (ht : StepsAt w.heap.size w T m s2) (hm : m ≤ 1000000) :
    Calls Tryd.prog 75 #[.slice A n c, .slice S m d, .slice B n' c', .slice T m d'] w (CollPost l1 s1 l2 s2 m w) := by
  have mixed := mixedOrders
  have hal : Below w.heap.size w (w.alloc (.cells #[.slice none 0 0, .slice none 0 0] 52)) := (Below.refl _ w).alloc (Nat.le_refl _) _
  have hz0 : BoxB (w.alloc (.cells #[.slice none 0 0, .slice none 0 0] 52)) w.heap.size (.slice none 0 0) (.slice none 0 0) := heap_alloc_new w _
  obtain ⟨W1, hW1⟩ : ∃ W1, w.alloc (.cells #[.slice none 0 0, .slice none 0 0] 52) = W1 := ⟨_, rfl⟩
  have L1 := hide (leafBytes_any A n c l1 W1 (by rw [← hW1]; exact hx.now hal (Nat.le_refl _)) (by omega))
  have L2 : Hid (∀ w2, Below W1.heap.size W1 w2 → Calls Tryd.prog 98 #[.slice B n' c'] w2 (RowP (n' + 1) (leafB l2) w2)) := fun w2 hb => leafBytes_any B n' c' l2 w2 ((hy.now (by rw [← hW1] at hb; exact hal.trans (hb.mono (by simp))) (Nat.le_refl _))) (by omega)
  rw [hW1] at hal hz0
  have HS := hide hs
  have HT := hide ht
  have HM := hide (show m ≤ 1000000 ∧ n ≤ 50000 ∧ n' ≤ 50000 ∧ s1.length = m ∧ s2.length = m from ⟨hm, hn, hn', hs.1, ht.1⟩)
  obtain ⟨p, hp⟩ : ∃ p, w.heap.size = p := ⟨_, rfl⟩
  rw [hp] at hal hz0 HS HT
  have HW := hide (And.intro hW1 hp)
  have HAL := hide hal
  have HZ0 := hide hz0
  clear hx hn hs hy hn' ht hm hW1 hp hal hz0
  go_enter Tryd.func75, Tryd.ntmps75
  go_wp2_with fail
  rw [HW.out.1, HW.out.2]
  refine L1.out.mono ?_
  rintro e w2 ⟨a1, c1, rfl, ho1, hb1⟩
  have HX1 := hide (bytes_of_own ho1)
  have HB1 := hide hb1
  have C2 := hide (L2.out w2 hb1)
  clear ho1 hb1 L1 L2
  go_wp2_with fail
  refine C2.out.mono ?_
  rintro e w3 ⟨a2, c2, rfl, ho2, hb2⟩
  have HI0 : Hid (CollI p w3.heap.size w (w3.alloc (.cells #[.slice a1 (n + 1) c1, .slice a2 (n' + 1) c2] 52)) l1 s1 l2 s2 0 a1 (n + 1) c1 a2 (n' + 1) c2) := by
    have hb13 := HB1.out.trans (hb2.mono HB1.out.size)
    have hb3 : Below w3.heap.size w3 (w3.alloc (.cells #[.slice a1 (n + 1) c1, .slice a2 (n' + 1) c2] 52)) := (Below.refl _ w3).alloc (Nat.le_refl _) _
    have hz3 := HZ0.out.below hb13
    refine ⟨(HAL.out.trans (hb13.mono (Nat.le_of_lt HZ0.out.lt))).trans (hb3.mono (Nat.le_of_lt hz3.lt)), hz3.below hb3, heap_alloc_new w3 _, hz3.lt, ?_, ?_, fun j hj => absurd hj (Nat.not_lt_zero _), by have := HM.out.2.1; omega, by have := HM.out.2.2.1; omega⟩
    · exact (HX1.out.now hb2 (Nat.le_refl _)).now hb3 (Nat.le_refl _)
    · exact (bytes_of_own ho2).now hb3 (Nat.le_refl _)
  clear ho2 hb2 C2 HX1 HB1 HAL HZ0
  obtain ⟨q, hq⟩ : ∃ q, w3.heap.size = q := ⟨_, rfl⟩
  rw [hq] at HI0
  go_upto_region 2 with (fail)
  (try rw [hq])
  obtain ⟨W4, hW4⟩ : ∃ W4, w3.alloc (.cells #[.slice a1 (n + 1) c1, .slice a2 (n' + 1) c2] 52) = W4 := ⟨_, rfl⟩
  rw [hW4] at HI0 ⊢
  clear hW4 hq
  go_wp2_with fail
  go_loopw [21] (fun vi wr => ∃ i : Nat, i ≤ m ∧ vi = .int .i64 i ∧ Hid (∃ a1 n1 c1 a2 n2 c2, CollI p q w wr l1 s1 l2 s2 i a1 n1 c1 a2 n2 c2)) (fun vi _ => m - (intOf vi).toNat)
  case atStart => exact ⟨0, Nat.zero_le _, rfl, _, _, _, _, _, _, HI0.out⟩
  case round =>
    obtain ⟨i, hi, rfl, HI⟩ := hrel
    obtain ⟨a1, n1, c1, a2, n2, c2, hI⟩ := HI.out
    have HI := hide hI
    clear hI HI0
    by_cases hlt : i < m
    · have hlt' : (i : Int) < (m : Int) := by omega
      have hsS := (HS.out.below HI.out.bl).at_ hlt
      obtain ⟨b, off, rfl, hb, e0, e1, eh⟩ := hsS
      have hsT := (HT.out.below HI.out.bl).at_ hlt
      obtain ⟨b2, off2, rfl, hb2, d0, d1, dh⟩ := hsT
      have hv1 : levF l1 s1 (i + 1) = stepB (followV l1 (s1.take i)) (stH s1 i, stL s1 i) := rfl
      have hv2 : levF l2 s2 (i + 1) = stepB (followV l2 (s2.take i)) (stH s2 i, stL s2 i) := rfl
      have hm1 := mix_lev l1 s1 i (by have := HM.out; omega)
      have hm2 := mix_lev l2 s2 i (by have := HM.out; omega)
      have hf1 := follow_lt l1 (s1.take i)
      have hf2 := follow_lt l2 (s2.take i)
      obtain ⟨f1, hff1⟩ : ∃ f, followV l1 (s1.take i) = f := ⟨_, rfl⟩
      obtain ⟨f2, hff2⟩ : ∃ f, followV l2 (s2.take i) = f := ⟨_, rfl⟩
      rw [hff1] at hm1 hf1 hv1
      rw [hff2] at hm2 hf2 hv2
      obtain ⟨x1, hx1⟩ : ∃ x, stH s1 i = x := ⟨_, rfl⟩
      obtain ⟨y1, hy1⟩ : ∃ x, stL s1 i = x := ⟨_, rfl⟩
      obtain ⟨x2, hx2⟩ : ∃ x, stH s2 i = x := ⟨_, rfl⟩
      obtain ⟨y2, hy2⟩ : ∃ x, stL s2 i = x := ⟨_, rfl⟩
      rw [hx1] at e0 eh hv1
      rw [hy1] at e1 hv1
      rw [hx2] at d0 dh hv2
      rw [hy2] at d1 hv2
      have HV := hide (And.intro hv1 hv2)
      have HMX := hide (And.intro hm1 hm2)
      have HBD := hide (show f1 < 18446744073709551616 ∧ f2 < 18446744073709551616 ∧ x1 < 18446744073709551616 ∧ x2 < 18446744073709551616 from ⟨hf1, hf2, eh, dh⟩)
      have HD0 := hide d0
      have HD1 := hide d1
      have HBB := hide hb2
      have HQI := hide (And.intro hlt hi)
      have HTG0 := hide HI.out.bq.lt
      clear hv1 hv2 hm1 hm2 hf1 hf2 hff1 hff2 hx1 hy1 hx2 hy2 eh dh d0 d1 hlt hi hb2
      go_upto_region 5 with (fail)
      have hb3 : Below wr.heap.size wr (wr.alloc (.cells #[.int .u64 (x1 : Nat), .bool y1] 41)) := (Below.refl _ wr).alloc (Nat.le_refl _) _
      have HI3 := hide (HI.out.later hb3)
      have g0 : (wr.alloc (.cells #[.int .u64 (x1 : Nat), .bool y1] 41)).cell? ⟨wr.heap.size, 0, none⟩ = some (.int .u64 (x1 : Nat)) := by simp
      have g1 : (wr.alloc (.cells #[.int .u64 (x1 : Nat), .bool y1] 41)).cell? ⟨wr.heap.size, 1, none⟩ = some (.bool y1) := by simp
      have k0 := (hb3.cell (p := ⟨b2, off2 + i * 2, none⟩) (Nat.lt_of_lt_of_le HBB.out (by have := HI.out.bl.size; have := HI.out.zp.lt; omega))).trans HD0.out
      have k1 := (hb3.cell (p := ⟨b2, off2 + i * 2 + 1, none⟩) (Nat.lt_of_lt_of_le HBB.out (by have := HI.out.bl.size; have := HI.out.zp.lt; omega))).trans HD1.out
      have kt : wr.heap.size < (wr.alloc (.cells #[.int .u64 (x1 : Nat), .bool y1] 41)).heap.size := by simp
      have kb : b2 < wr.heap.size := Nat.lt_of_lt_of_le HBB.out (by have := HI.out.zp.lt; omega)
      obtain ⟨W5, hW5⟩ : ∃ W5, wr.alloc (.cells #[.int .u64 (x1 : Nat), .bool y1] 41) = W5 := ⟨_, rfl⟩
      rw [hW5] at HI3 g0 g1 k0 k1 kt ⊢
      obtain ⟨t, htt⟩ : ∃ t, wr.heap.size = t := ⟨_, rfl⟩
      (try rw [htt] at g0 g1 kt kb ⊢)
      have HTG : Hid (q < t) := by have := HTG0.out; rw [htt] at this; exact this
      have G0 := hide g0
      have G1 := hide g1
      have K0 := hide k0
      have K1 := hide k1
      have KT := hide kt
      have KB2 := hide kb
      have r0 : ∀ nq, (W5.drewN nq).cell? ⟨q, 0, none⟩ = some (.slice a1 n1 c1) := fun _ => HI3.out.bq.facts.1
      have r1 : ∀ nq, (W5.drewN nq).cell? ⟨q, 1, none⟩ = some (.slice a2 n2 c2) := fun _ => HI3.out.bq.facts.2.1
      have M1 : Hid (∀ nq, Calls Tryd.prog 20 #[.slice a1 n1 c1] (W5.drewN nq) fun e w' => e = .returned (.int .u64 (f1 : Nat)) ∧ w' = W5.drewN nq) := by
        intro nq
        have := Mix_any a1 n1 c1 (levF l1 s1 i) (W5.drewN nq) (HI3.out.x1.now ((Gr.refl W5).drewN nq).below (Nat.le_refl _)) (by have := HI3.out.b1; omega)
        rw [HMX.out.1] at this
        exact this.mono fun e w' h => ⟨h.1, h.2.symm⟩
      have M2 : Hid (∀ nq, Calls Tryd.prog 20 #[.slice a2 n2 c2] (W5.drewN nq) fun e w' => e = .returned (.int .u64 (f2 : Nat)) ∧ w' = W5.drewN nq) := by
        intro nq
        have := Mix_any a2 n2 c2 (levF l2 s2 i) (W5.drewN nq) (HI3.out.x2.now ((Gr.refl W5).drewN nq).below (Nat.le_refl _)) (by have := HI3.out.b2; omega)
        rw [HMX.out.2] at this
        exact this.mono fun e w' h => ⟨h.1, h.2.symm⟩
      clear hW5 htt g0 g1 k0 k1 kt kb hb3 HI
      go_quiet ((first | (go_at_call 20; exact Calls.quiet_of_same (M1.out _)) | (go_at_call 20; exact Calls.quiet_of_same (M2.out _))))
      have HI6 := hide (HI3.out.later ((Gr.refl W5).drewN nq).below)
      have G6 := hide (show (W5.drewN nq).cell? ⟨t, 0, none⟩ = some (.int .u64 (x1 : Nat)) ∧ (W5.drewN nq).cell? ⟨t, 1, none⟩ = some (.bool y1) ∧ (W5.drewN nq).cell? ⟨b2, off2 + i * 2, none⟩ = some (.int .u64 (x2 : Nat)) ∧ (W5.drewN nq).cell? ⟨b2, off2 + i * 2 + 1, none⟩ = some (.bool y2) ∧ t < (W5.drewN nq).heap.size ∧ b2 < t from ⟨G0.out, G1.out, K0.out, K1.out, KT.out, KB2.out⟩)
      obtain ⟨W6, hW6⟩ : ∃ W6, W5.drewN nq = W6 := ⟨_, rfl⟩
      rw [hW6] at HI6 G6 ⊢
      clear hW6 G0 G1 K0 K1 KT KB2 HI3 r0 r1 M1 M2
      by_cases hff : f1 = f2
      · have zz : ((f1 : Int) == (f2 : Int)) = true := beq_iff_eq.2 (by omega)
        have HEQ := hide hff
        clear hff
        obtain ⟨u0, u1, uf0, uf1⟩ := HI6.out.zp.facts
        obtain ⟨v0, v1, vf0, vf1⟩ := HI6.out.bq.facts
        have hpq := HI6.out.pq
        have hpq2 : p ≠ q := by omega
        clear hpq
        go_wp2_with fail
        refine bodyPost_ret (v := .agg #[.slice a1 n1 c1, .slice a2 n2 c2]) (by simp [results, Tryd.results75, go_sem, u0, u1, v0, v1]) rfl ?_
        refine ⟨i, a1, n1, c1, a2, n2, c2, rfl, HI6.out.x1.set2 HI6.out.zp _ _, HI6.out.x2.set2 HI6.out.zp _ _, HI6.out.b1, HI6.out.b2, HQI.out.2, HI6.out.no, fun _ => by rw [HMX.out.1, HMX.out.2, HEQ.out], ?_⟩
        rw [HW.out.2]
        exact (HI6.out.bl.setCell (p := ⟨p, 0, none⟩) (Nat.le_refl _) _).setCell (p := ⟨p, 1, none⟩) (Nat.le_refl _) _
      · have zz : ((f1 : Int) == (f2 : Int)) = false := beq_eq_false_iff_ne.2 (by omega)
        have HNE := hide hff
        clear hff
        have SB1 : Hid (∀ w2, Calls Tryd.prog 71 #[.int .u64 (f1 : Nat), .agg #[.int .u64 (x1 : Nat), .bool y1]] w2 fun e w' => ∃ a c, e = .returned (.slice a 17 c) ∧ BytesAt w'.heap.size w' a 17 (stepB f1 (x1, y1)) ∧ Below w2.heap.size w2 w') := fun w2 => stepBytes_any f1 (x1, y1) HBD.out.1 HBD.out.2.2.1 w2
        have SB2 : Hid (∀ w2, Calls Tryd.prog 71 #[.int .u64 (f2 : Nat), .agg #[.int .u64 (x2 : Nat), .bool y2]] w2 fun e w' => ∃ a c, e = .returned (.slice a 17 c) ∧ BytesAt w'.heap.size w' a 17 (stepB f2 (x2, y2)) ∧ Below w2.heap.size w2 w') := fun w2 => stepBytes_any f2 (x2, y2) HBD.out.2.1 HBD.out.2.2.2 w2
        have KK : Hid (∀ w', Below W6.heap.size W6 w' → w'.cell? ⟨t, 0, none⟩ = some (.int .u64 (x1 : Nat)) ∧ w'.cell? ⟨t, 1, none⟩ = some (.bool y1) ∧ w'.cell? ⟨b2, off2 + i * 2, none⟩ = some (.int .u64 (x2 : Nat)) ∧ w'.cell? ⟨b2, off2 + i * 2 + 1, none⟩ = some (.bool y2)) := by
          intro w' hb
          obtain ⟨e1, e2, e3, e4, e5, e6⟩ := G6.out
          exact ⟨(hb.cell (p := ⟨t, 0, none⟩) e5).trans e1, (hb.cell (p := ⟨t, 1, none⟩) e5).trans e2, (hb.cell (p := ⟨b2, _, none⟩) (by show b2 < _; omega)).trans e3, (hb.cell (p := ⟨b2, _, none⟩) (by show b2 < _; omega)).trans e4⟩
        have HD := hide ((Gr.refl W6).drew).below
        have HTQ : Hid (t ≠ q ∧ b2 ≠ q) := by
          have h1 := HI6.out.pq
          have h2 := HTG.out
          have h3 := G6.out.2.2.2.2.2
          have h4 := HBB.out
          show _ ∧ _
          constructor <;> omega
        have hi32 : (i : Int) ≤ 1000000 := by have := HQI.out.1; have := HM.out.1; omega
        go_wp2_with fail
        go_region_held3 (fun w' => w'.cell? ⟨t, 0, none⟩ = some (.int .u64 (x1 : Nat)) ∧ w'.cell? ⟨t, 1, none⟩ = some (.bool y1) ∧ w'.cell? ⟨b2, off2 + i * 2, none⟩ = some (.int .u64 (x2 : Nat)) ∧ w'.cell? ⟨b2, off2 + i * 2 + 1, none⟩ = some (.bool y2))
          (first | exact KK.out _ HD.out | exact KK.out _ HB7.out | exact KK.out _ HB8.out | exact KK.out _ (Below.refl _ _) | exact ⟨(cell_set2 HTQ.out.1).trans (KK.out _ HB8.out).1, (cell_set2 HTQ.out.1).trans (KK.out _ HB8.out).2.1, (cell_set2 HTQ.out.2).trans (KK.out _ HB8.out).2.2.1, (cell_set2 HTQ.out.2).trans (KK.out _ HB8.out).2.2.2⟩)
          (first | (go_at_call 71; (with_reducible refine (SB1.out _).mono ?_); rintro e w7 ⟨a3, c3, rfl, hx3, hb3⟩; have HX3 := hide hx3; have HB7 := hide (HD.out.trans (hb3.mono HD.out.size)); clear hx3 hb3) | (go_at_call 71; (with_reducible refine (SB2.out _).mono ?_); rintro e w8 ⟨a4, c4, rfl, hx4, hb4⟩; have HX4 := hide hx4; have HB78 := hide hb4; have HB8 := hide (HB7.out.trans (hb4.mono HB7.out.size)); obtain ⟨v0, v1, vf0, vf1⟩ := (HI6.out.bq.below HB8.out).facts; clear hx4 hb4))
        have HI9 : Hid (∃ a1 n1 c1 a2 n2 c2, CollI p q w ((w8.setCell ⟨q, 0, none⟩ (.slice a3 17 c3)).setCell ⟨q, 1, none⟩ (.slice a4 17 c4)) l1 s1 l2 s2 (i + 1) a1 n1 c1 a2 n2 c2) := by
          have h8 := HI6.out.later HB8.out
          have hpq := h8.pq
          refine ⟨a3, 17, c3, a4, 17, c4, ?_, h8.zp.far (by omega) _ _, h8.bq.set _ _, hpq, ?_, ?_, fun j hj => ?_, by decide, by decide⟩
          · exact (h8.bl.setCell (p := ⟨q, 0, none⟩) (Nat.le_of_lt hpq) _).setCell (p := ⟨q, 1, none⟩) (Nat.le_of_lt hpq) _
          · rw [HV.out.1]
            exact (HX3.out.now HB78.out (Nat.le_refl _)).set2 h8.bq _ _
          · rw [HV.out.2]
            exact HX4.out.set2 h8.bq _ _
          · rcases Nat.lt_or_ge j i with h | h
            · exact h8.no j h
            · obtain rfl : j = i := by omega
              rw [HMX.out.1, HMX.out.2]
              exact HNE.out
        obtain ⟨W9, hW9⟩ : ∃ W9, (w8.setCell ⟨q, 0, none⟩ (.slice a3 17 c3)).setCell ⟨q, 1, none⟩ (.slice a4 17 c4) = W9 := ⟨_, rfl⟩
        rw [hW9] at HI9 ⊢
        clear hW9 v0 v1 vf0 vf1 HX3 HX4 HB78 HB8 HB7 HD KK SB1 SB2 HI6 G6
        go_wp2_with fail
        go_roundw
        case measure => have := HQI.out.1; simp [intOf]; omega
        exact ⟨i + 1, by have := HQI.out.1; omega, by go_num, HI9⟩
    · obtain rfl : i = m := by omega
      obtain ⟨u0, u1, uf0, uf1⟩ := HI.out.zp.facts
      obtain ⟨v0, v1, vf0, vf1⟩ := HI.out.bq.facts
      have hpq := HI.out.pq
      have hpq2 : p ≠ q := by omega
      clear hpq hlt hi
      go_wp2_with fail
      refine bodyPost_ret (v := .agg #[.slice a1 n1 c1, .slice a2 n2 c2]) (by simp [results, Tryd.results75, go_sem, u0, u1, v0, v1]) rfl ?_
      refine ⟨i, a1, n1, c1, a2, n2, c2, rfl, HI.out.x1.set2 HI.out.zp _ _, HI.out.x2.set2 HI.out.zp _ _, HI.out.b1, HI.out.b2, Nat.le_refl _, HI.out.no, fun h => absurd h (Nat.lt_irrefl _), ?_⟩
      rw [HW.out.2]
      exact (HI.out.bl.setCell (p := ⟨p, 0, none⟩) (Nat.le_refl _) _).setCell (p := ⟨p, 1, none⟩) (Nat.le_refl _) _
end Go.Proofs.YtbinmkigolkhcaaDoor
