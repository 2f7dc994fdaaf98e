/- blamed: Accuse names two byte strings that collide, whenever it names any. -/
import Derived.Test.YtbinmkigolkhcaaDoorKH0
set_option linter.unusedSimpArgs false
set_option linter.unusedVariables false
namespace Go.Proofs.YtbinmkigolkhcaaDoor
open Go.RowKit Go.Sort
attribute [local go_sem] Oper.semAt_some

set_option maxHeartbeats 4000000 in
set_option maxRecDepth 100000 in
theorem blamed_any (i n : Int) (A : Option Addr) (n1 c1 : Nat) (l1 : List UInt8) (S : Option Addr) (m1 d1 : Nat) (s1 : List St) (B : Option Addr) (n2 c2 : Nat) (l2 : List UInt8) (T : Option Addr) (m2 d2 : Nat) (s2 : List St) (w : World)
    (hx : BytesAt w.heap.size w A n1 l1) (hs : StepsAt w.heap.size w S m1 s1) (hm1 : m1 ≤ 1000000) (hy : BytesAt w.heap.size w B n2 l2) (ht : StepsAt w.heap.size w T m2 s2) (hm2 : m2 ≤ 1000000) :
    Calls Tryd.prog 51 #[.int .i64 i, .int .i64 n, .slice A n1 c1, .slice S m1 d1, .slice B n2 c2, .slice T m2 d2] w fun e w' => e = .returned (.bool (decide (accE i n l1 s1 l2 s2 = 0))) ∧ Below w.heap.size w w' := by
  have mixed := mixedOrders
  have C1 := hide (Accuse_any i n A n1 c1 l1 S m1 d1 s1 B n2 c2 l2 T m2 d2 s2 w hx hs hm1 hy ht hm2)
  have hz := @accE_zero i n l1 l2 s1 s2
  obtain ⟨E, hE⟩ : ∃ E, accE i n l1 s1 l2 s2 = E := ⟨_, rfl⟩
  rw [hE] at C1 hz
  rw [hE]
  have HZ := hide hz
  clear hx hs hm1 hy ht hm2 hE hz
  go_enter Tryd.func51, Tryd.ntmps51
  go_wp2_with fail
  refine C1.out.mono ?_
  rintro e w4 ⟨a1, k1, e1, a2, k2, e2, x1, x2, rfl, hx1, hx2, hac, hb4⟩
  have hb5 : Below w4.heap.size w4 (w4.alloc (.cells #[.slice a1 k1 e1, .slice a2 k2 e2] 52)) := (Below.refl _ w4).alloc (Nat.le_refl _) _
  have hz5 : BoxB (w4.alloc (.cells #[.slice a1 k1 e1, .slice a2 k2 e2] 52)) w4.heap.size (.slice a1 k1 e1) (.slice a2 k2 e2) := heap_alloc_new w4 _
  go_upto_region 2 with (fail)
  obtain ⟨W5, hW5⟩ : ∃ W5, w4.alloc (.cells #[.slice a1 k1 e1, .slice a2 k2 e2] 52) = W5 := ⟨_, rfl⟩
  obtain ⟨g, hg⟩ : ∃ g, w4.heap.size = g := ⟨_, rfl⟩
  rw [hW5] at hb5 hz5 ⊢
  rw [hg] at hz5
  (try rw [hg])
  have HB5 := hide (hb4.trans (hb5.mono hb4.size))
  have HX1 := hide (hx1.now hb5 (Nat.le_refl _))
  have HX2 := hide (hx2.now hb5 (Nat.le_refl _))
  have u0 : ∀ nq, (W5.drewN nq).cell? ⟨g, 0, none⟩ = some (.slice a1 k1 e1) := fun _ => hz5.facts.1
  have u1 : ∀ nq, (W5.drewN nq).cell? ⟨g, 1, none⟩ = some (.slice a2 k2 e2) := fun _ => hz5.facts.2.1
  have HAC := hide hac
  clear hx1 hx2 hb4 hb5 hz5 hW5 hg hac C1
  by_cases hE0 : E = 0
  · subst hE0
    obtain ⟨p0, p1, p2, hne, p3, p4, hf⟩ := HZ.out rfl
    obtain ⟨k, hk, hxe1, hxe2⟩ := HAC.out.2 rfl
    have hls := lead_same p3 p4
    have hkm : k ≤ s1.length := firstK_le hk hls hf
    have hxne : x1 ≠ x2 := by rw [hxe1, hxe2]; exact lev_ne hne (lead_map p3 p4) k hkm (by omega) hk.1
    have hmx : mixV x1 = mixV x2 := by rw [hxe1, hxe2]; exact hk.2
    have hlen1 : x1.length ≤ 257 := by rw [hxe1]; exact levF_length (k := 256) (by omega) (by decide) k
    have hlen2 : x2.length ≤ 257 := by rw [hxe2]; exact levF_length (k := 256) (by omega) (by decide) k
    have hkl1 := HX1.out.1
    have hkl2 := HX2.out.1
    have hsx := strB_beq x1 x2
    unfold strB at hsx
    have cvA : ∀ nq, (convert 23 9 (.slice a1 k1 e1)).run Tryd.prog (W5.drewN nq) = .ok (.string (strOfNums (numsB x1))) (W5.drewN nq) := fun nq => conv_any (HX1.out.now ((Gr.refl W5).drewN nq).below (Nat.le_refl _)) e1
    have cvB : ∀ nq, (convert 23 9 (.slice a2 k2 e2)).run Tryd.prog (W5.drewN nq) = .ok (.string (strOfNums (numsB x2))) (W5.drewN nq) := fun nq => conv_any (HX2.out.now ((Gr.refl W5).drewN nq).below (Nat.le_refl _)) e2
    obtain ⟨t3, ht3⟩ : ∃ s, strOfNums (numsB x1) = s := ⟨_, rfl⟩
    obtain ⟨t4, ht4⟩ : ∃ s, strOfNums (numsB x2) = s := ⟨_, rfl⟩
    simp only [ht3] at cvA
    simp only [ht4] at cvB
    rw [ht3, ht4] at hsx
    have y1 : (t3.toList == t4.toList) = false := by rw [hsx]; exact decide_eq_false hxne
    obtain ⟨h, hh⟩ : ∃ h, mixV x1 = h := ⟨_, rfl⟩
    have hh2 : mixV x2 = h := by rw [← hmx]; exact hh
    have y2 : ((h : Int) == (h : Int)) = true := by simp
    have M1 : Hid (∀ nq, Calls Tryd.prog 20 #[.slice a1 k1 e1] (W5.drewN nq) fun e w' => e = .returned (.int .u64 (h : Nat)) ∧ w' = W5.drewN nq) := fun nq => by
      have := Mix_any a1 k1 e1 x1 (W5.drewN nq) (HX1.out.now ((Gr.refl W5).drewN nq).below (Nat.le_refl _)) (by omega)
      rw [hh] at this
      exact this.mono fun e w' h => ⟨h.1, h.2.symm⟩
    have M2 : Hid (∀ nq, Calls Tryd.prog 20 #[.slice a2 k2 e2] (W5.drewN nq) fun e w' => e = .returned (.int .u64 (h : Nat)) ∧ w' = W5.drewN nq) := fun nq => by
      have := Mix_any a2 k2 e2 x2 (W5.drewN nq) (HX2.out.now ((Gr.refl W5).drewN nq).below (Nat.le_refl _)) (by omega)
      rw [hh2] at this
      exact this.mono fun e w' h => ⟨h.1, h.2.symm⟩
    have R1 : Hid (∀ nq, Calls Tryd.prog 21 #[.slice a1 k1 e1] (W5.drewN nq) fun e w' => e = .returned (.int .u64 (h : Nat)) ∧ w' = W5.drewN nq) := fun nq => by
      have := refMix_any a1 k1 e1 x1 (W5.drewN nq) (HX1.out.now ((Gr.refl W5).drewN nq).below (Nat.le_refl _)) (by omega)
      rw [hh] at this
      exact this.mono fun e w' h => ⟨h.1, h.2.symm⟩
    have R2 : Hid (∀ nq, Calls Tryd.prog 21 #[.slice a2 k2 e2] (W5.drewN nq) fun e w' => e = .returned (.int .u64 (h : Nat)) ∧ w' = W5.drewN nq) := fun nq => by
      have := refMix_any a2 k2 e2 x2 (W5.drewN nq) (HX2.out.now ((Gr.refl W5).drewN nq).below (Nat.le_refl _)) (by omega)
      rw [hh2] at this
      exact this.mono fun e w' h => ⟨h.1, h.2.symm⟩
    clear p0 p1 p2 hne p3 p4 hf hk hxe1 hxe2 hls hkm hxne hmx hlen1 hlen2 hkl1 hkl2 hsx ht3 ht4 hh hh2 HZ HAC
    go_wp2_with fail
    go_quiet ((first | (go_at_call 20; (with_reducible refine Calls.quiet_of_same (M1.out _))) | (go_at_call 20; (with_reducible refine Calls.quiet_of_same (M2.out _))) | (go_at_call 21; (with_reducible refine Calls.quiet_of_same (R1.out _))) | (go_at_call 21; (with_reducible refine Calls.quiet_of_same (R2.out _)))))
    go_wp2_with fail
    go_ret
    exact ⟨rfl, HB5.out.trans (((Gr.refl W5).drewN nq).below.mono HB5.out.size)⟩
  · have zE : (E == 0) = false := beq_eq_false_iff_ne.2 hE0
    have zD : decide (E = 0) = false := decide_eq_false hE0
    clear HZ HAC
    go_wp2_with fail
    go_quiet (fail)
    go_wp2_with fail
    go_ret
    exact ⟨by simp [hE0], HB5.out.trans (((Gr.refl W5).drewN nq).below.mono HB5.out.size)⟩
end Go.Proofs.YtbinmkigolkhcaaDoor
