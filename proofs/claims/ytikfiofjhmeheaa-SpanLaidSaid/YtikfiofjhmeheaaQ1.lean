/- Contract of the specification's Steps: the same spans and numbers as walk. -/
import Derived.Test.YtikfiofjhmeheaaQ0
namespace Go.Proofs.Ytikfiofjhmeheaa
open Go.RowKit Go.Sort

/-- what has been collected after j steps -/
structure StepI (w : World) (L : List (Int × Int)) (j : Nat) (a1 : Option Addr) (c1 : Nat) (a2 : Option Addr) (c2 : Nat) (W : World) : Prop where
  ov : W.ownsRow w.heap.size 3 1 (.slice a1 j c1) j ((L.take j).map fun s => Value.int .i64 s.2)
  ou : W.ownsRow w.heap.size 3 1 (.slice a2 j c2) j ((L.take j).map fun s => Value.int .i64 s.1)
  apart : ∀ g, (Value.slice a1 j c1).ownBlock = some g → (Value.slice a2 j c2).ownBlock ≠ some g
  pos : ∀ i, i < j → 0 ≤ ixL L i
  below : Below w.heap.size w W
theorem StepI.drewN {w : World} {L : List (Int × Int)} {j c1 c2 : Nat} {a1 a2 : Option Addr} {W : World} (h : StepI w L j a1 c1 a2 c2 W) (q : Nat) : StepI w L j a1 c1 a2 c2 (W.drewN q) :=
  ⟨h.ov, h.ou, h.apart, h.pos, ⟨h.below.os, h.below.tape, h.below.output, h.below.size, h.below.block⟩⟩

theorem take_next {L : List (Int × Int)} {j : Nat} (f : Int × Int → Value) (h : j < L.length) : (L.take (j + 1)).map f = (L.take j).map f ++ [f (L.getD j (0, 0))] := by
  rw [List.take_succ_eq_append_getElem h, List.map_append]
  simp [List.getD_eq_getElem?_getD, h]

/-- two rows of ints of the call's own: one more behind the first, then one more behind the second -/
theorem StepI.append {w W w5 w6 : World} {L : List (Int × Int)} {j c1 c2 c3 c4 : Nat} {a1 a2 a3 a4 : Option Addr} {t1 t2 : Obj} (h : StepI w L j a1 c1 a2 c2 W) (hj : j < L.length) (hp : 0 ≤ ixL L j)
    (o1 : w5.ownsRow w.heap.size 3 1 (.slice a3 (j + 1) c3) (j + 1) (((L.take j).map fun s => Value.int .i64 s.2) ++ [.int .i64 (ixL L j)])) (g1 : (W.alloc t1).grownBy w5 (Value.slice a1 j c1).ownBlock)
    (h1 : (Value.slice a3 (j + 1) c3).ownBlock = (Value.slice a1 j c1).ownBlock ∨ (Value.slice a3 (j + 1) c3).ownBlock = some (W.alloc t1).heap.size)
    (o2 : w6.ownsRow w.heap.size 3 1 (.slice a4 (j + 1) c4) (j + 1) (((L.take j).map fun s => Value.int .i64 s.1) ++ [.int .i64 (atL L j)])) (g2 : (w5.alloc t2).grownBy w6 (Value.slice a2 j c2).ownBlock)
    (h2 : (Value.slice a4 (j + 1) c4).ownBlock = (Value.slice a2 j c2).ownBlock ∨ (Value.slice a4 (j + 1) c4).ownBlock = some (w5.alloc t2).heap.size) :
    StepI w L (j + 1) a3 c3 a4 c4 w6 := by
  have l1 := h.ov.lt
  have l2 := h.ou.lt
  have l3 := o1.lt
  have s1 := g1.size
  simp only [World.size_alloc] at s1 h1 h2
  have hA : ∀ g, (Value.slice a3 (j + 1) c3).ownBlock = some g → (Value.slice a2 j c2).ownBlock ≠ some g := by
    intro g e1 e2
    rcases h1 with e | e
    · exact h.apart g (e.symm.trans e1) e2
    · rw [e] at e1
      injection e1 with e1
      have := (l2 g e2).2
      omega
  refine ⟨?_, ?_, ?_, ?_, ?_⟩
  · rw [take_next (fun s => Value.int .i64 s.2) hj]
    refine (o1.alloc t2).kept g2 ?_
    cases hv : (Value.slice a3 (j + 1) c3).ownBlock with
    | none => exact .inl rfl
    | some g => exact .inr fun e => hA g hv e.symm
  · rw [take_next (fun s => Value.int .i64 s.1) hj]
    exact o2
  · intro g e1 e2
    rcases h2 with e | e
    · exact hA g e1 (e.symm.trans e2)
    · rw [e] at e2
      injection e2 with e2
      have := (l3 g e1).2
      omega
  · intro i hi
    rcases Nat.lt_or_ge i j with h3 | h3
    · exact h.pos i h3
    · obtain rfl : i = j := by omega
      exact hp
  · have hb := h.below
    have b1 := (hb.alloc hb.size t1).grown g1 (by have := hb.size; simp; omega) (fun k e => (l1 k e).1)
    exact (b1.alloc b1.size t2).grown g2 (by have := b1.size; simp; omega) (fun k e => (l2 k e).1)

set_option maxHeartbeats 8000000 in
set_option maxRecDepth 100000 in
theorem steps_ref (tlo thi : Int) (A : Option Addr) (n cap : Nat) (xs : List Sp) (w : World) (hx : SpansAt w.heap.size w A n xs) :
    Calls Try.prog 45 #[.agg #[.int .i64 tlo, .int .i64 thi], .slice A n cap] w (WalkPost xs tlo thi w) := by
  have mixed := mixedOrders
  obtain ⟨i0, hi0, hz0, hz1, hz2⟩ := info_parts info3
  have HX := hide hx
  have hG1 := (Gr.refl w).alloc (.cells #[.int .i64 tlo, .int .i64 thi] 42)
  have HG1 := hide hG1
  clear hx
  cases ht : okB tlo thi
  · have HE : Hid (covE xs tlo thi = 2) := by show covE xs tlo thi = 2; unfold covE; rw [if_pos ht]
    clear hG1
    go_enter Try.func45, Try.ntmps45
    go_wp2_with (go_at_call 69; refine (good_any _ _ _).mono ?_; rintro e w' ⟨rfl, rfl⟩)
    go_ret3
    exact walkpost_err HE.out (by decide) ((HG1.out.alloc _).below)
  · have hG2 := hG1.alloc (.cells #[.int .i64 tlo, .int .i64 thi] 42)
    have HCK := hide (list_any A n cap xs _ (HX.out.gr hG2))
    by_cases hc : checkE xs = 0
    · have HCN := hide hc
      have HT := hide ht
      have HCC := HCK.out
      rw [hc] at HCC
      have HC2 := hide HCC
      clear hc HCK HCC hG1 hG2
      go_enter Try.func45, Try.ntmps45
      go_wp2_with fail
      refine (good_any _ _ _).mono ?_
      rintro e w2 ⟨rfl, hw2⟩
      rw [ht]
      rw [hw2] at HC2
      have HG2 : Hid (Gr w w2) := by show Gr w w2; rw [← hw2]; exact HG1.out.alloc _
      have HT0 : Hid (w2.cell? ⟨w.heap.size, 0, none⟩ = some (.int .i64 tlo) ∧ w2.cell? ⟨w.heap.size, 1, none⟩ = some (.int .i64 thi) ∧ w.heap.size < w2.heap.size) := by
        rw [← hw2]
        exact ⟨(World.cell?_alloc_lt _ _ _ (by simp)).trans (by simp), (World.cell?_alloc_lt _ _ _ (by simp)).trans (by simp), by simp; omega⟩
      clear hw2 ht
      go_wp2_with fail
      refine HC2.out.mono ?_
      rintro e w3 ⟨rfl, hG3⟩
      have HG3 := hide (HG2.out.trans hG3)
      have t0 := (hG3.cell (p := ⟨w.heap.size, 0, none⟩) HT0.out.2.2).trans HT0.out.1
      have t1 := (hG3.cell (p := ⟨w.heap.size, 1, none⟩) HT0.out.2.2).trans HT0.out.2.1
      have l3 : w.heap.size < w3.heap.size := Nat.lt_of_lt_of_le HT0.out.2.2 hG3.size
      clear hG3 HC2 HT0 HG2 HG1
      go_wp2
      obtain ⟨L, hL⟩ : ∃ L, L = covL xs tlo thi := ⟨_, rfl⟩
      have HL := hide hL
      clear hL
      have hok : okTo xs n ∧ n ≤ 128 := by
        have h1 := HCN.out
        have h2 := HX.out.1
        unfold checkE at h1
        split at h1
        · omega
        · split at h1
          · exact ⟨by rw [← h2]; assumption, by omega⟩
          · omega
      have hLn : L.length ≤ 2199023255552 := by
        have h1 := runF_length xs thi (thi - tlo).toNat tlo
        have h3 := okB_true HT.out
        have h4 := HL.out
        unfold covL at h4
        rw [← h4] at h1
        omega
      obtain ⟨o1, o2, o3⟩ := okB_true HT.out
      have HOK := hide hok.1
      have hn := hok.2
      have hxs := HX.out.below HG3.out.below
      have HX3 := hide hxs
      clear hok hxs
      go_loopg [8, 9, 10] ((thi - tlo).toNat) (fun f vt va vx wr => ∃ (j : Nat) (a1 : Option Addr) (c1 : Nat) (a2 : Option Addr) (c2 : Nat) (x : Int), vt = .slice a1 j c1 ∧ va = .slice a2 j c2 ∧ vx = .int .i64 x ∧ j ≤ L.length ∧ Hid (L.drop j = runF xs thi f x ∧ (thi - x).toNat ≤ f) ∧ -1099511627776 ≤ x ∧ x ≤ 1099511627776 ∧ Hid (StepI w3 L j a1 c1 a2 c2 wr))
      case atStart =>
        exact ⟨0, none, 0, none, 0, tlo, rfl, rfl, rfl, Nat.zero_le _, ⟨by rw [List.drop_zero]; exact HL.out, Nat.le_refl _⟩, o1, by omega, ⟨World.ownsRow_nil _ _ _ _, World.ownsRow_nil _ _ _ _, (fun g h => (by cases h)), (fun i hi => by omega), Below.refl _ _⟩⟩
      case round =>
        obtain ⟨j, a1, c1, a2, c2, x, rfl, rfl, rfl, hj, HF, hx1, hx2, S1⟩ := hrel
        have u0 := (S1.out.below.cell (p := ⟨w.heap.size, 0, none⟩) l3).trans t0
        have u1 := (S1.out.below.cell (p := ⟨w.heap.size, 1, none⟩) l3).trans t1
        by_cases hlt : x < thi
        · have hd : decide (x < thi) = true := decide_eq_true hlt
          obtain ⟨f', hf', hrun⟩ := runF_step (xs := xs) hlt HF.out.2
          obtain ⟨hjl, hget, hdrop⟩ := drop_cons_of (0, 0) (HF.out.1.trans hrun)
          rw [HX.out.1] at hget hdrop
          have HD := hide hdrop
          have HGET := hide hget
          have HFF := hide hf'
          obtain ⟨wo, hwo⟩ : ∃ wo : World, wo = wr := ⟨_, rfl⟩
          subst hwo
          clear hrun hdrop hget hf'
          go_wp2
          go_loopw [11, 12] (fun vb vi wr => ∃ k : Nat, k ≤ n ∧ vi = .int .i64 k ∧ vb = .int .i64 (bestTo xs x k) ∧ Hid (StepI w3 L j a1 c1 a2 c2 wr)) (fun _ vi _ => n - (intOf vi).toNat)
          case atStart => exact ⟨0, Nat.zero_le _, rfl, rfl, S1⟩
          case round =>
            obtain ⟨k, hk, rfl, rfl, SI⟩ := hrel
            by_cases hkn : k < n
            · obtain ⟨b, off, rfl, hb, c0, c1'⟩ := HX3.out.at_ hkn
              have hkn' : (k : Int) < (n : Int) := by omega
              have hbb : b < w3.heap.size := by omega
              have E0 : ∀ nq, (wr.drewN nq).cell? ⟨b, off + k * 2, none⟩ = some (.int .i64 (loA xs k)) := fun _ => (SI.out.below.cell (p := ⟨b, off + k * 2, none⟩) hbb).trans c0
              have E1 : ∀ nq, (wr.drewN nq).cell? ⟨b, off + k * 2 + 1, none⟩ = some (.int .i64 (hiA xs k)) := fun _ => (SI.out.below.cell (p := ⟨b, off + k * 2 + 1, none⟩) hbb).trans c1'
              clear c0 c1' u0 u1
              have HB := hide (bestTo_range xs x k)
              have HE : Hid (bestTo xs x (k + 1) = if loA xs k ≤ x ∧ x < hiA xs k ∧ (bestTo xs x k < 0 ∨ hiA xs (bestTo xs x k).toNat < hiA xs k) then (k : Int) else bestTo xs x k) := rfl
              generalize bestTo xs x k = bst at HB HE ⊢
              by_cases h1 : loA xs k ≤ x
              · by_cases h2 : x < hiA xs k
                · have hd1 : decide (loA xs k ≤ x) = true := decide_eq_true h1
                  have hd2 : decide (x < hiA xs k) = true := decide_eq_true h2
                  by_cases hb0 : bst < 0
                  · have hd3 : decide (bst < 0) = true := decide_eq_true hb0
                    have HE2 : Hid (bestTo xs x (k + 1) = (k : Int)) := by show bestTo xs x (k + 1) = (k : Int); rw [HE.out, if_pos ⟨h1, h2, .inl hb0⟩]
                    clear HE
                    go_wp2_with fail
                    go_quiet (fail)
                    go_wp2
                    go_roundw
                    case rel => exact ⟨k + 1, by omega, by go_num, by rw [HE2.out], SI.out.drewN _⟩
                    case measure => simp [intOf]; omega
                  · have hb1 := HB.out
                    obtain ⟨i, rfl⟩ : ∃ i : Nat, bst = (i : Int) := ⟨bst.toNat, by omega⟩
                    have hin : (i : Int) < (n : Int) := by omega
                    have hd3 : decide ((i : Int) < 0) = false := decide_eq_false hb0
                    obtain ⟨g0, g1⟩ := HX3.out.at2 (k := i) (by omega)
                    have E3 : ∀ nq, (wr.drewN nq).cell? ⟨b, off + i * 2 + 1, none⟩ = some (.int .i64 (hiA xs i)) := fun _ => (SI.out.below.cell (p := ⟨b, off + i * 2 + 1, none⟩) hbb).trans g1
                    have HE' := hide HE.out
                    rw [Int.toNat_natCast] at HE'
                    clear g0 g1 HE HB hb1
                    by_cases hbt : hiA xs i < hiA xs k
                    · have hd4 : decide (hiA xs i < hiA xs k) = true := decide_eq_true hbt
                      have HE2 : Hid (bestTo xs x (k + 1) = (k : Int)) := by show bestTo xs x (k + 1) = (k : Int); rw [HE'.out, if_pos ⟨h1, h2, .inr hbt⟩]
                      clear HE'
                      go_wp2_with fail
                      go_quiet (fail)
                      go_wp2
                      go_roundw
                      case rel => exact ⟨k + 1, by omega, by go_num, by rw [HE2.out], SI.out.drewN _⟩
                      case measure => simp [intOf]; omega
                    · have hd4 : decide (hiA xs i < hiA xs k) = false := decide_eq_false hbt
                      have HE2 : Hid (bestTo xs x (k + 1) = (i : Int)) := by show bestTo xs x (k + 1) = (i : Int); rw [HE'.out, if_neg (fun h => by rcases h.2.2 with h | h; exact hb0 h; exact hbt h)]
                      clear HE'
                      go_wp2_with fail
                      go_quiet (fail)
                      go_wp2
                      go_roundw
                      case rel => exact ⟨k + 1, by omega, by go_num, by rw [HE2.out], SI.out.drewN _⟩
                      case measure => simp [intOf]; omega
                · have hd1 : decide (loA xs k ≤ x) = true := decide_eq_true h1
                  have hd2 : decide (x < hiA xs k) = false := decide_eq_false h2
                  have HE2 : Hid (bestTo xs x (k + 1) = bst) := by show bestTo xs x (k + 1) = bst; rw [HE.out, if_neg (fun h => h2 h.2.1)]
                  clear HE
                  go_wp2_with fail
                  go_quiet (fail)
                  go_wp2
                  go_roundw
                  case rel => exact ⟨k + 1, by omega, by go_num, by rw [HE2.out], SI.out.drewN _⟩
                  case measure => simp [intOf]; omega
              · have hd1 : decide (loA xs k ≤ x) = false := decide_eq_false h1
                have HE2 : Hid (bestTo xs x (k + 1) = bst) := by show bestTo xs x (k + 1) = bst; rw [HE.out, if_neg (fun h => h1 h.1)]
                clear HE
                go_wp2_with fail
                go_quiet (fail)
                go_wp2
                go_roundw
                case rel => exact ⟨k + 1, by omega, by go_num, by rw [HE2.out], SI.out.drewN _⟩
                case measure => simp [intOf]; omega
            · obtain rfl : k = n := by omega
              have hrange := bestTo_range xs x k
              have hhas := bestTo_has xs x k
              have HH := hide hhas
              have b3 : w3.heap.size ≤ wr.heap.size := SI.out.below.size
              have v0 := (SI.out.below.cell (p := ⟨w.heap.size, 0, none⟩) l3).trans t0
              have v1 := (SI.out.below.cell (p := ⟨w.heap.size, 1, none⟩) l3).trans t1
              clear hhas u0 u1
              generalize bestTo xs x k = bst at HGET HD HH hrange ⊢
              by_cases hneg : bst < 0
              · have hd2 : decide (bst < 0) = true := decide_eq_true hneg
                have hE : covE xs tlo thi = 10 := cov_10 (j := j) HT.out HCN.out (by rw [← HL.out]; exact hjl) (by rw [← HL.out]; unfold ixL; rw [HGET.out]; exact hneg)
                have HE := hide hE
                clear hE hneg
                go_wp2
                go_ret3
                exact walkpost_err HE.out (by decide) (HG3.out.below.trans (SI.out.below.mono HG3.out.size))
              · have hd2 : decide (bst < 0) = false := decide_eq_false hneg
                obtain ⟨i, rfl⟩ : ∃ i : Nat, bst = (i : Int) := ⟨bst.toNat, by omega⟩
                have hin : i < k := by omega
                have hin' : (i : Int) < (k : Int) := by omega
                obtain ⟨b, off, rfl, hb, c0, c1'⟩ := HX3.out.at_ hin
                have hok1 := okB_true (HOK.out i hin)
                have hxx := (HH.out (by omega)).2
                rw [Int.toNat_natCast] at hxx
                have HD2 : Hid (L.drop (j + 1) = runF xs thi f' (hiA xs i)) := by
                  have := HD.out
                  rw [if_neg hneg, Int.toNat_natCast] at this
                  exact this
                have hix : ixL L j = (i : Int) := by unfold ixL; rw [HGET.out]
                have hat : atL L j = x := by unfold atL; rw [HGET.out]
                have HIX := hide hix
                have HAT := hide hat
                have hb1 : j + 1 ≤ maxLen := by unfold maxLen; omega
                have hb2 : (j + 1) * 8 ≤ 140737488355328 := by omega
                have HB1 := hide hb1
                have HB2 := hide hb2
                have hb3 : w3.heap.size ≤ (wr.alloc (.cells #[.int .i64 (i : Int)] 3)).heap.size := by simp; omega
                have HC1 := hide c1'
                have hbb : b < w3.heap.size := by omega
                have hl1 := SI.out.ov.lt
                have hl2 := SI.out.ou.lt
                have HL1 := hide hl1
                have HL2 := hide hl2
                clear HD HH hrange c0 c1' hix hat hb1 hb2 hl1 hl2 v0 v1
                go_wp2_with (first | (at_builtin; refine wpList_append_own_at _ rfl (.tmp 69) (.tmp 71) _ rfl w3.heap.size 3 i0 (.int .i64 0) 1 8 Try.underlying43 hi0 hz0 hz1 hz2 rfl (by decide) _ _ _ rfl (SI.out.ov.alloc _) ⟨wr.heap.size, 0, none⟩ 1 1 [.int .i64 (i : Int)] rfl rfl (cell_one_new _ _ _) (by simp [Value.oneCell']) HB1.out HB2.out hb3 ?_; intro v5 w5 hown1 hgrow1 hnil1 hat1; obtain ⟨a3, c3, rfl⟩ := own_slice hown1; have hs5 : w3.heap.size ≤ w5.heap.size := (by have := hgrow1.size; simp at this; omega); have hou1 : w5.ownsRow w3.heap.size 3 1 (.slice a2 j c2) j ((L.take j).map fun s => Value.int .i64 s.1) := ((SI.out.ou.alloc _).kept hgrow1 (by cases hv : (Value.slice a2 j c2).ownBlock with | none => exact .inl rfl | some g => exact .inr fun e => SI.out.apart g e.symm hv)); have HW1 := hide hown1; have HGR1 := hide hgrow1; have HAT1 := hide hat1; have HOU1 := hide hou1; have hb4 : w3.heap.size ≤ (w5.alloc (.cells #[.int .i64 x] 3)).heap.size := (by simp; omega); clear hown1 hgrow1 hnil1 hat1 hou1) | (at_builtin; refine wpList_append_own_at _ rfl (.tmp 73) (.tmp 75) _ rfl w3.heap.size 3 i0 (.int .i64 0) 1 8 Try.underlying43 hi0 hz0 hz1 hz2 rfl (by decide) _ _ _ rfl (HOU1.out.alloc _) ⟨w5.heap.size, 0, none⟩ 1 1 [.int .i64 x] rfl rfl (cell_one_new _ _ _) (by simp [Value.oneCell']) HB1.out HB2.out hb4 ?_; intro v6 w6 hown2 hgrow2 hnil2 hat2; obtain ⟨a4, c4, rfl⟩ := own_slice hown2; have hS := StepI.append SI.out hjl (by rw [HIX.out]; omega) (by rw [HIX.out]; exact HW1.out) HGR1.out HAT1.out (by rw [HAT.out]; exact hown2) hgrow2 hat2; have HS := hide hS; have e1 := (hS.below.cell (p := ⟨b, off + i * 2 + 1, none⟩) hbb).trans HC1.out; clear hown2 hgrow2 hnil2 hat2 hS))
                go_roundg f'
                case measure => have := HFF.out; omega
                case rel => exact ⟨j + 1, a3, c3, a4, c4, hiA xs i, rfl, rfl, rfl, by omega, ⟨HD2.out, by have := HF.out.2; have := HFF.out; omega⟩, by omega, by omega, HS⟩
        · have hd : decide (x < thi) = false := decide_eq_false hlt
          have hje : j = L.length := by
            have := HF.out.1
            rw [runF_end hlt] at this
            have := List.drop_eq_nil_iff.1 this
            omega
          subst hje
          go_wp2
          go_ret3
          have hE : covE xs tlo thi = 0 := cov_0 HT.out HCN.out (by rw [← HL.out]; exact S1.out.pos)
          have hT : covT xs tlo thi = L.map (·.2) := by unfold covT; rw [if_pos hE, ← HL.out]
          have hS : covS xs tlo thi = L.map (·.1) := by unfold covS; rw [if_pos hE, ← HL.out]
          have ov := S1.out.ov
          have ou := S1.out.ou
          rw [List.take_of_length_le (Nat.le_refl _)] at ov ou
          exact ⟨a1, a2, L.length, c1, L.length, c2, by rw [hE]; rfl, by rw [hT]; exact ints_of_own (by rw [List.map_map]; exact ov), by rw [hS]; exact ints_of_own (by rw [List.map_map]; exact ou), HG3.out.below.trans (S1.out.below.mono HG3.out.size)⟩
    · have hc1 : (checkE xs == 0) = false := beq_eq_false_iff_ne.2 hc
      have hc2 : (checkE xs != 0) = true := by rw [bne_iff_ne]; exact hc
      have HE : Hid (covE xs tlo thi = checkE xs) := by show covE xs tlo thi = checkE xs; unfold covE; rw [if_neg (by rw [ht]; decide), if_pos hc]
      have HCN := hide hc
      have HG2 := hide hG2
      clear hc hG1 hG2
      go_enter Try.func45, Try.ntmps45
      go_wp2_with (first | (go_at_call 69; refine (good_any _ _ _).mono ?_; rintro e w' ⟨rfl, rfl⟩) | (go_at_call 62; refine HCK.out.mono ?_; rintro e w3 ⟨rfl, hG3⟩))
      go_ret3
      exact walkpost_err HE.out HCN.out ((HG2.out.trans hG3).below)

end Go.Proofs.Ytikfiofjhmeheaa
