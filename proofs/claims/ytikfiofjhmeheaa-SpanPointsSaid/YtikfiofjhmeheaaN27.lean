/- Contract of the specification's Points: the same points and spans as stab. -/
import Derived.Test.YtikfiofjhmeheaaN25
import Derived.Test.YtikfiofjhmeheaaN21
import Derived.Test.YtikfiofjhmeheaaQ1
namespace Go.Proofs.Ytikfiofjhmeheaa
open Go.RowKit Go.Sort

/-- two rows of ints of the call's own -/
structure RowsI (w : World) (N M : Nat) (P O : List Int) (a1 : Option Addr) (c1 : Nat) (a2 : Option Addr) (c2 : Nat) (W : World) : Prop where
  lp : P.length = N
  lo : O.length = M
  ov : W.ownsRow w.heap.size 3 1 (.slice a1 N c1) N (P.map (Value.int .i64))
  ou : W.ownsRow w.heap.size 3 1 (.slice a2 M c2) M (O.map (Value.int .i64))
  apart : ∀ g, (Value.slice a1 N c1).ownBlock = some g → (Value.slice a2 M c2).ownBlock ≠ some g
  below : Below w.heap.size w W
theorem RowsI.drewN {w : World} {N M : Nat} {P O : List Int} {c1 c2 : Nat} {a1 a2 : Option Addr} {W : World} (h : RowsI w N M P O a1 c1 a2 c2 W) (q : Nat) : RowsI w N M P O a1 c1 a2 c2 (W.drewN q) :=
  ⟨h.lp, h.lo, h.ov, h.ou, h.apart, ⟨h.below.os, h.below.tape, h.below.output, h.below.size, h.below.block⟩⟩
theorem RowsI.alloc {w : World} {N M : Nat} {P O : List Int} {c1 c2 : Nat} {a1 a2 : Option Addr} {W : World} (h : RowsI w N M P O a1 c1 a2 c2 W) (o : Obj) : RowsI w N M P O a1 c1 a2 c2 (W.alloc o) :=
  ⟨h.lp, h.lo, h.ov.alloc _, h.ou.alloc _, h.apart, h.below.alloc h.below.size _⟩
theorem RowsI.ints {w : World} {N M : Nat} {P O : List Int} {c1 c2 : Nat} {a1 a2 : Option Addr} {W : World} (h : RowsI w N M P O a1 c1 a2 c2 W) : IntsAt W.heap.size W a1 N P ∧ IntsAt W.heap.size W a2 M O :=
  ⟨ints_of_own h.ov, ints_of_own h.ou⟩
theorem RowsI.append {w W w5 w6 : World} {N M : Nat} {P O : List Int} {x y : Int} {c1 c2 c3 c4 : Nat} {a1 a2 a3 a4 : Option Addr} {t1 t2 : Obj} (h : RowsI w N M P O a1 c1 a2 c2 W)
    (o1 : w5.ownsRow w.heap.size 3 1 (.slice a3 (N + 1) c3) (N + 1) (P.map (Value.int .i64) ++ [.int .i64 x])) (g1 : (W.alloc t1).grownBy w5 (Value.slice a1 N c1).ownBlock)
    (h1 : (Value.slice a3 (N + 1) c3).ownBlock = (Value.slice a1 N c1).ownBlock ∨ (Value.slice a3 (N + 1) c3).ownBlock = some (W.alloc t1).heap.size)
    (o2 : w6.ownsRow w.heap.size 3 1 (.slice a4 (M + 1) c4) (M + 1) (O.map (Value.int .i64) ++ [.int .i64 y])) (g2 : (w5.alloc t2).grownBy w6 (Value.slice a2 M c2).ownBlock)
    (h2 : (Value.slice a4 (M + 1) c4).ownBlock = (Value.slice a2 M c2).ownBlock ∨ (Value.slice a4 (M + 1) c4).ownBlock = some (w5.alloc t2).heap.size) :
    RowsI w (N + 1) (M + 1) (P ++ [x]) (O ++ [y]) a3 c3 a4 c4 w6 := by
  have l1 := h.ov.lt
  have l2 := h.ou.lt
  have l3 := o1.lt
  have s1 := g1.size
  simp only [World.size_alloc] at s1 h1 h2
  have hA : ∀ g, (Value.slice a3 (N + 1) c3).ownBlock = some g → (Value.slice a2 M c2).ownBlock ≠ some g := by
    intro g e1 e2
    rcases h1 with e | e
    · exact h.apart g (e.symm.trans e1) e2
    · rw [e] at e1
      injection e1 with e1
      have := (l2 g e2).2
      omega
  refine ⟨by simp [h.lp], by simp [h.lo], ?_, ?_, ?_, ?_⟩
  · rw [List.map_append]
    refine (o1.alloc t2).kept g2 ?_
    cases hv : (Value.slice a3 (N + 1) c3).ownBlock with
    | none => exact .inl rfl
    | some g => exact .inr fun e => hA g hv e.symm
  · rw [List.map_append]
    exact o2
  · intro g e1 e2
    rcases h2 with e | e
    · exact hA g e1 (e.symm.trans e2)
    · rw [e] at e2
      injection e2 with e2
      have := (l3 g e1).2
      omega
  · have hb := h.below
    have b1 := (hb.alloc hb.size t1).grown g1 (by have := hb.size; simp; omega) (fun k e => (l1 k e).1)
    exact (b1.alloc b1.size t2).grown g2 (by have := b1.size; simp; omega) (fun k e => (l2 k e).1)

theorem anyTo_anyIn (lo hi : Int) (P : List Int) : anyTo lo hi P P.length = anyIn lo hi P := by
  cases h : anyTo lo hi P P.length
  · refine (anyIn_false fun j hj => ?_).symm
    cases h2 : hasB lo hi (iA P j)
    · rfl
    · have := (anyTo_iff lo hi P P.length).2 ⟨j, hj, h2⟩
      rw [h] at this
      cases this
  · obtain ⟨j, h1, h2⟩ := (anyTo_iff lo hi P P.length).1 h
    exact (anyIn_true h1 h2).symm

set_option maxHeartbeats 8000000 in
set_option maxRecDepth 100000 in
theorem refPoints_any (A : Option Addr) (n cap : Nat) (xs : List Sp) (w : World) (hx : SpansAt w.heap.size w A n xs) :
    Calls Try.prog 49 #[.slice A n cap] w (StabPost xs w) := by
  have mixed := mixedOrders
  obtain ⟨i0, hi0, hz0, hz1, hz2⟩ := info_parts info3
  have HX := hide hx
  have HC := hide (list_any A n cap xs w hx)
  clear hx
  by_cases hc : checkE xs = 0
  · have HCN := hide hc
    have HCC := HC.out
    rw [hc] at HCC
    have HC2 := hide HCC
    have HOK : Hid (n ≤ 128 ∧ okTo xs n) := by
      have h1 := hc
      have h2 := HX.out.1
      unfold checkE at h1
      split at h1
      · omega
      · split at h1
        · rename_i h3
          rw [h2] at h3
          exact ⟨by omega, h3⟩
        · omega
    clear hc HC HCC
    have hn := HOK.out.1
    go_enter Try.func49, Try.ntmps49
    go_wp2_with fail
    refine HC2.out.mono ?_
    rintro e w2 ⟨rfl, hG⟩
    have HX2 := hide (HX.out.gr hG)
    have HG := hide hG
    clear hG HC2
    go_wp2_with fail
    refine (sorted_hi A n cap xs w2 HX2.out (by omega)).mono ?_
    rintro e w3 ⟨a3, c3, rfl, hi3, hb3, -⟩
    have HX3 := hide (HX2.out.now hb3 (Nat.le_refl _))
    have HI3 := hide hi3
    have HB3 := hide (HG.out.below.trans (hb3.mono HG.out.size))
    clear hi3 hb3 HG HX2 HX
    go_wp2
    go_loopw [6, 7, 9] (fun vp vs vi wr => ∃ (i N M : Nat) (a1 : Option Addr) (c1 : Nat) (a2 : Option Addr) (c2 : Nat), i ≤ n ∧ vi = .int .i64 i ∧ N ≤ i ∧ M ≤ i ∧ vp = .slice a1 N c1 ∧ vs = .slice a2 M c2 ∧ Hid (RowsI w3 N M (stabTo xs (ups n i)).1 (stabTo xs (ups n i)).2 a1 c1 a2 c2 wr)) (fun _ _ vi _ => n - (intOf vi).toNat)
    case atStart =>
      refine ⟨0, 0, 0, none, 0, none, 0, Nat.zero_le _, rfl, Nat.le_refl _, Nat.le_refl _, rfl, rfl, ?_⟩
      rw [ups_zero]
      exact ⟨rfl, rfl, World.ownsRow_nil _ _ _ _, World.ownsRow_nil _ _ _ _, (fun g h => (by cases h)), Below.refl _ _⟩
    case round =>
      obtain ⟨i, N, M, a1, c1, a2, c2, hi, rfl, hNi, hMi, rfl, rfl, HR⟩ := hrel
      by_cases hin : i < n
      · have hin' : (i : Int) < (n : Int) := by omega
        obtain ⟨b2, off2, rfl, hb2, co⟩ := HI3.out.at_ hin
        have hso : iA (natI (sortTo (keyB true xs) n)) i = (ordH xs n i : Int) := by
          rw [natI_at (by rw [sortTo_length]; exact hin), sortTo_ord _ _ _ hin]
          rfl
        rw [hso] at co
        have hon : ordH xs n i < n := (ordF_ord (keyA (fun _ b => b) xs) n).lt hin
        have HS := hide (show stabTo xs (ups n (i + 1)) = stabStep xs (stabTo xs (ups n i)) (ordH xs n i) by rw [ups_succ hin, stabTo_snoc])
        have hok := okB_true (HOK.out.2 _ hon)
        obtain ⟨b, off, rfl, hb, d0, d1⟩ := HX3.out.at_ hon
        generalize ordH xs n i = o at co hon HS hok d0 d1
        have hon' : (o : Int) < (n : Int) := by omega
        have co' := (HR.out.below.cell (p := ⟨b2, off2 + i, none⟩) hb2).trans co
        have d0' := (HR.out.below.cell (p := ⟨b, off + o * 2, none⟩) hb).trans d0
        have d1' := (HR.out.below.cell (p := ⟨b, off + o * 2 + 1, none⟩) hb).trans d1
        have HCO := hide co
        have hlp := HR.out.lp
        have hlo := HR.out.lo
        generalize stabTo xs (ups n i) = st at HS HR hlp hlo
        obtain ⟨P, O⟩ := st
        have HSTEP : Hid (stabTo xs (ups n (i + 1)) = if anyIn (loA xs o) (hiA xs o) P = true then (P, O) else (P ++ [hiA xs o - 1], O ++ [(o : Int)])) := HS.out
        have hlp : P.length = N := hlp
        have hlo : O.length = M := hlo
        have HR : Hid (RowsI w3 N M P O a1 c1 a2 c2 wr) := HR
        have HLP := hide hlp
        have HOKV := hide hok
        clear co d0 d1 HS hlp hlo hok
        generalize loA xs o = ll at *
        generalize hiA xs o = hh at *
        obtain ⟨wo, hwo⟩ : ∃ wo : World, wo = wr := ⟨_, rfl⟩
        subst hwo
        obtain ⟨W1, hW1⟩ : ∃ W1, wo.alloc (.cells #[.int .i64 ll, .int .i64 hh] 42) = W1 := ⟨_, rfl⟩
        have HR1 : Hid (RowsI w3 N M P O a1 c1 a2 c2 W1) := by show RowsI w3 N M P O a1 c1 a2 c2 W1; rw [← hW1]; exact HR.out.alloc _
        obtain ⟨Bs, hBs⟩ : ∃ Bs, wo.heap.size = Bs := ⟨_, rfl⟩
        have s0 : W1.cell? ⟨Bs, 0, none⟩ = some (.int .i64 ll) := by rw [← hW1, ← hBs]; simp
        have s1 : W1.cell? ⟨Bs, 1, none⟩ = some (.int .i64 hh) := by rw [← hW1, ← hBs]; simp
        clear HR
        go_wp2
        go_loopw [11, 12] (fun vm vk wr => ∃ (k : Nat) (mt : Bool), k ≤ N ∧ vk = .int .i64 k ∧ vm = .bool mt ∧ Hid (mt = anyTo ll hh P k) ∧ Hid (∃ q, wr = W1.drewN q)) (fun _ vk _ => N - (intOf vk).toNat)
        case atStart => exact ⟨0, false, Nat.zero_le _, rfl, rfl, rfl, ⟨0, rfl⟩⟩
        case round =>
          obtain ⟨k, mt, hk, rfl, rfl, HM, HQ⟩ := hrel
          by_cases hkN : k < N
          · have hkN' : (k : Int) < (N : Int) := by omega
            obtain ⟨b3, off3, rfl, hb3, e2⟩ := HR1.out.ints.1.at_ hkN
            have E0 : ∀ nq, (wr.drewN nq).cell? ⟨Bs, 0, none⟩ = some (.int .i64 ll) := fun nq => by obtain ⟨q, rfl⟩ := HQ.out; exact s0
            have E1 : ∀ nq, (wr.drewN nq).cell? ⟨Bs, 1, none⟩ = some (.int .i64 hh) := fun nq => by obtain ⟨q, rfl⟩ := HQ.out; exact s1
            have E2 : ∀ nq, (wr.drewN nq).cell? ⟨b3, off3 + k, none⟩ = some (.int .i64 (iA P k)) := fun nq => by obtain ⟨q, rfl⟩ := HQ.out; exact e2
            have HA : Hid (anyTo ll hh P (k + 1) = (mt || hasB ll hh (iA P k))) := by show _ = _; rw [HM.out]; rfl
            clear e2 HM
            generalize iA P k = yy at *
            cases mt
            · by_cases h1 : ll ≤ yy
              · have hd1 : decide (ll ≤ yy) = true := decide_eq_true h1
                by_cases h2 : yy < hh
                · have hd2 : decide (yy < hh) = true := decide_eq_true h2
                  have HS2 : Hid (true = anyTo ll hh P (k + 1)) := by show _ = _; rw [HA.out]; exact (show hasB ll hh yy = true from decide_eq_true ⟨h1, h2⟩).symm
                  clear h1 h2 HA
                  go_wp2_with fail
                  go_quiet (fail)
                  go_wp2
                  go_roundw
                  case rel => exact ⟨k + 1, true, by omega, by go_num, rfl, HS2, by obtain ⟨q, rfl⟩ := HQ.out; exact ⟨q + nq, World.drewN_drewN _ _ _⟩⟩
                  case measure => simp [intOf]; omega
                · have hd2 : decide (yy < hh) = false := decide_eq_false h2
                  have HS2 : Hid (false = anyTo ll hh P (k + 1)) := by show _ = _; rw [HA.out]; exact (show hasB ll hh yy = false from decide_eq_false (fun h => h2 h.2)).symm
                  clear h1 h2 HA
                  go_wp2_with fail
                  go_quiet (fail)
                  go_wp2
                  go_roundw
                  case rel => exact ⟨k + 1, false, by omega, by go_num, rfl, HS2, by obtain ⟨q, rfl⟩ := HQ.out; exact ⟨q + nq, World.drewN_drewN _ _ _⟩⟩
                  case measure => simp [intOf]; omega
              · have hd1 : decide (ll ≤ yy) = false := decide_eq_false h1
                have HS2 : Hid (false = anyTo ll hh P (k + 1)) := by show _ = _; rw [HA.out]; exact (show hasB ll hh yy = false from decide_eq_false (fun h => h1 h.1)).symm
                clear h1 HA
                go_wp2_with fail
                go_quiet (fail)
                go_wp2
                go_roundw
                case rel => exact ⟨k + 1, false, by omega, by go_num, rfl, HS2, by obtain ⟨q, rfl⟩ := HQ.out; exact ⟨q + nq, World.drewN_drewN _ _ _⟩⟩
                case measure => simp [intOf]; omega
            · have HS2 : Hid (true = anyTo ll hh P (k + 1)) := by show _ = _; rw [HA.out]; rfl
              clear HA
              go_wp2_with fail
              go_quiet (fail)
              go_wp2
              go_roundw
              case rel => exact ⟨k + 1, true, by omega, by go_num, rfl, HS2, by obtain ⟨q, rfl⟩ := HQ.out; exact ⟨q + nq, World.drewN_drewN _ _ _⟩⟩
              case measure => simp [intOf]; omega
          · obtain rfl : k = N := by omega
            have HAN : Hid (mt = anyIn ll hh P) := by show _ = _; rw [HM.out, ← HLP.out, anyTo_anyIn]
            have HR2 : Hid (RowsI w3 k M P O a1 c1 a2 c2 wr) := by obtain ⟨q, rfl⟩ := HQ.out; exact HR1.out.drewN q
            have s1' : wr.cell? ⟨Bs, 1, none⟩ = some (.int .i64 hh) := by obtain ⟨q, rfl⟩ := HQ.out; exact s1
            clear HM
            cases mt
            · have HE : Hid (stabTo xs (ups n (i + 1)) = (P ++ [hh - 1], O ++ [(o : Int)])) := by show _ = _; rw [HSTEP.out, ← HAN.out]; rfl
              have co2 := (HR2.out.below.cell (p := ⟨b2, off2 + i, none⟩) hb2).trans HCO.out
              have hb1 : k + 1 ≤ maxLen := by unfold maxLen; omega
              have hb2' : (k + 1) * 8 ≤ 140737488355328 := by omega
              have hb3 : M + 1 ≤ maxLen := by unfold maxLen; omega
              have hb4 : (M + 1) * 8 ≤ 140737488355328 := by omega
              have HB1 := hide hb1
              have HB2 := hide hb2'
              have HB3' := hide hb3
              have HB4 := hide hb4
              have hhr : -1099511627776 ≤ hh ∧ hh ≤ 1099511627776 := by have := HOKV.out; omega
              obtain ⟨hh1, hh2⟩ := hhr
              have hs3 : w3.heap.size ≤ (wr.alloc (.cells #[.int .i64 (hh - 1)] 3)).heap.size := by have := HR2.out.below.size; simp; omega
              clear hb1 hb2' hb3 hb4 HSTEP HAN co'
              go_wp2_with (first | (at_builtin; refine wpList_append_own_at _ rfl (.tmp 60) (.tmp 64) _ rfl w3.heap.size 3 i0 (.int .i64 0) 1 8 Try.underlying43 hi0 hz0 hz1 hz2 rfl (by decide) _ _ _ rfl (HR2.out.ov.alloc _) ⟨wr.heap.size, 0, none⟩ 1 1 [.int .i64 (hh - 1)] rfl rfl (cell_one_new _ _ _) (by simp [Value.oneCell']) HB1.out HB2.out hs3 ?_; intro v5 w5 hown1 hgrow1 hnil1 hat1; obtain ⟨a5, c5, rfl⟩ := own_slice hown1; have hs5 : w3.heap.size ≤ w5.heap.size := (by have := hgrow1.size; simp at this; have := HR2.out.below.size; omega); have hbl5 := ((HR2.out.below.alloc HR2.out.below.size _).grown hgrow1 (by have := HR2.out.below.size; simp; omega) (fun g e => (HR2.out.ov.lt g e).1)); have co5 := (hbl5.cell (p := ⟨b2, off2 + i, none⟩) hb2).trans HCO.out; have hou1 : w5.ownsRow w3.heap.size 3 1 (.slice a2 M c2) M (O.map (Value.int .i64)) := ((HR2.out.ou.alloc _).kept hgrow1 (by cases hv : (Value.slice a2 M c2).ownBlock with | none => exact .inl rfl | some g => exact .inr fun e => HR2.out.apart g e.symm hv)); have HW1 := hide hown1; have HGR1 := hide hgrow1; have HAT1 := hide hat1; have HOU1 := hide hou1; have hs6 : w3.heap.size ≤ (w5.alloc (.cells #[.int .i64 (o : Int)] 3)).heap.size := (by simp; omega); clear hown1 hgrow1 hnil1 hat1 hou1 hbl5) | (at_builtin; refine wpList_append_own_at _ rfl (.tmp 66) (.tmp 71) _ rfl w3.heap.size 3 i0 (.int .i64 0) 1 8 Try.underlying43 hi0 hz0 hz1 hz2 rfl (by decide) _ _ _ rfl (HOU1.out.alloc _) ⟨w5.heap.size, 0, none⟩ 1 1 [.int .i64 (o : Int)] rfl rfl (cell_one_new _ _ _) (by simp [Value.oneCell']) HB3'.out HB4.out hs6 ?_; intro v6 w6 hown2 hgrow2 hnil2 hat2; obtain ⟨a6, c6, rfl⟩ := own_slice hown2; have hS := RowsI.append HR2.out HW1.out HGR1.out HAT1.out hown2 hgrow2 hat2; have HS := hide hS; clear hown2 hgrow2 hnil2 hat2 hS))
              go_roundw
              case rel => exact ⟨i + 1, k + 1, M + 1, a5, c5, a6, c6, by omega, by go_num, by omega, by omega, rfl, rfl, by rw [HE.out]; exact HS.out⟩
              case measure => simp [intOf]; omega
            · have HE : Hid (stabTo xs (ups n (i + 1)) = (P, O)) := by show _ = _; rw [HSTEP.out, ← HAN.out]; rfl
              clear HSTEP HAN
              go_wp2
              go_roundw
              case rel => exact ⟨i + 1, k, M, a1, c1, a2, c2, by omega, by go_num, by omega, by omega, rfl, rfl, by rw [HE.out]; exact HR2.out⟩
              case measure => simp [intOf]; omega
      · obtain rfl : i = n := by omega
        go_wp2
        go_ret3
        have hP : (stabTo xs (ups i i)).1 = stabP xs := by
          unfold stabP
          rw [if_pos HCN.out, HX3.out.1]
        have hO : (stabTo xs (ups i i)).2 = stabO xs := by
          unfold stabO
          rw [if_pos HCN.out, HX3.out.1]
        have hR := HR.out
        rw [hP, hO] at hR
        exact ⟨a1, a2, N, c1, M, c2, by rw [HCN.out]; rfl, hR.ints.1, hR.ints.2, HB3.out.trans (hR.below.mono HB3.out.size)⟩
  · have HCN := hide hc
    have hc1 : (checkE xs == 0) = false := beq_eq_false_iff_ne.2 hc
    have hc2 : (checkE xs != 0) = true := by rw [bne_iff_ne]; exact hc
    clear hc
    go_enter Try.func49, Try.ntmps49
    go_wp2_with fail
    refine HC.out.mono ?_
    rintro e w2 ⟨rfl, hG⟩
    have HG := hide hG
    clear hG
    go_wp2
    go_ret3
    exact stabpost_err HCN.out HG.out.below

end Go.Proofs.Ytikfiofjhmeheaa
