/- The law of Split and Meet. -/
import Derived.Test.YtdepnhnpklbmiaaSE
namespace Go.Proofs.Ytdepnhnpklbmiaa
open Go.RowKit Go.Sort Go.BigFrame

set_option maxHeartbeats 6000000 in
set_option maxRecDepth 100000 in
theorem splits_law (A : Option Addr) (n cap : Nat) (cs : Nat → Cu) (ss : Nat → Option Addr × Nat × Nat) (total : Int) (w : World) (hx : CurvesAt w.heap.size w A n cs ss) (hcap : n ≤ cap) (hnb : n ≤ 9223372036854775807)
    (hm : ∀ i, i < n → Came w (ss i).1 (ss i).2.1 (ss i).2.2 (cs i).sl) (ht : -9223372036854775808 ≤ total ∧ total ≤ 9223372036854775807) :
    Calls Try.prog 6 #[.slice A n cap, .int .i64 total] w (LawPost w) := by
  have mixed := mixedOrders
  obtain ⟨i0, hi0, hz0, hz1, hz2⟩ := info_parts info24
  by_cases h20 : 20 < n
  · have hd : (20 : Int) < (n : Int) := by omega
    clear hx hm
    go_enter Try.func6, Try.ntmps6
    go_wp2_with fail
    refine (alive_any _).mono ?_
    rintro e w' ⟨rfl, hb⟩
    have HB := hide hb
    clear hb
    go_wp2_with fail
    go_ret
    exact ⟨rfl, HB.out⟩
  have hd : ¬ (20 : Int) < (n : Int) := by omega
  have HX := hide hx
  have HM := hide hm
  have HT := hide ht
  have HC := hide hcap
  obtain ⟨p, hp⟩ : ∃ p, w.heap.size = p := ⟨_, rfl⟩
  clear hx hm ht hcap hnb
  go_enter Try.func6, Try.ntmps6
  go_wp2_with fail
  go_loopw [5, 6] (fun vo vi wr => ∃ (i : Nat) (a : Option Addr) (c : Nat), i ≤ n ∧ vi = .int .i64 i ∧ vo = .slice a i c ∧ Hid (wr.ownsRow p 24 3 (.slice a i c) i (cellsC cs ss i)) ∧ Hid (Below p w wr)) (fun _ vi _ => n - (intOf vi).toNat)
  case atStart => exact ⟨0, none, 0, Nat.zero_le _, rfl, rfl, World.ownsRow_nil _ _ _ _, Below.refl _ _⟩
  case round =>
    obtain ⟨i, a, c, hi, rfl, rfl, HO, HB⟩ := hrel
    have hsz := HB.out.size
    rw [hp] at hsz
    by_cases hin : i < n
    · as_aux_lemma =>
        have hin' : (i : Int) < (n : Int) := by omega
        obtain ⟨b, off, rfl, hb, c0, c1, c2⟩ := HX.out.at_ hin
        rw [hp] at hb
        have KB : Hid (∀ W', Below wr.heap.size wr W' → W'.cell? ⟨b, off + i * 3, none⟩ = some (.int .i64 (cs i).fr) ∧ W'.cell? ⟨b, off + i * 3 + 1, none⟩ = some (.int .i64 (cs i).fst) ∧ W'.cell? ⟨b, off + i * 3 + 2, none⟩ = some (.slice (ss i).1 (ss i).2.1 (ss i).2.2)) := fun W' h => by
          have h2 := HB.out.trans (h.mono hsz)
          exact ⟨(h2.cell (p := ⟨b, off + i * 3, none⟩) hb).trans c0, (h2.cell (p := ⟨b, off + i * 3 + 1, none⟩) hb).trans c1, (h2.cell (p := ⟨b, off + i * 3 + 2, none⟩) hb).trans c2⟩
        have HCE : Hid (cellsC cs ss (i + 1) = cellsC cs ss i ++ [.int .i64 (cs i).fr, .int .i64 (cs i).fst, .slice (ss i).1 (ss i).2.1 (ss i).2.2]) := rfl
        have HF := hide (few_any (cs i) (ss i).1 (ss i).2.1 (ss i).2.2 wr)
        generalize cs i = ci at KB HCE HF
        generalize ss i = si at KB HCE HF
        obtain ⟨Ai, ni, ki⟩ := si
        have KB : Hid (∀ W', Below wr.heap.size wr W' → W'.cell? ⟨b, off + i * 3, none⟩ = some (.int .i64 ci.fr) ∧ W'.cell? ⟨b, off + i * 3 + 1, none⟩ = some (.int .i64 ci.fst) ∧ W'.cell? ⟨b, off + i * 3 + 2, none⟩ = some (.slice Ai ni ki)) := KB
        have HCE : Hid (cellsC cs ss (i + 1) = cellsC cs ss i ++ [.int .i64 ci.fr, .int .i64 ci.fst, .slice Ai ni ki]) := HCE
        have HF : Hid (Calls Try.prog 14 #[.agg #[.int .i64 ci.fr, .int .i64 ci.fst, .slice Ai ni ki]] wr fun e w' => e = .returned (.bool (decide (ni ≤ 100))) ∧ Gr wr w') := HF
        obtain ⟨k0, k1, k2⟩ := KB.out wr (Below.refl _ _)
        clear c0 c1 c2
        by_cases hf : ni ≤ 100
        · rw [decide_eq_true hf] at HF
          go_wp2_with fail
          refine HF.out.mono ?_
          rintro e w5 ⟨rfl, hg⟩
          obtain ⟨l0, l1, l2⟩ := KB.out w5 hg.below
          have HB5 : Hid (Below p w w5) := HB.out.trans (hg.below.mono hsz)
          have HO5 := hide (own_below HO.out hg.below)
          have hs5 : p ≤ w5.heap.size := by have := hg.below.size; omega
          obtain ⟨W7, hW7⟩ : ∃ W, w5.alloc (.cells #[.int .i64 ci.fr, .int .i64 ci.fst, .slice Ai ni ki] 24) = W := ⟨_, rfl⟩
          have HB7 : Hid (Below p w W7) := by show Below _ _ _; rw [← hW7]; exact HB5.out.alloc hs5 _
          have HO7 : Hid (W7.ownsRow p 24 3 (.slice a i c) i (cellsC cs ss i)) := by show World.ownsRow _ _ _ _ _ _ _; rw [← hW7]; exact HO5.out.alloc _
          have HNEW : Hid (∀ j u, [Value.int .i64 ci.fr, Value.int .i64 ci.fst, Value.slice Ai ni ki][j]? = some u → W7.cell? ((⟨w5.heap.size, 0, none⟩ : Addr).add j) = some u) := by
            intro j u h
            rw [← hW7]
            exact cell_three_new24 _ _ _ _ _ _ h
          have HBB : Hid (i + 1 ≤ maxLen) := hide (by unfold maxLen; omega)
          have HBC : Hid ((i + 1) * 40 ≤ 140737488355328) := hide (by omega)
          have HSZ : Hid (p ≤ W7.heap.size) := by have := HB7.out.size; rw [hp] at this; exact this
          clear hg hs5 k0 k1 k2 HF HO5 HB5 KB
          subst hW7
          go_wp2_with (
            at_builtin; refine wpList_append_own_at _ rfl (.tmp 41) (.tmp 46) _ rfl p 24 i0 (.agg #[.int .i64 0, .int .i64 0, .slice none 0 0]) 3 40 Try.underlying45 hi0 hz0 hz1 hz2 rfl (by decide) _ _ _ rfl HO7.out ⟨w5.heap.size, 0, none⟩ 1 1 [.int .i64 ci.fr, .int .i64 ci.fst, .slice Ai ni ki] rfl rfl HNEW.out (by intro u hu; simp at hu; rcases hu with rfl | rfl | rfl <;> rfl) HBB.out HBC.out HSZ.out ?_; intro v8 w8 hown8 hgrow8 hnil8 hat8; obtain ⟨a8, c8, rfl⟩ := own_slice hown8
            have HO8 : Hid (w8.ownsRow p 24 3 (.slice a8 (i + 1) c8) (i + 1) (cellsC cs ss (i + 1))) := by show World.ownsRow _ _ _ _ _ _ _; rw [HCE.out]; exact hown8
            have HB8 : Hid (Below p w w8) := hide (HB7.out.grown hgrow8 HSZ.out (fun k e => (HO7.out.lt k e).1))
            clear hown8 hgrow8 hnil8 hat8)
          go_roundw
          case rel => exact ⟨i + 1, a8, c8, by omega, by go_num, rfl, HO8, HB8⟩
          case measure => simp [intOf]; omega
        · rw [decide_eq_false hf] at HF
          clear hf
          go_wp2_with fail
          refine HF.out.mono ?_
          rintro e w5 ⟨rfl, hg⟩
          have HB5 : Hid (Below p w w5) := HB.out.trans (hg.below.mono hsz)
          clear hg k0 k1 k2 HF
          go_wp2_with fail
          refine (alive_any _).mono ?_
          rintro e w6 ⟨rfl, hb6⟩
          have HB6 : Hid (Below p w w6) := by
            have := HB5.out.size
            rw [hp] at this
            exact HB5.out.trans (hb6.mono this)
          clear hb6
          go_wp2_with fail
          go_ret
          exact ⟨rfl, by rw [hp]; exact HB6.out⟩
    · as_aux_lemma =>
        obtain rfl : n = i := by omega
        have hnn : ¬ (n : Int) < (n : Int) := by omega
        have hlw : Below w.heap.size w wr := by rw [hp]; exact HB.out
        obtain ⟨hcu, hca⟩ := curves_own HO.out (fun j hj => (HX.out.cu j hj).now hlw (Nat.le_refl _))
        have HSP := hide (Split_any a n c cs ss total wr hcu hca (fun j hj => by have := HM.out j hj; exact Nat.le_trans this.le this.big))
        have HRS := hide (fun w2 (h : Below w.heap.size w w2) => refSplit_any A n cap cs ss total w2 (HX.out.now h (Nat.le_refl _)) HC.out (fun j hj => ⟨(HM.out j hj).le, (HM.out j hj).big⟩) HT.out)
        have hxl := splitX_len cs n total
        obtain ⟨X, hX⟩ : ∃ q, splitX cs n total = q := ⟨_, rfl⟩
        obtain ⟨v, hv⟩ : ∃ q, splitC cs n total = q := ⟨_, rfl⟩
        obtain ⟨pr, hpr⟩ : ∃ q, splitP cs n total = q := ⟨_, rfl⟩
        obtain ⟨er, her⟩ : ∃ q, splitE cs n total = q := ⟨_, rfl⟩
        unfold SplitPost at HSP HRS
        rw [hX, hv, hpr, her] at HSP
        simp only [hX, hv, hpr, her] at HRS
        rw [hX] at hxl
        have hq1 : (v != v) = false := by simp
        have hq2 : (pr != pr) = false := by simp
        have hq3 : (er != er) = false := by simp
        clear hX hv hpr her hcu hca
        go_wp2_with fail
        refine HSP.out.mono ?_
        rintro e w2 ⟨A2, m2, k2, rfl, hi2, hb2⟩
        have HI2 := hide hi2
        have HB2 : Hid (Below w.heap.size w w2) := hlw.trans (hb2.mono (by omega))
        clear hi2 hb2 HSP
        go_wp2_with fail
        refine (HRS.out _ HB2.out).mono ?_
        rintro e w3 ⟨A3, m3, k3, rfl, hi3, hb3⟩
        have HI3 := hide hi3
        have HB3 : Hid (Below w.heap.size w w3) := HB2.out.trans (hb3.mono HB2.out.size)
        have HSA := hide (same_any A2 A3 m2 k2 m3 k3 X X w3 (HI2.out.now hb3 (Nat.le_refl _)) hi3 (by have := HI2.out.1; omega) (by have := hi3.1; omega))
        rw [decide_eq_true (rfl : X = X)] at HSA
        clear hi3 hb3 HRS HI2 HB2
        go_wp2_with fail
        refine HSA.out.mono ?_
        rintro e w4 ⟨rfl, q, rfl⟩
        have HB4 : Hid (Below w.heap.size w (w3.drewN q)) := HB3.out.trans (((Gr.refl w3).drewN q).below.mono HB3.out.size)
        generalize w3.drewN q = w4 at HB4 ⊢
        clear HSA HI3 HB3
        go_wp2_with fail
        obtain ⟨W5, rfl⟩ : ∃ W5, W5 = wr := ⟨_, rfl⟩
        clear hlw hq1 hq2 hq3
        go_loopw [15] (fun vi wr => ∃ i : Nat, i ≤ n ∧ vi = .int .i64 i ∧ Hid (Below w.heap.size w wr)) (fun vi _ => n - (intOf vi).toNat)
        case atStart => exact ⟨0, Nat.zero_le _, rfl, HB4⟩
        case round =>
          obtain ⟨i, hi6, rfl, HB6⟩ := hrel
          obtain ⟨i1, hi1⟩ : ∃ i1 : Nat, i + 1 = i1 := ⟨_, rfl⟩
          have hw1 : IntKind.i64.wrap ((i : Int) + 1) = (i1 : Int) := by rw [IntKind.wrap_i64]; omega
          by_cases hlt : i1 < n
          · as_aux_lemma =>
              have q1 : (i : Int) < (n : Int) := by omega
              have q2 : (i1 : Int) < (n : Int) := by omega
              obtain ⟨b, off, rfl, hb, c0, c1, c2⟩ := HX.out.at_ (k := i) (by omega)
              obtain ⟨b', off', e', -, c3, c4, c5⟩ := HX.out.at_ hlt
              injection e' with e'
              injection e' with e3 e4
              subst e3; subst e4
              have KB : Hid (∀ w', Below w.heap.size w w' → w'.cell? ⟨b, off + i * 3, none⟩ = some (.int .i64 (cs i).fr) ∧ w'.cell? ⟨b, off + i * 3 + 1, none⟩ = some (.int .i64 (cs i).fst) ∧ w'.cell? ⟨b, off + i * 3 + 2, none⟩ = some (.slice (ss i).1 (ss i).2.1 (ss i).2.2) ∧ w'.cell? ⟨b, off + i1 * 3, none⟩ = some (.int .i64 (cs i1).fr) ∧ w'.cell? ⟨b, off + i1 * 3 + 1, none⟩ = some (.int .i64 (cs i1).fst) ∧ w'.cell? ⟨b, off + i1 * 3 + 2, none⟩ = some (.slice (ss i1).1 (ss i1).2.1 (ss i1).2.2)) := fun w' h => by
                exact ⟨(h.cell (p := ⟨b, off + i * 3, none⟩) hb).trans c0, (h.cell (p := ⟨b, off + i * 3 + 1, none⟩) hb).trans c1, (h.cell (p := ⟨b, off + i * 3 + 2, none⟩) hb).trans c2, (h.cell (p := ⟨b, off + i1 * 3, none⟩) hb).trans c3, (h.cell (p := ⟨b, off + i1 * 3 + 1, none⟩) hb).trans c4, (h.cell (p := ⟨b, off + i1 * 3 + 2, none⟩) hb).trans c5⟩
              have h1 := HM.out i (by omega)
              have h2 := HM.out i1 hlt
              have HMP : Hid (∀ w1, Below w.heap.size w w1 → Calls Try.prog 44 #[.agg #[.int .i64 (cs i).fr, .int .i64 (cs i).fst, .slice (ss i).1 (ss i).2.1 (ss i).2.2], .agg #[.int .i64 (cs i1).fr, .int .i64 (cs i1).fst, .slice (ss i1).1 (ss i1).2.1 (ss i1).2.2]] w1 (fun e w' => ∃ v x p r, e = .returned (.tuple #[.int .i64 v, .int .i64 x, .int .i64 p, .int .i64 r]) ∧ Four (cs i) (cs i1) v x p r ∧ Below w1.heap.size w1 w')) := fun w1 h =>
                (Meet_any (cs i) (cs i1) _ _ _ _ _ _ w1 ((HX.out.cu i (by omega)).now h (Nat.le_refl _)) ((HX.out.cu i1 hlt).now h (Nat.le_refl _)) (Nat.le_trans h1.le h1.big) (Nat.le_trans h2.le h2.big)).mono fun e w' hh => four_post hh
              have HMR : Hid (∀ w1, Below w.heap.size w w1 → Calls Try.prog 45 #[.agg #[.int .i64 (cs i).fr, .int .i64 (cs i).fst, .slice (ss i).1 (ss i).2.1 (ss i).2.2], .agg #[.int .i64 (cs i1).fr, .int .i64 (cs i1).fst, .slice (ss i1).1 (ss i1).2.1 (ss i1).2.2]] w1 (fun e w' => ∃ v x p r, e = .returned (.tuple #[.int .i64 v, .int .i64 x, .int .i64 p, .int .i64 r]) ∧ Four (cs i) (cs i1) v x p r ∧ Below w1.heap.size w1 w')) := fun w1 h =>
                (refMeet_any (cs i) (cs i1) _ _ _ _ _ _ w1 (((HX.out.cu i (by omega)).now h (Nat.le_refl _)).sl) (((HX.out.cu i1 hlt).now h (Nat.le_refl _)).sl) h1.le h2.le h1.big h2.big h1.fits h2.fits).mono fun e w' hh => four_post hh
              clear h1 h2 c0 c1 c2 c3 c4 c5
              generalize cs i = ci at KB HMP HMR
              generalize cs i1 = cj at KB HMP HMR
              generalize ss i = si at KB HMP HMR
              generalize ss i1 = sj at KB HMP HMR
              obtain ⟨Ai, ni, ki⟩ := si
              obtain ⟨Aj, nj, kj⟩ := sj
              have KB : Hid (∀ w', Below w.heap.size w w' → w'.cell? ⟨b, off + i * 3, none⟩ = some (.int .i64 ci.fr) ∧ w'.cell? ⟨b, off + i * 3 + 1, none⟩ = some (.int .i64 ci.fst) ∧ w'.cell? ⟨b, off + i * 3 + 2, none⟩ = some (.slice Ai ni ki) ∧ w'.cell? ⟨b, off + i1 * 3, none⟩ = some (.int .i64 cj.fr) ∧ w'.cell? ⟨b, off + i1 * 3 + 1, none⟩ = some (.int .i64 cj.fst) ∧ w'.cell? ⟨b, off + i1 * 3 + 2, none⟩ = some (.slice Aj nj kj)) := KB
              have HMP : Hid (∀ w1, Below w.heap.size w w1 → Calls Try.prog 44 #[.agg #[.int .i64 ci.fr, .int .i64 ci.fst, .slice Ai ni ki], .agg #[.int .i64 cj.fr, .int .i64 cj.fst, .slice Aj nj kj]] w1 (fun e w' => ∃ v x p r, e = .returned (.tuple #[.int .i64 v, .int .i64 x, .int .i64 p, .int .i64 r]) ∧ Four ci cj v x p r ∧ Below w1.heap.size w1 w')) := HMP
              have HMR : Hid (∀ w1, Below w.heap.size w w1 → Calls Try.prog 45 #[.agg #[.int .i64 ci.fr, .int .i64 ci.fst, .slice Ai ni ki], .agg #[.int .i64 cj.fr, .int .i64 cj.fst, .slice Aj nj kj]] w1 (fun e w' => ∃ v x p r, e = .returned (.tuple #[.int .i64 v, .int .i64 x, .int .i64 p, .int .i64 r]) ∧ Four ci cj v x p r ∧ Below w1.heap.size w1 w')) := HMR
              have HD6 : Hid (Below w.heap.size w wr.drew) := HB6.out.drew
              have K1 := hide (KB.out _ HD6.out)
              have C1 := hide (HMP.out _ HD6.out)
              have HII := hide (And.intro (show i1 ≤ n by omega) hi1)
              obtain ⟨k0, k1, k2, k3, k4, k5⟩ := KB.out _ HB6.out
              clear hi1 hi6 hlt HMP
              go_wp2_with fail
              go_region_held3 (fun w' => w'.cell? ⟨b, off + i * 3, none⟩ = some (.int .i64 ci.fr) ∧ w'.cell? ⟨b, off + i * 3 + 1, none⟩ = some (.int .i64 ci.fst) ∧ w'.cell? ⟨b, off + i * 3 + 2, none⟩ = some (.slice Ai ni ki) ∧ w'.cell? ⟨b, off + i1 * 3, none⟩ = some (.int .i64 cj.fr) ∧ w'.cell? ⟨b, off + i1 * 3 + 1, none⟩ = some (.int .i64 cj.fst) ∧ w'.cell? ⟨b, off + i1 * 3 + 2, none⟩ = some (.slice Aj nj kj))
                (first | exact K1.out | exact KB.out _ hb7)
                (first | (go_at_call 44; (with_reducible refine C1.out.mono ?_); rintro e w7 ⟨v1, x1, p1, r1, rfl, hf1, hb7'⟩; have hb7 : Below w.heap.size w w7 := HD6.out.trans (hb7'.mono HD6.out.size)))
              have HF1 := hide hf1
              have HB7 := hide hb7
              have HD7 : Hid (Below w.heap.size w w7.drew) := HB7.out.drew
              have K2 := hide (KB.out _ HD7.out)
              have C2 := hide (HMR.out _ HD7.out)
              obtain ⟨l0, l1, l2, l3, l4, l5⟩ := KB.out _ HB7.out
              clear hf1 hb7 hb7' k0 k1 k2 k3 k4 k5 C1 K1 HMR HB6 HD6
              go_wp2_with fail
              go_region_held3 (fun w' => w'.cell? ⟨b, off + i * 3, none⟩ = some (.int .i64 ci.fr) ∧ w'.cell? ⟨b, off + i * 3 + 1, none⟩ = some (.int .i64 ci.fst) ∧ w'.cell? ⟨b, off + i * 3 + 2, none⟩ = some (.slice Ai ni ki) ∧ w'.cell? ⟨b, off + i1 * 3, none⟩ = some (.int .i64 cj.fr) ∧ w'.cell? ⟨b, off + i1 * 3 + 1, none⟩ = some (.int .i64 cj.fst) ∧ w'.cell? ⟨b, off + i1 * 3 + 2, none⟩ = some (.slice Aj nj kj))
                (first | exact K2.out | exact KB.out _ hb8)
                (first | (go_at_call 45; (with_reducible refine C2.out.mono ?_); rintro e w8 ⟨v2, x2, p2, r2, rfl, hf2, hb8'⟩; have hb8 : Below w.heap.size w w8 := HD7.out.trans (hb8'.mono HD7.out.size)))
              have HB8 := hide hb8
              obtain ⟨rfl, rfl, rfl, rfl⟩ := four_one HF1.out hf2
              have hq1 : (v1 != v1) = false := by simp
              have hq2 : (x1 != x1) = false := by simp
              have hq3 : (p1 != p1) = false := by simp
              have hq4 : (r1 != r1) = false := by simp
              clear hf2 hb8 hb8' l0 l1 l2 l3 l4 l5 C2 K2 HB7 HD7 HF1
              go_wp2_with fail
              go_roundw
              case rel => exact ⟨i1, HII.out.1, rfl, HB8⟩
              case measure => have h1 := HII.out.1; have h2 := HII.out.2; simp [intOf]; omega
          · as_aux_lemma =>
              have q2 : ¬ (i1 : Int) < (n : Int) := by omega
              clear hlt hi1 hi6
              go_wp2_with fail
              refine (alive_any _).mono ?_
              rintro e w6 ⟨rfl, hb6⟩
              have HB7 := hide (HB6.out.trans (hb6.mono HB6.out.size))
              clear hb6
              go_wp2_with fail
              go_ret
              exact ⟨rfl, HB7.out⟩
end Go.Proofs.Ytdepnhnpklbmiaa
