/- clash. -/
import Derived.Test.YtpbenjpponbjjaaGK
namespace Go.Proofs.Ytpbenjpponbjjaa
open Go.RowKit Go.Sort Go.BigFrame
def clS (l : List Qt) (i : Nat) (s : Int × Int × Int) (j : Nat) : Int × Int × Int := if decide (s.2.2 < (qA l i).2.1 - (qA l j).2.1) && belowG (qA l i).1 (qA l j).1 then ((i : Int), (j : Int), (qA l i).2.1 - (qA l j).2.1) else s
def clIn (l : List Qt) (i k : Nat) (s : Int × Int × Int) : Int × Int × Int := (List.range k).foldl (clS l i) s
def clOut (l : List Qt) (k : Nat) : Int × Int × Int := (List.range k).foldl (fun s i => clIn l i l.length s) (-1, -1, 0)
def clG (l : List Qt) : Int × Int × Int := clOut l l.length
theorem clIn_succ (l : List Qt) (i k : Nat) (s : Int × Int × Int) : clIn l i (k + 1) s = clS l i (clIn l i k s) k := by unfold clIn; rw [List.range_succ, List.foldl_append]; rfl
theorem clOut_succ (l : List Qt) (k : Nat) : clOut l (k + 1) = clIn l k l.length (clOut l k) := by unfold clOut; rw [List.range_succ, List.foldl_append]; rfl
set_option maxHeartbeats 4000000 in
theorem clash_any (A : Option Addr) (n c : Nat) (l : List Qt) (w : World) (hx : QtAt w.heap.size w A n l) (hn : n ≤ 1000000) (hpr : ∀ i, i < n → 0 ≤ (qA l i).2.1 ∧ (qA l i).2.1 ≤ 1073741824) :
    Calls Try.prog 64 #[.slice A n c] w fun e w' => e = .returned (.tuple #[.int .i64 (clG l).1, .int .i64 (clG l).2.1, .int .i64 (clG l).2.2]) ∧ Below w.heap.size w w' := by
  have mixed := mixedOrders
  have HX := hide hx
  have HLEN := hide hx.len
  have HN := hide hn
  have HPR := hide hpr
  clear hx hn hpr
  go_enter Try.func64, Try.ntmps64
  go_wp2_with fail
  go_loopw [12, 2, 3, 4] (fun vi v2 v3 v4 wr => ∃ i : Nat, vi = .int .i64 i ∧ i ≤ n ∧ v2 = .int .i64 (clOut l i).1 ∧ v3 = .int .i64 (clOut l i).2.1 ∧ v4 = .int .i64 (clOut l i).2.2 ∧ Hid (Below w.heap.size w wr)) (fun vi _ _ _ _ => n - (intOf vi).toNat)
  case atStart => exact ⟨0, rfl, Nat.zero_le _, rfl, rfl, rfl, Below.refl _ _⟩
  case round =>
    obtain ⟨i, rfl, hi, rfl, rfl, rfl, HG⟩ := hrel
    by_cases hlt : i < n
    · have hlt' : (i : Int) < (n : Int) := by omega
      obtain ⟨b, off, rfl, hb, c0, c1, c2, c3, c4⟩ := HX.out.at_ hlt
      have d0 := (HG.out.cell (p := ⟨b, off + i * 5, none⟩) hb).trans c0
      have d1 := (HG.out.cell (p := ⟨b, off + i * 5 + 1, none⟩) hb).trans c1
      have d2 := (HG.out.cell (p := ⟨b, off + i * 5 + 2, none⟩) hb).trans c2
      have d3 := (HG.out.cell (p := ⟨b, off + i * 5 + 3, none⟩) hb).trans c3
      have d4 := (HG.out.cell (p := ⟨b, off + i * 5 + 4, none⟩) hb).trans c4
      have hN := HN.out
      have HQ := hide (show i + 1 ≤ n by omega)
      have HOS := hide (clOut_succ l i)
      have HPI := hide (HPR.out i hlt)
      have HO := hide (rfl : qA l i = qA l i)
      generalize hog : qA l i = o at d0 d1 d2 d3 d4 HPI
      have HOG := hide hog
      obtain ⟨⟨o1, o2, o3⟩, pr, wt⟩ := o
      dsimp only at d0 d1 d2 d3 d4
      obtain ⟨p, hp⟩ : ∃ p, wr.heap.size = p := ⟨_, rfl⟩
      obtain ⟨W1, hW1⟩ : ∃ W1, wr.alloc (.cells #[.int .i64 o1, .int .i64 o2, .int .i64 o3, .int .i64 pr, .int .i64 wt] 60) = W1 := ⟨_, rfl⟩
      have hb1 : Below wr.heap.size wr W1 := by rw [← hW1]; exact (Below.refl _ _).alloc (Nat.le_refl _) _
      have h1 : W1.heap[p]? = some (.cells #[.int .i64 o1, .int .i64 o2, .int .i64 o3, .int .i64 pr, .int .i64 wt] 60 (0, 0)) := by rw [← hW1, ← hp]; exact heap_alloc_new _ _
      have HG1 := hide (bel_next HG.out hb1)
      have HCE := hide (fun w2 (q : Below W1.heap.size W1 w2) => box5 ((q.block p (Array.getElem?_eq_some_iff.1 h1).1).trans h1))
      obtain ⟨s0, hs0⟩ : ∃ s0, clOut l i = s0 := ⟨_, rfl⟩
      have HS0 := hide hs0
      rw [hs0]
      clear c0 c1 c2 c3 c4 hi hb hb1 h1 hog hs0
      go_upto_region 6 with (fail)
      have HW1 := hide hW1
      clear hW1 hp d0 d1 d2 d3 d4
      go_loopw [19, 2, 3, 4] (fun vi v2 v3 v4 wr => ∃ j : Nat, vi = .int .i64 j ∧ j ≤ n ∧ v2 = .int .i64 (clIn l i j s0).1 ∧ v3 = .int .i64 (clIn l i j s0).2.1 ∧ v4 = .int .i64 (clIn l i j s0).2.2 ∧ Hid (Below W1.heap.size W1 wr)) (fun vi _ _ _ _ => n - (intOf vi).toNat)
      case atStart => exact ⟨0, rfl, Nat.zero_le _, rfl, rfl, rfl, Below.refl _ _⟩
      case round =>
        obtain ⟨j, rfl, hj, rfl, rfl, rfl, HGJ⟩ := hrel
        by_cases hjl : j < n
        · have hjl' : (j : Int) < (n : Int) := by omega
          obtain ⟨b', off', he, hb, c0, c1, c2, c3, c4⟩ := HX.out.at_ hjl
          injection he with he
          injection he with he1 he2
          subst he1 he2
          have hbj := bel_next HG1.out HGJ.out
          have HGW := hide hbj
          have d0 := (hbj.cell (p := ⟨b, off + j * 5, none⟩) hb).trans c0
          have d1 := (hbj.cell (p := ⟨b, off + j * 5 + 1, none⟩) hb).trans c1
          have d2 := (hbj.cell (p := ⟨b, off + j * 5 + 2, none⟩) hb).trans c2
          have d3 := (hbj.cell (p := ⟨b, off + j * 5 + 3, none⟩) hb).trans c3
          have d4 := (hbj.cell (p := ⟨b, off + j * 5 + 4, none⟩) hb).trans c4
          have HQJ := hide (show j + 1 ≤ n by omega)
          have HIS := hide (clIn_succ l i j s0)
          obtain ⟨s, hs⟩ : ∃ s, clIn l i j s0 = s := ⟨_, rfl⟩
          have HPJ := hide (HPR.out j hjl)
          have HST : Hid (clIn l i (j + 1) s0 = if decide (s.2.2 < pr - (qA l j).2.1) && belowG (o1, o2, o3) (qA l j).1 then ((i : Int), (j : Int), pr - (qA l j).2.1) else s) := by
            rw [HIS.out, hs]
            show clS l i s j = _
            unfold clS
            rw [HOG.out]
          rw [hs]
          generalize qA l j = r at d0 d1 d2 d3 d4 HPJ HST
          obtain ⟨⟨r1, r2, r3⟩, pj, wj⟩ := r
          dsimp only at d0 d1 d2 d3 d4
          obtain ⟨q, hq⟩ : ∃ q, wr.heap.size = q := ⟨_, rfl⟩
          obtain ⟨W2, hW2⟩ : ∃ W2, wr.alloc (.cells #[.int .i64 r1, .int .i64 r2, .int .i64 r3, .int .i64 pj, .int .i64 wj] 60) = W2 := ⟨_, rfl⟩
          have hb2 : Below wr.heap.size wr W2 := by rw [← hW2]; exact (Below.refl _ _).alloc (Nat.le_refl _) _
          have h2 : W2.heap[q]? = some (.cells #[.int .i64 r1, .int .i64 r2, .int .i64 r3, .int .i64 pj, .int .i64 wj] 60 (0, 0)) := by rw [← hW2, ← hq]; exact heap_alloc_new _ _
          have HG2 := hide (bel_next HGJ.out hb2)
          obtain ⟨x0, x1, x2, x3, x4⟩ := HCE.out W2 HG2.out
          obtain ⟨y0, y1, y2, y3, y4⟩ := box5 h2
          have KB := hide (Below_any (o1, o2, o3) (r1, r2, r3) W2)
          obtain ⟨bl, hbl⟩ : ∃ bl, belowG (o1, o2, o3) (r1, r2, r3) = bl := ⟨_, rfl⟩
          rw [hbl] at KB
          obtain ⟨f0, g0, m0⟩ := s
          have hw1 : pr - pj = wrap64 (pr - pj) := by have h1 := HPI.out; have h2 := HPJ.out; dsimp only at h1 h2; exact (IntWalk.wrap64_in _ ⟨by omega, by omega⟩).symm
          have hw2 : wrap64 (pr - pj) = pr - pj := hw1.symm
          obtain ⟨dd, hdd⟩ : ∃ dd, pr - pj = dd := ⟨_, rfl⟩
          dsimp only at HST
          rw [hbl, hdd] at HST
          rw [hdd] at hw2
          clear c0 c1 c2 c3 c4 hj hb hb2 h2 hbj hs hbl hw1 HPI HPJ
          by_cases hmd : m0 < dd
          · rw [decide_eq_true hmd] at HST
            go_wp2_with fail
            refine KB.out.mono ?_
            rintro e w3 ⟨rfl, hb3⟩
            have HG3 := hide (bel_next HG2.out hb3.below)
            clear hb3 KB x0 x1 x2 x3 x4 y0 y1 y2 y3 y4 hW2 hq d0 d1 d2 d3 d4
            cases bl with
            | true =>
              have HST2 : Hid (clIn l i (j + 1) s0 = ((i : Int), (j : Int), dd)) := HST
              clear HST
              go_wp2_with fail
              go_roundw
              case rel => exact ⟨j + 1, by go_num, HQJ.out, by rw [HST2.out], by rw [HST2.out], by rw [HST2.out], HG3⟩
              case measure => have := HQJ.out; simp [intOf]; omega
            | false =>
              have HST2 : Hid (clIn l i (j + 1) s0 = (f0, g0, m0)) := HST
              clear HST
              go_wp2_with fail
              go_roundw
              case rel => exact ⟨j + 1, by go_num, HQJ.out, by rw [HST2.out], by rw [HST2.out], by rw [HST2.out], HG3⟩
              case measure => have := HQJ.out; simp [intOf]; omega
          · rw [decide_eq_false hmd] at HST
            have HST2 : Hid (clIn l i (j + 1) s0 = (f0, g0, m0)) := HST
            clear HST
            go_wp2_with fail
            go_roundw
            case rel => exact ⟨j + 1, by go_num, HQJ.out, by rw [HST2.out], by rw [HST2.out], by rw [HST2.out], HG2⟩
            case measure => have := HQJ.out; simp [intOf]; omega
        · obtain rfl : j = n := by omega
          have hd : ¬ (j : Int) < (j : Int) := by omega
          have HS1 : Hid (clIn l i j s0 = clOut l (i + 1)) := by show _ = _; rw [HOS.out, HS0.out, HLEN.out]
          have HGE := hide (bel_next HG1.out HGJ.out)
          rw [HS1.out]
          clear hj hjl
          go_wp2_with fail
          go_roundw
          case rel => exact ⟨i + 1, by go_num, HQ.out, rfl, rfl, rfl, HGE⟩
          case measure => have := HQ.out; simp [intOf]; omega
    · obtain rfl : i = n := by omega
      have hd : ¬ (i : Int) < (i : Int) := by omega
      have HF : Hid (clOut l i = clG l) := by show _ = _; unfold clG; rw [HLEN.out]
      clear hi hlt
      rw [HF.out]
      go_wp2_with fail
      go_ret3
      exact ⟨rfl, HG.out⟩
end Go.Proofs.Ytpbenjpponbjjaa
