/- Binds. -/
import Derived.Test.YtpobfdhmggkbaaaWI
import Derived.Deep.DeepCutAuto
namespace Go.Proofs.Ytpobfdhmggkbaaa
open Go.RowKit Go.Sort Go.BigFrame
set_option maxHeartbeats 8000000 in
set_option maxRecDepth 100000 in
theorem law12 (W : World) (lots : Int) (A : Option Addr) (n c : Nat) (L : List Ofr) (hL : OffAt W.heap.size W A n L) (hc : n ≤ c) (hcb : c ≤ 9223372036854775807) (okL : ∀ o ∈ L, okI o)
    (cs : Array Value) (sl : Nat → Nat) (hcs : cs.size = 4) (hsl : ∀ i, i < 4 → cs[i]? = some (.int .u64 (sl i : Nat)) ∧ sl i < 18446744073709551616)
    (A' : Option Addr) (n' c' : Nat) (M : List Ofr) (hM : OffAt W.heap.size W A' n' M) (hc' : n' ≤ c') (hcb' : c' ≤ 9223372036854775807) (okM : ∀ o ∈ M, okI o) (order : Nat) (hor : order ≤ 255) :
    Calls Try.prog 12 #[.int .i64 lots, .slice A n c, .agg cs, .slice A' n' c', .int .u8 order] W fun e w' => e = .returned (.bool true) ∧ Below W.heap.size W w' := by
  have mixed := mixedOrders
  obtain ⟨p, hp⟩ : ∃ p, W.heap.size = p := ⟨_, rfl⟩
  obtain ⟨W1, hW1⟩ : ∃ W1, W.alloc (.cells cs 92) = W1 := ⟨_, rfl⟩
  have HB1 : Hid (Below p W W1) := by show Below _ _ _; rw [← hW1, ← hp]; exact (Below.refl _ _).alloc (Nat.le_refl _) _
  have HP1 : Hid (W1.heap[p]? = some (.cells cs 92 (0, 0))) := by show _ = _; rw [← hW1, ← hp]; exact heap_alloc_new _ _
  have HP := hide hp
  have HL := hide hL
  have HC : Hid ((n ≤ c ∧ c ≤ 9223372036854775807) ∧ n' ≤ c' ∧ c' ≤ 9223372036854775807) := ⟨⟨hc, hcb⟩, hc', hcb'⟩
  have HC0 := HC
  have HSL := hide hsl
  have HCS := hide hcs
  have HM := hide hM
  have HOL := hide okL
  have HOM := hide okM
  have HOR := hide hor
  clear hL hc hcb okL hcs hsl hM hc' hcb' okM hor
  have HBL : Hid (∀ w', Below W1.heap.size W1 w' → Below W.heap.size W w') := fun w' hw => by
    have h1 := HB1.out
    rw [← HP.out] at h1
    exact h1.trans (hw.mono h1.size)
  by_cases hlots : 1 ≤ lots ∧ lots ≤ 12
  · have HN := hide (New_any hlots.1 hlots.2 W1)
    obtain ⟨lt, rfl⟩ : ∃ lt : Nat, lots = lt := ⟨lots.toNat, by omega⟩
    have HLT : Hid (1 ≤ lt ∧ lt ≤ 12) := ⟨by omega, by omega⟩
    clear hlots
    go_enter Try.func12, Try.ntmps12
    go_wp2_with fail
    clear hW1 hp
    refine HN.out.mono ?_
    rintro e W2 ⟨b, rfl, hb, ht, hbl⟩
    have HT2 := hide ht
    have HB2 := hide hbl
    have HBP : Hid (p < b) := by have := (Array.getElem?_eq_some_iff.1 HP1.out).1; show p < b; omega
    clear hb ht hbl HN
    have HA := hide (fun w => alive_w w)
    go_upto_region 2 with (fail)
    by_cases hl8 : n ≤ 8
    · by_cases hm4 : n' ≤ 4
      · have q1 : ¬ (8 : Int) < (n : Int) := by omega
        have q2 : ¬ (4 : Int) < (n' : Int) := by omega
        have HNN : Hid (n ≤ 8 ∧ n' ≤ 4) := ⟨hl8, hm4⟩
        clear hl8 hm4 HA
        go_upto_region 4 with (fail)
        go_upto_region 7 with (fail)
        obtain ⟨s, hs⟩ : ∃ s, W2.heap.size = s := ⟨_, rfl⟩
        obtain ⟨W3, hW3⟩ : ∃ W3, W2.alloc (.cells #[.slice none 0 0, .slice none 0 0, .slice none 0 0, .slice none 0 0] 93) = W3 := ⟨_, rfl⟩
        rw [hW3, hs]
        have hb3 : Below W2.heap.size W2 W3 := by rw [← hW3]; exact (Below.refl _ _).alloc (Nat.le_refl _) _
        have hz1 : p < W1.heap.size := (Array.getElem?_eq_some_iff.1 HP1.out).1
        have hb13 : Below W1.heap.size W1 W3 := HB2.out.trans (hb3.mono HB2.out.size)
        have HBPS : Hid (p < b ∧ b < s ∧ p < s) := by
          have h1 : b < s := by rw [← hs]; exact HT2.out.lt
          have h2 := HBP.out
          exact ⟨h2, h1, by omega⟩
        have HF3 : Hid (Bu W p s b cs (TdV.new lt) W3 (fun _ => .slice none 0 0) (setQ lt L 0)) := ⟨⟨fun j hj => World.ownsRow_nil _ _ _ _, fun i j _ _ _ k hk => by cases hk⟩, by rw [← hW3, ← hs]; exact heap_alloc_new _ _, (hb13.block p hz1).trans HP1.out, HT2.out.below hb3, HB1.out.trans (hb13.mono (Nat.le_of_lt hz1))⟩
        clear hb3 hz1 hb13 hW3 hs HT2 HB2 HBL HP1 HB1 HBP
        go_loopw [15] (fun vi wr => ∃ (i : Nat) (F : Nat → Value), i ≤ n ∧ vi = .int .i64 i ∧ Hid (Bu W p s b cs (TdV.new lt) wr F (setQ lt L i)) ∧ Hid (∀ j, setQ lt L i j = [] → F j = .slice none 0 0)) (fun vi _ => n - (intOf vi).toNat)
        case atStart => exact ⟨0, fun _ => .slice none 0 0, Nat.zero_le _, rfl, HF3, fun _ _ => rfl⟩
        case round =>
          obtain ⟨i, F, hi, rfl, HF, HNL⟩ := hrel
          by_cases hlt : i < n
          · have hlt' : (i : Int) < (n : Int) := by omega
            have HI := hide hlt
            have hpw : p ≤ wr.heap.size := by have h3 := HF.out.bel.size; have h4 := HP.out; omega
            obtain ⟨bl, off, hA, hbl, l0, l1, l2⟩ := HL.out.at_ hlt
            rw [HP.out] at hbl
            have hbw := HF.out.bel
            have c0 := (hbw.cell (p := ⟨bl, off + i * 3, none⟩) hbl).trans l0
            have c1 := (hbw.cell (p := ⟨bl, off + i * 3 + 1, none⟩) hbl).trans l1
            have c2 := (hbw.cell (p := ⟨bl, off + i * 3 + 2, none⟩) hbl).trans l2
            obtain ⟨d, hd⟩ : ∃ d, i % 4 = d := ⟨_, rfl⟩
            have er : Int.tmod (i : Int) 4 = (d : Int) := by rw [Int.tmod_eq_emod_of_nonneg (by omega)]; omega
            have er2 : (i : Int) % 4 = (d : Int) := by omega
            have HD := hide hd
            have HD4 : Hid (d < 4) := by show d < 4; omega
            have HO : Hid (offQ L i = ((d : Int), (oA L i).2.1, (oA L i).2.2)) := by show _ = _; unfold offQ; rw [hd]
            obtain ⟨x0, hx0⟩ : ∃ x, (oA L i).1 = x := ⟨_, rfl⟩
            obtain ⟨x1, hx1⟩ : ∃ x, (oA L i).2.1 = x := ⟨_, rfl⟩
            obtain ⟨x2, hx2⟩ : ∃ x, (oA L i).2.2 = x := ⟨_, rfl⟩
            rw [hx1, hx2] at HO
            rw [hx0] at c0
            rw [hx1] at c1
            rw [hx2] at c2
            have HPW := hide hpw
            have HAA := hide hA
            have q3 : n ≤ 8 := HNN.out.1
            obtain ⟨w0, rfl⟩ : ∃ w0, w0 = wr := ⟨_, rfl⟩
            subst hA
            clear hi hlt hpw hbl l0 l1 l2 hbw hx0 hx1 hx2 hd
            go_upto_region 12 with (fail)
            obtain ⟨q, hqq⟩ : ∃ q, w0.heap.size = q := ⟨_, rfl⟩
            obtain ⟨W4, hW4⟩ : ∃ W4, w0.alloc (.cells #[.int .i64 d, .int .i64 x1, .int .i64 x2] 72) = W4 := ⟨_, rfl⟩
            rw [hW4, hqq]
            have HB4 : Hid (Below w0.heap.size w0 W4) := by show Below _ _ _; rw [← hW4]; exact (Below.refl _ _).alloc (Nat.le_refl _) _
            have HQ4 : Hid (W4.heap[q]? = some (.cells #[.int .i64 d, .int .i64 x1, .int .i64 x2] 72 (0, 0))) := by show _ = _; rw [← hW4, ← hqq]; exact heap_alloc_new _ _
            have HQF : Hid (∀ j, j < 5 → ∀ k, (F j).ownBlock = some k → k < q) := fun j hj k e => by rw [← hqq]; exact ((HF.out.rws.row j hj).lt k e).2
            have HZ4 : Hid (p ≤ q ∧ W4.heap.size = q + 1) := ⟨by rw [← hqq]; exact HPW.out, by rw [← hW4, ← hqq]; simp⟩
            have HF4 := hide (HF.out.grown HB4.out HPW.out)
            have hQ4 := HQ4.out
            have k0 : W4.cell? ⟨q, 0, none⟩ = some (.int .i64 d) := by simp [World.cell?, hQ4]
            have k1 : W4.cell? ⟨q, 1, none⟩ = some (.int .i64 x1) := by simp [World.cell?, hQ4]
            have k2 : W4.cell? ⟨q, 2, none⟩ = some (.int .i64 x2) := by simp [World.cell?, hQ4]
            have HG := hide (Good_w W4 lt HLT.out.1 HLT.out.2 ((d : Int), x1, x2))
            obtain ⟨gd, hgd⟩ : ∃ gd, validB lt ((d : Int), x1, x2) = gd := ⟨_, rfl⟩
            rw [hgd] at HG
            have HST := hide (setQ_step lt L HD.out)
            rw [HO.out, hgd] at HST
            clear hQ4 c0 c1 c2 hW4 hqq hgd er er2
            go_wp2_with fail
            refine HG.out.mono ?_
            rintro e wG ⟨rfl, hbG⟩
            have HFG := hide (HF4.out.grown hbG (by have := HZ4.out; omega))
            have HQG : Hid (wG.heap[q]? = some (.cells #[.int .i64 d, .int .i64 x1, .int .i64 x2] 72 (0, 0))) := (hbG.block q (by have := HZ4.out; omega)).trans HQ4.out
            have HZG : Hid (q + 1 ≤ wG.heap.size) := by have := HZ4.out.2; have := hbG.size; show _ ≤ _; omega
            have HIN : Hid (i + 1 ≤ n) := HI.out
            clear hbG k0 k1 k2 HG HF4 HQ4 HB4 HF
            cases gd with
            | false =>
              have HS : Hid (setQ lt L (i + 1) = setQ lt L i) := by have := HST.out; rwa [if_neg (by decide)] at this
              have HFN : Hid (Bu W p s b cs (TdV.new lt) wG F (setQ lt L (i + 1))) := by show Bu _ _ _ _ _ _ _ _ _; rw [HS.out]; exact HFG.out
              have HNN2 : Hid (∀ j, setQ lt L (i + 1) j = [] → F j = .slice none 0 0) := by show ∀ j, _; rw [HS.out]; exact HNL.out
              clear HST HNL
              go_wp2_with fail
              go_roundw
              case rel => exact ⟨i + 1, F, HIN.out, by go_num, HFN, HNN2⟩
              case measure => have := HIN.out; simp [intOf]; omega
            | true =>
              have HS : Hid (setQ lt L (i + 1) = updN (setQ lt L i) d (setQ lt L i d ++ [((d : Int), x1, x2)])) := by have := HST.out; rwa [if_pos rfl] at this
              clear HST
              have hQ4 := HQG.out
              have hS4 := HFG.out.box
              have hd4 := HD4.out
              have hFd : (#[F 0, F 1, F 2, F 3] : Array Value)[d]? = some (F d) := by
                have hcase : d = 0 ∨ d = 1 ∨ d = 2 ∨ d = 3 := by omega
                rcases hcase with rfl | rfl | rfl | rfl <;> rfl
              have c0 : wG.cell? ⟨q, 0, none⟩ = some (.int .i64 d) := by simp [World.cell?, hQ4]
              have c1 : wG.cell? ⟨q, 1, none⟩ = some (.int .i64 x1) := by simp [World.cell?, hQ4]
              have c2 : wG.cell? ⟨q, 2, none⟩ = some (.int .i64 x2) := by simp [World.cell?, hQ4]
              have c3 : wG.cell? ⟨s, d, none⟩ = some (F d) := by simp only [World.cell?, hS4]; exact hFd
              obtain ⟨fd, hfd⟩ : ∃ fd, F d = fd := ⟨_, rfl⟩
              rw [hfd] at c3
              have hd6 : (d : Int) < 4 := by omega
              obtain ⟨z, hz⟩ : ∃ z, wG.heap.size = z := ⟨_, rfl⟩
              obtain ⟨W5, hW5⟩ : ∃ W5, (wG.alloc (.cells #[.int .i64 d, .int .i64 x1, .int .i64 x2] 72)).drew = W5 := ⟨_, rfl⟩
              have HB5 : Hid (Below wG.heap.size wG W5) := by show Below _ _ _; rw [← hW5]; exact ((Below.refl _ _).alloc (Nat.le_refl _) _).drew
              have hqz : q < wG.heap.size := by have := HZG.out; omega
              have hpq := HZ4.out.1
              have hQ5 : W5.heap[z]? = some (.cells #[.int .i64 d, .int .i64 x1, .int .i64 x2] 72 (0, 0)) := by rw [← hW5, ← hz]; exact heap_alloc_new _ _
              have hp5 : p ≤ W5.heap.size := by have h1 := HB5.out.size; omega
              have HF5 := hide (HFG.out.grown HB5.out (by omega))
              obtain ⟨v6, W6, hap, hown, hgr, hat⟩ := app_run (HF5.out.rws.row d (by omega)) hp5 (by have := setQ_len lt L i d; have := HI.out; have := HNN.out.1; omega) ((d : Int), x1, x2) hQ5 1 22
              obtain ⟨a6, c6, rfl⟩ := own_slice hown
              have HF6 := hide (HF5.out.grow hp5 (k := d) (by omega) (l := [((d : Int), x1, x2)]) (by rw [List.length_append, cellsO_append]; exact hown) hgr hat)
              rw [hfd] at hap
              have e0 : W5.cell? ⟨q, 0, none⟩ = some (.int .i64 d) := (HB5.out.cell (p := ⟨q, 0, none⟩) hqz).trans c0
              have e1 : W5.cell? ⟨q, 1, none⟩ = some (.int .i64 x1) := (HB5.out.cell (p := ⟨q, 1, none⟩) hqz).trans c1
              have e2 : W5.cell? ⟨q, 2, none⟩ = some (.int .i64 x2) := (HB5.out.cell (p := ⟨q, 2, none⟩) hqz).trans c2
              have e3 : W5.cell? ⟨s, d, none⟩ = some fd := (HB5.out.cell (p := ⟨s, d, none⟩) (Array.getElem?_eq_some_iff.1 hS4).1).trans c3
              have hS6 := HF6.out.2.1
              have e4 : W6.cell? ⟨s, d, none⟩ = some fd := by simp only [World.cell?, hS6]; rw [hFd, hfd]; rfl
              have e5 : W6.frozen? ⟨s, d, none⟩ = false := by simp [World.frozen?, hS6]
              have HFS := hide (Bu.stored HF6.out (by omega : d < 4) HBPS.out.2.2 HBPS.out.2.1 (Nat.le_trans hp5 hgr.size))
              rw [← HS.out] at HFS
              have HNN2 : Hid (∀ j, setQ lt L (i + 1) j = [] → updN F d (.slice a6 ((setQ lt L i d).length + 1) c6) j = .slice none 0 0) := fun j hj => by
                rw [HS.out] at hj
                by_cases e : j = d
                · subst e
                  rw [updN_same] at hj
                  simp at hj
                · rw [updN_other _ _ e] at hj ⊢
                  exact HNL.out j hj
              clear hgr hown hat hQ5 hS4 hQ4 hp5 hFd hS6 hpq hqz hfd hd4 HNL
              go_upto_region 13 with (fail)
              go_region_law (first | (refine step_append_run rfl (.tmp 88) (.tmp 90) 22 rfl _ _ _ rfl rfl hap ?_))
              all_goals
                go_wp2_with fail
                go_roundw
                case rel => exact ⟨i + 1, _, HIN.out, by go_num, HFS.out.1, HNN2⟩
                case measure => have := HIN.out; simp [intOf]; omega
          · obtain rfl : i = n := by omega
            have hlt' : ¬ (i : Int) < (i : Int) := by omega
            clear hi hlt HF3
            go_upto_region 14 with (fail)
            obtain ⟨S, hS⟩ : ∃ S, setQ lt L i = S := ⟨_, rfl⟩
            have HS2 : Hid (∀ j, (S j).length ≤ 2) := fun j => by rw [← hS]; exact setQ_two lt L HNN.out.1 j
            have HSV : Hid (∀ j, ∀ o ∈ S j, validB lt o = true ∧ o.1 = j) := fun j o ho => by rw [← hS] at ho; exact setQ_mem ho
            have HSO : Hid (∀ j, ∀ o ∈ S j, okI o) := fun j o ho => valid_okI HLT.out.2 (HSV.out j o ho).1
            have HS4 : Hid (∀ j, 4 ≤ j → S j = []) := fun j hj => by rw [← hS]; exact setQ_four lt L i hj
            rw [hS] at HF HNL
            have HF0 : Hid (Bu W p s b cs (tdR S sl order lt 0) wr F (updN S 4 ((List.range 0).flatMap S))) := by show Bu _ _ _ _ _ _ _ _ _; rw [updN_self S 4 (show S 4 = (List.range 0).flatMap S from HS4.out 4 (by decide))]; exact HF.out
            have hf4 : F 4 = .slice none 0 0 := HNL.out 4 (HS4.out 4 (by decide))
            have HFL : Hid (∀ m, m ≤ 4 → ((List.range m).flatMap S).length ≤ 2 * m) := fun m _ => by
              induction m with
              | zero => simp
              | succ m ih =>
                have e : ([m].flatMap S) = S m := by simp
                rw [List.range_succ, List.flatMap_append, List.length_append, e]
                have := HS2.out m
                have := ih (by omega)
                omega
            have HFN0 := hide hf4
            have HNL0 : Hid (∀ j, j < 4 → S j = [] → F j = .slice none 0 0) := fun j _ h => HNL.out j h
            clear hS hf4 HF HNL
            go_upto_region 15 with (fail)
            obtain ⟨w0, rfl⟩ : ∃ w0, w0 = wr := ⟨_, rfl⟩
            go_loopw [13, 18] (fun va vb wr => ∃ (k : Nat) (F : Nat → Value), k ≤ 4 ∧ vb = .int .i64 k ∧ va = F 4 ∧ Hid (Bu W p s b cs (tdR S sl order lt k) wr F (updN S 4 ((List.range k).flatMap S))) ∧ Hid (∀ j, j < 4 → S j = [] → F j = .slice none 0 0)) (fun _ vb _ => 4 - (intOf vb).toNat)
            case atStart => exact ⟨0, F, Nat.zero_le _, rfl, HFN0.out.symm, HF0, HNL0⟩
            case round =>
              clear HF0 HFN0 HNL0
              obtain ⟨k, F, hk, rfl, rfl, HF, HNL⟩ := hrel
              by_cases hlt : k < 4
              · have hlt' : (k : Int) < 4 := by omega
                have HK := hide hlt
                have HPW : Hid (p ≤ wr.heap.size) := by show p ≤ _; have h3 := HF.out.bel.size; have h4 := HP.out; omega
                have hbx := HF.out.box
                have hFk : (#[F 0, F 1, F 2, F 3] : Array Value)[k]? = some (F k) := by
                  have hcase : k = 0 ∨ k = 1 ∨ k = 2 ∨ k = 3 := by omega
                  rcases hcase with rfl | rfl | rfl | rfl <;> rfl
                have c0 : wr.cell? ⟨s, k, none⟩ = some (F k) := by simp only [World.cell?, hbx]; exact hFk
                have r4 := HF.out.rws.row 4 (by decide)
                have rk := HF.out.rws.row k (by omega)
                rw [updN_same] at r4
                rw [updN_other _ _ (by omega : k ≠ 4)] at rk
                obtain ⟨v9, W9, hap, hown, hgr, hat⟩ := app_rows r4 rk HPW.out (by have h1 := HFL.out k (by omega); have h2 := HS2.out k; omega) 22
                have HF9 := Bu.last (HF.out.grow HPW.out (k := 4) (by decide) (l := S k) (by rw [updN_same]; exact hown) hgr hat)
                rw [updN_same, updN_twice] at HF9
                have efl : (List.range k).flatMap S ++ S k = (List.range (k + 1)).flatMap S := by
                  rw [List.range_succ, List.flatMap_append]
                  simp
                rw [efl] at HF9
                obtain ⟨a9, n9, c9, rfl⟩ : ∃ a n c, v9 = .slice a n c := by
                  obtain ⟨a, c, h⟩ := own_slice hown
                  exact ⟨a, _, c, h⟩
                have HF9' := hide HF9
                have HNL9 : Hid (∀ j, j < 4 → S j = [] → updN F 4 (.slice a9 n9 c9) j = .slice none 0 0) := fun j hj h => by rw [updN_other _ _ (by omega : j ≠ 4)]; exact HNL.out j hj h
                obtain ⟨f4, hf4⟩ : ∃ f4, F 4 = f4 := ⟨_, rfl⟩
                obtain ⟨fk, hfk⟩ : ∃ fk, F k = fk := ⟨_, rfl⟩
                rw [hf4, hfk] at hap
                rw [hf4]
                rw [hfk] at c0
                have HP9 : Hid (p ≤ W9.heap.size) := Nat.le_trans HPW.out hgr.size
                clear hk hlt hbx hFk r4 rk hown hgr hat HF9 efl hf4 hfk HF HNL
                go_upto_region 18 with (at_builtin; refine wpList_append_run rfl (.tmp 97) (.tmp 100) 22 rfl _ _ _ rfl rfl hap ?_)
                obtain ⟨d, hd⟩ : ∃ d, (k + order) % 4 = d := ⟨_, rfl⟩
                have hd4 : d < 4 := by omega
                have hor := HOR.out
                have hkk := HK.out
                have w1 : IntKind.i64.wrap (order : Int) = (order : Int) := by rw [IntKind.wrap_i64]; omega
                have w2 : IntKind.i64.wrap ((k : Int) + (order : Int)) = ((k + order : Nat) : Int) := by rw [IntKind.wrap_i64]; omega
                have w2b : (k : Int) + (order : Int) = ((k + order : Nat) : Int) := by omega
                have w3 : Int.tmod ((k + order : Nat) : Int) 4 = (d : Int) := by rw [Int.tmod_eq_emod_of_nonneg (by omega)]; omega
                have w4 : ((k + order : Nat) : Int) % 4 = (d : Int) := by omega
                have HD := hide hd
                have HD4 := hide hd4
                obtain ⟨ko, hko⟩ : ∃ ko, k + order = ko := ⟨_, rfl⟩
                rw [hko] at w2 w2b w3 w4
                have w5 : wrap64 (ko : Int) = (ko : Int) := IntWalk.wrap64_in _ ⟨by omega, by omega⟩
                clear hd hd4 hor hkk hko c0
                go_upto_region 19 with (fail)
                clear w1 w2 w2b w3 w4 w5
                have hd4 := HD4.out
                have hbx := HF9'.out.box
                have hFd := arr4 (updN F 4 (.slice a9 n9 c9)) hd4
                have rd := HF9'.out.rws.row d (Nat.lt_of_lt_of_le hd4 (by decide))
                rw [updN_other (α := List Ofr) _ _ (Nat.ne_of_lt hd4)] at rd
                obtain ⟨Ad, cd, hfd, hc1, hc2, hof, -, -⟩ := off_of_row rd
                obtain ⟨m, hm⟩ : ∃ m, (S d).length = m := ⟨_, rfl⟩
                rw [hm] at hfd hc1 hof
                have hml : maxLen = 9223372036854775807 := by decide
                rw [hml] at hc2
                obtain ⟨x, hx⟩ : ∃ x, sl d = x := ⟨_, rfl⟩
                have hxs := HSL.out d hd4
                rw [hx] at hxs
                have HC : Hid (∀ w1, Below W9.heap.size W9 w1 → w1.cell? ⟨s, d, none⟩ = some (.slice Ad m cd) ∧ w1.cell? ⟨p, d, none⟩ = some (.int .u64 (x : Nat))) := fun w1 hb => by
                  have hpx := HF9'.out.prices
                  refine ⟨(hb.cell (p := ⟨s, d, none⟩) (Array.getElem?_eq_some_iff.1 hbx).1).trans ?_, (hb.cell (p := ⟨p, d, none⟩) (Array.getElem?_eq_some_iff.1 hpx).1).trans ?_⟩
                  · simp only [World.cell?, hbx]
                    rw [hFd, hfd]
                    rfl
                  · simp only [World.cell?, hpx]
                    rw [hxs.1]
                    rfl
                have HKS : Hid (∀ w1, Below W9.heap.size W9 w1 → Calls Try.prog 28 #[.slice Ad m cd, .int .u64 (x : Nat)] w1 (fun e w' => e = .returned (.int .u64 (sealW (S d) x : Nat)) ∧ Below w1.heap.size w1 w')) := fun w1 hb => Seal_w w1 Ad m cd (S d) x (hof.now hb (Nat.le_refl _)) hc1 hc2 (HSO.out d) (by rw [← hm]; exact Nat.le_trans (HS2.out d) (by decide)) hxs.2
                obtain ⟨se, hse⟩ : ∃ se, sealW (S d) x = se := ⟨_, rfl⟩
                rw [hse] at HKS
                have HSE : Hid (tdR S sl order lt (k + 1) = (tdR S sl order lt k).sealed d se) := by
                  show (tdR S sl order lt k).sealed ((k + order) % 4) (sealW (S ((k + order) % 4)) (sl ((k + order) % 4))) = _
                  rw [HD.out, hx, hse]
                have HTL := hide (tdR_lots S sl order lt k)
                have HLP : Hid (lt ≠ 0) := by have := HLT.out; show lt ≠ 0; omega
                have c0 := HC.out W9 (Below.refl _ _)
                have HD0 : Hid (Below W9.heap.size W9 W9.drew) := (Below.refl _ W9).drew
                have C1 := hide (HKS.out W9.drew HD0.out)
                have cc := HC.out W9.drew HD0.out
                have q4 : (d : Int) < 4 := by omega
                clear hd4 hbx hFd rd hfd hc1 hc2 hof hm hml hx hxs hse
                go_region_held3 (fun w' => w'.cell? ⟨s, d, none⟩ = some (.slice Ad m cd) ∧ w'.cell? ⟨p, d, none⟩ = some (.int .u64 (x : Nat)))
                  (first | exact c0 | exact cc | exact HC.out _ HBA.out | exact cB)
                  (first
                    | (go_at_call 28; (with_reducible refine C1.out.mono ?_); rintro e wA ⟨rfl, hbA⟩; have HBA : Hid (Below W9.heap.size W9 wA) := HD0.out.trans hbA; have C2 := hide (Submit_any (HF9'.out.tdr.below HBA.out) (by rw [HTL.out.1]; have := HLP.out; omega) HTL.out.2 (by have := HD4.out; omega : d < 8) se))
                    | (go_at_call 40; (with_reducible refine C2.out.mono ?_); rintro e wB ⟨rfl, htB, hgB⟩; have HFB : Hid (Bu W p s b cs (tdR S sl order lt (k + 1)) wB (updN F 4 (.slice a9 n9 c9)) (updN S 4 ((List.range (k + 1)).flatMap S))) := (by rw [HSE.out]; exact Bu.turned (HF9'.out.grown HBA.out HP9.out) hgB htB HBPS.out.1 HBPS.out.2.1 (Nat.le_trans HP9.out HBA.out.size)); have cB : wB.cell? ⟨s, d, none⟩ = some (.slice Ad m cd) ∧ wB.cell? ⟨p, d, none⟩ = some (.int .u64 (x : Nat)) := ⟨hgB.cell (HC.out _ HBA.out).1 (fun e => by injection e with e; have e : _ = b := e; have := HBPS.out; dsimp only at e; omega), hgB.cell (HC.out _ HBA.out).2 (fun e => by injection e with e; have e : _ = b := e; have := HBPS.out; dsimp only at e; omega)⟩))
                have HIN : Hid (k + 1 ≤ 4) := HK.out
                have HFQ : Hid (updN F 4 (.slice a9 n9 c9) 4 = .slice a9 n9 c9) := updN_same _ _ _
                go_wp2_with fail
                go_roundw
                case rel => exact ⟨k + 1, _, HIN.out, by go_num, HFQ.out.symm, HFB, HNL9⟩
                case measure => have := HIN.out; simp [intOf]; omega
              · obtain rfl : k = 4 := by omega
                have hlt' : ¬ (4 : Int) < 4 := by omega
                clear hk hlt
                go_upto_region 21 with (fail)
                have HPW : Hid (p ≤ wr.heap.size) := by show p ≤ _; have h3 := HF.out.bel.size; have h4 := HP.out; omega
                have hts := tdR_lots S sl order lt 4
                have C3 := hide (Shut_any HF.out.tdr (by rw [hts.1]; have := HLT.out; omega) hts.2)
                obtain ⟨t, ht⟩ : ∃ t, order / 4 = t := ⟨_, rfl⟩
                have HTT := hide ht
                clear hts ht
                go_wp2_with fail
                refine C3.out.mono ?_
                rintro e wS ⟨rfl, htS, hgS⟩
                have HFS := hide (HF.out.turned hgS htS HBPS.out.1 HBPS.out.2.1 HPW.out)
                have HK0 := hide (bdK_zero S sl order lt t)
                obtain ⟨v1, hv1⟩ : ∃ v1 : TdV, { tdR S sl order lt 4 with state := 1 } = v1 := ⟨_, rfl⟩
                rw [hv1] at HFS HK0
                obtain ⟨ALL, hALL⟩ : ∃ ALL, (List.range 4).flatMap S = ALL := ⟨_, rfl⟩
                have HALL := hide hALL
                rw [hALL] at HFS
                obtain ⟨f4, hf4⟩ : ∃ f4, F 4 = f4 := ⟨_, rfl⟩
                have HF4 := hide hf4
                have HFNL := HNL
                rw [hf4]
                clear htS hgS C3 HF HPW hv1 hALL hf4
                go_upto_region 24 with (fail)
                obtain ⟨w1, rfl⟩ : ∃ w1, w1 = wS := ⟨_, rfl⟩
                go_loopw [20] (fun vb wr => ∃ (k : Nat) (v : TdV), k ≤ 4 ∧ vb = .int .i64 k ∧ Hid (BdK S sl t lt k v) ∧ Hid (Bu W p s b cs v wr F (updN S 4 ALL))) (fun vb _ => 4 - (intOf vb).toNat)
                case atStart => exact ⟨0, v1, Nat.zero_le _, rfl, HK0, HFS⟩
                case round =>
                  clear HFS HK0
                  obtain ⟨k, v, hk, rfl, HK, HF⟩ := hrel
                  by_cases hlt : k < 4
                  · have hlt' : (k : Int) < 4 := by omega
                    have HKL := hide hlt
                    obtain ⟨d, hd⟩ : ∃ d, (k + t) % 4 = d := ⟨_, rfl⟩
                    have hd4 : d < 4 := by omega
                    have hor := HOR.out
                    have htt := HTT.out
                    have w1 : IntKind.i64.wrap (order : Int) = (order : Int) := by rw [IntKind.wrap_i64]; omega
                    have w0a : Int.tdiv (order : Int) 4 = (t : Int) := by rw [Int.tdiv_eq_ediv_of_nonneg (by omega)]; omega
                    have w0b : (order : Int) / 4 = (t : Int) := by omega
                    obtain ⟨kt, hkt⟩ : ∃ kt, k + t = kt := ⟨_, rfl⟩
                    have w2 : IntKind.i64.wrap ((k : Int) + (t : Int)) = (kt : Int) := by rw [IntKind.wrap_i64]; omega
                    have w2b : (k : Int) + (t : Int) = (kt : Int) := by omega
                    have w3 : Int.tmod (kt : Int) 4 = (d : Int) := by rw [Int.tmod_eq_emod_of_nonneg (by omega)]; omega
                    have w4 : (kt : Int) % 4 = (d : Int) := by omega
                    have w5 : wrap64 (kt : Int) = (kt : Int) := IntWalk.wrap64_in _ ⟨by omega, by omega⟩
                    have w6 : wrap64 (t : Int) = (t : Int) := IntWalk.wrap64_in _ ⟨by omega, by omega⟩
                    have HD := hide hd
                    have HD4 := hide hd4
                    clear hk hlt hd hd4 hor htt hkt
                    go_upto_region 27 with (fail)
                    clear w1 w0a w0b w2 w2b w3 w4 w5 w6 hlt'
                    have hd4 := HD4.out
                    have HPW : Hid (p ≤ wr.heap.size) := by show p ≤ _; have h3 := HF.out.bel.size; have h4 := HP.out; omega
                    have hbx := HF.out.box
                    have hpx := HF.out.prices
                    have hFd := arr4 F hd4
                    have rd := HF.out.rws.row d (Nat.lt_of_lt_of_le hd4 (by decide))
                    rw [updN_other (α := List Ofr) _ _ (Nat.ne_of_lt hd4)] at rd
                    have HRD := hide rd
                    obtain ⟨Ad, cd, hfd, hc1, hc2, hof, -, -⟩ := off_of_row rd
                    obtain ⟨m, hm⟩ : ∃ m, (S d).length = m := ⟨_, rfl⟩
                    have HM2 : Hid ((S d).length = m ∧ m ≤ 2) := ⟨hm, by rw [← hm]; exact HS2.out d⟩
                    rw [hm] at hfd hc1 hof
                    have HFD := hide hfd
                    have hml : maxLen = 9223372036854775807 := by decide
                    rw [hml] at hc2
                    obtain ⟨x, hx⟩ : ∃ x, sl d = x := ⟨_, rfl⟩
                    have hxs := HSL.out d hd4
                    rw [hx] at hxs
                    have HXX : Hid (sl d = x ∧ x < 18446744073709551616) := ⟨hx, hxs.2⟩
                    have HWB : Hid (∀ w1, Hid (Below wr.heap.size wr w1) → Below W.heap.size W w1) := fun w1 hb => by
                      have h1 := HF.out.bel
                      rw [← HP.out] at h1
                      exact h1.trans (hb.out.mono h1.size)
                    have HC : Hid (∀ w1, Hid (Below wr.heap.size wr w1) → w1.cell? ⟨s, d, none⟩ = some (.slice Ad m cd) ∧ w1.cell? ⟨p, d, none⟩ = some (.int .u64 (x : Nat))) := fun w1 hb => by
                      refine ⟨(hb.out.cell (p := ⟨s, d, none⟩) (Array.getElem?_eq_some_iff.1 hbx).1).trans ?_, (hb.out.cell (p := ⟨p, d, none⟩) (Array.getElem?_eq_some_iff.1 hpx).1).trans ?_⟩
                      · simp only [World.cell?, hbx]
                        rw [hFd, hfd]
                        rfl
                      · simp only [World.cell?, hpx]
                        rw [hxs.1]
                        rfl
                    have HKo : Hid (∀ w1, Hid (Below wr.heap.size wr w1) → Calls Try.prog 20 #[.slice A' n' c', .slice Ad m cd] w1 (fun e w' => e = .returned (.bool (decide (M = S d))) ∧ Below w1.heap.size w1 w')) := fun w1 hb => offers_w w1 A' n' c' M Ad m cd (S d) (HM.out.now (HWB.out w1 hb) (Nat.le_refl _)) (hof.now hb.out (Nat.le_refl _)) HC0.out.2.1 hc1 HC0.out.2.2 hc2 HOM.out (HSO.out d)
                    have HKa : Hid (∀ w1, Hid (Below wr.heap.size wr w1) → Calls Try.prog 28 #[.slice A' n' c', .int .u64 (x : Nat)] w1 (fun e w' => e = .returned (.int .u64 (sealW M x : Nat)) ∧ Below w1.heap.size w1 w')) := fun w1 hb => Seal_w w1 A' n' c' M x (HM.out.now (HWB.out w1 hb) (Nat.le_refl _)) HC0.out.2.1 HC0.out.2.2 HOM.out (Nat.le_trans HNN.out.2 (by decide)) hxs.2
                    have HKb : Hid (∀ w1, Hid (Below wr.heap.size wr w1) → Calls Try.prog 28 #[.slice Ad m cd, .int .u64 (x : Nat)] w1 (fun e w' => e = .returned (.int .u64 (sealW (S d) x : Nat)) ∧ Below w1.heap.size w1 w')) := fun w1 hb => Seal_w w1 Ad m cd (S d) x (hof.now hb.out (Nat.le_refl _)) hc1 hc2 (HSO.out d) (Nat.le_trans HM2.out.2 (by decide)) hxs.2
                    have HSHW := hide (bdK_show HK.out HKL.out HD.out (HSV.out d) (HS2.out d) (by have := bdK_count HK.out (Nat.le_of_lt HKL.out) HS2.out; have := HS2.out d; omega))
                    rw [hx] at HSHW
                    have HKc : Hid (sealW M x ≠ sealW (S d) x → ∀ w1, Hid (Below wr.heap.size wr w1) → Calls Try.prog 42 #[tp b, .int .i64 d, .slice A' n' c', .int .u64 (x : Nat)] w1 (fun e w' => e = .returned (.int .i64 11) ∧ Below w1.heap.size w1 w')) := fun hne w1 hb => by
                      have h11 := HSHW.out.2.1 (sealW M x) M hne
                      have := Show_bad (HF.out.tdr.below hb.out) (lots := lt) HK.out.lots HLT.out.1 HLT.out.2 HK.out.state (d : Int) A' n' c' M (HM.out.now (HWB.out w1 hb) (Nat.le_refl _)) (Nat.le_trans HNN.out.2 (by decide)) x (sealW M x) (fun w2 hb2 => HKa.out w2 (bel_next hb hb2)) (by rw [h11]; decide)
                      rw [h11] at this
                      exact this
                    have q4 : (d : Int) < 4 := by omega
                    have HB0 : Hid (Below wr.heap.size wr wr) := Below.refl _ _
                    have HBD : Hid (Below wr.heap.size wr wr.drew) := (Below.refl _ wr).drew
                    have c0 := HC.out wr HB0
                    clear hd4 hbx hpx hFd rd hfd hc1 hc2 hof hm hml hx hxs
                    go_cut [161] (fun sv wx => sv = .bool false ∧ Hid (Below wr.heap.size wr wx))
                    case first => as_aux_lemma =>
                      have C1 : ∀ q : BelOf wr, q.w'.cell? ⟨s, d, none⟩ = some (.slice Ad m cd) := fun q => (HC.out q.w' q.h).1
                      have C2 : ∀ q : BelOf wr, q.w'.cell? ⟨p, d, none⟩ = some (.int .u64 (x : Nat)) := fun q => (HC.out q.w' q.h).2
                      obtain ⟨eqv, heq⟩ : ∃ eqv, decide (M = S d) = eqv := ⟨_, rfl⟩
                      rw [heq] at HKo
                      have K1 := hide (fun q : BelOf wr => bel_call q (HKo.out q.w' q.h))
                      cases eqv with
                      | true =>
                        clear heq HKa HKb HKc HKo
                        refine wp_region_quiet_bel (by assumption) (by kernel_rfl) ?_
                        repeat (go_big_quiet_step (first | (go_at_call 20; with_reducible exact K1.out _)))
                        refine wpQuiet_nil ?_
                        rintro _ ⟨⟨wq, hq⟩, rfl⟩
                        have HQ := hide hq
                        clear hq
                        go_wp2_with fail
                        go_meet
                        exact ⟨rfl, HQ⟩
                      | false =>
                        obtain ⟨s1, hs1⟩ : ∃ s1, sealW M x = s1 := ⟨_, rfl⟩
                        obtain ⟨s2, hs2⟩ : ∃ s2, sealW (S d) x = s2 := ⟨_, rfl⟩
                        rw [hs1] at HKa HKc
                        rw [hs2] at HKb HKc
                        have K2 := hide (fun q : BelOf wr => bel_call q (HKa.out q.w' q.h))
                        have K3 := hide (fun q : BelOf wr => bel_call q (HKb.out q.w' q.h))
                        by_cases hne : s1 = s2
                        · have hq : ((s1 : Int) != (s2 : Int)) = false := by rw [hne]; simp
                          clear heq HKa HKb HKc HKo hs1 hs2 hne
                          refine wp_region_quiet_bel (by assumption) (by kernel_rfl) ?_
                          repeat (go_big_quiet_step (first | (go_at_call 20; with_reducible exact K1.out _) | (go_at_call 28; first | with_reducible exact K2.out _ | with_reducible exact K3.out _)))
                          refine wpQuiet_nil ?_
                          rintro _ ⟨⟨wq, hq⟩, rfl⟩
                          have HQ := hide hq
                          clear hq
                          go_wp2_with fail
                          go_meet
                          exact ⟨rfl, HQ⟩
                        · have hq : ((s1 : Int) != (s2 : Int)) = true := bne_iff_ne.2 (by omega)
                          have K4 := hide (fun q : BelOf wr => bel_call q (HKc.out hne q.w' q.h))
                          clear heq HKa HKb HKc HKo hs1 hs2 hne
                          refine wp_region_quiet_bel (by assumption) (by kernel_rfl) ?_
                          repeat (go_big_quiet_step (first | (go_at_call 20; with_reducible exact K1.out _) | (go_at_call 28; first | with_reducible exact K2.out _ | with_reducible exact K3.out _) | (go_at_call 42; with_reducible exact K4.out _)))
                          refine wpQuiet_nil ?_
                          rintro _ ⟨⟨wq, hq⟩, rfl⟩
                          have HQ := hide hq
                          clear hq
                          go_wp2_with fail
                          go_meet
                          exact ⟨rfl, HQ⟩
                    case rest => as_aux_lemma =>
                      obtain ⟨rfl, HCB⟩ := hcut
                      obtain ⟨w5, rfl⟩ : ∃ w5, w5 = wc := ⟨_, rfl⟩
                      have HF5 := hide (HF.out.grown HCB.out HPW.out)
                      have HP5 : Hid (p ≤ w5.heap.size) := Nat.le_trans HPW.out HCB.out.size
                      have c5 := HC.out w5 HCB
                      have HBD : Hid (Below wr.heap.size wr w5.drew) := HCB.out.drew
                      have c5d := HC.out w5.drew HBD
                      have HF5d := hide (HF.out.grown HBD.out HPW.out)
                      have rd := HF5d.out.rws.row d (Nat.lt_of_lt_of_le HD4.out (by decide))
                      rw [updN_other (α := List Ofr) _ _ (Nat.ne_of_lt HD4.out), HFD.out] at rd
                      have HEND := hide (fun h => by have := HFNL.out d HD4.out h; rw [HFD.out] at this; exact this : S d = [] → Value.slice Ad m cd = .slice none 0 0)
                      have hcnt := bdK_count HK.out (Nat.le_of_lt HKL.out) HS2.out
                      have hct2 : v.count + (S d).length ≤ 16 := by have := HS2.out d; omega
                      have hs0 := HSHW.out.1
                      have E1 := Show_good HF5d.out.tdr (lots := lt) HK.out.lots HLT.out.1 HLT.out.2 HK.out.state d (S d) rd HEND.out x (HSO.out d) (Nat.le_trans (HS2.out d) (by decide)) HXX.out.2 hs0 (by have := HD4.out; omega) hct2
                      have E1 := hide E1
                      have HKN := hide (bdK_succ HK.out HKL.out HS2.out)
                      rw [HD.out] at HKN
                      have HKs : Hid (∀ wB, Bu W p s b cs (v.showed d (S d)) wB F (updN S 4 ALL) → Calls Try.prog 42 #[tp b, .int .i64 d, .slice Ad m cd, .int .u64 (x : Nat)] wB (fun e w' => e = .returned (.int .i64 7) ∧ Below wB.heap.size wB w')) := fun wB hB => by
                        have rB := hB.rws.row d (Nat.lt_of_lt_of_le HD4.out (by decide))
                        rw [updN_other (α := List Ofr) _ _ (Nat.ne_of_lt HD4.out), HFD.out] at rB
                        obtain ⟨AB, cB, hfB, hB1, hB2, hoB, -, -⟩ := off_of_row rB
                        injection hfB with e1 e2 e3
                        subst e1
                        subst e3
                        rw [← e2] at hoB hB1
                        have hml : maxLen = 9223372036854775807 := by decide
                        rw [hml] at hB2
                        have h7 := HSHW.out.2.2 (sealW (S d) x) (S d)
                        have := Show_bad hB.tdr (lots := lt) HK.out.lots HLT.out.1 HLT.out.2 HK.out.state (d : Int) Ad m cd (S d) hoB (Nat.le_trans HM2.out.2 (by decide)) x (sealW (S d) x) (fun w2 hb2 => Seal_w w2 Ad m cd (S d) x (hoB.now hb2 (Nat.le_refl _)) hB1 hB2 (HSO.out d) (Nat.le_trans HM2.out.2 (by decide)) HXX.out.2) (by rw [h7]; decide)
                        rw [h7] at this
                        exact this
                      have hnb : s ≠ b ∧ p ≠ b := by have := HBPS.out; omega
                      clear rd hcnt hct2 hs0
                      go_upto_region 29 with (fail)
                      go_cut [183] (fun sv wx => sv = .bool false ∧ Hid (Bu W p s b cs (v.showed d (S d)) wx F (updN S 4 ALL)))
                      case first => as_aux_lemma =>
                        go_region_held3 (fun w' => w'.cell? ⟨s, d, none⟩ = some (.slice Ad m cd) ∧ w'.cell? ⟨p, d, none⟩ = some (.int .u64 (x : Nat)))
                          (first | exact c5 | exact c5d | exact cA | exact cE)
                          (first
                            | (go_at_call 42; (with_reducible refine E1.out.mono ?_); rintro e wA ⟨rfl, htA, hgA⟩; have HFA : Hid (Bu W p s b cs (v.showed d (S d)) wA F (updN S 4 ALL)) := Bu.turned HF5d.out hgA htA HBPS.out.1 HBPS.out.2.1 HP5.out; have cA : wA.cell? ⟨s, d, none⟩ = some (.slice Ad m cd) ∧ wA.cell? ⟨p, d, none⟩ = some (.int .u64 (x : Nat)) := ⟨hgA.cell c5d.1 (fun e => by injection e with e; exact hnb.1 e), hgA.cell c5d.2 (fun e => by injection e with e; exact hnb.2 e)⟩; have HPA : Hid (p ≤ wA.heap.size) := Nat.le_trans HP5.out hgA.size; have E2 := hide (HKs.out wA HFA.out); clear htA hgA)
                            | (go_at_call 42; (with_reducible refine E2.out.mono ?_); rintro e wE ⟨rfl, hbE⟩; have HFE := hide (HFA.out.grown hbE HPA.out); have cE : wE.cell? ⟨s, d, none⟩ = some (.slice Ad m cd) ∧ wE.cell? ⟨p, d, none⟩ = some (.int .u64 (x : Nat)) := ⟨(hbE.cell (p := ⟨s, d, none⟩) (World.block_lt_of_cell? _ _ cA.1)).trans cA.1, (hbE.cell (p := ⟨p, d, none⟩) (World.block_lt_of_cell? _ _ cA.2)).trans cA.2⟩; clear hbE))
                        go_wp2_with fail
                        go_meet
                        exact ⟨rfl, HFE⟩
                      case rest => as_aux_lemma =>
                        obtain ⟨rfl, HFE⟩ := hcut
                        obtain ⟨w6, rfl⟩ : ∃ w6, w6 = wc := ⟨_, rfl⟩
                        have HIN : Hid (k + 1 ≤ 4) := HKL.out
                        clear c5 c5d E1 HKs
                        have hk4 : (k : Int) < 4 := by have := HKL.out; omega
                        go_wp2_with fail
                        go_roundw
                        case rel => exact ⟨k + 1, _, HIN.out, by go_num, HKN, HFE⟩
                        case measure => have := HIN.out; simp [intOf]; omega
                  · obtain rfl : k = 4 := by omega
                    have hlt' : ¬ (4 : Int) < 4 := by omega
                    clear hk hlt
                    go_upto_region 31 with (fail)
                    have HPW : Hid (p ≤ wr.heap.size) := by show p ≤ _; have h3 := HF.out.bel.size; have h4 := HP.out; omega
                    have HCN : Hid (v.count ≤ 8) := bdK_count HK.out (Nat.le_refl _) HS2.out
                    have hso : sortO (v.offers.take v.count) = ALL := by rw [HK.out.offs, ← HALL.out]; exact sort_B (fun j o ho => (HSV.out j o ho).2) t HS4.out
                    have hall : ∀ o ∈ ALL, validB lt o = true := by
                      rw [← HALL.out]
                      intro o ho
                      obtain ⟨j, _, hj⟩ := List.mem_flatMap.1 ho
                      exact (HSV.out j o hj).1
                    have htk : ∀ o ∈ v.offers.take v.count, 0 ≤ o.1 ∧ o.1 ≤ 7 := by
                      rw [HK.out.offs]
                      intro o ho
                      obtain ⟨j, _, hj⟩ := List.mem_flatMap.1 ho
                      have := (HSV.out _ o hj).2
                      have h4 : (j + t) % 4 < 4 := Nat.mod_lt _ (by decide)
                      omega
                    have hlen : ALL.length = v.count := by
                      rw [HK.out.count, ← HALL.out]
                      exact len_B S t
                    have HOA : Hid (∀ o ∈ ALL, okI o) := fun o ho => valid_okI HLT.out.2 (hall o ho)
                    have hck : checkV lt (flatO ALL) v.count = 0 := by
                      have := check_flat HLT.out.1 HLT.out.2 (l := ALL) (by rw [hlen]; exact Nat.le_trans HCN.out (by decide)) hall
                      rwa [hlen] at this
                    obtain ⟨m, hm⟩ : ∃ m, v.count = m := ⟨_, rfl⟩
                    have D9 := Close_any HF.out.tdr (lots := lt) HK.out.lots HLT.out.1 HK.out.state htk (decT lt (flatO ALL) v.count) (decP lt (flatO ALL) v.count) (decW lt (flatO ALL) v.count) (fun w1 g c h1 h2 h3 h4 => by
                      rw [hso] at h4
                      have hm : maxLen = 9223372036854775807 := by decide
                      rw [hm] at h3
                      have := Decide_w w1 (some ⟨g, 0, none⟩) v.count c ALL lt h4 h2 h3 HOA.out
                      rw [hck] at this
                      exact this)
                    rw [hso] at D9
                    rw [hm] at D9 hck hlen
                    have HD9 := hide D9
                    have HCK := hide hck
                    have HLN := hide hlen
                    have HMC := hide hm
                    clear D9 hso hall htk hlen hck hm
                    go_wp2_with fail
                    refine HD9.out.mono ?_
                    rintro e wc ⟨aw, g, cg, rfl, hg1, hg2, hg3, hog, haw, htc, hgc⟩
                    have HAW := hide haw
                    obtain ⟨a1, n1, d1, a2, n2, d2, rfl, -, -, -, -, -, -, -, -⟩ := haw.isA
                    have HFc := hide (HF.out.turned hgc htc HBPS.out.1 HBPS.out.2.1 HPW.out)
                    have HPc : Hid (p ≤ wc.heap.size) := Nat.le_trans HPW.out hgc.size
                    have HOG := hide hog
                    have HGC : Hid (m ≤ cg ∧ cg ≤ 9223372036854775807) := ⟨hg2, by have hm : maxLen = 9223372036854775807 := (by decide); rw [hm] at hg3; exact hg3⟩
                    clear hg1 hg2 hg3 hog haw htc hgc HD9
                    go_upto_region 32 with (fail)
                    obtain ⟨Wd, hWd⟩ : ∃ Wd, wc.alloc (.cells #[.slice a1 n1 d1, .slice a2 n2 d2, .int .i64 (decW lt (flatO ALL) m)] 37) = Wd := ⟨_, rfl⟩
                    obtain ⟨q1, hq1⟩ : ∃ q1, wc.heap.size = q1 := ⟨_, rfl⟩
                    rw [hWd, hq1]
                    have hbd : Below wc.heap.size wc Wd := by rw [← hWd]; exact (Below.refl _ _).alloc (Nat.le_refl _) _
                    have HQ1 : Hid (Wd.heap[q1]? = some (.cells #[.slice a1 n1 d1, .slice a2 n2 d2, .int .i64 (decW lt (flatO ALL) m)] 37 (0, 0))) := by show _ = _; rw [← hWd, ← hq1]; exact heap_alloc_new _ _
                    have HFd := hide (HFc.out.grown hbd HPc.out)
                    have HPd : Hid (p ≤ Wd.heap.size) := Nat.le_trans HPc.out hbd.size
                    have HAWd := hide (HAW.out.grown (below_grownBy hbd none) (fun k e => by cases e))
                    have HOGd := hide (HOG.out.now hbd (Nat.le_refl _))
                    have r4 := HFd.out.rws.row 4 (by decide)
                    rw [updN_same] at r4
                    obtain ⟨A4, c4, hf4, hd1, hd2, hof4, -, -⟩ := off_of_row r4
                    have hml : maxLen = 9223372036854775807 := by decide
                    rw [HLN.out] at hf4 hd1 hof4
                    rw [hml] at hd2
                    rw [HF4.out] at hf4
                    subst hf4
                    have E1 := Decide_w Wd A4 m c4 ALL lt hof4 hd1 hd2 HOA.out
                    rw [HCK.out] at E1
                    have HE1 := hide E1
                    have HO4 := hide hof4
                    have HD4' : Hid (m ≤ c4 ∧ c4 ≤ 9223372036854775807) := ⟨hd1, hd2⟩
                    clear hWd hq1 hbd r4 hd1 hd2 hof4 hml E1
                    go_wp2_with fail
                    refine HE1.out.mono ?_
                    rintro e we ⟨aw2, rfl, haw2, hbe⟩
                    have HAW2 := hide haw2
                    obtain ⟨b1, m1, g1, b2, m2, g2, rfl, -, -, -, -, -, -, -, -⟩ := haw2.isA
                    have HBE := hide hbe
                    clear haw2 hbe HE1
                    go_upto_region 33 with (fail)
                    obtain ⟨Wf, hWf⟩ : ∃ Wf, we.alloc (.cells #[.slice b1 m1 g1, .slice b2 m2 g2, .int .i64 (decW lt (flatO ALL) m)] 37) = Wf := ⟨_, rfl⟩
                    obtain ⟨q2, hq2⟩ : ∃ q2, we.heap.size = q2 := ⟨_, rfl⟩
                    rw [hWf, hq2]
                    have hbf : Below we.heap.size we Wf := by rw [← hWf]; exact (Below.refl _ _).alloc (Nat.le_refl _) _
                    have HBF : Hid (Below Wd.heap.size Wd Wf) := HBE.out.trans (hbf.mono HBE.out.size)
                    have HQ2 : Hid (Wf.heap[q2]? = some (.cells #[.slice b1 m1 g1, .slice b2 m2 g2, .int .i64 (decW lt (flatO ALL) m)] 37 (0, 0))) := by show _ = _; rw [← hWf, ← hq2]; exact heap_alloc_new _ _
                    have HAW2f := hide (HAW2.out.grown (below_grownBy hbf none) (fun k e => by cases e))
                    have HAWf := hide (HAWd.out.grown (below_grownBy HBF.out none) (fun k e => by cases e))
                    have HFf := hide (HFd.out.grown HBF.out HPd.out)
                    have HPf : Hid (p ≤ Wf.heap.size) := Nat.le_trans HPd.out HBF.out.size
                    have E2 := offers_w Wf (some ⟨g, 0, none⟩) m cg ALL A4 m c4 ALL (HOGd.out.now HBF.out (Nat.le_refl _)) (HO4.out.now HBF.out (Nat.le_refl _)) HGC.out.1 HD4'.out.1 HGC.out.2 HD4'.out.2 HOA.out HOA.out
                    rw [decide_eq_true rfl] at E2
                    have HE2 := hide E2
                    clear hWf hq2 hbf E2
                    go_wp2_with fail
                    refine HE2.out.mono ?_
                    rintro e wg ⟨rfl, hbg⟩
                    have HFg := hide (HFf.out.grown hbg HPf.out)
                    have HPg : Hid (p ≤ wg.heap.size) := Nat.le_trans HPf.out hbg.size
                    have hQ1 := (hbg.block q1 (by have := (Array.getElem?_eq_some_iff.1 HQ1.out).1; have := HBF.out.size; omega)).trans ((HBF.out.block q1 (Array.getElem?_eq_some_iff.1 HQ1.out).1).trans HQ1.out)
                    have hQ2 := (hbg.block q2 (Array.getElem?_eq_some_iff.1 HQ2.out).1).trans HQ2.out
                    have x0 : wg.cell? ⟨q1, 0, none⟩ = some (.slice a1 n1 d1) := by simp [World.cell?, hQ1]
                    have x1 : wg.cell? ⟨q1, 1, none⟩ = some (.slice a2 n2 d2) := by simp [World.cell?, hQ1]
                    have x2 : wg.cell? ⟨q1, 2, none⟩ = some (.int .i64 (decW lt (flatO ALL) m)) := by simp [World.cell?, hQ1]
                    have y0 : wg.cell? ⟨q2, 0, none⟩ = some (.slice b1 m1 g1) := by simp [World.cell?, hQ2]
                    have y1 : wg.cell? ⟨q2, 1, none⟩ = some (.slice b2 m2 g2) := by simp [World.cell?, hQ2]
                    have y2 : wg.cell? ⟨q2, 2, none⟩ = some (.int .i64 (decW lt (flatO ALL) m)) := by simp [World.cell?, hQ2]
                    have hdb := dec_bd HCK.out
                    have E3 := hide (award_w wg _ _ _ _ _ _ (HAWf.out.grown (below_grownBy hbg none) (fun k e => by cases e)) (HAW2f.out.grown (below_grownBy hbg none) (fun k e => by cases e)) hdb.1 hdb.2.1 hdb.2.2.1 hdb.2.2.2)
                    obtain ⟨dw, hdw⟩ : ∃ dw, decW lt (flatO ALL) m = dw := ⟨_, rfl⟩
                    rw [hdw] at x2 y2 E3
                    clear hbg hQ1 hQ2 hdb HE2 hdw
                    go_wp2_with fail
                    refine E3.out.mono ?_
                    rintro e wh ⟨rfl, hbh⟩
                    have HFh := hide (HFg.out.grown hbh HPg.out)
                    have HPh : Hid (p ≤ wh.heap.size) := Nat.le_trans HPg.out hbh.size
                    have E4 := Missing_any HFh.out.tdr (by show v.lots ≠ 0; rw [HK.out.lots]; have := HLT.out; omega)
                    have hmv : missV { v with state := 2, count := m } = [] := by
                      have h0 := bdK_miss HK.out
                      exact h0
                    rw [hmv] at E4
                    have HE4 := hide E4
                    clear hbh E3 x0 x1 x2 y0 y1 y2 E4 hmv
                    go_wp2_with fail
                    refine HE4.out.mono ?_
                    rintro e wi ⟨ai, ni, ci, rfl, hoi, hbi⟩
                    have hni : ni = 0 := by have := hoi.1; simpa using this.symm
                    subst hni
                    have HFi := hide (HFh.out.grown hbi HPh.out)
                    have HPi : Hid (p ≤ wi.heap.size) := Nat.le_trans HPh.out hbi.size
                    have E5 := hide (alive_w wi)
                    clear hoi hbi HE4
                    go_wp2_with fail
                    refine E5.out.mono ?_
                    rintro e wj ⟨rfl, hbj⟩
                    have HFj := hide (HFi.out.grown hbj HPi.out)
                    clear hbj E5
                    go_wp2_with fail
                    go_ret
                    have hbl := HFj.out.bel
                    rw [← HP.out] at hbl
                    exact ⟨rfl, hbl⟩
      · have q1 : ¬ (8 : Int) < (n : Int) := by omega
        have q2 : (4 : Int) < (n' : Int) := by omega
        clear hl8 hm4
        go_wp2_with fail
        refine (HA.out _).mono ?_
        rintro e w3 ⟨rfl, hb3⟩
        have hB := HBL.out _ (HB2.out.trans (hb3.mono HB2.out.size))
        have HB := hide hB
        clear hB hb3 HA
        go_wp2_with fail
        go_ret
        exact ⟨rfl, HB.out⟩
    · have q1 : (8 : Int) < (n : Int) := by omega
      clear hl8
      go_wp2_with fail
      refine (HA.out _).mono ?_
      rintro e w3 ⟨rfl, hb3⟩
      have hB := HBL.out _ (HB2.out.trans (hb3.mono HB2.out.size))
      have HB := hide hB
      clear hB hb3 HA
      go_wp2_with fail
      go_ret
      exact ⟨rfl, HB.out⟩
  · have HN := hide (New_bad hlots W1)
    clear hlots
    go_enter Try.func12, Try.ntmps12
    go_wp2_with fail
    clear hW1 hp
    refine HN.out.mono ?_
    rintro e w2 ⟨rfl, rfl⟩
    have HA := hide (fun w => alive_w w)
    clear HN
    go_wp2_with fail
    refine (HA.out _).mono ?_
    rintro e w3 ⟨rfl, hb3⟩
    have HB := hide (HBL.out _ hb3)
    clear hb3 HA
    go_wp2_with fail
    go_ret
    exact ⟨rfl, HB.out⟩
end Go.Proofs.Ytpobfdhmggkbaaa
