/- Full. -/
import Derived.Test.YtpobfdhmggkbaaaWC
namespace Go.Proofs.Ytpobfdhmggkbaaa
open Go.RowKit Go.Sort Go.BigFrame
set_option maxHeartbeats 8000000 in
set_option maxRecDepth 100000 in
theorem law13 (W : World) (ps : Array Value) (pr : Nat → Int) (hps : ps.size = 17) (hpr : ∀ i, i < 17 → ps[i]? = some (.int .u16 (pr i)) ∧ 0 ≤ pr i ∧ pr i ≤ 65535) (last : Nat) (hl : last ≤ 255) :
    Calls Try.prog 13 #[.agg ps, .int .u8 last] W fun e w' => e = .returned (.bool true) ∧ Below W.heap.size W w' := by
  have mixed := mixedOrders
  obtain ⟨p, hp⟩ : ∃ p, W.heap.size = p := ⟨_, rfl⟩
  obtain ⟨W1, hW1⟩ : ∃ W1, W.alloc (.cells ps 97) = W1 := ⟨_, rfl⟩
  have HB1 : Hid (Below p W W1) := by show Below _ _ _; rw [← hW1, ← hp]; exact (Below.refl _ _).alloc (Nat.le_refl _) _
  have HP1 : Hid (W1.heap[p]? = some (.cells ps 97 (0, 0))) := by show _ = _; rw [← hW1, ← hp]; exact heap_alloc_new _ _
  have HN := hide (New_any (l := 12) (by decide) (by decide) W1)
  have HPR := hide hpr
  have HPS := hide hps
  have HL := hide hl
  clear hpr hps hl
  go_enter Try.func13, Try.ntmps13
  go_wp2_with fail
  have HP := hide hp
  clear hW1 hp
  refine HN.out.mono ?_
  rintro e W2 ⟨b, rfl, hb, ht, hbl⟩
  obtain ⟨s, hs⟩ : ∃ s, W2.heap.size = s := ⟨_, rfl⟩
  obtain ⟨W3, hW3⟩ : ∃ W3, W2.alloc (.cells #[.slice none 0 0, .slice none 0 0, .slice none 0 0, .slice none 0 0, .slice none 0 0, .slice none 0 0] 98) = W3 := ⟨_, rfl⟩
  have hb3 : Below W2.heap.size W2 W3 := by rw [← hW3]; exact (Below.refl _ _).alloc (Nat.le_refl _) _
  have hz1 : p < W1.heap.size := (Array.getElem?_eq_some_iff.1 HP1.out).1
  have HS3 : Hid (W3.heap[s]? = some (.cells #[.slice none 0 0, .slice none 0 0, .slice none 0 0, .slice none 0 0, .slice none 0 0, .slice none 0 0] 98 (0, 0))) := by show _ = _; rw [← hW3, ← hs]; exact heap_alloc_new _ _
  have HT3 := hide (ht.below hb3)
  have hb13 : Below W1.heap.size W1 W3 := hbl.trans (hb3.mono hbl.size)
  have HP3 : Hid (W3.heap[p]? = some (.cells ps 97 (0, 0))) := (hb13.block p hz1).trans HP1.out
  have HB3 : Hid (Below p W W3) := HB1.out.trans (hb13.mono (Nat.le_of_lt hz1))
  have HBP : Hid (p < b ∧ b < s ∧ p < s) := by
    have h1 : b < s := by rw [← hs]; exact ht.lt
    exact ⟨by omega, h1, by omega⟩
  have HSZ : Hid (W3.heap.size = s + 1) := by show _ = _; rw [← hW3, ← hs]; simp
  clear hb3 hz1 hb13 hb ht hbl HN HB1 HP1
  go_upto_region 7 with (fail)
  have HF3 : Hid (Fu W p s b ps (TdV.new 12) W3 (fun _ => .slice none 0 0) (setF pr 0)) := ⟨⟨fun j hj => World.ownsRow_nil _ _ _ _, fun i j _ _ _ k hk => by cases hk⟩, HS3.out, HP3.out, HT3.out, HB3.out⟩
  clear HS3 HP3 HT3 HB3 HSZ
  go_loopw [8, 9] (fun va vi wr => ∃ (i : Nat) (F : Nat → Value), i ≤ 17 ∧ vi = .int .i64 i ∧ va = F 6 ∧ Hid (Fu W p s b ps (TdV.new 12) wr F (setF pr i)) ∧ Hid (F 5 = .slice none 0 0)) (fun _ vi _ => 17 - (intOf vi).toNat)
  case atStart => exact ⟨0, fun _ => .slice none 0 0, Nat.zero_le _, rfl, rfl, HF3, rfl⟩
  case round =>
    obtain ⟨i, F, hi, rfl, rfl, HF, HF5⟩ := hrel
    by_cases hlt : i < 17
    · have hlt' : (i : Int) < 17 := by omega
      have HLT := hide hlt
      clear hi hlt
      go_upto_region 10 with (fail)
      have e4 : (i : Int) / 4 = ((i / 4 : Nat) : Int) := by omega
      rw [e4]
      obtain ⟨d, hd⟩ : ∃ d, i / 4 = d := ⟨_, rfl⟩
      obtain ⟨m, hm⟩ : ∃ m, i % 12 = m := ⟨_, rfl⟩
      have HD := hide hd
      rw [hd]
      have hm12 : m < 12 := by omega
      have er : Int.tmod (i : Int) 12 = (m : Int) := by rw [Int.tmod_eq_emod_of_nonneg (by omega)]; omega
      obtain ⟨hx, hx0, hx1⟩ := HPR.out i HLT.out
      have hq : wr.cell? ⟨p, i, none⟩ = some (.int .u16 (pr i)) := by have := HF.out.prices; simp [World.cell?, this, hx]
      obtain ⟨x, hxx⟩ : ∃ x, pr i = x := ⟨_, rfl⟩
      have HO : Hid (offF pr i = ((d : Int), wrap64 (2 ^ m), 1 + x)) := by
        show _ = _
        unfold offF
        rw [hd, hm, hxx, w64 hm12]
      rw [hxx] at hx hx0 hx1 hq
      have hw1 : IntKind.i64.wrap x = x := by rw [IntKind.wrap_i64]; omega
      have hw2 : IntKind.i64.wrap (1 + x) = 1 + x := by rw [IntKind.wrap_i64]; omega
      have hq2 : (wr.alloc (.cells #[.int .i64 0, .int .i64 0, .int .i64 0] 72)).cell? ⟨p, i, none⟩ = some (.int .u16 x) := by rw [World.cell?_alloc_some _ _ _ (by rw [hq]; rfl)]; exact hq
      clear e4 hd hm hxx hx hx0 hx1
      go_region
      obtain ⟨L, hL⟩ : ∃ L, wrap64 (2 ^ m) = L := ⟨_, rfl⟩
      rw [hL] at HO ⊢
      obtain ⟨q, hqq⟩ : ∃ q, wr.heap.size = q := ⟨_, rfl⟩
      obtain ⟨W4, hW4⟩ : ∃ W4, (wr.alloc (.cells #[.int .i64 d, .int .i64 L, .int .i64 (1 + x)] 72)).drew = W4 := ⟨_, rfl⟩
      rw [hW4, hqq]
      have HB4 : Hid (Below wr.heap.size wr W4) := by show Below _ _ _; rw [← hW4]; exact ((Below.refl _ _).alloc (Nat.le_refl _) _).drew
      have HQ4 : Hid (W4.heap[q]? = some (.cells #[.int .i64 d, .int .i64 L, .int .i64 (1 + x)] 72 (0, 0))) := by show _ = _; rw [← hW4, ← hqq]; exact heap_alloc_new _ _
      have HZ4 : Hid (W4.heap.size = q + 1 ∧ p ≤ q) := by refine ⟨by rw [← hW4, ← hqq]; simp [World.drew], ?_⟩; have h3 := HF.out.bel.size; have h4 := HP.out; omega
      have HF4 : Hid (Fu W p s b ps (TdV.new 12) W4 F (setF pr i)) := HF.out.grown HB4.out (by have h3 := HF.out.bel.size; have h4 := HP.out; omega)
      have HD5 : Hid (d < 5) := by have h1 := HD.out; have h2 := HLT.out; show d < 5; omega
      have HQF : Hid (∀ j, j < 7 → ∀ k, (F j).ownBlock = some k → k < q) := fun j hj k e => by rw [← hqq]; exact ((HF.out.rws.row j hj).lt k e).2
      clear hW4 hqq hL hq hq2 hw1 hw2 er HF HB4 hm12
      go_upto_region 11 with (fail)
      go_cut [] (fun wx => ∃ v, Hid (Fu W p s b ps (TdV.new 12) wx (updN F d v) (updN (setF pr i) d (setF pr i d ++ [((d : Int), L, 1 + x)]))) ∧ Hid (wx.heap[q]? = some (.cells #[.int .i64 d, .int .i64 L, .int .i64 (1 + x)] 72 (0, 0))))
      case first => as_aux_lemma =>
        have hd5 := HD5.out
        have hFd : (#[F 0, F 1, F 2, F 3, F 4, F 5] : Array Value)[d]? = some (F d) := by
          have hcase : d = 0 ∨ d = 1 ∨ d = 2 ∨ d = 3 ∨ d = 4 := by omega
          rcases hcase with rfl | rfl | rfl | rfl | rfl <;> rfl
        have hQ4 := HQ4.out
        have hS4 := HF4.out.box
        have c0 : W4.cell? ⟨q, 0, none⟩ = some (.int .i64 d) := by simp [World.cell?, hQ4]
        have c1 : W4.cell? ⟨q, 1, none⟩ = some (.int .i64 L) := by simp [World.cell?, hQ4]
        have c2 : W4.cell? ⟨q, 2, none⟩ = some (.int .i64 (1 + x)) := by simp [World.cell?, hQ4]
        have c3 : W4.cell? ⟨s, d, none⟩ = some (F d) := by simp only [World.cell?, hS4]; exact hFd
        obtain ⟨fd, hfd⟩ : ∃ fd, F d = fd := ⟨_, rfl⟩
        rw [hfd] at c3
        have hd6 : (d : Int) < 6 := by omega
        obtain ⟨W5, hW5⟩ : ∃ W5, (W4.alloc (.cells #[.int .i64 d, .int .i64 L, .int .i64 (1 + x)] 72)).drew = W5 := ⟨_, rfl⟩
        have HB5 : Hid (Below W4.heap.size W4 W5) := by show Below _ _ _; rw [← hW5]; exact ((Below.refl _ _).alloc (Nat.le_refl _) _).drew
        have hZ5 : W4.heap.size = q + 1 := HZ4.out.1
        have hpq := HZ4.out.2
        have hQ5 : W5.heap[q + 1]? = some (.cells #[.int .i64 d, .int .i64 L, .int .i64 (1 + x)] 72 (0, 0)) := by rw [← hW5, ← hZ5]; exact heap_alloc_new _ _
        have hp5 : p ≤ W5.heap.size := by have h1 := HB5.out.size; omega
        have HF5 := hide (HF4.out.grown HB5.out (by omega))
        obtain ⟨v6, W6, hap, hown, hgr, hat⟩ := app_run (HF5.out.rws.row d (by omega)) hp5 (by have := setF_len pr i d; have := HLT.out; omega) ((d : Int), L, 1 + x) hQ5 1 22
        obtain ⟨a6, c6, rfl⟩ := own_slice hown
        have HF6 := hide (HF5.out.grow hp5 (k := d) (by omega) (l := [((d : Int), L, 1 + x)]) (by rw [List.length_append, cellsO_append]; exact hown) hgr hat)
        have HQ6 : Hid (W6.heap[q]? = some (.cells #[.int .i64 d, .int .i64 L, .int .i64 (1 + x)] 72 (0, 0)) ∧ q ≠ s) := by
          have hne : q ≠ s := by
            intro e
            rw [e, hS4] at hQ4
            injection hQ4 with hQ4
            injection hQ4 with _ h2 _
            exact absurd h2 (by decide)
          have h5 := (HB5.out.block q (by omega)).trans hQ4
          refine ⟨(hgr.block q (Array.getElem?_eq_some_iff.1 h5).1 (fun e => ?_)).trans h5, hne⟩
          have := HQF.out d (by omega) q e.symm
          omega
        rw [hfd] at hap
        have e0 : W5.cell? ⟨q, 0, none⟩ = some (.int .i64 d) := (HB5.out.cell (p := ⟨q, 0, none⟩) (show q < _ by omega)).trans c0
        have e1 : W5.cell? ⟨q, 1, none⟩ = some (.int .i64 L) := (HB5.out.cell (p := ⟨q, 1, none⟩) (show q < _ by omega)).trans c1
        have e2 : W5.cell? ⟨q, 2, none⟩ = some (.int .i64 (1 + x)) := (HB5.out.cell (p := ⟨q, 2, none⟩) (show q < _ by omega)).trans c2
        have e3 : W5.cell? ⟨s, d, none⟩ = some fd := (HB5.out.cell (p := ⟨s, d, none⟩) (Array.getElem?_eq_some_iff.1 hS4).1).trans c3
        have hS6 := HF6.out.2.1
        have e4 : W6.cell? ⟨s, d, none⟩ = some fd := by simp only [World.cell?, hS6]; rw [hFd, hfd]; rfl
        have e5 : W6.frozen? ⟨s, d, none⟩ = false := by simp [World.frozen?, hS6]
        have HFS := hide (Fu.stored HF6.out (by omega : d < 6) HBP.out.2.2 HBP.out.2.1 (Nat.le_trans hp5 hgr.size))
        have HQS : Hid ((W6.setCell ⟨s, d, none⟩ (.slice a6 ((setF pr i d).length + 1) c6)).heap[q]? = some (.cells #[.int .i64 d, .int .i64 L, .int .i64 (1 + x)] 72 (0, 0))) := (HFS.out.2.block q (Array.getElem?_eq_some_iff.1 HQ6.out.1).1 (fun e => by injection e with e; exact HQ6.out.2 e)).trans HQ6.out.1
        clear hgr hown hat hQ5 hS4 hQ4 hp5 hFd hS6 hpq hfd
        go_region_law (first | (refine step_append_run rfl (.tmp 46) (.tmp 48) 22 rfl _ _ _ rfl rfl hap ?_))
        all_goals
          go_wp2_with fail
          go_meet
          exact ⟨_, HFS.out.1, HQS⟩
      case rest => as_aux_lemma =>
        obtain ⟨v, HF7, HQ7⟩ := hcut
        obtain ⟨w7, rfl⟩ : ∃ w7, w7 = wc := ⟨_, rfl⟩
        have HST := hide (setF_step pr HD.out HD5.out)
        rw [HO.out] at HST
        have HIN : Hid (i + 1 ≤ 17) := HLT.out
        by_cases h4 : d < 4
        · have h4' : (d : Int) < 4 := by omega
          have HS4 := hide (HST.out.1 h4)
          clear h4 HST
          obtain ⟨i0, hi0, hz0, hz1, hz2⟩ := info72p
          have hQ7 := HQ7.out
          have c0 : w7.cell? ⟨q, 0, none⟩ = some (.int .i64 d) := by simp [World.cell?, hQ7]
          have c1 : w7.cell? ⟨q, 1, none⟩ = some (.int .i64 L) := by simp [World.cell?, hQ7]
          have c2 : w7.cell? ⟨q, 2, none⟩ = some (.int .i64 (1 + x)) := by simp [World.cell?, hQ7]
          obtain ⟨W8, hW8⟩ : ∃ W8, w7.alloc (.cells #[.int .i64 d, .int .i64 L, .int .i64 (1 + x)] 72) = W8 := ⟨_, rfl⟩
          have hb8 : Below w7.heap.size w7 W8 := by rw [← hW8]; exact (Below.refl _ _).alloc (Nat.le_refl _) _
          obtain ⟨z, hz⟩ : ∃ z, w7.heap.size = z := ⟨_, rfl⟩
          have hQ8 : W8.heap[z]? = some (.cells #[.int .i64 d, .int .i64 L, .int .i64 (1 + x)] 72 (0, 0)) := by rw [← hW8, ← hz]; exact heap_alloc_new _ _
          have hp7 : p ≤ w7.heap.size := by have h3 := HF7.out.bel.size; have h4 := HP.out; omega
          have hp8 : p ≤ W8.heap.size := Nat.le_trans hp7 hb8.size
          have HF8 := hide (HF7.out.grown hb8 hp7)
          have hd6 : (6 : Nat) ≠ d := by omega
          obtain ⟨v9, W9, hap, hown, hgr, hat⟩ := app_run (HF8.out.rws.row 6 (by decide)) hp8 (by rw [updN_other _ _ hd6]; have := setF_len pr i 6; have := HLT.out; omega) ((d : Int), L, 1 + x) hQ8 1 22
          obtain ⟨a9, c9, rfl⟩ := own_slice hown
          have HF9 := hide (Fu.last (HF8.out.grow hp8 (k := 6) (by decide) (l := [((d : Int), L, 1 + x)]) (by rw [List.length_append, cellsO_append]; exact hown) hgr hat))
          rw [updN_other _ _ hd6] at hap
          have HF10 : Hid (Fu W p s b ps (TdV.new 12) W9 (updN (updN F d v) 6 (.slice a9 ((updN (setF pr i) d (setF pr i d ++ [((d : Int), L, 1 + x)]) 6).length + 1) c9)) (setF pr (i + 1))) := by
            have := HF9.out
            rw [updN_other (setF pr i) _ hd6] at this
            rw [HS4.out, updN_other (setF pr i) _ hd6]
            exact this
          obtain ⟨n9, hn9⟩ : ∃ n9, (updN (setF pr i) d (setF pr i d ++ [((d : Int), L, 1 + x)]) 6).length + 1 = n9 := ⟨_, rfl⟩
          obtain ⟨f6, hf6⟩ : ∃ f6, F 6 = f6 := ⟨_, rfl⟩
          rw [hn9] at hap HF10
          rw [hf6] at hap ⊢
          have HV5 : Hid (updN (updN F d v) 6 (.slice a9 n9 c9) 5 = .slice none 0 0) := (updN_other _ _ (by decide)).trans ((updN_other _ _ (by have := HD5.out; omega)).trans HF5.out)
          clear hgr hown hat hQ8 hp8 hp7 hQ7 hi0 hz0 hz1 hz2 hb8 HF9 HF8 hd6 hn9 hf6
          go_wp2_with (at_builtin; refine wpList_append_run rfl (.tmp 53) (.tmp 55) 22 rfl _ _ _ rfl rfl hap ?_)
          go_roundw
          case rel => exact ⟨i + 1, _, HIN.out, by go_num, (updN_same _ _ _).symm, HF10, HV5⟩
          case measure => have := HIN.out; simp [intOf]; omega
        · have h4' : ¬ (d : Int) < 4 := by omega
          have HS4 := hide (HST.out.2 h4)
          have HF10 : Hid (Fu W p s b ps (TdV.new 12) w7 (updN F d v) (setF pr (i + 1))) := by
            have := HF7.out
            rw [HS4.out]
            exact this
          have HV6 : Hid (F 6 = updN F d v 6) := (updN_other _ _ (by have := HD5.out; omega)).symm
          have HV5 : Hid (updN F d v 5 = .slice none 0 0) := (updN_other _ _ (by have := HD5.out; omega)).trans HF5.out
          clear h4 HST
          go_wp2_with fail
          go_roundw
          case rel => exact ⟨i + 1, _, HIN.out, by go_num, HV6.out, HF10, HV5⟩
          case measure => have := HIN.out; simp [intOf]; omega
    · obtain rfl : i = 17 := by omega
      have hlt' : ¬ (17 : Int) < 17 := by omega
      clear hi hlt
      have HOK : Hid (∀ j, ∀ o ∈ setF pr 17 j, okI o) := fun j => off_okI (fun i hi => (HPR.out i hi).2) (Nat.le_refl _)
      obtain ⟨S, hS⟩ : ∃ S, setF pr 17 = S := ⟨_, rfl⟩
      have HSS := hide hS
      rw [hS] at HF HOK
      have HSL : Hid (∀ j, (S j).length ≤ 17) := fun j => by rw [← hS]; exact setF_len pr 17 j
      obtain ⟨f6, hf6⟩ : ∃ f6, F 6 = f6 := ⟨_, rfl⟩
      have HF6 := hide hf6
      rw [hf6]
      have hw0 : IntKind.u64.wrap (last : Int) = (last : Int) := by have := HL.out; rw [IntKind.wrap_u64]; omega
      clear hS hf6 HF3
      go_upto_region 15 with (fail)
      obtain ⟨w0, rfl⟩ : ∃ w0, w0 = wr := ⟨_, rfl⟩
      go_loopw [12] (fun vb wr => ∃ k : Nat, k ≤ 6 ∧ vb = .int .i64 k ∧ Hid (Fu W p s b ps (tdK S last k) wr F S)) (fun vb _ => 6 - (intOf vb).toNat)
      case atStart => exact ⟨0, Nat.zero_le _, rfl, HF⟩
      case round =>
        obtain ⟨k, hk, rfl, HF⟩ := hrel
        by_cases hlt : k < 6
        · have hlt' : (k : Int) < 6 := by omega
          obtain ⟨A, c, hfk, hc1, hc2, hof, -, -⟩ := off_of_row (HF.out.rws.row k (by omega))
          obtain ⟨n, hn⟩ : ∃ n, (S k).length = n := ⟨_, rfl⟩
          have hml : maxLen = 9223372036854775807 := by decide
          rw [hn] at hfk hc1 hof
          rw [hml] at hc2
          have hn17 : n ≤ 17 := by rw [← hn]; exact HSL.out k
          have HKS : Hid (∀ w1, Below wr.heap.size wr w1 → Calls Try.prog 28 #[.slice A n c, .int .u64 (last : Int)] w1 (fun e w' => e = .returned (.int .u64 (sealW (S k) last : Nat)) ∧ Below w1.heap.size w1 w')) := fun w1 hb => Seal_w w1 A n c (S k) last (hof.now hb (Nat.le_refl _)) hc1 hc2 (HOK.out k) (by omega) (by have := HL.out; omega)
          have hS := HF.out.box
          have hk6 : (#[F 0, F 1, F 2, F 3, F 4, F 5] : Array Value)[k]? = some (F k) := by
            have hcase : k = 0 ∨ k = 1 ∨ k = 2 ∨ k = 3 ∨ k = 4 ∨ k = 5 := by omega
            rcases hcase with rfl | rfl | rfl | rfl | rfl | rfl <;> rfl
          have HC : Hid (∀ w1, Below wr.heap.size wr w1 → w1.cell? ⟨s, k, none⟩ = some (.slice A n c)) := fun w1 hb => (hb.cell (p := ⟨s, k, none⟩) (Array.getElem?_eq_some_iff.1 hS).1).trans (by simp only [World.cell?, hS]; rw [hk6, hfk]; rfl)
          have HI : Hid (k < 6) := hlt
          obtain ⟨sl, hsl⟩ : ∃ sl, sealW (S k) last = sl := ⟨_, rfl⟩
          rw [hsl] at HKS
          have HSE : Hid (tdK S last (k + 1) = (tdK S last k).sealed k sl) := by show _ = _; rw [← hsl]; rfl
          have HTL := hide (tdK_lots S last k)
          have c0 := HC.out wr (Below.refl _ _)
          have C1 := hide (HKS.out wr (Below.refl _ _))
          have cc := c0
          have HPW : Hid (p ≤ wr.heap.size) := by show p ≤ _; have h3 := HF.out.bel.size; have h4 := HP.out; omega
          clear hk hlt hfk hc1 hc2 hof hn hml hn17 hS hk6 hsl
          go_wp2_with fail
          refine C1.out.mono ?_
          rintro e wA ⟨rfl, hbA⟩
          have HBA : Hid (Below wr.heap.size wr wA) := hbA
          have C2 := hide (Submit_any (HF.out.tdr.below HBA.out) (by rw [HTL.out.1]; decide) HTL.out.2 (by have := HI.out; omega : k < 8) sl)
          clear hbA C1 c0 cc
          go_wp2_with fail
          refine C2.out.mono ?_
          rintro e wB ⟨rfl, htB, hgB⟩
          have HFB : Hid (Fu W p s b ps (tdK S last (k + 1)) wB F S) := (by rw [HSE.out]; exact Fu.turned (HF.out.grown HBA.out HPW.out) hgB htB HBP.out.1 HBP.out.2.1 (Nat.le_trans HPW.out HBA.out.size))
          have HIN : Hid (k + 1 ≤ 6) := HI.out
          clear htB hgB C2
          go_wp2_with fail
          go_roundw
          case rel => exact ⟨k + 1, HIN.out, by go_num, HFB⟩
          case measure => have := HIN.out; simp [intOf]; omega
        · obtain rfl : k = 6 := by omega
          have hlt' : ¬ (6 : Int) < 6 := by omega
          clear hk hlt
          go_upto_region 19 with (fail)
          have HPW : Hid (p ≤ wr.heap.size) := by show p ≤ _; have h3 := HF.out.bel.size; have h4 := HP.out; omega
          have hts := tdK_lots S last 6
          have C3 := hide (Shut_any HF.out.tdr (by rw [hts.1]; decide) hts.2)
          clear hts
          go_wp2_with fail
          refine C3.out.mono ?_
          rintro e wS ⟨rfl, htS, hgS⟩
          have HFS := hide (HF.out.turned hgS htS HBP.out.1 HBP.out.2.1 HPW.out)
          have HK0 := hide (shK_zero S last)
          obtain ⟨v1, hv1⟩ : ∃ v1 : TdV, { tdK S last 6 with state := 1 } = v1 := ⟨_, rfl⟩
          rw [hv1] at HFS HK0
          clear htS hgS C3 HF HPW hv1
          go_upto_region 22 with (fail)
          obtain ⟨w1, rfl⟩ : ∃ w1, w1 = wS := ⟨_, rfl⟩
          go_loopw [13] (fun vb wr => ∃ (k : Nat) (v : TdV), k ≤ 4 ∧ vb = .int .i64 k ∧ Hid (ShK S last k v) ∧ Hid (Fu W p s b ps v wr F S)) (fun vb _ => 4 - (intOf vb).toNat)
          case atStart => exact ⟨0, v1, Nat.zero_le _, rfl, HK0, HFS⟩
          case round =>
            obtain ⟨k, v, hk, rfl, HK, HF⟩ := hrel
            by_cases hlt : k < 4
            · have hlt' : (k : Int) < 4 := by omega
              obtain ⟨A, c, hfk, hc1, hc2, hof, hA1, hA2⟩ := off_of_row (HF.out.rws.row k (by omega))
              have hml : maxLen = 9223372036854775807 := by decide
              have hn4 : (S k).length = 4 := by rw [← HSS.out]; exact setF_four pr hlt
              rw [hn4] at hfk hc1 hof
              rw [hml] at hc2
              have hS := HF.out.box
              have hk6 : (#[F 0, F 1, F 2, F 3, F 4, F 5] : Array Value)[k]? = some (F k) := by
                have hcase : k = 0 ∨ k = 1 ∨ k = 2 ∨ k = 3 := by omega
                rcases hcase with rfl | rfl | rfl | rfl <;> rfl
              cases A with
              | none => exact absurd (hA2 rfl).1 (by intro e; rw [e] at hn4; cases hn4)
              | some a =>
                obtain ⟨-, hob, hae⟩ := hA1 a rfl
                obtain ⟨g, hg⟩ : ∃ g, a.block = g := ⟨_, rfl⟩
                rw [hg] at hae hob
                subst hae
                have hgb : g ≠ b := fun e => own_not (HF.out.rws.row k (by omega)) HF.out.tdr.heap (by decide) (by rw [← e]; exact hob)
                have c0 : wr.cell? ⟨s, k, none⟩ = some (.slice (some ⟨g, 0, none⟩) 4 c) := by simp only [World.cell?, hS]; rw [hk6, hfk]; rfl
                have hsh : showE v 12 (k : Int) (sealW (S k) last) (S k) = 0 := by
                  have hb := bad_none (fun i hi => (HPR.out i hi).2) (show k ≠ 6 by omega)
                  rw [HSS.out] at hb
                  unfold showE
                  rw [if_neg (by omega), Int.toNat_natCast, HK.out.given, HK.out.shown, HK.out.seals, HK.out.count, hn4, hb]
                  have hcase : k = 0 ∨ k = 1 ∨ k = 2 ∨ k = 3 := by omega
                  rcases hcase with rfl | rfl | rfl | rfl <;> simp
                have C4 := hide (Show_ok HF.out.tdr (lots := 12) HK.out.lots (by decide) (by decide) HK.out.state k g 0 4 c (S k) hof (by decide) last (sealW (S k) last) (fun w1 hb => Seal_w w1 _ 4 c (S k) last (hof.now hb (Nat.le_refl _)) hc1 hc2 (HOK.out k) (by decide) (by have := HL.out; omega)) hsh (by omega) (by rw [HK.out.count]; omega) hgb)
                have HPW : Hid (p ≤ wr.heap.size) := by show p ≤ _; have h3 := HF.out.bel.size; have h4 := HP.out; omega
                have HKN := hide (shK_succ HK.out hlt hn4)
                have HI := hide hlt
                clear hk hlt hfk hc1 hc2 hof hA1 hA2 hml hn4 hS hk6 hob hg hgb hsh
                go_wp2_with fail
                refine C4.out.mono ?_
                rintro e wB ⟨rfl, htB, hgB⟩
                have HFB := hide (HF.out.turned hgB htB HBP.out.1 HBP.out.2.1 HPW.out)
                have HIN : Hid (k + 1 ≤ 4) := HI.out
                clear htB hgB C4 c0
                go_wp2_with fail
                go_roundw
                case rel => exact ⟨k + 1, _, HIN.out, by go_num, HKN, HFB⟩
                case measure => have := HIN.out; simp [intOf]; omega
            · obtain rfl : k = 4 := by omega
              have hlt' : ¬ (4 : Int) < 4 := by omega
              clear hk hlt
              have HPW : Hid (p ≤ wr.heap.size) := by show p ≤ _; have h3 := HF.out.bel.size; have h4 := HP.out; omega
              have HS4 : Hid ((S 4).length = 1 ∧ S 5 = [] ∧ (S 6).length = 16) := by rw [← HSS.out]; exact setF_one pr
              have HBN : Hid (hasO (badB 12 4) (S 4) = false) := by rw [← HSS.out]; exact bad_none (fun i hi => (HPR.out i hi).2) (by decide)
              obtain ⟨A, c, hfk, hc1, hc2, hof, -, -⟩ := off_of_row (HF.out.rws.row 4 (by omega))
              have hml : maxLen = 9223372036854775807 := by decide
              rw [HS4.out.1] at hfk hc1 hof
              rw [hml] at hc2
              have HOF : Hid (∀ w1, Below wr.heap.size wr w1 → OffAt w1.heap.size w1 A 1 (S 4)) := fun w1 hb => hof.now hb (Nat.le_refl _)
              have HCC : Hid (1 ≤ c ∧ c ≤ 9223372036854775807) := ⟨hc1, hc2⟩
              have HFK := hide hfk
              have HLL : Hid (last < 18446744073709551616) := by have := HL.out; show last < _; omega
              have HSH : Hid (∀ v', v'.given = v.given → v'.seals = v.seals → v'.count = v.count → v'.shown.getD 4 false = false → showE v' 12 4 (sealW (S 4) last) (S 4) = 8) := fun v' e1 e2 e3 e4 => by
                unfold showE
                rw [if_neg (by decide), show (4 : Int).toNat = 4 from rfl, e1, e2, e3, e4, HK.out.given, HK.out.seals, HK.out.count, HS4.out.1, HBN.out]
                simp
              have C5 := hide (Show_bad HF.out.tdr (lots := 12) HK.out.lots (by decide) (by decide) HK.out.state 4 A 1 c (S 4) hof (by decide) last (sealW (S 4) last) (fun w1 hb => Seal_w w1 _ 1 c (S 4) last (HOF.out w1 hb) hc1 hc2 (HOK.out 4) (by decide) HLL.out) (by rw [HSH.out v rfl rfl rfl (by rw [HK.out.shown]; rfl)]; decide))
              rw [HSH.out v rfl rfl rfl (by rw [HK.out.shown]; rfl)] at C5
              have hbx := HF.out.box
              have c0 : wr.cell? ⟨s, 4, none⟩ = some (.slice A 1 c) := by simp only [World.cell?, hbx]; rw [← hfk]; rfl
              clear hfk hc1 hc2 hof hml hbx
              go_upto_region 26 with (fail)
              go_wp2_with fail
              refine C5.out.mono ?_
              rintro e wA ⟨rfl, hbA⟩
              have HFA := hide (HF.out.grown hbA HPW.out)
              have HPA : Hid (p ≤ wA.heap.size) := Nat.le_trans HPW.out hbA.size
              have C6 := hide (State_any HFA.out.tdr (by rw [HK.out.lots]; decide))
              rw [HK.out.state] at C6
              have C7 := hide (Missing_any HFA.out.tdr (by rw [HK.out.lots]; decide))
              rw [(shK_miss HK.out).1] at C7
              clear hbA C5 c0
              go_wp2_with fail
              refine C6.out.mono ?_
              rintro e wA' ⟨rfl, rfl⟩
              go_wp2_with fail
              refine C7.out.mono ?_
              rintro e wM ⟨am, nm, cm, rfl, hom, hbM⟩
              have HFM := hide (HFA.out.grown hbM HPA.out)
              have HPM : Hid (p ≤ wM.heap.size) := Nat.le_trans HPA.out hbM.size
              have HIM := hide (ints_of_row hom)
              obtain ⟨W5, hW5⟩ : ∃ W5, wM.alloc (.cells #[.int .i64 4, .int .i64 5] 3) = W5 := ⟨_, rfl⟩
              obtain ⟨z, hz⟩ : ∃ z, wM.heap.size = z := ⟨_, rfl⟩
              have hb5 : Below wM.heap.size wM W5 := by rw [← hW5]; exact (Below.refl _ _).alloc (Nat.le_refl _) _
              have HF5' := hide (HFM.out.grown hb5 HPM.out)
              have HP5 : Hid (p ≤ W5.heap.size) := Nat.le_trans HPM.out hb5.size
              have hz5 : W5.heap[z]? = some (.cells (([4, 5] : List Int).map (Value.int .i64)).toArray 3 (0, 0)) := by rw [← hW5, ← hz]; exact heap_alloc_new _ _
              have C8 := hide (same_self W5 am nm cm [4, 5] (some ⟨z, 0, none⟩) 2 2 (HIM.out.1.now hb5 (Nat.le_refl _)) (ints_of_new hz5) HIM.out.2.1 (by decide) HIM.out.2.2 (by decide) (by decide))
              clear hom hbM C6 C7 hb5 hz5
              go_wp2_with fail
              refine C8.out.mono ?_
              rintro e w6 ⟨rfl, hb6⟩
              have HF6' := hide (HF5'.out.grown hb6 HP5.out)
              have HP6 : Hid (p ≤ w6.heap.size) := Nat.le_trans HP5.out hb6.size
              clear hb6 C8 hW5 hz
              go_upto_region 28 with (fail)
              obtain ⟨v5, hv5⟩ : ∃ v5 : TdV, { v with shown := v.shown.set 5 true } = v5 := ⟨_, rfl⟩
              have HV5' : Hid (v5.lots = 12 ∧ v5.state = 1 ∧ v5.given = v.given ∧ v5.seals = v.seals ∧ v5.count = v.count ∧ v5.offers = v.offers ∧ v5.shown.getD 4 false = false ∧ missV v5 = [4]) := by
                rw [← hv5]
                refine ⟨HK.out.lots, HK.out.state, rfl, rfl, rfl, rfl, ?_, (shK_miss HK.out).2⟩
                show (v.shown.set 5 true).getD 4 false = false
                rw [HK.out.shown]
                rfl
              have hsh5 := show5 HK.out HS4.out.2.1
              have D1 := hide (Show_nil HF6'.out.tdr (lots := 12) HK.out.lots (by decide) (by decide) HK.out.state 5 last (sealW [] last) (fun w1 hb => Seal_w w1 none 0 0 [] last ⟨rfl, .inl rfl⟩ (by decide) (by decide) (by intro o ho; cases ho) (by decide) HLL.out) hsh5 (by decide))
              rw [hv5] at D1
              have hbx := HF6'.out.box
              have c1 : w6.cell? ⟨s, 5, none⟩ = some (.slice none 0 0) := by simp only [World.cell?, hbx]; rw [← HF5.out]; rfl
              clear hbx hsh5 hv5
              go_wp2_with fail
              refine D1.out.mono ?_
              rintro e w7 ⟨rfl, htB, hgB⟩
              have HF7 := hide (HF6'.out.turned hgB htB HBP.out.1 HBP.out.2.1 HP6.out)
              have HP7 : Hid (p ≤ w7.heap.size) := Nat.le_trans HP6.out hgB.size
              have HOF7 : Hid (OffAt w7.heap.size w7 A 1 (S 4)) := by
                obtain ⟨A', c', hfk', -, -, hof', -, -⟩ := off_of_row (HF7.out.rws.row 4 (by omega))
                rw [HS4.out.1] at hfk' hof'
                rw [HFK.out] at hfk'
                injection hfk' with e1 e2 e3
                subst e1
                exact hof'
              have D2 := hide (Show_bad HF7.out.tdr (lots := 12) HV5'.out.1 (by decide) (by decide) HV5'.out.2.1 4 A 1 c (S 4) HOF7.out (by decide) last (sealW (S 4) last) (fun w1 hb => Seal_w w1 _ 1 c (S 4) last (HOF7.out.now hb (Nat.le_refl _)) HCC.out.1 HCC.out.2 (HOK.out 4) (by decide) HLL.out) (by rw [HSH.out v5 HV5'.out.2.2.1 HV5'.out.2.2.2.1 HV5'.out.2.2.2.2.1 HV5'.out.2.2.2.2.2.2.1]; decide))
              rw [HSH.out v5 HV5'.out.2.2.1 HV5'.out.2.2.2.1 HV5'.out.2.2.2.2.1 HV5'.out.2.2.2.2.2.2.1] at D2
              have hbx := HF7.out.box
              have c2 : w7.cell? ⟨s, 4, none⟩ = some (.slice A 1 c) := by simp only [World.cell?, hbx]; rw [← HFK.out]; rfl
              clear htB hgB D1 c1 hbx
              go_wp2_with fail
              refine D2.out.mono ?_
              rintro e w8 ⟨rfl, hb8⟩
              have HF8 := hide (HF7.out.grown hb8 HP7.out)
              have HP8 : Hid (p ≤ w8.heap.size) := Nat.le_trans HP7.out hb8.size
              have D3 := hide (Missing_any HF8.out.tdr (by rw [HV5'.out.1]; decide))
              rw [HV5'.out.2.2.2.2.2.2.2] at D3
              clear hb8 D2 c2
              go_wp2_with fail
              refine D3.out.mono ?_
              rintro e w9 ⟨ao, no, co, rfl, hoo, hb9⟩
              have HF9 := hide (HF8.out.grown hb9 HP8.out)
              have HP9 : Hid (p ≤ w9.heap.size) := Nat.le_trans HP8.out hb9.size
              have HIO := hide (ints_of_row hoo)
              obtain ⟨Wa, hWa⟩ : ∃ Wa, w9.alloc (.cells #[.int .i64 4] 3) = Wa := ⟨_, rfl⟩
              obtain ⟨y, hy⟩ : ∃ y, w9.heap.size = y := ⟨_, rfl⟩
              have hba : Below w9.heap.size w9 Wa := by rw [← hWa]; exact (Below.refl _ _).alloc (Nat.le_refl _) _
              have HFa := hide (HF9.out.grown hba HP9.out)
              have HPa : Hid (p ≤ Wa.heap.size) := Nat.le_trans HP9.out hba.size
              have hya : Wa.heap[y]? = some (.cells (([4] : List Int).map (Value.int .i64)).toArray 3 (0, 0)) := by rw [← hWa, ← hy]; exact heap_alloc_new _ _
              have D4 := hide (same_self Wa ao no co [4] (some ⟨y, 0, none⟩) 1 1 (HIO.out.1.now hba (Nat.le_refl _)) (ints_of_new hya) HIO.out.2.1 (by decide) HIO.out.2.2 (by decide) (by decide))
              clear hoo hb9 D3 hba hya
              go_wp2_with fail
              refine D4.out.mono ?_
              rintro e wb ⟨rfl, hbb⟩
              have HFb := hide (HFa.out.grown hbb HPa.out)
              have HPb : Hid (p ≤ wb.heap.size) := Nat.le_trans HPa.out hbb.size
              clear hbb D4 hWa hy
              go_upto_region 30 with (fail)
              have e16 : v5.count = 16 := by rw [HV5'.out.2.2.2.2.1, HK.out.count]
              have etk : v5.offers.take 16 = S 6 := by
                have h1 := HK.out.offs
                have h2 := setF_all pr
                rw [HSS.out] at h2
                rw [HV5'.out.2.2.2.2.2.1, ← h2]
                exact h1
              have est : sortO (S 6) = S 6 := by have := sort_F pr; rw [HSS.out] at this; exact this
              have hvl : ∀ o ∈ S 6, validB 12 o = true := by rw [← HSS.out]; exact fun o ho => valid_F (fun i hi => (HPR.out i hi).2) ho
              have hby : ∀ o ∈ S 6, 0 ≤ o.1 ∧ o.1 ≤ 7 := fun o ho => by
                have := hvl o ho
                unfold validB at this
                simp only [Bool.and_eq_true, decide_eq_true_eq] at this
                exact this.1
              have hck : checkV 12 (flatO (S 6)) 16 = 0 := by
                have := check_flat (lots := 12) (by decide) (by decide) (l := S 6) (Nat.le_of_eq HS4.out.2.2) hvl
                rw [HS4.out.2.2] at this
                exact this
              have D9 := Close_any HFb.out.tdr (lots := 12) HV5'.out.1 (by decide) HV5'.out.2.1 (by rw [e16, etk]; exact hby) (decT 12 (flatO (S 6)) 16) (decP 12 (flatO (S 6)) 16) (decW 12 (flatO (S 6)) 16) (fun w1 g c h1 h2 h3 h4 => by
                rw [e16] at h2 h4 ⊢
                rw [etk, est] at h4
                have hm : maxLen = 9223372036854775807 := by decide
                rw [hm] at h3
                have := Decide_w w1 (some ⟨g, 0, none⟩) 16 c (S 6) 12 h4 h2 h3 (HOK.out 6)
                rw [hck] at this
                exact this)
              rw [e16, etk, est] at D9
              have HD9 := hide D9
              clear D9 e16 etk est hvl hby hck
              go_wp2_with fail
              refine HD9.out.mono ?_
              rintro e wc ⟨aw, g, cg, rfl, hg1, hg2, hg3, hog, haw, htc, hgc⟩
              obtain ⟨a1, n1, d1, a2, n2, d2, rfl, -, -, -, -, -, -, -, -⟩ := haw.isA
              have HFc := hide (HFb.out.turned hgc htc HBP.out.1 HBP.out.2.1 HPb.out)
              have HPc : Hid (p ≤ wc.heap.size) := Nat.le_trans HPb.out hgc.size
              have HOG := hide hog
              have HGC : Hid (16 ≤ cg ∧ cg ≤ 9223372036854775807) := ⟨hg2, by have hm : maxLen = 9223372036854775807 := (by decide); rw [hm] at hg3; exact hg3⟩
              clear hg1 hg2 hg3 hog haw htc hgc HD9
              go_upto_region 31 with (fail)
              obtain ⟨Wd, hWd⟩ : ∃ Wd, wc.alloc (.cells #[.slice a1 n1 d1, .slice a2 n2 d2, .int .i64 (decW 12 (flatO (S 6)) 16)] 37) = Wd := ⟨_, rfl⟩
              rw [hWd]
              have hbd : Below wc.heap.size wc Wd := by rw [← hWd]; exact (Below.refl _ _).alloc (Nat.le_refl _) _
              have HFd := hide (HFc.out.grown hbd HPc.out)
              have HPd : Hid (p ≤ Wd.heap.size) := Nat.le_trans HPc.out hbd.size
              obtain ⟨A6, e6, hf6, hd1, hd2, hof6, -, -⟩ := off_of_row (HFd.out.rws.row 6 (by decide))
              have hml : maxLen = 9223372036854775807 := by decide
              rw [HS4.out.2.2] at hf6 hd1 hof6
              rw [hml] at hd2
              rw [HF6.out] at hf6
              subst hf6
              have E1 := hide (offers_w Wd (some ⟨g, 0, none⟩) 16 cg (S 6) A6 16 e6 (S 6) (HOG.out.now hbd (Nat.le_refl _)) hof6 HGC.out.1 hd1 HGC.out.2 hd2 (HOK.out 6) (HOK.out 6))
              rw [decide_eq_true rfl] at E1
              clear hbd hd1 hd2 hof6 hml hWd
              go_wp2_with fail
              refine E1.out.mono ?_
              rintro e we ⟨rfl, hbe⟩
              have HFe := hide (HFd.out.grown hbe HPd.out)
              have HPe : Hid (p ≤ we.heap.size) := Nat.le_trans HPd.out hbe.size
              have E2 := hide (State_any HFe.out.tdr (by show v5.lots ≠ 0; rw [HV5'.out.1]; decide))
              have E3 := hide (Missing_any HFe.out.tdr (by show v5.lots ≠ 0; rw [HV5'.out.1]; decide))
              have hmv : missV { v5 with state := 2, count := 16 } = [4] := HV5'.out.2.2.2.2.2.2.2
              rw [hmv] at E3
              clear hbe E1 hmv
              go_wp2_with fail
              refine E2.out.mono ?_
              rintro e we' ⟨rfl, rfl⟩
              go_wp2_with fail
              refine E3.out.mono ?_
              rintro e wf ⟨aq, nq, cq, rfl, hoq, hbf⟩
              have HFf := hide (HFe.out.grown hbf HPe.out)
              have HPf : Hid (p ≤ wf.heap.size) := Nat.le_trans HPe.out hbf.size
              have HIQ := hide (ints_of_row hoq)
              obtain ⟨Wg, hWg⟩ : ∃ Wg, wf.alloc (.cells #[.int .i64 4] 3) = Wg := ⟨_, rfl⟩
              obtain ⟨y, hy⟩ : ∃ y, wf.heap.size = y := ⟨_, rfl⟩
              have hbg : Below wf.heap.size wf Wg := by rw [← hWg]; exact (Below.refl _ _).alloc (Nat.le_refl _) _
              have HFg := hide (HFf.out.grown hbg HPf.out)
              have HPg : Hid (p ≤ Wg.heap.size) := Nat.le_trans HPf.out hbg.size
              have hyg : Wg.heap[y]? = some (.cells (([4] : List Int).map (Value.int .i64)).toArray 3 (0, 0)) := by rw [← hWg, ← hy]; exact heap_alloc_new _ _
              have E4 := hide (same_self Wg aq nq cq [4] (some ⟨y, 0, none⟩) 1 1 (HIQ.out.1.now hbg (Nat.le_refl _)) (ints_of_new hyg) HIQ.out.2.1 (by decide) HIQ.out.2.2 (by decide) (by decide))
              clear hoq hbf E2 E3 hbg hyg
              go_wp2_with fail
              refine E4.out.mono ?_
              rintro e wh ⟨rfl, hbh⟩
              have HFh := hide (HFg.out.grown hbh HPg.out)
              have HPh : Hid (p ≤ wh.heap.size) := Nat.le_trans HPg.out hbh.size
              have E5 := hide (alive_w wh)
              clear hbh E4 hWg hy
              go_wp2_with fail
              refine E5.out.mono ?_
              rintro e wi ⟨rfl, hbi⟩
              have HFi := hide (HFh.out.grown hbi HPh.out)
              clear hbi E5
              go_wp2_with fail
              go_ret
              have hbl := HFi.out.bel
              rw [← HP.out] at hbl
              exact ⟨rfl, hbl⟩
end Go.Proofs.Ytpobfdhmggkbaaa
