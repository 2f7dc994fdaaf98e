/- ProofGrows: the law. -/
import Derived.Test.YtbinmkigolkhcaaDoorLB
set_option linter.unusedSimpArgs false
set_option linter.unusedVariables false
namespace Go.Proofs.YtbinmkigolkhcaaDoor
open Go.RowKit Go.Sort
attribute [local go_sem] Oper.semAt_some

set_option maxHeartbeats 4000000 in
set_option maxRecDepth 100000 in
theorem grows_law (A : Option Addr) (n c : Nat) (ls : List (List UInt8)) (B : Option Addr) (n2 c2 : Nat) (ms : List (List UInt8)) (m : Int) (bit : Nat) (by_ : Nat) (w : World) (hE : Env w) (hx : ListsIn w.heap.size w A n ls) (hc : n ≤ c) (hn : n ≤ 9223372036854775807)
    (hy : ListsIn w.heap.size w B n2 ms) (hc2 : n2 ≤ c2) (hn2 : n2 ≤ 9223372036854775807) (hbit : bit < 256) (hby : by_ < 18446744073709551616) :
    Calls Tryd.prog 12 #[.slice A n c, .slice B n2 c2, .int .i64 m, .int .u8 bit, .int .u64 by_] w (TrueP w) := by
  have mixed := mixedOrders
  have HF := hide (few_any A n c ls w hx hn)
  have HF2 := hide (few_any B n2 c2 ms w hy hn2)
  have HA := hide (alive_env hE)
  cases hf : fewB ls
  · rw [hf] at HF
    clear hf hx hc hn hE hy hc2 hn2 hbit hby
    go_enter Tryd.func12, Tryd.ntmps12
    go_wp2_with fail
    refine HF.out.mono ?_
    rintro e w1 ⟨rfl, rfl⟩
    go_wp2_with fail
    refine HA.out.mono ?_
    rintro e w1 ⟨rfl, hb⟩
    go_wp2_with fail
    go_ret
    exact ⟨rfl, hb⟩
  rw [hf] at HF
  cases hf2 : fewB ms
  · rw [hf2] at HF2
    clear hf hf2 hx hc hn hE hy hc2 hn2 hbit hby
    go_enter Tryd.func12, Tryd.ntmps12
    go_wp2_with fail
    refine HF.out.mono ?_
    rintro e w1 ⟨rfl, rfl⟩
    go_wp2_with fail
    refine HF2.out.mono ?_
    rintro e w1 ⟨rfl, rfl⟩
    go_wp2_with fail
    refine HA.out.mono ?_
    rintro e w1 ⟨rfl, hb⟩
    go_wp2_with fail
    go_ret
    exact ⟨rfl, hb⟩
  rw [hf2] at HF2
  obtain ⟨h1, h2⟩ := few_true hf
  obtain ⟨h3, h4⟩ := few_true hf2
  have hX := hx.to (fun l hl => Nat.le_trans (h2 l hl) (by decide))
  have hY := hy.to (fun l hl => Nat.le_trans (h4 l hl) (by decide))
  have HN := hide (show n ≤ 100 ∧ n2 ≤ 100 from ⟨by rw [← hx.1]; exact h1, by rw [← hy.1]; exact h3⟩)
  have HNW := hide (New_any w)
  have hg0 := new_good w
  obtain ⟨W1, hW1⟩ : ∃ W1, w.alloc (.cells #[.bool true, .slice none 0 0, .slice none 0 0] 65) = W1 := ⟨_, rfl⟩
  have hB1 : Below w.heap.size w W1 := by rw [← hW1]; exact (Below.refl _ w).alloc (Nat.le_refl _) _
  have hs1 : w.heap.size + 1 ≤ W1.heap.size := by rw [← hW1]; simp
  obtain ⟨p, hp⟩ : ∃ p, w.heap.size = p := ⟨_, rfl⟩
  rw [hW1] at HNW hg0
  rw [hp] at hg0 hB1 hs1 HNW hX hY
  have HI0 : Hid (LogInv p w W1 (logN [] ls 0)) := ⟨hg0, hB1, hs1⟩
  have HE := hide hE
  have HP := hide hp
  have HX := hide hX
  have HY := hide hY
  have HBY := hide hby
  have HBT := hide hbit
  clear hf hf2 hx hc hn hE hy hc2 hn2 hbit hby h1 h2 h3 h4 hX hY hg0 hB1 hs1 hW1 hp HA
  go_enter Tryd.func12, Tryd.ntmps12
  go_wp2_with fail
  refine HF.out.mono ?_
  rintro e w1 ⟨rfl, rfl⟩
  go_wp2_with fail
  refine HF2.out.mono ?_
  rintro e w1 ⟨rfl, rfl⟩
  go_wp2_with fail
  refine HNW.out.mono ?_
  rintro e w2 ⟨rfl, rfl⟩
  clear HF HF2 HNW
  go_wp2_with fail
  go_loopw [12] (fun vi wr => ∃ i : Nat, i ≤ n ∧ vi = .int .i64 i ∧ Hid (LogInv p w wr (logN [] ls i))) (fun vi _ => n - (intOf vi).toNat)
  case atStart => exact ⟨0, Nat.zero_le _, rfl, HI0⟩
  case round =>
    obtain ⟨i, hi, rfl, HI⟩ := hrel
    by_cases hlt : i < n
    · have hlt' : (i : Int) < (n : Int) := by omega
      obtain ⟨b, off, Ai, ni, ci, rfl, hb, c0, hBi, hni⟩ := HX.out.at_ hlt
      have c1 := (HI.out.2.1.cell (p := ⟨b, off + i, none⟩) hb).trans c0
      obtain ⟨mm, hm1, hm2, -⟩ := logN_more [] ls i
      have hN := HN.out
      have HC := hide (HI.out.step (by rw [hm1, List.nil_append]; omega) HE.out HP.out hBi (c := ci))
      have hN1 := hN.1
      have HQ := hide (And.intro hlt hi)
      clear hi hlt hb c0 hBi hni hm1 hm2 hN
      go_wp2_with fail
      refine HC.out.mono ?_
      rintro e w3 ⟨⟨v, rfl⟩, hI3⟩
      have HI3 := hide hI3
      clear hI3 HC
      go_wp2_with fail
      have hq := HQ.out.1
      exact ⟨⟨i + 1, by omega, by go_num, HI3⟩, by simp [intOf]; omega⟩
    · obtain rfl : i = n := by omega
      obtain ⟨mm, hm1, hm2, -⟩ := logN_more [] ls i
      obtain ⟨G, hG⟩ : ∃ G, logN [] ls i = G := ⟨_, rfl⟩
      rw [hG] at HI hm1
      rw [List.nil_append] at hm1
      subst hm1
      have hGl := HN.out.1
      have hi' := HI.out
      have C1 := hide (Len_good hi'.1)
      have C2 := hide (Root_good hi'.1 (by omega))
      have hr1 := rootV_lt G
      obtain ⟨R, hR⟩ : ∃ R, rootV G = R := ⟨_, rfl⟩
      rw [hR] at C2
      obtain ⟨gl, hgl⟩ : ∃ gl, G.length = gl := ⟨_, rfl⟩
      rw [hgl] at C1
      have HG := hide (show G.length ≤ 100 ∧ rootV G = R ∧ G.length = gl from ⟨by omega, hR, hgl⟩)
      clear hm2 hi hG hGl hi' hr1 hR hgl HI0 hlt
      go_wp2_with fail
      refine C1.out.mono ?_
      rintro e w3 ⟨rfl, rfl⟩
      go_wp2_with fail
      refine C2.out.mono ?_
      rintro e w3 ⟨rfl, hb3⟩
      have HI3 := hide (HI.out.later hb3)
      have C3 := hide (RootAt_good HI3.out.1 (by have := HG.out.1; omega) m)
      obtain ⟨O, hO⟩ : ∃ O, rootAtV G m = O := ⟨_, rfl⟩
      rw [hO] at C3
      obtain ⟨O1, O2⟩ := O
      have C3' : Hid (Calls Tryd.prog 45 #[.pointer (some ⟨p, 0, none⟩), .int .i64 m] w3 fun e w' => e = .returned (.tuple #[.int .u64 (O1 : Nat), .int .i64 O2]) ∧ Below w3.heap.size w3 w') := C3.out
      have HO := hide hO
      clear hb3 C1 C2 hO C3 HI
      go_wp2_with fail
      refine C3'.out.mono ?_
      rintro e w4 ⟨rfl, hb4⟩
      have HI4 : Hid (LogInv p w w4 (logN G ms 0)) := HI3.out.later hb4
      clear hb4 C3' HI3
      go_wp2_with fail
      go_loopw [17] (fun vi wr => ∃ i : Nat, i ≤ n2 ∧ vi = .int .i64 i ∧ Hid (LogInv p w wr (logN G ms i))) (fun vi _ => n2 - (intOf vi).toNat)
      case atStart => exact ⟨0, Nat.zero_le _, rfl, HI4⟩
      case round =>
        obtain ⟨i2, hi, rfl, HI⟩ := hrel
        by_cases hlt : i2 < n2
        · have hlt' : (i2 : Int) < (n2 : Int) := by omega
          obtain ⟨b, off, Ai, ni, ci, rfl, hb, c0, hBi, hni⟩ := HY.out.at_ hlt
          have c1 := (HI.out.2.1.cell (p := ⟨b, off + i2, none⟩) hb).trans c0
          obtain ⟨mm, hm1, hm2, -⟩ := logN_more G ms i2
          have hN := HN.out
          have HC := hide (HI.out.step (by rw [hm1, List.length_append]; have := HG.out.1; omega) HE.out HP.out hBi (c := ci))
          have hN1 := hN.2
          have HQ := hide (And.intro hlt hi)
          clear hi hlt hb c0 hBi hni hm1 hm2 hN
          go_wp2_with fail
          refine HC.out.mono ?_
          rintro e w3 ⟨⟨v, rfl⟩, hI3⟩
          have HI3 := hide hI3
          clear hI3 HC
          go_wp2_with fail
          have hq := HQ.out.1
          exact ⟨⟨i2 + 1, by omega, by go_num, HI3⟩, by simp [intOf]; omega⟩
        · obtain rfl : i2 = n2 := by omega
          obtain ⟨mm, hm1, hm2, -⟩ := logN_more G ms i2
          obtain ⟨G2, hG2⟩ : ∃ G2, logN G ms i2 = G2 := ⟨_, rfl⟩
          rw [hG2] at HI hm1
          have hG2l : G2.length ≤ 200 := by rw [hm1, List.length_append]; have := HG.out.1; have := HN.out.2; omega
          have D1 := hide (RootAt_good HI.out.1 (by omega) gl)
          have hra : rootAtV G2 gl = (R, 0) := by
            unfold rootAtV
            rw [if_neg (by rw [hm1, List.length_append]; have := HG.out.2.2; omega), Int.toNat_natCast, hm1, ← HG.out.2.2, List.take_left, HG.out.2.1]
          rw [hra] at D1
          have D1' : Hid (Calls Tryd.prog 45 #[.pointer (some ⟨p, 0, none⟩), .int .i64 gl] wr fun e w' => e = .returned (.tuple #[.int .u64 (R : Nat), .int .i64 0]) ∧ Below wr.heap.size wr w') := D1.out
          have hsame : O2 = 0 → rootAtV G2 m = (O1, 0) := by
            intro h0
            have hO := HO.out
            unfold rootAtV at hO ⊢
            by_cases k1 : m < 0 ∨ (G.length : Int) < m
            · rw [if_pos k1] at hO
              injection hO with _ h5
              rw [h0] at h5
              exact absurd h5 (by decide)
            · rw [if_neg k1] at hO
              rw [if_neg (by rw [hm1, List.length_append]; omega), hm1, List.take_append_of_le_length (by omega)]
              injection hO with h5 h6
              rw [h5]
          have D2 : Hid (∀ w5, Below wr.heap.size wr w5 → _) := fun w5 hb => RootAt_good (HI.out.later hb).1 (by omega) m
          obtain ⟨S, hS⟩ : ∃ S, rootAtV G2 m = S := ⟨_, rfl⟩
          rw [hS] at hsame
          have D2' : Hid (∀ w5, Below wr.heap.size wr w5 → Calls Tryd.prog 45 #[.pointer (some ⟨p, 0, none⟩), .int .i64 m] w5 fun e w' => e = .returned (.tuple #[.int .u64 (S.1 : Nat), .int .i64 S.2]) ∧ Below w5.heap.size w5 w') := by
            intro w5 hb
            rw [← hS]
            exact D2.out w5 hb
          obtain ⟨S1, S2⟩ := S
          have HSM := hide hsame
          have HG2 := hide (show G2 = G ++ mm ∧ G2.length ≤ 200 from ⟨hm1, hG2l⟩)
          have zR : ((R : Int) != (R : Int)) = false := by simp
          clear hm1 hm2 hi hG2 hG2l hra D1 D2 hS hlt hsame HI4
          go_wp2_with fail
          refine D1'.out.mono ?_
          rintro e w5 ⟨rfl, hb5⟩
          have HI5 := hide (HI.out.later hb5)
          have D3 := hide (D2'.out w5 hb5)
          clear hb5 D1' D2' HI
          go_wp2_with fail
          refine D3.out.mono ?_
          rintro e w6 ⟨rfl, hb6⟩
          have HI6 := hide (HI5.out.later hb6)
          clear hb6 D3 HI5
          --TAIL
          obtain ⟨gl2, hgl2⟩ : ∃ gl2, G2.length = gl2 := ⟨_, rfl⟩
          have HGL := hide hgl2
          clear hgl2
          by_cases hO2 : O2 = 0
          · subst hO2
            have h9 := HSM.out rfl
            injection h9 with h9 h10
            subst h9 h10
            have zS : ((S1 : Int) != (S1 : Int)) = false := by simp
            by_cases hk1 : m < 1
            · have g1 : m < 1 := hk1
              have g2 : ¬ 1 ≤ m := by omega
              have hx : ∃ z : Int, z ≠ 0 ∧ lextV G2 m gl2 = ([], z) := by
                unfold lextV
                by_cases q : ((gl2 : Nat) : Int) < 1 ∨ (G2.length : Int) < ((gl2 : Nat) : Int)
                · rw [if_pos q]; exact ⟨6, by decide, rfl⟩
                · rw [if_neg q, if_pos (.inl g1)]; exact ⟨2, by decide, rfl⟩
              obtain ⟨z, hz, hx⟩ := hx
              have zz : (z != 0) = true := bne_iff_ne.2 hz
              have zy : (z == 0) = false := beq_eq_false_iff_ne.2 hz
              clear hz hk1
              have DX := hide (Extend_good HI6.out.1 (by have := HG2.out.2; omega) m gl2)
              rw [hx] at DX
              clear hx
              have DL := hide (Len_good HI6.out.1)
              rw [HGL.out] at DL
              go_wp2_with fail
              refine DL.out.mono ?_
              rintro e w6 ⟨rfl, rfl⟩
              go_wp2_with fail
              refine DX.out.mono ?_
              rintro e w7 ⟨a7, c7, rfl, ho, hb⟩
              have HI7 := hide (HI6.out.later hb)
              have DL7 := hide (Len_good HI7.out.1)
              rw [HGL.out] at DL7
              have HAL := hide (alive_env (HE.out.after (by rw [HP.out]; exact HI7.out.2.1)))
              clear ho hb DX DL
              go_wp2_with fail
              refine HAL.out.mono ?_
              rintro e w8 ⟨rfl, hb⟩
              go_wp2_with fail
              go_ret
              exact ⟨rfl, by rw [HP.out]; exact HI7.out.2.1.trans (hb.mono (by have := HI7.out.2.2; omega))⟩
            by_cases hk2 : (gl2 : Int) < m
            · have g2 : 1 ≤ m := by omega
              have g1 : ¬ m < 1 := by omega
              have g3 : decide (m ≤ (gl2 : Int)) = false := decide_eq_false (by omega)
              have hx : ∃ z : Int, z ≠ 0 ∧ lextV G2 m gl2 = ([], z) := by
                unfold lextV
                by_cases q : ((gl2 : Nat) : Int) < 1 ∨ (G2.length : Int) < ((gl2 : Nat) : Int)
                · rw [if_pos q]; exact ⟨6, by decide, rfl⟩
                · rw [if_neg q, if_pos (.inr hk2)]; exact ⟨2, by decide, rfl⟩
              obtain ⟨z, hz, hx⟩ := hx
              have zz : (z != 0) = true := bne_iff_ne.2 hz
              have zy : (z == 0) = false := beq_eq_false_iff_ne.2 hz
              clear hz hk1 hk2
              have DX := hide (Extend_good HI6.out.1 (by have := HG2.out.2; omega) m gl2)
              rw [hx] at DX
              clear hx
              have DL := hide (Len_good HI6.out.1)
              rw [HGL.out] at DL
              go_wp2_with fail
              refine DL.out.mono ?_
              rintro e w6 ⟨rfl, rfl⟩
              go_wp2_with fail
              refine DX.out.mono ?_
              rintro e w7 ⟨a7, c7, rfl, ho, hb⟩
              have HI7 := hide (HI6.out.later hb)
              have DL7 := hide (Len_good HI7.out.1)
              rw [HGL.out] at DL7
              have HAL := hide (alive_env (HE.out.after (by rw [HP.out]; exact HI7.out.2.1)))
              clear ho hb DX DL
              go_wp2_with fail
              refine DL7.out.mono ?_
              rintro e w7 ⟨rfl, rfl⟩
              go_wp2_with fail
              refine HAL.out.mono ?_
              rintro e w8 ⟨rfl, hb⟩
              go_wp2_with fail
              go_ret
              exact ⟨rfl, by rw [HP.out]; exact HI7.out.2.1.trans (hb.mono (by have := HI7.out.2.2; omega))⟩
            obtain ⟨m', rfl⟩ : ∃ k : Nat, m = k := ⟨m.toNat, by omega⟩
            have g1 : ¬ (m' : Int) < 1 := by omega
            have hx : lextV G2 (m' : Int) gl2 = (growthV G2 m' true, 0) := by
              have := lex_taken (ls := G2) (m := m') (by omega) (by rw [HGL.out]; omega)
              rw [HGL.out] at this
              exact this
            have hS1 : rootV (G2.take m') = S1 := by
              have h5 := HO.out
              unfold rootAtV at h5
              by_cases k1 : (m' : Int) < 0 ∨ (G.length : Int) < (m' : Int)
              · rw [if_pos k1] at h5
                injection h5 with _ h6
                exact absurd h6 (by decide)
              · rw [if_neg k1] at h5
                injection h5 with h6 h7
                rw [HG2.out.1, List.take_append_of_le_length (by omega)]
                exact h6
            have hb1 : 1 ≤ m' ∧ m' ≤ G2.length ∧ G2.length ≤ 4096 := by rw [HGL.out]; have := HG2.out.2; rw [HGL.out] at this; omega
            have E1 := extend_taken hb1.1 hb1.2.1 hb1.2.2
            have E2 := fun r hr => ext_root (r := r) hb1.1 hb1.2.1 hb1.2.2 hr
            have E3 := fun r x => ext_more (r := r) (x := x) hb1.1 hb1.2.1 hb1.2.2
            have hgb := growth_bound G2 m' true
            have hgl' := growth_len G2 m' true
            have hR2 := rootV_lt G2
            have hS1l : S1 < 18446744073709551616 := by rw [← hS1]; exact rootV_lt _
            obtain ⟨R2, hr2⟩ : ∃ R2, rootV G2 = R2 := ⟨_, rfl⟩
            obtain ⟨GR, hGR⟩ : ∃ GR, growthV G2 m' true = GR := ⟨_, rfl⟩
            rw [hS1, HGL.out] at E1 E2 E3
            rw [hr2] at E1 E2 hR2
            rw [hGR] at E1 E2 E3 hx hgb hgl'
            rw [HGL.out] at hgl'
            have hgl200 : gl2 ≤ 200 := by have := HG2.out.2; rw [HGL.out] at this; exact this
            have HRT : Hid (∀ w9, LogInv p w w9 G2 → Calls Tryd.prog 50 #[.pointer (some ⟨p, 0, none⟩)] w9 fun e w' => e = .returned (.int .u64 (R2 : Nat)) ∧ Below w9.heap.size w9 w') := by
              intro w9 h
              rw [← hr2]
              exact Root_good h.1 (by have := HG2.out.2; omega)
            have HLN : Hid (∀ w9, LogInv p w w9 G2 → Calls Tryd.prog 49 #[.pointer (some ⟨p, 0, none⟩)] w9 fun e w' => e = .returned (.int .i64 (gl2 : Nat)) ∧ w9 = w') := by
              intro w9 h
              rw [← HGL.out]
              exact Len_good h.1
            have HX1 : Hid (∀ (w9 : World) A9 c9, HashesAt w9.heap.size w9 A9 GR.length GR → GR.length ≤ c9 → Calls Tryd.prog 36 #[.int .i64 m', .int .i64 gl2, .int .u64 S1, .int .u64 R2, .slice A9 GR.length c9] w9 fun e w' => e = .returned (.tuple #[.bool true, .int .i64 0]) ∧ Below w9.heap.size w9 w') := by
              intro w9 A9 c9 h h2
              have := Extended_any m' gl2 S1 R2 A9 GR.length c9 GR w9 h h2 (by omega) hS1l
              rw [E1] at this
              exact this
            have HX2 : Hid (∀ (w9 : World) A9 c9 (r : Nat), r ≠ R2 → HashesAt w9.heap.size w9 A9 GR.length GR → GR.length ≤ c9 → Calls Tryd.prog 36 #[.int .i64 m', .int .i64 gl2, .int .u64 S1, .int .u64 r, .slice A9 GR.length c9] w9 fun e w' => e = .returned (.tuple #[.bool false, .int .i64 0]) ∧ Below w9.heap.size w9 w') := by
              intro w9 A9 c9 r hr h h2
              have := Extended_any m' gl2 S1 r A9 GR.length c9 GR w9 h h2 (by omega) hS1l
              rw [E2 r hr] at this
              exact this
            have HX3 : Hid (∀ (w9 : World) A9 c9, HashesAt w9.heap.size w9 A9 (GR.length + 1) (GR ++ [by_]) → GR.length + 1 ≤ c9 → Calls Tryd.prog 36 #[.int .i64 m', .int .i64 gl2, .int .u64 S1, .int .u64 R2, .slice A9 (GR.length + 1) c9] w9 fun e w' => e = .returned (.tuple #[.bool false, .int .i64 0]) ∧ Below w9.heap.size w9 w') := by
              intro w9 A9 c9 h h2
              have := Extended_any m' gl2 S1 R2 A9 (GR.length + 1) c9 (GR ++ [by_]) w9 h h2 (by omega) hS1l
              rw [E3 R2 by_] at this
              exact this
            have HGB := hide hgb
            have DX := hide (Extend_good HI6.out.1 (by have := HG2.out.2; omega) m' gl2)
            rw [hx] at DX
            have HGRL : Hid (GR.length ≤ 200) := by show GR.length ≤ 200; omega
            have HRL := hide hR2
            clear hx hk1 hk2 hS1 hb1 E1 E2 E3 hgb hgl' hR2 hS1l hr2 hGR hgl200
            have DL := hide (HLN.out w6 HI6.out)
            go_wp2_with fail
            refine DL.out.mono ?_
            rintro e w6 ⟨rfl, rfl⟩
            go_wp2_with fail
            refine DX.out.mono ?_
            rintro e w7 ⟨a7, c7, rfl, ho, hb⟩
            have HI7 := hide (HI6.out.later hb)
            have hcap := (own_addr ho).1
            have HO7 := hide ho
            have HB67 := hide hb
            have HH7 : Hid (HashesAt w7.heap.size w7 a7 GR.length GR) := hashes_of_own ho HGB.out
            have HCP : Hid (GR.length ≤ c7) := hcap
            have DL7 := hide (HLN.out w7 HI7.out)
            clear ho hb DX DL hcap
            (try dsimp only at HO7 ⊢)
            go_wp2_with fail
            refine DL7.out.mono ?_
            rintro e w7 ⟨rfl, rfl⟩
            go_wp2_with fail
            refine (HRT.out _ HI7.out).mono ?_
            rintro e w8 ⟨rfl, hb⟩
            have BK8 := hide hb
            have HI8 := hide (HI7.out.later hb)
            have HH8 := hide (HH7.out.now hb (Nat.le_refl _))
            have DX8 := hide (HX1.out w8 a7 c7 HH8.out HCP.out)
            clear hb DL7
            go_wp2_with fail
            refine DX8.out.mono ?_
            rintro e w9 ⟨rfl, hb⟩
            have BK9 := hide (BK8.out.trans (hb.mono BK8.out.size))
            have HI9 := hide (HI8.out.later hb)
            have HH9 := hide (HH8.out.now hb (Nat.le_refl _))
            have DL9 := hide (HLN.out w9 HI9.out)
            clear hb DX8
            obtain ⟨v, hv1, hv2, hv3⟩ : ∃ v : Nat, IntKind.u64.wrap (2 ^ (bit % 64) : Int) = (v : Int) ∧ 0 < v ∧ v < 18446744073709551616 := flip_val bit
            have hxr : bits .xor .u64 (R2 : Int) (v : Int) = ((R2 ^^^ v : Nat) : Int) := bits_xor_u64_nat R2 v HRL.out hv3
            have hne : R2 ^^^ v ≠ R2 := xor_ne hv2
            have HV1 := hide hv1
            have HXR := hide hxr
            have HNE := hide hne
            clear hv1 hv2 hv3 hxr hne
            go_wp2_with fail
            rw [HV1.out]
            refine DL9.out.mono ?_
            rintro e w9 ⟨rfl, rfl⟩
            go_wp2_with fail
            refine (HRT.out _ HI9.out).mono ?_
            rintro e w10 ⟨rfl, hb⟩
            have BK10 := hide (BK9.out.trans (hb.mono BK9.out.size))
            have HI10 := hide (HI9.out.later hb)
            have HH10 := hide (HH9.out.now hb (Nat.le_refl _))
            have DX10 := hide (HX2.out w10 a7 c7 _ HNE.out HH10.out HCP.out)
            clear hb DL9
            go_wp2_with fail
            rw [HXR.out]
            refine DX10.out.mono ?_
            rintro e w11 ⟨rfl, hb⟩
            have BK11 := hide (BK10.out.trans (hb.mono BK10.out.size))
            have HI11 := hide (HI10.out.later hb)
            clear hb DX10
            have DL11 := hide (HLN.out w11 HI11.out)
            go_wp2_with fail
            refine DL11.out.mono ?_
            rintro e w11 ⟨rfl, rfl⟩
            go_wp2_with fail
            refine (HRT.out _ HI11.out).mono ?_
            rintro e w12 ⟨rfl, hb⟩
            have BK12 := hide (BK11.out.trans (hb.mono BK11.out.size))
            have HI12 := hide (HI11.out.later hb)
            obtain ⟨i0, hi0, hz0, hz1, hz2⟩ := info_parts info24
            have HS12 : Hid (w12.ownsRow w6.heap.size 24 1 (.slice a7 GR.length c7) GR.length (cellsP GR)) := own_keep HO7.out BK12.out (Nat.le_refl _)
            have HB612 := hide (HB67.out.trans (BK12.out.mono HB67.out.size))
            have hbb1 : GR.length + 1 ≤ maxLen := by unfold maxLen; have := HGRL.out; omega
            have hbb2 : (GR.length + 1) * 8 ≤ 140737488355328 := by have := HGRL.out; omega
            have hb4 : w6.heap.size ≤ (w12.alloc (.cells #[.int .u64 (by_ : Nat)] 24)).heap.size := by have := HB612.out.size; simp; omega
            clear hb DL11 HI7 HI8 HI9 HI10 HI11 HH7 HH8 HH9 HH10 BK8 BK9 BK10 BK11 HO7 HX1 HX2
            go_wp2_with (at_builtin; refine wpList_append_own_at _ rfl (.tmp 180) (.tmp 182) _ rfl w6.heap.size 24 i0 (.int .u64 0) 1 8 Tryd.underlying36 hi0 hz0 hz1 hz2 rfl (by decide) _ _ _ rfl (HS12.out.alloc _) ⟨w12.heap.size, 0, none⟩ 1 1 [.int .u64 (by_ : Nat)] rfl rfl (cell_one_at _ _ rfl) (by simp [Value.oneCell']) hbb1 hbb2 hb4 ?_; intro v1 w13 hown1 hgrow1 hnil1 hat1; refine Hid.out ?_)
            refine Lib.hid ?_
            obtain ⟨a8, c8, rfl⟩ := own_slice hown1
            have HH13 : Hid (HashesAt w13.heap.size w13 a8 (GR.length + 1) (GR ++ [by_])) := hashes_of_own (by rw [cellsP_snoc]; exact hown1) (fun p hp => by
              rcases List.mem_append.1 hp with h | h
              · exact HGB.out p h
              · rw [List.mem_singleton] at h; rw [h]; exact HBY.out)
            have HC13 := hide (own_addr hown1).1
            have HI13 := hide (HI6.out.later ((HB612.out.alloc HB612.out.size _).trans (below_own (HS12.out.alloc _) hgrow1 (Nat.le_refl _) hb4)))
            have DX13 := hide (HX3.out w13 a8 c8 HH13.out HC13.out)
            clear hown1 hgrow1 hnil1 hat1
            go_wp2_with fail
            refine DX13.out.mono ?_
            rintro e w14 ⟨rfl, hb⟩
            have HI14 := hide (HI13.out.later hb)
            have HAL := hide (alive_env (HE.out.after (by rw [HP.out]; exact HI14.out.2.1)))
            clear hb DX13
            go_wp2_with fail
            refine HAL.out.mono ?_
            rintro e w15 ⟨rfl, hb⟩
            go_wp2_with fail
            go_ret
            exact ⟨rfl, by rw [HP.out]; exact HI14.out.2.1.trans (hb.mono (by have := HI14.out.2.2; omega))⟩
          · have zO : (O2 == 0) = false := beq_eq_false_iff_ne.2 hO2
            have zP : (O2 != 0) = true := bne_iff_ne.2 hO2
            clear hO2
            by_cases hk1 : m < 1
            · have g1 : m < 1 := hk1
              have g2 : ¬ 1 ≤ m := by omega
              have hx : ∃ z : Int, z ≠ 0 ∧ lextV G2 m gl2 = ([], z) := by
                unfold lextV
                by_cases q : ((gl2 : Nat) : Int) < 1 ∨ (G2.length : Int) < ((gl2 : Nat) : Int)
                · rw [if_pos q]; exact ⟨6, by decide, rfl⟩
                · rw [if_neg q, if_pos (.inl g1)]; exact ⟨2, by decide, rfl⟩
              obtain ⟨z, hz, hx⟩ := hx
              have zz : (z != 0) = true := bne_iff_ne.2 hz
              have zy : (z == 0) = false := beq_eq_false_iff_ne.2 hz
              clear hz hk1
              have DX := hide (Extend_good HI6.out.1 (by have := HG2.out.2; omega) m gl2)
              rw [hx] at DX
              clear hx
              have DL := hide (Len_good HI6.out.1)
              rw [HGL.out] at DL
              go_wp2_with fail
              refine DL.out.mono ?_
              rintro e w6 ⟨rfl, rfl⟩
              go_wp2_with fail
              refine DX.out.mono ?_
              rintro e w7 ⟨a7, c7, rfl, ho, hb⟩
              have HI7 := hide (HI6.out.later hb)
              have DL7 := hide (Len_good HI7.out.1)
              rw [HGL.out] at DL7
              have HAL := hide (alive_env (HE.out.after (by rw [HP.out]; exact HI7.out.2.1)))
              clear ho hb DX DL
              go_wp2_with fail
              refine HAL.out.mono ?_
              rintro e w8 ⟨rfl, hb⟩
              go_wp2_with fail
              go_ret
              exact ⟨rfl, by rw [HP.out]; exact HI7.out.2.1.trans (hb.mono (by have := HI7.out.2.2; omega))⟩
            by_cases hk2 : (gl2 : Int) < m
            · have g2 : 1 ≤ m := by omega
              have g1 : ¬ m < 1 := by omega
              have g3 : decide (m ≤ (gl2 : Int)) = false := decide_eq_false (by omega)
              have hx : ∃ z : Int, z ≠ 0 ∧ lextV G2 m gl2 = ([], z) := by
                unfold lextV
                by_cases q : ((gl2 : Nat) : Int) < 1 ∨ (G2.length : Int) < ((gl2 : Nat) : Int)
                · rw [if_pos q]; exact ⟨6, by decide, rfl⟩
                · rw [if_neg q, if_pos (.inr hk2)]; exact ⟨2, by decide, rfl⟩
              obtain ⟨z, hz, hx⟩ := hx
              have zz : (z != 0) = true := bne_iff_ne.2 hz
              have zy : (z == 0) = false := beq_eq_false_iff_ne.2 hz
              clear hz hk1 hk2
              have DX := hide (Extend_good HI6.out.1 (by have := HG2.out.2; omega) m gl2)
              rw [hx] at DX
              clear hx
              have DL := hide (Len_good HI6.out.1)
              rw [HGL.out] at DL
              go_wp2_with fail
              refine DL.out.mono ?_
              rintro e w6 ⟨rfl, rfl⟩
              go_wp2_with fail
              refine DX.out.mono ?_
              rintro e w7 ⟨a7, c7, rfl, ho, hb⟩
              have HI7 := hide (HI6.out.later hb)
              have DL7 := hide (Len_good HI7.out.1)
              rw [HGL.out] at DL7
              have HAL := hide (alive_env (HE.out.after (by rw [HP.out]; exact HI7.out.2.1)))
              clear ho hb DX DL
              go_wp2_with fail
              refine DL7.out.mono ?_
              rintro e w7 ⟨rfl, rfl⟩
              go_wp2_with fail
              refine HAL.out.mono ?_
              rintro e w8 ⟨rfl, hb⟩
              go_wp2_with fail
              go_ret
              exact ⟨rfl, by rw [HP.out]; exact HI7.out.2.1.trans (hb.mono (by have := HI7.out.2.2; omega))⟩
            obtain ⟨m', rfl⟩ : ∃ k : Nat, m = k := ⟨m.toNat, by omega⟩
            have g2 : (1 : Int) ≤ (m' : Int) := by omega
            have g1 : ¬ (m' : Int) < 1 := by omega
            have g3 : (m' : Int) ≤ (gl2 : Int) := by omega
            have hx : lextV G2 (m' : Int) gl2 = (growthV G2 m' true, 0) := by
              have := lex_taken (ls := G2) (m := m') (by omega) (by rw [HGL.out]; omega)
              rw [HGL.out] at this
              exact this
            obtain ⟨GR, hGR⟩ : ∃ GR, growthV G2 m' true = GR := ⟨_, rfl⟩
            rw [hGR] at hx
            clear hk1 hk2 hGR

            have DX := hide (Extend_good HI6.out.1 (by have := HG2.out.2; omega) m' gl2)
            rw [hx] at DX
            (try dsimp only at DX)
            clear hx
            have DL := hide (Len_good HI6.out.1)
            rw [HGL.out] at DL
            go_wp2_with fail
            refine DL.out.mono ?_
            rintro e w6 ⟨rfl, rfl⟩
            go_wp2_with fail
            refine DX.out.mono ?_
            rintro e w7 ⟨a7, c7, rfl, ho, hb⟩
            have HI7 := hide (HI6.out.later hb)
            have DL7 := hide (Len_good HI7.out.1)
            rw [HGL.out] at DL7
            have HAL := hide (alive_env (HE.out.after (by rw [HP.out]; exact HI7.out.2.1)))
            clear ho hb DX DL
            go_wp2_with fail
            refine DL7.out.mono ?_
            rintro e w7 ⟨rfl, rfl⟩
            go_wp2_with fail
            refine HAL.out.mono ?_
            rintro e w8 ⟨rfl, hb⟩
            go_wp2_with fail
            go_ret
            exact ⟨rfl, by rw [HP.out]; exact HI7.out.2.1.trans (hb.mono (by have := HI7.out.2.2; omega))⟩
end Go.Proofs.YtbinmkigolkhcaaDoor
