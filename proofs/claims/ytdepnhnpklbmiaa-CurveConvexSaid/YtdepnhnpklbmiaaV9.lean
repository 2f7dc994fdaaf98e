/- The walk of the law on the conjugate of the conjugate. -/
import Derived.Test.YtdepnhnpklbmiaaB21
import Derived.Test.YtdepnhnpklbmiaaF0
namespace Go.Proofs.Ytdepnhnpklbmiaa
open Go.RowKit Go.Sort

theorem CuPost.laid {c : Cu} {e0 : Int} {w : World} {e : Ending} {w' : World} (h : CuPost (c, e0) w e w') (hn : c.sl.length ≤ 64) :
    ∃ A n cap, e = .returned (.tuple #[.agg #[.int .i64 c.fr, .int .i64 c.fst, .slice A n cap], .int .i64 e0]) ∧ Below w.heap.size w w' ∧ Box (w'.alloc (.cells #[.int .i64 c.fr, .int .i64 c.fst, .slice A n cap] 24)) w'.heap.size c A n cap := CuPost.box (v := (c, e0)) h hn
theorem conV_len (c : Cu) (lo hi : Int) : (conV c lo hi).1.sl.length ≤ 64 := by
  unfold conV
  split
  · exact res2_len _
  · exact Nat.zero_le _
theorem conV_zero {c d : Cu} {lo hi e : Int} (h : conV c lo hi = (d, e)) (he : e = 0) : okC c = true ∧ (-1048576 ≤ lo ∧ lo ≤ 1048576) ∧ lo ≤ hi ∧ hi ≤ lo + 64 ∧ hi ≤ 1048576 ∧ d = conC c lo hi ∧ okC d = true := by
  unfold conV at h
  split at h
  · rename_i h1
    obtain ⟨h2, h3⟩ := res2_zero h he
    exact ⟨h1.1, inB_true h1.2.1, h1.2.2.1, h1.2.2.2.1, h1.2.2.2.2, h2, by rw [h2]; exact h3⟩
  · injection h with h1 h2
    omega
theorem con_at {c : Cu} {lo hi : Int} (hc : okC c = true) (hd : okC (conC c lo hi) = true) {i : Nat} (hi' : (i : Int) ≤ hi - lo) : atV (conC c lo hi) (lo + i) = (gre c (lo + i), 0) := by
  have h := atV_in hd (k := i) (by rw [con_len]; omega)
  rw [con_val (ok_asc hc) lo hi i hi'] at h
  exact h
theorem con_range {c : Cu} {lo hi : Int} (hc : okC c = true) (hd : okC (conC c lo hi) = true) {i : Nat} (hi' : (i : Int) ≤ hi - lo) : -1125899906842624 ≤ gre c (lo + i) ∧ gre c (lo + i) ≤ 1125899906842624 := by
  rw [← con_val (ok_asc hc) lo hi i hi']
  exact okC_val hd (by rw [con_len]; omega)

set_option maxHeartbeats 8000000 in
set_option maxRecDepth 100000 in
theorem back_law (c : Cu) (A : Option Addr) (n cap : Nat) (lo hi x : Int) (w : World) (hx : CuAt w.heap.size w c A n cap) (hn : n ≤ 9223372036854775807) :
    Calls Try.prog 9 #[.agg #[.int .i64 c.fr, .int .i64 c.fst, .slice A n cap], .int .i64 lo, .int .i64 hi, .int .i64 x] w (LawPost w) := by
  have mixed := mixedOrders
  obtain ⟨p, hp⟩ : ∃ p, w.heap.size = p := ⟨_, rfl⟩
  obtain ⟨W1, hW1⟩ : ∃ W1, w.alloc (.cells #[.int .i64 c.fr, .int .i64 c.fst, .slice A n cap] 24) = W1 := ⟨_, rfl⟩
  have hXa : Box W1 p c A n cap := by
    rw [← hW1, ← hp]
    exact box_new hx hn
  have HB1 : Hid (Below w.heap.size w W1) := by show Below _ _ _; rw [← hW1]; exact ((Gr.refl w).alloc _).below
  have HXa := hide hXa
  obtain ⟨⟨d, e1⟩, hj1⟩ : ∃ q, conV c lo hi = q := ⟨_, rfl⟩
  have HE1 := hide hj1
  have HJ := hide (Conj_any c A n cap lo hi W1 HXa.out.cu HXa.out.big)
  rw [hj1] at HJ
  have hl1 : d.sl.length ≤ 64 := by have := conV_len c lo hi; rw [hj1] at this; exact this
  obtain ⟨a0, a1, a2⟩ := HXa.out.cells
  clear hj1 hXa hx
  go_enter Try.func9, Try.ntmps9
  go_wp2_with fail
  try rw [hp]
  refine HJ.out.mono ?_
  rintro e w2 hpost
  obtain ⟨A4, n4, k4, rfl, hb2, hX4⟩ := hpost.laid hl1
  by_cases h0 : e1 = 0
  · subst h0
    obtain ⟨hva, hlr, hlh, hh1, hh2, hd, hvd⟩ := conV_zero HE1.out rfl
    have HVA := hide hva
    have HVD := hide hvd
    have HD := hide hd
    obtain ⟨f2, hf2⟩ : ∃ q, d.fst = q := ⟨_, rfl⟩
    have hdf : d.fr = lo := by rw [hd]; rfl
    have HX5 : Hid (Box (w2.alloc (.cells #[.int .i64 lo, .int .i64 f2, .slice A4 n4 k4] 24)) w2.heap.size d A4 n4 k4) := by rw [hdf, hf2] at hX4; exact hX4
    rw [hdf, hf2]
    have HB5 : Hid (Below w.heap.size w (w2.alloc (.cells #[.int .i64 lo, .int .i64 f2, .slice A4 n4 k4] 24))) := (HB1.out.trans (hb2.mono HB1.out.size)).alloc (HB1.out.trans (hb2.mono HB1.out.size)).size _
    have HXa5 := hide ((HXa.out.below hb2).gr ((Gr.refl w2).alloc (.cells #[.int .i64 lo, .int .i64 f2, .slice A4 n4 k4] 24)))
    have HV := hide (Valid_any c A n cap _ HXa5.out.cu.sl HXa5.out.big)
    rw [hva] at HV
    have hla : c.sl.length = n := HXa.out.cu.sl.1
    have hn64 : n ≤ 64 := by have := okC_len hva; omega
    have HLA := hide hla
    have hcl := HXa5.out.cells
    obtain ⟨b0, b1, b2⟩ := hcl
    clear hpost hX4 hb2 HJ HXa HB1 a0 a1 a2 hva hvd hd hdf hla hW1
    go_wp2_with fail
    refine HV.out.mono ?_
    rintro e w6 ⟨rfl, hG6⟩
    have HB6 := hide (HB5.out.trans (hG6.below.mono HB5.out.size))
    have HXa6 := hide (HXa5.out.gr hG6)
    have HX6 := hide (HX5.out.gr hG6)
    have hg6 : w2.heap.size < w6.heap.size := HX6.out.lt
    obtain ⟨g, hg⟩ : ∃ g, w2.heap.size = g := ⟨_, rfl⟩
    rw [hg] at HX6
    have hcl := HXa6.out.cells
    obtain ⟨a0, a1, a2⟩ := hcl
    clear HV hG6 HB5 HXa5 HX5 b0 b1 b2 hg6
    try rw [hg]
    go_wp2_with fail
    go_loop [11] (fun i => ∃ k : Nat, k ≤ n ∧ i = .int .i64 k ∧ Hid (∀ j, j < k → lo ≤ iA c.sl j ∧ iA c.sl j ≤ hi)) (fun i => n - (intOf i).toNat)
    case atStart => exact ⟨0, Nat.zero_le _, rfl, fun j hj => absurd hj (Nat.not_lt_zero _)⟩
    case round =>
      obtain ⟨k, hk, rfl, HN⟩ := hrel
      by_cases hlt : k < n
      · have hlt' : (k : Int) < (n : Int) := by omega
        obtain ⟨b, off, rfl, hb, c0⟩ := HXa6.out.cu.sl.at_ hlt
        have HS : lo ≤ iA c.sl k → iA c.sl k ≤ hi → Hid (∀ j, j < k + 1 → lo ≤ iA c.sl j ∧ iA c.sl j ≤ hi) := fun h1 h2 j hj => by
          rcases Nat.lt_or_ge j k with h | h
          · exact HN.out j h
          · obtain rfl : j = k := by omega
            exact ⟨h1, h2⟩
        generalize iA c.sl k = z at c0 HS
        by_cases h1 : z < lo
        · have hd1 : decide (z < lo) = true := decide_eq_true h1
          clear HS
          go_wp2_with fail
          refine (alive_any w6).mono ?_
          rintro e w8 ⟨rfl, hb8⟩
          have HB8 := hide (HB6.out.trans (hb8.mono HB6.out.size))
          clear hb8
          go_wp2
          go_ret
          exact ⟨rfl, HB8.out⟩
        · have hd1 : decide (z < lo) = false := decide_eq_false h1
          by_cases h2 : hi < z
          · have hd2 : decide (hi < z) = true := decide_eq_true h2
            clear HS
            go_wp2_with fail
            refine (alive_any w6).mono ?_
            rintro e w8 ⟨rfl, hb8⟩
            have HB8 := hide (HB6.out.trans (hb8.mono HB6.out.size))
            clear hb8
            go_wp2
            go_ret
            exact ⟨rfl, HB8.out⟩
          · have hd2 : decide (hi < z) = false := decide_eq_false h2
            have HS := HS (by omega) (by omega)
            go_wp2_with fail
            go_round
            case rel => exact ⟨k + 1, by omega, by go_num, HS⟩
            case measure => simp [intOf]; omega
      · obtain rfl : k = n := by omega
        have hkk : ¬ ((k : Int) < (k : Int)) := by omega
        have HAT1 := hide (lawAt_any c A k cap x w6 HXa6.out.cu HXa6.out.big)
        obtain ⟨⟨v, ev⟩, hv⟩ : ∃ q, atV c x = q := ⟨_, rfl⟩
        rw [hv] at HAT1
        have HV := hide hv
        have HAT2 := hide (fun W' (hh : Below w6.heap.size w6 W') => lawAt_any d A4 n4 k4 lo W' (HX6.out.below hh).cu HX6.out.big)
        clear hv
        go_wp2_with fail
        refine HAT1.out.mono ?_
        rintro e w7 ⟨rfl, hb7⟩
        have HB7 := hide (HB6.out.trans (hb7.mono HB6.out.size))
        have HX7 := hide (HX6.out.below hb7)
        have HAT2 := hide (HAT2.out w7 hb7)
        clear HAT1 hb7 a0 a1 a2
        by_cases hv0 : ev = 0
        · subst hv0
          obtain ⟨-, i, hi', hxi⟩ := atV_some (c := c) (x := x) (by rw [HV.out])
          have hvv : v = valK c i := by
            have h1 := HV.out
            rw [hxi, atV_in HVA.out hi'] at h1
            injection h1 with h1 _
            exact h1.symm
          obtain ⟨ps, hps1, hps2, hps3⟩ := back_price HVA.out hi' hlh (fun j hj => HN.out j (by have := HLA.out; omega))
          have HPS : Hid (lo ≤ ps ∧ ps ≤ hi ∧ ps * x - gre c ps = v) := ⟨hps1, hps2, by rw [hxi, hvv]; exact hps3⟩
          have HLE : Hid (∀ q, q * x - gre c q ≤ v) := fun q => by rw [hxi, hvv]; exact back_le c hi' q
          have hxr : -2097152 ≤ x ∧ x ≤ 2097152 := by have := okC_fr HVA.out; have := HLA.out; omega
          have HCA : Hid (∀ j : Nat, (j : Int) ≤ hi - lo → atV d (lo + j) = (gre c (lo + j), 0) ∧ -1125899906842624 ≤ gre c (lo + j) ∧ gre c (lo + j) ≤ 1125899906842624) := fun j hj => by
            have h := HVD.out
            rw [HD.out] at h ⊢
            exact ⟨con_at HVA.out h hj, con_range HVA.out h hj⟩
          have h00 := HCA.out 0 (by omega)
          rw [show lo + ((0 : Nat) : Int) = lo by omega] at h00
          rw [h00.1] at HAT2
          obtain ⟨g0, hg0⟩ : ∃ q, gre c lo = q := ⟨_, rfl⟩
          rw [hg0] at HAT2 h00
          have hgr := h00.2
          have hmb := mul_bound (a := lo) (b := x) (M := 1048576) (N := 2097152) (by omega) (by omega)
          obtain ⟨lx, hlx⟩ : ∃ q, lo * x = q := ⟨_, rfl⟩
          rw [hlx] at hmb
          have hw1 : IntKind.i64.wrap (lo * x) = lx := by rw [hlx, IntKind.wrap_i64]; omega
          obtain ⟨bs, hbs⟩ : ∃ q, lx - g0 = q := ⟨_, rfl⟩
          have hw2 : IntKind.i64.wrap (lx - g0) = bs := by rw [IntKind.wrap_i64]; omega
          have HB0 : Hid (bs ≤ v ∧ (ps < lo → bs = v)) := ⟨by have := HLE.out lo; rw [hg0, hlx] at this; omega, fun h => absurd HPS.out.1 (by omega)⟩
          obtain ⟨b0, b1, b2⟩ := HX7.out.cells
          have HRG := hide (show (-1048576 ≤ lo ∧ lo ≤ 1048576) ∧ lo ≤ hi ∧ hi ≤ lo + 64 ∧ hi ≤ 1048576 ∧ (-2097152 ≤ x ∧ x ≤ 2097152) from ⟨hlr, hlh, hh1, hh2, hxr⟩)
          clear h00 hg0 hlx hbs hps1 hps2 hps3 hvv hmb hgr hi' hxi hlr hlh hh1 hh2 hxr hf2 hl1 hn64 hkk
          go_wp2_with fail
          refine HAT2.out.mono ?_
          rintro e w8 ⟨rfl, hb8⟩
          have HB8 := hide (HB7.out.trans (hb8.mono HB7.out.size))
          have HX8 := hide (HX7.out.below hb8)
          clear HAT2 hb8 HB7 HX7 b0 b1 b2
          go_wp2_with fail
          obtain ⟨hlr, hlh, hh1, hh2, hxr⟩ := HRG.out
          go_loopw [15, 16, 17] (fun vi vb vp wr => ∃ (j : Nat) (b : Int), (j : Int) ≤ hi + 1 - lo ∧ vi = .bool true ∧ vb = .int .i64 b ∧ vp = .int .i64 (lo + j) ∧ Hid (b ≤ v ∧ (ps < lo + j → b = v)) ∧ Hid (Below w8.heap.size w8 wr)) (fun _ _ vp _ => (hi + 1 - intOf vp).toNat)
          case atStart => exact ⟨0, bs, by omega, rfl, rfl, by congr 1; omega, by rw [show lo + ((0 : Nat) : Int) = lo by omega]; exact HB0, Below.refl _ _⟩
          case round =>
            obtain ⟨j, b, hj, rfl, rfl, rfl, HBV, HBr⟩ := hrel
            obtain ⟨P, hP⟩ : ∃ q, lo + (j : Int) = q := ⟨_, rfl⟩
            rw [hP]
            rw [hP] at HBV
            by_cases hlt : P ≤ hi
            · have hd3 : decide (P ≤ hi) = true := decide_eq_true hlt
              have hwP : IntKind.i64.wrap (P + 1) = P + 1 := by rw [IntKind.wrap_i64]; omega
              have h01 := HCA.out j (by omega)
              rw [hP] at h01
              have HXr := hide (HX8.out.below HBr.out)
              have HAT3 := hide (lawAt_any d A4 n4 k4 P wr HXr.out.cu HXr.out.big)
              rw [h01.1] at HAT3
              have hle := HLE.out P
              obtain ⟨g1, hg1⟩ : ∃ q, gre c P = q := ⟨_, rfl⟩
              rw [hg1] at HAT3 h01 hle
              have hgr := h01.2
              have hmb := mul_bound (a := P) (b := x) (M := 1048576) (N := 2097152) (by omega) (by omega)
              have hbx : P = ps → P * x - g1 = v := fun h => by have := HPS.out.2.2; rw [← h, hg1] at this; exact this
              obtain ⟨px, hpx⟩ : ∃ q, P * x = q := ⟨_, rfl⟩
              rw [hpx] at hmb hle hbx
              have hw3 : IntKind.i64.wrap (P * x) = px := by rw [hpx, IntKind.wrap_i64]; omega
              obtain ⟨pm, hpm⟩ : ∃ q, px - g1 = q := ⟨_, rfl⟩
              have hw4 : IntKind.i64.wrap (px - g1) = pm := by rw [IntKind.wrap_i64]; omega
              obtain ⟨b', hb'⟩ : ∃ q : Int, max b pm = q := ⟨_, rfl⟩
              have HBV2 : Hid (b' ≤ v ∧ (ps < P + 1 → b' = v)) := by
                have h1 := HBV.out
                refine ⟨by omega, fun h => ?_⟩
                by_cases hc : P = ps
                · have := hbx hc
                  omega
                · have := h1.2 (by omega)
                  omega
              obtain ⟨c0, c1, c2⟩ := HXr.out.cells
              have e1 : P + 1 = lo + ((j + 1 : Nat) : Int) := by omega
              have HE1 := hide e1
              clear h01 hg1 hpx hpm hgr hmb hbx hle HBV HXr e1 hP hlr hlh hh1 hh2 hxr
              go_wp2_with fail
              refine HAT3.out.mono ?_
              rintro e w9 ⟨rfl, hb9⟩
              have HB9 := hide (HBr.out.trans (hb9.mono HBr.out.size))
              clear HAT3 hb9 HBr c0 c1 c2
              go_wp2_with fail
              obtain ⟨hlr, hlh, hh1, hh2, hxr⟩ := HRG.out
              go_roundw
              case rel => exact ⟨j + 1, b', by have := HE1.out; omega, rfl, rfl, by rw [← HE1.out], by rw [← HE1.out]; exact HBV2, HB9⟩
              case measure => simp [intOf]; omega
            · have hd3 : decide (P ≤ hi) = false := decide_eq_false hlt
              have hbv : b = v := HBV.out.2 (by have := HPS.out; omega)
              subst hbv
              have HBB := hide (HB8.out.trans (HBr.out.mono HB8.out.size))
              have hss : (b == b) = true := by simp
              clear HBV HPS HLE HB0 HV hP hlr hlh hh1 hh2 hxr
              go_wp2_with fail
              refine (alive_any wr).mono ?_
              rintro e w9 ⟨rfl, hb9⟩
              have HB9 := hide (HBB.out.trans (hb9.mono HBB.out.size))
              clear hb9
              go_wp2
              go_ret
              exact ⟨rfl, HB9.out⟩
        · have hq1 : (ev == 0) = false := beq_eq_false_iff_ne.2 hv0
          go_wp2_with fail
          refine (alive_any w7).mono ?_
          rintro e w8 ⟨rfl, hb8⟩
          have HB8 := hide (HB7.out.trans (hb8.mono HB7.out.size))
          clear hb8
          go_wp2
          go_ret
          exact ⟨rfl, HB8.out⟩
  · have hn0 : (e1 != 0) = true := by rw [bne_iff_ne]; exact h0
    have HB2 := hide ((HB1.out.trans (hb2.mono HB1.out.size)).alloc (HB1.out.trans (hb2.mono HB1.out.size)).size (.cells #[.int .i64 d.fr, .int .i64 d.fst, .slice A4 n4 k4] 24))
    clear hpost hX4 hb2 HJ
    go_wp2_with fail
    refine (alive_any _).mono ?_
    rintro e w8 ⟨rfl, hb8⟩
    have HB8 := hide (HB2.out.trans (hb8.mono HB2.out.size))
    clear hb8
    go_wp2
    go_ret
    exact ⟨rfl, HB8.out⟩

end Go.Proofs.Ytdepnhnpklbmiaa
