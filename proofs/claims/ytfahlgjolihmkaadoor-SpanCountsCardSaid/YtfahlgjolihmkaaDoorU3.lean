/- The walk of SpanCounts. -/
import Derived.Test.YtfahlgjolihmkaaDoorU2
import Derived.Test.YtfahlgjolihmkaaDoorTO
namespace Go.Proofs.YtfahlgjolihmkaaDoor
open Go.RowKit Go.Sort
attribute [local go_sem] Oper.semAt_some

theorem text_short {zs : List Sp} (hs : SetS zs) (hf : zs.length ≤ 128) : (txtS zs).length ≤ 10000 := by
  unfold txtS
  split
  · simp
  · have := words_len zs (fun s h => by
      have := okB_true (hs.2 s h)
      exact word_len (by omega) (by omega) (by omega) (by omega))
    omega

set_option maxHeartbeats 8000000 in
set_option maxRecDepth 100000 in
theorem counts_law (A A' : Option Addr) (n cap m cap' : Nat) (xs ys : List Sp) (x i : Int) (w : World) (hx : SpansAt w.heap.size w A n xs) (hy : SpansAt w.heap.size w A' m ys) (hn : n ≤ maxLen) (hm : m ≤ maxLen)
    (hrx : -9223372036854775808 ≤ x ∧ x ≤ 9223372036854775807) (hri : -9223372036854775808 ≤ i ∧ i ≤ 9223372036854775807) (he : Env w) :
    Calls Tryd.prog 4 #[.slice A n cap, .slice A' m cap', .int .i64 x, .int .i64 i] w (LawPost w) := by
  have mixed := mixedOrders
  have HY := hide hy
  have HM := hide hm
  have HRX := hide hrx
  have HRI := hide hri
  have HE := hide he
  have HS := hide (sets_any A n cap xs w hx hn)
  clear hx hy hn hm hrx hri he
  go_enter Tryd.func4, Tryd.ntmps4
  go_wp2_with fail
  refine HS.out.mono ?_
  rintro e w1 ⟨az, sa, la, a, ca, rfl, h, hb⟩
  have HA := hide (show SetAt w1 a az from ⟨h, sa, by omega⟩)
  have HLA := hide la
  have HB1 := hide hb
  have HS2 := hide (sets_any A' m cap' ys w1 (HY.out.now hb (Nat.le_refl _)) HM.out)
  clear h hb sa la HS
  go_wp2_with fail
  refine HS2.out.mono ?_
  rintro e w2 ⟨bz, sb, lb, b, cb, rfl, h, hb⟩
  have HA2 := hide (HA.out.now hb)
  have HBB := hide (show SetAt w2 b bz from ⟨h, sb, by omega⟩)
  have HB2 := hide (HB1.out.trans (hb.mono HB1.out.size))
  have hfo := com_fits (keep := fun p q => p || q) HA.out.set sb (by have := HLA.out; omega) (by omega) (by have := or_length HA.out.set sb; have := HLA.out; omega)
  have hfa := com_fits (keep := fun p q => p && q) HA.out.set sb (by have := HLA.out; omega) (by omega) (by have := and_length HA.out.set sb; have := HLA.out; omega)
  have hlo : (combL (fun p q => p || q) az bz).length ≤ 128 := by have := or_length HA.out.set sb; have := HLA.out; omega
  have hla : (combL (fun p q => p && q) az bz).length ≤ 128 := by have := and_length HA.out.set sb; have := HLA.out; omega
  have hu0 := comb_set (fun p q => p || q) HA.out.set sb
  have hv0 := comb_set (fun p q => p && q) HA.out.set sb
  have hsz : sizeL (combL (fun p q => p || q) az bz) + sizeL (combL (fun p q => p && q) az bz) = sizeL az + sizeL bz := size_two HA.out.set sb
  have hU := Union_any a b az.length ca bz.length cb az bz w2 HA2.out.at_ HBB.out.at_
  have hV := fun W (h1 : SetAt W a az) (h2 : SetAt W b bz) => Intersect_any a b az.length ca bz.length cb az bz W h1.at_ h2.at_
  rw [hfo.1, hfo.2] at hU
  simp only [hfa.1, hfa.2] at hV
  obtain ⟨uz, huz⟩ : ∃ q, combL (fun p q => p || q) az bz = q := ⟨_, rfl⟩
  obtain ⟨vz, hvz⟩ : ∃ q, combL (fun p q => p && q) az bz = q := ⟨_, rfl⟩
  rw [huz] at hU hlo hu0 hsz
  simp only [hvz] at hV
  rw [hvz] at hla hv0 hsz
  have HU := hide hU
  have HV := hide hV
  have HUS := hide (show SetS uz ∧ uz.length ≤ 128 from ⟨hu0, hlo⟩)
  have HVS := hide (show SetS vz ∧ vz.length ≤ 128 from ⟨hv0, hla⟩)
  have HSZ := hide hsz
  clear h hb sb lb hfo hfa hlo hla hu0 hv0 hsz hU hV huz hvz HA HB1 HS2 HY HM HLA
  go_wp2_with fail
  refine HU.out.mono ?_
  rintro e w3 ⟨u, cu, rfl, ho, hb⟩
  have HA3 := hide (HA2.out.now hb)
  have HB3 := hide (HBB.out.now hb)
  have HU3 := hide (show SetAt w3 u uz from ⟨spans_of_own ho rfl, HUS.out.1, HUS.out.2⟩)
  have HW3 := hide (HB2.out.trans (hb.mono HB2.out.size))
  clear ho hb HA2 HBB HB2 HU
  go_wp2_with fail
  refine (HV.out w3 HA3.out HB3.out).mono ?_
  rintro e w4 ⟨v, cv, rfl, ho, hb⟩
  have HA4 := hide (HA3.out.now hb)
  have HB4 := hide (HB3.out.now hb)
  have HU4 := hide (HU3.out.now hb)
  have HV4 := hide (show SetAt w4 v vz from ⟨spans_of_own ho rfl, HVS.out.1, HVS.out.2⟩)
  have HW4 := hide (HW3.out.trans (hb.mono HW3.out.size))
  clear ho hb HA3 HB3 HU3 HW3 HV
  go_wp2_with fail
  refine (HU4.out.size cu).mono ?_
  rintro e w5 ⟨rfl, hb⟩
  have HA5 := hide (HA4.out.now hb)
  have HB5 := hide (HB4.out.now hb)
  have HV5 := hide (HV4.out.now hb)
  have HW5 := hide (HW4.out.trans (hb.mono HW4.out.size))
  clear hb HA4 HB4 HU4 HV4 HW4
  go_wp2_with fail
  refine (HV5.out.size cv).mono ?_
  rintro e w6 ⟨rfl, hb⟩
  have HA6 := hide (HA5.out.now hb)
  have HB6 := hide (HB5.out.now hb)
  have HW6 := hide (HW5.out.trans (hb.mono HW5.out.size))
  clear hb HA5 HB5 HV5 HW5
  go_wp2_with fail
  refine (HA6.out.size ca).mono ?_
  rintro e w7 ⟨rfl, hb⟩
  have HA7 := hide (HA6.out.now hb)
  have HB7 := hide (HB6.out.now hb)
  have HW7 := hide (HW6.out.trans (hb.mono HW6.out.size))
  clear hb HA6 HB6 HW6
  go_wp2_with fail
  refine (HB7.out.size cb).mono ?_
  rintro e w8 ⟨rfl, hb⟩
  have HA8 := hide (HA7.out.now hb)
  have HW8 := hide (HW7.out.trans (hb.mono HW7.out.size))
  have ha := size_bounds HA8.out.set HA8.out.few
  have hb' := size_bounds HB7.out.set HB7.out.few
  have hu := size_bounds HUS.out.1 HUS.out.2
  have hv := size_bounds HVS.out.1 HVS.out.2
  obtain ⟨T, hT⟩ : ∃ T, sizeL az + sizeL bz = T := ⟨_, rfl⟩
  have t1 : wrap64 (sizeL az + sizeL bz) = T := by rw [IntWalk.wrap64_in _ (by omega)]; exact hT
  have t2 : wrap64 (sizeL uz + sizeL vz) = T := by rw [HSZ.out]; exact t1
  have HSA := hide ha
  clear hb HA7 HB7 HW7 ha hb' hu hv hT HUS HVS HSZ
  go_wp2_with fail
  clear t1 t2
  refine (HA8.out.rank ca x HRX.out).mono ?_
  rintro e w9 ⟨rfl, hb⟩
  have HA9 := hide (HA8.out.now hb)
  have HW9 := hide (HW8.out.trans (hb.mono HW8.out.size))
  have hrb := rank_bounds HA8.out.set HA8.out.few x
  obtain ⟨y, f, hN, hNc⟩ := HA9.out.nth ca (rankL az x) (by omega)
  have HNR := hide (nth_rank HA9.out.set HA9.out.few hN)
  have HN := hide hN
  have HNC := hide hNc
  clear hb HA8 HW8 hrb hN hNc
  go_wp2_with fail
  refine HNC.out.mono ?_
  rintro e w10 ⟨rfl, hb⟩
  have HA10 := hide (HA9.out.now hb)
  have HW10 := hide (HW9.out.trans (hb.mono HW9.out.size))
  clear hb HA9 HW9 HNC
  go_wp2_with fail
  refine (HA10.out.size ca).mono ?_
  rintro e w11 ⟨rfl, hb⟩
  have HA11 := hide (HA10.out.now hb)
  have HW11 := hide (HW10.out.trans (hb.mono HW10.out.size))
  clear hb HA10 HW10
  have hr0 := (rank_bounds HA11.out.set HA11.out.few x).1
  go_upto_region 14 with fail
  go_cut [145] (fun sv wx => sv = .bool false ∧ Hid (SetAt wx a az ∧ Below w.heap.size w wx))
  case first =>
    rcases HN.out with ⟨n1, n2, rfl, -, -, -, -⟩ | ⟨n1, rfl, rfl⟩
    · obtain ⟨n6, n7⟩ := HNR.out rfl
      have n8 : ¬ y < x := by omega
      have HN7 := hide n7
      clear n1 n6 n7 hr0
      go_wp2_with fail
      refine (has_any a az.length ca x az w11 HA11.out.at_ HA11.out.setB).mono ?_
      rintro e w12 ⟨rfl, hg⟩
      have HA12 := hide (show SetAt w12 a az ∧ Below w.heap.size w w12 from ⟨HA11.out.now hg.below, HW11.out.trans (hg.below.mono HW11.out.size)⟩)
      clear hg
      cases hin : inB az x
      · go_wp2
        go_meet
        exact ⟨rfl, HA12⟩
      · obtain rfl := HN7.out hin
        go_wp2
        go_meet
        exact ⟨rfl, HA12⟩
    · have n8 : ¬ rankL az x < sizeL az := by omega
      clear n1 hr0
      go_wp2
      go_meet
      exact ⟨rfl, ⟨HA11.out, HW11.out⟩⟩
  case rest =>
    obtain ⟨rfl, HR⟩ := hcut
    clear HN HNR HA11 HW11 hr0
    obtain ⟨z, f2, hN2, hNc2⟩ := HR.out.1.nth ca i HRI.out
    have hz : -9223372036854775808 ≤ z ∧ z ≤ 9223372036854775807 := by
      rcases hN2 with ⟨-, -, -, -, -, h1, h2⟩ | ⟨-, -, h1⟩ <;> omega
    have HN2 := hide hN2
    have HNC2 := hide hNc2
    have HZ := hide hz
    clear hN2 hNc2 hz
    go_wp2_with fail
    refine HNC2.out.mono ?_
    rintro e w13 ⟨rfl, hb⟩
    have HA13 := hide (HR.out.1.now hb)
    have HW13 := hide (HR.out.2.trans (hb.mono HR.out.2.size))
    clear hb HNC2 HR
    go_wp2_with fail
    refine (HA13.out.rank ca z HZ.out).mono ?_
    rintro e w14 ⟨rfl, hb⟩
    obtain ⟨kk, hkk⟩ : ∃ q, rankL az z = q := ⟨_, rfl⟩
    rw [hkk]
    have HKK := hide hkk
    clear hkk
    have HA14 := hide (HA13.out.now hb)
    have HW14 := hide (HW13.out.trans (hb.mono HW13.out.size))
    clear hb HA13 HW13
    go_upto_region 18 with fail
    go_cut [186] (fun sv wx => sv = .bool false ∧ Hid (SetAt wx a az ∧ Below w.heap.size w wx))
    case first =>
      rcases HN2.out with ⟨n1, n2, rfl, n4, n5, -, -⟩ | ⟨n1, rfl, rfl⟩
      · have HN4 := hide n4
        obtain rfl : kk = i := by rw [← HKK.out]; exact n5
        clear n4 n5
        go_wp2_with fail
        refine (has_any a az.length ca z az w14 HA14.out.at_ HA14.out.setB).mono ?_
        rintro e w15 ⟨rfl, hg⟩
        have HA15 := hide (show SetAt w15 a az ∧ Below w.heap.size w w15 from ⟨HA14.out.now hg.below, HW14.out.trans (hg.below.mono HW14.out.size)⟩)
        clear hg
        rw [HN4.out]
        go_wp2
        go_meet
        exact ⟨rfl, HA15⟩
      · by_cases h0 : 0 ≤ i
        · have h1 : ¬ i < sizeL az := by omega
          clear n1
          go_wp2
          go_meet
          exact ⟨rfl, ⟨HA14.out, HW14.out⟩⟩
        · clear n1
          go_wp2
          go_meet
          exact ⟨rfl, ⟨HA14.out, HW14.out⟩⟩
    case rest =>
      obtain ⟨rfl, HR⟩ := hcut
      clear HN2 HA14 HW14 HZ
      have HT := hide (Text_any a az.length ca az wc HR.out.1.at_ (HE.out.on HR.out.2))
      go_wp2_with fail
      refine HT.out.mono ?_
      rintro e w16 ⟨rfl, hb⟩
      rw [HR.out.1.setB, show textS az = bstr (txtS az) from if_pos HR.out.1.setB]
      have HA16 := hide (HR.out.1.now hb)
      have HW16 := hide (HR.out.2.trans (hb.mono HR.out.2.size))
      have HP := hide (Parse_any (bstr (txtS az)) (by rw [bstr_size]; have := text_short HR.out.1.set HR.out.1.few; omega) w16 (HE.out.on HW16.out))
      clear hb HT HR
      go_wp2_with fail
      refine HP.out.mono ?_
      rintro e w17 ⟨h17, hb⟩
      have HA17 := hide (HA16.out.now hb)
      have HW17 := hide (HW16.out.trans (hb.mono HW16.out.size))
      clear hb HP
      rcases h17 with ⟨zs, a2, c2, hzs, hzt, rfl, hza⟩ | ⟨hno, rfl⟩
      · obtain rfl := txtS_inj hzt
        have HZA := hide hza
        clear hzs hzt hza HA16 HW16
        go_wp2_with fail
        refine (same_any a2 a zs.length c2 zs.length ca zs zs w17 HZA.out HA17.out.at_ (by have := HA17.out.few; omega) (by have := HA17.out.few; omega)).mono ?_
        rintro e w18 ⟨rfl, q, rfl⟩
        rw [decide_eq_true (rfl : zs = zs)]
        go_wp2_with fail
        refine (alive_any _).mono ?_
        rintro e w19 ⟨rfl, hb6⟩
        go_wp2
        go_ret
        exact ⟨rfl, (HW17.out.trans (((Gr.refl w17).drewN q).below.mono HW17.out.size)).trans (hb6.mono HW17.out.size)⟩
      · exact absurd rfl (hno az HA16.out.setB)
end Go.Proofs.YtfahlgjolihmkaaDoor
