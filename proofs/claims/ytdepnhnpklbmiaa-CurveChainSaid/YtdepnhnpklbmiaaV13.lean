/- The walk of the law on the chain of joins. -/
import Derived.Test.YtdepnhnpklbmiaaC0
import Derived.Test.YtdepnhnpklbmiaaQ2
import Derived.Deep.AppendLies
import Derived.Test.YtdepnhnpklbmiaaF0
namespace Go.Proofs.Ytdepnhnpklbmiaa
open Go.RowKit Go.Sort

theorem CuPost.box2' {c : Cu} {e0 : Int} {w : World} {e : Ending} {w' : World} (h : CuPost (c, e0) w e w') (hn : c.sl.length ≤ 64) :
    ∃ A n cap, e = .returned (.tuple #[.agg #[.int .i64 c.fr, .int .i64 c.fst, .slice A n cap], .int .i64 e0]) ∧ Below w.heap.size w w' ∧ CuAt w'.heap.size w' c A n cap ∧ n ≤ 64 := by
  obtain ⟨A, n, cap, rfl, ho, hb⟩ := h
  have hl : c.sl.length = n := by simpa using ho.1
  exact ⟨A, n, cap, rfl, hb, cu_of_own ho, by omega⟩

/-- the join of the first k curves -/
def jn (cs : Nat → Cu) (k : Nat) : Cu := ⟨sumTo (fun i => (cs i).fr) k, sumTo (fun i => (cs i).fst) k, sortI (catL cs k)⟩
theorem sortI_self {xs : List Int} (h : ascTo xs xs.length) : sortI xs = xs := sortI_unique (List.Perm.refl _) (asc_pairwise h)
theorem jn_one {cs : Nat → Cu} (h : okC (cs 0) = true) : jn cs 1 = cs 0 := by
  apply cu_ext
  · show 0 + (cs 0).fr = _
    omega
  · show 0 + (cs 0).fst = _
    omega
  · show sortI ([] ++ (cs 0).sl) = _
    rw [List.nil_append, sortI_self (okC_true h).2.2.2.1]
theorem jn_succ (cs : Nat → Cu) (k : Nat) : joinC (jn cs k) (cs k) = jn cs (k + 1) := by
  unfold joinC jn
  simp only [sumTo, catL]
  rw [sortI_left]
/-- where the division succeeds, all curves are valid, and the cost is what the join of all has -/
theorem chain_math {cs : Nat → Cu} {n : Nat} {total : Int} (h : splitE cs n total = 0) : 0 < n ∧ n ≤ 8 ∧ (∀ i, i < n → okC (cs i) = true) ∧ ∃ m : Nat, m ≤ (jn cs n).sl.length ∧ total = (jn cs n).fr + m ∧ splitC cs n total = valK (jn cs n) m := by
  have h0 := h
  unfold splitE at h
  split at h
  · exact absurd h (by decide)
  split at h
  · exact absurd h (by decide)
  split at h
  · exact absurd h (by decide)
  split at h
  · exact absurd h (by decide)
  rename_i h8 hn0 hall hrange
  have hok := (allOk_iff cs n).1 (by simpa using hall)
  have hcl := catL_length cs n
  have hd := divided cs n total hok (by unfold splitLo; omega) (by omega)
  have hm : (total - splitLo cs n).toNat ≤ (catL cs n).length := by unfold splitLo; omega
  have hc := divided_cost hd hm
  refine ⟨by omega, by omega, hok, (total - splitLo cs n).toNat, by show _ ≤ (sortI (catL cs n)).length; rw [sortI_length]; exact hm, by show _ = sumTo (fun i => (cs i).fr) n + _; unfold splitLo; omega, ?_⟩
  unfold splitC
  rw [if_pos h0, hc, valK_pS]
  rfl

set_option maxHeartbeats 8000000 in
set_option maxRecDepth 100000 in
theorem chain_law (A : Option Addr) (n cap : Nat) (cs : Nat → Cu) (ss : Nat → Option Addr × Nat × Nat) (total : Int) (w : World) (hx : CurvesAt w.heap.size w A n cs ss) (hcap : n ≤ cap) (hnb : n ≤ 9223372036854775807) (hm : ∀ i, i < n → (ss i).2.1 ≤ 9223372036854775807) :
    Calls Try.prog 13 #[.slice A n cap, .int .i64 total] w (LawPost w) := by
  have mixed := mixedOrders
  have HSP := hide (Split_any A n cap cs ss total w hx hcap hm)
  have HX := hide hx
  have HM := hide hm
  clear hx hm
  go_enter Try.func13, Try.ntmps13
  go_wp2_with fail
  refine HSP.out.mono ?_
  rintro e w2 ⟨A2, m2, k2, rfl, hi2, hb2⟩
  have HB2 := hide hb2
  clear HSP hi2
  by_cases he : splitE cs n total = 0
  · obtain ⟨hn0, hn8, hok, m, hml, hmt, hmc⟩ := chain_math he
    have HOK := hide hok
    have HMT := hide (show m ≤ (jn cs n).sl.length ∧ total = (jn cs n).fr + m from ⟨hml, hmt⟩)
    rw [he, hmc]
    obtain ⟨sc, hsc⟩ : ∃ q, valK (jn cs n) m = q := ⟨_, rfl⟩
    have HSC := hide hsc
    rw [hsc]
    generalize splitP cs n total = sp
    obtain ⟨b, off, rfl, hb, c0, c1, c2⟩ := HX.out.at_ hn0
    have d0 := (HB2.out.cell (p := ⟨b, off + 0 * 3, none⟩) hb).trans c0
    have d1 := (HB2.out.cell (p := ⟨b, off + 0 * 3 + 1, none⟩) hb).trans c1
    have d2 := (HB2.out.cell (p := ⟨b, off + 0 * 3 + 2, none⟩) hb).trans c2
    simp only [Nat.zero_mul, Nat.add_zero] at d0 d1 d2
    have hn0' : (0 : Int) < (n : Int) := by omega
    have HCU0 := hide ((HX.out.cu 0 hn0).now hb2 (Nat.le_refl _))
    have HM0 := HM.out 0 hn0
    have HJ1 := hide (jn_one (HOK.out 0 hn0))
    generalize cs 0 = cz at d0 d1 d2 HCU0 HJ1
    generalize ss 0 = sz at d2 HCU0 HM0
    obtain ⟨A0, m0, k0⟩ := sz
    have HCU0 : Hid (CuAt w2.heap.size w2 cz A0 m0 k0) := HCU0
    have hm0b : m0 ≤ 9223372036854775807 := HM0
    have d2 : w2.cell? ⟨b, off + 2, none⟩ = some (.slice A0 m0 k0) := d2
    obtain ⟨W3, hW3⟩ : ∃ W, w2.alloc (.cells #[.int .i64 cz.fr, .int .i64 cz.fst, .slice A0 m0 k0] 24) = W := ⟨_, rfl⟩
    obtain ⟨g, hg⟩ : ∃ q, w2.heap.size = q := ⟨_, rfl⟩
    have hX3 := box_new HCU0.out hm0b
    rw [hW3, hg, ← HJ1.out] at hX3
    have HX3 := hide hX3
    have HB3 : Hid (Below w.heap.size w W3) := by show Below _ _ _; rw [← hW3]; exact hb2.alloc hb2.size _
    have hwg : w.heap.size ≤ g := by have := hb2.size; omega
    have HG3 : Hid (g < W3.heap.size) := hX3.lt
    clear hX3 hb2 c0 c1 c2 hml hmt hmc hsc he hok HCU0
    go_wp2_with fail
    go_loopw [10] (fun vi wr => ∃ (i : Nat) (A9 : Option Addr) (n9 k9 : Nat), 1 ≤ i ∧ i ≤ n ∧ vi = .int .i64 i ∧ Hid (okC (jn cs i) = true) ∧ Hid (Box wr g (jn cs i) A9 n9 k9) ∧ Hid (Below w.heap.size w wr)) (fun vi _ => n - (intOf vi).toNat)
    case atStart => exact ⟨1, A0, m0, k0, Nat.le_refl _, hn0, rfl, by show okC (jn cs 1) = true; rw [jn_one (HOK.out 0 hn0)]; exact HOK.out 0 hn0, HX3, HB3⟩
    case round =>
      obtain ⟨i, A9, n9, k9, hi1, hin, rfl, HOI, HXi, HBr⟩ := hrel
      by_cases hlt : i < n
      · have hlt' : (i : Int) < (n : Int) := by omega
        obtain ⟨b', off', eb, hb', c0, c1, c2⟩ := HX.out.at_ hlt
        injection eb with eb
        injection eb with eb1 eb2
        subst eb1 eb2
        have d0 := (HBr.out.cell (p := ⟨b, off + i * 3, none⟩) hb').trans c0
        have d1 := (HBr.out.cell (p := ⟨b, off + i * 3 + 1, none⟩) hb').trans c1
        have d2 := (HBr.out.cell (p := ⟨b, off + i * 3 + 2, none⟩) hb').trans c2
        have HCI := hide ((HX.out.cu i hlt).now HBr.out (Nat.le_refl _))
        have HMI := HM.out i hlt
        have HOC := hide (HOK.out i hlt)
        obtain ⟨⟨q, eq⟩, hq⟩ : ∃ q, joinV (jn cs i) (cs i) = q := ⟨_, rfl⟩
        have HQ := hide hq
        have hlq : q.sl.length ≤ 64 := by have := joinV_len (jn cs i) (cs i); rw [hq] at this; exact this
        have HQE : Hid ((eq = 0 ∧ q = jn cs (i + 1) ∧ okC q = true) ∨ eq = 4) := by
          rcases joinV_error hq with ⟨h, _⟩ | ⟨_, h⟩ | ⟨_, _, h⟩ | ⟨h, _⟩
          · obtain ⟨_, _, h2, h3⟩ := joinV_zero hq h
            exact .inl ⟨h, by rw [h2, jn_succ], h3⟩
          · rw [HOI.out] at h; cases h
          · rw [HOC.out] at h; cases h
          · exact .inr h
        obtain ⟨a0, a1, a2⟩ := HXi.out.cells
        have HJ := hide (fun W (h : Below wr.heap.size wr W) => Join_any (jn cs i) (cs i) A9 n9 k9 (ss i).1 (ss i).2.1 (ss i).2.2 W (HXi.out.below h).cu (HCI.out.now h (Nat.le_refl _)) HXi.out.big HMI)
        rw [hq] at HJ
        have HCI2 := hide HCI.out
        generalize cs i = ci at d0 d1 d2 HCI2 HJ HQ
        generalize ss i = si at d2 HCI2 HMI HJ
        obtain ⟨Ai, ni, ki⟩ := si
        have d2 : wr.cell? ⟨b, off + i * 3 + 2, none⟩ = some (.slice Ai ni ki) := d2
        have HJ : Hid (∀ W, Below wr.heap.size wr W → Calls Try.prog 28 #[.agg #[.int .i64 (jn cs i).fr, .int .i64 (jn cs i).fst, .slice A9 n9 k9], .agg #[.int .i64 ci.fr, .int .i64 ci.fst, .slice Ai ni ki]] W (CuPost (q, eq) W)) := HJ
        clear c0 c1 c2 HCI HCI2 hq
        have HGR := hide HXi.out.lt
        generalize jn cs i = ji at a0 a1 a2 HJ HQ HOI
        go_wp2_with fail
        have HJD := hide (HJ.out wr.drew ((Below.refl _ wr).drew))
        have l0 : (wr.alloc (.cells #[.int .i64 0, .int .i64 0, .slice none 0 0] 24)).cell? ⟨b, off + i * 3, none⟩ = some (.int .i64 ci.fr) := (World.cell?_alloc_lt _ _ _ (by show b < _; have := HBr.out.size; omega)).trans d0
        have l1 : (wr.alloc (.cells #[.int .i64 0, .int .i64 0, .slice none 0 0] 24)).cell? ⟨b, off + i * 3 + 1, none⟩ = some (.int .i64 ci.fst) := (World.cell?_alloc_lt _ _ _ (by show b < _; have := HBr.out.size; omega)).trans d1
        have l2 : (wr.alloc (.cells #[.int .i64 0, .int .i64 0, .slice none 0 0] 24)).cell? ⟨b, off + i * 3 + 2, none⟩ = some (.slice Ai ni ki) := (World.cell?_alloc_lt _ _ _ (by show b < _; have := HBr.out.size; omega)).trans d2
        have m0 : (wr.alloc (.cells #[.int .i64 0, .int .i64 0, .slice none 0 0] 24)).cell? ⟨g, 0, none⟩ = some (.int .i64 ji.fr) := (World.cell?_alloc_lt _ _ _ HGR.out).trans a0
        have m1 : (wr.alloc (.cells #[.int .i64 0, .int .i64 0, .slice none 0 0] 24)).cell? ⟨g, 1, none⟩ = some (.int .i64 ji.fst) := (World.cell?_alloc_lt _ _ _ HGR.out).trans a1
        have m2 : (wr.alloc (.cells #[.int .i64 0, .int .i64 0, .slice none 0 0] 24)).cell? ⟨g, 2, none⟩ = some (.slice A9 n9 k9) := (World.cell?_alloc_lt _ _ _ HGR.out).trans a2
        have HJE := hide (HJ.out (wr.drew.alloc (.cells #[.int .i64 0, .int .i64 0, .slice none 0 0] 24)) (((Below.refl _ wr).drew).alloc (Nat.le_refl _) _))
        go_region_law (first | (go_simp; go_at_call 28; refine HJD.out.mono ?_; rintro e w5 ⟨A5, n5, k5, rfl, ho5, hb5⟩; have hkA := hb5) | (go_simp; go_at_call 28; refine HJE.out.mono ?_; rintro e w5 ⟨A5, n5, k5, rfl, ho5, hb5⟩; have hq5 := (hb5.block wr.heap.size (by rw [World.size_alloc]; exact Nat.lt_succ_self _)).trans (heap_alloc_new wr.drew _); have z0 := cell_of_heap' hq5 0; have z1 := cell_of_heap' hq5 1; have z2 := cell_of_heap' hq5 2; have y0 := frozen_of_heap' hq5 0; have y1 := frozen_of_heap' hq5 1; have y2 := frozen_of_heap' hq5 2; simp at z0 z1 z2))
        all_goals first
          |
          (have hb5' : Below wr.heap.size wr w5 := ((Below.refl wr.heap.size wr).drew).trans hkA
           obtain ⟨W6, hW6⟩ : ∃ W, w5.alloc (.cells #[.int .i64 q.fr, .int .i64 q.fst, .slice A5 n5 k5] 24) = W := ⟨_, rfl⟩
           obtain ⟨gq, hgq⟩ : ∃ q, w5.heap.size = q := ⟨_, rfl⟩
           have hb6 : Below wr.heap.size wr W6 := by rw [← hW6]; exact hb5'.alloc hb5'.size _
           have hy6 : W6.heap[gq]? = some (.cells #[.int .i64 q.fr, .int .i64 q.fst, .slice A5 n5 k5] 24 (0, 0)) := by rw [← hW6, ← hgq]; exact heap_alloc_new w5 _
           have ho6 : W6.ownsRow wr.heap.size 3 1 (.slice A5 n5 k5) n5 (q.sl.map (Value.int .i64)) := by rw [← hW6]; exact ho5.alloc _
           rw [hW6, hgq]
           clear hb5' hW6 hgq)
          |
          (have hb5' : Below wr.heap.size wr w5 := (((Below.refl wr.heap.size wr).drew).alloc (Nat.le_refl _) _).trans (hb5.mono (by rw [World.size_alloc]; exact Nat.le_succ _))
           obtain ⟨W6, hW6⟩ : ∃ W, ((w5.setCell ⟨wr.heap.size, 0, none⟩ (.int .i64 q.fr)).setCell ⟨wr.heap.size, 1, none⟩ (.int .i64 q.fst)).setCell ⟨wr.heap.size, 2, none⟩ (.slice A5 n5 k5) = W := ⟨_, rfl⟩
           obtain ⟨gq, hgq⟩ : ∃ q, wr.heap.size = q := ⟨_, rfl⟩
           have hb6 : Below wr.heap.size wr W6 := by rw [← hW6]; exact set3_below hb5' (Nat.le_refl _) _ _ _
           have hy6 : W6.heap[gq]? = some (.cells #[.int .i64 q.fr, .int .i64 q.fst, .slice A5 n5 k5] 24 (0, 0)) := by rw [← hW6, ← hgq]; exact set3_heap hq5 _ _ _
           have ho6 : W6.ownsRow wr.heap.size 3 1 (.slice A5 n5 k5) n5 (q.sl.map (Value.int .i64)) := by
             rw [← hW6]
             have ho5 : w5.ownsRow (wr.drew.alloc (.cells #[.int .i64 0, .int .i64 0, .slice none 0 0] 24)).heap.size 3 1 (.slice A5 n5 k5) n5 (q.sl.map (Value.int .i64)) := ho5
             rw [World.size_alloc] at ho5
             exact own_base (own_set3 ho5 (Nat.lt_succ_self _) _ _ _) (Nat.le_succ _)
           rw [hW6]
           rw [hgq]
           clear hb5' hW6 hq5 z0 z1 z2 y0 y1 y2 hgq)
        all_goals
          have hz6 := (hb6.block g HGR.out).trans HXi.out.hp
          have x0 := cell_of_heap' hz6 0
          have x1 := cell_of_heap' hz6 1
          have x2 := cell_of_heap' hz6 2
          have f0 := frozen_of_heap' hz6 0
          have f1 := frozen_of_heap' hz6 1
          have f2 := frozen_of_heap' hz6 2
          have y0 := cell_of_heap' hy6 0
          have y1 := cell_of_heap' hy6 1
          have y2 := cell_of_heap' hy6 2
          simp at x0 x1 x2 y0 y1 y2
          have hlq5 : q.sl.length = n5 := by simpa using ho6.1
          have HZ6 := hide hz6
          have HO6 := hide ho6
          have HB6 := hide (HBr.out.trans (hb6.mono HBr.out.size))
          have hlq6 : n5 ≤ 64 := by omega
          clear hz6 hy6 ho6 hb6 ho5 hb5 d0 d1 d2 l0 l1 l2 m0 m1 m2 a0 a1 a2 HJD HJE HJ
          rcases HQE.out with ⟨he0, hqj, hokq⟩ | he4
          · subst he0
            have HOQ := hide hokq
            have HQJ := hide hqj
            clear hqj hokq HQE
            go_wp2_with fail
            have HN : Hid (Box (set3 W6 g (.int .i64 q.fr) (.int .i64 q.fst) (.slice A5 n5 k5)) g q A5 n5 k5 ∧ Below w.heap.size w (set3 W6 g (.int .i64 q.fr) (.int .i64 q.fst) (.slice A5 n5 k5))) := ⟨⟨set3_heap HZ6.out _ _ _, cu_of_own (own_set3 HO6.out HGR.out _ _ _), by omega⟩, set3_below HB6.out hwg _ _ _⟩
            rw [HQJ.out] at HN HOQ
            go_roundw
            case rel => exact ⟨i + 1, A5, n5, k5, by omega, by omega, by go_num, HOQ, by rw [← HQJ.out] at HN ⊢; exact HN.out.1, by rw [← HQJ.out] at HN; exact HN.out.2⟩
            case measure => simp [intOf]; omega
          · subst he4
            go_wp2_with fail
            refine (alive_any W6).mono ?_
            rintro e w8 ⟨rfl, hb8⟩
            have HB8 := hide (HB6.out.trans (hb8.mono HB6.out.size))
            clear hb8
            go_wp2
            go_ret
            exact ⟨rfl, HB8.out⟩
      · obtain rfl : i = n := by omega
        have hd5 : ¬ ((i : Int) < (i : Int)) := by omega
        have HAT := hide (lawAt_any (jn cs i) A9 n9 k9 total wr HXi.out.cu HXi.out.big)
        have HAE : Hid (atV (jn cs i) total = (sc, 0)) := by show _ = _; rw [HMT.out.2, atV_in HOI.out HMT.out.1, HSC.out]
        rw [HAE.out] at HAT
        obtain ⟨a0, a1, a2⟩ := HXi.out.cells
        clear HAE
        generalize jn cs i = ji at a0 a1 a2 HAT
        go_wp2_with fail
        refine HAT.out.mono ?_
        rintro e w5 ⟨rfl, hb5⟩
        have HB5 := hide (HBr.out.trans (hb5.mono HBr.out.size))
        have hss : (sc == sc) = true := by simp
        clear hb5 HAT a0 a1 a2
        go_wp2_with fail
        refine (alive_any w5).mono ?_
        rintro e w6 ⟨rfl, hb6⟩
        have HB6 := hide (HB5.out.trans (hb6.mono HB5.out.size))
        clear hb6
        go_wp2
        go_ret
        exact ⟨rfl, HB6.out⟩
  · have hn0 : (splitE cs n total != 0) = true := by rw [bne_iff_ne]; exact he
    generalize splitE cs n total = se at hn0
    generalize splitC cs n total = sc
    generalize splitP cs n total = sp
    clear he
    go_wp2_with fail
    refine (alive_any w2).mono ?_
    rintro e w6 ⟨rfl, hb6⟩
    have HB6 := hide (HB2.out.trans (hb6.mono HB2.out.size))
    clear hb6
    go_wp2
    go_ret
    exact ⟨rfl, HB6.out⟩

end Go.Proofs.Ytdepnhnpklbmiaa
