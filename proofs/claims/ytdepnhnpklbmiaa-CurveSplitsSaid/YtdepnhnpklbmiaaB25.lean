/- Contract of the law's spent. -/
import Derived.Test.YtdepnhnpklbmiaaA3
import Derived.Test.YtdepnhnpklbmiaaA4
import Derived.Test.YtdepnhnpklbmiaaC0
import Derived.Deep.RegionHeld3
namespace Go.Proofs.Ytdepnhnpklbmiaa
open Go.RowKit Go.Sort

/-- are the first k numbers in the domains? -/
def inTo (cs : Nat → Cu) (xs : List Int) (k : Nat) : Prop := ∀ i, i < k → (atV (cs i) (iA xs i)).2 = 0
instance (cs : Nat → Cu) (xs : List Int) (k : Nat) : Decidable (inTo cs xs k) := by unfold inTo; infer_instance
/-- what some numbers cost -/
def costTo (cs : Nat → Cu) (xs : List Int) (k : Nat) : Int := sumTo (fun i => (atV (cs i) (iA xs i)).1) k
def spV (cs : Nat → Cu) (n : Nat) (xs : List Int) (m : Nat) (total : Int) : Int × Bool := if m = n ∧ inTo cs xs n then (costTo cs xs n, decide (total = sumTo (iA xs) n)) else (0, false)

theorem in_step {cs : Nat → Cu} {xs : List Int} {k : Nat} (h : inTo cs xs k) (h1 : (atV (cs k) (iA xs k)).2 = 0) : inTo cs xs (k + 1) := fun i hi => by
  rcases Nat.lt_or_ge i k with h2 | h2
  · exact h i h2
  · obtain rfl : i = k := by omega
    exact h1
theorem at_range {c : Cu} {x : Int} (h : (atV c x).2 = 0) : (-1125899906842624 ≤ (atV c x).1 ∧ (atV c x).1 ≤ 1125899906842624) ∧ -2097152 ≤ x ∧ x ≤ 2097152 := by
  obtain ⟨hc, k, hk, rfl⟩ := atV_some h
  rw [atV_in hc hk]
  have := okC_fr hc
  have := okC_len hc
  exact ⟨okC_val hc hk, by omega, by omega⟩

set_option maxHeartbeats 4000000 in
set_option maxRecDepth 100000 in
theorem spent_any (A : Option Addr) (n cap : Nat) (cs : Nat → Cu) (ss : Nat → Option Addr × Nat × Nat) (B : Option Addr) (m cap2 : Nat) (xs : List Int) (total : Int) (w : World) (hx : CurvesAt w.heap.size w A n cs ss) (hy : IntsAt w.heap.size w B m xs)
    (hn : n ≤ 8) (hm : m ≤ 9223372036854775807) (hss : ∀ i, i < n → (ss i).2.1 ≤ 9223372036854775807) (ht : -1073741824 ≤ total ∧ total ≤ 1073741824) :
    Calls Try.prog 48 #[.slice A n cap, .slice B m cap2, .int .i64 total] w fun e w' => e = .returned (.tuple #[.int .i64 (spV cs n xs m total).1, .bool (spV cs n xs m total).2]) ∧ Below w.heap.size w w' := by
  have mixed := mixedOrders
  have HX := hide hx
  have HY := hide hy
  have HSS := hide hss
  have HT := hide ht
  clear hx hy hss ht
  by_cases hmn : m = n
  · subst hmn
    have hbq : ((m : Int) != (m : Int)) = false := by simp
    go_enter Try.func48, Try.ntmps48
    go_wp2_with fail
    go_loopw [8, 9, 10] (fun vs vl vi wr => ∃ i : Nat, i ≤ m ∧ vs = .int .i64 (costTo cs xs i) ∧ vl = .int .i64 (total - sumTo (iA xs) i) ∧ vi = .int .i64 i ∧ Hid (inTo cs xs i) ∧ Hid (Below w.heap.size w wr)) (fun _ _ vi _ => m - (intOf vi).toNat)
    case atStart => exact ⟨0, Nat.zero_le _, rfl, by congr 1; simp [sumTo], rfl, fun i hi => absurd hi (Nat.not_lt_zero _), Below.refl _ _⟩
    case round =>
      obtain ⟨i, hi, rfl, rfl, rfl, HN, HB⟩ := hrel
      have hcr : -(1125899906842624 * (i : Int)) ≤ costTo cs xs i ∧ costTo cs xs i ≤ 1125899906842624 * i := sumTo_range i (fun j hj => (at_range (HN.out j hj)).1)
      have hlr : -(2097152 * (i : Int)) ≤ sumTo (iA xs) i ∧ sumTo (iA xs) i ≤ 2097152 * i := sumTo_range i (fun j hj => (at_range (HN.out j hj)).2)
      have htt := HT.out
      by_cases hlt : i < m
      · have hlt' : (i : Int) < (m : Int) := by omega
        obtain ⟨b, off, rfl, hb, c0, c1, c2⟩ := HX.out.at_ hlt
        obtain ⟨b', off', rfl, hb', e0⟩ := HY.out.at_ hlt
        have KB : Hid (∀ W', Below wr.heap.size wr W' → W'.cell? ⟨b, off + i * 3, none⟩ = some (.int .i64 (cs i).fr) ∧ W'.cell? ⟨b, off + i * 3 + 1, none⟩ = some (.int .i64 (cs i).fst) ∧ W'.cell? ⟨b, off + i * 3 + 2, none⟩ = some (.slice (ss i).1 (ss i).2.1 (ss i).2.2) ∧ W'.cell? ⟨b', off' + i, none⟩ = some (.int .i64 (iA xs i))) := fun W' h => by
          have h2 := HB.out.trans (h.mono HB.out.size)
          exact ⟨(h2.cell (p := ⟨b, off + i * 3, none⟩) hb).trans c0, (h2.cell (p := ⟨b, off + i * 3 + 1, none⟩) hb).trans c1, (h2.cell (p := ⟨b, off + i * 3 + 2, none⟩) hb).trans c2, (h2.cell (p := ⟨b', off' + i, none⟩) hb').trans e0⟩
        have HAT := hide (lawAt_any (cs i) (ss i).1 (ss i).2.1 (ss i).2.2 (iA xs i) wr.drew ((HX.out.cu i hlt).now (HB.out.drew) (Nat.le_refl _)) (HSS.out i hlt))
        have HST : Hid ((atV (cs i) (iA xs i)).2 = 0 → inTo cs xs (i + 1)) := fun h => in_step HN.out h
        have HNO : Hid ((atV (cs i) (iA xs i)).2 ≠ 0 → spV cs m xs m total = (0, false)) := fun h => if_neg fun h2 => h (h2.2 i hlt)
        have HCS : Hid (costTo cs xs (i + 1) = costTo cs xs i + (atV (cs i) (iA xs i)).1) := rfl
        have HLS : Hid (sumTo (iA xs) (i + 1) = sumTo (iA xs) i + iA xs i) := rfl
        have har : (atV (cs i) (iA xs i)).2 = 0 → _ := at_range (c := cs i) (x := iA xs i)
        obtain ⟨⟨v, ev⟩, hv⟩ : ∃ q, atV (cs i) (iA xs i) = q := ⟨_, rfl⟩
        rw [hv] at HAT HST HNO HCS har
        obtain ⟨ct, hct⟩ : ∃ q, costTo cs xs i = q := ⟨_, rfl⟩
        obtain ⟨sm, hsm⟩ : ∃ q, sumTo (iA xs) i = q := ⟨_, rfl⟩
        rw [hct] at HCS hcr ⊢
        rw [hsm] at HLS hlr ⊢
        obtain ⟨lf, hlf⟩ : ∃ q, total - sm = q := ⟨_, rfl⟩
        rw [hlf]
        generalize cs i = ci at KB HAT hv har
        generalize ss i = si at KB HAT
        obtain ⟨Ai, ni, ki⟩ := si
        generalize iA xs i = xi at KB HAT hv HLS har
        have KB : Hid (∀ W', Below wr.heap.size wr W' → W'.cell? ⟨b, off + i * 3, none⟩ = some (.int .i64 ci.fr) ∧ W'.cell? ⟨b, off + i * 3 + 1, none⟩ = some (.int .i64 ci.fst) ∧ W'.cell? ⟨b, off + i * 3 + 2, none⟩ = some (.slice Ai ni ki) ∧ W'.cell? ⟨b', off' + i, none⟩ = some (.int .i64 xi)) := KB
        have HAT : Hid (Calls Try.prog 46 #[.agg #[.int .i64 ci.fr, .int .i64 ci.fst, .slice Ai ni ki], .int .i64 xi] wr.drew fun e w' => e = .returned (.tuple #[.int .i64 v, .bool (ev == 0)]) ∧ Below wr.drew.heap.size wr.drew w') := HAT
        obtain ⟨q0, q1, q2, q3⟩ := KB.out wr (Below.refl _ _)
        have K0 := hide (KB.out wr.drew ((Below.refl _ wr).drew))
        have HAR := hide har
        have HCR := hide hcr
        have HLR := hide hlr
        have HLF := hide hlf
        have HTT := hide htt
        clear c0 c1 c2 e0 hct hsm har hcr hlr hlf htt
        go_wp2_with fail
        go_region_held3 (fun w' => w'.cell? ⟨b, off + i * 3, none⟩ = some (.int .i64 ci.fr) ∧ w'.cell? ⟨b, off + i * 3 + 1, none⟩ = some (.int .i64 ci.fst) ∧ w'.cell? ⟨b, off + i * 3 + 2, none⟩ = some (.slice Ai ni ki) ∧ w'.cell? ⟨b', off' + i, none⟩ = some (.int .i64 xi))
          (first | exact K0.out | exact KB.out _ hb3)
          (first | (go_at_call 46; (with_reducible refine HAT.out.mono ?_); rintro e w3 ⟨rfl, hb3'⟩; have hb3 : Below wr.heap.size wr w3 := ((Below.refl _ wr).drew).trans hb3'))
        obtain ⟨-, -, -, r3⟩ := KB.out w3 hb3
        have HB3 := hide (HB.out.trans (hb3.mono HB.out.size))
        clear hb3 hb3' q0 q1 q2 q3
        by_cases he : ev = 0
        · subst he
          obtain ⟨hvr, hxr⟩ := HAR.out rfl
          have hcr := HCR.out
          have hlr := HLR.out
          have hlf := HLF.out
          have htt := HTT.out
          have HN2 := hide (HST.out rfl)
          obtain ⟨cn, hcn⟩ : ∃ q, ct + v = q := ⟨_, rfl⟩
          have hw1 : IntKind.i64.wrap (ct + v) = cn := by rw [IntKind.wrap_i64]; omega
          obtain ⟨ln, hln⟩ : ∃ q, lf - xi = q := ⟨_, rfl⟩
          have hw2 : IntKind.i64.wrap (lf - xi) = ln := by rw [IntKind.wrap_i64]; omega
          have HC2 : Hid (costTo cs xs (i + 1) = cn) := by show _ = _; rw [HCS.out, hcn]
          have HL2 : Hid (total - sumTo (iA xs) (i + 1) = ln) := by show _ = _; rw [HLS.out]; omega
          clear hvr hxr hcr hlr hlf htt hcn hln
          go_wp2_with fail
          go_roundw
          case rel => exact ⟨i + 1, by omega, by rw [HC2.out], by rw [HL2.out], by go_num, HN2, HB3⟩
          case measure => simp [intOf]; omega
        · have hq1 : (ev == 0) = false := beq_eq_false_iff_ne.2 he
          have HJ := hide (HNO.out he)
          go_wp2_with fail
          go_ret2
          exact ⟨by rw [HJ.out] <;> rfl, HB3.out⟩
      · obtain rfl : i = m := by omega
        have HJ : Hid (spV cs i xs i total = (costTo cs xs i, decide (total = sumTo (iA xs) i))) := if_pos ⟨rfl, HN.out⟩
        obtain ⟨ct, hct⟩ : ∃ q, costTo cs xs i = q := ⟨_, rfl⟩
        have HD : Hid (decide (total = sumTo (iA xs) i) = (total - sumTo (iA xs) i == 0)) := by
          show _ = _
          by_cases h : total = sumTo (iA xs) i
          · rw [decide_eq_true h, beq_iff_eq.2 (by omega)]
          · rw [decide_eq_false h, beq_eq_false_iff_ne.2 (by omega)]
        generalize total - sumTo (iA xs) i = lf at HD ⊢
        rw [hct] at HJ ⊢
        have hii : ¬ ((i : Int) < (i : Int)) := by omega
        clear hcr hlr htt hct
        go_wp2_with fail
        go_ret2
        exact ⟨by rw [HJ.out, HD.out] <;> rfl, HB.out⟩
  · have HJ : Hid (spV cs n xs m total = (0, false)) := if_neg fun h => hmn h.1
    have hbq : ((m : Int) != (n : Int)) = true := by rw [bne_iff_ne]; omega
    clear hmn
    go_enter Try.func48, Try.ntmps48
    go_wp2_with fail
    go_ret2
    exact ⟨by rw [HJ.out] <;> rfl, Below.refl _ _⟩

end Go.Proofs.Ytdepnhnpklbmiaa
