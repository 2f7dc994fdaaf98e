/- Contract of Part. -/
import Derived.Test.YtdepnhnpklbmiaaB29
import Derived.Lib.QuietBelow
namespace Go.Proofs.Ytdepnhnpklbmiaa
open Go.RowKit Go.Sort

/-- the ends of what is left, and the part -/
def partLo (c : Cu) (d : Int) : Int := max d c.fr
def partHi (c : Cu) (u : Int) : Int := min u (c.fr + c.sl.length)
def partC (c : Cu) (d u : Int) : Cu := ⟨partLo c d, valK c (partLo c d - c.fr).toNat, (c.sl.drop (partLo c d - c.fr).toNat).take (partHi c u - partLo c d).toNat⟩
/-- what Part answers -/
def partV (c : Cu) (d u : Int) : Cu × Int := if okC c = true then (if partHi c u < partLo c d then (Cu.zero, 6) else res2 (partC c d u)) else (Cu.zero, 2)

/-- a piece of a slice of ints -/
theorem ints_sub {B : Nat} {W : World} {A : Option Addr} {n cap i j : Nat} {xs : List Int} (h : IntsAt B W A n xs) (hij : i ≤ j) (hj : j ≤ n) (hcap : n ≤ cap) :
    IntsAt B W (if cap = i then A else A.map (·.add (i * 1))) (j - i) ((xs.drop i).take (j - i)) := by
  have hl := h.1
  refine ⟨by simp; omega, ?_⟩
  by_cases h0 : j - i = 0
  · exact .inl h0
  · rcases h.2 with h1 | ⟨b, off, rfl, hb, hc⟩
    · omega
    · rw [if_neg (by omega)]
      refine .inr ⟨b, off + i, by simp [Addr.add], hb, fun k hk => ?_⟩
      have := hc (i + k) (by omega)
      rw [show off + i + k = off + (i + k) by omega, this]
      congr 2
      rw [iA_get (by omega), iA_get (by simp; omega)]
      simp

theorem results36 {W : World} {g : Nat} {a b c : Value} {t : TypeId} (h : W.heap[g]? = some (.cells #[a, b, c] t (0, 0))) (x0 x1 x2 x3 x4 x5 y : Value) (rest : List Value) :
    (results Try.f36 (x0 :: x1 :: x2 :: x3 :: x4 :: x5 :: .pointer (some ⟨g, 0, none⟩) :: y :: rest).toArray).run Try.prog W = .ok (.tuple #[.agg #[a, b, c], y]) W := by
  have h0 := cell_of_heap' h 0
  have h1 := cell_of_heap' h 1
  have h2 := cell_of_heap' h 2
  simp at h0 h1 h2
  simp [results, Try.results36, go_sem, h0, h1, h2]

set_option maxHeartbeats 4000000 in
set_option maxRecDepth 100000 in
theorem Part_any (c : Cu) (A : Option Addr) (n cap : Nat) (d u : Int) (w : World) (hx : CuAt w.heap.size w c A n cap) (hn : n ≤ 9223372036854775807) (hcap : n ≤ cap) :
    Calls Try.prog 36 #[.agg #[.int .i64 c.fr, .int .i64 c.fst, .slice A n cap], .int .i64 d, .int .i64 u] w (CuPost (partV c d u) w) := by
  have mixed := mixedOrders
  obtain ⟨W1, hW1⟩ : ∃ W1, (w.alloc (.cells #[.int .i64 c.fr, .int .i64 c.fst, .slice A n cap] 24)).alloc (.cells #[.int .i64 0, .int .i64 0, .slice none 0 0] 24) = W1 := ⟨_, rfl⟩
  obtain ⟨p, hp⟩ : ∃ p, w.heap.size = p := ⟨_, rfl⟩
  have hG1 : Gr w W1 := by rw [← hW1]; exact ((Gr.refl w).alloc _).alloc _
  have hs1 : W1.heap.size = p + 2 := by rw [← hW1, ← hp]; simp
  have ua : W1.heap[p]? = some (.cells #[.int .i64 c.fr, .int .i64 c.fst, .slice A n cap] 24 (0, 0)) := by
    rw [← hW1, ← hp]
    exact (Below.heap_alloc _ _ _ (by simp)).trans (heap_alloc_new w _)
  have ur : W1.heap[p + 1]? = some (.cells #[.int .i64 0, .int .i64 0, .slice none 0 0] 24 (0, 0)) := by
    rw [← hW1, ← hp]
    simpa using heap_alloc_new (w.alloc (.cells #[.int .i64 c.fr, .int .i64 c.fst, .slice A n cap] 24)) (.cells #[.int .i64 0, .int .i64 0, .slice none 0 0] 24)
  have HUA := hide ua
  have HUR := hide ur
  have HX := hide hx
  have HG1 := hide hG1
  have HV := hide (Valid_any c A n cap W1 (hx.gr hG1).sl (by omega))
  have a0 := cell_of_heap' ua 0
  have a1 := cell_of_heap' ua 1
  have a2 := cell_of_heap' ua 2
  simp at a0 a1 a2
  clear ua ur hx hG1
  go_enter Try.func36, Try.ntmps36
  go_wp2_with fail
  try rw [hp]
  refine HV.out.mono ?_
  rintro e w2 ⟨rfl, hG2⟩
  have HG2 := hide (HG1.out.trans hG2)
  have hs2 : p + 2 ≤ w2.heap.size := by have := hG2.size; omega
  have b2 := (hG2.block (k := p) (by omega)).trans HUA.out
  have q2 := (hG2.block (k := p + 1) (by omega)).trans HUR.out
  have HUA2 := hide b2
  have HUR2 := hide q2
  have c0 := cell_of_heap' b2 0
  have c1 := cell_of_heap' b2 1
  have c2 := cell_of_heap' b2 2
  have r0 := cell_of_heap' q2 0
  have r1 := cell_of_heap' q2 1
  have r2 := cell_of_heap' q2 2
  have y0 := frozen_of_heap' q2 0
  have y1 := frozen_of_heap' q2 1
  have y2 := frozen_of_heap' q2 2
  simp at c0 c1 c2 r0 r1 r2
  clear b2 q2 hG2 a0 a1 a2
  cases hva : okC c
  · have HJ : Hid (partV c d u = (Cu.zero, 2)) := if_neg (by rw [hva]; simp)
    have HB2 : Hid (Below w.heap.size w w2) := HG2.out.below
    clear hva
    go_wp2_with fail
    refine bodyPost_ret (results36 (set3_heap HUR2.out _ _ _) _ _ _ _ _ _ _ _) rfl ?_
    refine ⟨none, 0, 0, by rw [HJ.out] <;> rfl, ?_, set3_below HB2.out (by omega) _ _ _⟩
    rw [HJ.out]
    exact World.ownsRow_nil _ _ _ _
  have HVA := hide hva
  have hn64 : n ≤ 64 := by have h1 := (okC_true hva).2.2.1; have h2 := HX.out.sl.1; omega
  have hln : c.sl.length = n := HX.out.sl.1
  have hfr := okC_fr hva
  have HB2 := hide HG2.out.below
  obtain ⟨lo, hlo⟩ : ∃ q, max d c.fr = q := ⟨_, rfl⟩
  obtain ⟨t, ht⟩ : ∃ q, c.fr + (n : Int) = q := ⟨_, rfl⟩
  obtain ⟨hi, hhi⟩ : ∃ q, min u t = q := ⟨_, rfl⟩
  have HLO : Hid (partLo c d = lo) := hlo
  have HHI : Hid (partHi c u = hi) := by show min u (c.fr + c.sl.length) = hi; rw [hln, ht, hhi]
  have HJ : Hid (partV c d u = if hi < lo then (Cu.zero, 6) else res2 (partC c d u)) := by show partV c d u = _; unfold partV; rw [if_pos hva, HLO.out, HHI.out]
  have HF : Hid (∀ W, Calls Try.prog 49 #[.agg #[.int .i64 c.fr, .int .i64 c.fst, .slice A n cap]] W fun e w' => e = .returned (.int .i64 c.fr) ∧ Below W.heap.size W w') := fun W => (fromOf_any c A n cap W).mono fun _ _ h => ⟨h.1, h.2.below⟩
  have HT : Hid (∀ W, Calls Try.prog 50 #[.agg #[.int .i64 c.fr, .int .i64 c.fst, .slice A n cap]] W fun e w' => e = .returned (.int .i64 t) ∧ Below W.heap.size W w') := fun W => (toOf_any c A n cap W hfr.1 hfr.2 (by omega)).mono fun _ _ h => ⟨by rw [h.1, ht], h.2.below⟩
  have E0 := fun d os => cell_regrown c0 d os
  have E1 := fun d os => cell_regrown c1 d os
  have E2 := fun d os => cell_regrown c2 d os
  have HBW : Hid (∀ d os, Below w2.heap.size w2 (grow (redrawn w2 d) os)) := fun d os => below_regrown w2 d os
  have HLIM : Hid ((lo = d ∨ lo = c.fr) ∧ d ≤ lo ∧ c.fr ≤ lo ∧ (hi = u ∨ hi = t) ∧ hi ≤ u ∧ hi ≤ t ∧ c.fr + (n : Int) = t ∧ n ≤ 64 ∧ (-1048576 ≤ c.fr ∧ c.fr ≤ 1048576)) := by show _ ∧ _; omega
  clear hva c0 c1 c2 r0 r1 r2 y0 y1 y2 ht hn64 hfr
  go_wp2_with fail
  refine wp_region_quiet_below (by assumption) (by kernel_rfl) ?_
  repeat (go_big_quiet_step (first | (go_at_call 49; with_reducible refine Calls.regrown_of (HF.out _)) | (go_at_call 50; with_reducible refine Calls.regrown_of (HT.out _))))
  refine wpQuiet_nil ?_
  intro _ hw'
  obtain ⟨⟨dq, osq⟩, hw''⟩ := hw'
  subst hw''
  have hb3 := HBW.out dq osq
  generalize grow (redrawn w2 dq) osq = w3 at hb3 ⊢
  have HB3 := hide (HB2.out.trans (hb3.mono HB2.out.size))
  have hs3 : p + 2 ≤ w3.heap.size := by have := hb3.size; omega
  have b3 := (hb3.block p (by omega)).trans HUA2.out
  have q3 := (hb3.block (p + 1) (by omega)).trans HUR2.out
  have HUA3 := hide b3
  have HUR3 := hide q3
  have c0 := cell_of_heap' b3 0
  have c1 := cell_of_heap' b3 1
  have c2 := cell_of_heap' b3 2
  have r0 := cell_of_heap' q3 0
  have r1 := cell_of_heap' q3 1
  have r2 := cell_of_heap' q3 2
  have y0 := frozen_of_heap' q3 0
  have y1 := frozen_of_heap' q3 1
  have y2 := frozen_of_heap' q3 2
  simp at c0 c1 c2 r0 r1 r2
  clear b3 q3 E0 E1 E2 HBW HF HT hb3 hlo hhi
  by_cases hlh : hi < lo
  · have hd : decide (hi < lo) = true := decide_eq_true hlh
    replace HJ : Hid (partV c d u = (Cu.zero, 6)) := by rw [if_pos hlh] at HJ; exact HJ
    clear hlh
    go_wp2_with fail
    refine bodyPost_ret (results36 (set3_heap HUR3.out _ _ _) _ _ _ _ _ _ _ _) rfl ?_
    refine ⟨none, 0, 0, by rw [HJ.out] <;> rfl, ?_, set3_below HB3.out (by omega) _ _ _⟩
    rw [HJ.out]
    exact World.ownsRow_nil _ _ _ _
  have hd : decide (hi < lo) = false := decide_eq_false hlh
  replace HJ : Hid (partV c d u = res2 (partC c d u)) := by rw [if_neg hlh] at HJ; exact HJ
  have hlim := HLIM.out
  obtain ⟨i, hi0⟩ : ∃ i : Nat, (lo - c.fr).toNat = i := ⟨_, rfl⟩
  obtain ⟨j, hj0⟩ : ∃ j : Nat, (hi - c.fr).toNat = j := ⟨_, rfl⟩
  have hw1 : IntKind.i64.wrap (lo - c.fr) = (i : Int) := by rw [IntKind.wrap_i64]; omega
  have hw2 : IntKind.i64.wrap (hi - c.fr) = (j : Int) := by rw [IntKind.wrap_i64]; omega
  have hij : i ≤ j := by omega
  have hjn : j ≤ n := by omega
  have hil : c.fr + (i : Int) = lo := by omega
  have hjc : (j : Int) ≤ (cap : Int) := by omega
  have hij' : (i : Int) ≤ (j : Int) := by omega
  have HIJ := hide (show i ≤ j ∧ j ≤ n ∧ c.fr + (i : Int) = lo ∧ c.fr + (j : Int) = hi from ⟨hij, hjn, hil, by omega⟩)
  obtain ⟨zs, hzs⟩ : ∃ zs, (c.sl.drop i).take (j - i) = zs := ⟨_, rfl⟩
  have hji : (hi - lo).toNat = j - i := by omega
  have HPC : Hid (partC c d u = ⟨lo, valK c i, zs⟩) := by show _ = _; unfold partC; rw [HLO.out, HHI.out, hi0, hji, hzs]
  have HX3 := hide (HX.out.now HB3.out (Nat.le_refl _))
  have hzl : zs.length = j - i := by rw [← hzs]; simp; omega
  have HCL : Hid (∀ A' c', (A' = if cap = i then A else A.map (fun x => x.add i)) → Calls Try.prog 68 #[.slice A' (j - i) c'] w3 fun e w' => ∃ a c'', e = .returned (.slice a (j - i) c'') ∧ w'.ownsRow w3.heap.size 3 1 (.slice a (j - i) c'') (j - i) (zs.map (Value.int .i64)) ∧ Below w3.heap.size w3 w') := fun A' c' hA => by
    have h1 := ints_sub HX3.out.sl hij hjn hcap
    rw [hzs] at h1
    simp only [Nat.mul_one] at h1
    rw [← hA] at h1
    refine clone_any A' (j - i) c' zs w3 h1 (by omega) (fun e => ?_)
    have hAn : A = none := by
      rw [hA] at e
      split at e
      · exact e
      · cases A with
        | none => rfl
        | some ad => cases e
    have := (HX.out.nil hAn).1
    omega
  have HZL := hide hzl
  obtain ⟨v, hv⟩ : ∃ v, valK c i = v := ⟨_, rfl⟩
  rw [hv] at HPC
  have HVV := hide hv
  clear hlh hi0 hj0 hil hlim hjn hzs hji hzl hv
  go_wp2_with fail
  all_goals
    refine (HCL.out _ _ (by first | exact (if_pos ‹cap = i›).symm | exact (if_neg ‹¬cap = i›).symm | exact (if_pos rfl).symm)).mono ?_
    rintro e w4 ⟨a4, c4, rfl, ho4, hb4⟩
    clear h
    have HB4 := hide (HB3.out.trans (hb4.mono HB3.out.size))
    have hs4 : p + 2 ≤ w4.heap.size := by have := hb4.size; omega
    have b4 := (hb4.block p (by omega)).trans HUA3.out
    have q4 := (hb4.block (p + 1) (by omega)).trans HUR3.out
    have HUR4 := hide q4
    have HO4 := hide ho4
    have d0 := cell_of_heap' b4 0
    have d1 := cell_of_heap' b4 1
    have d2 := cell_of_heap' b4 2
    simp at d0 d1 d2
    have HX4 := HX.out.now HB4.out (Nat.le_refl _)
    have HAT := hide (at_any c A n cap i w4 HVA.out HX4.sl HX4.old (by have := HIJ.out; omega))
    rw [HIJ.out.2.2.1, HVV.out] at HAT
    clear b4 q4 ho4 HCL c0 c1 c2 r0 r1 r2 y0 y1 y2 HX4 HX3
    go_wp2_with fail
    refine HAT.out.mono ?_
    rintro e w5 ⟨rfl, hb5⟩
    have HB5 := hide (HB4.out.trans (hb5.mono HB4.out.size))
    have hs5 : p + 2 ≤ w5.heap.size := by have := hb5.size; omega
    have HUR5 := hide ((hb5.block (p + 1) (by omega)).trans HUR4.out)
    have HO5 := hide (own_below HO4.out hb5)
    have HRS := hide (result_any ⟨lo, v, zs⟩ a4 (j - i) c4 w5 (ints_of_own HO5.out) (by have := HIJ.out; have := HLIM.out; omega))
    have hfd : ∀ W : World, (Instr.field 61 (.agg #[.int .i64 c.fr, .int .i64 c.fst, .slice A n cap, .int .i64 lo, .int .i64 v]) 2).run Try.prog W = .ok (.int .i64 v) W := fun _ => by kernel_rfl
    unfold wkV
    clear hb5 HAT HO4 HUR4 d0 d1 d2
    go_wp2_with fail
    refine HRS.out.mono ?_
    rintro e w6 ⟨rfl, hb6⟩
    have HB6 := hide (HB5.out.trans (hb6.mono HB5.out.size))
    have hz6 := (hb6.block (p + 1) (by omega)).trans HUR5.out
    have HZ6 := hide hz6
    have HO6 := hide (own_below HO5.out hb6)
    have r0 := cell_of_heap' hz6 0
    have r1 := cell_of_heap' hz6 1
    have r2 := cell_of_heap' hz6 2
    have y0 := frozen_of_heap' hz6 0
    have y1 := frozen_of_heap' hz6 1
    have y2 := frozen_of_heap' hz6 2
    simp at r0 r1 r2
    clear hz6 hb6 HRS
    unfold resV
    by_cases hok : okC ⟨lo, v, zs⟩ = true
    · rw [if_pos hok]
      have HJ2 : Hid (partV c d u = (⟨lo, v, zs⟩, 0)) := by show _ = _; rw [HJ.out, HPC.out, res2, if_pos hok]
      clear hok
      go_wp2_with fail
      refine bodyPost_ret (results36 (set3_heap HZ6.out _ _ _) _ _ _ _ _ _ _ _) rfl ?_
      refine ⟨a4, j - i, c4, by rw [HJ2.out] <;> rfl, ?_, set3_below HB6.out (by omega) _ _ _⟩
      rw [HJ2.out]
      exact own_base (own_set3 HO6.out (by omega) _ _ _) (by omega)
    · rw [if_neg hok]
      have HJ2 : Hid (partV c d u = (Cu.zero, 4)) := by show _ = _; rw [HJ.out, HPC.out, res2, if_neg hok]
      clear hok
      go_wp2_with fail
      refine bodyPost_ret (results36 (set3_heap HZ6.out _ _ _) _ _ _ _ _ _ _ _) rfl ?_
      refine ⟨none, 0, 0, by rw [HJ2.out] <;> rfl, ?_, set3_below HB6.out (by omega) _ _ _⟩
      rw [HJ2.out]
      exact World.ownsRow_nil _ _ _ _
end Go.Proofs.Ytdepnhnpklbmiaa
