/- Contracts of common at its three instances, and of checkSplit. -/
import Derived.Test.YtdepnhnpklbmiaaB7
namespace Go.Proofs.Ytdepnhnpklbmiaa
open Go.RowKit Go.Sort

set_option maxHeartbeats 400000 in
theorem plus_any (x y : Int) (w : World) (hx : -1125899906842624000 ≤ x ∧ x ≤ 1125899906842624000) (hy : -1125899906842624000 ≤ y ∧ y ≤ 1125899906842624000) :
    Calls Try.prog 73 #[.int .i64 x, .int .i64 y] w fun e w' => e = .returned (.int .i64 (x + y)) ∧ w' = w := by
  obtain ⟨x1, x2⟩ := hx
  obtain ⟨y1, y2⟩ := hy
  go_enter Try.func73, Try.ntmps73
  go_wp2
  go_ret
  exact ⟨rfl, rfl⟩
set_option maxHeartbeats 400000 in
theorem both_any (x y : Bool) (w : World) : Calls Try.prog 83 #[.bool x, .bool y] w fun e w' => e = .returned (.bool (x && y)) ∧ w' = w := by
  cases x
  · go_enter Try.func83, Try.ntmps83
    go_wp2
    go_ret
    exact ⟨rfl, rfl⟩
  · go_enter Try.func83, Try.ntmps83
    go_wp2
    go_ret
    exact ⟨rfl, rfl⟩

/-- the sum of f over the first k -/
def sumTo (f : Nat → Int) : Nat → Int
  | 0 => 0
  | k + 1 => sumTo f k + f k
theorem sumTo_range {f : Nat → Int} {M : Int} : ∀ k, (∀ i, i < k → -M ≤ f i ∧ f i ≤ M) → -(M * k) ≤ sumTo f k ∧ sumTo f k ≤ M * k
  | 0, _ => by simp [sumTo]
  | k + 1, h => by
    have ih := sumTo_range k fun i hi => h i (by omega)
    have := h k (by omega)
    have e : M * ((k + 1 : Nat) : Int) = M * k + M := by rw [Int.natCast_add, Int.mul_add]; simp
    unfold sumTo
    omega

/-- a function of a curve that gives a number -/
def NumOf (g : Nat) (f : Cu → Nat → Int) : Prop := (∀ args w, (callFunc g args).run Try.prog w = .ok (.enter g args) w) ∧ ∀ (c : Cu) (A : Option Addr) (n cap : Nat) (w : World), -1048576 ≤ c.fr → c.fr ≤ 1048576 → n ≤ 1000000 → Calls Try.prog g #[.agg #[.int .i64 c.fr, .int .i64 c.fst, .slice A n cap]] w fun e w' => e = .returned (.int .i64 (f c n)) ∧ Gr w w'
theorem num49 : NumOf 49 (fun c _ => c.fr) := ⟨enters_of Try.func49 (by kernel_rfl) rfl, fun c A n cap w _ _ _ => fromOf_any c A n cap w⟩
theorem num50 : NumOf 50 (fun c n => c.fr + n) := ⟨enters_of Try.func50 (by kernel_rfl) rfl, fun c A n cap w h0 h1 h2 => toOf_any c A n cap w h0 h1 h2⟩
theorem enters73 : ∀ args w, (callFunc 73 args).run Try.prog w = .ok (.enter 73 args) w := enters_of Try.func73 (by kernel_rfl) rfl
theorem enters83 : ∀ args w, (callFunc 83 args).run Try.prog w = .ok (.enter 83 args) w := enters_of Try.func83 (by kernel_rfl) rfl
theorem enters19 : ∀ args w, (callFunc 19 args).run Try.prog w = .ok (.enter 19 args) w := enters_of Try.func19 (by kernel_rfl) rfl

set_option maxHeartbeats 4000000 in
set_option maxRecDepth 100000 in
theorem common72_any (g : Nat) (f : Cu → Nat → Int) (hg : NumOf g f) (A : Option Addr) (n cap : Nat) (cs : Nat → Cu) (ss : Nat → Option Addr × Nat × Nat) (w : World) (hx : CurvesAt w.heap.size w A n cs ss) (hn : n ≤ 8) (h0 : 0 < n) (hcap : n ≤ cap)
    (hok : ∀ i, i < n → okC (cs i) = true) (hf : ∀ i, i < n → -2097152 ≤ f (cs i) (ss i).2.1 ∧ f (cs i) (ss i).2.1 ≤ 2097152) :
    Calls Try.prog 72 #[.slice A n cap, .func (.func g) #[] #[], .func (.func 73) #[] #[]] w fun e w' => e = .returned (.int .i64 (sumTo (fun i => f (cs i) (ss i).2.1) n)) ∧ Gr w w' := by
  have mixed := mixedOrders
  have HX := hide hx
  have HG := hide hg.2
  have eg := hg.1
  have e73 := enters73
  have HOK := hide hok
  have HF := hide hf
  obtain ⟨b, off, rfl, hb, c0, c1, c2⟩ := hx.at_ h0
  have hsl0 := (hx.cu 0 h0).sl.1
  have HH0 := okC_fr (hok 0 h0)
  have hl0 := (okC_true (hok 0 h0)).2.2.1
  have HC0 := hide (HG.out (cs 0) (ss 0).1 (ss 0).2.1 (ss 0).2.2 w HH0.1 HH0.2 (by omega))
  simp only [Nat.zero_mul, Nat.add_zero] at c0 c1 c2
  have HS0 : Hid (sumTo (fun i => f (cs i) (ss i).2.1) 1 = f (cs 0) (ss 0).2.1) := by show _ = _; simp [sumTo]
  have h0' : (0 : Int) < (n : Int) := by omega
  have h1' : (1 : Int) ≤ (n : Int) := by omega
  have hw1 : IntKind.i64.wrap ((n : Int) - 1) = ((n - 1 : Nat) : Int) := by rw [IntKind.wrap_i64]; omega
  clear hx hg hok hf
  by_cases hc1 : cap = 1
  · obtain rfl : n = 1 := by omega
    rw [HS0.out]
    subst hc1
    clear hw1
    generalize cs 0 = c at c0 c1 c2 HC0 HS0 ⊢
    generalize ss 0 = s at c2 HC0 HS0 ⊢
    go_enter Try.func72, Try.ntmps72
    go_wp2_with fail
    refine HC0.out.mono ?_
    rintro e w2 ⟨rfl, hG⟩
    have HG2 := hide hG
    clear hG c0 c1 c2 HC0
    go_wp2_with fail
    go_loopw [7, 18] (fun v i wr => v = .int .i64 (f c s.2.1) ∧ i = .int .i64 0 ∧ Hid (Gr w wr)) (fun _ _ _ => 0)
    case atStart => exact ⟨rfl, rfl, HG2⟩
    case round =>
      obtain ⟨rfl, rfl, HGr⟩ := hrel
      go_wp2
      go_ret
      exact ⟨rfl, HGr.out⟩
  · have hne : (cap - 1 = 0) = False := by simp; omega
    have HSS : Hid (∀ k, sumTo (fun i => f (cs i) (ss i).2.1) (k + 1) = sumTo (fun i => f (cs i) (ss i).2.1) k + f (cs k) (ss k).2.1) := fun k => rfl
    have HRG : Hid (∀ k, k ≤ n → -16777216 ≤ sumTo (fun i => f (cs i) (ss i).2.1) k ∧ sumTo (fun i => f (cs i) (ss i).2.1) k ≤ 16777216) := fun k hk => by
      have := sumTo_range (f := fun i => f (cs i) (ss i).2.1) (M := 2097152) k (fun i hi => HF.out i (by omega))
      omega
    generalize sumTo (fun i => f (cs i) (ss i).2.1) = sm at HS0 HSS HRG ⊢
    rw [← HS0.out] at HC0
    go_enter Try.func72, Try.ntmps72
    go_wp2_with fail
    refine HC0.out.mono ?_
    rintro e w2 ⟨rfl, hG⟩
    have HG2 := hide hG
    clear hG c0 c1 c2 HC0
    go_wp2_with fail
    go_loopw [7, 18] (fun v i wr => ∃ j : Nat, j ≤ n - 1 ∧ v = .int .i64 (sm (j + 1)) ∧ i = .int .i64 j ∧ Hid (Gr w wr)) (fun _ i _ => n - 1 - (intOf i).toNat)
    case atStart => exact ⟨0, Nat.zero_le _, rfl, rfl, HG2⟩
    case round =>
      obtain ⟨j, hj, rfl, rfl, HGr⟩ := hrel
      by_cases hjn : j < n - 1
      · have hjn' : (j : Int) < ((n - 1 : Nat) : Int) := by omega
        have hj1 : j + 1 < n := by omega
        obtain ⟨b', off', e, hb', d0, d1, d2⟩ := HX.out.at_ hj1
        injection e with e
        injection e with e1 e2
        subst e1; subst e2
        have ea : off + (j + 1) * 3 = off + 3 + j * 3 := by omega
        rw [ea] at d0 d1 d2
        have x0 := (HGr.out.cell (p := ⟨b, off + 3 + j * 3, none⟩) hb).trans d0
        have x1 := (HGr.out.cell (p := ⟨b, off + 3 + j * 3 + 1, none⟩) hb).trans d1
        have x2 := (HGr.out.cell (p := ⟨b, off + 3 + j * 3 + 2, none⟩) hb).trans d2
        have hfr := okC_fr (HOK.out (j + 1) hj1)
        have hsl := (HX.out.cu (j + 1) hj1).sl.1
        have hln := (okC_true (HOK.out (j + 1) hj1)).2.2.1
        have HCJ := hide (fun w1 => HG.out (cs (j + 1)) (ss (j + 1)).1 (ss (j + 1)).2.1 (ss (j + 1)).2.2 w1 hfr.1 hfr.2 (by omega))
        have HSJ := hide (HSS.out (j + 1))
        have hr1 := HRG.out (j + 1) (by omega)
        have hf1 := HF.out (j + 1) hj1
        have HPL := hide (fun w1 => plus_any (sm (j + 1)) (f (cs (j + 1)) (ss (j + 1)).2.1) w1 (by omega) (by omega))
        clear d0 d1 d2 hfr hsl hln hr1 hf1 hb'
        rw [← HSJ.out] at HPL
        generalize cs (j + 1) = c at x0 x1 x2 HCJ HPL
        generalize ss (j + 1) = s at x2 HCJ HPL
        generalize f c s.2.1 = fv at HCJ HPL
        go_wp2_with fail
        refine (HCJ.out _).mono ?_
        rintro e w3 ⟨rfl, hG3⟩
        have HG3 : Hid (Gr w w3) := (HGr.out.alloc _).trans hG3
        clear hG3
        go_wp2_with fail
        refine (HPL.out _).mono ?_
        rintro e w4 ⟨rfl, rfl⟩
        go_wp2
        go_roundw
        case rel => exact ⟨j + 1, by omega, rfl, by go_num, HG3⟩
        case measure => simp [intOf]; omega
      · obtain rfl : j = n - 1 := by omega
        have hnn : n - 1 + 1 = n := by omega
        go_wp2
        go_ret
        exact ⟨ret_int (by rw [hnn]), HGr.out⟩

/-- are the first k curves valid? -/
def allOk (cs : Nat → Cu) : Nat → Bool
  | 0 => true
  | k + 1 => allOk cs k && okC (cs k)
theorem allOk_iff (cs : Nat → Cu) : ∀ k, allOk cs k = true ↔ ∀ i, i < k → okC (cs i) = true
  | 0 => by simp [allOk]
  | k + 1 => by
    unfold allOk
    rw [Bool.and_eq_true, allOk_iff cs k]
    constructor
    · rintro ⟨h1, h2⟩ i hi
      rcases Nat.lt_or_ge i k with h | h
      · exact h1 i h
      · obtain rfl : i = k := by omega
        exact h2
    · intro h
      exact ⟨fun i hi => h i (by omega), h k (by omega)⟩

set_option maxHeartbeats 4000000 in
set_option maxRecDepth 100000 in
theorem common84_any (A : Option Addr) (n cap : Nat) (cs : Nat → Cu) (ss : Nat → Option Addr × Nat × Nat) (w : World) (hx : CurvesAt w.heap.size w A n cs ss) (hn : n ≤ 8) (h0 : 0 < n) (hcap : n ≤ cap) (hm : ∀ i, i < n → (ss i).2.1 ≤ 9223372036854775807) :
    Calls Try.prog 84 #[.slice A n cap, .func (.func 19) #[] #[], .func (.func 83) #[] #[]] w fun e w' => e = .returned (.bool (allOk cs n)) ∧ Gr w w' := by
  have mixed := mixedOrders
  have HX := hide hx
  have HM := hide hm
  have e19 := enters19
  have e83 := enters83
  obtain ⟨b, off, rfl, hb, c0, c1, c2⟩ := hx.at_ h0
  have HC0 := hide (Valid_any (cs 0) (ss 0).1 (ss 0).2.1 (ss 0).2.2 w (hx.cu 0 h0).sl (hm 0 h0))
  simp only [Nat.zero_mul, Nat.add_zero] at c0 c1 c2
  have HS0 : Hid (allOk cs 1 = okC (cs 0)) := by show _ = _; simp [allOk]
  have h0' : (0 : Int) < (n : Int) := by omega
  have h1' : (1 : Int) ≤ (n : Int) := by omega
  clear hx hm
  by_cases hc1 : cap = 1
  · obtain rfl : n = 1 := by omega
    rw [HS0.out]
    subst hc1
    generalize cs 0 = c at c0 c1 c2 HC0 HS0 ⊢
    generalize ss 0 = s at c2 HC0
    go_enter Try.func84, Try.ntmps84
    go_wp2_with fail
    refine HC0.out.mono ?_
    rintro e w2 ⟨rfl, hG⟩
    have HG2 := hide hG
    clear hG c0 c1 c2 HC0
    go_wp2_with fail
    go_loopw [7, 18] (fun v i wr => v = .bool (okC c) ∧ i = .int .i64 0 ∧ Hid (Gr w wr)) (fun _ _ _ => 0)
    case atStart => exact ⟨rfl, rfl, HG2⟩
    case round =>
      obtain ⟨rfl, rfl, HGr⟩ := hrel
      go_wp2
      go_ret
      exact ⟨rfl, HGr.out⟩
  · have hne : (cap - 1 = 0) = False := by simp; omega
    have HSS : Hid (∀ k, allOk cs (k + 1) = (allOk cs k && okC (cs k))) := fun k => rfl
    rw [← HS0.out] at HC0
    generalize allOk cs = sm at HS0 HSS HC0 ⊢
    go_enter Try.func84, Try.ntmps84
    go_wp2_with fail
    refine HC0.out.mono ?_
    rintro e w2 ⟨rfl, hG⟩
    have HG2 := hide hG
    clear hG c0 c1 c2 HC0
    go_wp2_with fail
    go_loopw [7, 18] (fun v i wr => ∃ j : Nat, j ≤ n - 1 ∧ v = .bool (sm (j + 1)) ∧ i = .int .i64 j ∧ Hid (Gr w wr)) (fun _ i _ => n - 1 - (intOf i).toNat)
    case atStart => exact ⟨0, Nat.zero_le _, rfl, rfl, HG2⟩
    case round =>
      obtain ⟨j, hj, rfl, rfl, HGr⟩ := hrel
      by_cases hjn : j < n - 1
      · have hjn' : (j : Int) < ((n - 1 : Nat) : Int) := by omega
        have hj1 : j + 1 < n := by omega
        obtain ⟨b', off', e, hb', d0, d1, d2⟩ := HX.out.at_ hj1
        injection e with e
        injection e with e1 e2
        subst e1; subst e2
        have ea : off + (j + 1) * 3 = off + 3 + j * 3 := by omega
        rw [ea] at d0 d1 d2
        have x0 := (HGr.out.cell (p := ⟨b, off + 3 + j * 3, none⟩) hb).trans d0
        have x1 := (HGr.out.cell (p := ⟨b, off + 3 + j * 3 + 1, none⟩) hb).trans d1
        have x2 := (HGr.out.cell (p := ⟨b, off + 3 + j * 3 + 2, none⟩) hb).trans d2
        have HSL := hide (HX.out.cu (j + 1) hj1).sl
        have HML := hide (HM.out (j + 1) hj1)
        have HCJ := hide (fun w1 (hg : Gr w w1) => Valid_any (cs (j + 1)) (ss (j + 1)).1 (ss (j + 1)).2.1 (ss (j + 1)).2.2 w1 (HSL.out.gr hg) HML.out)
        have HSJ := hide (HSS.out (j + 1))
        clear d0 d1 d2 hb'
        generalize cs (j + 1) = c at x0 x1 x2 HCJ HSJ HSL
        generalize ss (j + 1) = s at x2 HCJ HSL HML
        have HG1 : Hid (Gr w (wr.alloc (.cells #[.int .i64 c.fr, .int .i64 c.fst, .slice s.1 s.2.1 s.2.2] 24))) := HGr.out.alloc _
        go_wp2_with fail
        refine (HCJ.out _ HG1.out).mono ?_
        rintro e w3 ⟨rfl, hG3⟩
        have HG3 : Hid (Gr w w3) := HG1.out.trans hG3
        clear hG3
        have HPL := hide (both_any (sm (j + 1)) (okC c) w3)
        rw [← HSJ.out] at HPL
        generalize okC c = pv at HPL
        go_wp2_with fail
        refine HPL.out.mono ?_
        rintro e w4 ⟨rfl, rfl⟩
        go_wp2
        go_roundw
        case rel => exact ⟨j + 1, by omega, rfl, by go_num, HG3⟩
        case measure => simp [intOf]; omega
      · obtain rfl : j = n - 1 := by omega
        have hnn : n - 1 + 1 = n := by omega
        go_wp2
        go_ret
        exact ⟨ret_bool (by rw [hnn]), HGr.out⟩

/-- the error of a division -/
noncomputable def splitE (cs : Nat → Cu) (n : Nat) (total : Int) : Int :=
  if 8 < n then 3 else if n = 0 then 2 else if allOk cs n = false then 2 else if total < sumTo (fun i => (cs i).fr) n ∨ sumTo (fun i => (cs i).fr + ((cs i).sl.length : Int)) n < total then 10 else 0

set_option maxHeartbeats 4000000 in
set_option maxRecDepth 100000 in
theorem checkSplit_any (A : Option Addr) (n cap : Nat) (cs : Nat → Cu) (ss : Nat → Option Addr × Nat × Nat) (total : Int) (w : World) (hx : CurvesAt w.heap.size w A n cs ss) (hcap : n ≤ cap) (hm : ∀ i, i < n → (ss i).2.1 ≤ 9223372036854775807) :
    Calls Try.prog 71 #[.slice A n cap, .int .i64 total] w fun e w' => e = .returned (.int .i64 (splitE cs n total)) ∧ Gr w w' := by
  by_cases h8 : (8 : Int) < (n : Int)
  · have hd : decide ((8 : Int) < (n : Int)) = true := decide_eq_true h8
    have HE : Hid (splitE cs n total = 3) := if_pos (by omega)
    clear hx hm
    go_enter Try.func71, Try.ntmps71
    go_wp2
    go_ret
    exact ⟨ret_int HE.out.symm, Gr.refl _⟩
  have hd : decide ((8 : Int) < (n : Int)) = false := decide_eq_false h8
  by_cases hn0 : n = 0
  · subst hn0
    have HE : Hid (splitE cs 0 total = 2) := by show _ = _; unfold splitE; rw [if_neg (by omega), if_pos rfl]
    clear hx hm
    go_enter Try.func71, Try.ntmps71
    go_wp2
    go_ret
    exact ⟨ret_int HE.out.symm, Gr.refl _⟩
  have hq : ((n : Int) == 0) = false := beq_eq_false_iff_ne.2 (by omega)
  have HX := hide hx
  have HA := hide (common84_any A n cap cs ss w hx (by omega) (by omega) hcap hm)
  have hlen : ∀ i, i < n → (cs i).sl.length = (ss i).2.1 := fun i hi => (hx.cu i hi).sl.1
  have HL := hide hlen
  clear hx hlen
  cases ha : allOk cs n
  · rw [ha] at HA
    have HE : Hid (splitE cs n total = 2) := by show _ = _; unfold splitE; rw [if_neg (by omega), if_neg hn0, if_pos ha]
    clear ha
    go_enter Try.func71, Try.ntmps71
    go_wp2_with fail
    refine HA.out.mono ?_
    rintro e w2 ⟨rfl, hG⟩
    have HG := hide hG
    clear hG
    go_wp2
    go_ret
    exact ⟨ret_int HE.out.symm, HG.out⟩
  · rw [ha] at HA
    have hok := (allOk_iff cs n).1 ha
    have HOK := hide hok
    have HLO := hide (fun w2 (hg : Gr w w2) => common72_any 49 _ num49 A n cap cs ss w2 (HX.out.now hg.below (Nat.le_refl _)) (by omega) (by omega) hcap hok (fun i hi => by have := okC_fr (hok i hi); omega))
    have HHI := hide (fun w2 (hg : Gr w w2) => common72_any 50 _ num50 A n cap cs ss w2 (HX.out.now hg.below (Nat.le_refl _)) (by omega) (by omega) hcap hok (fun i hi => by have := okC_fr (hok i hi); have := (okC_true (hok i hi)).2.2.1; have := HL.out i hi; omega))
    have hes : sumTo (fun i => (cs i).fr + ((ss i).2.1 : Int)) n = sumTo (fun i => (cs i).fr + ((cs i).sl.length : Int)) n := by
      have : ∀ k, k ≤ n → sumTo (fun i => (cs i).fr + ((ss i).2.1 : Int)) k = sumTo (fun i => (cs i).fr + ((cs i).sl.length : Int)) k := by
        intro k
        induction k with
        | zero => exact fun _ => rfl
        | succ k ih => intro hk; unfold sumTo; rw [ih (by omega), HL.out k (by omega)]
      exact this n (Nat.le_refl _)
    have HE : Hid (splitE cs n total = if total < sumTo (fun i => (cs i).fr) n ∨ sumTo (fun i => (cs i).fr + ((cs i).sl.length : Int)) n < total then 10 else 0) := by
      show _ = _
      unfold splitE
      rw [if_neg (by omega), if_neg hn0, if_neg (by rw [ha]; decide)]
    rw [hes] at HHI
    generalize sumTo (fun i => (cs i).fr) n = lo at HE HLO
    generalize sumTo (fun i => (cs i).fr + ((cs i).sl.length : Int)) n = hi at HE HHI
    clear ha hok hes
    by_cases h1 : total < lo
    · have d1 : decide (total < lo) = true := decide_eq_true h1
      have HE2 : Hid (splitE cs n total = 10) := by show _ = _; rw [HE.out, if_pos (.inl h1)]
      clear h1 HE
      go_enter Try.func71, Try.ntmps71
      go_wp2_with fail
      refine HA.out.mono ?_
      rintro e w2 ⟨rfl, hG⟩
      have HG := hide hG
      clear hG
      go_wp2_with fail
      refine (HLO.out _ HG.out).mono ?_
      rintro e w3 ⟨rfl, hG⟩
      have HG3 := hide (HG.out.trans hG)
      clear hG
      go_wp2
      go_ret
      exact ⟨ret_int HE2.out.symm, HG3.out⟩
    · have d1 : decide (total < lo) = false := decide_eq_false h1
      by_cases h2 : hi < total
      · have d2 : decide (hi < total) = true := decide_eq_true h2
        have HE2 : Hid (splitE cs n total = 10) := by show _ = _; rw [HE.out, if_pos (.inr h2)]
        clear h1 h2 HE
        go_enter Try.func71, Try.ntmps71
        go_wp2_with fail
        refine HA.out.mono ?_
        rintro e w2 ⟨rfl, hG⟩
        have HG := hide hG
        clear hG
        go_wp2_with fail
        refine (HLO.out _ HG.out).mono ?_
        rintro e w3 ⟨rfl, hG⟩
        have HG3 := hide (HG.out.trans hG)
        clear hG
        go_wp2_with fail
        refine (HHI.out _ HG3.out).mono ?_
        rintro e w4 ⟨rfl, hG⟩
        have HG4 := hide (HG3.out.trans hG)
        clear hG
        go_wp2
        go_ret
        exact ⟨ret_int HE2.out.symm, HG4.out⟩
      · have d2 : decide (hi < total) = false := decide_eq_false h2
        have HE2 : Hid (splitE cs n total = 0) := by show _ = _; rw [HE.out, if_neg (fun h => h.elim h1 h2)]
        clear h1 h2 HE
        go_enter Try.func71, Try.ntmps71
        go_wp2_with fail
        refine HA.out.mono ?_
        rintro e w2 ⟨rfl, hG⟩
        have HG := hide hG
        clear hG
        go_wp2_with fail
        refine (HLO.out _ HG.out).mono ?_
        rintro e w3 ⟨rfl, hG⟩
        have HG3 := hide (HG.out.trans hG)
        clear hG
        go_wp2_with fail
        refine (HHI.out _ HG3.out).mono ?_
        rintro e w4 ⟨rfl, hG⟩
        have HG4 := hide (HG3.out.trans hG)
        clear hG
        go_wp2
        go_ret
        exact ⟨ret_int HE2.out.symm, HG4.out⟩

end Go.Proofs.Ytdepnhnpklbmiaa
