/- Contracts of common at its three instances, and of checkSplit. -/
import Derived.Test.YtdepnhnpklbmiaaB7
import Derived.Laws.OwnMore
import Derived.Deep.AppendLies
namespace Go.Proofs.Ytdepnhnpklbmiaa
open Go.RowKit Go.Sort

set_option maxHeartbeats 400000 in
theorem plus_any (x y : Int) (w : World) (hx : -1125899906842624000 ≤ x ∧ x ≤ 1125899906842624000) (hy : -1125899906842624000 ≤ y ∧ y ≤ 1125899906842624000) :
    Calls Try.prog 73 #[.int .i64 x, .int .i64 y] w fun e w' => e = .returned (.int .i64 (x + y)) ∧ w' = w := by
  obtain ⟨x1, x2⟩ := hx
  obtain ⟨y1, y2⟩ := hy
  go_enter Try.func73, Try.ntmps73
  go_wp2
  go_ret
  exact ⟨rfl, rfl⟩
set_option maxHeartbeats 400000 in
theorem both_any (x y : Bool) (w : World) : Calls Try.prog 83 #[.bool x, .bool y] w fun e w' => e = .returned (.bool (x && y)) ∧ w' = w := by
  cases x
  · go_enter Try.func83, Try.ntmps83
    go_wp2
    go_ret
    exact ⟨rfl, rfl⟩
  · go_enter Try.func83, Try.ntmps83
    go_wp2
    go_ret
    exact ⟨rfl, rfl⟩

/-- the sum of f over the first k -/
def sumTo (f : Nat → Int) : Nat → Int
  | 0 => 0
  | k + 1 => sumTo f k + f k
theorem sumTo_range {f : Nat → Int} {M : Int} : ∀ k, (∀ i, i < k → -M ≤ f i ∧ f i ≤ M) → -(M * k) ≤ sumTo f k ∧ sumTo f k ≤ M * k
  | 0, _ => by simp [sumTo]
  | k + 1, h => by
    have ih := sumTo_range k fun i hi => h i (by omega)
    have := h k (by omega)
    have e : M * ((k + 1 : Nat) : Int) = M * k + M := by rw [Int.natCast_add, Int.mul_add]; simp
    unfold sumTo
    omega

/-- a function of a curve that gives a number -/
def NumOf (g : Nat) (f : Cu → Nat → Int) : Prop := (∀ args w, (callFunc g args).run Try.prog w = .ok (.enter g args) w) ∧ ∀ (c : Cu) (A : Option Addr) (n cap : Nat) (w : World), -1048576 ≤ c.fr → c.fr ≤ 1048576 → n ≤ 1000000 → Calls Try.prog g #[.agg #[.int .i64 c.fr, .int .i64 c.fst, .slice A n cap]] w fun e w' => e = .returned (.int .i64 (f c n)) ∧ Gr w w'
theorem num49 : NumOf 49 (fun c _ => c.fr) := ⟨enters_of Try.func49 (by kernel_rfl) rfl, fun c A n cap w _ _ _ => fromOf_any c A n cap w⟩
theorem num50 : NumOf 50 (fun c n => c.fr + n) := ⟨enters_of Try.func50 (by kernel_rfl) rfl, fun c A n cap w h0 h1 h2 => toOf_any c A n cap w h0 h1 h2⟩
theorem enters73 : ∀ args w, (callFunc 73 args).run Try.prog w = .ok (.enter 73 args) w := enters_of Try.func73 (by kernel_rfl) rfl
theorem enters83 : ∀ args w, (callFunc 83 args).run Try.prog w = .ok (.enter 83 args) w := enters_of Try.func83 (by kernel_rfl) rfl
theorem enters19 : ∀ args w, (callFunc 19 args).run Try.prog w = .ok (.enter 19 args) w := enters_of Try.func19 (by kernel_rfl) rfl

set_option maxHeartbeats 4000000 in
set_option maxRecDepth 100000 in
theorem common72_any (g : Nat) (f : Cu → Nat → Int) (hg : NumOf g f) (A : Option Addr) (n cap : Nat) (cs : Nat → Cu) (ss : Nat → Option Addr × Nat × Nat) (w : World) (hx : CurvesAt w.heap.size w A n cs ss) (hn : n ≤ 8) (h0 : 0 < n) (hcap : n ≤ cap)
    (hok : ∀ i, i < n → okC (cs i) = true) (hf : ∀ i, i < n → -2097152 ≤ f (cs i) (ss i).2.1 ∧ f (cs i) (ss i).2.1 ≤ 2097152) :
    Calls Try.prog 72 #[.slice A n cap, .func (.func g) #[] #[], .func (.func 73) #[] #[]] w fun e w' => e = .returned (.int .i64 (sumTo (fun i => f (cs i) (ss i).2.1) n)) ∧ Gr w w' := by
  have mixed := mixedOrders
  have HX := hide hx
  have HG := hide hg.2
  have eg := hg.1
  have e73 := enters73
  have HOK := hide hok
  have HF := hide hf
  obtain ⟨b, off, rfl, hb, c0, c1, c2⟩ := hx.at_ h0
  have hsl0 := (hx.cu 0 h0).sl.1
  have HH0 := okC_fr (hok 0 h0)
  have hl0 := (okC_true (hok 0 h0)).2.2.1
  have HC0 := hide (HG.out (cs 0) (ss 0).1 (ss 0).2.1 (ss 0).2.2 w HH0.1 HH0.2 (by omega))
  simp only [Nat.zero_mul, Nat.add_zero] at c0 c1 c2
  have HS0 : Hid (sumTo (fun i => f (cs i) (ss i).2.1) 1 = f (cs 0) (ss 0).2.1) := by show _ = _; simp [sumTo]
  have h0' : (0 : Int) < (n : Int) := by omega
  have h1' : (1 : Int) ≤ (n : Int) := by omega
  have hw1 : IntKind.i64.wrap ((n : Int) - 1) = ((n - 1 : Nat) : Int) := by rw [IntKind.wrap_i64]; omega
  clear hx hg hok hf
  by_cases hc1 : cap = 1
  · obtain rfl : n = 1 := by omega
    rw [HS0.out]
    subst hc1
    clear hw1
    generalize cs 0 = c at c0 c1 c2 HC0 HS0 ⊢
    generalize ss 0 = s at c2 HC0 HS0 ⊢
    go_enter Try.func72, Try.ntmps72
    go_wp2_with fail
    refine HC0.out.mono ?_
    rintro e w2 ⟨rfl, hG⟩
    have HG2 := hide hG
    clear hG c0 c1 c2 HC0
    go_wp2_with fail
    go_loopw [7, 18] (fun v i wr => v = .int .i64 (f c s.2.1) ∧ i = .int .i64 0 ∧ Hid (Gr w wr)) (fun _ _ _ => 0)
    case atStart => exact ⟨rfl, rfl, HG2⟩
    case round =>
      obtain ⟨rfl, rfl, HGr⟩ := hrel
      go_wp2
      go_ret
      exact ⟨rfl, HGr.out⟩
  · have hne : (cap - 1 = 0) = False := by simp; omega
    have HSS : Hid (∀ k, sumTo (fun i => f (cs i) (ss i).2.1) (k + 1) = sumTo (fun i => f (cs i) (ss i).2.1) k + f (cs k) (ss k).2.1) := fun k => rfl
    have HRG : Hid (∀ k, k ≤ n → -16777216 ≤ sumTo (fun i => f (cs i) (ss i).2.1) k ∧ sumTo (fun i => f (cs i) (ss i).2.1) k ≤ 16777216) := fun k hk => by
      have := sumTo_range (f := fun i => f (cs i) (ss i).2.1) (M := 2097152) k (fun i hi => HF.out i (by omega))
      omega
    generalize sumTo (fun i => f (cs i) (ss i).2.1) = sm at HS0 HSS HRG ⊢
    rw [← HS0.out] at HC0
    go_enter Try.func72, Try.ntmps72
    go_wp2_with fail
    refine HC0.out.mono ?_
    rintro e w2 ⟨rfl, hG⟩
    have HG2 := hide hG
    clear hG c0 c1 c2 HC0
    go_wp2_with fail
    go_loopw [7, 18] (fun v i wr => ∃ j : Nat, j ≤ n - 1 ∧ v = .int .i64 (sm (j + 1)) ∧ i = .int .i64 j ∧ Hid (Gr w wr)) (fun _ i _ => n - 1 - (intOf i).toNat)
    case atStart => exact ⟨0, Nat.zero_le _, rfl, rfl, HG2⟩
    case round =>
      obtain ⟨j, hj, rfl, rfl, HGr⟩ := hrel
      by_cases hjn : j < n - 1
      · have hjn' : (j : Int) < ((n - 1 : Nat) : Int) := by omega
        have hj1 : j + 1 < n := by omega
        obtain ⟨b', off', e, hb', d0, d1, d2⟩ := HX.out.at_ hj1
        injection e with e
        injection e with e1 e2
        subst e1; subst e2
        have ea : off + (j + 1) * 3 = off + 3 + j * 3 := by omega
        rw [ea] at d0 d1 d2
        have x0 := (HGr.out.cell (p := ⟨b, off + 3 + j * 3, none⟩) hb).trans d0
        have x1 := (HGr.out.cell (p := ⟨b, off + 3 + j * 3 + 1, none⟩) hb).trans d1
        have x2 := (HGr.out.cell (p := ⟨b, off + 3 + j * 3 + 2, none⟩) hb).trans d2
        have hfr := okC_fr (HOK.out (j + 1) hj1)
        have hsl := (HX.out.cu (j + 1) hj1).sl.1
        have hln := (okC_true (HOK.out (j + 1) hj1)).2.2.1
        have HCJ := hide (fun w1 => HG.out (cs (j + 1)) (ss (j + 1)).1 (ss (j + 1)).2.1 (ss (j + 1)).2.2 w1 hfr.1 hfr.2 (by omega))
        have HSJ := hide (HSS.out (j + 1))
        have hr1 := HRG.out (j + 1) (by omega)
        have hf1 := HF.out (j + 1) hj1
        have HPL := hide (fun w1 => plus_any (sm (j + 1)) (f (cs (j + 1)) (ss (j + 1)).2.1) w1 (by omega) (by omega))
        clear d0 d1 d2 hfr hsl hln hr1 hf1 hb'
        rw [← HSJ.out] at HPL
        generalize cs (j + 1) = c at x0 x1 x2 HCJ HPL
        generalize ss (j + 1) = s at x2 HCJ HPL
        generalize f c s.2.1 = fv at HCJ HPL
        go_wp2_with fail
        refine (HCJ.out _).mono ?_
        rintro e w3 ⟨rfl, hG3⟩
        have HG3 : Hid (Gr w w3) := (HGr.out.alloc _).trans hG3
        clear hG3
        go_wp2_with fail
        refine (HPL.out _).mono ?_
        rintro e w4 ⟨rfl, rfl⟩
        go_wp2
        go_roundw
        case rel => exact ⟨j + 1, by omega, rfl, by go_num, HG3⟩
        case measure => simp [intOf]; omega
      · obtain rfl : j = n - 1 := by omega
        have hnn : n - 1 + 1 = n := by omega
        go_wp2
        go_ret
        exact ⟨ret_int (by rw [hnn]), HGr.out⟩

/-- are the first k curves valid? -/
def allOk (cs : Nat → Cu) : Nat → Bool
  | 0 => true
  | k + 1 => allOk cs k && okC (cs k)
theorem allOk_iff (cs : Nat → Cu) : ∀ k, allOk cs k = true ↔ ∀ i, i < k → okC (cs i) = true
  | 0 => by simp [allOk]
  | k + 1 => by
    unfold allOk
    rw [Bool.and_eq_true, allOk_iff cs k]
    constructor
    · rintro ⟨h1, h2⟩ i hi
      rcases Nat.lt_or_ge i k with h | h
      · exact h1 i h
      · obtain rfl : i = k := by omega
        exact h2
    · intro h
      exact ⟨fun i hi => h i (by omega), h k (by omega)⟩

set_option maxHeartbeats 4000000 in
set_option maxRecDepth 100000 in
theorem common84_any (A : Option Addr) (n cap : Nat) (cs : Nat → Cu) (ss : Nat → Option Addr × Nat × Nat) (w : World) (hx : CurvesAt w.heap.size w A n cs ss) (hn : n ≤ 8) (h0 : 0 < n) (hcap : n ≤ cap) (hm : ∀ i, i < n → (ss i).2.1 ≤ 9223372036854775807) :
    Calls Try.prog 84 #[.slice A n cap, .func (.func 19) #[] #[], .func (.func 83) #[] #[]] w fun e w' => e = .returned (.bool (allOk cs n)) ∧ Gr w w' := by
  have mixed := mixedOrders
  have HX := hide hx
  have HM := hide hm
  have e19 := enters19
  have e83 := enters83
  obtain ⟨b, off, rfl, hb, c0, c1, c2⟩ := hx.at_ h0
  have HC0 := hide (Valid_any (cs 0) (ss 0).1 (ss 0).2.1 (ss 0).2.2 w (hx.cu 0 h0).sl (hm 0 h0))
  simp only [Nat.zero_mul, Nat.add_zero] at c0 c1 c2
  have HS0 : Hid (allOk cs 1 = okC (cs 0)) := by show _ = _; simp [allOk]
  have h0' : (0 : Int) < (n : Int) := by omega
  have h1' : (1 : Int) ≤ (n : Int) := by omega
  clear hx hm
  by_cases hc1 : cap = 1
  · obtain rfl : n = 1 := by omega
    rw [HS0.out]
    subst hc1
    generalize cs 0 = c at c0 c1 c2 HC0 HS0 ⊢
    generalize ss 0 = s at c2 HC0
    go_enter Try.func84, Try.ntmps84
    go_wp2_with fail
    refine HC0.out.mono ?_
    rintro e w2 ⟨rfl, hG⟩
    have HG2 := hide hG
    clear hG c0 c1 c2 HC0
    go_wp2_with fail
    go_loopw [7, 18] (fun v i wr => v = .bool (okC c) ∧ i = .int .i64 0 ∧ Hid (Gr w wr)) (fun _ _ _ => 0)
    case atStart => exact ⟨rfl, rfl, HG2⟩
    case round =>
      obtain ⟨rfl, rfl, HGr⟩ := hrel
      go_wp2
      go_ret
      exact ⟨rfl, HGr.out⟩
  · have hne : (cap - 1 = 0) = False := by simp; omega
    have HSS : Hid (∀ k, allOk cs (k + 1) = (allOk cs k && okC (cs k))) := fun k => rfl
    rw [← HS0.out] at HC0
    generalize allOk cs = sm at HS0 HSS HC0 ⊢
    go_enter Try.func84, Try.ntmps84
    go_wp2_with fail
    refine HC0.out.mono ?_
    rintro e w2 ⟨rfl, hG⟩
    have HG2 := hide hG
    clear hG c0 c1 c2 HC0
    go_wp2_with fail
    go_loopw [7, 18] (fun v i wr => ∃ j : Nat, j ≤ n - 1 ∧ v = .bool (sm (j + 1)) ∧ i = .int .i64 j ∧ Hid (Gr w wr)) (fun _ i _ => n - 1 - (intOf i).toNat)
    case atStart => exact ⟨0, Nat.zero_le _, rfl, rfl, HG2⟩
    case round =>
      obtain ⟨j, hj, rfl, rfl, HGr⟩ := hrel
      by_cases hjn : j < n - 1
      · have hjn' : (j : Int) < ((n - 1 : Nat) : Int) := by omega
        have hj1 : j + 1 < n := by omega
        obtain ⟨b', off', e, hb', d0, d1, d2⟩ := HX.out.at_ hj1
        injection e with e
        injection e with e1 e2
        subst e1; subst e2
        have ea : off + (j + 1) * 3 = off + 3 + j * 3 := by omega
        rw [ea] at d0 d1 d2
        have x0 := (HGr.out.cell (p := ⟨b, off + 3 + j * 3, none⟩) hb).trans d0
        have x1 := (HGr.out.cell (p := ⟨b, off + 3 + j * 3 + 1, none⟩) hb).trans d1
        have x2 := (HGr.out.cell (p := ⟨b, off + 3 + j * 3 + 2, none⟩) hb).trans d2
        have HSL := hide (HX.out.cu (j + 1) hj1).sl
        have HML := hide (HM.out (j + 1) hj1)
        have HCJ := hide (fun w1 (hg : Gr w w1) => Valid_any (cs (j + 1)) (ss (j + 1)).1 (ss (j + 1)).2.1 (ss (j + 1)).2.2 w1 (HSL.out.gr hg) HML.out)
        have HSJ := hide (HSS.out (j + 1))
        clear d0 d1 d2 hb'
        generalize cs (j + 1) = c at x0 x1 x2 HCJ HSJ HSL
        generalize ss (j + 1) = s at x2 HCJ HSL HML
        have HG1 : Hid (Gr w (wr.alloc (.cells #[.int .i64 c.fr, .int .i64 c.fst, .slice s.1 s.2.1 s.2.2] 24))) := HGr.out.alloc _
        go_wp2_with fail
        refine (HCJ.out _ HG1.out).mono ?_
        rintro e w3 ⟨rfl, hG3⟩
        have HG3 : Hid (Gr w w3) := HG1.out.trans hG3
        clear hG3
        have HPL := hide (both_any (sm (j + 1)) (okC c) w3)
        rw [← HSJ.out] at HPL
        generalize okC c = pv at HPL
        go_wp2_with fail
        refine HPL.out.mono ?_
        rintro e w4 ⟨rfl, rfl⟩
        go_wp2
        go_roundw
        case rel => exact ⟨j + 1, by omega, rfl, by go_num, HG3⟩
        case measure => simp [intOf]; omega
      · obtain rfl : j = n - 1 := by omega
        have hnn : n - 1 + 1 = n := by omega
        go_wp2
        go_ret
        exact ⟨ret_bool (by rw [hnn]), HGr.out⟩

/-- the error of a division -/
noncomputable def splitE (cs : Nat → Cu) (n : Nat) (total : Int) : Int :=
  if 8 < n then 3 else if n = 0 then 2 else if allOk cs n = false then 2 else if total < sumTo (fun i => (cs i).fr) n ∨ sumTo (fun i => (cs i).fr + ((cs i).sl.length : Int)) n < total then 10 else 0

set_option maxHeartbeats 4000000 in
set_option maxRecDepth 100000 in
theorem checkSplit_any (A : Option Addr) (n cap : Nat) (cs : Nat → Cu) (ss : Nat → Option Addr × Nat × Nat) (total : Int) (w : World) (hx : CurvesAt w.heap.size w A n cs ss) (hcap : n ≤ cap) (hm : ∀ i, i < n → (ss i).2.1 ≤ 9223372036854775807) :
    Calls Try.prog 71 #[.slice A n cap, .int .i64 total] w fun e w' => e = .returned (.int .i64 (splitE cs n total)) ∧ Gr w w' := by
  by_cases h8 : (8 : Int) < (n : Int)
  · have hd : decide ((8 : Int) < (n : Int)) = true := decide_eq_true h8
    have HE : Hid (splitE cs n total = 3) := if_pos (by omega)
    clear hx hm
    go_enter Try.func71, Try.ntmps71
    go_wp2
    go_ret
    exact ⟨ret_int HE.out.symm, Gr.refl _⟩
  have hd : decide ((8 : Int) < (n : Int)) = false := decide_eq_false h8
  by_cases hn0 : n = 0
  · subst hn0
    have HE : Hid (splitE cs 0 total = 2) := by show _ = _; unfold splitE; rw [if_neg (by omega), if_pos rfl]
    clear hx hm
    go_enter Try.func71, Try.ntmps71
    go_wp2
    go_ret
    exact ⟨ret_int HE.out.symm, Gr.refl _⟩
  have hq : ((n : Int) == 0) = false := beq_eq_false_iff_ne.2 (by omega)
  have HX := hide hx
  have HA := hide (common84_any A n cap cs ss w hx (by omega) (by omega) hcap hm)
  have hlen : ∀ i, i < n → (cs i).sl.length = (ss i).2.1 := fun i hi => (hx.cu i hi).sl.1
  have HL := hide hlen
  clear hx hlen
  cases ha : allOk cs n
  · rw [ha] at HA
    have HE : Hid (splitE cs n total = 2) := by show _ = _; unfold splitE; rw [if_neg (by omega), if_neg hn0, if_pos ha]
    clear ha
    go_enter Try.func71, Try.ntmps71
    go_wp2_with fail
    refine HA.out.mono ?_
    rintro e w2 ⟨rfl, hG⟩
    have HG := hide hG
    clear hG
    go_wp2
    go_ret
    exact ⟨ret_int HE.out.symm, HG.out⟩
  · rw [ha] at HA
    have hok := (allOk_iff cs n).1 ha
    have HOK := hide hok
    have HLO := hide (fun w2 (hg : Gr w w2) => common72_any 49 _ num49 A n cap cs ss w2 (HX.out.now hg.below (Nat.le_refl _)) (by omega) (by omega) hcap hok (fun i hi => by have := okC_fr (hok i hi); omega))
    have HHI := hide (fun w2 (hg : Gr w w2) => common72_any 50 _ num50 A n cap cs ss w2 (HX.out.now hg.below (Nat.le_refl _)) (by omega) (by omega) hcap hok (fun i hi => by have := okC_fr (hok i hi); have := (okC_true (hok i hi)).2.2.1; have := HL.out i hi; omega))
    have hes : sumTo (fun i => (cs i).fr + ((ss i).2.1 : Int)) n = sumTo (fun i => (cs i).fr + ((cs i).sl.length : Int)) n := by
      have : ∀ k, k ≤ n → sumTo (fun i => (cs i).fr + ((ss i).2.1 : Int)) k = sumTo (fun i => (cs i).fr + ((cs i).sl.length : Int)) k := by
        intro k
        induction k with
        | zero => exact fun _ => rfl
        | succ k ih => intro hk; unfold sumTo; rw [ih (by omega), HL.out k (by omega)]
      exact this n (Nat.le_refl _)
    have HE : Hid (splitE cs n total = if total < sumTo (fun i => (cs i).fr) n ∨ sumTo (fun i => (cs i).fr + ((cs i).sl.length : Int)) n < total then 10 else 0) := by
      show _ = _
      unfold splitE
      rw [if_neg (by omega), if_neg hn0, if_neg (by rw [ha]; decide)]
    rw [hes] at HHI
    generalize sumTo (fun i => (cs i).fr) n = lo at HE HLO
    generalize sumTo (fun i => (cs i).fr + ((cs i).sl.length : Int)) n = hi at HE HHI
    clear ha hok hes
    by_cases h1 : total < lo
    · have d1 : decide (total < lo) = true := decide_eq_true h1
      have HE2 : Hid (splitE cs n total = 10) := by show _ = _; rw [HE.out, if_pos (.inl h1)]
      clear h1 HE
      go_enter Try.func71, Try.ntmps71
      go_wp2_with fail
      refine HA.out.mono ?_
      rintro e w2 ⟨rfl, hG⟩
      have HG := hide hG
      clear hG
      go_wp2_with fail
      refine (HLO.out _ HG.out).mono ?_
      rintro e w3 ⟨rfl, hG⟩
      have HG3 := hide (HG.out.trans hG)
      clear hG
      go_wp2
      go_ret
      exact ⟨ret_int HE2.out.symm, HG3.out⟩
    · have d1 : decide (total < lo) = false := decide_eq_false h1
      by_cases h2 : hi < total
      · have d2 : decide (hi < total) = true := decide_eq_true h2
        have HE2 : Hid (splitE cs n total = 10) := by show _ = _; rw [HE.out, if_pos (.inr h2)]
        clear h1 h2 HE
        go_enter Try.func71, Try.ntmps71
        go_wp2_with fail
        refine HA.out.mono ?_
        rintro e w2 ⟨rfl, hG⟩
        have HG := hide hG
        clear hG
        go_wp2_with fail
        refine (HLO.out _ HG.out).mono ?_
        rintro e w3 ⟨rfl, hG⟩
        have HG3 := hide (HG.out.trans hG)
        clear hG
        go_wp2_with fail
        refine (HHI.out _ HG3.out).mono ?_
        rintro e w4 ⟨rfl, hG⟩
        have HG4 := hide (HG3.out.trans hG)
        clear hG
        go_wp2
        go_ret
        exact ⟨ret_int HE2.out.symm, HG4.out⟩
      · have d2 : decide (hi < total) = false := decide_eq_false h2
        have HE2 : Hid (splitE cs n total = 0) := by show _ = _; rw [HE.out, if_neg (fun h => h.elim h1 h2)]
        clear h1 h2 HE
        go_enter Try.func71, Try.ntmps71
        go_wp2_with fail
        refine HA.out.mono ?_
        rintro e w2 ⟨rfl, hG⟩
        have HG := hide hG
        clear hG
        go_wp2_with fail
        refine (HLO.out _ HG.out).mono ?_
        rintro e w3 ⟨rfl, hG⟩
        have HG3 := hide (HG.out.trans hG)
        clear hG
        go_wp2_with fail
        refine (HHI.out _ HG3.out).mono ?_
        rintro e w4 ⟨rfl, hG⟩
        have HG4 := hide (HG3.out.trans hG)
        clear hG
        go_wp2
        go_ret
        exact ⟨ret_int HE2.out.symm, HG4.out⟩

end Go.Proofs.Ytdepnhnpklbmiaa
/- A row of walkers in memory; the sum of their values. -/
namespace Go.Proofs.Ytdepnhnpklbmiaa
open Go.RowKit Go.Sort

/-- a struct of five cells stored at an offset -/
def setW (W : World) (g o : Nat) (a b c d e : Value) : World := ((((W.setCell ⟨g, o, none⟩ a).setCell ⟨g, o + 1, none⟩ b).setCell ⟨g, o + 2, none⟩ c).setCell ⟨g, o + 3, none⟩ d).setCell ⟨g, o + 4, none⟩ e
theorem setW_cells {W : World} {g o : Nat} {p q r s u : Value} (h0 : W.cell? ⟨g, o, none⟩ = some p) (h1 : W.cell? ⟨g, o + 1, none⟩ = some q) (h2 : W.cell? ⟨g, o + 2, none⟩ = some r) (h3 : W.cell? ⟨g, o + 3, none⟩ = some s) (h4 : W.cell? ⟨g, o + 4, none⟩ = some u) (a b c d e : Value) :
    (setW W g o a b c d e).cell? ⟨g, o, none⟩ = some a ∧ (setW W g o a b c d e).cell? ⟨g, o + 1, none⟩ = some b ∧ (setW W g o a b c d e).cell? ⟨g, o + 2, none⟩ = some c ∧ (setW W g o a b c d e).cell? ⟨g, o + 3, none⟩ = some d ∧ (setW W g o a b c d e).cell? ⟨g, o + 4, none⟩ = some e := by
  unfold setW
  have ne : ∀ x y : Nat, x ≠ y → (⟨g, x, none⟩ : Addr) ≠ ⟨g, y, none⟩ := fun x y h e => by simp only [Addr.mk.injEq] at e; omega
  refine ⟨?_, ?_, ?_, ?_, ?_⟩
  · rw [World.cell?_setCell_other _ _ _ _ (by first | exact ne _ _ (by omega) | exact (ne _ _ (by omega)).symm), World.cell?_setCell_other _ _ _ _ (by first | exact ne _ _ (by omega)), World.cell?_setCell_other _ _ _ _ (by first | exact ne _ _ (by omega)), World.cell?_setCell_other _ _ _ _ (by first | exact ne _ _ (by omega))]
    exact World.cell?_setCell_same _ _ _ h0
  · rw [World.cell?_setCell_other _ _ _ _ (by first | exact ne _ _ (by omega)), World.cell?_setCell_other _ _ _ _ (by first | exact ne _ _ (by omega)), World.cell?_setCell_other _ _ _ _ (by first | exact ne _ _ (by omega))]
    exact World.cell?_setCell_same _ _ _ ((World.cell?_setCell_other _ _ _ _ (ne _ _ (by omega))).trans h1)
  · rw [World.cell?_setCell_other _ _ _ _ (by first | exact ne _ _ (by omega)), World.cell?_setCell_other _ _ _ _ (by first | exact ne _ _ (by omega))]
    exact World.cell?_setCell_same _ _ _ ((World.cell?_setCell_other _ _ _ _ (ne _ _ (by omega))).trans ((World.cell?_setCell_other _ _ _ _ (ne _ _ (by omega))).trans h2))
  · rw [World.cell?_setCell_other _ _ _ _ (by first | exact ne _ _ (by omega))]
    exact World.cell?_setCell_same _ _ _ ((World.cell?_setCell_other _ _ _ _ (ne _ _ (by omega))).trans ((World.cell?_setCell_other _ _ _ _ (ne _ _ (by omega))).trans ((World.cell?_setCell_other _ _ _ _ (ne _ _ (by omega))).trans h3)))
  · exact World.cell?_setCell_same _ _ _ ((World.cell?_setCell_other _ _ _ _ (ne _ _ (by omega))).trans ((World.cell?_setCell_other _ _ _ _ (ne _ _ (by omega))).trans ((World.cell?_setCell_other _ _ _ _ (ne _ _ (by omega))).trans ((World.cell?_setCell_other _ _ _ _ (ne _ _ (by omega))).trans h4))))
theorem setW_other {W : World} {g o : Nat} {x : Addr} (h : x.block ≠ g ∨ x.off < o ∨ o + 4 < x.off) (a b c d e : Value) : (setW W g o a b c d e).cell? x = W.cell? x := by
  unfold setW
  have ne : ∀ y : Nat, o ≤ y → y ≤ o + 4 → (⟨g, y, none⟩ : Addr) ≠ x := fun y h1 h2 e => by subst e; simp at h; omega
  rw [World.cell?_setCell_other _ _ _ _ (ne _ (by omega) (by omega)), World.cell?_setCell_other _ _ _ _ (ne _ (by omega) (by omega)), World.cell?_setCell_other _ _ _ _ (ne _ (by omega) (by omega)), World.cell?_setCell_other _ _ _ _ (ne _ (by omega) (by omega)), World.cell?_setCell_other _ _ _ _ (ne _ (by omega) (by omega))]
theorem setW_frozen (W : World) (g o : Nat) (a b c d e : Value) (x : Addr) : (setW W g o a b c d e).frozen? x = W.frozen? x := by
  unfold setW
  rw [World.frozen?_setCell, World.frozen?_setCell, World.frozen?_setCell, World.frozen?_setCell, World.frozen?_setCell]
theorem setW_size (W : World) (g o : Nat) (a b c d e : Value) : (setW W g o a b c d e).heap.size = W.heap.size := by simp [setW, World.setCell]
theorem setW_block {W : World} {g o j : Nat} (h : j ≠ g) (a b c d e : Value) : (setW W g o a b c d e).heap[j]? = W.heap[j]? := by
  unfold setW
  rw [Below.heap_setCell _ _ _ _ h, Below.heap_setCell _ _ _ _ h, Below.heap_setCell _ _ _ _ h, Below.heap_setCell _ _ _ _ h, Below.heap_setCell _ _ _ _ h]
theorem setW_below {n : Nat} {w W : World} {g o : Nat} (h : Below n w W) (hg : n ≤ g) (a b c d e : Value) : Below n w (setW W g o a b c d e) :=
  ((((h.setCell (p := ⟨g, o, none⟩) hg a).setCell (p := ⟨g, o + 1, none⟩) hg b).setCell (p := ⟨g, o + 2, none⟩) hg c).setCell (p := ⟨g, o + 3, none⟩) hg d).setCell (p := ⟨g, o + 4, none⟩) hg e

theorem ints_setW {W : World} {g n : Nat} {A : Option Addr} {xs : List Int} (h : IntsAt W.heap.size W A n xs) (hA : 0 < n → ∀ ad, A = some ad → ad.block ≠ g) (o : Nat) (a b c d e : Value) : IntsAt (setW W g o a b c d e).heap.size (setW W g o a b c d e) A n xs := by
  rw [setW_size]
  refine ⟨h.1, ?_⟩
  rcases h.2 with h0 | ⟨b2, off2, h1, h2, h3⟩
  · exact .inl h0
  · refine .inr ⟨b2, off2, h1, h2, fun q hq => ?_⟩
    have hne : b2 ≠ g := hA (by omega) _ h1
    rw [setW_other (.inl hne)]
    exact h3 q hq
/-- room for n walkers in block g -/
structure RoomW (W : World) (g n : Nat) : Prop where
  lt : g < W.heap.size
  cells : ∀ o, o < n * 5 → (∃ v, W.cell? ⟨g, o, none⟩ = some v) ∧ W.frozen? ⟨g, o, none⟩ = false
theorem RoomW.below {W W' : World} {g n : Nat} (h : RoomW W g n) (hb : Below W.heap.size W W') : RoomW W' g n :=
  ⟨Nat.lt_of_lt_of_le h.lt hb.size, fun o ho => by
    obtain ⟨⟨v, h1⟩, h2⟩ := h.cells o ho
    refine ⟨⟨v, (hb.cell (p := ⟨g, o, none⟩) h.lt).trans h1⟩, ?_⟩
    rw [World.frozen?_of_block (hb.block g h.lt)]
    exact h2⟩
theorem RoomW.setW {W : World} {g n i : Nat} (h : RoomW W g n) (hi : i < n) (a b c d e : Value) : RoomW (setW W g (i * 5) a b c d e) g n := by
  refine ⟨by rw [setW_size]; exact h.lt, fun o ho => ⟨?_, by rw [setW_frozen]; exact (h.cells o ho).2⟩⟩
  by_cases ho2 : o < i * 5 ∨ i * 5 + 4 < o
  · rw [setW_other (.inr ho2)]
    exact (h.cells o ho).1
  · obtain ⟨_, h0⟩ := (h.cells (i * 5) (by omega)).1
    obtain ⟨_, h1⟩ := (h.cells (i * 5 + 1) (by omega)).1
    obtain ⟨_, h2⟩ := (h.cells (i * 5 + 2) (by omega)).1
    obtain ⟨_, h3⟩ := (h.cells (i * 5 + 3) (by omega)).1
    obtain ⟨_, h4⟩ := (h.cells (i * 5 + 4) (by omega)).1
    obtain ⟨k0, k1, k2, k3, k4⟩ := setW_cells h0 h1 h2 h3 h4 a b c d e
    rcases (show o = i * 5 ∨ o = i * 5 + 1 ∨ o = i * 5 + 2 ∨ o = i * 5 + 3 ∨ o = i * 5 + 4 by omega) with rfl | rfl | rfl | rfl | rfl
    · exact ⟨_, k0⟩
    · exact ⟨_, k1⟩
    · exact ⟨_, k2⟩
    · exact ⟨_, k3⟩
    · exact ⟨_, k4⟩
theorem RoomW.wkd {W W' : World} {g n i : Nat} (h : RoomW W g n) (hk : Wkd g (i * 5) W W') {c : Cu} {A : Option Addr} {m cap k : Nat} (ho : OnWay W' g (i * 5) c A m cap k) : RoomW W' g n :=
  ⟨Nat.lt_of_lt_of_le h.lt hk.size, fun o ho' => by
    refine ⟨?_, (hk.frz o).trans (h.cells o ho').2⟩
    by_cases h3 : o = i * 5 + 3
    · subst h3
      exact ⟨_, ho.wk.c3⟩
    · by_cases h4 : o = i * 5 + 4
      · subst h4
        exact ⟨_, ho.wk.c4⟩
      · rw [hk.cell o h3 h4]
        exact (h.cells o ho').1⟩
theorem OnWay.other {W W' : World} {g i j : Nat} {c : Cu} {A : Option Addr} {n cap k : Nat} (h : OnWay W g (j * 5) c A n cap k) (hk : Wkd g (i * 5) W W') (hij : j ≠ i) : OnWay W' g (j * 5) c A n cap k :=
  ⟨⟨Nat.lt_of_lt_of_le h.wk.lt hk.size, (hk.cell _ (by omega) (by omega)).trans h.wk.c0, (hk.cell _ (by omega) (by omega)).trans h.wk.c1, (hk.cell _ (by omega) (by omega)).trans h.wk.c2, (hk.cell _ (by omega) (by omega)).trans h.wk.c3, (hk.cell _ (by omega) (by omega)).trans h.wk.c4, (hk.frz _).trans h.wk.f3, (hk.frz _).trans h.wk.f4⟩,
    (h.sl.wkd hk h.ne (Nat.le_refl _)).mono hk.size, h.ne, h.le⟩
theorem OnWay.below {W W' : World} {b off : Nat} {c : Cu} {A : Option Addr} {n cap k : Nat} (h : OnWay W b off c A n cap k) (hb : Below W.heap.size W W') : OnWay W' b off c A n cap k :=
  ⟨⟨Nat.lt_of_lt_of_le h.wk.lt hb.size, (hb.cell (p := ⟨b, off, none⟩) h.wk.lt).trans h.wk.c0, (hb.cell (p := ⟨b, off + 1, none⟩) h.wk.lt).trans h.wk.c1, (hb.cell (p := ⟨b, off + 2, none⟩) h.wk.lt).trans h.wk.c2, (hb.cell (p := ⟨b, off + 3, none⟩) h.wk.lt).trans h.wk.c3, (hb.cell (p := ⟨b, off + 4, none⟩) h.wk.lt).trans h.wk.c4,
    (World.frozen?_of_block (hb.block b h.wk.lt)).trans h.wk.f3, (World.frozen?_of_block (hb.block b h.wk.lt)).trans h.wk.f4⟩, h.sl.now hb (Nat.le_refl _), h.ne, h.le⟩
theorem OnWay.setW {W : World} {g i j : Nat} {c : Cu} {A : Option Addr} {n cap k : Nat} (h : OnWay W g (j * 5) c A n cap k) (hij : j ≠ i) (a b d e f : Value) : OnWay (setW W g (i * 5) a b d e f) g (j * 5) c A n cap k := by
  refine ⟨⟨by rw [setW_size]; exact h.wk.lt, (setW_other (.inr (by show j * 5 < i * 5 ∨ _ < j * 5; omega)) _ _ _ _ _).trans h.wk.c0, (setW_other (.inr (by show j * 5 + 1 < i * 5 ∨ _ < j * 5 + 1; omega)) _ _ _ _ _).trans h.wk.c1, (setW_other (.inr (by show j * 5 + 2 < i * 5 ∨ _ < j * 5 + 2; omega)) _ _ _ _ _).trans h.wk.c2,
    (setW_other (.inr (by show j * 5 + 3 < i * 5 ∨ _ < j * 5 + 3; omega)) _ _ _ _ _).trans h.wk.c3, (setW_other (.inr (by show j * 5 + 4 < i * 5 ∨ _ < j * 5 + 4; omega)) _ _ _ _ _).trans h.wk.c4, by rw [setW_frozen]; exact h.wk.f3, by rw [setW_frozen]; exact h.wk.f4⟩, ints_setW h.sl h.ne _ _ _ _ _ _, h.ne, h.le⟩
/-- a walker newly laid -/
theorem onway_new {W : World} {g n i : Nat} (h : RoomW W g n) (hi : i < n) {c : Cu} {A : Option Addr} {m cap k : Nat} (hs : CuAt W.heap.size W c A m cap) (hA : 0 < m → ∀ ad, A = some ad → ad.block ≠ g) (hk : k ≤ m) :
    OnWay (setW W g (i * 5) (.int .i64 c.fr) (.int .i64 c.fst) (.slice A m cap) (.int .i64 (c.fr + k)) (.int .i64 (valK c k))) g (i * 5) c A m cap k := by
  obtain ⟨_, h0⟩ := (h.cells (i * 5) (by omega)).1
  obtain ⟨_, h1⟩ := (h.cells (i * 5 + 1) (by omega)).1
  obtain ⟨_, h2⟩ := (h.cells (i * 5 + 2) (by omega)).1
  obtain ⟨_, h3⟩ := (h.cells (i * 5 + 3) (by omega)).1
  obtain ⟨_, h4⟩ := (h.cells (i * 5 + 4) (by omega)).1
  obtain ⟨k0, k1, k2, k3, k4⟩ := setW_cells h0 h1 h2 h3 h4 (.int .i64 c.fr) (.int .i64 c.fst) (.slice A m cap) (.int .i64 (c.fr + k)) (.int .i64 (valK c k))
  refine ⟨⟨by rw [setW_size]; exact h.lt, k0, k1, k2, k3, k4, by rw [setW_frozen]; exact (h.cells (i * 5 + 3) (by omega)).2, by rw [setW_frozen]; exact (h.cells (i * 5 + 4) (by omega)).2⟩, ?_, hA, hk⟩
  exact ints_setW hs.sl hA _ _ _ _ _ _

set_option maxHeartbeats 400000 in
theorem value_any (c : Cu) (A : Option Addr) (n cap : Nat) (x v : Int) (w : World) :
    Calls Try.prog 75 #[.agg #[.int .i64 c.fr, .int .i64 c.fst, .slice A n cap, .int .i64 x, .int .i64 v]] w fun e w' => e = .returned (.int .i64 v) ∧ Gr w w' := by
  generalize c.fr = f
  generalize c.fst = g
  go_enter Try.func75, Try.ntmps75
  go_wp2
  go_ret
  exact ⟨rfl, (Gr.refl _).alloc _⟩
theorem enters75 : ∀ args w, (callFunc 75 args).run Try.prog w = .ok (.enter 75 args) w := enters_of Try.func75 (by kernel_rfl) rfl

set_option maxHeartbeats 4000000 in
set_option maxRecDepth 100000 in
theorem common74_any (g n : Nat) (cs : Nat → Cu) (ss : Nat → Option Addr × Nat × Nat) (ks : Nat → Nat) (w : World) (hx : ∀ i, i < n → OnWay w g (i * 5) (cs i) (ss i).1 (ss i).2.1 (ss i).2.2 (ks i)) (hn : n ≤ 8) (h0 : 0 < n)
    (hf : ∀ i, i < n → -1125899906842624 ≤ valK (cs i) (ks i) ∧ valK (cs i) (ks i) ≤ 1125899906842624) :
    Calls Try.prog 74 #[.slice (some ⟨g, 0, none⟩) n n, .func (.func 75) #[] #[], .func (.func 73) #[] #[]] w fun e w' => e = .returned (.int .i64 (sumTo (fun i => valK (cs i) (ks i)) n)) ∧ Gr w w' := by
  have mixed := mixedOrders
  have HX := hide hx
  have e75 := enters75
  have e73 := enters73
  have HF := hide hf
  have hlt := (hx 0 h0).wk.lt
  have c0 := (hx 0 h0).wk.c0
  have c1 := (hx 0 h0).wk.c1
  have c2 := (hx 0 h0).wk.c2
  have c3 := (hx 0 h0).wk.c3
  have c4 := (hx 0 h0).wk.c4
  have HC0 := hide (value_any (cs 0) (ss 0).1 (ss 0).2.1 (ss 0).2.2 ((cs 0).fr + ks 0) (valK (cs 0) (ks 0)) w)
  simp only [Nat.zero_mul, Nat.zero_add] at c0 c1 c2 c3 c4
  have HS0 : Hid (sumTo (fun i => valK (cs i) (ks i)) 1 = valK (cs 0) (ks 0)) := by show _ = _; simp [sumTo]
  have h0' : (0 : Int) < (n : Int) := by omega
  have h1' : (1 : Int) ≤ (n : Int) := by omega
  have hw1 : IntKind.i64.wrap ((n : Int) - 1) = ((n - 1 : Nat) : Int) := by rw [IntKind.wrap_i64]; omega
  have HSS : Hid (∀ k, sumTo (fun i => valK (cs i) (ks i)) (k + 1) = sumTo (fun i => valK (cs i) (ks i)) k + valK (cs k) (ks k)) := fun k => rfl
  have HRG : Hid (∀ k, k ≤ n → -9007199254740992 ≤ sumTo (fun i => valK (cs i) (ks i)) k ∧ sumTo (fun i => valK (cs i) (ks i)) k ≤ 9007199254740992) := fun k hk => by
    have := sumTo_range (f := fun i => valK (cs i) (ks i)) (M := 1125899906842624) k (fun i hi => HF.out i (by omega))
    omega
  generalize sumTo (fun i => valK (cs i) (ks i)) = sm at HS0 HSS HRG ⊢
  rw [← HS0.out] at HC0 c4
  clear hx hf
  generalize (cs 0).fr + (ks 0 : Int) = x00 at c3 HC0
  by_cases hc1 : n = 1
  · subst hc1
    clear hw1
    generalize sm 1 = s1 at *
    generalize cs 0 = c at c0 c1 HC0
    generalize ss 0 = s at c2 HC0
    go_enter Try.func74, Try.ntmps74
    go_wp2_with fail
    refine HC0.out.mono ?_
    rintro e w2 ⟨rfl, hG⟩
    have HG2 := hide hG
    clear hG c0 c1 c2 c3 c4 HC0
    go_wp2_with fail
    go_loopw [7, 18] (fun v i wr => v = .int .i64 s1 ∧ i = .int .i64 0 ∧ Hid (Gr w wr)) (fun _ _ _ => 0)
    case atStart => exact ⟨rfl, rfl, HG2⟩
    case round =>
      obtain ⟨rfl, rfl, HGr⟩ := hrel
      go_wp2
      go_ret
      exact ⟨rfl, HGr.out⟩
  · have hne : (n - 1 = 0) = False := by simp; omega
    generalize cs 0 = c at c0 c1 HC0
    generalize ss 0 = s at c2 HC0
    go_enter Try.func74, Try.ntmps74
    go_wp2_with fail
    refine HC0.out.mono ?_
    rintro e w2 ⟨rfl, hG⟩
    have HG2 := hide hG
    clear hG c0 c1 c2 c3 c4 HC0
    go_wp2_with fail
    go_loopw [7, 18] (fun v i wr => ∃ j : Nat, j ≤ n - 1 ∧ v = .int .i64 (sm (j + 1)) ∧ i = .int .i64 j ∧ Hid (Gr w wr)) (fun _ i _ => n - 1 - (intOf i).toNat)
    case atStart => exact ⟨0, Nat.zero_le _, rfl, rfl, HG2⟩
    case round =>
      obtain ⟨j, hj, rfl, rfl, HGr⟩ := hrel
      by_cases hjn : j < n - 1
      · have hjn' : (j : Int) < ((n - 1 : Nat) : Int) := by omega
        have hj1 : j + 1 < n := by omega
        have hw := HX.out (j + 1) hj1
        have ea : (j + 1) * 5 = 5 + j * 5 := by omega
        rw [ea] at hw
        have x0 := (HGr.out.cell (p := ⟨g, 5 + j * 5, none⟩) hlt).trans hw.wk.c0
        have x1 := (HGr.out.cell (p := ⟨g, 5 + j * 5 + 1, none⟩) hlt).trans hw.wk.c1
        have x2 := (HGr.out.cell (p := ⟨g, 5 + j * 5 + 2, none⟩) hlt).trans hw.wk.c2
        have x3 := (HGr.out.cell (p := ⟨g, 5 + j * 5 + 3, none⟩) hlt).trans hw.wk.c3
        have x4 := (HGr.out.cell (p := ⟨g, 5 + j * 5 + 4, none⟩) hlt).trans hw.wk.c4
        have HSJ := hide (HSS.out (j + 1))
        have hr1 := HRG.out (j + 1) (by omega)
        have hf1 := HF.out (j + 1) hj1
        have HPL := hide (fun w1 => plus_any (sm (j + 1)) (valK (cs (j + 1)) (ks (j + 1))) w1 (by omega) (by omega))
        clear hw hr1 hf1
        rw [← HSJ.out] at HPL
        generalize valK (cs (j + 1)) (ks (j + 1)) = fv at x4 HPL
        generalize ((cs (j + 1)).fr + ((ks (j + 1) : Nat) : Int)) = xv at x3
        have HCJ := hide (fun w1 => value_any (cs (j + 1)) (ss (j + 1)).1 (ss (j + 1)).2.1 (ss (j + 1)).2.2 xv fv w1)
        generalize cs (j + 1) = c at x0 x1 HCJ
        generalize ss (j + 1) = s at x2 HCJ
        go_wp2_with fail
        refine (HCJ.out _).mono ?_
        rintro e w3 ⟨rfl, hG3⟩
        have HG3 : Hid (Gr w w3) := (HGr.out.alloc _).trans hG3
        clear hG3
        go_wp2_with fail
        refine (HPL.out _).mono ?_
        rintro e w4 ⟨rfl, rfl⟩
        go_wp2
        go_roundw
        case rel => exact ⟨j + 1, by omega, rfl, by go_num, HG3⟩
        case measure => simp [intOf]; omega
      · obtain rfl : j = n - 1 := by omega
        have hnn : n - 1 + 1 = n := by omega
        go_wp2
        go_ret
        exact ⟨ret_int (by rw [hnn]), HGr.out⟩

end Go.Proofs.Ytdepnhnpklbmiaa
/- Plain facts of a division: where the climbs end, who takes what is left. -/
namespace Go.Proofs.Ytdepnhnpklbmiaa
open Go.RowKit Go.Sort

/-- the first number behind which no slope is less than p -/
def climK (c : Cu) (p : Int) : Nat := c.sl.findIdx fun s => decide (p ≤ s)
theorem clim_is {c : Cu} {p : Int} {n k : Nat} (hl : c.sl.length = n) (h : Clim c p n 0 k) : k = climK c p := by
  obtain ⟨_, h2, h3, h4⟩ := h
  have hle : climK c p ≤ c.sl.length := List.findIdx_le_length
  rcases Nat.lt_trichotomy k (climK c p) with h | h | h
  · have h5 := h4 (by omega)
    have h6 := List.not_of_lt_findIdx h
    rw [iA_get (by omega)] at h5
    have h7 := of_decide_eq_false (by simpa using h6 : decide (p ≤ c.sl[k]) = false)
    exact absurd h5 h7
  · exact h
  · have hlt : climK c p < c.sl.length := by omega
    have h5 := h3 (climK c p) (Nat.zero_le _) h
    have h6 := List.findIdx_getElem (w := hlt)
    rw [iA_get hlt] at h5
    have h7 := of_decide_eq_true h6
    have h8 : p ≤ c.sl[climK c p] := h7
    omega
theorem climK_le (c : Cu) (p : Int) : climK c p ≤ c.sl.length := List.findIdx_le_length

/-- steps that cost just p, as long as some are left -/
def giveF (c : Cu) (p : Int) : Nat → Nat → Int → Nat × Int
  | 0, k, l => (k, l)
  | f + 1, k, l => if 0 < l ∧ k < c.sl.length ∧ iA c.sl k = p then giveF c p f (k + 1) (l - 1) else (k, l)
def give (c : Cu) (p : Int) (k : Nat) (l : Int) : Nat × Int := giveF c p (c.sl.length - k) k l
theorem giveF_stop {c : Cu} {p : Int} {k : Nat} {l : Int} (h : ¬ (0 < l ∧ k < c.sl.length ∧ iA c.sl k = p)) : ∀ f, giveF c p f k l = (k, l)
  | 0 => rfl
  | f + 1 => by unfold giveF; rw [if_neg h]
theorem giveF_le {c : Cu} {p : Int} : ∀ (f k : Nat) (l : Int), k ≤ c.sl.length → (giveF c p f k l).1 ≤ c.sl.length
  | 0, k, l, h => h
  | f + 1, k, l, h => by
    unfold giveF
    split
    · rename_i h1
      exact giveF_le f (k + 1) (l - 1) (by omega)
    · exact h
theorem giveF_left {c : Cu} {p : Int} : ∀ (f k : Nat) (l : Int), l - f ≤ (giveF c p f k l).2 ∧ (giveF c p f k l).2 ≤ l
  | 0, k, l => ⟨by show l - ((0 : Nat) : Int) ≤ l; omega, Int.le_refl _⟩
  | f + 1, k, l => by
    unfold giveF
    split
    · have := giveF_left (c := c) (p := p) f (k + 1) (l - 1)
      omega
    · show l - ((f + 1 : Nat) : Int) ≤ l ∧ l ≤ l
      omega
/-- what is left when the last m curves have taken their part -/
def leftD (cs : Nat → Cu) (p : Int) (n : Nat) (l0 : Int) : Nat → Int
  | 0 => l0
  | m + 1 => (give (cs (n - 1 - m)) p (climK (cs (n - 1 - m)) p) (leftD cs p n l0 m)).2
/-- where the j-th curve ends -/
def kD (cs : Nat → Cu) (p : Int) (n : Nat) (l0 : Int) (j : Nat) : Nat := (give (cs j) p (climK (cs j) p) (leftD cs p n l0 (n - 1 - j))).1
theorem kD_le (cs : Nat → Cu) (p : Int) (n : Nat) (l0 : Int) (j : Nat) : kD cs p n l0 j ≤ (cs j).sl.length := giveF_le _ _ _ (climK_le _ _)
theorem leftD_range (cs : Nat → Cu) (p : Int) (n : Nat) (l0 : Int) (hc : ∀ j, j < n → (cs j).sl.length ≤ 64) : ∀ m, m ≤ n → l0 - 64 * m ≤ leftD cs p n l0 m ∧ leftD cs p n l0 m ≤ l0
  | 0, _ => by show l0 - 64 * ((0 : Nat) : Int) ≤ l0 ∧ l0 ≤ l0; omega
  | m + 1, hm => by
    have ih := leftD_range cs p n l0 hc m (by omega)
    have h1 := giveF_left (c := cs (n - 1 - m)) (p := p) ((cs (n - 1 - m)).sl.length - climK (cs (n - 1 - m)) p) (climK (cs (n - 1 - m)) p) (leftD cs p n l0 m)
    have h2 := hc (n - 1 - m) (by omega)
    show l0 - 64 * ((m + 1 : Nat) : Int) ≤ (giveF _ _ _ _ _).2 ∧ (giveF _ _ _ _ _).2 ≤ l0
    omega

theorem catL_length (cs : Nat → Cu) : ∀ k, ((catL cs k).length : Int) = sumTo (fun i => (cs i).fr + ((cs i).sl.length : Int)) k - sumTo (fun i => (cs i).fr) k
  | 0 => by simp [catL, sumTo]
  | k + 1 => by
    have ih := catL_length cs k
    unfold catL sumTo
    rw [List.length_append]
    omega
noncomputable def splitLo (cs : Nat → Cu) (n : Nat) : Int := sumTo (fun i => (cs i).fr) n
noncomputable def priceV (cs : Nat → Cu) (n : Nat) (total : Int) : Int := if 0 < total - splitLo cs n then iA (sortI (catL cs n)) (total - splitLo cs n - 1).toNat else -1048576
noncomputable def leftV (cs : Nat → Cu) (n : Nat) (total : Int) : Int := total - sumTo (fun j => (cs j).fr + (climK (cs j) (priceV cs n total) : Int)) n
noncomputable def kV (cs : Nat → Cu) (n : Nat) (total : Int) (j : Nat) : Nat := kD cs (priceV cs n total) n (leftV cs n total) j
noncomputable def splitX (cs : Nat → Cu) (n : Nat) (total : Int) : List Int := if splitE cs n total = 0 then (List.range n).map (fun j => (cs j).fr + (kV cs n total j : Int)) else []
noncomputable def splitC (cs : Nat → Cu) (n : Nat) (total : Int) : Int := if splitE cs n total = 0 then sumTo (fun j => valK (cs j) (kV cs n total j)) n else 0
noncomputable def splitP (cs : Nat → Cu) (n : Nat) (total : Int) : Int := if splitE cs n total = 0 then priceV cs n total else 0
def SplitPost (cs : Nat → Cu) (n : Nat) (total : Int) (w : World) (e : Ending) (w' : World) : Prop :=
  ∃ A m cap, e = .returned (.tuple #[.slice A m cap, .int .i64 (splitC cs n total), .int .i64 (splitP cs n total), .int .i64 (splitE cs n total)]) ∧ IntsAt w'.heap.size w' A m (splitX cs n total) ∧ Below w.heap.size w w'

theorem info61 : (Try.prog.info? 61).map (fun i => (i.zero, i.size, i.bytes)) = some (some (.agg #[.int .i64 0, .int .i64 0, .slice none 0 0, .int .i64 0, .int .i64 0]), 5, 56) := by kernel_rfl
theorem run_walkers (W : World) {n : Nat} (hn : n ≤ 1000) : (Instr.makeSlice 83 (.int .i64 (n : Int)) (.int .i64 (n : Int))).run Try.prog W = .ok (.slice (some ⟨W.heap.size, 0, none⟩) n n) (W.alloc (.cells (madeCells #[.int .i64 0, .int .i64 0, .slice none 0 0, .int .i64 0, .int .i64 0] (n * 5)) 61)) := by
  obtain ⟨i0, hi0, hz0, hz1, hz2⟩ := info_parts info61
  have h := run_make (P := Try.prog) W 83 61 i0 _ Try.underlying83 hi0 hz0 .i64 .i64 (n : Int) (n : Int) (by omega) (by omega) (by rw [hz2]; omega) (by omega)
  rw [hz1, Int.toNat_natCast] at h
  exact h
theorem room_new (W : World) (n : Nat) : RoomW (W.alloc (.cells (madeCells #[.int .i64 0, .int .i64 0, .slice none 0 0, .int .i64 0, .int .i64 0] (n * 5)) 61)) W.heap.size n := by
  have hh := heap_alloc_new W (.cells (madeCells #[.int .i64 0, .int .i64 0, .slice none 0 0, .int .i64 0, .int .i64 0] (n * 5)) 61)
  refine ⟨by rw [World.size_alloc]; exact Nat.lt_succ_self _, fun o ho => ⟨?_, frozen_of_heap' hh o⟩⟩
  rw [cell_of_heap' hh o, Array.getElem?_eq_getElem (by rw [size_madeCells]; exact ho)]
  exact ⟨_, rfl⟩
theorem list_of_iA {T : List Int} {n : Nat} {f : Nat → Int} (hl : T.length = n) (h : ∀ j, j < n → iA T j = f j) : T = (List.range n).map f := by
  refine List.ext_getElem (by simp [hl]) fun j h1 h2 => ?_
  have := h j (by omega)
  rw [iA_get h1] at this
  simp [this]

end Go.Proofs.Ytdepnhnpklbmiaa
/- Contract of Join. -/
namespace Go.Proofs.Ytdepnhnpklbmiaa
open Go.RowKit Go.Sort

/-- a curve and an error, as a result in memory of its own -/
def CuPost (v : Cu × Int) (w : World) (e : Ending) (w' : World) : Prop :=
  ∃ A n cap, e = .returned (.tuple #[.agg #[.int .i64 v.1.fr, .int .i64 v.1.fst, .slice A n cap], .int .i64 v.2]) ∧ w'.ownsRow w.heap.size 3 1 (.slice A n cap) n (v.1.sl.map (Value.int .i64)) ∧ Below w.heap.size w w'
def res2 (c : Cu) : Cu × Int := if okC c = true then (c, 0) else (Cu.zero, 4)
def joinV (a b : Cu) : Cu × Int := if okC a = true ∧ okC b = true then res2 ⟨a.fr + b.fr, a.fst + b.fst, sortI (a.sl ++ b.sl)⟩ else (Cu.zero, 2)

theorem results28 {W : World} {g : Nat} {a b c : Value} {t : TypeId} (h : W.heap[g]? = some (.cells #[a, b, c] t (0, 0))) (x0 x1 x2 x3 y : Value) (rest : List Value) :
    (results Try.f28 (x0 :: x1 :: x2 :: x3 :: .pointer (some ⟨g, 0, none⟩) :: y :: rest).toArray).run Try.prog W = .ok (.tuple #[.agg #[a, b, c], y]) W := by
  have h0 := cell_of_heap' h 0
  have h1 := cell_of_heap' h 1
  have h2 := cell_of_heap' h 2
  simp at h0 h1 h2
  simp [results, Try.results28, go_sem, h0, h1, h2]
theorem own_base {W : World} {b b' : Nat} {e : TypeId} {size n : Nat} {v : Value} {xs : List Value} (h : W.ownsRow b' e size v n xs) (hb : b ≤ b') : W.ownsRow b e size v n xs :=
  ⟨h.1, h.2.imp id fun ⟨g, cap, cur, h1, h2, h3⟩ => ⟨g, cap, cur, h1, Nat.le_trans hb h2, h3⟩⟩
theorem own_below {W W' : World} {b : Nat} {e : TypeId} {size n : Nat} {v : Value} {xs : List Value} (h : W.ownsRow b e size v n xs) (hb : Below W.heap.size W W') : W'.ownsRow b e size v n xs :=
  World.ownsRow.kept h (row := none) ⟨hb.os, hb.tape, hb.output, hb.size, fun k hk _ => hb.block k hk⟩ (by cases hv : v.ownBlock with | none => exact .inl rfl | some g => exact .inr (by simp))
theorem own_set3 {W : World} {b g : Nat} {e : TypeId} {size n : Nat} {v : Value} {xs : List Value} (h : W.ownsRow b e size v n xs) (hg : g < b) (x y z : Value) : (set3 W g x y z).ownsRow b e size v n xs :=
  RowKit.ownsRow_setCell_below (RowKit.ownsRow_setCell_below (RowKit.ownsRow_setCell_below h (a := ⟨g, 0, none⟩) hg x) (a := ⟨g, 1, none⟩) hg y) (a := ⟨g, 2, none⟩) hg z
theorem ints_of_own {W : World} {base k c : Nat} {a : Option Addr} {xs : List Int} (h : W.ownsRow base 3 1 (.slice a k c) k (xs.map (Value.int .i64))) : IntsAt W.heap.size W a k xs := by
  refine ⟨by simpa using h.1, ?_⟩
  rcases h.2 with ⟨_, h0⟩ | ⟨g, cap, cur, hv, hb, hg, hr⟩
  · exact .inl h0
  · injection hv with h1 h2 h3
    subst h1
    have hl : xs.length = k := by simpa using h.1
    refine .inr ⟨g, 0, rfl, (Array.getElem?_eq_some_iff.1 hg).1, fun i hi => ?_⟩
    rw [Nat.zero_add, h.cellAt i (by omega), List.getElem?_map, List.getElem?_eq_getElem (by omega), iA_get (by omega)]
    rfl

set_option maxHeartbeats 8000000 in
set_option maxRecDepth 100000 in
theorem Join_any (ca cb : Cu) (A1 : Option Addr) (n1 k1 : Nat) (A2 : Option Addr) (n2 k2 : Nat) (w : World) (ha : CuAt w.heap.size w ca A1 n1 k1) (hb : CuAt w.heap.size w cb A2 n2 k2) (h1 : n1 ≤ 9223372036854775807) (h2 : n2 ≤ 9223372036854775807) :
    Calls Try.prog 28 #[.agg #[.int .i64 ca.fr, .int .i64 ca.fst, .slice A1 n1 k1], .agg #[.int .i64 cb.fr, .int .i64 cb.fst, .slice A2 n2 k2]] w (CuPost (joinV ca cb) w) := by
  have mixed := mixedOrders
  obtain ⟨W1, hW1⟩ : ∃ W1, ((w.alloc (.cells #[.int .i64 ca.fr, .int .i64 ca.fst, .slice A1 n1 k1] 24)).alloc (.cells #[.int .i64 cb.fr, .int .i64 cb.fst, .slice A2 n2 k2] 24)).alloc (.cells #[.int .i64 0, .int .i64 0, .slice none 0 0] 24) = W1 := ⟨_, rfl⟩
  obtain ⟨p, hp⟩ : ∃ p, w.heap.size = p := ⟨_, rfl⟩
  have hG1 : Gr w W1 := by rw [← hW1]; exact (((Gr.refl w).alloc _).alloc _).alloc _
  have hs1 : W1.heap.size = p + 3 := by rw [← hW1, ← hp]; simp
  have ua : W1.heap[p]? = some (.cells #[.int .i64 ca.fr, .int .i64 ca.fst, .slice A1 n1 k1] 24 (0, 0)) := by
    rw [← hW1, ← hp]
    exact (Below.heap_alloc _ _ _ (by simp; omega)).trans ((Below.heap_alloc _ _ _ (by simp)).trans (heap_alloc_new w _))
  have ub : W1.heap[p + 1]? = some (.cells #[.int .i64 cb.fr, .int .i64 cb.fst, .slice A2 n2 k2] 24 (0, 0)) := by
    rw [← hW1, ← hp]
    refine (Below.heap_alloc _ _ _ (by simp)).trans ?_
    simpa using heap_alloc_new (w.alloc (.cells #[.int .i64 ca.fr, .int .i64 ca.fst, .slice A1 n1 k1] 24)) (.cells #[.int .i64 cb.fr, .int .i64 cb.fst, .slice A2 n2 k2] 24)
  have ur : W1.heap[p + 1 + 1]? = some (.cells #[.int .i64 0, .int .i64 0, .slice none 0 0] 24 (0, 0)) := by
    rw [← hW1, ← hp]
    simpa using heap_alloc_new ((w.alloc (.cells #[.int .i64 ca.fr, .int .i64 ca.fst, .slice A1 n1 k1] 24)).alloc (.cells #[.int .i64 cb.fr, .int .i64 cb.fst, .slice A2 n2 k2] 24)) (.cells #[.int .i64 0, .int .i64 0, .slice none 0 0] 24)
  have HA := hide ha
  have HBB := hide hb
  have HG1 := hide hG1
  have HVA := hide (Valid_any ca A1 n1 k1 W1 (ha.sl.gr hG1) (by omega))
  have HVB := hide (fun W2 (hg : Gr W1 W2) => Valid_any cb A2 n2 k2 W2 ((hb.sl.gr hG1).gr hg) (by omega))
  have HUA := hide ua
  have HUB := hide ub
  have HUR := hide ur
  have a0 := cell_of_heap' ua 0
  have a1 := cell_of_heap' ua 1
  have a2 := cell_of_heap' ua 2
  simp at a0 a1 a2
  clear ha hb hG1 ua ub ur
  go_enter Try.func28, Try.ntmps28
  go_wp2_with fail
  try rw [hp]
  refine HVA.out.mono ?_
  rintro e w2 ⟨rfl, hG2⟩
  have HG2 := hide hG2
  have hb2 := (hG2.block (k := p + 1) (by omega)).trans HUB.out
  have b0 := cell_of_heap' hb2 0
  have b1 := cell_of_heap' hb2 1
  have b2 := cell_of_heap' hb2 2
  simp at b0 b1 b2
  have hr2 := (hG2.block (k := p + 1 + 1) (by omega)).trans HUR.out
  have hs2 : p + 3 ≤ w2.heap.size := by have := hG2.size; omega
  have HVB2 := hide (HVB.out w2 hG2)
  have hz2 := hide hr2
  cases hva : okC ca
  · have HJ : Hid (joinV ca cb = (Cu.zero, 2)) := if_neg (by rw [hva]; simp)
    have r0 := cell_of_heap' hr2 0
    have r1 := cell_of_heap' hr2 1
    have r2 := cell_of_heap' hr2 2
    have y0 := frozen_of_heap' hr2 0
    have y1 := frozen_of_heap' hr2 1
    have y2 := frozen_of_heap' hr2 2
    simp at r0 r1 r2
    have HB2 : Hid (Below w.heap.size w w2) := HG1.out.below.trans (hG2.below.mono HG1.out.size)
    clear hr2 hb2 hG2 HVB2 HVB HVA hva
    go_wp2
    refine bodyPost_ret (results28 (set3_heap hz2.out _ _ _) _ _ _ _ _ _) rfl ?_
    refine ⟨none, 0, 0, by rw [HJ.out] <;> rfl, ?_, set3_below HB2.out (by omega) _ _ _⟩
    rw [HJ.out]
    exact World.ownsRow_nil _ _ _ _
  · clear hb2 hG2 a0 a1 a2
    go_wp2_with fail
    refine HVB2.out.mono ?_
    rintro e w3 ⟨rfl, hG3⟩
    cases hvb : okC cb
    · have HJ : Hid (joinV ca cb = (Cu.zero, 2)) := if_neg (by rw [hvb]; simp)
      have hr3 := (hG3.block (k := p + 1 + 1) (by omega)).trans hr2
      have HZ3 := hide hr3
      have r0 := cell_of_heap' hr3 0
      have r1 := cell_of_heap' hr3 1
      have r2 := cell_of_heap' hr3 2
      have y0 := frozen_of_heap' hr3 0
      have y1 := frozen_of_heap' hr3 1
      have y2 := frozen_of_heap' hr3 2
      simp at r0 r1 r2
      have HB3 : Hid (Below w.heap.size w w3) := HG1.out.below.trans ((HG2.out.trans hG3).below.mono HG1.out.size)
      clear hr2 hr3 hG3 HVB2 HVB HVA hva hvb
      go_wp2
      refine bodyPost_ret (results28 (set3_heap HZ3.out _ _ _) _ _ _ _ _ _) rfl ?_
      refine ⟨none, 0, 0, by rw [HJ.out] <;> rfl, ?_, set3_below HB3.out (by omega) _ _ _⟩
      rw [HJ.out]
      exact World.ownsRow_nil _ _ _ _
    · have hG23 := HG2.out.trans hG3
      have hza := (hG23.block (k := p) (by omega)).trans HUA.out
      have hzb := (hG23.block (k := p + 1) (by omega)).trans HUB.out
      have hzr := (hG23.block (k := p + 1 + 1) (by omega)).trans HUR.out
      have hs3 : p + 3 ≤ w3.heap.size := by have := hG3.size; omega
      have a0 := cell_of_heap' hza 0
      have a1 := cell_of_heap' hza 1
      have a2 := cell_of_heap' hza 2
      have d0 := cell_of_heap' hzb 0
      have d1 := cell_of_heap' hzb 1
      have d2 := cell_of_heap' hzb 2
      simp at a0 a1 a2 d0 d1 d2
      have HZR := hide hzr
      have hfa := okC_fr hva
      have hfb := okC_fr hvb
      have hga := inB_true (okC_true hva).2.1
      have hgb := inB_true (okC_true hvb).2.1
      have hw1 : IntKind.i64.wrap (ca.fr + cb.fr) = ca.fr + cb.fr := by rw [IntKind.wrap_i64]; omega
      have hw2 : IntKind.i64.wrap (ca.fst + cb.fst) = ca.fst + cb.fst := by rw [IntKind.wrap_i64]; omega
      have HALL : Hid (∀ W2 blk, Below w3.heap.size w3 W2 → blk < W2.heap.size → W2.heap[blk]? = some (.cells #[.int .i64 ca.fr, .int .i64 ca.fst, .slice A1 n1 k1, .int .i64 cb.fr, .int .i64 cb.fst, .slice A2 n2 k2] 24 (0, 0)) → Calls Try.prog 66 #[.slice (some ⟨blk, 0, none⟩) 2 2] W2 (AllPost (sortI (ca.sl ++ cb.sl)) W2)) := fun W2 blk hb2 hlt hh => by
        have hbw : Below w.heap.size w W2 := (HG1.out.below.trans (hG23.below.mono HG1.out.size)).trans (hb2.mono (by have := HG1.out.size; have := hG23.size; omega))
        have z := fun i => cell_of_heap' hh i
        have z0 := z 0
        have z1 := z 1
        have z2 := z 2
        have z3 := z 3
        have z4 := z 4
        have z5 := z 5
        simp at z0 z1 z2 z3 z4 z5
        have hcv : CurvesAt W2.heap.size W2 (some ⟨blk, 0, none⟩) 2 (fun i => if i = 0 then ca else cb) (fun i => if i = 0 then (A1, n1, k1) else (A2, n2, k2)) := by
          refine ⟨.inr ⟨blk, 0, rfl, hlt, fun i hi => ?_⟩, fun i hi => ?_⟩
          · rcases (show i = 0 ∨ i = 1 by omega) with rfl | rfl
            · exact ⟨z0, z1, z2⟩
            · exact ⟨z3, z4, z5⟩
          · rcases (show i = 0 ∨ i = 1 by omega) with rfl | rfl
            · exact HA.out.now hbw (Nat.le_refl _)
            · exact HBB.out.now hbw (Nat.le_refl _)
        have h := allSlopes_any (some ⟨blk, 0, none⟩) 2 2 _ _ W2 hcv (by omega) (fun i hi => by
          rcases (show i = 0 ∨ i = 1 by omega) with rfl | rfl
          · exact (okC_true hva).2.2.1
          · exact (okC_true hvb).2.2.1)
        exact h
      have HRES : Hid (∀ W2 W3 a c, Below w3.heap.size w3 W2 → W3.ownsRow W2.heap.size 3 1 (.slice a (sortI (ca.sl ++ cb.sl)).length c) (sortI (ca.sl ++ cb.sl)).length ((sortI (ca.sl ++ cb.sl)).map (Value.int .i64)) → Below W2.heap.size W2 W3 → Calls Try.prog 60 #[.agg #[.int .i64 (ca.fr + cb.fr), .int .i64 (ca.fst + cb.fst), .slice a (sortI (ca.sl ++ cb.sl)).length c]] W3 fun e w' => e = .returned (resV ⟨ca.fr + cb.fr, ca.fst + cb.fst, sortI (ca.sl ++ cb.sl)⟩ a (sortI (ca.sl ++ cb.sl)).length c) ∧ Below W3.heap.size W3 w') := fun W2 W3 a c hb2 ho hb3 =>
        result_any ⟨ca.fr + cb.fr, ca.fst + cb.fst, sortI (ca.sl ++ cb.sl)⟩ a _ c W3 (ints_of_own ho) (by rw [sortI_length, List.length_append]; have := (okC_true hva).2.2.1; have := (okC_true hvb).2.2.1; omega)
      have HB3 : Hid (Below w.heap.size w w3) := HG1.out.below.trans (hG23.below.mono HG1.out.size)
      have HJ : Hid (joinV ca cb = res2 ⟨ca.fr + cb.fr, ca.fst + cb.fst, sortI (ca.sl ++ cb.sl)⟩) := if_pos ⟨hva, hvb⟩
      generalize sortI (ca.sl ++ cb.sl) = zs at HALL HRES HJ
      clear hza hzb hzr hG3 hG23 b0 b1 b2 hr2 HVA HVB HVB2 hfa hfb hga hgb hva hvb
      have SB : Hid (∀ w', Below w3.heap.size w3 w' → w'.cell? ⟨p, 0, none⟩ = some (.int .i64 ca.fr) ∧ w'.cell? ⟨p, 1, none⟩ = some (.int .i64 ca.fst) ∧ w'.cell? ⟨p, 2, none⟩ = some (.slice A1 n1 k1) ∧ w'.cell? ⟨p + 1, 0, none⟩ = some (.int .i64 cb.fr) ∧ w'.cell? ⟨p + 1, 1, none⟩ = some (.int .i64 cb.fst) ∧ w'.cell? ⟨p + 1, 2, none⟩ = some (.slice A2 n2 k2) ∧ (∃ v, w'.cell? ⟨p + 1 + 1, 0, none⟩ = some v) ∧ (∃ v, w'.cell? ⟨p + 1 + 1, 1, none⟩ = some v) ∧ (∃ v, w'.cell? ⟨p + 1 + 1, 2, none⟩ = some v) ∧ w'.frozen? ⟨p + 1 + 1, 0, none⟩ = false ∧ w'.frozen? ⟨p + 1 + 1, 1, none⟩ = false ∧ w'.frozen? ⟨p + 1 + 1, 2, none⟩ = false) := fun w' hb => by
        have hz := (hb.block (p + 1 + 1) (by omega)).trans HZR.out
        have x0 := cell_of_heap' hz 0
        have x1 := cell_of_heap' hz 1
        have x2 := cell_of_heap' hz 2
        simp at x0 x1 x2
        exact ⟨(hb.cell (p := ⟨p, 0, none⟩) (by show p < _; omega)).trans a0, (hb.cell (p := ⟨p, 1, none⟩) (by show p < _; omega)).trans a1, (hb.cell (p := ⟨p, 2, none⟩) (by show p < _; omega)).trans a2, (hb.cell (p := ⟨p + 1, 0, none⟩) (by show p + 1 < _; omega)).trans d0, (hb.cell (p := ⟨p + 1, 1, none⟩) (by show p + 1 < _; omega)).trans d1, (hb.cell (p := ⟨p + 1, 2, none⟩) (by show p + 1 < _; omega)).trans d2,
          ⟨_, x0⟩, ⟨_, x1⟩, ⟨_, x2⟩, frozen_of_heap' hz 0, frozen_of_heap' hz 1, frozen_of_heap' hz 2⟩
      have SS : Hid (∀ w' x y z, Below w3.heap.size w3 w' → (fun w' => w'.cell? ⟨p, 0, none⟩ = some (.int .i64 ca.fr) ∧ w'.cell? ⟨p, 1, none⟩ = some (.int .i64 ca.fst) ∧ w'.cell? ⟨p, 2, none⟩ = some (.slice A1 n1 k1) ∧ w'.cell? ⟨p + 1, 0, none⟩ = some (.int .i64 cb.fr) ∧ w'.cell? ⟨p + 1, 1, none⟩ = some (.int .i64 cb.fst) ∧ w'.cell? ⟨p + 1, 2, none⟩ = some (.slice A2 n2 k2) ∧ (∃ v, w'.cell? ⟨p + 1 + 1, 0, none⟩ = some v) ∧ (∃ v, w'.cell? ⟨p + 1 + 1, 1, none⟩ = some v) ∧ (∃ v, w'.cell? ⟨p + 1 + 1, 2, none⟩ = some v) ∧ w'.frozen? ⟨p + 1 + 1, 0, none⟩ = false ∧ w'.frozen? ⟨p + 1 + 1, 1, none⟩ = false ∧ w'.frozen? ⟨p + 1 + 1, 2, none⟩ = false) (((w'.setCell ⟨p + 1 + 1, 0, none⟩ x).setCell ⟨p + 1 + 1, 1, none⟩ y).setCell ⟨p + 1 + 1, 2, none⟩ z)) := fun w' x y z hb => by
        obtain ⟨h0, h1, h2, h3, h4, h5, ⟨v0, h6⟩, ⟨v1, h7⟩, ⟨v2, h8⟩, h9, h10, h11⟩ := SB.out w' hb
        have hz := (hb.block (p + 1 + 1) (by omega)).trans HZR.out
        have hz2 := set3_heap hz x y z
        unfold set3 at hz2
        have oth : ∀ q o, q ≠ p + 1 + 1 → (((w'.setCell ⟨p + 1 + 1, 0, none⟩ x).setCell ⟨p + 1 + 1, 1, none⟩ y).setCell ⟨p + 1 + 1, 2, none⟩ z).cell? ⟨q, o, none⟩ = w'.cell? ⟨q, o, none⟩ := fun q o hq => by
          rw [World.cell?_setCell_other _ _ _ _ (by intro e; simp only [Addr.mk.injEq] at e; omega), World.cell?_setCell_other _ _ _ _ (by intro e; simp only [Addr.mk.injEq] at e; omega), World.cell?_setCell_other _ _ _ _ (by intro e; simp only [Addr.mk.injEq] at e; omega)]
        have x0 := cell_of_heap' hz2 0
        have x1 := cell_of_heap' hz2 1
        have x2 := cell_of_heap' hz2 2
        simp at x0 x1 x2
        exact ⟨(oth p 0 (by omega)).trans h0, (oth p 1 (by omega)).trans h1, (oth p 2 (by omega)).trans h2, (oth (p + 1) 0 (by omega)).trans h3, (oth (p + 1) 1 (by omega)).trans h4, (oth (p + 1) 2 (by omega)).trans h5, ⟨_, x0⟩, ⟨_, x1⟩, ⟨_, x2⟩, frozen_of_heap' hz2 0, frozen_of_heap' hz2 1, frozen_of_heap' hz2 2⟩
      have HS3 := hide hs3
      clear hs2 HUA HUB HUR HG1 HG2
      by_cases hok : okC ⟨ca.fr + cb.fr, ca.fst + cb.fst, zs⟩ = true
      · have HV : Hid (∀ a c, resV ⟨ca.fr + cb.fr, ca.fst + cb.fst, zs⟩ a zs.length c = .tuple #[.agg #[.int .i64 (ca.fr + cb.fr), .int .i64 (ca.fst + cb.fst), .slice a zs.length c], .int .i64 0]) := fun a c => if_pos hok
        have HJ2 : Hid (joinV ca cb = (⟨ca.fr + cb.fr, ca.fst + cb.fst, zs⟩, 0)) := by show _ = _; rw [HJ.out, res2, if_pos hok]
        have HRES2 : Hid (∀ W2 W3 a c, Below w3.heap.size w3 W2 → W3.ownsRow W2.heap.size 3 1 (.slice a zs.length c) zs.length (zs.map (Value.int .i64)) → Below W2.heap.size W2 W3 → Calls Try.prog 60 #[.agg #[.int .i64 (ca.fr + cb.fr), .int .i64 (ca.fst + cb.fst), .slice a zs.length c]] W3 fun e w' => e = .returned (.tuple #[.agg #[.int .i64 (ca.fr + cb.fr), .int .i64 (ca.fst + cb.fst), .slice a zs.length c], .int .i64 0]) ∧ Below W3.heap.size W3 w') := fun W2 W3 a c h1 h2 h3 => by
          have := HRES.out W2 W3 a c h1 h2 h3
          rw [HV.out] at this
          exact this
        clear hok HRES HJ HV
        go_wp2_with fail
        obtain ⟨-, -, -, -, -, -, ⟨r0, e0⟩, ⟨r1, e1⟩, ⟨r2, e2⟩, y0, y1, y2⟩ := SB.out w3 (Below.refl _ _)
        have hbd : Below w3.heap.size w3 (w3.alloc (.cells #[.int .i64 ca.fr, .int .i64 ca.fst, .slice A1 n1 k1, .int .i64 cb.fr, .int .i64 cb.fst, .slice A2 n2 k2] 24)).drew := ((Below.refl w3.heap.size w3).alloc (Nat.le_refl _) _).drew
        have HSD := hide (SB.out _ hbd)
        have HBD := hide hbd
        obtain ⟨-, -, -, -, -, -, -, -, -, fz0, fz1, fz2⟩ := HSD.out
        have hsd : w3.heap.size ≤ (w3.alloc (.cells #[.int .i64 ca.fr, .int .i64 ca.fst, .slice A1 n1 k1, .int .i64 cb.fr, .int .i64 cb.fst, .slice A2 n2 k2] 24)).drew.heap.size := by show w3.heap.size ≤ (w3.alloc _).heap.size; rw [World.size_alloc]; exact Nat.le_succ _
        have HSZ := hide hsd
        have HAL := hide (HALL.out _ w3.heap.size hbd (by show w3.heap.size < (w3.alloc _).heap.size; rw [World.size_alloc]; exact Nat.lt_succ_self _) (heap_alloc_new w3 _))
        clear hbd hsd
        go_region_held3 (fun w' => w'.cell? ⟨p, 0, none⟩ = some (.int .i64 ca.fr) ∧ w'.cell? ⟨p, 1, none⟩ = some (.int .i64 ca.fst) ∧ w'.cell? ⟨p, 2, none⟩ = some (.slice A1 n1 k1) ∧ w'.cell? ⟨p + 1, 0, none⟩ = some (.int .i64 cb.fr) ∧ w'.cell? ⟨p + 1, 1, none⟩ = some (.int .i64 cb.fst) ∧ w'.cell? ⟨p + 1, 2, none⟩ = some (.slice A2 n2 k2) ∧ (∃ v, w'.cell? ⟨p + 1 + 1, 0, none⟩ = some v) ∧ (∃ v, w'.cell? ⟨p + 1 + 1, 1, none⟩ = some v) ∧ (∃ v, w'.cell? ⟨p + 1 + 1, 2, none⟩ = some v) ∧ w'.frozen? ⟨p + 1 + 1, 0, none⟩ = false ∧ w'.frozen? ⟨p + 1 + 1, 1, none⟩ = false ∧ w'.frozen? ⟨p + 1 + 1, 2, none⟩ = false)
          (first | go_keep | exact ⟨s0, s1, s2, s3, s4, s5, ⟨_, s6⟩, ⟨_, s7⟩, ⟨_, s8⟩, s9, s10, s11⟩ | exact SB.out _ hb4 | exact SB.out _ hb5 | exact SS.out _ _ _ _ hb5 | exact HSD.out)
          (first | (go_at_call 66; (with_reducible refine HAL.out.mono ?_); rintro e w4 ⟨a4, c4, rfl, ho4, hb4'⟩; have hb4 := HBD.out.trans (hb4'.mono HSZ.out); obtain ⟨m0, m1, m2, m3, m4, m5, ⟨v6, m6⟩, ⟨v7, m7⟩, ⟨v8, m8⟩, m9, m10, m11⟩ := SB.out _ hb4) | (go_at_call 60; (with_reducible refine (HRES2.out _ _ _ _ HBD.out ho4 hb4').mono ?_); rintro e w5 ⟨rfl, hb5'⟩; have hb5 := hb4.trans (hb5'.mono hb4.size); obtain ⟨l0, l1, l2, l3, l4, l5, ⟨v9, l6⟩, ⟨v10, l7⟩, ⟨v11, l8⟩, l9, l10, l11⟩ := SB.out _ hb5; obtain ⟨s0, s1, s2, s3, s4, s5, ⟨v12, s6⟩, ⟨v13, s7⟩, ⟨v14, s8⟩, s9, s10, s11⟩ := SS.out w5 (.int .i64 (ca.fr + cb.fr)) (.int .i64 (ca.fst + cb.fst)) (.slice a4 zs.length c4) hb5))
        have HB5 : Hid (Below w.heap.size w w5) := HB3.out.trans (hb5.mono HB3.out.size)
        have HO5 : Hid (w5.ownsRow w3.heap.size 3 1 (.slice a4 zs.length c4) zs.length (zs.map (Value.int .i64))) := own_below (own_base ho4 HSZ.out) hb5'
        have HZ5 := hide ((hb5.block (p + 1 + 1) (by have := HS3.out; omega)).trans HZR.out)
        clear hb5 hb5' hb4 hb4' ho4 m0 m1 m2 m3 m4 m5 m6 m7 m8 m9 m10 m11 l0 l1 l2 l3 l4 l5 l6 l7 l8 l9 l10 l11 s0 s1 s2 s3 s4 s5 s6 s7 s8 s9 s10 s11
        go_wp2
        refine bodyPost_ret (results28 (set3_heap HZ5.out _ _ _) _ _ _ _ _ _) rfl ?_
        refine ⟨a4, zs.length, c4, by rw [HJ2.out] <;> rfl, ?_, set3_below HB5.out (by omega) _ _ _⟩
        rw [HJ2.out]
        exact own_base (own_set3 HO5.out (by have := HS3.out; omega) _ _ _) (by have := HS3.out; omega)
      · have HV : Hid (∀ a c, resV ⟨ca.fr + cb.fr, ca.fst + cb.fst, zs⟩ a zs.length c = .tuple #[.agg #[.int .i64 0, .int .i64 0, .slice none 0 0], .int .i64 4]) := fun a c => if_neg hok
        have HJ2 : Hid (joinV ca cb = (Cu.zero, 4)) := by show _ = _; rw [HJ.out, res2, if_neg hok]
        have HRES2 : Hid (∀ W2 W3 a c, Below w3.heap.size w3 W2 → W3.ownsRow W2.heap.size 3 1 (.slice a zs.length c) zs.length (zs.map (Value.int .i64)) → Below W2.heap.size W2 W3 → Calls Try.prog 60 #[.agg #[.int .i64 (ca.fr + cb.fr), .int .i64 (ca.fst + cb.fst), .slice a zs.length c]] W3 fun e w' => e = .returned (.tuple #[.agg #[.int .i64 0, .int .i64 0, .slice none 0 0], .int .i64 4]) ∧ Below W3.heap.size W3 w') := fun W2 W3 a c h1 h2 h3 => by
          have := HRES.out W2 W3 a c h1 h2 h3
          rw [HV.out] at this
          exact this
        clear hok HRES HJ HV
        go_wp2_with fail
        obtain ⟨-, -, -, -, -, -, ⟨r0, e0⟩, ⟨r1, e1⟩, ⟨r2, e2⟩, y0, y1, y2⟩ := SB.out w3 (Below.refl _ _)
        have hbd : Below w3.heap.size w3 (w3.alloc (.cells #[.int .i64 ca.fr, .int .i64 ca.fst, .slice A1 n1 k1, .int .i64 cb.fr, .int .i64 cb.fst, .slice A2 n2 k2] 24)).drew := ((Below.refl w3.heap.size w3).alloc (Nat.le_refl _) _).drew
        have HSD := hide (SB.out _ hbd)
        have HBD := hide hbd
        obtain ⟨-, -, -, -, -, -, -, -, -, fz0, fz1, fz2⟩ := HSD.out
        have hsd : w3.heap.size ≤ (w3.alloc (.cells #[.int .i64 ca.fr, .int .i64 ca.fst, .slice A1 n1 k1, .int .i64 cb.fr, .int .i64 cb.fst, .slice A2 n2 k2] 24)).drew.heap.size := by show w3.heap.size ≤ (w3.alloc _).heap.size; rw [World.size_alloc]; exact Nat.le_succ _
        have HSZ := hide hsd
        have HAL := hide (HALL.out _ w3.heap.size hbd (by show w3.heap.size < (w3.alloc _).heap.size; rw [World.size_alloc]; exact Nat.lt_succ_self _) (heap_alloc_new w3 _))
        clear hbd hsd
        go_region_held3 (fun w' => w'.cell? ⟨p, 0, none⟩ = some (.int .i64 ca.fr) ∧ w'.cell? ⟨p, 1, none⟩ = some (.int .i64 ca.fst) ∧ w'.cell? ⟨p, 2, none⟩ = some (.slice A1 n1 k1) ∧ w'.cell? ⟨p + 1, 0, none⟩ = some (.int .i64 cb.fr) ∧ w'.cell? ⟨p + 1, 1, none⟩ = some (.int .i64 cb.fst) ∧ w'.cell? ⟨p + 1, 2, none⟩ = some (.slice A2 n2 k2) ∧ (∃ v, w'.cell? ⟨p + 1 + 1, 0, none⟩ = some v) ∧ (∃ v, w'.cell? ⟨p + 1 + 1, 1, none⟩ = some v) ∧ (∃ v, w'.cell? ⟨p + 1 + 1, 2, none⟩ = some v) ∧ w'.frozen? ⟨p + 1 + 1, 0, none⟩ = false ∧ w'.frozen? ⟨p + 1 + 1, 1, none⟩ = false ∧ w'.frozen? ⟨p + 1 + 1, 2, none⟩ = false)
          (first | go_keep | exact ⟨s0, s1, s2, s3, s4, s5, ⟨_, s6⟩, ⟨_, s7⟩, ⟨_, s8⟩, s9, s10, s11⟩ | exact SB.out _ hb4 | exact SB.out _ hb5 | exact SS.out _ _ _ _ hb5 | exact HSD.out)
          (first | (go_at_call 66; (with_reducible refine HAL.out.mono ?_); rintro e w4 ⟨a4, c4, rfl, ho4, hb4'⟩; have hb4 := HBD.out.trans (hb4'.mono HSZ.out); obtain ⟨m0, m1, m2, m3, m4, m5, ⟨v6, m6⟩, ⟨v7, m7⟩, ⟨v8, m8⟩, m9, m10, m11⟩ := SB.out _ hb4) | (go_at_call 60; (with_reducible refine (HRES2.out _ _ _ _ HBD.out ho4 hb4').mono ?_); rintro e w5 ⟨rfl, hb5'⟩; have hb5 := hb4.trans (hb5'.mono hb4.size); obtain ⟨l0, l1, l2, l3, l4, l5, ⟨v9, l6⟩, ⟨v10, l7⟩, ⟨v11, l8⟩, l9, l10, l11⟩ := SB.out _ hb5; obtain ⟨s0, s1, s2, s3, s4, s5, ⟨v12, s6⟩, ⟨v13, s7⟩, ⟨v14, s8⟩, s9, s10, s11⟩ := SS.out w5 (.int .i64 0) (.int .i64 0) (.slice none 0 0) hb5))
        have HB5 : Hid (Below w.heap.size w w5) := HB3.out.trans (hb5.mono HB3.out.size)
        have HO5 : Hid (w5.ownsRow w3.heap.size 3 1 (.slice a4 zs.length c4) zs.length (zs.map (Value.int .i64))) := own_below (own_base ho4 HSZ.out) hb5'
        have HZ5 := hide ((hb5.block (p + 1 + 1) (by have := HS3.out; omega)).trans HZR.out)
        clear hb5 hb5' hb4 hb4' ho4 m0 m1 m2 m3 m4 m5 m6 m7 m8 m9 m10 m11 l0 l1 l2 l3 l4 l5 l6 l7 l8 l9 l10 l11 s0 s1 s2 s3 s4 s5 s6 s7 s8 s9 s10 s11
        go_wp2
        refine bodyPost_ret (results28 (set3_heap HZ5.out _ _ _) _ _ _ _ _ _) rfl ?_
        refine ⟨none, 0, 0, by rw [HJ2.out] <;> rfl, ?_, set3_below HB5.out (by omega) _ _ _⟩
        rw [HJ2.out]
        exact World.ownsRow_nil _ _ _ _

end Go.Proofs.Ytdepnhnpklbmiaa
