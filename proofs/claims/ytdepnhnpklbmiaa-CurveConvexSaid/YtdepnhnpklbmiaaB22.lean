/- Contracts of common at any operation on two numbers, and of domain. -/
import Derived.Test.YtdepnhnpklbmiaaB21
namespace Go.Proofs.Ytdepnhnpklbmiaa
open Go.RowKit Go.Sort

/-- a function of two numbers -/
def OpOf (tg : Nat) (op : Int → Int → Int) : Prop := (∀ args w, (callFunc tg args).run Try.prog w = .ok (.enter tg args) w) ∧ ∀ (x y : Int) (w : World), Calls Try.prog tg #[.int .i64 x, .int .i64 y] w fun e w' => e = .returned (.int .i64 (op x y)) ∧ w' = w
set_option maxHeartbeats 400000 in
theorem max_any (x y : Int) (w : World) : Calls Try.prog 80 #[.int .i64 x, .int .i64 y] w fun e w' => e = .returned (.int .i64 (max x y)) ∧ w' = w := by
  go_enter Try.func80, Try.ntmps80
  go_wp2
  go_ret
  exact ⟨rfl, rfl⟩
set_option maxHeartbeats 400000 in
theorem min_any (x y : Int) (w : World) : Calls Try.prog 81 #[.int .i64 x, .int .i64 y] w fun e w' => e = .returned (.int .i64 (min x y)) ∧ w' = w := by
  go_enter Try.func81, Try.ntmps81
  go_wp2
  go_ret
  exact ⟨rfl, rfl⟩
theorem op80 : OpOf 80 (fun x y => max x y) := ⟨enters_of Try.func80 (by kernel_rfl) rfl, max_any⟩
theorem op81 : OpOf 81 (fun x y => min x y) := ⟨enters_of Try.func81 (by kernel_rfl) rfl, min_any⟩
/-- what the first k come to -/
def accTo (op : Int → Int → Int) (f : Nat → Int) : Nat → Int
  | 0 => 0
  | 1 => f 0
  | k + 1 + 1 => op (accTo op f (k + 1)) (f (k + 1))

set_option maxHeartbeats 4000000 in
set_option maxRecDepth 100000 in
theorem common72_of (tg : Nat) (op : Int → Int → Int) (ht : OpOf tg op) (g : Nat) (f : Cu → Nat → Int) (hg : NumOf g f) (A : Option Addr) (n cap : Nat) (cs : Nat → Cu) (ss : Nat → Option Addr × Nat × Nat) (w : World) (hx : CurvesAt w.heap.size w A n cs ss) (hn : n ≤ 8) (h0 : 0 < n) (hcap : n ≤ cap)
    (hok : ∀ i, i < n → okC (cs i) = true) :
    Calls Try.prog 72 #[.slice A n cap, .func (.func g) #[] #[], .func (.func tg) #[] #[]] w fun e w' => e = .returned (.int .i64 (accTo op (fun i => f (cs i) (ss i).2.1) n)) ∧ Gr w w' := by
  have mixed := mixedOrders
  have HX := hide hx
  have HG := hide hg.2
  have eg := hg.1
  have et := ht.1
  have HTT := hide ht.2
  have HOK := hide hok
  obtain ⟨b, off, rfl, hb, c0, c1, c2⟩ := hx.at_ h0
  have hsl0 := (hx.cu 0 h0).sl.1
  have HH0 := okC_fr (hok 0 h0)
  have hl0 := (okC_true (hok 0 h0)).2.2.1
  have HC0 := hide (HG.out (cs 0) (ss 0).1 (ss 0).2.1 (ss 0).2.2 w HH0.1 HH0.2 (by omega))
  simp only [Nat.zero_mul, Nat.add_zero] at c0 c1 c2
  have HS0 : Hid (accTo op (fun i => f (cs i) (ss i).2.1) 1 = f (cs 0) (ss 0).2.1) := rfl
  have h0' : (0 : Int) < (n : Int) := by omega
  have h1' : (1 : Int) ≤ (n : Int) := by omega
  have hw1 : IntKind.i64.wrap ((n : Int) - 1) = ((n - 1 : Nat) : Int) := by rw [IntKind.wrap_i64]; omega
  clear hx hg hok ht
  by_cases hc1 : cap = 1
  · obtain rfl : n = 1 := by omega
    rw [HS0.out]
    subst hc1
    clear hw1
    generalize cs 0 = c at c0 c1 c2 HC0 HS0 ⊢
    generalize ss 0 = s at c2 HC0 HS0 ⊢
    go_enter Try.func72, Try.ntmps72
    go_wp2_with fail
    refine HC0.out.mono ?_
    rintro e w2 ⟨rfl, hG⟩
    have HG2 := hide hG
    clear hG c0 c1 c2 HC0
    go_wp2_with fail
    go_loopw [7, 18] (fun v i wr => v = .int .i64 (f c s.2.1) ∧ i = .int .i64 0 ∧ Hid (Gr w wr)) (fun _ _ _ => 0)
    case atStart => exact ⟨rfl, rfl, HG2⟩
    case round =>
      obtain ⟨rfl, rfl, HGr⟩ := hrel
      go_wp2
      go_ret
      exact ⟨rfl, HGr.out⟩
  · have hne : (cap - 1 = 0) = False := by simp; omega
    have HSS : Hid (∀ k, accTo op (fun i => f (cs i) (ss i).2.1) (k + 1 + 1) = op (accTo op (fun i => f (cs i) (ss i).2.1) (k + 1)) (f (cs (k + 1)) (ss (k + 1)).2.1)) := fun k => rfl
    generalize accTo op (fun i => f (cs i) (ss i).2.1) = sm at HS0 HSS ⊢
    rw [← HS0.out] at HC0
    go_enter Try.func72, Try.ntmps72
    go_wp2_with fail
    refine HC0.out.mono ?_
    rintro e w2 ⟨rfl, hG⟩
    have HG2 := hide hG
    clear hG c0 c1 c2 HC0
    go_wp2_with fail
    go_loopw [7, 18] (fun v i wr => ∃ j : Nat, j ≤ n - 1 ∧ v = .int .i64 (sm (j + 1)) ∧ i = .int .i64 j ∧ Hid (Gr w wr)) (fun _ i _ => n - 1 - (intOf i).toNat)
    case atStart => exact ⟨0, Nat.zero_le _, rfl, rfl, HG2⟩
    case round =>
      obtain ⟨j, hj, rfl, rfl, HGr⟩ := hrel
      by_cases hjn : j < n - 1
      · have hjn' : (j : Int) < ((n - 1 : Nat) : Int) := by omega
        have hj1 : j + 1 < n := by omega
        obtain ⟨b', off', e, hb', d0, d1, d2⟩ := HX.out.at_ hj1
        injection e with e
        injection e with e1 e2
        subst e1; subst e2
        have ea : off + (j + 1) * 3 = off + 3 + j * 3 := by omega
        rw [ea] at d0 d1 d2
        have x0 := (HGr.out.cell (p := ⟨b, off + 3 + j * 3, none⟩) hb).trans d0
        have x1 := (HGr.out.cell (p := ⟨b, off + 3 + j * 3 + 1, none⟩) hb).trans d1
        have x2 := (HGr.out.cell (p := ⟨b, off + 3 + j * 3 + 2, none⟩) hb).trans d2
        have hfr := okC_fr (HOK.out (j + 1) hj1)
        have hsl := (HX.out.cu (j + 1) hj1).sl.1
        have hln := (okC_true (HOK.out (j + 1) hj1)).2.2.1
        have HCJ := hide (fun w1 => HG.out (cs (j + 1)) (ss (j + 1)).1 (ss (j + 1)).2.1 (ss (j + 1)).2.2 w1 hfr.1 hfr.2 (by omega))
        have HSJ := hide (HSS.out j)
        have HPL := hide (fun w1 => HTT.out (sm (j + 1)) (f (cs (j + 1)) (ss (j + 1)).2.1) w1)
        clear d0 d1 d2 hfr hsl hln hb'
        rw [← HSJ.out] at HPL
        generalize cs (j + 1) = c at x0 x1 x2 HCJ HPL
        generalize ss (j + 1) = s at x2 HCJ HPL
        generalize f c s.2.1 = fv at HCJ HPL
        go_wp2_with fail
        refine (HCJ.out _).mono ?_
        rintro e w3 ⟨rfl, hG3⟩
        have HG3 : Hid (Gr w w3) := (HGr.out.alloc _).trans hG3
        clear hG3
        go_wp2_with fail
        refine (HPL.out _).mono ?_
        rintro e w4 ⟨rfl, rfl⟩
        go_wp2
        go_roundw
        case rel => exact ⟨j + 1, by omega, rfl, by go_num, HG3⟩
        case measure => simp [intOf]; omega
      · obtain rfl : j = n - 1 := by omega
        have hnn : n - 1 + 1 = n := by omega
        go_wp2
        go_ret
        exact ⟨ret_int (by rw [hnn]), HGr.out⟩


set_option maxHeartbeats 4000000 in
set_option maxRecDepth 100000 in
theorem domain_any (A : Option Addr) (cs : Nat → Cu) (ss : Nat → Option Addr × Nat × Nat) (w : World) (hx : CurvesAt w.heap.size w A 2 cs ss) (hok : ∀ i, i < 2 → okC (cs i) = true) :
    Calls Try.prog 62 #[.slice A 2 2] w fun e w' => e = .returned (.tuple #[.int .i64 (max (cs 0).fr (cs 1).fr), .int .i64 (min ((cs 0).fr + ((ss 0).2.1 : Nat)) ((cs 1).fr + ((ss 1).2.1 : Nat)))]) ∧ Gr w w' := by
  have mixed := mixedOrders
  have e49 : ∀ args w, (callFunc 49 args).run Try.prog w = .ok (.enter 49 args) w := num49.1
  have e50 : ∀ args w, (callFunc 50 args).run Try.prog w = .ok (.enter 50 args) w := num50.1
  have HC := hide (common72_of 80 _ op80 49 _ num49 A 2 2 cs ss w hx (by decide) (by decide) (by decide) hok)
  have HC : Hid (Calls Try.prog 72 #[.slice A 2 2, .func (.func 49) #[] #[], .func (.func 80) #[] #[]] w fun e w' => e = .returned (.int .i64 (max (cs 0).fr (cs 1).fr)) ∧ Gr w w') := HC
  have HD := hide (fun W' (hg : Gr w W') => common72_of 81 _ op81 50 _ num50 A 2 2 cs ss W' (hx.now hg.below (Nat.le_refl _)) (by decide) (by decide) (by decide) hok)
  have HD : Hid (∀ W', Gr w W' → Calls Try.prog 72 #[.slice A 2 2, .func (.func 50) #[] #[], .func (.func 81) #[] #[]] W' fun e w' => e = .returned (.int .i64 (min ((cs 0).fr + ((ss 0).2.1 : Nat)) ((cs 1).fr + ((ss 1).2.1 : Nat)))) ∧ Gr W' w') := HD
  clear hx hok
  generalize max (cs 0).fr (cs 1).fr = m1 at HC ⊢
  generalize min ((cs 0).fr + ((ss 0).2.1 : Nat)) ((cs 1).fr + ((ss 1).2.1 : Nat)) = m2 at HD ⊢
  go_enter Try.func62, Try.ntmps62
  go_wp2_with fail
  refine HC.out.mono ?_
  rintro e w2 ⟨rfl, hG2⟩
  have HD2 := hide (HD.out w2 hG2)
  have HG2 := hide hG2
  clear hG2 HC HD
  go_wp2_with fail
  refine HD2.out.mono ?_
  rintro e w3 ⟨rfl, hG3⟩
  have HG3 := hide (HG2.out.trans hG3)
  clear hG3 HD2
  go_wp2
  go_ret2
  exact ⟨rfl, HG3.out⟩

end Go.Proofs.Ytdepnhnpklbmiaa
