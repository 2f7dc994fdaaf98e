/- The walk of the law on looks. -/
import Derived.Test.YtikfiofjhmeheaaC6
import Derived.Test.YtikfiofjhmeheaaV0
namespace Go.Proofs.Ytikfiofjhmeheaa
open Go.RowKit Go.Sort

set_option maxHeartbeats 2000000 in
set_option maxRecDepth 100000 in
theorem looks_law (A : Option Addr) (n cap : Nat) (x i : Int) (xs : List Sp) (w : World) (hx : SpansAt w.heap.size w A n xs) (hr : -9223372036854775808 ≤ x ∧ x ≤ 9223372036854775807) (hi : -9223372036854775808 ≤ i ∧ i ≤ 9223372036854775807) :
    Calls Try.prog 5 #[.slice A n cap, .int .i64 x, .int .i64 i] w (LawPost w) := by
  have HX := hide hx
  clear hx
  go_enter Try.func5, Try.ntmps5
  go_wp2_with fail
  refine (few_any A n cap w).mono ?_
  rintro e w2 ⟨rfl, rfl⟩
  by_cases hn : (n : Int) ≤ 140
  · have hd : decide ((n : Int) ≤ 140) = true := decide_eq_true hn
    -- Has, twice
    have H1 := hide (Has_any A n cap x xs w HX.out)
    unfold hasV at H1
    obtain ⟨p, hp⟩ : ∃ p, (setB xs && inB xs x) = p := ⟨_, rfl⟩
    obtain ⟨r, hr1⟩ : ∃ r : Int, (if setB xs then 0 else 2) = r := ⟨_, rfl⟩
    rw [hp, hr1] at H1
    go_wp2_with fail
    refine H1.out.mono ?_
    rintro e w2 ⟨rfl, hG⟩
    have HB2 := hide hG.below
    have HX2 := hide (HX.out.now hG.below (Nat.le_refl _))
    have H2 := hide (refHas_any A n cap x xs w2 HX2.out)
    unfold hasV at H2
    rw [hp, hr1] at H2
    clear hG hp hr1 H1 HX
    go_wp2_with fail
    refine H2.out.mono ?_
    rintro e w3 ⟨rfl, hG⟩
    have HB3 := hide (HB2.out.trans (hG.below.mono HB2.out.size))
    have HX3 := hide (HX2.out.now hG.below (Nat.le_refl _))
    clear hG H2 HB2 HX2
    have hpp : (p != p) = false := by simp
    have hrr : (r != r) = false := by simp
    -- Size, twice
    have H3 := hide (Size_any A n cap xs w3 HX3.out)
    unfold numV at H3
    rw [show befA xs n = befA xs xs.length by rw [HX3.out.1]] at H3
    obtain ⟨s, hs⟩ : ∃ s : Int, (if setB xs then befA xs xs.length else 0) = s := ⟨_, rfl⟩
    obtain ⟨t, ht⟩ : ∃ t : Int, (if setB xs then 0 else 2) = t := ⟨_, rfl⟩
    rw [hs, ht] at H3
    go_wp2_with fail
    refine H3.out.mono ?_
    rintro e w4 ⟨rfl, hB⟩
    have HB4 := hide (HB3.out.trans (hB.mono HB3.out.size))
    have HX4 := hide (HX3.out.now hB (Nat.le_refl _))
    have H4 := hide (refSize_any A n cap xs w4 HX4.out)
    unfold sizeV numV at H4
    rw [hs, ht] at H4
    clear hB hs ht H3 HX3 HB3 hpp hrr
    go_wp2_with fail
    refine H4.out.mono ?_
    rintro e w5 ⟨rfl, hB⟩
    have HB5 := hide (HB4.out.trans (hB.mono HB4.out.size))
    have HX5 := hide (HX4.out.now hB (Nat.le_refl _))
    clear hB H4 HB4 HX4
    have hss : (s != s) = false := by simp
    have htt : (t != t) = false := by simp
    -- Nth, twice
    have hnv : ∃ a b : Int, nthV xs i = .tuple #[.int .i64 a, .int .i64 b] := by
      unfold nthV numV
      split
      · split <;> exact ⟨_, _, rfl⟩
      · exact ⟨_, _, rfl⟩
    obtain ⟨a, b, hab⟩ := hnv
    have H5 := hide (Nth_any A n cap i xs w5 HX5.out hi)
    rw [hab] at H5
    go_wp2_with fail
    refine H5.out.mono ?_
    rintro e w6 ⟨rfl, hB⟩
    have HB6 := hide (HB5.out.trans (hB.mono HB5.out.size))
    have HX6 := hide (HX5.out.now hB (Nat.le_refl _))
    have H6 := hide (refNth_any A n cap i xs w6 HX6.out hi)
    rw [hab] at H6
    clear hB hab H5 HB5 HX5 hss htt
    go_wp2_with fail
    refine H6.out.mono ?_
    rintro e w7 ⟨rfl, hB⟩
    have HB7 := hide (HB6.out.trans (hB.mono HB6.out.size))
    have HX7 := hide (HX6.out.now hB (Nat.le_refl _))
    clear hB H6 HB6 HX6
    have haa : (a != a) = false := by simp
    have hbb : (b != b) = false := by simp
    -- Rank, twice
    have H7 := hide (Rank_any A n cap x xs w7 HX7.out hr)
    unfold rankV numV at H7
    obtain ⟨c, hc⟩ : ∃ c : Int, (if setB xs then rankTo xs x xs.length else 0) = c := ⟨_, rfl⟩
    obtain ⟨d, hd'⟩ : ∃ d : Int, (if setB xs then 0 else 2) = d := ⟨_, rfl⟩
    rw [hc, hd'] at H7
    go_wp2_with fail
    refine H7.out.mono ?_
    rintro e w8 ⟨rfl, hB⟩
    have HB8 := hide (HB7.out.trans (hB.mono HB7.out.size))
    have HX8 := hide (HX7.out.now hB (Nat.le_refl _))
    have H8 := hide (refRank_any A n cap x xs w8 HX8.out hr)
    unfold rankV numV at H8
    rw [hc, hd'] at H8
    clear hB hc hd' H7 HB7 HX7 haa hbb
    go_wp2_with fail
    refine H8.out.mono ?_
    rintro e w9 ⟨rfl, hB⟩
    have HB9 := hide (HB8.out.trans (hB.mono HB8.out.size))
    clear hB H8 HB8 HX8
    have hcc : (c == c) = true := by simp
    have hdd : (d == d) = true := by simp
    go_wp2_with fail
    refine (alive_any w9).mono ?_
    rintro e w10 ⟨rfl, hb⟩
    have HB10 := hide (HB9.out.trans (hb.mono HB9.out.size))
    clear hb HB9
    go_wp2
    go_ret
    exact ⟨rfl, HB10.out⟩
  · have hd : decide ((n : Int) ≤ 140) = false := decide_eq_false hn
    go_wp2_with fail
    refine (alive_any w).mono ?_
    rintro e w8 ⟨rfl, hb⟩
    have HB8 := hide hb
    clear hb HX
    go_wp2
    go_ret
    exact ⟨rfl, HB8.out⟩

end Go.Proofs.Ytikfiofjhmeheaa
