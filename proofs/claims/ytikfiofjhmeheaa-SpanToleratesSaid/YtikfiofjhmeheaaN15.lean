/- Contracts of the specification's Grow and Shrink: the same answers as Grow's and Shrink's. -/
import Derived.Test.YtikfiofjhmeheaaN12
namespace Go.Proofs.Ytikfiofjhmeheaa
open Go.RowKit Go.Sort

theorem tol_set {xs : List Sp} {r : Int} (h : tolB xs r = true) : SetS xs ∧ xs.length ≤ 128 ∧ 0 ≤ r ∧ r ≤ 1099511627776 := by
  unfold tolB at h
  simp only [Bool.and_eq_true, decide_eq_true_eq] at h
  have := setB_set h.1
  exact ⟨this.1, this.2, h.2⟩
theorem madeW_length (xs : List Sp) (h : xs.length ≤ 128) : (madeL 2 wholeL xs).length ≤ 258 := by
  have := (madeL_spec 2 wholeL xs).2.2
  have e : wholeL.length = 1 := rfl
  omega
theorem madeW_ok (xs : List Sp) : SetS (madeL 2 wholeL xs) := madeL_set 2 fun z hz => by
  unfold keepB at hz
  rw [whole_in] at hz
  simp at hz
  exact hz.1
theorem grownL_length (xs : List Sp) (r : Int) : (grownL xs r).length ≤ 2 * xs.length := by
  have := (madeL_spec 0 (xs.map fun s => (max (-1099511627776) (s.1 - r), min 1099511627776 (s.2 + r))) []).2.2
  unfold grownL
  simp only [List.length_map, List.length_nil] at this
  omega

set_option maxHeartbeats 4000000 in
set_option maxRecDepth 100000 in
theorem refGrow_any (A : Option Addr) (n cap : Nat) (r : Int) (xs : List Sp) (w : World) (hx : SpansAt w.heap.size w A n xs) :
    Calls Try.prog 40 #[.slice A n cap, .int .i64 r] w (SetPost (tolE xs r) (tolV (growF r) xs r) w) := by
  have HX := hide hx
  have HV1 := hide (refValid_any A n cap xs w hx)
  clear hx
  cases hv : setB xs
  · have HVX := hide hv
    have HP : Hid (∀ w', Below w.heap.size w w' → SetPost (tolE xs r) (tolV (growF r) xs r) w (.returned (.tuple #[.slice none 0 0, .int .i64 2])) w') := fun w' hb => tol_no (by unfold tolB; rw [hv]; rfl) hb
    go_enter Try.func40, Try.ntmps40
    go_wp2_with fail
    refine HV1.out.mono ?_
    rintro e w2 ⟨rfl, hG⟩
    rw [HVX.out]
    have HB := hide hG.below
    clear hG
    go_wp2
    go_ret2
    exact HP.out _ HB.out
  · have HVX := hide hv
    by_cases h0 : r < 0
    · have HP : Hid (∀ w', Below w.heap.size w w' → SetPost (tolE xs r) (tolV (growF r) xs r) w (.returned (.tuple #[.slice none 0 0, .int .i64 2])) w') := fun w' hb => tol_no (by unfold tolB; rw [hv, decide_eq_false (by omega)]; rfl) hb
      go_enter Try.func40, Try.ntmps40
      go_wp2_with fail
      refine HV1.out.mono ?_
      rintro e w2 ⟨rfl, hG⟩
      rw [HVX.out]
      have HB := hide hG.below
      clear hG
      go_wp2
      go_ret2
      exact HP.out _ HB.out
    by_cases h1 : r > 1099511627776
    · have HP : Hid (∀ w', Below w.heap.size w w' → SetPost (tolE xs r) (tolV (growF r) xs r) w (.returned (.tuple #[.slice none 0 0, .int .i64 2])) w') := fun w' hb => tol_no (by unfold tolB; rw [hv, decide_eq_false (by omega)]; rfl) hb
      go_enter Try.func40, Try.ntmps40
      go_wp2_with fail
      refine HV1.out.mono ?_
      rintro e w2 ⟨rfl, hG⟩
      rw [HVX.out]
      have HB := hide hG.below
      clear hG
      go_wp2
      go_ret2
      exact HP.out _ HB.out
    · have hT : tolB xs r = true := by unfold tolB; rw [hv, decide_eq_true (by omega)]; rfl
      have HT := hide (tol_set hT)
      have HV : Hid (tolE xs r = 0 ∧ tolV (growF r) xs r = resTo (growF r) xs) := by unfold tolE tolV; rw [hT]; exact ⟨rfl, rfl⟩
      clear hT hv
      go_enter Try.func40, Try.ntmps40
      go_wp2_with fail
      refine HV1.out.mono ?_
      rintro e w2 ⟨rfl, hG⟩
      rw [HVX.out]
      have HG := hide hG
      clear hG HV1
      go_wp2_with fail
      refine (grown_any A n cap r ⟨HT.out.2.2.1, HT.out.2.2.2⟩ xs w2 (HX.out.gr HG.out) HT.out.1.2 (by have := HT.out.2.1; have := HX.out.1; omega)).mono ?_
      rintro e w3 ⟨a, c, rfl, h⟩
      have HE : Hid (grownL xs r = resTo (growF r) xs) := grow_same HT.out.1 HT.out.2.2.1
      rw [HE.out] at h ⊢
      have H := hide h
      clear h
      go_wp2
      go_ret2
      rw [HV.out.1, HV.out.2]
      exact ⟨a, c, rfl, own_base H.out.2.1 HG.out.size, HG.out.below.trans (H.out.2.2.mono HG.out.size)⟩

set_option maxHeartbeats 4000000 in
set_option maxRecDepth 100000 in
theorem refShrink_any (A : Option Addr) (n cap : Nat) (r : Int) (xs : List Sp) (w : World) (hx : SpansAt w.heap.size w A n xs) :
    Calls Try.prog 42 #[.slice A n cap, .int .i64 r] w (SetPost (tolE xs r) (tolV (shrinkF r) xs r) w) := by
  have HX := hide hx
  have HV1 := hide (refValid_any A n cap xs w hx)
  clear hx
  cases hv : setB xs
  · have HVX := hide hv
    have HP : Hid (∀ w', Below w.heap.size w w' → SetPost (tolE xs r) (tolV (shrinkF r) xs r) w (.returned (.tuple #[.slice none 0 0, .int .i64 2])) w') := fun w' hb => tol_no (by unfold tolB; rw [hv]; rfl) hb
    go_enter Try.func42, Try.ntmps42
    go_wp2_with fail
    refine HV1.out.mono ?_
    rintro e w2 ⟨rfl, hG⟩
    rw [HVX.out]
    have HB := hide hG.below
    clear hG
    go_wp2
    go_ret2
    exact HP.out _ HB.out
  · have HVX := hide hv
    by_cases h0 : r < 0
    · have HP : Hid (∀ w', Below w.heap.size w w' → SetPost (tolE xs r) (tolV (shrinkF r) xs r) w (.returned (.tuple #[.slice none 0 0, .int .i64 2])) w') := fun w' hb => tol_no (by unfold tolB; rw [hv, decide_eq_false (by omega)]; rfl) hb
      go_enter Try.func42, Try.ntmps42
      go_wp2_with fail
      refine HV1.out.mono ?_
      rintro e w2 ⟨rfl, hG⟩
      rw [HVX.out]
      have HB := hide hG.below
      clear hG
      go_wp2
      go_ret2
      exact HP.out _ HB.out
    by_cases h1 : r > 1099511627776
    · have HP : Hid (∀ w', Below w.heap.size w w' → SetPost (tolE xs r) (tolV (shrinkF r) xs r) w (.returned (.tuple #[.slice none 0 0, .int .i64 2])) w') := fun w' hb => tol_no (by unfold tolB; rw [hv, decide_eq_false (by omega)]; rfl) hb
      go_enter Try.func42, Try.ntmps42
      go_wp2_with fail
      refine HV1.out.mono ?_
      rintro e w2 ⟨rfl, hG⟩
      rw [HVX.out]
      have HB := hide hG.below
      clear hG
      go_wp2
      go_ret2
      exact HP.out _ HB.out
    · have hT : tolB xs r = true := by unfold tolB; rw [hv, decide_eq_true (by omega)]; rfl
      have HT := hide (tol_set hT)
      have HV : Hid (tolE xs r = 0 ∧ tolV (shrinkF r) xs r = resTo (shrinkF r) xs) := by unfold tolE tolV; rw [hT]; exact ⟨rfl, rfl⟩
      clear hT hv
      go_enter Try.func42, Try.ntmps42
      go_wp2_with fail
      refine HV1.out.mono ?_
      rintro e w2 ⟨rfl, hG⟩
      rw [HVX.out]
      have HG := hide hG
      clear hG HV1
      go_wp2_with fail
      refine (whole_any w2).mono ?_
      rintro e w3 ⟨rfl, hG⟩
      have HG3 := hide ((HG.out.trans hG).alloc (.cells #[.int .i64 (-1099511627776), .int .i64 1099511627776] 42))
      have hW : (w3.alloc (.cells #[.int .i64 (-1099511627776), .int .i64 1099511627776] 42)).heap[w3.heap.size]? = some (.cells #[.int .i64 (-1099511627776), .int .i64 1099511627776] 42 (0, 0)) := World.alloc_heap_new w3 _
      have HW := hide (spans_lit wholeL hW rfl)
      clear hG hW HG
      go_wp2_with fail
      generalize w3.alloc (.cells #[.int .i64 (-1099511627776), .int .i64 1099511627776] 42) = W3 at HG3 HW ⊢
      generalize w3.heap.size = bw at HW ⊢
      refine (made_any 2 (.inr (.inr rfl)) _ A 1 1 n cap wholeL xs W3 HW.out (HX.out.gr HG3.out) (by omega) (by have := HT.out.2.1; have := HX.out.1; omega)).mono ?_
      rintro e w4 ⟨a4, c4, rfl, h⟩
      have HS4 := hide (spans_of_own h.2.1 rfl)
      have HB4 := hide (HG3.out.below.trans (h.2.2.mono HG3.out.size))
      have HW4 := hide (HW.out.now h.2.2 (Nat.le_refl _))
      clear h HG3 HW
      have HLM := hide (madeW_length xs HT.out.2.1)
      have HMS := hide (madeW_ok xs)
      have HSS : Hid (madeL 2 wholeL (grownL (madeL 2 wholeL xs) r) = resTo (shrinkF r) xs) := shrink_same HT.out.1 HT.out.2.2.1
      generalize madeL 2 wholeL xs = ms at HS4 HLM HMS HSS ⊢
      go_wp2_with fail
      refine (grown_any a4 ms.length c4 r ⟨HT.out.2.2.1, HT.out.2.2.2⟩ ms w4 HS4.out HMS.out.2 (by have := HLM.out; omega)).mono ?_
      rintro e w5 ⟨a5, c5, rfl, h⟩
      have HS5 := hide (spans_of_own h.2.1 rfl)
      have HB5 := hide (HB4.out.trans (h.2.2.mono HB4.out.size))
      have HW5 := hide (HW4.out.now h.2.2 (Nat.le_refl _))
      have HLG := hide (grownL_length ms r)
      clear h HB4 HW4 HS4
      generalize grownL ms r = gs at HS5 HLG HSS ⊢
      go_wp2_with fail
      refine (made_any 2 (.inr (.inr rfl)) _ a5 1 1 gs.length c5 wholeL gs w5 HW5.out HS5.out (by omega) (by have := HLG.out; have := HLM.out; omega)).mono ?_
      rintro e w6 ⟨a6, c6, rfl, h⟩
      rw [HSS.out] at h ⊢
      have H := hide h
      have HB6 := hide (HB5.out.trans (h.2.2.mono HB5.out.size))
      clear h
      go_wp2
      go_ret2
      rw [HV.out.1, HV.out.2]
      exact ⟨a6, c6, rfl, own_base H.out.2.1 HB5.out.size, HB6.out⟩

end Go.Proofs.Ytikfiofjhmeheaa
