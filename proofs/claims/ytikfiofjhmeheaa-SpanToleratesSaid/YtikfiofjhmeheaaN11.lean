/- Contracts of the specification's Whole, Two, Not. -/
import Derived.Test.YtikfiofjhmeheaaN7
namespace Go.Proofs.Ytikfiofjhmeheaa
open Go.RowKit Go.Sort

theorem whole_any (w : World) : Calls Try.prog 75 #[] w fun e w' => e = .returned (.agg #[.int .i64 (-1099511627776), .int .i64 1099511627776]) ∧ Gr w w' := by
  go_enter Try.func75, Try.ntmps75
  go_wp2
  refine bodyPost_ret (v := .agg #[.int .i64 (-1099511627776), .int .i64 1099511627776]) (by simp [results, Try.results75, go_sem]) rfl ⟨rfl, ?_⟩
  exact (Gr.refl w).alloc _

def twoV (kind : Int) (xs ys : List Sp) : List Sp := if setB xs && setB ys && decide ((madeL kind xs ys).length ≤ 128) then madeL kind xs ys else []
def twoE (kind : Int) (xs ys : List Sp) : Int := if setB xs && setB ys then (if (madeL kind xs ys).length ≤ 128 then 0 else 8) else 2
theorem two_no {kind : Int} {xs ys : List Sp} {w w' : World} (h : (setB xs && setB ys) = false) (hb : Below w.heap.size w w') : SetPost (twoE kind xs ys) (twoV kind xs ys) w (.returned (.tuple #[.slice none 0 0, .int .i64 2])) w' := by
  unfold twoE twoV
  rw [h]
  exact setpost_nil hb

set_option maxHeartbeats 2000000 in
set_option maxRecDepth 100000 in
theorem refTwo_any (kind : Int) (hk : kind = 0 ∨ kind = 1 ∨ kind = 2) (A A' : Option Addr) (n cap m cap' : Nat) (xs ys : List Sp) (w : World) (hx : SpansAt w.heap.size w A n xs) (hy : SpansAt w.heap.size w A' m ys) :
    Calls Try.prog 26 #[.int .i64 kind, .slice A n cap, .slice A' m cap'] w (SetPost (twoE kind xs ys) (twoV kind xs ys) w) := by
  have HX := hide hx
  have HY := hide hy
  have HK := hide hk
  clear hx hy hk
  cases hv : setB xs
  · have HP : Hid (∀ w', Below w.heap.size w w' → SetPost (twoE kind xs ys) (twoV kind xs ys) w (.returned (.tuple #[.slice none 0 0, .int .i64 2])) w') := fun w' hb => two_no (by rw [hv]; rfl) hb
    go_enter Try.func26, Try.ntmps26
    go_wp2_with fail
    refine (refValid_any A n cap xs w HX.out).mono ?_
    rintro e w2 ⟨rfl, hG⟩
    rw [hv]
    go_wp2
    go_ret2
    exact HP.out _ hG.below
  · cases hv2 : setB ys
    · have HP : Hid (∀ w', Below w.heap.size w w' → SetPost (twoE kind xs ys) (twoV kind xs ys) w (.returned (.tuple #[.slice none 0 0, .int .i64 2])) w') := fun w' hb => two_no (by rw [hv, hv2]; rfl) hb
      have HV := hide hv2
      go_enter Try.func26, Try.ntmps26
      go_wp2_with fail
      refine (refValid_any A n cap xs w HX.out).mono ?_
      rintro e w2 ⟨rfl, hG⟩
      rw [hv]
      have HG := hide hG
      clear hG hv hv2
      go_wp2_with fail
      refine (refValid_any A' m cap' ys w2 (HY.out.gr HG.out)).mono ?_
      rintro e w3 ⟨rfl, hG⟩
      rw [HV.out]
      have HG2 := hide (HG.out.trans hG)
      clear hG
      go_wp2
      go_ret2
      exact HP.out _ HG2.out.below
    · have HV := hide hv
      have HV2 := hide hv2
      have hl1 : n ≤ 128 := by have := (setB_true hv).1; have := HX.out.1; omega
      have hl2 : m ≤ 128 := by have := (setB_true hv2).1; have := HY.out.1; omega
      clear hv hv2
      go_enter Try.func26, Try.ntmps26
      go_wp2_with fail
      refine (refValid_any A n cap xs w HX.out).mono ?_
      rintro e w2 ⟨rfl, hG⟩
      rw [HV.out]
      have HG := hide hG
      clear hG
      go_wp2_with fail
      refine (refValid_any A' m cap' ys w2 (HY.out.gr HG.out)).mono ?_
      rintro e w3 ⟨rfl, hG⟩
      rw [HV2.out]
      have HG2 := hide (HG.out.trans hG)
      clear hG HG
      go_wp2_with fail
      refine (made_any kind HK.out A A' n cap m cap' xs ys w3 (HX.out.gr HG2.out) (HY.out.gr HG2.out) (by omega) (by omega)).mono ?_
      rintro e w4 ⟨a, c, rfl, h⟩
      have HO := hide (own_base (base' := w.heap.size) h.2.1 HG2.out.size)
      have HB := hide (HG2.out.below.trans (h.2.2.mono HG2.out.size))
      have hml := (madeL_spec kind xs ys).2.2
      have hx1 := HX.out.1
      have hy1 := HY.out.1
      have hml2 : (madeL kind xs ys).length ≤ 512 := by omega
      obtain ⟨N, hN⟩ : ∃ N, N = (madeL kind xs ys).length := ⟨_, rfl⟩
      have HN := hide hN
      rw [← hN] at HO hml2 ⊢
      clear h hml hx1 hy1 hN
      by_cases hs : N ≤ 128
      · have hd : decide ((N : Int) > 128) = false := decide_eq_false (by omega)
        have hd2 : ¬ (128 : Int) < (N : Int) := by omega
        have HE : Hid (twoE kind xs ys = 0 ∧ twoV kind xs ys = madeL kind xs ys) := by
          unfold twoE twoV
          rw [HV.out, HV2.out, ← HN.out]
          exact ⟨by simp [hs], by simp [hs]⟩
        go_wp2
        go_ret2
        rw [HE.out.1, HE.out.2]
        exact ⟨a, c, by rw [← HN.out]; rfl, by rw [← HN.out]; exact HO.out, HB.out⟩
      · have hd : decide ((N : Int) > 128) = true := decide_eq_true (by omega)
        have hd2 : (128 : Int) < (N : Int) := by omega
        have HE : Hid (twoE kind xs ys = 8 ∧ twoV kind xs ys = []) := by
          unfold twoE twoV
          rw [HV.out, HV2.out, ← HN.out]
          exact ⟨by simp [hs], by simp [hs]⟩
        go_wp2
        go_ret2
        rw [HE.out.1, HE.out.2]
        exact setpost_nil HB.out

set_option maxHeartbeats 1000000 in
theorem refNot_any (A : Option Addr) (n cap : Nat) (xs : List Sp) (w : World) (hx : SpansAt w.heap.size w A n xs) :
    Calls Try.prog 30 #[.slice A n cap] w (SetPost (twoE 2 wholeL xs) (twoV 2 wholeL xs) w) := by
  have HX := hide hx
  clear hx
  go_enter Try.func30, Try.ntmps30
  go_wp2_with fail
  refine (whole_any w).mono ?_
  rintro e w2 ⟨rfl, hG⟩
  have HG := hide (hG.alloc (.cells #[.int .i64 (-1099511627776), .int .i64 1099511627776] 42))
  have hW : (w2.alloc (.cells #[.int .i64 (-1099511627776), .int .i64 1099511627776] 42)).heap[w2.heap.size]? = some (.cells #[.int .i64 (-1099511627776), .int .i64 1099511627776] 42 (0, 0)) := World.alloc_heap_new w2 _
  have HW := hide (spans_lit wholeL hW rfl)
  clear hG hW
  go_wp2_with fail
  refine (refTwo_any 2 (.inr (.inr rfl)) _ A 1 1 n cap wholeL xs _ HW.out (HX.out.gr HG.out)).mono ?_
  rintro e w3 ⟨a, c, rfl, ho, hb⟩
  have HO := hide (own_base (base' := w.heap.size) ho HG.out.size)
  have HB := hide (HG.out.below.trans (hb.mono HG.out.size))
  clear ho hb
  go_wp2
  go_ret2
  exact ⟨a, c, rfl, HO.out, HB.out⟩

end Go.Proofs.Ytikfiofjhmeheaa
