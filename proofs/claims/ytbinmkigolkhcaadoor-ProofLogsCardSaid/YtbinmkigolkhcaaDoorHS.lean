/- ProofShort. -/
import Derived.Test.YtbinmkigolkhcaaDoorHG
import Derived.Test.YtbinmkigolkhcaaDoorMB
import Derived.Test.YtbinmkigolkhcaaDoorFO
set_option linter.unusedSimpArgs false
set_option linter.unusedVariables false
namespace Go.Proofs.YtbinmkigolkhcaaDoor
open Go.RowKit Go.Sort
attribute [local go_sem] Oper.semAt_some

/-- what a law needs of the memory: the table of math/bits -/
def Env (w : World) : Prop := 1 < w.heap.size ∧ TabAt 1 Lib.deBruijn64tab w
theorem Env.after {w w' : World} (h : Env w) (hb : Below w.heap.size w w') : Env w' :=
  ⟨Nat.lt_of_lt_of_le h.1 hb.size, fun j hj => (hb.cell (p := ⟨1, j, none⟩) h.1).trans (h.2 j hj)⟩
def TrueP (w : World) (e : Ending) (w' : World) : Prop := e = .returned (.bool true) ∧ Below w.heap.size w w'
theorem alive_env {w : World} (h : Env w) : Calls Tryd.prog 17 #[] w (TrueP w) := alive_any w h.1 h.2
theorem few_true {ls : List (List UInt8)} (h : fewB ls = true) : ls.length ≤ 100 ∧ ∀ l ∈ ls, l.length ≤ 400 := of_decide_eq_true h

set_option maxHeartbeats 2000000 in
set_option maxRecDepth 100000 in
theorem short_law (A : Option Addr) (n c : Nat) (ls : List (List UInt8)) (i m : Int) (w : World) (hE : Env w) (hx : ListsIn w.heap.size w A n ls) (hc : n ≤ c) (hn : n ≤ 9223372036854775807) :
    Calls Tryd.prog 13 #[.slice A n c, .int .i64 i, .int .i64 m] w (TrueP w) := by
  have mixed := mixedOrders
  have HF := hide (few_any A n c ls w hx hn)
  cases hf : fewB ls
  · rw [hf] at HF
    have HA := hide (alive_env hE)
    clear hf hx hc hn hE
    go_enter Tryd.func13, Tryd.ntmps13
    go_wp2_with fail
    refine HF.out.mono ?_
    rintro e w1 ⟨rfl, rfl⟩
    go_wp2_with fail
    refine HA.out.mono ?_
    rintro e w1 ⟨rfl, hb⟩
    go_wp2_with fail
    go_ret
    exact ⟨rfl, hb⟩
  · rw [hf] at HF
    obtain ⟨h1, h2⟩ := few_true hf
    have hlen := hx.1
    have hX := hx.to (fun l hl => Nat.le_trans (h2 l hl) (by decide))
    have HI := hide (pInclude_any A n c ls i w hX (by omega) hc)
    have HX2 : Hid (∀ w1, Below w.heap.size w w1 → Calls Tryd.prog 30 #[.slice A n c, .int .i64 m] w1 (TwoHashes (extendV ls m) w1)) := fun w1 hb => pExtend_any A n c ls m w1 (hX.now hb (Nat.le_refl _)) (by omega) hc
    have HE := hide hE
    obtain ⟨D, hD⟩ : ∃ D, digits n = D := ⟨_, rfl⟩
    have hs1 : (pIncludeV ls i).2 = 0 → (pIncludeV ls i).1.length ≤ D := by
      unfold pIncludeV
      rw [hlen]
      split
      · intro h; exact absurd h (by decide)
      · split
        · intro h; exact absurd h (by decide)
        · intro _
          rw [← hD]
          exact steps_short _ ls _ (by omega) (by rw [hlen]; exact digits_le (by omega))
    have hs2 : (extendV ls m).2 = 0 → (extendV ls m).1.length ≤ D + 1 := by
      unfold extendV
      rw [hlen]
      split
      · intro h; exact absurd h (by decide)
      · split
        · intro h; exact absurd h (by decide)
        · intro _
          rw [← hD]
          exact growth_short _ ls _ true (by omega) (by omega) (by rw [hlen]; exact digits_le (by omega))
    have HD := hide hD
    have hn100 : n ≤ 100 := by omega
    have hD100 : D ≤ 100 := by
      rw [← hD]
      unfold digits
      split
      · omega
      · have h3 : Nat.log2 n < 7 := by
          rw [Nat.log2_lt (by omega)]
          omega
        omega
    have HN := hide hn100
    have HDD := hide hD100
    obtain ⟨X, hX'⟩ : ∃ X, pIncludeV ls i = X := ⟨_, rfl⟩
    obtain ⟨Y, hY'⟩ : ∃ Y, extendV ls m = Y := ⟨_, rfl⟩
    rw [hX'] at HI hs1
    rw [hY'] at HX2 hs2
    obtain ⟨X1, X2⟩ := X
    obtain ⟨Y1, Y2⟩ := Y
    have HS1 := hide hs1
    have HS2 := hide hs2
    clear hf hx hn hE h1 h2 hlen hX hs1 hs2 hD hX' hY' hn100 hD100 hc
    go_enter Tryd.func13, Tryd.ntmps13
    go_wp2_with fail
    refine HF.out.mono ?_
    rintro e w1 ⟨rfl, rfl⟩
    go_wp2_with fail
    go_loop [7, 8] (fun vd vn => ∃ d k : Nat, vd = .int .i64 d ∧ vn = .int .i64 k ∧ Hid (k ≤ 100 ∧ d + digits k = D)) (fun _ vn => (intOf vn).toNat)
    case atStart => exact ⟨0, n, rfl, rfl, HN.out, by rw [Nat.zero_add]; exact HD.out⟩
    case round =>
      obtain ⟨d, k, rfl, rfl, HK⟩ := hrel
      obtain ⟨hk1, hk2⟩ := HK.out
      by_cases hk0 : 0 < k
      · have g : (0 : Int) < (k : Int) := by omega
        have h3 := digits_succ hk0
        have hd : d ≤ 100 := by have := HDD.out; omega
        have HQ : Hid (k / 2 ≤ 100 ∧ (d + 1) + digits (k / 2) = D ∧ k / 2 < k) := by show _ ∧ _; omega
        clear hk2 h3 hk0
        go_wp2_with fail
        go_round
        case rel => exact ⟨d + 1, k / 2, by go_num, by go_num, HQ.out.1, HQ.out.2.1⟩
        case measure => simp [intOf]; have := HQ.out.2.2; omega
      · obtain rfl : k = 0 := by omega
        have hd : d = D := by simpa [digits] using hk2
        subst hd
        have hdd := HDD.out
        clear hk0 hk1 hk2 HK
        go_wp2_with fail
        refine HI.out.mono ?_
        rintro e w2 ⟨a, c2, rfl, ho, hb⟩
        have HB := hide hb
        have HC := hide (HX2.out w2 hb)
        clear ho hb HI
        go_wp2_with fail
        refine HC.out.mono ?_
        rintro e w3 ⟨a3, c3, rfl, ho, hb⟩
        have HB3 := hide (HB.out.trans (hb.mono HB.out.size))
        have HAL := hide (alive_env (HE.out.after HB3.out))
        clear ho hb HC
        have e1 : (X1, X2).1 = X1 := rfl
        have e2 : (Y1, Y2).1 = Y1 := rfl
        have e3 : (X1, X2).2 = X2 := rfl
        have e4 : (Y1, Y2).2 = Y2 := rfl
        (try rw [e1]); (try rw [e2]); (try rw [e3]); (try rw [e4])
        (try rw [e1, e3] at HS1)
        (try rw [e2, e4] at HS2)
        clear e1 e2 e3 e4
        have c1 : (X2 = 0 ∧ X1.length ≤ d) ∨ X2 ≠ 0 := by
          by_cases h : X2 = 0
          · exact .inl ⟨h, HS1.out h⟩
          · exact .inr h
        have c2 : (Y2 = 0 ∧ Y1.length ≤ d + 1) ∨ Y2 ≠ 0 := by
          by_cases h : Y2 = 0
          · exact .inl ⟨h, HS2.out h⟩
          · exact .inr h
        clear HS1 HS2
        obtain ⟨p, hp⟩ : ∃ p, X1.length = p := ⟨_, rfl⟩
        obtain ⟨q, hq⟩ : ∃ q, Y1.length = q := ⟨_, rfl⟩
        rw [hp] at c1 ⊢
        rw [hq] at c2 ⊢
        clear hp hq
        rcases c1 with ⟨rfl, c1⟩ | c1
        · rcases c2 with ⟨rfl, c2⟩ | c2
          · have g1 : (p : Int) ≤ (d : Int) := by omega
            have g2 : (q : Int) ≤ (d : Int) + 1 := by omega
            go_wp2_with fail
            refine HAL.out.mono ?_
            rintro e w4 ⟨rfl, hb4⟩
            go_wp2_with fail
            go_ret
            exact ⟨rfl, HB3.out.trans (hb4.mono HB3.out.size)⟩
          · have g1 : (p : Int) ≤ (d : Int) := by omega
            have g2 : (Y2 != 0) = true := bne_iff_ne.2 c2
            go_wp2_with fail
            refine HAL.out.mono ?_
            rintro e w4 ⟨rfl, hb4⟩
            go_wp2_with fail
            go_ret
            exact ⟨rfl, HB3.out.trans (hb4.mono HB3.out.size)⟩
        · have g3 : (X2 != 0) = true := bne_iff_ne.2 c1
          rcases c2 with ⟨rfl, c2⟩ | c2
          · have g2 : (q : Int) ≤ (d : Int) + 1 := by omega
            go_wp2_with fail
            refine HAL.out.mono ?_
            rintro e w4 ⟨rfl, hb4⟩
            go_wp2_with fail
            go_ret
            exact ⟨rfl, HB3.out.trans (hb4.mono HB3.out.size)⟩
          · have g2 : (Y2 != 0) = true := bne_iff_ne.2 c2
            go_wp2_with fail
            refine HAL.out.mono ?_
            rintro e w4 ⟨rfl, hb4⟩
            go_wp2_with fail
            go_ret
            exact ⟨rfl, HB3.out.trans (hb4.mono HB3.out.size)⟩
end Go.Proofs.YtbinmkigolkhcaaDoor
