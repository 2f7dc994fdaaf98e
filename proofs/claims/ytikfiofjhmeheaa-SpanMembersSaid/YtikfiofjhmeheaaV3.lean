/- The walk of SpanOf. -/
import Derived.Test.YtikfiofjhmeheaaN7
import Derived.Test.YtikfiofjhmeheaaG8
import Derived.Test.YtikfiofjhmeheaaV0
namespace Go.Proofs.Ytikfiofjhmeheaa
open Go.RowKit Go.Sort

theorem ofAll_any (A : Option Addr) (n cap : Nat) (xs : List Sp) (w : World) (hx : SpansAt w.heap.size w A n xs) : Calls Try.prog 19 #[.slice A n cap] w (SetPost (checkE xs) (ofV xs) w) :=
  Of_any A n cap xs w hx (fun h => stable_any n (by omega))

/-- l, its copy c at g with the mark behind, the wanted set: as they stand in W -/
structure LawI (w W : World) (A : Option Addr) (n g : Nat) (xs : List Sp) : Prop where
  mark : Mark W g g n xs
  arg : SpansAt W.heap.size W A n xs
  below : Below w.heap.size w W
theorem LawI.now {w W W' : World} {A : Option Addr} {n g : Nat} {xs : List Sp} (h : LawI w W A n g xs) (hb : Below W.heap.size W W') : LawI w W' A n g xs :=
  ⟨h.mark.below hb, h.arg.now hb (Nat.le_refl _), h.below.trans (hb.mono h.below.size)⟩
theorem LawI.copy {w W : World} {A : Option Addr} {n g : Nat} {xs : List Sp} (h : LawI w W A n g xs) : SpansAt W.heap.size W (some ⟨g, 0, none⟩) n xs := (h.mark.spans h.arg.1).1
theorem LawI.kept {w W : World} {A : Option Addr} {n g : Nat} {xs : List Sp} (h : LawI w W A n g xs) (cap : Nat) (hn : n ≤ 1000000) : Calls Try.prog 21 #[.slice (some ⟨g, 0, none⟩) n (n + 1), .slice A n cap] W fun e w' => e = .returned (.bool true) ∧ Below W.heap.size W w' :=
  kept_any A n cap g g xs W h.arg h.mark hn

/-- behind a call that made a set and another one that wrote over it nothing older has turned -/
theorem spoiled {W5 W6 W7 : World} {a : Option Addr} {k c : Nat} {xs : List Value} (ho : W6.ownsRow W5.heap.size 42 2 (.slice a k c) k xs) (hb : Below W5.heap.size W5 W6) (hg : W6.grownBy W7 (Value.slice a k c).ownBlock) : Below W5.heap.size W5 W7 :=
  hb.grown hg hb.size (fun j e => (ho.lt j e).1)
theorem own_below {W W' : World} {n₀ k : Nat} {v : Value} {xs : List Value} (ho : W.ownsRow n₀ 42 2 v k xs) (hb : Below W.heap.size W W') : W'.ownsRow n₀ 42 2 v k xs :=
  ho.kept (Below.toGrown hb none) (by cases hv : v.ownBlock with | none => exact .inl rfl | some g => exact .inr (by simp))

set_option maxHeartbeats 4000000 in
set_option maxRecDepth 100000 in
theorem of_law (A : Option Addr) (n cap : Nat) (xs : List Sp) (w : World) (hx : SpansAt w.heap.size w A n xs) :
    Calls Try.prog 3 #[.slice A n cap] w (LawPost w) := by
  have HX := hide hx
  clear hx
  go_enter Try.func3, Try.ntmps3
  go_wp2_with fail
  refine (few_any A n cap w).mono ?_
  rintro e w2 ⟨rfl, rfl⟩
  by_cases hn : (n : Int) ≤ 140
  · have hd : decide ((n : Int) ≤ 140) = true := decide_eq_true hn
    have hn' : n ≤ 1000000 := by omega
    have hol : (ofV xs).length ≤ 1000000 := by have := ofV_length xs; have := HX.out.1; omega
    go_wp2_with fail
    refine (own_any A n cap xs w HX.out hn').mono ?_
    rintro e w2 ⟨rfl, hm, hb⟩
    have HL2 : Hid (LawI w w2 A n w.heap.size xs) := ⟨hm, HX.out.now hb (Nat.le_refl _), hb⟩
    generalize w.heap.size = g at HL2 hm ⊢
    clear hm hb HX
    go_wp2_with fail
    refine (refOf_any A n cap xs w2 HL2.out.arg).mono ?_
    rintro e w3 ⟨a3, c3, rfl, ho, hb⟩
    have HL3 := hide (HL2.out.now hb)
    have HW3 := hide (spans_of_own ho rfl)
    clear ho hb HL2
    obtain ⟨ce, hce⟩ : ∃ ce, ce = checkE xs := ⟨_, rfl⟩
    rw [← hce]
    obtain ⟨N, hN⟩ : ∃ N, N = (ofV xs).length := ⟨_, rfl⟩
    rw [← hN] at HW3 hol ⊢
    have HCE := hide hce
    have HNE := hide hN
    clear hce hN
    go_wp2
    go_loopw [6] (fun vt wr => ∃ t : Nat, t ≤ 2 ∧ vt = .int .i64 t ∧ Hid (LawI w wr A n g xs) ∧ Hid (SpansAt wr.heap.size wr a3 N (ofV xs))) (fun vt _ => 2 - (intOf vt).toNat)
    case atStart => exact ⟨0, by omega, rfl, HL3, HW3⟩
    case round =>
      clear HL3 HW3
      obtain ⟨t, ht, rfl, HL3, HW3⟩ := hrel
      by_cases hlt : t < 2
      · have hlt' : (t : Int) < 2 := by omega
        go_wp2_with fail
        refine (ofAll_any (some ⟨g, 0, none⟩) n (n + 1) xs wr HL3.out.copy).mono ?_
        rintro e w6 ⟨a6, c6, rfl, ho6, hb6⟩
        rw [← HCE.out, ← HNE.out]
        rw [← HNE.out] at ho6
        have HO6 := hide ho6
        have HB6 := hide hb6
        have hsa := same_any a6 a3 N c6 N c3 (ofV xs) (ofV xs) w6 (spans_of_own ho6 HNE.out.symm) (HW3.out.now hb6 (Nat.le_refl _)) hol hol
        rw [decide_eq_true rfl] at hsa
        have HSA := hide hsa
        clear ho6 hb6 hsa
        go_wp2_with fail
        refine HSA.out.mono ?_
        rintro e w7 ⟨rfl, q, rfl⟩
        have hb7 := drewN_below w6 q
        have HO7 := hide (own_below HO6.out hb7)
        have HB7 := hide (HB6.out.trans (hb7.mono HB6.out.size))
        clear HO6 HB6 hb7 HSA
        generalize w6.drewN q = w7 at HO7 HB7 ⊢
        go_wp2_with fail
        refine ((HL3.out.now HB7.out).kept cap hn').mono ?_
        rintro e w8 ⟨rfl, hb8⟩
        have HO8 := hide (own_below HO7.out hb8)
        have HB8 := hide (HB7.out.trans (hb8.mono HB7.out.size))
        clear HO7 HB7 hb8
        go_wp2_with fail
        refine (spoil_any _ a6 N c6 _ w8 hol HO8.out).mono ?_
        rintro e w9 ⟨rfl, hg9⟩
        have hb9 := spoiled HO8.out HB8.out hg9
        have HL9 := hide (HL3.out.now hb9)
        have HW9 := hide (HW3.out.now hb9 (Nat.le_refl _))
        clear HO8 HB8 hg9 hb9 HL3 HW3
        go_wp2
        go_roundw
        case rel => exact ⟨t + 1, by omega, by go_num, HL9, HW9⟩
        case measure => simp [intOf]; omega
      · have hlt' : ¬ (t : Int) < 2 := by omega
        go_wp2_with fail
        refine (Valid_any (some ⟨g, 0, none⟩) n (n + 1) xs wr HL3.out.copy).mono ?_
        rintro e w6 ⟨rfl, hG⟩
        have HL6 := hide (HL3.out.now hG.below)
        clear hG HL3
        go_wp2_with fail
        refine (refValid_any A n cap xs w6 HL6.out.arg).mono ?_
        rintro e w7 ⟨rfl, hG⟩
        have HL7 := hide (HL6.out.now hG.below)
        clear hG HL6
        generalize setB xs = bb
        go_wp2_with fail
        refine (alive_any w7).mono ?_
        rintro e w8 ⟨rfl, hb⟩
        have HB8 := hide (HL7.out.now hb).below
        clear hb HL7
        go_wp2
        go_ret
        exact ⟨rfl, HB8.out⟩
  · have hd : decide ((n : Int) ≤ 140) = false := decide_eq_false hn
    go_wp2_with fail
    refine (alive_any w).mono ?_
    rintro e w8 ⟨rfl, hb⟩
    have HB8 := hide hb
    clear hb HX
    go_wp2
    go_ret
    exact ⟨rfl, HB8.out⟩

end Go.Proofs.Ytikfiofjhmeheaa
