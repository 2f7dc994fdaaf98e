/- among, blamed. -/
import Derived.Test.YtbinmkigolkhcaaDoorKD
import Derived.Test.YtbinmkigolkhcaaDoorKE
set_option linter.unusedSimpArgs false
set_option linter.unusedVariables false
namespace Go.Proofs.YtbinmkigolkhcaaDoor
open Go.RowKit Go.Sort
attribute [local go_sem] Oper.semAt_some

theorem mem_getD {ls : List (List UInt8)} {i : Nat} (h : i < ls.length) : ls.getD i [] ∈ ls := by
  rw [List.getD_eq_getElem?_getD, List.getElem?_eq_getElem h]
  exact List.getElem_mem h
theorem not_mem_getD {ls : List (List UInt8)} {b : List UInt8} (h : ∀ j, j < ls.length → ls.getD j [] ≠ b) : b ∉ ls := by
  intro hm
  obtain ⟨j, hj, rfl⟩ := List.getElem_of_mem hm
  refine h j hj ?_
  rw [List.getD_eq_getElem?_getD, List.getElem?_eq_getElem hj]
  rfl
set_option maxHeartbeats 4000000 in
set_option maxRecDepth 100000 in
theorem among_any (a : Option Addr) (n c : Nat) (ls : List (List UInt8)) (base : Nat) (B : Option Addr) (m d : Nat) (b : List UInt8) (w : World) (ho : OwnLists base w a n c ls) (hn : n ≤ 2000000) (hb : BytesAt w.heap.size w B m b) :
    Calls Tryd.prog 52 #[.slice a n c, .slice B m d] w fun e w' => e = .returned (.bool (decide (b ∈ ls))) ∧ Below w.heap.size w w' := by
  have mixed := mixedOrders
  have HO := hide ho
  have HB := hide hb
  have HN := hide (And.intro hn ho.1)
  obtain ⟨r, hr⟩ : ∃ r, decide (b ∈ ls) = r := ⟨_, rfl⟩
  have HR := hide hr
  rw [hr]
  clear ho hn hb hr
  go_enter Tryd.func52, Tryd.ntmps52
  go_wp2_with fail
  go_loopw [5] (fun vi wr => ∃ i : Nat, i ≤ n ∧ vi = .int .i64 i ∧ Hid (Below w.heap.size w wr ∧ ∀ j, j < i → ls.getD j [] ≠ b)) (fun vi _ => n - (intOf vi).toNat)
  case atStart => exact ⟨0, Nat.zero_le _, rfl, Below.refl _ _, fun j hj => absurd hj (Nat.not_lt_zero _)⟩
  case round =>
    obtain ⟨i, hi, rfl, HI⟩ := hrel
    by_cases hlt : i < n
    · have hlt' : (i : Int) < (n : Int) := by omega
      obtain ⟨g, A, k, rfl, hb1, hs1, cg, hB, hL⟩ := (HO.out.later HI.out.1).at_ hlt
      have hBB := HB.out.now HI.out.1 (Nat.le_refl _)
      obtain ⟨x, hx⟩ : ∃ x, ls.getD i [] = x := ⟨_, rfl⟩
      rw [hx] at cg hB hL
      obtain ⟨q, hq⟩ : ∃ q, x.length = q := ⟨_, rfl⟩
      rw [hq] at cg hB hL
      have hsb := strB_beq x b
      unfold strB at hsb
      have k1 : ∀ nq, (convert 23 9 (.slice A q k)).run Tryd.prog (wr.drewN nq) = .ok (.string (strOfNums (numsB x))) (wr.drewN nq) := fun nq => conv_any (hB.now ((Gr.refl wr).drewN nq).below (Nat.le_refl _)) k
      have k2 : ∀ nq, (convert 23 9 (.slice B m d)).run Tryd.prog (wr.drewN nq) = .ok (.string (strOfNums (numsB b))) (wr.drewN nq) := fun nq => conv_any (hBB.now ((Gr.refl wr).drewN nq).below (Nat.le_refl _)) d
      have r1 : ∀ nq, (wr.drewN nq).cell? ⟨g, i, none⟩ = some (.slice A q k) := fun _ => cg
      obtain ⟨t1, ht1⟩ : ∃ s, strOfNums (numsB x) = s := ⟨_, rfl⟩
      obtain ⟨t2, ht2⟩ : ∃ s, strOfNums (numsB b) = s := ⟨_, rfl⟩
      simp only [ht1] at k1
      simp only [ht2] at k2
      rw [ht1, ht2] at hsb
      have HX := hide (And.intro hx (And.intro hi hlt))
      have HSB := hide hsb
      clear hb1 hs1 cg hB hL hBB hx hq ht1 ht2 hsb hi hlt
      by_cases hxb : x = b
      · have y : (t1.toList == t2.toList) = true := by rw [HSB.out]; exact decide_eq_true hxb
        have hr1 : r = true := by rw [← HR.out]; exact decide_eq_true (by rw [← hxb, ← HX.out.1]; exact mem_getD (by rw [HN.out.2]; exact HX.out.2.2))
        subst hr1
        clear hxb
        go_wp2_with fail
        go_quiet (fail)
        go_wp2_with fail
        go_ret
        exact ⟨rfl, HI.out.1.trans (((Gr.refl wr).drewN nq).below.mono HI.out.1.size)⟩
      · have y : (t1.toList == t2.toList) = false := by rw [HSB.out]; exact decide_eq_false hxb
        have HXB := hide hxb
        clear hxb
        go_wp2_with fail
        go_quiet (fail)
        have hi32 : (i : Int) ≤ 2000000 := by have := HN.out.1; have := HX.out.2.2; omega
        go_wp2_with fail
        go_roundw
        case measure => have := HX.out.2.2; simp [intOf]; omega
        refine ⟨i + 1, HX.out.2.2, by go_num, HI.out.1.trans (((Gr.refl wr).drewN nq).below.mono HI.out.1.size), fun j hj => ?_⟩
        rcases Nat.lt_or_ge j i with h | h
        · exact HI.out.2 j h
        · obtain rfl : j = i := by omega
          rw [HX.out.1]
          exact HXB.out
    · obtain rfl : i = n := by omega
      have hr1 : r = false := by rw [← HR.out]; exact decide_eq_false (not_mem_getD (by rw [HN.out.2]; exact HI.out.2))
      subst hr1
      clear hlt hi
      go_wp2_with fail
      go_ret
      exact ⟨rfl, HI.out.1⟩
end Go.Proofs.YtbinmkigolkhcaaDoor
