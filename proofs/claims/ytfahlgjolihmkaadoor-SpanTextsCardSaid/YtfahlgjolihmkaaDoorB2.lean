/- Contracts of stretch, Has and its specification. -/
import Derived.Test.YtfahlgjolihmkaaDoorM1
namespace Go.Proofs.YtfahlgjolihmkaaDoor
open Go.RowKit Go.Sort

theorem ret_val {v v' : Value} (h : v = v') : Ending.returned v = .returned v' := by rw [h]
theorem ret_two {a a' : Bool} {b b' : Int} (h : a = a' ∧ b = b') : Ending.returned (.tuple #[.bool a, .int .i64 b]) = .returned (.tuple #[.bool a', .int .i64 b']) := by rw [h.1, h.2]

set_option maxHeartbeats 2000000 in
set_option maxRecDepth 100000 in
theorem stretch_any (A : Option Addr) (n cap : Nat) (x : Int) (xs : List Sp) (w : World) (hx : SpansAt w.heap.size w A n xs) (hs : setTo xs n) (hn : n ≤ 1000000) :
    Calls Tryd.prog 50 #[.slice A n cap, .int .i64 x] w fun e w' => e = .returned (.tuple #[.bool (inB xs x), .int .i64 (strE xs x)]) ∧ Gr w w' := by
  have mixed := mixedOrders
  have HX := hide hx
  have HC := hide (str_cases (x := x) hx.1 hs)
  clear hx hs
  have HS : Hid (∀ (W : World), Gr w W → ∀ (Bx Ba : Nat), W.cell? ⟨Bx, 0, none⟩ = some (.int .i64 x) → W.cell? ⟨Ba, 0, none⟩ = some (.slice A n cap) → Bx < W.heap.size → Ba < W.heap.size →
      Calls Tryd.prog 63 #[.int .i64 n, .func (.func 64) #[] #[.pointer (some ⟨Bx, 0, none⟩), .pointer (some ⟨Ba, 0, none⟩)]] W (FoundAt (fun i => decide (x < hiA xs i)) n W)) := by
    intro W hG Bx Ba h1 h2 l1 l2
    refine search_any 64 #[.pointer (some ⟨Bx, 0, none⟩), .pointer (some ⟨Ba, 0, none⟩)] n (fun i => decide (x < hiA xs i)) W hn (enters_of Tryd.func64 (by kernel_rfl) rfl) fun i W' hi hG' => ?_
    exact stretch1_any A n cap i Bx Ba x xs W' hi ((HX.out.gr hG).gr hG') ((hG'.cell (p := ⟨Bx, 0, none⟩) l1).trans h1) ((hG'.cell (p := ⟨Ba, 0, none⟩) l2).trans h2)
  go_enter Tryd.func50, Tryd.ntmps50
  go_wp2_with fail
  refine (HS.out _ (((Gr.refl w).alloc _).alloc _) _ _ (by simp) (by simp) (by simp) (by simp; omega)).mono ?_
  rintro e w2 ⟨i, hin, rfl, h1, h2, hG⟩
  have HF := hide (HC.out i h1 h2 hin)
  have HG := hide hG
  have l2 : w.heap.size < w2.heap.size := by have := hG.size; simp at this; omega
  have l3 : w.heap.size + 1 < w2.heap.size := by have := hG.size; simp at this; omega
  have e2 : w2.cell? ⟨w.heap.size, 0, none⟩ = some (.slice A n cap) := by rw [hG.cell (by simp; omega)]; simp
  have e3 : w2.cell? ⟨w.heap.size + 1, 0, none⟩ = some (.int .i64 x) := by rw [hG.cell (by simp)]; simp
  have hG1 := hide (((Gr.refl w).alloc (.cells #[.slice A n cap] 22)).alloc (.cells #[.int .i64 x] 3) |>.trans hG)
  clear h1 h2 hG HC HS
  rcases Nat.lt_or_ge i n with hlt | hge
  · have hlt' : (i : Int) < (n : Int) := by omega
    have hb : ((i : Int) == (n : Int)) = false := beq_eq_false_iff_ne.2 (by omega)
    obtain ⟨b, off, rfl, hb1, c0, c1⟩ := (HX.out.gr hG1.out).at_ hlt
    have E0 : ∀ nq, (w2.drewN nq).cell? ⟨w.heap.size, 0, none⟩ = some (.slice (some ⟨b, off, none⟩) n cap) := fun _ => e2
    have E1 : ∀ nq, (w2.drewN nq).cell? ⟨w.heap.size + 1, 0, none⟩ = some (.int .i64 x) := fun _ => e3
    have E2 : ∀ nq, (w2.drewN nq).cell? ⟨b, off + i * 2, none⟩ = some (.int .i64 (loA xs i)) := fun _ => c0
    have E3 : ∀ nq, (w2.drewN nq).cell? ⟨b, off + i * 2 + 1, none⟩ = some (.int .i64 (hiA xs i)) := fun _ => c1
    by_cases hxl : x < loA xs i
    · go_wp2_with fail
      go_quiet (fail)
      go_wp2_with fail
      go_quiet (fail)
      go_wp2
      go_ret2
      have hf := HF.out.2.1 hlt hxl
      exact ⟨ret_two ⟨hf.1.symm, hf.2.symm⟩, (hG1.out.drewN _).drewN _⟩
    · go_wp2_with fail
      go_quiet (fail)
      go_wp2_with fail
      go_quiet (fail)
      go_wp2
      go_ret2
      have hf := HF.out.2.2 hlt (by omega)
      exact ⟨ret_two ⟨hf.1.symm, hf.2.symm⟩, (hG1.out.drewN _).drewN _⟩
  · obtain rfl : i = n := by omega
    go_wp2
    go_ret2
    have hf := HF.out.1 (by trivial)
    exact ⟨ret_two ⟨hf.1.symm, hf.2.symm⟩, hG1.out⟩

/-- what Has hands back -/
def hasV (xs : List Sp) (x : Int) : Value := .tuple #[.bool (setB xs && inB xs x), .int .i64 (if setB xs then 0 else 2)]

set_option maxHeartbeats 1000000 in
theorem Has_any (A : Option Addr) (n cap : Nat) (x : Int) (xs : List Sp) (w : World) (hx : SpansAt w.heap.size w A n xs) :
    Calls Tryd.prog 34 #[.slice A n cap, .int .i64 x] w fun e w' => e = .returned (hasV xs x) ∧ Gr w w' := by
  have HX := hide hx
  have HV := hide (Valid_any A n cap xs w hx)
  clear hx
  cases hv : setB xs
  · have HE : Hid (hasV xs x = .tuple #[.bool false, .int .i64 2]) := by show hasV xs x = _; unfold hasV; rw [hv]; rfl
    go_enter Tryd.func34, Tryd.ntmps34
    go_wp2_with (go_at_call 22; refine HV.out.mono ?_; rintro e w2 ⟨rfl, hG⟩)
    go_ret2
    exact ⟨ret_val HE.out.symm, hG⟩
  · have HE : Hid (hasV xs x = .tuple #[.bool (inB xs x), .int .i64 0]) := by show hasV xs x = _; unfold hasV; rw [hv]; rfl
    have HS := hide (setB_true hv)
    go_enter Tryd.func34, Tryd.ntmps34
    go_wp2_with fail
    refine HV.out.mono ?_
    rintro e w2 ⟨rfl, hG⟩
    have HG := hide hG
    clear hG
    go_wp2_with fail
    refine (stretch_any A n cap x xs _ (HX.out.gr HG.out) (by rw [← HX.out.1]; exact HS.out.2) (by have := HS.out.1; have := HX.out.1; omega)).mono ?_
    rintro e w3 ⟨rfl, hG⟩
    go_wp2
    go_ret2
    exact ⟨ret_val HE.out.symm, HG.out.trans hG⟩

end Go.Proofs.YtfahlgjolihmkaaDoor
