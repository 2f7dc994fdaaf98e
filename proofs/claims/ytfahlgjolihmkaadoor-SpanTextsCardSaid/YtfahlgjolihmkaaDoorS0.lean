/- Contracts of cmp.Compare, of the keys, and of the comparison that inOrder hands to the sort. -/
import Derived.Test.YtfahlgjolihmkaaDoorD2
namespace Go.Proofs.YtfahlgjolihmkaaDoor
open Go.RowKit Go.Sort

theorem isNaN_any (x : Int) (w : World) : Calls Tryd.prog 66 #[.int .i64 x] w fun e w' => e = .returned (.bool false) ∧ w = w' := by
  have h : (x != x) = false := by simp
  go_enter Tryd.func66, Tryd.ntmps66
  go_wp2
  go_ret
  exact ⟨rfl, rfl⟩

/-- what cmp.Compare says of two numbers -/
def cmpV (x y : Int) : Int := if x < y then -1 else if y < x then 1 else 0
theorem cmpV_neg {x y : Int} : cmpV x y < 0 ↔ x < y := by unfold cmpV; split <;> (try split) <;> omega

set_option maxHeartbeats 400000 in
theorem compare_any (x y : Int) (w : World) : Calls Tryd.prog 54 #[.int .i64 x, .int .i64 y] w fun e w' => e = .returned (.int .i64 (cmpV x y)) ∧ w = w' := by
  by_cases h1 : x < y
  · have H : Hid (cmpV x y = -1) := by show cmpV x y = -1; unfold cmpV; rw [if_pos h1]
    go_enter Tryd.func54, Tryd.ntmps54
    go_wp2_with (go_at_call 66; refine (isNaN_any _ _).mono ?_; rintro e w' ⟨rfl, rfl⟩)
    go_ret
    exact ⟨ret_int H.out.symm, rfl⟩
  · by_cases h2 : y < x
    · have H : Hid (cmpV x y = 1) := by show cmpV x y = 1; unfold cmpV; rw [if_neg h1, if_pos h2]
      go_enter Tryd.func54, Tryd.ntmps54
      go_wp2_with (go_at_call 66; refine (isNaN_any _ _).mono ?_; rintro e w' ⟨rfl, rfl⟩)
      go_ret
      exact ⟨ret_int H.out.symm, rfl⟩
    · have H : Hid (cmpV x y = 0) := by show cmpV x y = 0; unfold cmpV; rw [if_neg h1, if_neg h2]
      go_enter Tryd.func54, Tryd.ntmps54
      go_wp2_with (go_at_call 66; refine (isNaN_any _ _).mono ?_; rintro e w' ⟨rfl, rfl⟩)
      go_ret
      exact ⟨ret_int H.out.symm, rfl⟩

/-- what is asked of the key: a function of the two ends -/
def KeyCalls (g : Nat) (kf : Int → Int → Int) : Prop := (∀ args w, (callFunc g args).run Tryd.prog w = .ok (.enter g args) w) ∧ ∀ (a b : Int) (W : World), Calls Tryd.prog g #[.agg #[.int .i64 a, .int .i64 b]] W fun e w' => e = .returned (.int .i64 (kf a b)) ∧ Gr W w'

theorem key66 : KeyCalls 37 (fun a _ => a) := ⟨enters_of Tryd.func37 (by kernel_rfl) rfl, fun a b W => by
  go_enter Tryd.func37, Tryd.ntmps37
  go_wp2
  go_ret
  exact ⟨rfl, (Gr.refl _).alloc _⟩⟩
/-- the key of the i-th span -/
def keyA (kf : Int → Int → Int) (xs : List Sp) (i : Nat) : Int := kf (loA xs i) (hiA xs i)

set_option maxHeartbeats 2000000 in
set_option maxRecDepth 100000 in
theorem cmp_any (g : Nat) (kf : Int → Int → Int) (hk : KeyCalls g kf) (A : Option Addr) (n cap Bk Bl i j B : Nat) (xs : List Sp) (w : World) (hi : i < n) (hj : j < n) (hB : B ≤ w.heap.size) (hx : SpansAt B w A n xs)
    (h1 : w.cell? ⟨Bk, 0, none⟩ = some (.func (.func g) #[] #[])) (h2 : w.cell? ⟨Bl, 0, none⟩ = some (.slice A n cap)) (l1 : Bk < w.heap.size) (l2 : Bl < w.heap.size) :
    Calls Tryd.prog 53 #[.int .i64 i, .int .i64 j, .pointer (some ⟨Bk, 0, none⟩), .pointer (some ⟨Bl, 0, none⟩)] w fun e w' => e = .returned (.int .i64 (cmpV (keyA kf xs i) (keyA kf xs j))) ∧ Gr w w' := by
  have mixed := mixedOrders
  have eg := hk.1
  have HK := hide hk.2
  obtain ⟨b, off, rfl, hb, c0, c1⟩ := hx.at_ hi
  obtain ⟨c2, c3⟩ := hx.at2 hj
  have hi' : (i : Int) < (n : Int) := by omega
  have hj' : (j : Int) < (n : Int) := by omega
  have E1 := fun q os => cell_grown (n := q) (os := os) (a := ⟨Bk, 0, none⟩) l1 h1
  have E2 := fun q os => cell_grown (n := q) (os := os) (a := ⟨Bl, 0, none⟩) l2 h2
  have E3 := fun q os => cell_grown (n := q) (os := os) (a := ⟨b, off + i * 2, none⟩) (Nat.lt_of_lt_of_le hb hB) c0
  have E4 := fun q os => cell_grown (n := q) (os := os) (a := ⟨b, off + i * 2 + 1, none⟩) (Nat.lt_of_lt_of_le hb hB) c1
  have E5 := fun q os => cell_grown (n := q) (os := os) (a := ⟨b, off + j * 2, none⟩) (Nat.lt_of_lt_of_le hb hB) c2
  have E6 := fun q os => cell_grown (n := q) (os := os) (a := ⟨b, off + j * 2 + 1, none⟩) (Nat.lt_of_lt_of_le hb hB) c3
  have EC : Hid (∀ (x y : Int) (q : Nat) (os : Array Obj), Calls Tryd.prog 54 #[.int .i64 x, .int .i64 y] (grow (w.drewN q) os) fun e w'' => e = .returned (.int .i64 (cmpV x y)) ∧ ∃ p : GrownBy, w'' = grow (w.drewN p.n) p.os) := fun x y q os =>
    gr_call ((compare_any x y _).mono fun _ _ ⟨he, hw⟩ => ⟨he, by rw [← hw]; exact Gr.refl _⟩)
  clear hx c0 c1 c2 c3 h1 h2 hk
  go_enter Tryd.func53, Tryd.ntmps53
  go_wp2_with fail
  refine wp_region_quiet_grown (by assumption) (by kernel_rfl) ?_
  repeat (first | go_big_quiet_step ((first | (go_at_call 54; exact EC.out _ _ _ _) | exact gr_call (HK.out _ _ _))) | quiet_step ((first | (go_at_call 54; exact EC.out _ _ _ _) | exact gr_call (HK.out _ _ _))))
  refine wpQuiet_nil ?_
  intro _ hw'
  obtain ⟨⟨nq, osq⟩, hw''⟩ := hw'
  subst hw''
  go_wp2
  go_ret
  exact ⟨rfl, grown_gr _ _ _⟩

end Go.Proofs.YtfahlgjolihmkaaDoor
