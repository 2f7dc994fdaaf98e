/- Contracts of sort.Search, stretch, Has and its specification. -/
import Derived.Test.YtfahlgjolihmkaaDoorA4
namespace Go.Proofs.YtfahlgjolihmkaaDoor
open Go.RowKit Go.Sort

/-- WHAT Search hands back: a place at which p turns from false to true. -/
def FoundAt (p : Nat → Bool) (n : Nat) (w : World) (e : Ending) (w' : World) : Prop :=
  ∃ i : Nat, i ≤ n ∧ e = .returned (.int .i64 i) ∧ (∀ j, j + 1 = i → p j = false) ∧ (i < n → p i = true) ∧ Gr w w'

theorem mid_wrap (i j : Nat) (h : i ≤ 1000000) (h' : j ≤ 1000000) : IntKind.u64.wrap ((i : Int) + (j : Int)) = (i : Int) + (j : Int) := by
  rw [IntKind.wrap_u64]; omega

set_option maxHeartbeats 1000000 in
theorem search_any (g : Nat) (lb : Array Value) (n : Nat) (p : Nat → Bool) (w : World) (hn : n ≤ 1000000) (eg : ∀ args w, (callFunc g args).run Tryd.prog w = .ok (.enter g args) w)
    (hp : ∀ (i : Nat) (W : World), i < n → Gr w W → Calls Tryd.prog g (#[.int .i64 i] ++ lb) W fun e w' => e = .returned (.bool (p i)) ∧ Gr W w') :
    Calls Tryd.prog 63 #[.int .i64 n, .func (.func g) #[] lb] w (FoundAt p n w) := by
  have HP := hide hp
  clear hp
  go_enter Tryd.func63, Tryd.ntmps63
  go_wp2
  go_loopw [5, 6] (fun vi vj wr => ∃ i j : Nat, i ≤ j ∧ j ≤ n ∧ vi = .int .i64 i ∧ vj = .int .i64 j ∧ Hid ((∀ k, k + 1 = i → p k = false) ∧ (j < n → p j = true)) ∧ Gr w wr) (fun vi vj _ => (intOf vj - intOf vi).toNat)
  case atStart => exact ⟨0, n, Nat.zero_le _, Nat.le_refl _, rfl, rfl, ⟨fun k hk => by omega, fun h => by omega⟩, Gr.refl _⟩
  case round =>
    obtain ⟨i, j, hij, hjn, rfl, rfl, HI, hG⟩ := hrel
    by_cases hlt : i < j
    · obtain ⟨h, hh1, hh2, hh⟩ : ∃ h : Nat, i ≤ h ∧ h < j ∧ h = (i + j) / 2 := ⟨(i + j) / 2, by omega, by omega, rfl⟩
      have he : ((i : Int) + (j : Int)) / 2 = ((h : Nat) : Int) := by omega
      have HC := hide (HP.out h wr (by omega) hG)
      have HE := hide he
      clear he hh
      go_wp2_with fail
      rw [HE.out]
      refine HC.out.mono ?_
      rintro e w2 ⟨rfl, hG2⟩
      cases hv : p h
      · have hI : Hid ((∀ k, k + 1 = h + 1 → p k = false) ∧ (j < n → p j = true)) := ⟨fun k hk => (by have e : k = h := (by omega); rw [e]; exact hv), HI.out.2⟩
        go_wp2
        go_roundw
        case rel => exact ⟨h + 1, j, by omega, hjn, by go_num, rfl, hI, hG.trans hG2⟩
        case measure => simp [intOf]; omega
      · have hI : Hid ((∀ k, k + 1 = i → p k = false) ∧ (h < n → p h = true)) := ⟨HI.out.1, fun _ => hv⟩
        go_wp2
        go_roundw
        case rel => exact ⟨i, h, hh1, by omega, rfl, rfl, hI, hG.trans hG2⟩
        case measure => simp [intOf]; omega
    · obtain rfl : i = j := by omega
      go_wp2
      go_ret
      exact ⟨i, hjn, rfl, HI.out.1, HI.out.2, hG⟩

set_option maxHeartbeats 1000000 in
set_option maxRecDepth 100000 in
theorem stretch1_any (A : Option Addr) (n cap i Bx Ba : Nat) (x : Int) (xs : List Sp) (w : World) (hi : i < n) (hx : SpansAt w.heap.size w A n xs)
    (h1 : w.cell? ⟨Bx, 0, none⟩ = some (.int .i64 x)) (h2 : w.cell? ⟨Ba, 0, none⟩ = some (.slice A n cap)) :
    Calls Tryd.prog 64 #[.int .i64 i, .pointer (some ⟨Bx, 0, none⟩), .pointer (some ⟨Ba, 0, none⟩)] w fun e w' => e = .returned (.bool (decide (x < hiA xs i))) ∧ Gr w w' := by
  have mixed := mixedOrders
  obtain ⟨b, off, rfl, hb, c0, c1⟩ := hx.at_ hi
  clear hx
  have hi' : (i : Int) < (n : Int) := by omega
  have E1 : ∀ nq, (w.drewN nq).cell? ⟨Bx, 0, none⟩ = some (.int .i64 x) := fun _ => h1
  have E2 : ∀ nq, (w.drewN nq).cell? ⟨Ba, 0, none⟩ = some (.slice (some ⟨b, off, none⟩) n cap) := fun _ => h2
  have E3 : ∀ nq, (w.drewN nq).cell? ⟨b, off + i * 2 + 1, none⟩ = some (.int .i64 (hiA xs i)) := fun _ => c1
  clear h1 h2 c0 c1
  go_enter Tryd.func64, Tryd.ntmps64
  go_wp2_with fail
  go_quiet (fail)
  go_wp2
  go_ret
  exact ⟨rfl, (Gr.refl _).drewN _⟩

/-- up to which number what stretch says stays so -/
def strE (xs : List Sp) (x : Int) : Int := match xs.find? (fun s => decide (x < s.2)) with
  | none => 1099511627776
  | some s => if x < s.1 then s.1 else s.2

end Go.Proofs.YtfahlgjolihmkaaDoor
