/- The specification's Top, List, Root. -/
import Derived.Test.YtbinmkigolkhcaaDoorHR
import Derived.Test.YtbinmkigolkhcaaDoorHG
import Derived.Deep.RegionHeld3
set_option linter.unusedSimpArgs false
set_option linter.unusedVariables false
namespace Go.Proofs.YtbinmkigolkhcaaDoor
open Go.RowKit Go.Sort
attribute [local go_sem] Oper.semAt_some

def Small (ls : List (List UInt8)) : Prop := ∀ l ∈ ls, l.length ≤ 100000
theorem Small.take {ls : List (List UInt8)} (h : Small ls) (k : Nat) : Small (ls.take k) := fun l hl => h l (List.mem_of_mem_take hl)
theorem Small.drop {ls : List (List UInt8)} (h : Small ls) (k : Nat) : Small (ls.drop k) := fun l hl => h l (List.mem_of_mem_drop hl)
set_option maxHeartbeats 2000000 in
set_option maxRecDepth 100000 in
theorem Top_any : ∀ (N n : Nat) (A : Option Addr) (c : Nat) (ls : List (List UInt8)) (w : World), n ≤ N → ListsAt w.heap.size w A n ls → n ≤ c → n ≤ 1000000 → Small ls →
    Calls Tryd.prog 57 #[.slice A n c] w fun e w' => e = .returned (.int .u64 (rootV ls : Nat)) ∧ Below w.heap.size w w' := by
  have mixed := mixedOrders
  intro N
  induction N with
  | zero =>
    intro n A c ls w hN hx _ _ _
    obtain rfl : n = 0 := by omega
    have hnil : ls = [] := List.eq_nil_of_length_eq_zero hx.1
    subst hnil
    go_enter Tryd.func57, Tryd.ntmps57
    go_wp2
    go_ret
    exact ⟨rfl, Below.refl _ _⟩
  | succ N ih =>
    intro n A c ls w hN hx hc h2 hsm
    rcases Nat.lt_or_ge n 2 with hs | hs
    · rcases Nat.eq_zero_or_pos n with h0 | h0
      · subst h0
        have hnil : ls = [] := List.eq_nil_of_length_eq_zero hx.1
        subst hnil
        clear hsm
        go_enter Tryd.func57, Tryd.ntmps57
        go_wp2
        go_ret
        exact ⟨rfl, Below.refl _ _⟩
      · obtain rfl : n = 1 := by omega
        obtain ⟨l, rfl⟩ : ∃ l, ls = [l] := List.length_eq_one_iff.1 hx.1
        obtain ⟨b, off, Ai, ni, ci, rfl, hb, c0, hB, hni⟩ := hx.at_ (i := 0) (by omega)
        rw [Nat.add_zero] at c0
        have hni2 := hsm l (by simp)
        have hl := hB.1
        have hl2 : l.length = ni := hl
        have HL := hide (refLeaf_any Ai ni ci l w hB (by omega))
        clear hx hB hsm hl hl2
        go_enter Tryd.func57, Tryd.ntmps57
        go_wp2_with fail
        refine HL.out.mono ?_
        rintro e w1 ⟨rfl, hb1⟩
        go_wp2
        go_ret
        exact ⟨by rw [root_1]; rfl, hb1⟩
    · obtain ⟨b, off, -, -, -, rfl, hb, -, -, -⟩ := hx.at_ (i := 0) (by omega)
      obtain ⟨p1, p2⟩ := halfN_lt hs
      have HH := hide (refhalf_any n hs h2 w)
      have z0 : ((n : Int) == 0) = false := beq_eq_false_iff_ne.2 (by omega)
      have z1 : ((n : Int) == 1) = false := beq_eq_false_iff_ne.2 (by omega)
      have HR := hide (root_2 (l := ls) (by rw [hx.1]; exact hs))
      rw [hx.1] at HR
      obtain ⟨m, hm⟩ : ∃ m, halfN n = m := ⟨_, rfl⟩
      rw [hm] at p1 p2 HH HR
      have hd : Below w.heap.size w w.drew := ((Gr.refl w).drew).below
      have C1 := hide (ih m (some ⟨b, off, none⟩) c (ls.take m) w.drew (by omega) ((hx.take (k := m) (by omega)).now hd (Nat.le_refl _)) (by omega) (by omega) (hsm.take m))
      have C2 : Hid (∀ w1, Below w.heap.size w w1 → Calls Tryd.prog 57 #[.slice (some ⟨b, off + m, none⟩) (n - m) (c - m)] w1 fun e w' => e = .returned (.int .u64 (rootV (ls.drop m) : Nat)) ∧ Below w1.heap.size w1 w') :=
        fun w1 hb1 => ih (n - m) (some ⟨b, off + m, none⟩) (c - m) (ls.drop m) w1 (by omega) ((hx.drop (k := m) (by omega)).now hb1 (Nat.le_refl _)) (by omega) (by omega) (hsm.drop m)
      have C3 : Hid (∀ w1, Calls Tryd.prog 25 #[.int .u64 (rootV (ls.take m) : Nat), .int .u64 (rootV (ls.drop m) : Nat)] w1 fun e w' => e = .returned (.int .u64 (nodeV (rootV (ls.take m)) (rootV (ls.drop m)) : Nat)) ∧ Below w1.heap.size w1 w') :=
        fun w1 => refNode_any _ _ (rootV_lt _) (rootV_lt _) w1
      rw [HR.out]
      obtain ⟨r1, hr1⟩ : ∃ r, rootV (ls.take m) = r := ⟨_, rfl⟩
      obtain ⟨r2, hr2⟩ : ∃ r, rootV (ls.drop m) = r := ⟨_, rfl⟩
      rw [hr1] at C1 C3 ⊢
      rw [hr2] at C2 C3 ⊢
      have g1 : m ≤ n := by omega
      have g2 : m ≤ c := by omega
      have g3 : (m : Int) ≤ (n : Int) := by omega
      have g4 : (m : Int) ≤ (c : Int) := by omega
      have HD := hide hd
      clear hx hN h2 hs hm ih hb HR hr1 hr2 hsm hd
      go_enter Tryd.func57, Tryd.ntmps57
      go_wp2_with fail
      refine HH.out.mono ?_
      rintro e w1 ⟨rfl, rfl⟩
      go_wp2_with fail
      go_region_held3 (fun w' => Hid (Below w.heap.size w w')) (first | exact HD | exact HB2 | exact HB3 | exact HB4 | exact (Below.refl _ _))
        (first | (go_at_call 57; (with_reducible refine C1.out.mono ?_); rintro e w2 ⟨rfl, hb2⟩; have HB2 := hide (HD.out.trans (hb2.mono HD.out.size)); clear hb2) | (go_at_call 57; (with_reducible refine (C2.out _ HB2.out).mono ?_); rintro e w3 ⟨rfl, hb3⟩; have HB3 := hide (HB2.out.trans (hb3.mono HB2.out.size)); clear hb3) | (go_at_call 25; (with_reducible refine (C3.out _).mono ?_); rintro e w4 ⟨rfl, hb4⟩; have HB4 := hide (HB3.out.trans (hb4.mono HB3.out.size)); clear hb4))
      go_wp2
      go_ret
      exact ⟨rfl, HB4.out⟩
end Go.Proofs.YtbinmkigolkhcaaDoor
