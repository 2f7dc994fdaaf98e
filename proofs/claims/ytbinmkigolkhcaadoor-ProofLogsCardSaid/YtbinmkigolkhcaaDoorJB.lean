/- The specification's Include and Extend; equal steps, equal hashes. -/
import Derived.Test.YtbinmkigolkhcaaDoorJA
import Derived.Test.YtbinmkigolkhcaaDoorHX
import Derived.Test.YtbinmkigolkhcaaDoorHT
set_option linter.unusedSimpArgs false
set_option linter.unusedVariables false
namespace Go.Proofs.YtbinmkigolkhcaaDoor
open Go.RowKit Go.Sort
attribute [local go_sem] Oper.semAt_some

set_option maxHeartbeats 2000000 in
set_option maxRecDepth 100000 in
theorem refInclude_any (A : Option Addr) (n c : Nat) (ls : List (List UInt8)) (i : Int) (w : World) (hx : ListsAt w.heap.size w A n ls) (hn : n ≤ 4096) (hc : n ≤ c) (hsm : Small ls) :
    Calls Tryd.prog 26 #[.slice A n c, .int .i64 i] w (TwoSteps (pIncludeV ls i) w) := by
  have mixed := mixedOrders
  have HW := hide (List_any A n c ls w hx hn)
  have hlen := hx.1
  unfold pIncludeV
  unfold listE at HW
  rw [hlen]
  cases hb : longB ls
  · rw [hb, if_neg (by decide)] at HW
    rw [if_neg (by decide)]
    rcases Int.lt_or_le i 0 with h | h
    · rw [if_pos (.inl h)]
      clear hb hx hlen hn hc hsm
      go_enter Tryd.func26, Tryd.ntmps26
      go_wp2_with fail
      refine HW.out.mono ?_
      rintro e w1 ⟨rfl, rfl⟩
      go_wp2_with fail
      go_ret2
      exact ⟨none, 0, rfl, World.ownsRow_nil _ _ _ _, Below.refl _ _⟩
    · have g1 : ¬ i < 0 := by omega
      rcases Int.lt_or_le i (n : Int) with h2 | h2
      · rw [if_neg (by omega)]
        obtain ⟨i', rfl⟩ : ∃ k : Nat, i = k := ⟨i.toNat, by omega⟩
        rw [Int.toNat_natCast]
        have g2 : ¬ (n : Int) ≤ (i' : Int) := by omega
        have HS := hide (way_any n n i' A c ls w (Nat.le_refl _) (by omega) (by omega) (by omega) hx hc hsm)
        unfold StepsPost at HS
        obtain ⟨L, hL⟩ : ∃ L, stepsV ls i' = L := ⟨_, rfl⟩
        rw [hL] at HS ⊢
        clear hb hx hlen hn hc h h2 hL hsm
        go_enter Tryd.func26, Tryd.ntmps26
        go_wp2_with fail
        refine HW.out.mono ?_
        rintro e w1 ⟨rfl, rfl⟩
        go_wp2_with fail
        refine HS.out.mono ?_
        rintro e w2 ⟨a, c2, rfl, ho, hb⟩
        have HO := hide ho
        have HB := hide hb
        clear ho hb HS
        go_wp2_with fail
        go_ret2
        exact ⟨a, c2, rfl, HO.out, HB.out⟩
      · rw [if_pos (.inr h2)]
        clear hb hx hlen hn hc h hsm
        go_enter Tryd.func26, Tryd.ntmps26
        go_wp2_with fail
        refine HW.out.mono ?_
        rintro e w1 ⟨rfl, rfl⟩
        go_wp2_with fail
        go_ret2
        exact ⟨none, 0, rfl, World.ownsRow_nil _ _ _ _, Below.refl _ _⟩
  · rw [hb, if_pos rfl] at HW
    rw [if_pos rfl]
    clear hb hx hlen hn hc hsm
    go_enter Tryd.func26, Tryd.ntmps26
    go_wp2_with fail
    refine HW.out.mono ?_
    rintro e w1 ⟨rfl, rfl⟩
    go_wp2_with fail
    go_ret2
    exact ⟨none, 0, rfl, World.ownsRow_nil _ _ _ _, Below.refl _ _⟩
set_option maxHeartbeats 2000000 in
set_option maxRecDepth 100000 in
theorem refExtend_any (A : Option Addr) (n c : Nat) (ls : List (List UInt8)) (i : Int) (w : World) (hx : ListsAt w.heap.size w A n ls) (hn : n ≤ 4096) (hc : n ≤ c) (hsm : Small ls) :
    Calls Tryd.prog 27 #[.slice A n c, .int .i64 i] w (TwoHashes (extendV ls i) w) := by
  have mixed := mixedOrders
  have HW := hide (List_any A n c ls w hx hn)
  have hlen := hx.1
  unfold extendV
  unfold listE at HW
  rw [hlen]
  cases hb : longB ls
  · rw [hb, if_neg (by decide)] at HW
    rw [if_neg (by decide)]
    rcases Int.lt_or_le i 1 with h | h
    · rw [if_pos (.inl h)]
      clear hb hx hlen hn hc hsm
      go_enter Tryd.func27, Tryd.ntmps27
      go_wp2_with fail
      refine HW.out.mono ?_
      rintro e w1 ⟨rfl, rfl⟩
      go_wp2_with fail
      go_ret2
      exact ⟨none, 0, rfl, World.ownsRow_nil _ _ _ _, Below.refl _ _⟩
    · have g1 : ¬ i < 1 := by omega
      rcases Int.lt_or_le (n : Int) i with h2 | h2
      · rw [if_pos (.inr h2)]
        clear hb hx hlen hn hc h hsm
        go_enter Tryd.func27, Tryd.ntmps27
        go_wp2_with fail
        refine HW.out.mono ?_
        rintro e w1 ⟨rfl, rfl⟩
        go_wp2_with fail
        go_ret2
        exact ⟨none, 0, rfl, World.ownsRow_nil _ _ _ _, Below.refl _ _⟩
      · rw [if_neg (by omega)]
        obtain ⟨i', rfl⟩ : ∃ k : Nat, i = k := ⟨i.toNat, by omega⟩
        rw [Int.toNat_natCast]
        have g2 : ¬ (n : Int) < (i' : Int) := by omega
        have HS := hide (refproof_any n n i' A c true ls w (Nat.le_refl _) (by omega) (by omega) (by omega) hx hc hsm)
        unfold HashesPost at HS
        obtain ⟨L, hL⟩ : ∃ L, growthV ls i' true = L := ⟨_, rfl⟩
        rw [hL] at HS ⊢
        clear hb hx hlen hn hc h h2 hL hsm
        go_enter Tryd.func27, Tryd.ntmps27
        go_wp2_with fail
        refine HW.out.mono ?_
        rintro e w1 ⟨rfl, rfl⟩
        go_wp2_with fail
        refine HS.out.mono ?_
        rintro e w2 ⟨a, c2, rfl, ho, hb⟩
        have HO := hide ho
        have HB := hide hb
        clear ho hb HS
        go_wp2_with fail
        go_ret2
        exact ⟨a, c2, rfl, HO.out, HB.out⟩
  · rw [hb, if_pos rfl] at HW
    rw [if_pos rfl]
    clear hb hx hlen hn hc hsm
    go_enter Tryd.func27, Tryd.ntmps27
    go_wp2_with fail
    refine HW.out.mono ?_
    rintro e w1 ⟨rfl, rfl⟩
    go_wp2_with fail
    go_ret2
    exact ⟨none, 0, rfl, World.ownsRow_nil _ _ _ _, Below.refl _ _⟩

set_option maxHeartbeats 2000000 in
set_option maxRecDepth 100000 in
theorem hashes_same (A : Option Addr) (n c : Nat) (B : Option Addr) (d : Nat) (hs : List Nat) (w : World) (hx : HashesAt w.heap.size w A n hs) (hy : HashesAt w.heap.size w B n hs) (hn : n ≤ 1000000) :
    Calls Tryd.prog 31 #[.slice A n c, .slice B n d] w fun e w' => e = .returned (.bool true) ∧ Below w.heap.size w w' := by
  have mixed := mixedOrders
  have HX := hide hx
  have HY := hide hy
  have HN := hide hn
  have z0 : ((n : Int) != (n : Int)) = false := by simp
  clear hx hy hn
  go_enter Tryd.func31, Tryd.ntmps31
  go_wp2_with fail
  go_loopw [5] (fun vi wr => ∃ i : Nat, i ≤ n ∧ vi = .int .i64 i ∧ Hid (∃ k, wr = w.drewN k)) (fun vi _ => n - (intOf vi).toNat)
  case atStart => exact ⟨0, Nat.zero_le _, rfl, 0, rfl⟩
  case round =>
    obtain ⟨i, hi, rfl, HI⟩ := hrel
    obtain ⟨kk, rfl⟩ := HI.out
    by_cases hlt : i < n
    · have hlt' : (i : Int) < (n : Int) := by omega
      obtain ⟨b, off, rfl, hb, c0, -⟩ := HX.out.at_ hlt
      obtain ⟨b2, off2, rfl, hb2, c2, -⟩ := HY.out.at_ hlt
      obtain ⟨x, hxx⟩ : ∃ x, hashA hs i = x := ⟨_, rfl⟩
      rw [hxx] at c0 c2
      have c1q : ∀ nq, (w.drewN nq).cell? ⟨b, off + i, none⟩ = some (.int .u64 (x : Nat)) := fun _ => c0
      have c2q : ∀ nq, (w.drewN nq).cell? ⟨b2, off2 + i, none⟩ = some (.int .u64 (x : Nat)) := fun _ => c2
      have zz : ((x : Int) != (x : Int)) = false := by simp
      have hN := HN.out
      have HLT := hide hlt
      clear hxx c0 c2 hi hlt
      go_wp2_with fail
      go_quiet (fail)
      go_wp2_with fail
      go_roundw
      case measure => have := HLT.out; simp [intOf]; omega
      exact ⟨i + 1, by have := HLT.out; omega, by go_num, _, rfl⟩
    · obtain rfl : i = n := by omega
      go_wp2_with fail
      go_ret
      exact ⟨rfl, ((Gr.refl w).drewN _).below⟩
set_option maxHeartbeats 2000000 in
set_option maxRecDepth 100000 in
theorem steps_same (A : Option Addr) (n c : Nat) (B : Option Addr) (d : Nat) (ss : List St) (w : World) (hx : StepsAt w.heap.size w A n ss) (hy : StepsAt w.heap.size w B n ss) (hn : n ≤ 1000000) :
    Calls Tryd.prog 29 #[.slice A n c, .slice B n d] w fun e w' => e = .returned (.bool true) ∧ Below w.heap.size w w' := by
  have mixed := mixedOrders
  have HX := hide hx
  have HY := hide hy
  have HN := hide hn
  have z0 : ((n : Int) != (n : Int)) = false := by simp
  clear hx hy hn
  go_enter Tryd.func29, Tryd.ntmps29
  go_wp2_with fail
  go_loopw [5] (fun vi wr => ∃ i : Nat, i ≤ n ∧ vi = .int .i64 i ∧ Hid (∃ k, wr = w.drewN k)) (fun vi _ => n - (intOf vi).toNat)
  case atStart => exact ⟨0, Nat.zero_le _, rfl, 0, rfl⟩
  case round =>
    obtain ⟨i, hi, rfl, HI⟩ := hrel
    obtain ⟨kk, rfl⟩ := HI.out
    by_cases hlt : i < n
    · have hlt' : (i : Int) < (n : Int) := by omega
      obtain ⟨b, off, rfl, hb, c0, c1, -⟩ := HX.out.at_ hlt
      obtain ⟨b2, off2, rfl, hb2, d0, d1, -⟩ := HY.out.at_ hlt
      obtain ⟨x, hxx⟩ : ∃ x, stH ss i = x := ⟨_, rfl⟩
      obtain ⟨y, hyy⟩ : ∃ y, stL ss i = y := ⟨_, rfl⟩
      rw [hxx] at c0 d0
      rw [hyy] at c1 d1
      have c1q : ∀ nq, (w.drewN nq).cell? ⟨b, off + i * 2, none⟩ = some (.int .u64 (x : Nat)) := fun _ => c0
      have c2q : ∀ nq, (w.drewN nq).cell? ⟨b, off + i * 2 + 1, none⟩ = some (.bool y) := fun _ => c1
      have c3q : ∀ nq, (w.drewN nq).cell? ⟨b2, off2 + i * 2, none⟩ = some (.int .u64 (x : Nat)) := fun _ => d0
      have c4q : ∀ nq, (w.drewN nq).cell? ⟨b2, off2 + i * 2 + 1, none⟩ = some (.bool y) := fun _ => d1
      have zz : ((x : Int) != (x : Int)) = false := by simp
      have zy : ((x : Int) == (x : Int)) = true := by simp
      have hN := HN.out
      have HLT := hide hlt
      clear hxx hyy c0 c1 d0 d1 hi hlt
      go_wp2_with fail
      go_quiet (fail)
      go_wp2_with fail
      go_roundw
      case measure => have := HLT.out; simp [intOf]; omega
      exact ⟨i + 1, by have := HLT.out; omega, by go_num, _, rfl⟩
    · obtain rfl : i = n := by omega
      go_wp2_with fail
      go_ret
      exact ⟨rfl, ((Gr.refl w).drewN _).below⟩
end Go.Proofs.YtbinmkigolkhcaaDoor
