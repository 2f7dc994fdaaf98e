/- List, Root of the specification; ProofHashes. -/
import Derived.Test.YtbinmkigolkhcaaDoorHW
import Derived.Test.YtbinmkigolkhcaaDoorHS
set_option linter.unusedSimpArgs false
set_option linter.unusedVariables false
namespace Go.Proofs.YtbinmkigolkhcaaDoor
open Go.RowKit Go.Sort
attribute [local go_sem] Oper.semAt_some

def listE (ls : List (List UInt8)) : Int := if longB ls = true then 3 else 0
set_option maxHeartbeats 1000000 in
theorem List_any (A : Option Addr) (n c : Nat) (ls : List (List UInt8)) (w : World) (hx : ListsAt w.heap.size w A n ls) (hn : n ≤ 4096) :
    Calls Tryd.prog 56 #[.slice A n c] w fun e w' => e = .returned (.int .i64 (listE ls)) ∧ w = w' := by
  have mixed := mixedOrders
  have HX := hide hx
  have HLEN := hide hx.1
  have g0 : ¬ (4096 : Int) < (n : Int) := by omega
  have HN := hide hn
  clear hx hn
  go_enter Tryd.func56, Tryd.ntmps56
  go_wp2_with fail
  go_loop [3] (fun vi => ∃ i : Nat, vi = .int .i64 i ∧ i ≤ n ∧ Hid (∀ j, j < i → (ls.getD j []).length ≤ 256)) (fun vi => n - (intOf vi).toNat)
  case atStart => exact ⟨0, rfl, Nat.zero_le _, fun j hj => absurd hj (Nat.not_lt_zero _)⟩
  case round =>
    obtain ⟨i, rfl, hi, HI⟩ := hrel
    by_cases hlt : i < n
    · have hlt' : (i : Int) < (n : Int) := by omega
      obtain ⟨b, off, Ai, ni, ci, rfl, hb, c0, hB, hn1⟩ := HX.out.at_ hlt
      have hle := hB.1
      have hN := HN.out
      clear hB
      by_cases h4 : ni ≤ 256
      · have g2 : ¬ (256 : Int) < (ni : Int) := by omega
        have HS : Hid (∀ j, j < i + 1 → (ls.getD j []).length ≤ 256) := by
          intro j hj
          rcases Nat.lt_or_ge j i with h | h
          · exact HI.out j h
          · obtain rfl : j = i := by omega
            omega
        have HQ := hide (show i + 1 ≤ n by omega)
        clear hle hn1 hi h4 hlt
        go_wp2_with fail
        go_round
        case rel => exact ⟨i + 1, by go_num, HQ.out, HS⟩
        case measure => simp [intOf]; have := HQ.out; omega
      · have g2 : (256 : Int) < (ni : Int) := by omega
        have HR := hide (long_yes (ls := ls) (i := i) (by rw [HLEN.out]; exact hlt) (by omega))
        clear hle hn1 hi h4 hlt
        go_wp2_with fail
        go_ret
        exact ⟨by unfold listE; rw [HR.out]; rfl, rfl⟩
    · obtain rfl : i = n := by omega
      have HR := hide (long_no (ls := ls) (by rw [HLEN.out]; exact HI.out))
      go_wp2_with fail
      go_ret
      exact ⟨by unfold listE; rw [HR.out]; rfl, rfl⟩
theorem refRoot_any (A : Option Addr) (n c : Nat) (ls : List (List UInt8)) (w : World) (hx : ListsAt w.heap.size w A n ls) (hn : n ≤ 4096) (hc : n ≤ c) (hsm : Small ls) :
    Calls Tryd.prog 19 #[.slice A n c] w (RootP (pRootV ls) w) := by
  have HL := hide (List_any A n c ls w hx hn)
  have HT := hide (Top_any n n A c ls w (Nat.le_refl _) hx hc (by omega) hsm)
  clear hx hn hc hsm
  unfold pRootV
  unfold listE at HL
  cases hb : longB ls
  · rw [hb, if_neg (by decide)] at HL
    rw [if_neg (by decide)]
    clear hb
    go_enter Tryd.func19, Tryd.ntmps19
    go_wp2_with fail
    refine HL.out.mono ?_
    rintro e w1 ⟨rfl, rfl⟩
    go_wp2_with fail
    refine HT.out.mono ?_
    rintro e w2 ⟨rfl, hb⟩
    go_wp2_with fail
    go_ret2
    exact ⟨rfl, hb⟩
  · rw [hb, if_pos rfl] at HL
    rw [if_pos rfl]
    clear hb HT
    go_enter Tryd.func19, Tryd.ntmps19
    go_wp2_with fail
    refine HL.out.mono ?_
    rintro e w1 ⟨rfl, rfl⟩
    go_wp2_with fail
    go_ret2
    exact ⟨rfl, Below.refl _ _⟩

set_option maxHeartbeats 4000000 in
set_option maxRecDepth 100000 in
theorem hashes_law (A : Option Addr) (n c : Nat) (ls : List (List UInt8)) (B : Option Addr) (k d : Nat) (l : List UInt8) (x y : Nat) (w : World) (hE : Env w) (hx : ListsIn w.heap.size w A n ls) (hc : n ≤ c) (hn : n ≤ 9223372036854775807)
    (hb : BytesAt w.heap.size w B k l) (hk : k ≤ 9223372036854775807) (hX : x < 18446744073709551616) (hY : y < 18446744073709551616) :
    Calls Tryd.prog 3 #[.slice A n c, .slice B k d, .int .u64 x, .int .u64 y] w (TrueP w) := by
  have mixed := mixedOrders
  have HF := hide (few_any A n c ls w hx hn)
  have HA := hide (alive_env hE)
  cases hf : fewB ls
  · rw [hf] at HF
    clear hf hx hc hn hE hb hk hX hY
    go_enter Tryd.func3, Tryd.ntmps3
    go_wp2_with fail
    refine HF.out.mono ?_
    rintro e w1 ⟨rfl, rfl⟩
    go_wp2_with fail
    refine HA.out.mono ?_
    rintro e w1 ⟨rfl, hb⟩
    go_wp2_with fail
    go_ret
    exact ⟨rfl, hb⟩
  rw [hf] at HF
  by_cases h5 : 5000 < k
  · have g : (5000 : Int) < (k : Int) := by omega
    clear hf hx hc hn hE hb hk hX hY h5
    go_enter Tryd.func3, Tryd.ntmps3
    go_wp2_with fail
    refine HF.out.mono ?_
    rintro e w1 ⟨rfl, rfl⟩
    go_wp2_with fail
    refine HA.out.mono ?_
    rintro e w1 ⟨rfl, hb⟩
    go_wp2_with fail
    go_ret
    exact ⟨rfl, hb⟩
  have g : ¬ (5000 : Int) < (k : Int) := by omega
  obtain ⟨h1, h2⟩ := few_true hf
  have hlen := hx.1
  have hX1 := hx.to (fun l hl => Nat.le_trans (h2 l hl) (by decide))
  have hsm : Small ls := fun l hl => Nat.le_trans (h2 l hl) (by decide)
  have R1 := hide (pRoot_any A n c ls w hX1 (by omega) hc)
  have R2 : Hid (∀ w1, Below w.heap.size w w1 → Calls Tryd.prog 19 #[.slice A n c] w1 (RootP (pRootV ls) w1)) := fun w1 hb => refRoot_any A n c ls w1 (hX1.now hb (Nat.le_refl _)) (by omega) hc hsm
  have M1 : Hid (∀ w1, Below w.heap.size w w1 → Calls Tryd.prog 20 #[.slice B k d] w1 fun e w' => e = .returned (.int .u64 (mixV l : Nat)) ∧ w1 = w') := fun w1 h => Mix_any B k d l w1 (hb.now h (Nat.le_refl _)) (by omega)
  have M2 : Hid (∀ w1, Below w.heap.size w w1 → Calls Tryd.prog 21 #[.slice B k d] w1 fun e w' => e = .returned (.int .u64 (mixV l : Nat)) ∧ w1 = w') := fun w1 h => refMix_any B k d l w1 (hb.now h (Nat.le_refl _)) (by omega)
  have L1 : Hid (∀ w1, Below w.heap.size w w1 → Calls Tryd.prog 22 #[.slice B k d] w1 fun e w' => e = .returned (.int .u64 (leafV l : Nat)) ∧ Below w1.heap.size w1 w') := fun w1 h => Leaf_any B k d l w1 (hb.now h (Nat.le_refl _)) (by omega)
  have L2 : Hid (∀ w1, Below w.heap.size w w1 → Calls Tryd.prog 23 #[.slice B k d] w1 fun e w' => e = .returned (.int .u64 (leafV l : Nat)) ∧ Below w1.heap.size w1 w') := fun w1 h => refLeaf_any B k d l w1 (hb.now h (Nat.le_refl _)) (by omega)
  have N1 : Hid (∀ w1, Calls Tryd.prog 24 #[.int .u64 x, .int .u64 y] w1 fun e w' => e = .returned (.int .u64 (nodeV x y : Nat)) ∧ Below w1.heap.size w1 w') := fun w1 => Node_any x y hX hY w1
  have N2 : Hid (∀ w1, Calls Tryd.prog 25 #[.int .u64 x, .int .u64 y] w1 fun e w' => e = .returned (.int .u64 (nodeV x y : Nat)) ∧ Below w1.heap.size w1 w') := fun w1 => refNode_any x y hX hY w1
  have HE := hide hE
  obtain ⟨P, hP⟩ : ∃ P, pRootV ls = P := ⟨_, rfl⟩
  rw [hP] at R1 R2
  obtain ⟨P1, P2⟩ := P
  have R1' : Hid (Calls Tryd.prog 18 #[.slice A n c] w fun e w' => e = .returned (.tuple #[.int .u64 (P1 : Nat), .int .i64 P2]) ∧ Below w.heap.size w w') := R1.out
  have R2' : Hid (∀ w1, Below w.heap.size w w1 → Calls Tryd.prog 19 #[.slice A n c] w1 fun e w' => e = .returned (.tuple #[.int .u64 (P1 : Nat), .int .i64 P2]) ∧ Below w1.heap.size w1 w') := R2.out
  obtain ⟨a1, ha1⟩ : ∃ a, mixV l = a := ⟨_, rfl⟩
  obtain ⟨a2, ha2⟩ : ∃ a, leafV l = a := ⟨_, rfl⟩
  obtain ⟨a3, ha3⟩ : ∃ a, nodeV x y = a := ⟨_, rfl⟩
  rw [ha1] at M1 M2
  rw [ha2] at L1 L2
  rw [ha3] at N1 N2
  have z1 : ((P1 : Int) == (P1 : Int)) = true := by simp
  have z2 : (P2 == P2) = true := by simp
  have z3 : ((a1 : Int) == (a1 : Int)) = true := by simp
  have z4 : ((a2 : Int) == (a2 : Int)) = true := by simp
  have z5 : ((a3 : Int) == (a3 : Int)) = true := by simp
  clear hf hx hc hn hE hb hk hX hY h5 h1 h2 hlen hX1 hsm hP ha1 ha2 ha3 R1 R2 HA
  go_enter Tryd.func3, Tryd.ntmps3
  go_wp2_with fail
  refine HF.out.mono ?_
  rintro e w1 ⟨rfl, rfl⟩
  go_wp2_with fail
  refine R1'.out.mono ?_
  rintro e w2 ⟨rfl, hb⟩
  have HB := hide hb
  have C := hide (R2'.out w2 hb)
  clear hb
  go_wp2_with fail
  refine C.out.mono ?_
  rintro e w3 ⟨rfl, hb⟩
  have HB3 := hide (HB.out.trans (hb.mono HB.out.size))
  clear hb C
  go_wp2_with fail
  refine (M1.out w3 HB3.out).mono ?_
  rintro e w3 ⟨rfl, rfl⟩
  go_wp2_with fail
  refine (M2.out _ HB3.out).mono ?_
  rintro e w3 ⟨rfl, rfl⟩
  go_wp2_with fail
  refine (L1.out _ HB3.out).mono ?_
  rintro e w4 ⟨rfl, hb⟩
  have HB4 := hide (HB3.out.trans (hb.mono HB3.out.size))
  clear hb
  go_wp2_with fail
  refine (L2.out _ HB4.out).mono ?_
  rintro e w5 ⟨rfl, hb⟩
  have HB5 := hide (HB4.out.trans (hb.mono HB4.out.size))
  clear hb
  go_wp2_with fail
  refine (N1.out _).mono ?_
  rintro e w6 ⟨rfl, hb⟩
  have HB6 := hide (HB5.out.trans (hb.mono HB5.out.size))
  clear hb
  go_wp2_with fail
  refine (N2.out _).mono ?_
  rintro e w7 ⟨rfl, hb⟩
  have HB7 := hide (HB6.out.trans (hb.mono HB6.out.size))
  have HAL := hide (alive_env (HE.out.after HB7.out))
  clear hb
  go_wp2_with fail
  refine HAL.out.mono ?_
  rintro e w8 ⟨rfl, hb⟩
  go_wp2_with fail
  go_ret
  exact ⟨rfl, HB7.out.trans (hb.mono HB7.out.size)⟩
end Go.Proofs.YtbinmkigolkhcaaDoor
