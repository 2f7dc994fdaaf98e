/- Extended; ProofComplete. -/
import Derived.Test.YtbinmkigolkhcaaDoorHT
import Derived.Test.YtbinmkigolkhcaaDoorHS
import Derived.Test.YtbinmkigolkhcaaDoorMC
set_option linter.unusedSimpArgs false
set_option linter.unusedVariables false
namespace Go.Proofs.YtbinmkigolkhcaaDoor
open Go.RowKit Go.Sort
attribute [local go_sem] Oper.semAt_some

def extendedV (m n : Int) (old root : Nat) (hs : List Nat) : Bool × Int := if m < 1 ∨ n < m ∨ 4096 < n then (false, 2) else (extB m.toNat n.toNat old root hs, 0)
theorem ext_of {m n old root : Nat} {hs : List Nat} {T : Nat × Nat × Bool} (h : twoV m n true old hs = T) : extB m n old root hs = (T.2.2 && decide (T.1 = old) && decide (T.2.1 = root)) := by
  unfold extB
  rw [h]

set_option maxHeartbeats 2000000 in
set_option maxRecDepth 100000 in
theorem Extended_any (m n : Int) (old root : Nat) (A : Option Addr) (k c : Nat) (hs : List Nat) (w : World) (hx : HashesAt w.heap.size w A k hs) (hc : k ≤ c) (hk : k ≤ 1000000) (ho : old < 18446744073709551616) :
    Calls Tryd.prog 36 #[.int .i64 m, .int .i64 n, .int .u64 old, .int .u64 root, .slice A k c] w (TwoPost (extendedV m n old root hs) w) := by
  have mixed := mixedOrders
  unfold extendedV
  by_cases c1 : m < 1
  · rw [if_pos (.inl c1)]
    clear hx hc hk ho
    go_enter Tryd.func36, Tryd.ntmps36
    go_wp2_with fail
    go_ret2
    exact ⟨rfl, Below.refl _ _⟩
  by_cases c2 : n < m
  · rw [if_pos (.inr (.inl c2))]
    clear hx hc hk ho
    go_enter Tryd.func36, Tryd.ntmps36
    go_wp2_with fail
    go_ret2
    exact ⟨rfl, Below.refl _ _⟩
  by_cases c3 : 4096 < n
  · rw [if_pos (.inr (.inr c3))]
    clear hx hc hk ho
    go_enter Tryd.func36, Tryd.ntmps36
    go_wp2_with fail
    go_ret2
    exact ⟨rfl, Below.refl _ _⟩
  rw [if_neg (by omega)]
  obtain ⟨m', rfl⟩ : ∃ k : Nat, m = k := ⟨m.toNat, by omega⟩
  obtain ⟨n', rfl⟩ : ∃ k : Nat, n = k := ⟨n.toNat, by omega⟩
  rw [Int.toNat_natCast, Int.toNat_natCast]
  have HC := hide (twoRoots_any n' n' m' true old A k c hs w (Nat.le_refl _) (by omega) (by omega) (by omega) hx hc hk ho)
  obtain ⟨T, hT⟩ : ∃ T, twoV m' n' true old hs = T := ⟨_, rfl⟩
  rw [ext_of hT]
  rw [hT] at HC
  obtain ⟨T1, T2, T3⟩ := T
  have HC1 : Hid (Calls Tryd.prog 72 #[.int .i64 m', .int .i64 n', .bool true, .int .u64 old, .slice A k c] w fun e w' => e = .returned (.tuple #[.int .u64 (T1 : Nat), .int .u64 (T2 : Nat), .bool T3]) ∧ Below w.heap.size w w') := HC.out
  clear hT hx hc hk ho HC
  show Calls _ _ _ _ (TwoPost (T3 && decide (T1 = old) && decide (T2 = root), 0) w)
  cases T3
  · go_enter Tryd.func36, Tryd.ntmps36
    go_wp2_with fail
    refine HC1.out.mono ?_
    rintro e w1 ⟨rfl, hb⟩
    have HB := hide hb
    clear hb
    go_wp2_with fail
    go_ret2
    exact ⟨rfl, HB.out⟩
  · by_cases h1 : T1 = old
    · rw [decide_eq_true h1]
      have z1 : ((T1 : Int) == (old : Int)) = true := beq_iff_eq.2 (by omega)
      clear h1
      by_cases h2 : T2 = root
      · rw [decide_eq_true h2]
        have z2 : ((T2 : Int) == (root : Int)) = true := beq_iff_eq.2 (by omega)
        clear h2
        go_enter Tryd.func36, Tryd.ntmps36
        go_wp2_with fail
        refine HC1.out.mono ?_
        rintro e w1 ⟨rfl, hb⟩
        have HB := hide hb
        clear hb
        go_wp2_with fail
        go_ret2
        exact ⟨rfl, HB.out⟩
      · rw [decide_eq_false h2]
        have z2 : ((T2 : Int) == (root : Int)) = false := beq_eq_false_iff_ne.2 (by omega)
        clear h2
        go_enter Tryd.func36, Tryd.ntmps36
        go_wp2_with fail
        refine HC1.out.mono ?_
        rintro e w1 ⟨rfl, hb⟩
        have HB := hide hb
        clear hb
        go_wp2_with fail
        go_ret2
        exact ⟨rfl, HB.out⟩
    · rw [decide_eq_false h1]
      have z1 : ((T1 : Int) == (old : Int)) = false := beq_eq_false_iff_ne.2 (by omega)
      clear h1
      go_enter Tryd.func36, Tryd.ntmps36
      go_wp2_with fail
      refine HC1.out.mono ?_
      rintro e w1 ⟨rfl, hb⟩
      have HB := hide hb
      clear hb
      go_wp2_with fail
      go_ret2
      exact ⟨rfl, HB.out⟩

theorem lead_self {ss : List St} {l : List Bool} (h : ss.map (·.2) = l) : leadB ss l = true := decide_eq_true h
/-- the proof that Include gives is taken -/
theorem include_taken {ls : List (List UInt8)} {i : Nat} (hi : i < ls.length) (hl : ∀ l ∈ ls, l.length ≤ 256) (hn : ls.length ≤ 4096) : includedV (ls.getD i []) i ls.length (rootV ls) (stepsV ls i) = (true, 0) := by
  unfold includedV
  have hp : placeB i ls.length = true := decide_eq_true (by omega)
  have hm : (ls.getD i []).length ≤ 256 := by
    rw [List.getD_eq_getElem?_getD, List.getElem?_eq_getElem hi]
    exact hl _ (List.getElem_mem hi)
  rw [if_neg (by rw [hp]; decide), if_neg (by omega), Int.toNat_natCast, Int.toNat_natCast, lead_self (steps_sides ls.length ls i (Nat.le_refl _) hi), follow_steps ls.length ls i (Nat.le_refl _) hi, decide_eq_true rfl]
  rfl
theorem extend_taken {ls : List (List UInt8)} {m : Nat} (h1 : 1 ≤ m) (h2 : m ≤ ls.length) (hn : ls.length ≤ 4096) : extendedV m ls.length (rootV (ls.take m)) (rootV ls) (growthV ls m true) = (true, 0) := by
  unfold extendedV
  rw [if_neg (by omega), Int.toNat_natCast, Int.toNat_natCast, ext_of (two_growth ls.length ls m true (rootV (ls.take m)) (Nat.le_refl _) h1 h2 (fun _ => rfl))]
  simp
end Go.Proofs.YtbinmkigolkhcaaDoor
