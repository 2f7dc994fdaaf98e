/- Include. -/
import Derived.Test.YtbinmkigolkhcaaDoorPO
namespace Go.Proofs.YtbinmkigolkhcaaDoor
open Go.RowKit Go.Sort
attribute [local go_sem] Oper.semAt_some

set_option maxHeartbeats 2000000 in
set_option maxRecDepth 100000 in
theorem Include_any (F : Nat → Prop) (w : World) (b : Nat) (ls : List (List UInt8)) (ps : List Nat) (Ae : Option Addr) (ce : Nat) (Ap : Option Addr) (cp : Nat) (h : LogAt F w b ls ps Ae ce Ap cp) (hl : ls.length ≤ 4096) (i n : Int) :
    Calls Tryd.prog 47 #[.pointer (some ⟨b, 0, none⟩), .int .i64 i, .int .i64 n] w (TwoSteps (includeV ls i n) w) := by
  have mixed := mixedOrders
  have HM := hide (isMade_any b w h.c0)
  have c1 := h.c1
  have HL := hide h.lists
  have hcap : ls.length ≤ ce ∧ (ls.length = 0 ∨ ∃ g, Ae = some ⟨g, 0, none⟩) := by
    obtain ⟨vs, ho, -⟩ := h.ents
    rcases ho.2 with ⟨e, h0⟩ | ⟨g, cap, cur, hv, _, hg, hle, _⟩
    · exact ⟨by omega, .inl h0⟩
    · injection hv with h1 h2 h3
      subst h1; subst h3
      exact ⟨hle, .inr ⟨g, rfl⟩⟩
  clear h
  obtain ⟨m, hm⟩ : ∃ m, ls.length = m := ⟨_, rfl⟩
  by_cases hc : n < 1 ∨ ls.length < n ∨ i < 0 ∨ n ≤ i
  · rw [show includeV ls i n = ([], 6) from if_pos hc]
    rw [hm] at hc c1
    have hmm : (m : Int) ≤ 4096 := by omega
    clear hm hcap hl HL
    rcases Int.lt_or_le n 1 with h1 | h1
    · clear hc
      go_enter Tryd.func47, Tryd.ntmps47
      go_wp2_with fail
      refine HM.out.mono ?_
      rintro e w1 ⟨rfl, rfl⟩
      go_wp2_with fail
      go_ret2
      exact ⟨none, 0, rfl, World.ownsRow_nil _ _ _ _, Below.refl _ _⟩
    · rcases Int.lt_or_le (m : Int) n with h2 | h2
      · clear hc
        go_enter Tryd.func47, Tryd.ntmps47
        go_wp2_with fail
        refine HM.out.mono ?_
        rintro e w1 ⟨rfl, rfl⟩
        go_wp2_with fail
        go_ret2
        exact ⟨none, 0, rfl, World.ownsRow_nil _ _ _ _, Below.refl _ _⟩
      · rcases Int.lt_or_le i 0 with h3 | h3
        · clear hc
          go_enter Tryd.func47, Tryd.ntmps47
          go_wp2_with fail
          refine HM.out.mono ?_
          rintro e w1 ⟨rfl, rfl⟩
          go_wp2_with fail
          go_ret2
          exact ⟨none, 0, rfl, World.ownsRow_nil _ _ _ _, Below.refl _ _⟩
        · have h4 : n ≤ i := by omega
          clear hc
          go_enter Tryd.func47, Tryd.ntmps47
          go_wp2_with fail
          refine HM.out.mono ?_
          rintro e w1 ⟨rfl, rfl⟩
          go_wp2_with fail
          go_ret2
          exact ⟨none, 0, rfl, World.ownsRow_nil _ _ _ _, Below.refl _ _⟩
  · rw [show includeV ls i n = (stepsV (ls.take n.toNat) i.toNat, 0) from if_neg hc]
    rw [hm] at hc c1 hcap hl HL
    obtain ⟨i', rfl⟩ : ∃ k : Nat, i = k := ⟨i.toNat, by omega⟩
    obtain ⟨n', rfl⟩ : ∃ k : Nat, n = k := ⟨n.toNat, by omega⟩
    rw [Int.toNat_natCast, Int.toNat_natCast]
    obtain ⟨g, rfl⟩ : ∃ g, Ae = some ⟨g, 0, none⟩ := by
      rcases hcap.2 with h0 | h0
      · omega
      · exact h0
    have h1 : ¬ (n' : Int) < 1 := by omega
    have h2 : ¬ (m : Int) < (n' : Int) := by omega
    have h3 : ¬ (i' : Int) < 0 := by omega
    have h4 : ¬ (n' : Int) ≤ (i' : Int) := by omega
    have h5 : (n' : Int) ≤ (ce : Int) := by omega
    have HC := hide (stepsOf_any n' n' i' (some ⟨g, 0, none⟩) n' (ls.take n') w (Nat.le_refl _) (by omega) (by omega) (by omega) (HL.out.take (by omega)) (Nat.le_refl _))
    have hmm : (m : Int) ≤ 4096 := by omega
    clear hm hcap hl HL hc
    unfold StepsPost at HC
    obtain ⟨L, hL⟩ : ∃ L, stepsV (ls.take n') i' = L := ⟨_, rfl⟩
    rw [hL] at HC ⊢
    clear hL
    go_enter Tryd.func47, Tryd.ntmps47
    go_wp2_with fail
    refine HM.out.mono ?_
    rintro e w1 ⟨rfl, rfl⟩
    go_wp2_with fail
    refine HC.out.mono ?_
    rintro e w2 ⟨a, c, rfl, ho, hb⟩
    have HO := hide ho
    have HB := hide hb
    clear ho hb HC
    go_wp2_with fail
    go_ret2
    exact ⟨a, c, rfl, HO.out, HB.out⟩
end Go.Proofs.YtbinmkigolkhcaaDoor
