/- twoRoots, Extended. -/
import Derived.Test.YtbinmkigolkhcaaDoorHG
set_option linter.unusedSimpArgs false
set_option linter.unusedVariables false
namespace Go.Proofs.YtbinmkigolkhcaaDoor
open Go.RowKit Go.Sort
attribute [local go_sem] Oper.semAt_some

theorem HashesAt.below {B : Nat} {w w' : World} {A : Option Addr} {n : Nat} {hs : List Nat} (h : HashesAt B w A n hs) (hb : Below B w w') : HashesAt B w' A n hs := by
  refine ⟨h.1, h.2.1, ?_⟩
  rcases h.2.2 with h0 | ⟨b, off, e, hlt, hc⟩
  · exact .inl h0
  · exact .inr ⟨b, off, e, hlt, fun i hi => (hb.cell (p := ⟨b, off + i, none⟩) hlt).trans (hc i hi)⟩
theorem HashesAt.mono {B B' : Nat} {w : World} {A : Option Addr} {n : Nat} {hs : List Nat} (h : HashesAt B w A n hs) (hB : B ≤ B') : HashesAt B' w A n hs := by
  refine ⟨h.1, h.2.1, ?_⟩
  rcases h.2.2 with h0 | ⟨b, off, e, hb, hc⟩
  · exact .inl h0
  · exact .inr ⟨b, off, e, by omega, hc⟩
theorem HashesAt.now {B : Nat} {w w' : World} {A : Option Addr} {n : Nat} {hs : List Nat} (h : HashesAt B w A n hs) (hb : Below B w w') (hB : B ≤ w.heap.size) : HashesAt w'.heap.size w' A n hs :=
  (h.below hb).mono (Nat.le_trans hB hb.size)
theorem HashesAt.at_ {B : Nat} {w : World} {A : Option Addr} {n i : Nat} {hs : List Nat} (h : HashesAt B w A n hs) (hi : i < n) :
    ∃ b off, A = some ⟨b, off, none⟩ ∧ b < B ∧ w.cell? ⟨b, off + i, none⟩ = some (.int .u64 (hashA hs i : Nat)) ∧ hashA hs i < 18446744073709551616 := by
  rcases h.2.2 with h0 | ⟨b, off, e, hb, hc⟩
  · omega
  · refine ⟨b, off, e, hb, hc i hi, h.2.1 _ ?_⟩
    have hl := h.1
    unfold hashA
    rw [List.getD_eq_getElem?_getD, List.getElem?_eq_getElem (by omega)]
    exact List.getElem_mem _
theorem HashesAt.take {B : Nat} {w : World} {b off n k : Nat} {hs : List Nat} (h : HashesAt B w (some ⟨b, off, none⟩) n hs) (hk : k ≤ n) : HashesAt B w (some ⟨b, off, none⟩) k (hs.take k) := by
  refine ⟨by rw [List.length_take, h.1]; omega, fun p hp => h.2.1 p (List.mem_of_mem_take hp), ?_⟩
  rcases h.2.2 with h0 | ⟨b', off', e, hb, hc⟩
  · exact .inl (by omega)
  · injection e with e
    injection e with e1 e2
    subst e1; subst e2
    refine .inr ⟨b, off, rfl, hb, fun i hi => ?_⟩
    have e3 : hashA (hs.take k) i = hashA hs i := by simp [hashA, List.getD_eq_getElem?_getD, hi]
    rw [e3]
    exact hc i (by omega)

def ThreeP (x : Nat × Nat × Bool) (w : World) (e : Ending) (w' : World) : Prop := e = .returned (.tuple #[.int .u64 (x.1 : Nat), .int .u64 (x.2.1 : Nat), .bool x.2.2]) ∧ Below w.heap.size w w'

set_option maxHeartbeats 4000000 in
set_option maxRecDepth 100000 in
theorem twoRoots_any : ∀ (N n m : Nat) (wh : Bool) (old : Nat) (A : Option Addr) (k c : Nat) (hs : List Nat) (w : World), n ≤ N → 1 ≤ m → m ≤ n → n ≤ 1000000 → HashesAt w.heap.size w A k hs → k ≤ c → k ≤ 1000000 → old < 18446744073709551616 →
    Calls Tryd.prog 72 #[.int .i64 m, .int .i64 n, .bool wh, .int .u64 old, .slice A k c] w (ThreeP (twoV m n wh old hs) w) := by
  have mixed := mixedOrders
  intro N
  induction N with
  | zero => intro n m wh old A k c hs w hN h1 h2; omega
  | succ N ih =>
    intro n m wh old A k c hs w hN h1 h2 hn hx hc hk ho
    have hlen := hx.1
    by_cases c1 : m = n ∧ wh = true
    · obtain ⟨rfl, rfl⟩ := c1
      rw [two_whole h1, hlen]
      have z1 : ((m : Int) == (m : Int)) = true := by simp
      clear ih hN h1 h2 hn hx hc hk ho hlen
      by_cases h0 : k = 0
      · subst h0
        go_enter Tryd.func72, Tryd.ntmps72
        go_wp2_with fail
        go_ret3
        exact ⟨rfl, Below.refl _ _⟩
      · have z0 : ((k : Int) == 0) = false := beq_eq_false_iff_ne.2 (by omega)
        rw [decide_eq_false h0]
        clear h0
        go_enter Tryd.func72, Tryd.ntmps72
        go_wp2_with fail
        go_ret3
        exact ⟨rfl, Below.refl _ _⟩
    by_cases h0 : k = 0
    · rw [two_none (by omega) c1 (by omega)]
      subst h0
      have hkq := h1
      by_cases c3 : m = n
      · subst c3
        have hw : wh = false := by
          cases wh
          · rfl
          · exact absurd ⟨rfl, rfl⟩ c1
        subst hw
        have z1 : ((m : Int) == (m : Int)) = true := by simp
        clear ih hN h1 h2 hn hx hc hk ho hlen hkq c1
        go_enter Tryd.func72, Tryd.ntmps72
        go_wp2_with fail
        go_ret3
        exact ⟨rfl, Below.refl _ _⟩
      · have z1 : ((m : Int) == (n : Int)) = false := beq_eq_false_iff_ne.2 (by omega)
        clear ih hN h1 h2 hn hx hc hk ho hlen hkq c1 c3
        go_enter Tryd.func72, Tryd.ntmps72
        go_wp2_with fail
        go_ret3
        exact ⟨rfl, Below.refl _ _⟩
    obtain ⟨q, hkq⟩ : ∃ q, k = q + 1 := ⟨k - 1, by omega⟩
    obtain ⟨b, off, rfl, hb, c0, hh⟩ := hx.at_ (i := q) (by omega)
    have hX := hide (hx.take (k := q) (by omega))
    have s0 : wrap64 ((k : Int) - 1) = (q : Int) := by rw [IntWalk.wrap64_in _ (by omega)]; omega
    have z0 : ((k : Int) == 0) = false := beq_eq_false_iff_ne.2 (by omega)
    have e1 : hs.length - 1 = q := by omega
    have e2 : hs.getD (hs.length - 1) 0 = hashA hs q := by rw [e1]; rfl
    have e3 : hs.length ≠ 0 := by omega
    by_cases c3 : m = n
    · subst c3
      have hw : wh = false := by
        cases wh
        · rfl
        · exact absurd ⟨rfl, rfl⟩ c1
      subst hw
      rw [two_part h1 e3, e2, e1]
      obtain ⟨x, hxx⟩ : ∃ x, hashA hs q = x := ⟨_, rfl⟩
      rw [hxx] at c0 hh ⊢
      have z1 : ((m : Int) == (m : Int)) = true := by simp
      have c0q : ∀ nq, (w.drewN nq).cell? ⟨b, off + q, none⟩ = some (.int .u64 (x : Nat)) := fun _ => c0
      have g1 : q < k := by omega
      have g2 : q ≤ c := by omega
      have g4 : (q : Int) < (k : Int) := by omega
      have g5 : (q : Int) ≤ (c : Int) := by omega
      have HXX := hide hxx
      have HE := hide (And.intro e1 (And.intro e2 e3))
      clear ih hN h1 h2 hn hx hc hk ho hlen hkq c1 h0 hxx e1 e2 e3 hh
      by_cases hq : q = 0
      · have z3 : ((q : Int) == 0) = true := beq_iff_eq.2 (by omega)
        rw [decide_eq_true hq]
        clear hq
        go_enter Tryd.func72, Tryd.ntmps72
        go_wp2_with fail
        go_quiet (fail)
        go_wp2
        go_ret3
        exact ⟨rfl, ((Gr.refl w).drewN nq).below⟩
      · have z3 : ((q : Int) == 0) = false := beq_eq_false_iff_ne.2 (by omega)
        rw [decide_eq_false hq]
        clear hq
        go_enter Tryd.func72, Tryd.ntmps72
        go_wp2_with fail
        go_quiet (fail)
        go_wp2
        go_ret3
        exact ⟨rfl, ((Gr.refl w).drewN nq).below⟩
    · have hh2 := halfN_lt (n := n) (by omega)
      have z1 : ((m : Int) == (n : Int)) = false := beq_eq_false_iff_ne.2 (by omega)
      have HH : Hid (∀ w1, _) := fun w1 => half_any n (by omega) (by omega) w1
      by_cases c4 : m ≤ halfN n
      · rw [two_lo h1 (by omega) e3 c4, e2, e1]
        have IH : Hid (∀ w1, HashesAt w1.heap.size w1 (some ⟨b, off, none⟩) q (hs.take q) → _) := fun w1 h => ih (halfN n) m wh old (some ⟨b, off, none⟩) q q (hs.take q) w1 (by omega) h1 c4 (by omega) h (Nat.le_refl _) (by omega) ho
        have hl2 := twoV_lt (halfN n) m (halfN n) wh old (hs.take q) (Nat.le_refl _) h1 c4 ho (fun p hp => hx.2.1 p (List.mem_of_mem_take hp))
        obtain ⟨T, hT⟩ : ∃ T, twoV m (halfN n) wh old (hs.take q) = T := ⟨_, rfl⟩
        rw [hT] at hl2 ⊢
        have IH : Hid (∀ w1, HashesAt w1.heap.size w1 (some ⟨b, off, none⟩) q (hs.take q) → Calls Tryd.prog 72 #[.int .i64 m, .int .i64 (halfN n : Nat), .bool wh, .int .u64 old, .slice (some ⟨b, off, none⟩) q q] w1 (ThreeP T w1)) := by
          intro w1 h
          rw [← hT]
          exact IH.out w1 h
        obtain ⟨x, hxx⟩ : ∃ x, hashA hs q = x := ⟨_, rfl⟩
        rw [hxx] at c0 hh ⊢
        obtain ⟨y, hyy⟩ : ∃ y, halfN n = y := ⟨_, rfl⟩
        rw [hyy] at c4 HH IH
        obtain ⟨T1, T2, T3⟩ := T
        have HN : Hid (∀ wq, Calls Tryd.prog 24 #[.int .u64 T2, .int .u64 x] wq fun e w' => e = .returned (.int .u64 (nodeV T2 x : Nat)) ∧ Below wq.heap.size wq w') := fun wq => Node_any T2 x hl2.2 hh wq
        have c0q : ∀ nq, (w.drewN nq).cell? ⟨b, off + q, none⟩ = some (.int .u64 (x : Nat)) := fun _ => c0
        have g1 : q < k := by omega
        have g2 : q ≤ c := by omega
        have g4 : (q : Int) < (k : Int) := by omega
        have g5 : (q : Int) ≤ (c : Int) := by omega
        have g6 : (m : Int) ≤ (y : Int) := by omega
        clear ih hN h1 h2 hn hx hc hk ho hlen hkq c1 c3 h0 hxx e1 e2 e3 hh hh2 hT hyy hl2 c4
        go_enter Tryd.func72, Tryd.ntmps72
        go_wp2_with fail
        go_quiet (fail)
        have hb1 := ((Gr.refl w).drewN nq).below
        obtain ⟨w1, hw1⟩ : ∃ w1, w.drewN nq = w1 := ⟨_, rfl⟩
        rw [hw1] at hb1 ⊢
        have HB1 := hide hb1
        have C1 := hide (IH.out w1 (hX.out.now hb1 (Nat.le_refl _)))
        clear hb1 hw1 IH
        go_wp2_with fail
        refine (HH.out w1).mono ?_
        rintro e w1 ⟨rfl, rfl⟩
        go_wp2_with fail
        refine C1.out.mono ?_
        rintro e w2 ⟨rfl, hb2⟩
        have HB2 := hide (HB1.out.trans (hb2.mono HB1.out.size))
        clear hb2 C1
        go_wp2_with fail
        refine (HN.out _).mono ?_
        rintro e w3 ⟨rfl, hb3⟩
        go_wp2
        go_ret3
        exact ⟨rfl, HB2.out.trans (hb3.mono HB2.out.size)⟩
      · rw [two_hi h1 (by omega) e3 (by omega), e2, e1]
        have IH : Hid (∀ w1, HashesAt w1.heap.size w1 (some ⟨b, off, none⟩) q (hs.take q) → _) := fun w1 h => ih (n - halfN n) (m - halfN n) false old (some ⟨b, off, none⟩) q q (hs.take q) w1 (by omega) (by omega) (by omega) (by omega) h (Nat.le_refl _) (by omega) ho
        have hl2 := twoV_lt (n - halfN n) (m - halfN n) (n - halfN n) false old (hs.take q) (Nat.le_refl _) (by omega) (by omega) ho (fun p hp => hx.2.1 p (List.mem_of_mem_take hp))
        obtain ⟨T, hT⟩ : ∃ T, twoV (m - halfN n) (n - halfN n) false old (hs.take q) = T := ⟨_, rfl⟩
        rw [hT] at hl2 ⊢
        have IH : Hid (∀ w1, HashesAt w1.heap.size w1 (some ⟨b, off, none⟩) q (hs.take q) → Calls Tryd.prog 72 #[.int .i64 (m - halfN n : Nat), .int .i64 (n - halfN n : Nat), .bool false, .int .u64 old, .slice (some ⟨b, off, none⟩) q q] w1 (ThreeP T w1)) := by
          intro w1 h
          rw [← hT]
          exact IH.out w1 h
        obtain ⟨x, hxx⟩ : ∃ x, hashA hs q = x := ⟨_, rfl⟩
        rw [hxx] at c0 hh ⊢
        obtain ⟨y, hyy⟩ : ∃ y, halfN n = y := ⟨_, rfl⟩
        rw [hyy] at c4 HH IH hh2
        obtain ⟨T1, T2, T3⟩ := T
        have HN : Hid (∀ (v : Nat) wq, v < 18446744073709551616 → Calls Tryd.prog 24 #[.int .u64 x, .int .u64 v] wq fun e w' => e = .returned (.int .u64 (nodeV x v : Nat)) ∧ Below wq.heap.size wq w') := fun v wq hv => Node_any x v hh hv wq
        have HL2 := hide hl2
        have s1 : wrap64 ((m : Int) - (y : Int)) = ((m - y : Nat) : Int) := by rw [IntWalk.wrap64_in _ (by omega)]; omega
        have s2 : wrap64 ((n : Int) - (y : Int)) = ((n - y : Nat) : Int) := by rw [IntWalk.wrap64_in _ (by omega)]; omega
        obtain ⟨n2, hn2⟩ : ∃ n2, n - y = n2 := ⟨_, rfl⟩
        obtain ⟨m2, hm2⟩ : ∃ m2, m - y = m2 := ⟨_, rfl⟩
        rw [hn2] at IH s2
        rw [hm2] at IH s1
        have c0q : ∀ nq, (w.drewN nq).cell? ⟨b, off + q, none⟩ = some (.int .u64 (x : Nat)) := fun _ => c0
        have g1 : q < k := by omega
        have g2 : q ≤ c := by omega
        have g4 : (q : Int) < (k : Int) := by omega
        have g5 : (q : Int) ≤ (c : Int) := by omega
        have g6 : ¬ (m : Int) ≤ (y : Int) := by omega
        clear ih hN h1 h2 hn hx hc hk ho hlen hkq c1 c3 h0 hxx e1 e2 e3 hh hh2 hT hyy hl2 c4 hn2 hm2
        go_enter Tryd.func72, Tryd.ntmps72
        go_wp2_with fail
        go_quiet (fail)
        have hb1 := ((Gr.refl w).drewN nq).below
        obtain ⟨w1, hw1⟩ : ∃ w1, w.drewN nq = w1 := ⟨_, rfl⟩
        rw [hw1] at hb1 ⊢
        have HB1 := hide hb1
        have C1 := hide (IH.out w1 (hX.out.now hb1 (Nat.le_refl _)))
        clear hb1 hw1 IH
        go_wp2_with fail
        refine (HH.out w1).mono ?_
        rintro e w1 ⟨rfl, rfl⟩
        go_wp2_with fail
        refine C1.out.mono ?_
        rintro e w2 ⟨rfl, hb2⟩
        have HB2 := hide (HB1.out.trans (hb2.mono HB1.out.size))
        clear hb2 C1
        go_wp2_with fail
        refine (HN.out T1 _ HL2.out.1).mono ?_
        rintro e w3 ⟨rfl, hb3⟩
        have HB3 := hide (HB2.out.trans (hb3.mono HB2.out.size))
        clear hb3
        go_wp2_with fail
        refine (HN.out T2 _ HL2.out.2).mono ?_
        rintro e w4 ⟨rfl, hb4⟩
        go_wp2
        go_ret3
        exact ⟨rfl, HB3.out.trans (hb4.mono HB3.out.size)⟩
end Go.Proofs.YtbinmkigolkhcaaDoor
