/- half, halves, rootOf. -/
import Derived.Test.YtbinmkigolkhcaaDoorZA
import Derived.Test.YtbinmkigolkhcaaDoorSH
namespace Go.Proofs.YtbinmkigolkhcaaDoor
open Go.RowKit Go.Sort
attribute [local go_sem] Oper.semAt_some

theorem bitLen_spec : ∀ (f x : Nat), 0 < x → x < 2 ^ f → 0 < Lib.bitLenAux f x ∧ 2 ^ (Lib.bitLenAux f x - 1) ≤ x ∧ x < 2 ^ Lib.bitLenAux f x
  | 0, x, h, h2 => by simp at h2; omega
  | f + 1, x, h, h2 => by
    have hp : (2 : Nat) ^ (f + 1) = 2 ^ f * 2 := Nat.pow_succ ..
    have e : Lib.bitLenAux (f + 1) x = 1 + Lib.bitLenAux f (x / 2) := by
      simp only [Lib.bitLenAux]
      rw [if_neg (by omega)]
    rw [e]
    rcases Nat.lt_or_ge x 2 with h3 | h3
    · obtain rfl : x = 1 := by omega
      have e2 : Lib.bitLenAux f (1 / 2) = 0 := by
        cases f with
        | zero => rfl
        | succ f => simp [Lib.bitLenAux]
      rw [e2]
      decide
    · obtain ⟨h4, h5, h6⟩ := bitLen_spec f (x / 2) (by omega) (by omega)
      obtain ⟨j, hj⟩ : ∃ j, Lib.bitLenAux f (x / 2) = j + 1 := ⟨_ - 1, (Nat.sub_add_cancel h4).symm⟩
      rw [hj] at h5 h6 ⊢
      have e3 : 1 + (j + 1) - 1 = j + 1 := by omega
      have e4 : (2 : Nat) ^ (j + 1) = 2 ^ j * 2 := Nat.pow_succ ..
      have e5 : (2 : Nat) ^ (1 + (j + 1)) = 2 ^ (j + 1) * 2 := by rw [Nat.add_comm 1, Nat.pow_succ]
      rw [show j + 1 - 1 = j by omega] at h5
      rw [e3, e5]
      omega
theorem half_bits {n : Nat} (h : 2 ≤ n) (h2 : n ≤ 1099511627776) : 0 < Lib.bitLen (n - 1) ∧ halfN n = 2 ^ (Lib.bitLen (n - 1) - 1) ∧ Lib.bitLen (n - 1) ≤ 41 := by
  have h3 : n - 1 < 2 ^ 64 := Nat.lt_trans (by omega : n - 1 < 1099511627776) (by decide)
  obtain ⟨a, b, c⟩ := bitLen_spec 64 (n - 1) (by omega) h3
  obtain ⟨j, hj⟩ : ∃ j, Lib.bitLen (n - 1) = j + 1 := ⟨_ - 1, (Nat.sub_add_cancel a).symm⟩
  have hj' : Lib.bitLenAux 64 (n - 1) = j + 1 := hj
  rw [hj'] at b c
  rw [hj]
  rw [show j + 1 - 1 = j by omega] at b ⊢
  refine ⟨by omega, half_uniq (by omega) (by omega), ?_⟩
  rcases Nat.lt_or_ge 40 j with h4 | h4
  · have : (2 : Nat) ^ 41 ≤ 2 ^ j := Nat.pow_le_pow_right (by decide) h4
    have e : (2 : Nat) ^ 41 = 2199023255552 := by decide
    omega
  · omega

set_option maxHeartbeats 1000000 in
set_option maxRecDepth 100000 in
theorem half_any (n : Nat) (h : 2 ≤ n) (h2 : n ≤ 1099511627776) (w : World) : Calls Tryd.prog 96 #[.int .i64 n] w fun e w' => e = .returned (.int .i64 (halfN n : Nat)) ∧ w = w' := by
  obtain ⟨hb0, hb1, hb2⟩ := half_bits h h2
  have HB := hide (Tryd.bits_Len ((n : Int) - 1) w (by omega) (by omega))
  have e1 : ((n : Int) - 1).toNat = n - 1 := by omega
  rw [e1] at HB
  have HH := hide hb1
  obtain ⟨m, hm⟩ : ∃ m, Lib.bitLen (n - 1) = m := ⟨_, rfl⟩
  rw [hm] at hb0 hb2 HB HH
  have w1 : wrap64 ((n : Int) - 1) = (n : Int) - 1 := IntWalk.wrap64_in _ (by omega)
  have w2 : IntKind.u64.wrap ((n : Int) - 1) = (n : Int) - 1 := by rw [IntKind.wrap_u64]; omega
  have hm0 : (1 : Int) ≤ (m : Int) := by omega
  have HR : Hid (wrap64 (2 ^ (m - 1)) = (halfN n : Nat)) := by
    have h3 : (2 : Nat) ^ (m - 1) ≤ 2 ^ 40 := Nat.pow_le_pow_right (by decide) (by omega)
    have h4 : (2 : Nat) ^ 40 = 1099511627776 := by decide
    have h5 : (2 : Int) ^ (m - 1) = ((2 ^ (m - 1) : Nat) : Int) := by simp
    have h6 := HH.out
    obtain ⟨P, hP⟩ : ∃ P, (2 : Nat) ^ (m - 1) = P := ⟨_, rfl⟩
    rw [hP] at h3 h5 h6
    show _ = _
    rw [h6, h5, IntWalk.wrap64_in _ (by omega)]
  clear hm h h2 e1
  go_enter Tryd.func96, Tryd.ntmps96
  go_wp2_with fail
  refine HB.out.mono ?_
  rintro e w1 ⟨rfl, rfl⟩
  go_wp2_with fail
  go_ret
  exact ⟨ret_int HR.out, rfl⟩

/-- a slice of slices of bytes -/
def ListsAt (B : Nat) (w : World) (A : Option Addr) (n : Nat) (ls : List (List UInt8)) : Prop :=
  ls.length = n ∧ (n = 0 ∨ ∃ b off, A = some ⟨b, off, none⟩ ∧ b < B ∧ ∀ i, i < n → ∃ Ai ni ci, w.cell? ⟨b, off + i, none⟩ = some (.slice Ai ni ci) ∧ BytesAt B w Ai ni (ls.getD i []) ∧ ni ≤ 1000000)
theorem ListsAt.mono {B B' : Nat} {w : World} {A : Option Addr} {n : Nat} {ls : List (List UInt8)} (h : ListsAt B w A n ls) (hB : B ≤ B') : ListsAt B' w A n ls := by
  refine ⟨h.1, ?_⟩
  rcases h.2 with h0 | ⟨b, off, e, hb, hc⟩
  · exact .inl h0
  · exact .inr ⟨b, off, e, by omega, fun i hi => by
      obtain ⟨Ai, ni, ci, h1, h2, h3⟩ := hc i hi
      exact ⟨Ai, ni, ci, h1, h2.mono hB, h3⟩⟩
theorem ListsAt.below {B : Nat} {w w' : World} {A : Option Addr} {n : Nat} {ls : List (List UInt8)} (h : ListsAt B w A n ls) (hb : Below B w w') : ListsAt B w' A n ls := by
  refine ⟨h.1, ?_⟩
  rcases h.2 with h0 | ⟨b, off, e, hlt, hc⟩
  · exact .inl h0
  · exact .inr ⟨b, off, e, hlt, fun i hi => by
      obtain ⟨Ai, ni, ci, h1, h2, h3⟩ := hc i hi
      exact ⟨Ai, ni, ci, (hb.cell (p := ⟨b, off + i, none⟩) hlt).trans h1, h2.below hb, h3⟩⟩
theorem ListsAt.now {B : Nat} {w w' : World} {A : Option Addr} {n : Nat} {ls : List (List UInt8)} (h : ListsAt B w A n ls) (hb : Below B w w') (hB : B ≤ w.heap.size) : ListsAt w'.heap.size w' A n ls :=
  (h.below hb).mono (Nat.le_trans hB hb.size)
theorem ListsAt.take {B : Nat} {w : World} {b off n k : Nat} {ls : List (List UInt8)} (h : ListsAt B w (some ⟨b, off, none⟩) n ls) (hk : k ≤ n) : ListsAt B w (some ⟨b, off, none⟩) k (ls.take k) := by
  refine ⟨by rw [List.length_take, h.1]; omega, ?_⟩
  rcases h.2 with h0 | ⟨b', off', e, hb, hc⟩
  · exact .inl (by omega)
  · injection e with e
    injection e with e1 e2
    subst e1; subst e2
    refine .inr ⟨b, off, rfl, hb, fun i hi => ?_⟩
    have e3 : (ls.take k).getD i [] = ls.getD i [] := by simp [List.getD_eq_getElem?_getD, hi]
    rw [e3]
    exact hc i (by omega)
theorem ListsAt.drop {B : Nat} {w : World} {b off n k : Nat} {ls : List (List UInt8)} (h : ListsAt B w (some ⟨b, off, none⟩) n ls) (hk : k ≤ n) : ListsAt B w (some ⟨b, off + k, none⟩) (n - k) (ls.drop k) := by
  refine ⟨by rw [List.length_drop, h.1], ?_⟩
  rcases h.2 with h0 | ⟨b', off', e, hb, hc⟩
  · exact .inl (by omega)
  · injection e with e
    injection e with e1 e2
    subst e1; subst e2
    refine .inr ⟨b, off + k, rfl, hb, fun i hi => ?_⟩
    have e3 : (ls.drop k).getD i [] = ls.getD (k + i) [] := by simp [List.getD_eq_getElem?_getD]
    rw [e3, Nat.add_assoc]
    exact hc (k + i) (by omega)
theorem ListsAt.at_ {B : Nat} {w : World} {A : Option Addr} {n i : Nat} {ls : List (List UInt8)} (h : ListsAt B w A n ls) (hi : i < n) :
    ∃ b off Ai ni ci, A = some ⟨b, off, none⟩ ∧ b < B ∧ w.cell? ⟨b, off + i, none⟩ = some (.slice Ai ni ci) ∧ BytesAt B w Ai ni (ls.getD i []) ∧ ni ≤ 1000000 := by
  rcases h.2 with h0 | ⟨b, off, e, hb, hc⟩
  · omega
  · obtain ⟨Ai, ni, ci, h1, h2, h3⟩ := hc i hi
    exact ⟨b, off, Ai, ni, ci, e, hb, h1, h2, h3⟩

set_option maxHeartbeats 1000000 in
set_option maxRecDepth 100000 in
theorem halves_any (b off n c : Nat) (h : 2 ≤ n) (hc : n ≤ c) (h2 : n ≤ 1000000) (w : World) :
    Calls Tryd.prog 88 #[.slice (some ⟨b, off, none⟩) n c] w fun e w' => e = .returned (.tuple #[.slice (some ⟨b, off, none⟩) (halfN n) (halfN n), .slice (some ⟨b, off + halfN n, none⟩) (n - halfN n) (c - halfN n)]) ∧ ∃ k, w' = w.drewN k := by
  have mixed := mixedOrders
  have HH := hide (half_any n h (by omega) w)
  obtain ⟨p1, p2⟩ := halfN_lt h
  obtain ⟨m, hm⟩ : ∃ m, halfN n = m := ⟨_, rfl⟩
  rw [hm] at p1 p2 HH ⊢
  have q1 : (m : Int) ≤ (n : Int) := by omega
  have q2 : (m : Int) ≤ (c : Int) := by omega
  clear hm h h2
  go_enter Tryd.func88, Tryd.ntmps88
  go_wp2_with fail
  refine HH.out.mono ?_
  rintro e w1 ⟨rfl, rfl⟩
  go_wp2_with fail
  go_quiet (fail)
  go_wp2
  go_ret2
  exact ⟨rfl, nq, rfl⟩

set_option maxHeartbeats 2000000 in
set_option maxRecDepth 100000 in
theorem rootOf_any : ∀ (N n : Nat) (A : Option Addr) (c : Nat) (ls : List (List UInt8)) (w : World), n ≤ N → ListsAt w.heap.size w A n ls → n ≤ c → n ≤ 1000000 →
    Calls Tryd.prog 55 #[.slice A n c] w fun e w' => e = .returned (.int .u64 (rootV ls : Nat)) ∧ Below w.heap.size w w' := by
  intro N
  induction N with
  | zero =>
    intro n A c ls w hN hx _ _
    obtain rfl : n = 0 := by omega
    have hnil : ls = [] := List.eq_nil_of_length_eq_zero hx.1
    subst hnil
    go_enter Tryd.func55, Tryd.ntmps55
    go_wp2
    go_ret
    exact ⟨rfl, Below.refl _ _⟩
  | succ N ih =>
    intro n A c ls w hN hx hc h2
    rcases Nat.lt_or_ge n 2 with hs | hs
    · rcases Nat.eq_zero_or_pos n with h0 | h0
      · subst h0
        have hnil : ls = [] := List.eq_nil_of_length_eq_zero hx.1
        subst hnil
        go_enter Tryd.func55, Tryd.ntmps55
        go_wp2
        go_ret
        exact ⟨rfl, Below.refl _ _⟩
      · obtain rfl : n = 1 := by omega
        obtain ⟨l, rfl⟩ : ∃ l, ls = [l] := List.length_eq_one_iff.1 hx.1
        obtain ⟨b, off, Ai, ni, ci, rfl, hb, c0, hB, hni⟩ := hx.at_ (i := 0) (by omega)
        rw [Nat.add_zero] at c0
        have HL := hide (Leaf_any Ai ni ci l w hB hni)
        clear hx hB
        go_enter Tryd.func55, Tryd.ntmps55
        go_wp2_with fail
        refine HL.out.mono ?_
        rintro e w1 ⟨rfl, hb1⟩
        go_wp2
        go_ret
        exact ⟨by rw [root_1]; rfl, hb1⟩
    · obtain ⟨b, off, -, -, -, rfl, hb, -, -, -⟩ := hx.at_ (i := 0) (by omega)
      obtain ⟨p1, p2⟩ := halfN_lt hs
      have HX := hide hx
      have HH := hide (halves_any b off n c hs hc h2 w)
      have z0 : ((n : Int) == 0) = false := beq_eq_false_iff_ne.2 (by omega)
      have z1 : ((n : Int) == 1) = false := beq_eq_false_iff_ne.2 (by omega)
      have HR := hide (root_2 (l := ls) (by rw [hx.1]; exact hs))
      rw [hx.1] at HR
      obtain ⟨m, hm⟩ : ∃ m, halfN n = m := ⟨_, rfl⟩
      rw [hm] at p1 p2 HH HR
      have HT := hide (hx.take (k := m) (by omega))
      have HD := hide (hx.drop (k := m) (by omega))
      have HB := hide (show m ≤ N ∧ n - m ≤ N ∧ n - m ≤ c - m ∧ n - m ≤ 1000000 ∧ m ≤ 1000000 by omega)
      have IH := hide ih
      clear hx hN hc h2 hs hm p1 p2 ih hb
      go_enter Tryd.func55, Tryd.ntmps55
      go_wp2_with fail
      refine HH.out.mono ?_
      rintro e w1 ⟨rfl, k, rfl⟩
      have hb1 := ((Gr.refl w).drewN k).below
      obtain ⟨w1, hw1⟩ : ∃ w1, w.drewN k = w1 := ⟨_, rfl⟩
      rw [hw1] at hb1 ⊢
      have HB1 := hide hb1
      have R1 := hide (IH.out m _ m _ w1 HB.out.1 (HT.out.now hb1 (Nat.le_refl _)) (Nat.le_refl _) HB.out.2.2.2.2)
      clear hb1 hw1 HH
      go_wp2_with fail
      refine R1.out.mono ?_
      rintro e w2 ⟨rfl, hb2⟩
      have HB2 := hide (HB1.out.trans (hb2.mono HB1.out.size))
      have R2 := hide (IH.out (n - m) _ (c - m) _ w2 HB.out.2.1 (HD.out.now HB2.out (Nat.le_refl _)) HB.out.2.2.1 HB.out.2.2.2.1)
      clear hb2 R1
      go_wp2_with fail
      refine R2.out.mono ?_
      rintro e w3 ⟨rfl, hb3⟩
      have HB3 := hide (HB2.out.trans (hb3.mono HB2.out.size))
      have RN := hide (Node_any _ _ (rootV_lt (ls.take m)) (rootV_lt (ls.drop m)) w3)
      clear hb3 R2
      go_wp2_with fail
      refine RN.out.mono ?_
      rintro e w4 ⟨rfl, hb4⟩
      rw [← HR.out]
      go_wp2
      go_ret
      exact ⟨rfl, HB3.out.trans (hb4.mono HB3.out.size)⟩
end Go.Proofs.YtbinmkigolkhcaaDoor
