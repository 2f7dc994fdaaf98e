/- Level's closures; ContainsFunc at quotes. -/
import Derived.Test.YtpbenjpponbjjaaGP
namespace Go.Proofs.Ytpbenjpponbjjaa
open Go.RowKit Go.Sort Go.BigFrame
theorem qany_yes {p : Qt → Bool} {l : List Qt} {i : Nat} (hi : i < l.length) (h : p (qA l i) = true) : l.any p = true := List.any_eq_true.2 ⟨_, qA_mem hi, h⟩
theorem qany_no {p : Qt → Bool} {l : List Qt} (h : ∀ i, i < l.length → p (qA l i) = false) : l.any p = false := by
  rw [List.any_eq_false]
  intro x hx
  obtain ⟨i, hi, rfl⟩ := List.getElem_of_mem hx
  have := h i hi
  unfold qA at this
  rw [List.getD_eq_getElem?_getD, List.getElem?_eq_getElem hi] at this
  simpa using this
set_option maxHeartbeats 2000000 in
theorem qIndexFunc_any (fn : Nat) (A : Option Addr) (n c : Nat) (l : List Qt) (w : World) (hx : QtAt w.heap.size w A n l) (hn : n ≤ 1000000) (x y z : Value) (p : Qt → Bool) (hent : ∀ args w, (callFunc fn args).run Try.prog w = .ok (.enter fn args) w)
    (hcb : ∀ i, i < n → ∀ w1, Below w.heap.size w w1 → Calls Try.prog fn #[qV (qA l i), x, y, z] w1 fun e w' => e = .returned (.bool (p (qA l i))) ∧ Below w1.heap.size w1 w') :
    Calls Try.prog 93 #[.slice A n c, .func (.func fn) #[] #[x, y, z]] w fun e w' => ∃ k : Int, e = .returned (.int .i64 k) ∧ decide (0 ≤ k) = l.any p ∧ Below w.heap.size w w' := by
  have mixed := mixedOrders
  have HX := hide hx
  have HN := hide hn
  have HLEN := hide hx.len
  have HCB := hide hcb
  clear hx hn hcb
  go_enter Try.func93, Try.ntmps93
  go_wp2_with fail
  go_loopw [8] (fun vi wr => ∃ i : Nat, vi = .int .i64 i ∧ i ≤ n ∧ Hid (∀ j, j < i → p (qA l j) = false) ∧ Hid (Below w.heap.size w wr)) (fun vi _ => n - (intOf vi).toNat)
  case atStart => exact ⟨0, rfl, Nat.zero_le _, fun j hj => absurd hj (Nat.not_lt_zero _), Below.refl _ _⟩
  case round =>
    obtain ⟨i, rfl, hi, HI, HG⟩ := hrel
    by_cases hlt : i < n
    · have hlt' : (i : Int) < (n : Int) := by omega
      obtain ⟨b, off, rfl, hb, c0, c1, c2, c3, c4⟩ := HX.out.at_ hlt
      have d0 := (HG.out.cell (p := ⟨b, off + i * 5, none⟩) hb).trans c0
      have d1 := (HG.out.cell (p := ⟨b, off + i * 5 + 1, none⟩) hb).trans c1
      have d2 := (HG.out.cell (p := ⟨b, off + i * 5 + 2, none⟩) hb).trans c2
      have d3 := (HG.out.cell (p := ⟨b, off + i * 5 + 3, none⟩) hb).trans c3
      have d4 := (HG.out.cell (p := ⟨b, off + i * 5 + 4, none⟩) hb).trans c4
      have hN := HN.out
      have HC := hide (HCB.out i hlt wr HG.out)
      have HS : Hid (p (qA l i) = false → ∀ j, j < i + 1 → p (qA l j) = false) := fun h j hj => by
        rcases Nat.lt_or_ge j i with q | q
        · exact HI.out j q
        · obtain rfl : j = i := by omega
          exact h
      have HR : Hid (p (qA l i) = true → l.any p = true) := fun h => qany_yes (by rw [HLEN.out]; exact hlt) h
      obtain ⟨q, hq⟩ : ∃ q, p (qA l i) = q := ⟨_, rfl⟩
      rw [hq] at HC HS HR
      have HQ := hide (show i + 1 ≤ n by omega)
      clear c0 c1 c2 c3 c4 hi hlt hq
      generalize qA l i = o at d0 d1 d2 d3 d4 HC
      obtain ⟨⟨o1, o2, o3⟩, pr, wt⟩ := o
      dsimp only at d0 d1 d2 d3 d4
      have HC : Hid (Calls Try.prog fn #[.agg #[.int .i64 o1, .int .i64 o2, .int .i64 o3, .int .i64 pr, .int .i64 wt], x, y, z] wr fun e w' => e = .returned (.bool q) ∧ Below wr.heap.size wr w') := HC
      go_wp2_with fail
      refine HC.out.mono ?_
      rintro e w1 ⟨rfl, hg⟩
      have HG1 := hide (bel_next HG.out hg)
      clear hg d0 d1 d2 d3 d4 HC
      cases q
      · have HS2 := hide (HS.out rfl)
        go_wp2_with fail
        go_roundw
        case rel => exact ⟨i + 1, by go_num, HQ.out, HS2, HG1⟩
        case measure => have := HQ.out; simp [intOf]; omega
      · have HR2 := hide (HR.out rfl)
        go_wp2_with fail
        go_ret
        exact ⟨i, rfl, by rw [HR2.out]; exact decide_eq_true (by omega), HG1.out⟩
    · obtain rfl : i = n := by omega
      have hd : ¬ (i : Int) < (i : Int) := by omega
      have HF := hide (qany_no (p := p) (l := l) (by rw [HLEN.out]; exact HI.out))
      clear hi hlt
      go_wp2_with fail
      go_ret
      exact ⟨-1, rfl, by rw [HF.out]; decide, HG.out⟩
theorem qContainsFunc_any (fn : Nat) (A : Option Addr) (n c : Nat) (l : List Qt) (w : World) (hx : QtAt w.heap.size w A n l) (hn : n ≤ 1000000) (x y z : Value) (p : Qt → Bool) (hent : ∀ args w, (callFunc fn args).run Try.prog w = .ok (.enter fn args) w)
    (hcb : ∀ i, i < n → ∀ w1, Below w.heap.size w w1 → Calls Try.prog fn #[qV (qA l i), x, y, z] w1 fun e w' => e = .returned (.bool (p (qA l i))) ∧ Below w1.heap.size w1 w') :
    Calls Try.prog 68 #[.slice A n c, .func (.func fn) #[] #[x, y, z]] w fun e w' => e = .returned (.bool (l.any p)) ∧ Below w.heap.size w w' := by
  have HI := hide (qIndexFunc_any fn A n c l w hx hn x y z p hent hcb)
  obtain ⟨q, hq⟩ : ∃ q, l.any p = q := ⟨_, rfl⟩
  rw [hq] at HI ⊢
  clear hx hn hcb hq hent
  go_enter Try.func68, Try.ntmps68
  go_wp2_with fail
  refine HI.out.mono ?_
  rintro e w1 ⟨k, rfl, hk, hb⟩
  have HB := hide hb
  subst hk
  clear hb HI
  go_wp2_with fail
  go_ret
  exact ⟨rfl, HB.out⟩
def suitP (g : Gd) (p : Int) (q : Qt) : Bool := (q.2.1 == p) && belowG q.1 g
set_option maxHeartbeats 2000000 in
/-- Level's inner closure -/
theorem suit_any (A : Option Addr) (n c : Nat) (l : List Qt) (q : Qt) (b1 b2 b3 : Nat) (i : Nat) (p : Int) (w : World) (hx : QtAt w.heap.size w A n l) (hn : n ≤ 1000000) (hi : i < n) (h1 : w.cell? ⟨b1, 0, none⟩ = some (.int .i64 p)) (h2 : w.cell? ⟨b2, 0, none⟩ = some (.slice A n c)) (h3 : w.cell? ⟨b3, 0, none⟩ = some (.int .i64 i))
    (k1 : b1 < w.heap.size) (k2 : b2 < w.heap.size) (k3 : b3 < w.heap.size) :
    Calls Try.prog 69 #[qV q, .pointer (some ⟨b1, 0, none⟩), .pointer (some ⟨b2, 0, none⟩), .pointer (some ⟨b3, 0, none⟩)] w fun e w' => e = .returned (.bool (suitP (qA l i).1 p q)) ∧ Below w.heap.size w w' := by
  have mixed := mixedOrders
  obtain ⟨b, off, rfl, hb, c0, c1, c2, c3, c4⟩ := hx.at_ hi
  have hi' : (i : Int) < (n : Int) := by omega
  obtain ⟨z, hz⟩ : ∃ z, w.heap.size = z := ⟨_, rfl⟩
  obtain ⟨W1, hW1⟩ : ∃ W1, w.alloc (.cells #[.int .i64 q.1.1, .int .i64 q.1.2.1, .int .i64 q.1.2.2, .int .i64 q.2.1, .int .i64 q.2.2] 60) = W1 := ⟨_, rfl⟩
  have hbl : Below w.heap.size w W1 := by rw [← hW1]; exact (Below.refl _ _).alloc (Nat.le_refl _) _
  have hz1 : W1.heap[z]? = some (.cells #[.int .i64 q.1.1, .int .i64 q.1.2.1, .int .i64 q.1.2.2, .int .i64 q.2.1, .int .i64 q.2.2] 60 (0, 0)) := by rw [← hW1, ← hz]; exact heap_alloc_new _ _
  have hold : ∀ (r : BelOf W1) {a : Addr}, a.block < w.heap.size → r.w'.cell? a = w.cell? a := fun r a ha => (bel_next hbl r.h).cell ha
  have C0 : ∀ r : BelOf W1, r.w'.cell? ⟨z, 0, none⟩ = some (.int .i64 q.1.1) := fun r => (box5 ((r.h.block z (lt_of_heap hz1)).trans hz1)).1
  have C1 : ∀ r : BelOf W1, r.w'.cell? ⟨z, 1, none⟩ = some (.int .i64 q.1.2.1) := fun r => (box5 ((r.h.block z (lt_of_heap hz1)).trans hz1)).2.1
  have C2 : ∀ r : BelOf W1, r.w'.cell? ⟨z, 2, none⟩ = some (.int .i64 q.1.2.2) := fun r => (box5 ((r.h.block z (lt_of_heap hz1)).trans hz1)).2.2.1
  have C3 : ∀ r : BelOf W1, r.w'.cell? ⟨z, 3, none⟩ = some (.int .i64 q.2.1) := fun r => (box5 ((r.h.block z (lt_of_heap hz1)).trans hz1)).2.2.2.1
  have D1 : ∀ r : BelOf W1, r.w'.cell? ⟨b1, 0, none⟩ = some (.int .i64 p) := fun r => (hold r k1).trans h1
  have D2 : ∀ r : BelOf W1, r.w'.cell? ⟨b2, 0, none⟩ = some (.slice (some ⟨b, off, none⟩) n c) := fun r => (hold r k2).trans h2
  have D3 : ∀ r : BelOf W1, r.w'.cell? ⟨b3, 0, none⟩ = some (.int .i64 i) := fun r => (hold r k3).trans h3
  generalize hg : qA l i = g at c0 c1 c2 c3 c4
  obtain ⟨⟨g0, g1, g2⟩, gp, gw⟩ := g
  dsimp only at c0 c1 c2
  have E0 : ∀ r : BelOf W1, r.w'.cell? ⟨b, off + i * 5, none⟩ = some (.int .i64 g0) := fun r => (hold r (a := ⟨b, _, none⟩) hb).trans c0
  have E1 : ∀ r : BelOf W1, r.w'.cell? ⟨b, off + i * 5 + 1, none⟩ = some (.int .i64 g1) := fun r => (hold r (a := ⟨b, _, none⟩) hb).trans c1
  have E2 : ∀ r : BelOf W1, r.w'.cell? ⟨b, off + i * 5 + 2, none⟩ = some (.int .i64 g2) := fun r => (hold r (a := ⟨b, _, none⟩) hb).trans c2
  obtain ⟨⟨q0, q1, q2⟩, qp, qw⟩ := q
  dsimp only at C0 C1 C2 C3 hW1
  have KB := hide (fun r : BelOf W1 => bel_call r ((Below_any (q0, q1, q2) (g0, g1, g2) r.w').mono fun _ _ ⟨x, y⟩ => ⟨x, y.below⟩))
  obtain ⟨ev, hev⟩ : ∃ ev, (qp == p) = ev := ⟨_, rfl⟩
  obtain ⟨bv, hbv⟩ : ∃ bv, belowG (q0, q1, q2) (g0, g1, g2) = bv := ⟨_, rfl⟩
  have HV : Hid (suitP (g0, g1, g2) p ((q0, q1, q2), qp, qw) = (ev && bv)) := by show _ = _; unfold suitP; dsimp only; rw [hev, hbv]
  rw [hbv] at KB
  have HBL := hide hbl
  obtain ⟨sv, hsv⟩ : ∃ sv, suitP (g0, g1, g2) p ((q0, q1, q2), qp, qw) = sv := ⟨_, rfl⟩
  dsimp only
  rw [hsv] at HV ⊢
  clear hbv hsv hbl hz1 hold c0 c1 c2 c3 c4 h1 h2 h3 k1 k2 k3 hx hi hn hg hb
  go_enter Try.func69, Try.ntmps69
  go_wp2_with fail
  go_cut [5] (fun v wx => v = .bool sv ∧ Hid (Below W1.heap.size W1 wx))
  case first =>
    cases ev with
    | false =>
      refine wp_region_quiet_bel (by assumption) (by kernel_rfl) ?_
      repeat (go_big_quiet_step (first | (go_at_call 15; with_reducible exact KB.out _)))
      refine wpQuiet_nil ?_
      rintro _ ⟨⟨wq, hq⟩, rfl⟩
      have HQ := hide hq
      clear hq
      go_wp2_with fail
      go_meet
      exact ⟨by rw [HV.out]; rfl, HQ⟩
    | true =>
      refine wp_region_quiet_bel (by assumption) (by kernel_rfl) ?_
      repeat (go_big_quiet_step (first | (go_at_call 15; with_reducible exact KB.out _)))
      refine wpQuiet_nil ?_
      rintro _ ⟨⟨wq, hq⟩, rfl⟩
      have HQ := hide hq
      clear hq
      go_wp2_with fail
      go_meet
      exact ⟨by rw [HV.out]; rfl, HQ⟩
  case rest =>
    obtain ⟨rfl, HCB⟩ := hcut
    have HE := hide (bel_next HBL.out HCB.out)
    clear HCB
    go_wp2_with fail
    go_ret
    exact ⟨rfl, HE.out⟩
end Go.Proofs.Ytpbenjpponbjjaa
