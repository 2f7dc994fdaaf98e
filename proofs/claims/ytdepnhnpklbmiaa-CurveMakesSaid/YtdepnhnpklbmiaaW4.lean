/- The specification's least value and conjugate. -/
import Derived.Test.YtdepnhnpklbmiaaE21
import Derived.Test.YtdepnhnpklbmiaaW3
import Derived.Test.YtdepnhnpklbmiaaA4
namespace Go.Proofs.Ytdepnhnpklbmiaa
open Go.RowKit
set_option linter.unusedSimpArgs false
set_option linter.unusedVariables false
theorem rw_arg {ρ : Pl} {f : Int} {b n : Nat} {u : Value} (h : VRel ρ (rwA f b n) u) : ∃ u2, u = .agg #[.int .i64 f, u2] ∧ SRel ρ (.slc b 0 n) u2 := by
  obtain ⟨⟨cs⟩, rfl, hl⟩ := h
  match cs, hl with
  | [x, z], ⟨hx, hz, _⟩ =>
    have hx : x = .int .i64 f := hx
    subst hx
    exact ⟨z, rfl, hz⟩
theorem Greatest_c (c : Cu) (hc : okC c = true) (p : Int) (hp : -1073741824 ≤ p ∧ p ≤ 1073741824) : CallA Try.prog 70 [rwA c.fr 0 (c.sl.length + 1), .int .i64 p] [rowB false (vals c (c.sl.length + 1))] (fun w H => w = .int .i64 (gre c p) ∧ H = [rowB false (vals c (c.sl.length + 1))]) :=
  callA_below (enters_of Try.func70 rfl rfl) fun C ρ w ra hI hra => by
    obtain ⟨a, b, rfl, ha, hb⟩ := args2 hra
    obtain ⟨a3, rfl, h3⟩ := rw_arg ha
    obtain rfl := int_arg hb
    obtain ⟨ad, k, rfl, h1, h2, hx, h4, h5⟩ := hI.ints (blk := rowB false (vals c (c.sl.length + 1))) rfl rfl (vals_len _ _) h3
    exact (Greatest_any c ad (c.sl.length + 1) k p w hc rfl hx hp).mono fun e w' ⟨he, hg⟩ => ⟨_, _, he, ⟨rfl, rfl⟩, hg.below, rfl⟩
abbrev qB (f : Int) (b n : Nat) : Blk := ⟨true, true, 64, 1, .cells [.s (.v (.int .i64 f)), .s (.slc b 0 n)]⟩
abbrev cB (f v : Int) (b n : Nat) : Blk := ⟨true, true, 24, 1, .cells [.s (.v (.int .i64 f)), .s (.v (.int .i64 v)), .s (.slc b 0 n)]⟩
abbrev zB : Blk := ⟨true, true, 24, 1, .cells [.s (.v (.int .i64 0)), .s (.v (.int .i64 0)), .s (.v (.slice none 0 0))]⟩
set_option maxRecDepth 20000 in
set_option maxHeartbeats 4000000 in
theorem refBottom_c (f v : Int) (n : Nat) (xs : List Int) (hl : xs.length = n) (hn : n ≤ 9223372036854775807) : CallA Try.prog 39 [cuA f v 0 n] [rowB false xs] (fun w H => w = tupOf [intT (botV ⟨f, v, xs⟩).1, intT (botV ⟨f, v, xs⟩).2.1, intT (botV ⟨f, v, xs⟩).2.2.1, intT (botV ⟨f, v, xs⟩).2.2.2] ∧ H = [rowB false xs]) := by
  refine call_of_vc TYok mixedO Try.func39 rfl rfl (Nat.le_of_ble_eq_true rfl) ?_
  by_cases hc : okC ⟨f, v, xs⟩ = true
  · have hb : botV ⟨f, v, xs⟩ = (valK ⟨f, v, xs⟩ (climK ⟨f, v, xs⟩ 0), f + climK ⟨f, v, xs⟩ 0, f + climK ⟨f, v, xs⟩ 1, 0) := if_pos hc
    rw [hb]
    have hn4 : n ≤ 64 := by have := (okC_true hc).2.2.1; show n ≤ 64; rw [← hl]; exact this
    have hf := okC_fr hc
    dsimp only at hf
    have ha := ok_asc hc
    have h01 := climK_01 ha
    have hK := climK_le ⟨f, v, xs⟩ 0
    have hK1 := climK_le ⟨f, v, xs⟩ 1
    have hlen : (⟨f, v, xs⟩ : Cu).sl.length = n := hl
    rw [hlen] at hK hK1
    have hls := fun j (hj : j ≤ n) => lo_step ha (j := j) (by rw [hlen]; exact hj)
    have hhs := fun j (hj : j ≤ n) => hi_step ha (j := j) (by rw [hlen]; exact hj)
    have hV : ∀ k, k ≤ n → iA (vals ⟨f, v, xs⟩ (n + 1)) k = valK ⟨f, v, xs⟩ k := fun k hk => vals_at (by omega)
    have hvl : (vals ⟨f, v, xs⟩ (n + 1)).length = n + 1 := vals_len _ _
    have hr0 : -2097152 ≤ f ∧ f ≤ 2097152 := by omega
    have q : (!okC ⟨f, v, xs⟩) = false := by rw [hc]; rfl
    (repeat (first | refine aC ?_ | refine aK ?_ | refine ⟨fun _ => ?_, fun h => absurd h (by decide)⟩ | refine ⟨fun h => absurd h (by decide), fun _ => ?_⟩))
    (refine call_lift (refValid_c f v n xs hl hn) (fun i => match i with | 0 => some 0 | _ => none) rfl rfl hI rfl rfl rfl ?_; rintro v H1 ⟨rfl, rfl⟩; refine ⟨⟨rfl, rfl, rfl, rfl⟩, ?_⟩; (try simp only [two]); (try simp only [AV.ren]); (try simp only [renT]); (try simp only [AT.ren]); (try simp only [A.ren]); (try (rw [ptr_ren]; rotate_left; exact rfl)); (try (rw [slc_ren]; rotate_left; exact rfl)); (try simp only [S.ren]))
    (repeat (first | refine aC ?_ | refine aK ?_ | refine ⟨fun _ => ?_, fun h => absurd h (by decide)⟩ | refine ⟨fun h => absurd h (by decide), fun _ => ?_⟩))
    (first | refine brTT (q) ?_ | refine brTF (q) ?_ | refine brFT (q) ?_ | refine brFF (q) ?_)
    (repeat (first | refine aC ?_ | refine aK ?_ | refine ⟨fun _ => ?_, fun h => absurd h (by decide)⟩ | refine ⟨fun h => absurd h (by decide), fun _ => ?_⟩))
    (refine call_lift (Out_c f v n xs hl hc) (fun i => match i with | 0 => some 0 | _ => none) rfl rfl hI rfl rfl rfl ?_; rintro v H1 ⟨rfl, rfl⟩; refine ⟨⟨rfl, rfl, rfl, rfl⟩, ?_⟩; (try simp only [two]); (try simp only [AV.ren]); (try simp only [renT]); (try simp only [AT.ren]); (try simp only [A.ren]); (try (rw [ptr_ren]; rotate_left; exact rfl)); (try (rw [slc_ren]; rotate_left; exact rfl)); (try simp only [S.ren]))
    (repeat (first | refine aC ?_ | refine aK ?_ | refine ⟨fun _ => ?_, fun h => absurd h (by decide)⟩ | refine ⟨fun h => absurd h (by decide), fun _ => ?_⟩))
    generalize climK ⟨f, v, xs⟩ 0 = K at *
    generalize climK ⟨f, v, xs⟩ 1 = K1 at *
    generalize vals ⟨f, v, xs⟩ (n + 1) = vs at *
    generalize valK ⟨f, v, xs⟩ = V at *
    refine loop_rule TYok mixedO (ι := Nat × Int × Int) (fun q => [(6, .t (.a (.s (.ptr 2 0)))), (7, .int .i64 q.2.2), (8, .int .i64 q.2.1)]) (fun _ => [rowB false xs, rowB true vs, qB f 1 (n + 1)]) (fun q => q.1 ≤ n + 1 ∧ q.2.1 = f + q.1 ∧ q.2.2 = f + (min (q.1 - 1) K : Nat)) (fun q => n + 1 - q.1) (0, f, f) ⟨Nat.zero_le _, by simp, by simp⟩ (fun i => match i with | 0 => some 0 | 1 => some 2 | 2 => some 3 | _ => none) (by exact wI) ?_
    rintro ⟨j, x, lo⟩ ⟨hj, hx, hlo⟩
    dsimp only at hj hx hlo ⊢
    (repeat (first | refine aC ?_ | refine aK ?_ | refine ⟨fun _ => ?_, fun h => absurd h (by decide)⟩ | refine ⟨fun h => absurd h (by decide), fun _ => ?_⟩))
    (refine call_lift (To_c f (n + 1) vs hr0 (by omega)) (fun i => match i with | 0 => some 1 | _ => none) rfl rfl hI rfl rfl rfl ?_; rintro v H1 ⟨rfl, rfl⟩; refine ⟨⟨rfl, rfl, rfl, rfl⟩, ?_⟩; (try simp only [two]); (try simp only [AV.ren]); (try simp only [renT]); (try simp only [AT.ren]); (try simp only [A.ren]); (try (rw [ptr_ren]; rotate_left; exact rfl)); (try (rw [slc_ren]; rotate_left; exact rfl)); (try simp only [S.ren]))
    (repeat (first | refine aC ?_ | refine aK ?_ | refine ⟨fun _ => ?_, fun h => absurd h (by decide)⟩ | refine ⟨fun h => absurd h (by decide), fun _ => ?_⟩))
    refine ⟨fun g => ?_, fun g => ?_⟩
    · have g : x ≤ f + ((n + 1 : Nat) : Int) - 1 := of_decide_eq_true g
      have hlt : j ≤ n := by omega
      have hl1 := hls j hlt
      have v1 := hV j hlt
      have v2 := hV (min (j - 1) K) (by omega)
      (repeat (first | refine aC ?_ | refine ⟨fun _ => ?_, fun h => absurd h (by decide)⟩ | refine ⟨fun h => absurd h (by decide), fun _ => ?_⟩))
      refine Or.inr (cut_rule [(6, .t (.a (.s (.ptr 2 0)))), (7, .int .i64 lo), (8, .int .i64 x)] [rowB false xs, rowB true vs, qB f 1 (n + 1)] some (by exact wI) ?_)
      (refine drawn_rule TYok mixedO [] [(true, 0, []), (true, 1, []), (true, 3, []), (true, 4, []), (false, 2, []), (false, 5, []), (true, 6, [])] (by kernel_rfl) ?_)
      (repeat (first | refine aC ?_ | refine aK ?_ | refine ⟨fun _ => ?_, fun h => absurd h (by decide)⟩ | refine ⟨fun h => absurd h (by decide), fun _ => ?_⟩))
      (refine call_lift (Value_c f x (n + 1) j vs hvl hr0 (by omega) (by omega) hx) (fun i => match i with | 0 => some 1 | _ => none) rfl rfl hI rfl rfl rfl ?_; rintro v H1 ⟨rfl, rfl⟩; refine ⟨⟨rfl, rfl, rfl, rfl⟩, ?_⟩; (try simp only [two]); (try simp only [AV.ren]); (try simp only [renT]); (try simp only [AT.ren]); (try simp only [A.ren]); (try (rw [ptr_ren]; rotate_left; exact rfl)); (try (rw [slc_ren]; rotate_left; exact rfl)); (try simp only [S.ren]))
      (repeat (first | refine aC ?_ | refine aK ?_ | refine ⟨fun _ => ?_, fun h => absurd h (by decide)⟩ | refine ⟨fun h => absurd h (by decide), fun _ => ?_⟩))
      (refine call_lift (Value_c f lo (n + 1) (min (j - 1) K) vs hvl hr0 (by omega) (by omega) hlo) (fun i => match i with | 0 => some 1 | _ => none) rfl rfl hI rfl rfl rfl ?_; rintro v H1 ⟨rfl, rfl⟩; refine ⟨⟨rfl, rfl, rfl, rfl⟩, ?_⟩; (try simp only [two]); (try simp only [AV.ren]); (try simp only [renT]); (try simp only [AT.ren]); (try simp only [A.ren]); (try (rw [ptr_ren]; rotate_left; exact rfl)); (try (rw [slc_ren]; rotate_left; exact rfl)); (try simp only [S.ren]))
      (repeat (first | refine aC ?_ | refine aK ?_ | refine ⟨fun _ => ?_, fun h => absurd h (by decide)⟩ | refine ⟨fun h => absurd h (by decide), fun _ => ?_⟩))
      by_cases hcmp : V j < V (min (j - 1) K)
      · have q1 : decide (iA vs j < iA vs (min (j - 1) K)) = true := decide_eq_true (by rw [v1, v2]; exact hcmp)
        rw [if_pos hcmp] at hl1
        (first | refine brTT (q1) ?_ | refine brTF (q1) ?_ | refine brFT (q1) ?_ | refine brFF (q1) ?_)
        (repeat (first | refine aC ?_ | refine aK ?_ | refine ⟨fun _ => ?_, fun h => absurd h (by decide)⟩ | refine ⟨fun h => absurd h (by decide), fun _ => ?_⟩))
        exact ⟨(j + 1, x + 1, x), ⟨by omega, by dsimp only; omega, by dsimp only; rw [Nat.add_sub_cancel, ← hl1]; omega⟩, by dsimp only; omega, some, by exact wI⟩
      · have q1 : decide (iA vs j < iA vs (min (j - 1) K)) = false := decide_eq_false (by rw [v1, v2]; exact hcmp)
        rw [if_neg hcmp] at hl1
        (first | refine brTT (q1) ?_ | refine brTF (q1) ?_ | refine brFT (q1) ?_ | refine brFF (q1) ?_)
        (repeat (first | refine aC ?_ | refine aK ?_ | refine ⟨fun _ => ?_, fun h => absurd h (by decide)⟩ | refine ⟨fun h => absurd h (by decide), fun _ => ?_⟩))
        exact ⟨(j + 1, x + 1, lo), ⟨by omega, by dsimp only; omega, by dsimp only; rw [Nat.add_sub_cancel, ← hl1]; exact hlo⟩, by dsimp only; omega, some, by exact wI⟩
    · have g : ¬ x ≤ f + ((n + 1 : Nat) : Int) - 1 := of_decide_eq_false g
      have hj2 : j = n + 1 := by omega
      have hloK : lo = f + (K : Nat) := by rw [hlo, hj2, Nat.add_sub_cancel, Nat.min_eq_right hK]
      clear hls hlo hx hj
      (repeat (first | refine aC ?_ | refine aK ?_ | refine ⟨fun _ => ?_, fun h => absurd h (by decide)⟩ | refine ⟨fun h => absurd h (by decide), fun _ => ?_⟩))
      refine loop_rule TYok mixedO (ι := Nat × Int × Int) (fun q => [(6, .t (.a (.s (.ptr 2 0)))), (7, .int .i64 lo), (9, .int .i64 q.2.2), (10, .int .i64 q.2.1)]) (fun _ => [rowB false xs, rowB true vs, qB f 1 (n + 1)]) (fun q => q.1 ≤ n + 1 ∧ q.2.1 = f + q.1 ∧ q.2.2 = f + (max K (min (q.1 - 1) K1) : Nat)) (fun q => n + 1 - q.1) (0, f, lo) ⟨Nat.zero_le _, by simp, by dsimp only; rw [hloK]; simp⟩ some (by exact wI) ?_
      clear g hj2
      rintro ⟨j, x, hi⟩ ⟨hj, hx, hhi⟩
      dsimp only at hj hx hhi ⊢
      (repeat (first | refine aC ?_ | refine aK ?_ | refine ⟨fun _ => ?_, fun h => absurd h (by decide)⟩ | refine ⟨fun h => absurd h (by decide), fun _ => ?_⟩))
      (refine call_lift (To_c f (n + 1) vs hr0 (by omega)) (fun i => match i with | 0 => some 1 | _ => none) rfl rfl hI rfl rfl rfl ?_; rintro v H1 ⟨rfl, rfl⟩; refine ⟨⟨rfl, rfl, rfl, rfl⟩, ?_⟩; (try simp only [two]); (try simp only [AV.ren]); (try simp only [renT]); (try simp only [AT.ren]); (try simp only [A.ren]); (try (rw [ptr_ren]; rotate_left; exact rfl)); (try (rw [slc_ren]; rotate_left; exact rfl)); (try simp only [S.ren]))
      (repeat (first | refine aC ?_ | refine aK ?_ | refine ⟨fun _ => ?_, fun h => absurd h (by decide)⟩ | refine ⟨fun h => absurd h (by decide), fun _ => ?_⟩))
      refine ⟨fun g => ?_, fun g => ?_⟩
      · have g : x ≤ f + ((n + 1 : Nat) : Int) - 1 := of_decide_eq_true g
        have hlt : j ≤ n := by omega
        have hl1 := hhs j hlt
        have v1 := hV j hlt
        have v2 := hV K hK
        (repeat (first | refine aC ?_ | refine ⟨fun _ => ?_, fun h => absurd h (by decide)⟩ | refine ⟨fun h => absurd h (by decide), fun _ => ?_⟩))
        refine Or.inr (cut_rule [(6, .t (.a (.s (.ptr 2 0)))), (7, .int .i64 lo), (9, .int .i64 hi), (10, .int .i64 x)] [rowB false xs, rowB true vs, qB f 1 (n + 1)] some (by exact wI) ?_)
        (refine drawn_rule TYok mixedO [] [(true, 0, []), (true, 1, []), (true, 3, []), (true, 4, []), (false, 2, []), (false, 5, []), (true, 6, [])] (by kernel_rfl) ?_)
        (repeat (first | refine aC ?_ | refine aK ?_ | refine ⟨fun _ => ?_, fun h => absurd h (by decide)⟩ | refine ⟨fun h => absurd h (by decide), fun _ => ?_⟩))
        (refine call_lift (Value_c f x (n + 1) j vs hvl hr0 (by omega) (by omega) hx) (fun i => match i with | 0 => some 1 | _ => none) rfl rfl hI rfl rfl rfl ?_; rintro v H1 ⟨rfl, rfl⟩; refine ⟨⟨rfl, rfl, rfl, rfl⟩, ?_⟩; (try simp only [two]); (try simp only [AV.ren]); (try simp only [renT]); (try simp only [AT.ren]); (try simp only [A.ren]); (try (rw [ptr_ren]; rotate_left; exact rfl)); (try (rw [slc_ren]; rotate_left; exact rfl)); (try simp only [S.ren]))
        (repeat (first | refine aC ?_ | refine aK ?_ | refine ⟨fun _ => ?_, fun h => absurd h (by decide)⟩ | refine ⟨fun h => absurd h (by decide), fun _ => ?_⟩))
        (refine call_lift (Value_c f lo (n + 1) K vs hvl hr0 (by omega) (by omega) hloK) (fun i => match i with | 0 => some 1 | _ => none) rfl rfl hI rfl rfl rfl ?_; rintro v H1 ⟨rfl, rfl⟩; refine ⟨⟨rfl, rfl, rfl, rfl⟩, ?_⟩; (try simp only [two]); (try simp only [AV.ren]); (try simp only [renT]); (try simp only [AT.ren]); (try simp only [A.ren]); (try (rw [ptr_ren]; rotate_left; exact rfl)); (try (rw [slc_ren]; rotate_left; exact rfl)); (try simp only [S.ren]))
        (repeat (first | refine aC ?_ | refine aK ?_ | refine ⟨fun _ => ?_, fun h => absurd h (by decide)⟩ | refine ⟨fun h => absurd h (by decide), fun _ => ?_⟩))
        by_cases hcmp : V j = V K
        · have q1 : (iA vs j == iA vs K) = true := beq_iff_eq.2 (by rw [v1, v2]; exact hcmp)
          rw [if_pos hcmp] at hl1
          (first | refine brTT (q1) ?_ | refine brTF (q1) ?_ | refine brFT (q1) ?_ | refine brFF (q1) ?_)
          (repeat (first | refine aC ?_ | refine aK ?_ | refine ⟨fun _ => ?_, fun h => absurd h (by decide)⟩ | refine ⟨fun h => absurd h (by decide), fun _ => ?_⟩))
          exact ⟨(j + 1, x + 1, x), ⟨by omega, by dsimp only; omega, by dsimp only; rw [Nat.add_sub_cancel, ← hl1]; omega⟩, by dsimp only; omega, some, by exact wI⟩
        · have q1 : (iA vs j == iA vs K) = false := beq_eq_false_iff_ne.2 (by rw [v1, v2]; exact hcmp)
          rw [if_neg hcmp] at hl1
          (first | refine brTT (q1) ?_ | refine brTF (q1) ?_ | refine brFT (q1) ?_ | refine brFF (q1) ?_)
          (repeat (first | refine aC ?_ | refine aK ?_ | refine ⟨fun _ => ?_, fun h => absurd h (by decide)⟩ | refine ⟨fun h => absurd h (by decide), fun _ => ?_⟩))
          exact ⟨(j + 1, x + 1, hi), ⟨by omega, by dsimp only; omega, by dsimp only; rw [Nat.add_sub_cancel, ← hl1]; exact hhi⟩, by dsimp only; omega, some, by exact wI⟩
      · have g : ¬ x ≤ f + ((n + 1 : Nat) : Int) - 1 := of_decide_eq_false g
        have hj2 : j = n + 1 := by omega
        have hhK : hi = f + (max K K1 : Nat) := by rw [hhi, hj2, Nat.add_sub_cancel, Nat.min_eq_right hK1]
        have v2 := hV K hK
        (repeat (first | refine aC ?_ | refine aK ?_ | refine ⟨fun _ => ?_, fun h => absurd h (by decide)⟩ | refine ⟨fun h => absurd h (by decide), fun _ => ?_⟩))
        (refine call_lift (Value_c f lo (n + 1) K vs hvl hr0 (by omega) (by omega) hloK) (fun i => match i with | 0 => some 1 | _ => none) rfl rfl hI rfl rfl rfl ?_; rintro v H1 ⟨rfl, rfl⟩; refine ⟨⟨rfl, rfl, rfl, rfl⟩, ?_⟩; (try simp only [two]); (try simp only [AV.ren]); (try simp only [renT]); (try simp only [AT.ren]); (try simp only [A.ren]); (try (rw [ptr_ren]; rotate_left; exact rfl)); (try (rw [slc_ren]; rotate_left; exact rfl)); (try simp only [S.ren]))
        (repeat (first | refine aC ?_ | refine aK ?_ | refine ⟨fun _ => ?_, fun h => absurd h (by decide)⟩ | refine ⟨fun h => absurd h (by decide), fun _ => ?_⟩))
        exact ⟨(fun i => match i with | 0 => some 0 | _ => none), tupOf [intT (iA vs K), intT lo, intT hi, intT 0], [rowB false xs], by exact wI, by rw [v2, hloK, hhK, Nat.max_eq_right h01], rfl⟩
  · have hb : botV ⟨f, v, xs⟩ = (0, 0, 0, 2) := if_neg hc
    rw [hb]
    have q : (!okC ⟨f, v, xs⟩) = true := by simpa using hc
    (repeat (first | refine aC ?_ | refine aK ?_ | refine ⟨fun _ => ?_, fun h => absurd h (by decide)⟩ | refine ⟨fun h => absurd h (by decide), fun _ => ?_⟩))
    (refine call_lift (refValid_c f v n xs hl hn) (fun i => match i with | 0 => some 0 | _ => none) rfl rfl hI rfl rfl rfl ?_; rintro v H1 ⟨rfl, rfl⟩; refine ⟨⟨rfl, rfl, rfl, rfl⟩, ?_⟩; (try simp only [two]); (try simp only [AV.ren]); (try simp only [renT]); (try simp only [AT.ren]); (try simp only [A.ren]); (try (rw [ptr_ren]; rotate_left; exact rfl)); (try (rw [slc_ren]; rotate_left; exact rfl)); (try simp only [S.ren]))
    (repeat (first | refine aC ?_ | refine aK ?_ | refine ⟨fun _ => ?_, fun h => absurd h (by decide)⟩ | refine ⟨fun h => absurd h (by decide), fun _ => ?_⟩))
    (first | refine brTT (q) ?_ | refine brTF (q) ?_ | refine brFT (q) ?_ | refine brFF (q) ?_)
    (repeat (first | refine aC ?_ | refine aK ?_ | refine ⟨fun _ => ?_, fun h => absurd h (by decide)⟩ | refine ⟨fun h => absurd h (by decide), fun _ => ?_⟩))
    exact ⟨(fun i => match i with | 0 => some 0 | _ => none), tupOf [intT 0, intT 0, intT 0, intT 2], [rowB false xs], by exact wI, rfl, rfl⟩
/-! ### the conjugate -/
def grL (c : Cu) (lo : Int) : Nat → List Int
  | 0 => []
  | j + 1 => grL c lo j ++ [gre c (lo + j)]
theorem grL_len (c : Cu) (lo : Int) : ∀ j, (grL c lo j).length = j
  | 0 => rfl
  | j + 1 => by simp [grL, grL_len c lo j]
theorem grL_at (c : Cu) (lo : Int) : ∀ {j i : Nat}, i < j → iA (grL c lo j) i = gre c (lo + i)
  | j + 1, i, h => by
    simp only [grL]
    by_cases hi : i < j
    · rw [iA_app_old (by rw [grL_len]; exact hi)]
      exact grL_at c lo hi
    · obtain rfl : i = j := by omega
      rw [iA_app_new (by rw [grL_len])]
theorem grL_cu {c : Cu} (hc : okC c = true) {lo hi : Int} (h : lo ≤ hi) : rowC lo (grL c lo ((hi - lo).toNat + 1)) = conC c lo hi := by
  refine rowC_of (d := conC c lo hi) (by rw [grL_len, con_len]) fun k hk => ?_
  rw [con_len] at hk
  rw [grL_at c lo (by omega), con_val (ok_asc hc) lo hi k (by omega)]
theorem gre_bd {c : Cu} (hc : okC c = true) {p : Int} (hp : -1048576 ≤ p ∧ p ≤ 1048576) : -1152921504606846976 ≤ gre c p ∧ gre c p ≤ 1152921504606846976 := by
  rw [← gre_clim (ok_asc hc) p]
  have hk := climK_le c p
  have h1 := okC_val hc hk
  have h2 := okC_fr hc
  have h3 := (okC_true hc).2.2.1
  have h4 := mul_bound (a := p) (b := c.fr + climK c p) (M := 1048576) (N := 1048640) (by omega) (by omega)
  omega
set_option maxRecDepth 20000 in
set_option maxHeartbeats 4000000 in
theorem refConj_c (f v lo hi : Int) (n : Nat) (xs : List Int) (hl : xs.length = n) (hn : n ≤ 9223372036854775807) : CallA Try.prog 41 [cuA f v 0 n, .int .i64 lo, .int .i64 hi] [rowB false xs] (CuK 1 [rowB false xs] (conV ⟨f, v, xs⟩ lo hi)) := by
  refine call_of_vc TYok mixedO Try.func41 rfl rfl (Nat.le_of_ble_eq_true rfl) ?_
  by_cases hc : okC ⟨f, v, xs⟩ = true
  · have q : (!okC ⟨f, v, xs⟩) = false := by rw [hc]; rfl
    (repeat (first | refine aC ?_ | refine aK ?_ | refine ⟨fun _ => ?_, fun h => absurd h (by decide)⟩ | refine ⟨fun h => absurd h (by decide), fun _ => ?_⟩))
    (refine call_lift (refValid_c f v n xs hl hn) (fun i => match i with | 0 => some 0 | _ => none) rfl rfl hI rfl rfl rfl ?_; rintro v H1 ⟨rfl, rfl⟩; refine ⟨⟨rfl, rfl, rfl, rfl⟩, ?_⟩; (try simp only [two]); (try simp only [AV.ren]); (try simp only [renT]); (try simp only [AT.ren]); (try simp only [A.ren]); (try (rw [ptr_ren]; rotate_left; exact rfl)); (try (rw [slc_ren]; rotate_left; exact rfl)); (try simp only [S.ren]))
    (repeat (first | refine aC ?_ | refine aK ?_ | refine ⟨fun _ => ?_, fun h => absurd h (by decide)⟩ | refine ⟨fun h => absurd h (by decide), fun _ => ?_⟩))
    (first | refine brTT (q) ?_ | refine brTF (q) ?_ | refine brFT (q) ?_ | refine brFF (q) ?_)
    (repeat (first | refine aC ?_ | refine aK ?_ | refine ⟨fun _ => ?_, fun h => absurd h (by decide)⟩ | refine ⟨fun h => absurd h (by decide), fun _ => ?_⟩))
    by_cases h1 : -1048576 ≤ lo
    · have q1 : decide (lo < -1048576) = false := decide_eq_false (by omega)
      (first | refine brTT (q1) ?_ | refine brTF (q1) ?_ | refine brFT (q1) ?_ | refine brFF (q1) ?_)
      (repeat (first | refine aC ?_ | refine aK ?_ | refine ⟨fun _ => ?_, fun h => absurd h (by decide)⟩ | refine ⟨fun h => absurd h (by decide), fun _ => ?_⟩))
      by_cases h2 : lo ≤ 1048576
      · have q2 : decide (lo > 1048576) = false := decide_eq_false (by omega)
        (first | refine brTT (q2) ?_ | refine brTF (q2) ?_ | refine brFT (q2) ?_ | refine brFF (q2) ?_)
        (repeat (first | refine aC ?_ | refine aK ?_ | refine ⟨fun _ => ?_, fun h => absurd h (by decide)⟩ | refine ⟨fun h => absurd h (by decide), fun _ => ?_⟩))
        by_cases h3 : lo ≤ hi
        · have q3 : decide (hi < lo) = false := decide_eq_false (by omega)
          (first | refine brTT (q3) ?_ | refine brTF (q3) ?_ | refine brFT (q3) ?_ | refine brFF (q3) ?_)
          (repeat (first | refine aC ?_ | refine aK ?_ | refine ⟨fun _ => ?_, fun h => absurd h (by decide)⟩ | refine ⟨fun h => absurd h (by decide), fun _ => ?_⟩))
          by_cases h4 : hi ≤ 1048576
          · have q4 : decide (hi > 1048576) = false := decide_eq_false (by omega)
            (first | refine brTT (q4) ?_ | refine brTF (q4) ?_ | refine brFT (q4) ?_ | refine brFF (q4) ?_)
            (repeat (first | refine aC ?_ | refine aK ?_ | refine ⟨fun _ => ?_, fun h => absurd h (by decide)⟩ | refine ⟨fun h => absurd h (by decide), fun _ => ?_⟩))
            by_cases h5 : hi ≤ lo + 64
            · have q5 : decide (hi > lo + 64) = false := decide_eq_false (by omega)
              (first | refine brTT (q5) ?_ | refine brTF (q5) ?_ | refine brFT (q5) ?_ | refine brFF (q5) ?_)
              (repeat (first | refine aC ?_ | refine aK ?_ | refine ⟨fun _ => ?_, fun h => absurd h (by decide)⟩ | refine ⟨fun h => absurd h (by decide), fun _ => ?_⟩))
              (refine call_lift (Out_c f v n xs hl hc) (fun i => match i with | 0 => some 0 | _ => none) rfl rfl hI rfl rfl rfl ?_; rintro v H1 ⟨rfl, rfl⟩; refine ⟨⟨rfl, rfl, rfl, rfl⟩, ?_⟩; (try simp only [two]); (try simp only [AV.ren]); (try simp only [renT]); (try simp only [AT.ren]); (try simp only [A.ren]); (try (rw [ptr_ren]; rotate_left; exact rfl)); (try (rw [slc_ren]; rotate_left; exact rfl)); (try simp only [S.ren]))
              (repeat (first | refine aC ?_ | refine aK ?_ | refine ⟨fun _ => ?_, fun h => absurd h (by decide)⟩ | refine ⟨fun h => absurd h (by decide), fun _ => ?_⟩))
              have hN : ((hi - lo).toNat : Int) = hi - lo := by omega
              have hcn : (⟨f, v, xs⟩ : Cu).sl.length = n := hl
              have hGr : ∀ p : Int, lo ≤ p → p ≤ hi → CallA Try.prog 70 [rwA f 0 (n + 1), .int .i64 p] [rowB false (vals ⟨f, v, xs⟩ (n + 1))] (fun w H => w = .int .i64 (gre ⟨f, v, xs⟩ p) ∧ H = [rowB false (vals ⟨f, v, xs⟩ (n + 1))]) := fun p a b => by
                have := Greatest_c ⟨f, v, xs⟩ hc p (by omega)
                rw [hcn] at this
                exact this
              have hres : res2 (rowC lo (grL ⟨f, v, xs⟩ lo ((hi - lo).toNat + 1))) = conV ⟨f, v, xs⟩ lo hi := by
                rw [grL_cu hc h3]
                exact (if_pos ⟨hc, decide_eq_true (by omega), h3, h5, h4⟩).symm
              have hR := ranged_c lo (hi - lo).toNat (grL ⟨f, v, xs⟩ lo ((hi - lo).toNat + 1)) (grL_len _ _ _) (by omega) (fun i hi' => by rw [grL_at _ _ (by omega)]; exact gre_bd hc (by omega))
              rw [hres] at hR
              refine loop_rule TYok mixedO (ι := Nat × Int) (fun q => [(2, .int .i64 hi), (6, .t (.a (.s (.ptr 1 0)))), (8, .t (.a (.s (.ptr 3 0)))), (9, .t (.a (.s (.ptr 4 0)))), (10, .int .i64 q.2)]) (fun q => [rowB false xs, zB, rowB true (vals ⟨f, v, xs⟩ (n + 1)), qB f 2 (n + 1), qB lo 5 q.1, rowB true (grL ⟨f, v, xs⟩ lo q.1)]) (fun q => q.1 ≤ (hi - lo).toNat + 1 ∧ q.2 = lo + q.1) (fun q => (hi - lo).toNat + 1 - q.1) (0, lo) ⟨Nat.zero_le _, by simp⟩ (fun i => match i with | 0 => some 0 | 1 => some 2 | 2 => some 3 | 3 => some 4 | 4 => some 5 | _ => none) (by exact wI) ?_
              rintro ⟨j, p⟩ ⟨hj, hp⟩
              dsimp only at hj hp ⊢
              (repeat (first | refine aC ?_ | refine aK ?_ | refine ⟨fun _ => ?_, fun h => absurd h (by decide)⟩ | refine ⟨fun h => absurd h (by decide), fun _ => ?_⟩))
              refine ⟨fun g => ?_, fun g => ?_⟩
              · have g := of_decide_eq_true g
                have hgl := grL_len ⟨f, v, xs⟩ lo j
                have hnew : grL ⟨f, v, xs⟩ lo j ++ [gre ⟨f, v, xs⟩ p] = grL ⟨f, v, xs⟩ lo (j + 1) := by rw [hp]; rfl
                (repeat (first | refine aC ?_ | refine ⟨fun _ => ?_, fun h => absurd h (by decide)⟩ | refine ⟨fun h => absurd h (by decide), fun _ => ?_⟩))
                refine cut_rule [(2, .int .i64 hi), (6, .t (.a (.s (.ptr 1 0)))), (8, .t (.a (.s (.ptr 3 0)))), (9, .t (.a (.s (.ptr 4 0)))), (10, .int .i64 p)] [rowB false xs, zB, rowB true (vals ⟨f, v, xs⟩ (n + 1)), qB f 2 (n + 1), qB lo 5 j, rowB true (grL ⟨f, v, xs⟩ lo j)] some (by exact wI) ?_
                (refine drawn_rule TYok mixedO [(5, 6), (4, 8)] [(true, 0, []), (true, 1, []), (true, 2, []), (true, 3, []), (false, 4, []), (false, 5, []), (false, 6, [5]), (true, 7, [5]), (false, 8, [4, 5])] (by kernel_rfl) ?_)
                (repeat (first | refine aC ?_ | refine aK ?_ | refine ⟨fun _ => ?_, fun h => absurd h (by decide)⟩ | refine ⟨fun h => absurd h (by decide), fun _ => ?_⟩))
                (refine call_lift (hGr p (by omega) g) (fun i => match i with | 0 => some 2 | _ => none) rfl rfl hI rfl rfl rfl ?_; rintro v H1 ⟨rfl, rfl⟩; refine ⟨⟨rfl, rfl, rfl, rfl⟩, ?_⟩; (try simp only [two]); (try simp only [AV.ren]); (try simp only [renT]); (try simp only [AT.ren]); (try simp only [A.ren]); (try (rw [ptr_ren]; rotate_left; exact rfl)); (try (rw [slc_ren]; rotate_left; exact rfl)); (try simp only [S.ren]))
                (repeat (first | refine aC ?_ | refine aK ?_ | refine ⟨fun _ => ?_, fun h => absurd h (by decide)⟩ | refine ⟨fun h => absurd h (by decide), fun _ => ?_⟩))
                refine And.intro (ap_one hgl (by omega)) ?_
                (repeat (first | refine aC ?_ | refine aK ?_ | refine ⟨fun _ => ?_, fun h => absurd h (by decide)⟩ | refine ⟨fun h => absurd h (by decide), fun _ => ?_⟩))
                exact ⟨(j + 1, p + 1), ⟨by dsimp only; omega, by dsimp only; omega⟩, by dsimp only; omega, (fun i => match i with | 0 => some 0 | 1 => some 1 | 2 => some 2 | 3 => some 3 | 4 => some 4 | 5 => some 7 | _ => none), by dsimp only; rw [← hnew]; exact wI⟩
              · have g := of_decide_eq_false g
                obtain rfl : j = (hi - lo).toNat + 1 := by omega
                clear hGr
                (repeat (first | refine aC ?_ | refine aK ?_ | refine ⟨fun _ => ?_, fun h => absurd h (by decide)⟩ | refine ⟨fun h => absurd h (by decide), fun _ => ?_⟩))
                (refine call_lift (hR) (fun i => match i with | 0 => some 5 | _ => none) rfl rfl hI rfl rfl rfl ?_; rintro v H1 ⟨rfl, rfl⟩; refine ⟨⟨rfl, rfl, rfl, rfl⟩, ?_⟩; (try simp only [two]); (try simp only [AV.ren]); (try simp only [renT]); (try simp only [AT.ren]); (try simp only [A.ren]); (try (rw [ptr_ren]; rotate_left; exact rfl)); (try (rw [slc_ren]; rotate_left; exact rfl)); (try simp only [S.ren]))
                (repeat (first | refine aC ?_ | refine aK ?_ | refine ⟨fun _ => ?_, fun h => absurd h (by decide)⟩ | refine ⟨fun h => absurd h (by decide), fun _ => ?_⟩))
                exact ⟨(fun i => match i with | 0 => some 0 | 1 => some 6 | _ => none), tupOf [cuT (conV ⟨f, v, xs⟩ lo hi).1.fr (conV ⟨f, v, xs⟩ lo hi).1.fst 1 (conV ⟨f, v, xs⟩ lo hi).1.sl.length, intT (conV ⟨f, v, xs⟩ lo hi).2], [rowB false xs, rowB true (conV ⟨f, v, xs⟩ lo hi).1.sl], by exact wI, rfl, rfl⟩
            · have hz : conV ⟨f, v, xs⟩ lo hi = (Cu.zero, 2) := if_neg fun h => h5 h.2.2.2.1
              rw [hz]
              have q5 : decide (hi > lo + 64) = true := decide_eq_true (by omega)
              (first | refine brTT (q5) ?_ | refine brTF (q5) ?_ | refine brFT (q5) ?_ | refine brFF (q5) ?_)
              (repeat (first | refine aC ?_ | refine aK ?_ | refine ⟨fun _ => ?_, fun h => absurd h (by decide)⟩ | refine ⟨fun h => absurd h (by decide), fun _ => ?_⟩))
              exact ⟨(fun i => match i with | 0 => some 0 | _ => none), tupOf [cuT 0 0 1 0, intT 2], [rowB false xs, rowB true []], by exact wI, rfl, rfl⟩
          · have hz : conV ⟨f, v, xs⟩ lo hi = (Cu.zero, 2) := if_neg fun h => h4 h.2.2.2.2
            rw [hz]
            have q4 : decide (hi > 1048576) = true := decide_eq_true (by omega)
            (first | refine brTT (q4) ?_ | refine brTF (q4) ?_ | refine brFT (q4) ?_ | refine brFF (q4) ?_)
            (repeat (first | refine aC ?_ | refine aK ?_ | refine ⟨fun _ => ?_, fun h => absurd h (by decide)⟩ | refine ⟨fun h => absurd h (by decide), fun _ => ?_⟩))
            exact ⟨(fun i => match i with | 0 => some 0 | _ => none), tupOf [cuT 0 0 1 0, intT 2], [rowB false xs, rowB true []], by exact wI, rfl, rfl⟩
        · have hz : conV ⟨f, v, xs⟩ lo hi = (Cu.zero, 2) := if_neg fun h => h3 h.2.2.1
          rw [hz]
          have q3 : decide (hi < lo) = true := decide_eq_true (by omega)
          (first | refine brTT (q3) ?_ | refine brTF (q3) ?_ | refine brFT (q3) ?_ | refine brFF (q3) ?_)
          (repeat (first | refine aC ?_ | refine aK ?_ | refine ⟨fun _ => ?_, fun h => absurd h (by decide)⟩ | refine ⟨fun h => absurd h (by decide), fun _ => ?_⟩))
          exact ⟨(fun i => match i with | 0 => some 0 | _ => none), tupOf [cuT 0 0 1 0, intT 2], [rowB false xs, rowB true []], by exact wI, rfl, rfl⟩
      · have hz : conV ⟨f, v, xs⟩ lo hi = (Cu.zero, 2) := if_neg fun h => by have := inB_true h.2.1; omega
        rw [hz]
        have q2 : decide (lo > 1048576) = true := decide_eq_true (by omega)
        (first | refine brTT (q2) ?_ | refine brTF (q2) ?_ | refine brFT (q2) ?_ | refine brFF (q2) ?_)
        (repeat (first | refine aC ?_ | refine aK ?_ | refine ⟨fun _ => ?_, fun h => absurd h (by decide)⟩ | refine ⟨fun h => absurd h (by decide), fun _ => ?_⟩))
        exact ⟨(fun i => match i with | 0 => some 0 | _ => none), tupOf [cuT 0 0 1 0, intT 2], [rowB false xs, rowB true []], by exact wI, rfl, rfl⟩
    · have hz : conV ⟨f, v, xs⟩ lo hi = (Cu.zero, 2) := if_neg fun h => by have := inB_true h.2.1; omega
      rw [hz]
      have q1 : decide (lo < -1048576) = true := decide_eq_true (by omega)
      (first | refine brTT (q1) ?_ | refine brTF (q1) ?_ | refine brFT (q1) ?_ | refine brFF (q1) ?_)
      (repeat (first | refine aC ?_ | refine aK ?_ | refine ⟨fun _ => ?_, fun h => absurd h (by decide)⟩ | refine ⟨fun h => absurd h (by decide), fun _ => ?_⟩))
      exact ⟨(fun i => match i with | 0 => some 0 | _ => none), tupOf [cuT 0 0 1 0, intT 2], [rowB false xs, rowB true []], by exact wI, rfl, rfl⟩
  · have hz : conV ⟨f, v, xs⟩ lo hi = (Cu.zero, 2) := if_neg fun h => hc h.1
    rw [hz]
    have q : (!okC ⟨f, v, xs⟩) = true := by simpa using hc
    (repeat (first | refine aC ?_ | refine aK ?_ | refine ⟨fun _ => ?_, fun h => absurd h (by decide)⟩ | refine ⟨fun h => absurd h (by decide), fun _ => ?_⟩))
    (refine call_lift (refValid_c f v n xs hl hn) (fun i => match i with | 0 => some 0 | _ => none) rfl rfl hI rfl rfl rfl ?_; rintro v H1 ⟨rfl, rfl⟩; refine ⟨⟨rfl, rfl, rfl, rfl⟩, ?_⟩; (try simp only [two]); (try simp only [AV.ren]); (try simp only [renT]); (try simp only [AT.ren]); (try simp only [A.ren]); (try (rw [ptr_ren]; rotate_left; exact rfl)); (try (rw [slc_ren]; rotate_left; exact rfl)); (try simp only [S.ren]))
    (repeat (first | refine aC ?_ | refine aK ?_ | refine ⟨fun _ => ?_, fun h => absurd h (by decide)⟩ | refine ⟨fun h => absurd h (by decide), fun _ => ?_⟩))
    (first | refine brTT (q) ?_ | refine brTF (q) ?_ | refine brFT (q) ?_ | refine brFF (q) ?_)
    (repeat (first | refine aC ?_ | refine aK ?_ | refine ⟨fun _ => ?_, fun h => absurd h (by decide)⟩ | refine ⟨fun h => absurd h (by decide), fun _ => ?_⟩))
    exact ⟨(fun i => match i with | 0 => some 0 | _ => none), tupOf [cuT 0 0 1 0, intT 2], [rowB false xs, rowB true []], by exact wI, rfl, rfl⟩
end Go.Proofs.Ytdepnhnpklbmiaa
