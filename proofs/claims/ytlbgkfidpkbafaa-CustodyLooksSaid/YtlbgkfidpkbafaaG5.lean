/- The specification's book, asked. -/
import Derived.Test.YtlbgkfidpkbafaaG3
import Derived.Test.YtlbgkfidpkbafaaG1
import Derived.Test.YtlbgkfidpkbafaaE21
namespace Go.Proofs.Ytlbgkfidpkbafaa
open Go.RowKit
set_option linter.unusedSimpArgs false
set_option linter.unusedVariables false
/-- the specification's book beside a book -/
structure Rf (s : St) (gs : List Int) : Prop where
  good : Good s
  len : s.n * 9 = gs.length
  same : ∀ k o, k < s.n → o < 7 → fG gs k o = fG s.xs k o
  rev : ∀ k, k < s.n → revG gs k = revG s.xs k
  ent : EntI s
  no : ∀ k, k < s.n → fG gs k 7 < 0 → fG s.xs k 7 = -1
  yes : ∀ k, k < s.n → 0 ≤ fG gs k 7 → 0 ≤ fG s.xs k 7 ∧ fG s.xs k 7 = fG gs k 7 - (usedN s.xs s.es k s.m : Nat)
abbrev refA (n m : Nat) (d : Int) : AV := .t (.agg [.s (.slc 0 0 n), .s (.slc 1 0 m), .s (.v (.int .i64 d))])
abbrev refH (s : St) (gs : List Int) : AH := [⟨false, false, 50, 9, .recs kG gs⟩, ⟨false, false, 67, 4, .rows (.int .i64) s.es⟩]
structure UnRt (n : Nat) (xs : List Int) (no0 : Int) (i : Nat) (no : Int) : Prop where
  ge : 0 ≤ no
  le : no ≤ (n : Int)
  eq : inG xs no0 i = (decide (1 ≤ no) && inG xs no i)
set_option maxRecDepth 20000 in
theorem runder_c (s : St) (gs : List Int) (hr : Rf s gs) (no0 : Int) (i : Nat) (n1 : 1 ≤ no0) (n2 : no0 ≤ (s.n : Int)) :
    CallA Try.prog 91 [refA s.n s.m s.d, .int .i64 no0, .int .i64 ((i : Int) + 1)] (refH s gs) (fun w H => w = .boo (inG s.xs no0 i) ∧ H = refH s gs) := by
  refine call_of_vc TYok mixedO Try.func91 rfl rfl (Nat.le_of_ble_eq_true rfl) ?_
  have hw := hr.good.rng.wf
  have hf := hw.few
  have hg := hr.len
  (repeat (first | refine aC ?_ | refine aK ?_ | refine ⟨fun _ => ?_, fun h => absurd h (by decide)⟩ | refine ⟨fun h => absurd h (by decide), fun _ => ?_⟩))
  refine loop_rule TYok mixedO (ι := Int) (fun no => [(1, .int .i64 no), (2, .int .i64 ((i : Int) + 1)), (3, .t (.a (.s (.ptr 2 0))))]) (fun _ => refH s gs ++ [⟨true, true, 30, 1, .cells [.s (.slc 0 0 s.n), .s (.slc 1 0 s.m), .s (.v (.int .i64 s.d))]⟩]) (UnRt s.n s.xs no0 i) (fun no => no.toNat) no0 ⟨by omega, n2, by rw [decide_eq_true n1]; rfl⟩ some (by exact wI) ?_
  rintro no ⟨hge, hle, he⟩
  (repeat (first | refine aC ?_ | refine aK ?_ | refine ⟨fun _ => ?_, fun h => absurd h (by decide)⟩ | refine ⟨fun h => absurd h (by decide), fun _ => ?_⟩))
  by_cases h0 : 1 ≤ no
  · have g2 : (no != 0) = true := bne_iff_ne.2 (by omega)
    obtain ⟨k, rfl⟩ : ∃ k : Nat, no = (k : Int) + 1 := ⟨(no - 1).toNat, by omega⟩
    have hk : k < s.n := by omega
    (first | refine brTT (g2) ?_ | refine brTF (g2) ?_ | refine brFT (g2) ?_ | refine brFF (g2) ?_)
    (repeat (first | refine aC ?_ | refine aK ?_ | refine ⟨fun _ => ?_, fun h => absurd h (by decide)⟩ | refine ⟨fun h => absurd h (by decide), fun _ => ?_⟩))
    refine ⟨fun g => ?_, fun g => ?_⟩
    · have g : ((k : Int) + 1 == (i : Int) + 1) = true := g
      have hki : k = i := by
        have := beq_iff_eq.1 g
        omega
      subst hki
      (repeat (first | refine aC ?_ | refine aK ?_ | refine ⟨fun _ => ?_, fun h => absurd h (by decide)⟩ | refine ⟨fun h => absurd h (by decide), fun _ => ?_⟩))
      rw [he, decide_eq_true h0, inG_self hw hk]
      exact ⟨some, .boo true, refH s gs, by exact wI, rfl, rfl⟩
    · have g : ((k : Int) + 1 == (i : Int) + 1) = false := g
      have hki : k ≠ i := fun e => by
        have := beq_eq_false_iff_ne.1 g
        exact this (by rw [e])
      have a0 : i64ok ((k : Int) + 1 - 1) = true := i64_of (by omega)
      have a1 : decide (0 ≤ (k : Int) + 1 - 1 ∧ (k : Int) + 1 - 1 < (s.n : Int)) = true := decide_eq_true (by omega)
      (repeat (first | refine aC ?_ | refine aK ?_ | refine ⟨fun _ => ?_, fun h => absurd h (by decide)⟩ | refine ⟨fun h => absurd h (by decide), fun _ => ?_⟩))
      rw [succ_k]
      refine And.intro (fld_z (o := 1) (by decide) rfl hk hg) ?_
      (repeat (first | refine aC ?_ | refine aK ?_ | refine ⟨fun _ => ?_, fun h => absurd h (by decide)⟩ | refine ⟨fun h => absurd h (by decide), fun _ => ?_⟩))
      have b0 : gs.getD (0 + k * 9 + 1) 0 = fG s.xs k 1 := by rw [Nat.zero_add]; exact hr.same k 1 hk (by decide)
      have b1 : 0 ≤ fG s.xs k 1 := hw.ge k hk
      have b2 : fG s.xs k 1 ≤ k := hw.le k hk
      exact ⟨gs.getD (0 + k * 9 + 1) 0, ⟨by omega, by omega, by rw [b0, he, decide_eq_true h0, Bool.true_and]; exact inG_step hw hk hki⟩, by rw [b0]; omega, some, by exact wI⟩
  · have g2 : (no != 0) = false := by rw [bne_eq_false_iff_eq]; omega
    (first | refine brTT (g2) ?_ | refine brTF (g2) ?_ | refine brFT (g2) ?_ | refine brFF (g2) ?_)
    (repeat (first | refine aC ?_ | refine aK ?_ | refine ⟨fun _ => ?_, fun h => absurd h (by decide)⟩ | refine ⟨fun h => absurd h (by decide), fun _ => ?_⟩))
    rw [he, decide_eq_false h0]
    exact ⟨some, .boo false, refH s gs, by exact wI, rfl, rfl⟩
/-- revoked, itself or one above it -/
def revS (xs : List Int) (no : Int) : Nat → Bool
  | 0 => false
  | c + 1 => revS xs no c || (revG xs c && inG xs no c)
theorem revS_any {n : Nat} {xs : List Int} (hw : Wf n xs) {no : Int} (n1 : 1 ≤ no) (n2 : no ≤ (n : Int)) : revS xs no n = (line xs (no - 1).toNat).any (revG xs) := by
  have key : ∀ c, revS xs no c = true ↔ ∃ i, i < c ∧ revG xs i = true ∧ inG xs no i = true := by
    intro c
    induction c with
    | zero => exact ⟨fun h => (by cases h), fun ⟨_, h, _⟩ => absurd h (Nat.not_lt_zero _)⟩
    | succ c ih =>
      simp only [revS, Bool.or_eq_true, Bool.and_eq_true]
      constructor
      · rintro (h | ⟨h1, h2⟩)
        · obtain ⟨i, a, b⟩ := ih.1 h
          exact ⟨i, Nat.lt_succ_of_lt a, b⟩
        · exact ⟨c, Nat.lt_succ_self c, h1, h2⟩
      · rintro ⟨i, a, b, e⟩
        rcases Nat.lt_succ_iff_lt_or_eq.1 a with h | rfl
        · exact .inl (ih.2 ⟨i, h, b, e⟩)
        · exact .inr ⟨b, e⟩
  rw [Bool.eq_iff_iff, key, List.any_eq_true]
  constructor
  · rintro ⟨i, _, h2, h3⟩
    exact ⟨i, of_decide_eq_true h3, h2⟩
  · rintro ⟨i, h1, h2⟩
    exact ⟨i, line_lt hw (k := (no - 1).toNat) (by omega) i h1, h2, decide_eq_true h1⟩
abbrev refX (s : St) (gs : List Int) : AH := refH s gs ++ [⟨true, true, 30, 1, .cells [.s (.slc 0 0 s.n), .s (.slc 1 0 s.m), .s (.v (.int .i64 s.d))]⟩]
set_option maxRecDepth 20000 in
theorem rrevoked_c (s : St) (gs : List Int) (hr : Rf s gs) (no : Int) (n1 : 1 ≤ no) (n2 : no ≤ (s.n : Int)) :
    CallA Try.prog 92 [refA s.n s.m s.d, .int .i64 no] (refH s gs) (fun w H => w = .boo ((line s.xs (no - 1).toNat).any (revG s.xs)) ∧ H = refH s gs) := by
  refine call_of_vc TYok mixedO Try.func92 rfl rfl (Nat.le_of_ble_eq_true rfl) ?_
  have hw := hr.good.rng.wf
  have hf := hw.few
  have hg := hr.len
  rw [← revS_any hw n1 n2]
  (repeat (first | refine aC ?_ | refine aK ?_ | refine ⟨fun _ => ?_, fun h => absurd h (by decide)⟩ | refine ⟨fun h => absurd h (by decide), fun _ => ?_⟩))
  refine loop_rule TYok mixedO (ι := Nat) (fun c => [(1, .int .i64 no), (2, .t (.a (.s (.ptr 2 0)))), (5, .int .i64 ((c : Int) + 1))]) (fun _ => refX s gs) (fun c => c ≤ s.n ∧ revS s.xs no c = false) (fun c => s.n - c) 0 ⟨Nat.zero_le _, rfl⟩ some (by exact wI) ?_
  rintro c ⟨hc, hv⟩
  (repeat (first | refine aC ?_ | refine aK ?_ | refine ⟨fun _ => ?_, fun h => absurd h (by decide)⟩ | refine ⟨fun h => absurd h (by decide), fun _ => ?_⟩))
  refine ⟨fun g => ?_, fun g => ?_⟩
  · have g := of_decide_eq_true g
    have hk : c < s.n := by omega
    have a0 : i64ok ((c : Int) + 1 - 1) = true := i64_of (by omega)
    have a1 : decide (0 ≤ (c : Int) + 1 - 1 ∧ (c : Int) + 1 - 1 < (s.n : Int)) = true := decide_eq_true (by omega)
    have b0 : (gs.getD (0 + c * 9 + 8) 0 != 0) = revG s.xs c := by rw [Nat.zero_add]; exact hr.rev c hk
    (repeat (first | refine aC ?_ | refine aK ?_ | refine ⟨fun _ => ?_, fun h => absurd h (by decide)⟩ | refine ⟨fun h => absurd h (by decide), fun _ => ?_⟩))
    rw [succ_k]
    refine And.intro (fld_z (o := 8) (by decide) rfl hk hg) ?_
    (repeat (first | refine aC ?_ | refine aK ?_ | refine ⟨fun _ => ?_, fun h => absurd h (by decide)⟩ | refine ⟨fun h => absurd h (by decide), fun _ => ?_⟩))
    refine ⟨fun g1 => ?_, fun g1 => ?_⟩
    · have g1 : revG s.xs c = true := b0.symm.trans g1
      (repeat (first | refine aC ?_ | refine aK ?_ | refine ⟨fun _ => ?_, fun h => absurd h (by decide)⟩ | refine ⟨fun h => absurd h (by decide), fun _ => ?_⟩))
      (refine call_lift (runder_c s gs hr no c n1 n2) (fun i => match i with | 0 => some 0 | 1 => some 1 | _ => none) rfl rfl hI rfl rfl rfl ?_; rintro v H1 ⟨rfl, rfl⟩; refine ⟨⟨rfl, rfl, rfl, rfl⟩, ?_⟩; (try simp only [two]); (try simp only [AV.ren]); (try simp only [renT]); (try simp only [AT.ren]); (try simp only [A.ren]); (try (rw [ptr_ren]; rotate_left; exact rfl)); (try (rw [slc_ren]; rotate_left; exact rfl)); (try simp only [S.ren]))
      (repeat (first | refine aC ?_ | refine aK ?_ | refine ⟨fun _ => ?_, fun h => absurd h (by decide)⟩ | refine ⟨fun h => absurd h (by decide), fun _ => ?_⟩))
      refine ⟨fun g2 => ?_, fun g2 => ?_⟩
      · have g2 : inG s.xs no c = true := g2
        (repeat (first | refine aC ?_ | refine aK ?_ | refine ⟨fun _ => ?_, fun h => absurd h (by decide)⟩ | refine ⟨fun h => absurd h (by decide), fun _ => ?_⟩))
        have e : revS s.xs no s.n = true := by
          rw [revS_any hw n1 n2, List.any_eq_true]
          exact ⟨c, of_decide_eq_true g2, g1⟩
        rw [e]
        exact ⟨some, .boo true, refH s gs, by exact wI, rfl, rfl⟩
      · have g2 : inG s.xs no c = false := g2
        (repeat (first | refine aC ?_ | refine aK ?_ | refine ⟨fun _ => ?_, fun h => absurd h (by decide)⟩ | refine ⟨fun h => absurd h (by decide), fun _ => ?_⟩))
        exact ⟨c + 1, ⟨hk, by simp only [revS]; rw [hv, g1, g2]; rfl⟩, by omega, some, by exact wI⟩
    · have g1 : revG s.xs c = false := b0.symm.trans g1
      (repeat (first | refine aC ?_ | refine aK ?_ | refine ⟨fun _ => ?_, fun h => absurd h (by decide)⟩ | refine ⟨fun h => absurd h (by decide), fun _ => ?_⟩))
      exact ⟨c + 1, ⟨hk, by simp only [revS]; rw [hv, g1]; rfl⟩, by omega, some, by exact wI⟩
  · have g := of_decide_eq_false g
    obtain rfl : c = s.n := by omega
    (repeat (first | refine aC ?_ | refine aK ?_ | refine ⟨fun _ => ?_, fun h => absurd h (by decide)⟩ | refine ⟨fun h => absurd h (by decide), fun _ => ?_⟩))
    rw [hv]
    exact ⟨some, .boo false, refH s gs, by exact wI, rfl, rfl⟩
theorem rperson_c (x : Int) : CallA Try.prog 88 [.int .i64 x] [] (fun w H => w = .boo (isPer x) ∧ H = []) := by
  refine call_of_vc TYok mixedO Try.func88 rfl rfl (Nat.le_of_ble_eq_true rfl) ?_
  (repeat (first | refine aC ?_ | refine aK ?_ | refine ⟨fun _ => ?_, fun h => absurd h (by decide)⟩ | refine ⟨fun h => absurd h (by decide), fun _ => ?_⟩))
  have e : decide (x ≥ 0) = decide (0 ≤ x) := rfl
  unfold isPer
  refine ⟨fun h1 => ?_, fun h1 => ?_⟩
  · rw [if_pos (e.symm.trans h1)]
    (repeat (first | refine aC ?_ | refine aK ?_ | refine ⟨fun _ => ?_, fun h => absurd h (by decide)⟩ | refine ⟨fun h => absurd h (by decide), fun _ => ?_⟩))
    exact ⟨some, .boo _, [], by exact wI, rfl, rfl⟩
  · rw [if_neg (by rw [e.symm.trans h1]; decide)]
    (repeat (first | refine aC ?_ | refine aK ?_ | refine ⟨fun _ => ?_, fun h => absurd h (by decide)⟩ | refine ⟨fun h => absurd h (by decide), fun _ => ?_⟩))
    exact ⟨some, .boo false, [], by exact wI, rfl, rfl⟩
theorem rday_c (x : Int) : CallA Try.prog 94 [.int .i64 x] [] (fun w H => w = .boo (isDy x) ∧ H = []) := by
  refine call_of_vc TYok mixedO Try.func94 rfl rfl (Nat.le_of_ble_eq_true rfl) ?_
  (repeat (first | refine aC ?_ | refine aK ?_ | refine ⟨fun _ => ?_, fun h => absurd h (by decide)⟩ | refine ⟨fun h => absurd h (by decide), fun _ => ?_⟩))
  have e : decide (x ≥ 0) = decide (0 ≤ x) := rfl
  unfold isDy
  refine ⟨fun h1 => ?_, fun h1 => ?_⟩
  · rw [if_pos (e.symm.trans h1)]
    (repeat (first | refine aC ?_ | refine aK ?_ | refine ⟨fun _ => ?_, fun h => absurd h (by decide)⟩ | refine ⟨fun h => absurd h (by decide), fun _ => ?_⟩))
    exact ⟨some, .boo _, [], by exact wI, rfl, rfl⟩
  · rw [if_neg (by rw [e.symm.trans h1]; decide)]
    (repeat (first | refine aC ?_ | refine aK ?_ | refine ⟨fun _ => ?_, fun h => absurd h (by decide)⟩ | refine ⟨fun h => absurd h (by decide), fun _ => ?_⟩))
    exact ⟨some, .boo false, [], by exact wI, rfl, rfl⟩
set_option maxRecDepth 20000 in
theorem wide_c (h v r u s : Int) : CallA Try.prog 85 [.int .i64 h, .int .i64 v, .int .i64 r, .int .i64 u, .int .i64 s] [] (fun w H => w = .boo (validG h v r u s) ∧ H = []) := by
  refine call_of_vc TYok mixedO Try.func85 rfl rfl (Nat.le_of_ble_eq_true rfl) ?_
  (repeat (first | refine aC ?_ | refine aK ?_ | refine ⟨fun _ => ?_, fun h => absurd h (by decide)⟩ | refine ⟨fun h => absurd h (by decide), fun _ => ?_⟩))
  (refine call_lift (rperson_c h) (fun i => match i with | 0 => none | _ => none) rfl rfl hI rfl rfl rfl ?_; rintro v H1 ⟨rfl, rfl⟩; refine ⟨⟨rfl, rfl, rfl, rfl⟩, ?_⟩; (try simp only [two]); (try simp only [AV.ren]); (try simp only [renT]); (try simp only [AT.ren]); (try simp only [A.ren]); (try (rw [ptr_ren]; rotate_left; exact rfl)); (try (rw [slc_ren]; rotate_left; exact rfl)); (try simp only [S.ren]))
  (repeat (first | refine aC ?_ | refine aK ?_ | refine ⟨fun _ => ?_, fun h => absurd h (by decide)⟩ | refine ⟨fun h => absurd h (by decide), fun _ => ?_⟩))
  refine ⟨fun g0 => ?_, fun g0 => ?_⟩
  · have g0 : (isPer h) = true := by simpa using g0
    (repeat (first | refine aC ?_ | refine aK ?_ | refine ⟨fun _ => ?_, fun h => absurd h (by decide)⟩ | refine ⟨fun h => absurd h (by decide), fun _ => ?_⟩))
    refine ⟨fun g1 => ?_, fun g1 => ?_⟩
    · have g1 : (decide (1 ≤ v)) = true := g1
      (repeat (first | refine aC ?_ | refine aK ?_ | refine ⟨fun _ => ?_, fun h => absurd h (by decide)⟩ | refine ⟨fun h => absurd h (by decide), fun _ => ?_⟩))
      refine ⟨fun g2 => ?_, fun g2 => ?_⟩
      · have g2 : (decide (v ≤ 65535)) = true := decide_eq_true (by have := of_decide_eq_true g2; omega)
        (repeat (first | refine aC ?_ | refine aK ?_ | refine ⟨fun _ => ?_, fun h => absurd h (by decide)⟩ | refine ⟨fun h => absurd h (by decide), fun _ => ?_⟩))
        refine ⟨fun g3 => ?_, fun g3 => ?_⟩
        · have g3 : (decide (1 ≤ r)) = true := g3
          (repeat (first | refine aC ?_ | refine aK ?_ | refine ⟨fun _ => ?_, fun h => absurd h (by decide)⟩ | refine ⟨fun h => absurd h (by decide), fun _ => ?_⟩))
          refine ⟨fun g4 => ?_, fun g4 => ?_⟩
          · have g4 : (decide (r ≤ 3)) = true := by simpa using g4
            (repeat (first | refine aC ?_ | refine aK ?_ | refine ⟨fun _ => ?_, fun h => absurd h (by decide)⟩ | refine ⟨fun h => absurd h (by decide), fun _ => ?_⟩))
            (refine call_lift (rday_c u) (fun i => match i with | 0 => none | _ => none) rfl rfl hI rfl rfl rfl ?_; rintro v H1 ⟨rfl, rfl⟩; refine ⟨⟨rfl, rfl, rfl, rfl⟩, ?_⟩; (try simp only [two]); (try simp only [AV.ren]); (try simp only [renT]); (try simp only [AT.ren]); (try simp only [A.ren]); (try (rw [ptr_ren]; rotate_left; exact rfl)); (try (rw [slc_ren]; rotate_left; exact rfl)); (try simp only [S.ren]))
            (repeat (first | refine aC ?_ | refine aK ?_ | refine ⟨fun _ => ?_, fun h => absurd h (by decide)⟩ | refine ⟨fun h => absurd h (by decide), fun _ => ?_⟩))
            refine ⟨fun g5 => ?_, fun g5 => ?_⟩
            · have g5 : (isDy u) = true := by simpa using g5
              (repeat (first | refine aC ?_ | refine aK ?_ | refine ⟨fun _ => ?_, fun h => absurd h (by decide)⟩ | refine ⟨fun h => absurd h (by decide), fun _ => ?_⟩))
              refine ⟨fun g6 => ?_, fun g6 => ?_⟩
              · have g6 : (s == -1) = false := g6
                (repeat (first | refine aC ?_ | refine aK ?_ | refine ⟨fun _ => ?_, fun h => absurd h (by decide)⟩ | refine ⟨fun h => absurd h (by decide), fun _ => ?_⟩))
                refine ⟨fun g7 => ?_, fun g7 => ?_⟩
                · have g7 : decide (1 ≤ s) = true := g7
                  (repeat (first | refine aC ?_ | refine aK ?_ | refine ⟨fun _ => ?_, fun h => absurd h (by decide)⟩ | refine ⟨fun h => absurd h (by decide), fun _ => ?_⟩))
                  exact ⟨some, .boo _, [], by exact wI, congrArg AV.boo (by unfold validG isUs; rw [g0, g1, g2, g3, g4, g5, g6, g7]; rfl), rfl⟩
                · have g7 : decide (1 ≤ s) = false := g7
                  (repeat (first | refine aC ?_ | refine aK ?_ | refine ⟨fun _ => ?_, fun h => absurd h (by decide)⟩ | refine ⟨fun h => absurd h (by decide), fun _ => ?_⟩))
                  exact ⟨some, .boo _, [], by exact wI, congrArg AV.boo (by unfold validG isUs; rw [g0, g1, g2, g3, g4, g5, g6, g7]; rfl), rfl⟩
              · have g6 : (s == -1) = true := g6
                (repeat (first | refine aC ?_ | refine aK ?_ | refine ⟨fun _ => ?_, fun h => absurd h (by decide)⟩ | refine ⟨fun h => absurd h (by decide), fun _ => ?_⟩))
                exact ⟨some, .boo _, [], by exact wI, congrArg AV.boo (by unfold validG isUs; rw [g0, g1, g2, g3, g4, g5, g6]; rfl), rfl⟩
            · have g5 : (isDy u) = false := by simpa using g5
              (repeat (first | refine aC ?_ | refine aK ?_ | refine ⟨fun _ => ?_, fun h => absurd h (by decide)⟩ | refine ⟨fun h => absurd h (by decide), fun _ => ?_⟩))
              exact ⟨some, .boo _, [], by exact wI, congrArg AV.boo (by simp [validG, g0, g1, g2, g3, g4, g5]), rfl⟩
          · have g4 : (decide (r ≤ 3)) = false := by simpa using g4
            (repeat (first | refine aC ?_ | refine aK ?_ | refine ⟨fun _ => ?_, fun h => absurd h (by decide)⟩ | refine ⟨fun h => absurd h (by decide), fun _ => ?_⟩))
            exact ⟨some, .boo _, [], by exact wI, congrArg AV.boo (by simp [validG, g0, g1, g2, g3, g4]), rfl⟩
        · have g3 : (decide (1 ≤ r)) = false := g3
          (repeat (first | refine aC ?_ | refine aK ?_ | refine ⟨fun _ => ?_, fun h => absurd h (by decide)⟩ | refine ⟨fun h => absurd h (by decide), fun _ => ?_⟩))
          exact ⟨some, .boo _, [], by exact wI, congrArg AV.boo (by simp [validG, g0, g1, g2, g3]), rfl⟩
      · have g2 : (decide (v ≤ 65535)) = false := decide_eq_false (by have := of_decide_eq_false g2; omega)
        (repeat (first | refine aC ?_ | refine aK ?_ | refine ⟨fun _ => ?_, fun h => absurd h (by decide)⟩ | refine ⟨fun h => absurd h (by decide), fun _ => ?_⟩))
        exact ⟨some, .boo _, [], by exact wI, congrArg AV.boo (by simp [validG, g0, g1, g2]), rfl⟩
    · have g1 : (decide (1 ≤ v)) = false := g1
      (repeat (first | refine aC ?_ | refine aK ?_ | refine ⟨fun _ => ?_, fun h => absurd h (by decide)⟩ | refine ⟨fun h => absurd h (by decide), fun _ => ?_⟩))
      exact ⟨some, .boo _, [], by exact wI, congrArg AV.boo (by simp [validG, g0, g1]), rfl⟩
  · have g0 : (isPer h) = false := by simpa using g0
    (repeat (first | refine aC ?_ | refine aK ?_ | refine ⟨fun _ => ?_, fun h => absurd h (by decide)⟩ | refine ⟨fun h => absurd h (by decide), fun _ => ?_⟩))
    exact ⟨some, .boo _, [], by exact wI, congrArg AV.boo (by simp [validG, g0]), rfl⟩
set_option maxRecDepth 20000 in
theorem rhas_c (s : St) (gs : List Int) (no : Int) : CallA Try.prog 87 [refA s.n s.m s.d, .int .i64 no] (refH s gs) (fun w H => w = .boo (inB s no) ∧ H = refH s gs) := by
  refine call_of_vc TYok mixedO Try.func87 rfl rfl (Nat.le_of_ble_eq_true rfl) ?_
  (repeat (first | refine aC ?_ | refine aK ?_ | refine ⟨fun _ => ?_, fun h => absurd h (by decide)⟩ | refine ⟨fun h => absurd h (by decide), fun _ => ?_⟩))
  refine ⟨fun g => ?_, fun g => ?_⟩
  · have g : decide (1 ≤ no) = true := g
    (repeat (first | refine aC ?_ | refine aK ?_ | refine ⟨fun _ => ?_, fun h => absurd h (by decide)⟩ | refine ⟨fun h => absurd h (by decide), fun _ => ?_⟩))
    exact ⟨some, .boo (decide (no ≤ (s.n : Int))), refH s gs, by exact wI, congrArg AV.boo (by unfold inB; rw [g]; rfl), rfl⟩
  · have g : decide (1 ≤ no) = false := g
    (repeat (first | refine aC ?_ | refine aK ?_ | refine ⟨fun _ => ?_, fun h => absurd h (by decide)⟩ | refine ⟨fun h => absurd h (by decide), fun _ => ?_⟩))
    exact ⟨some, .boo false, refH s gs, by exact wI, congrArg AV.boo (by unfold inB; rw [g]; rfl), rfl⟩
set_option maxRecDepth 20000 in
theorem rstands_c (s : St) (gs : List Int) (hr : Rf s gs) (k : Nat) (hk : k < s.n) :
    CallA Try.prog 90 [refA s.n s.m s.d, .int .i64 ((k : Int) + 1)] (refH s gs) (fun w H => w = .boo (standsB s.d s.xs k) ∧ H = refH s gs) := by
  refine call_of_vc TYok mixedO Try.func90 rfl rfl (Nat.le_of_ble_eq_true rfl) ?_
  have hw := hr.good.rng.wf
  have hf := hw.few
  have hg := hr.len
  have hR := rrevoked_c s gs hr ((k : Int) + 1) (by omega) (by omega)
  rw [succ_k] at hR
  have a0 : i64ok ((k : Int) + 1 - 1) = true := i64_of (by omega)
  have a1 : decide (0 ≤ (k : Int) + 1 - 1 ∧ (k : Int) + 1 - 1 < (s.n : Int)) = true := decide_eq_true (by omega)
  (repeat (first | refine aC ?_ | refine ⟨fun _ => ?_, fun h => absurd h (by decide)⟩ | refine ⟨fun h => absurd h (by decide), fun _ => ?_⟩))
  refine Or.inr (cut_rule [(1, .int .i64 ((k : Int) + 1)), (2, .t (.a (.s (.ptr 2 0))))] (refX s gs) some (by exact wI) ?_)
  (refine drawn_rule TYok mixedO [] [(true, 0, []), (true, 1, []), (false, 2, []), (true, 3, []), (true, 4, []), (true, 5, []), (true, 6, []), (true, 7, []), (true, 8, []), (true, 9, []), (true, 10, []), (true, 11, []), (true, 12, []), (true, 13, []), (true, 14, []), (true, 15, []), (true, 16, [])] (by kernel_rfl) ?_)
  (repeat (first | refine aC ?_ | refine aK ?_ | refine ⟨fun _ => ?_, fun h => absurd h (by decide)⟩ | refine ⟨fun h => absurd h (by decide), fun _ => ?_⟩))
  (refine call_lift (hR) (fun i => match i with | 0 => some 0 | 1 => some 1 | _ => none) rfl rfl hI rfl rfl rfl ?_; rintro v H1 ⟨rfl, rfl⟩; refine ⟨⟨rfl, rfl, rfl, rfl⟩, ?_⟩; (try simp only [two]); (try simp only [AV.ren]); (try simp only [renT]); (try simp only [AT.ren]); (try simp only [A.ren]); (try (rw [ptr_ren]; rotate_left; exact rfl)); (try (rw [slc_ren]; rotate_left; exact rfl)); (try simp only [S.ren]))
  refine And.intro ?_ ?_
  · refine bkP ?_
    rfl
  (repeat (first | refine aC ?_ | refine aK ?_ | refine ⟨fun _ => ?_, fun h => absurd h (by decide)⟩ | refine ⟨fun h => absurd h (by decide), fun _ => ?_⟩))
  refine ⟨fun g => ?_, fun g => ?_⟩
  · have g : (!(line s.xs k).any (revG s.xs)) = true := g
    (repeat (first | refine aC ?_ | refine aK ?_ | refine ⟨fun _ => ?_, fun h => absurd h (by decide)⟩ | refine ⟨fun h => absurd h (by decide), fun _ => ?_⟩))
    rw [succ_k]
    refine And.intro (fld_z (o := 6) (by decide) rfl hk hg) ?_
    (repeat (first | refine aC ?_ | refine aK ?_ | refine ⟨fun _ => ?_, fun h => absurd h (by decide)⟩ | refine ⟨fun h => absurd h (by decide), fun _ => ?_⟩))
    have b0 : gs.getD (0 + k * 9 + 6) 0 = fG s.xs k 6 := by rw [Nat.zero_add]; exact hr.same k 6 hk (by decide)
    exact ⟨some, .boo (decide (s.d ≤ gs.getD (0 + k * 9 + 6) 0)), refH s gs, by exact wI, congrArg AV.boo (by unfold standsB; rw [g, b0, Bool.and_true]), rfl⟩
  · have g : (!(line s.xs k).any (revG s.xs)) = false := g
    (repeat (first | refine aC ?_ | refine aK ?_ | refine ⟨fun _ => ?_, fun h => absurd h (by decide)⟩ | refine ⟨fun h => absurd h (by decide), fun _ => ?_⟩))
    exact ⟨some, .boo false, refH s gs, by exact wI, congrArg AV.boo (by unfold standsB; rw [g, Bool.and_false]), rfl⟩
end Go.Proofs.Ytlbgkfidpkbafaa
/- The specification's book, asked (2). -/
namespace Go.Proofs.Ytlbgkfidpkbafaa
open Go.RowKit
set_option linter.unusedSimpArgs false
set_option linter.unusedVariables false
theorem usedN_le2 (xs es : List Int) (i : Nat) : ∀ c, usedN xs es i c ≤ 2 * c
  | 0 => Nat.le_refl _
  | c + 1 => by
    have := usedN_le2 xs es i c
    have o : ∀ b, one b ≤ 1 := fun b => by cases b <;> decide
    have h1 := o (inG xs (es.getD (c * 4 + 2) 0) i)
    have h2 := o (inG xs (es.getD (c * 4 + 3) 0) i)
    simp only [usedN]
    omega
set_option maxRecDepth 20000 in
set_option maxHeartbeats 4000000 in
theorem rused_c (s : St) (gs : List Int) (hr : Rf s gs) (i : Nat) (hi : i < s.n) :
    CallA Try.prog 100 [refA s.n s.m s.d, .int .i64 ((i : Int) + 1)] (refH s gs) (fun w H => w = .int .i64 (usedN s.xs s.es i s.m : Int) ∧ H = refH s gs) := by
  refine call_of_vc TYok mixedO Try.func100 rfl rfl (Nat.le_of_ble_eq_true rfl) ?_
  have hw := hr.good.rng.wf
  have hf := hw.few
  have hg := hr.len
  have hel := hr.good.len
  have hm4 := hr.good.few
  (repeat (first | refine aC ?_ | refine aK ?_ | refine ⟨fun _ => ?_, fun h => absurd h (by decide)⟩ | refine ⟨fun h => absurd h (by decide), fun _ => ?_⟩))
  refine loop_rule TYok mixedO (ι := Nat) (fun e => [(1, .int .i64 ((i : Int) + 1)), (2, .t (.a (.s (.ptr 2 0)))), (5, .int .i64 (usedN s.xs s.es i e : Int)), (6, .int .i64 (e : Int))]) (fun _ => refX s gs) (fun e => e ≤ s.m) (fun e => s.m - e) 0 (Nat.zero_le _) some (by exact wI) ?_
  rintro e he
  (repeat (first | refine aC ?_ | refine aK ?_ | refine ⟨fun _ => ?_, fun h => absurd h (by decide)⟩ | refine ⟨fun h => absurd h (by decide), fun _ => ?_⟩))
  refine ⟨fun g => ?_, fun g => ?_⟩
  · have g := of_decide_eq_true g
    have hkl : e < s.m := by omega
    have hul := usedN_le2 s.xs s.es i e
    have ha := hr.ent.a e hkl
    have hb := hr.ent.b e hkl
    have hin : ∀ b : Bool, (one b : Int) = if b = true then 1 else 0 := fun b => by cases b <;> rfl
    have uN : (usedN s.xs s.es i (e + 1) : Int) = (usedN s.xs s.es i e : Int) + one (inG s.xs (s.es.getD (e * 4 + 2) 0) i) + one (inG s.xs (s.es.getD (e * 4 + 3) 0) i) := by
      simp only [usedN]
      omega
    rw [hin, hin] at uN
    have e4 : 0 + ((e : Nat) : Int).toNat * ti67.size = e * 4 := by rw [siz67]; simp
    (repeat (first | refine aC ?_ | refine ⟨fun _ => ?_, fun h => absurd h (by decide)⟩ | refine ⟨fun h => absurd h (by decide), fun _ => ?_⟩))
    refine Or.inr (cut_rule [(1, .int .i64 ((i : Int) + 1)), (2, .t (.a (.s (.ptr 2 0)))), (5, .int .i64 (usedN s.xs s.es i e : Int)), (6, .int .i64 (e : Int))] (refX s gs) some (by exact wI) ?_)
    (refine drawn_rule TYok mixedO [] [(true, 0, []), (true, 1, []), (true, 2, []), (true, 3, []), (true, 4, []), (true, 5, []), (true, 6, []), (true, 7, []), (false, 8, [])] (by kernel_rfl) ?_)
    (repeat (first | refine aC ?_ | refine aK ?_ | refine ⟨fun _ => ?_, fun h => absurd h (by decide)⟩ | refine ⟨fun h => absurd h (by decide), fun _ => ?_⟩))
    rw [e4]
    refine And.intro (decide_eq_true (show e * 4 + 2 < s.es.length by omega)) ?_
    (repeat (first | refine aC ?_ | refine aK ?_ | refine ⟨fun _ => ?_, fun h => absurd h (by decide)⟩ | refine ⟨fun h => absurd h (by decide), fun _ => ?_⟩))
    (refine call_lift (runder_c s gs hr (s.es.getD (e * 4 + 2) 0) i ha.1 ha.2) (fun i => match i with | 0 => some 0 | 1 => some 1 | _ => none) rfl rfl hI rfl rfl rfl ?_; rintro v H1 ⟨rfl, rfl⟩; refine ⟨⟨rfl, rfl, rfl, rfl⟩, ?_⟩; (try simp only [two]); (try simp only [AV.ren]); (try simp only [renT]); (try simp only [AT.ren]); (try simp only [A.ren]); (try (rw [ptr_ren]; rotate_left; exact rfl)); (try (rw [slc_ren]; rotate_left; exact rfl)); (try simp only [S.ren]))
    refine And.intro ?_ ?_
    · refine bkP ?_
      rfl
    (repeat (first | refine aC ?_ | refine aK ?_ | refine ⟨fun _ => ?_, fun h => absurd h (by decide)⟩ | refine ⟨fun h => absurd h (by decide), fun _ => ?_⟩))
    refine ⟨fun g1 => ?_, fun g1 => ?_⟩
    · have g1 : inG s.xs (s.es.getD (e * 4 + 2) 0) i = true := g1
      (repeat (first | refine aC ?_ | refine ⟨fun _ => ?_, fun h => absurd h (by decide)⟩ | refine ⟨fun h => absurd h (by decide), fun _ => ?_⟩))
      refine Or.inr (cut_rule [(1, .int .i64 ((i : Int) + 1)), (2, .t (.a (.s (.ptr 2 0)))), (5, .int .i64 ((usedN s.xs s.es i e : Int) + 1)), (6, .int .i64 (e : Int))] (refX s gs) some (by exact wI) ?_)
      (refine drawn_rule TYok mixedO [] [(true, 0, []), (true, 1, []), (true, 2, []), (true, 3, []), (true, 4, []), (true, 5, []), (true, 6, []), (true, 7, []), (false, 8, [])] (by kernel_rfl) ?_)
      (repeat (first | refine aC ?_ | refine aK ?_ | refine ⟨fun _ => ?_, fun h => absurd h (by decide)⟩ | refine ⟨fun h => absurd h (by decide), fun _ => ?_⟩))
      rw [e4]
      refine And.intro (decide_eq_true (show e * 4 + 3 < s.es.length by omega)) ?_
      (repeat (first | refine aC ?_ | refine aK ?_ | refine ⟨fun _ => ?_, fun h => absurd h (by decide)⟩ | refine ⟨fun h => absurd h (by decide), fun _ => ?_⟩))
      (refine call_lift (runder_c s gs hr (s.es.getD (e * 4 + 3) 0) i hb.1 hb.2) (fun i => match i with | 0 => some 0 | 1 => some 1 | _ => none) rfl rfl hI rfl rfl rfl ?_; rintro v H1 ⟨rfl, rfl⟩; refine ⟨⟨rfl, rfl, rfl, rfl⟩, ?_⟩; (try simp only [two]); (try simp only [AV.ren]); (try simp only [renT]); (try simp only [AT.ren]); (try simp only [A.ren]); (try (rw [ptr_ren]; rotate_left; exact rfl)); (try (rw [slc_ren]; rotate_left; exact rfl)); (try simp only [S.ren]))
      refine And.intro ?_ ?_
      · refine bkP ?_
        rfl
      (repeat (first | refine aC ?_ | refine aK ?_ | refine ⟨fun _ => ?_, fun h => absurd h (by decide)⟩ | refine ⟨fun h => absurd h (by decide), fun _ => ?_⟩))
      refine ⟨fun g2 => ?_, fun g2 => ?_⟩
      · have g2 : inG s.xs (s.es.getD (e * 4 + 3) 0) i = true := g2
        rw [g1, g2] at uN
        (repeat (first | refine aC ?_ | refine aK ?_ | refine ⟨fun _ => ?_, fun h => absurd h (by decide)⟩ | refine ⟨fun h => absurd h (by decide), fun _ => ?_⟩))
        exact ⟨e + 1, hkl, by omega, some, by simp only [uN]; exact wI⟩
      · have g2 : inG s.xs (s.es.getD (e * 4 + 3) 0) i = false := g2
        rw [g1, g2] at uN
        (repeat (first | refine aC ?_ | refine aK ?_ | refine ⟨fun _ => ?_, fun h => absurd h (by decide)⟩ | refine ⟨fun h => absurd h (by decide), fun _ => ?_⟩))
        exact ⟨e + 1, hkl, by omega, some, by simp only [uN]; exact wI⟩
    · have g1 : inG s.xs (s.es.getD (e * 4 + 2) 0) i = false := g1
      (repeat (first | refine aC ?_ | refine ⟨fun _ => ?_, fun h => absurd h (by decide)⟩ | refine ⟨fun h => absurd h (by decide), fun _ => ?_⟩))
      refine Or.inr (cut_rule [(1, .int .i64 ((i : Int) + 1)), (2, .t (.a (.s (.ptr 2 0)))), (5, .int .i64 ((usedN s.xs s.es i e : Int))), (6, .int .i64 (e : Int))] (refX s gs) some (by exact wI) ?_)
      (refine drawn_rule TYok mixedO [] [(true, 0, []), (true, 1, []), (true, 2, []), (true, 3, []), (true, 4, []), (true, 5, []), (true, 6, []), (true, 7, []), (false, 8, [])] (by kernel_rfl) ?_)
      (repeat (first | refine aC ?_ | refine aK ?_ | refine ⟨fun _ => ?_, fun h => absurd h (by decide)⟩ | refine ⟨fun h => absurd h (by decide), fun _ => ?_⟩))
      rw [e4]
      refine And.intro (decide_eq_true (show e * 4 + 3 < s.es.length by omega)) ?_
      (repeat (first | refine aC ?_ | refine aK ?_ | refine ⟨fun _ => ?_, fun h => absurd h (by decide)⟩ | refine ⟨fun h => absurd h (by decide), fun _ => ?_⟩))
      (refine call_lift (runder_c s gs hr (s.es.getD (e * 4 + 3) 0) i hb.1 hb.2) (fun i => match i with | 0 => some 0 | 1 => some 1 | _ => none) rfl rfl hI rfl rfl rfl ?_; rintro v H1 ⟨rfl, rfl⟩; refine ⟨⟨rfl, rfl, rfl, rfl⟩, ?_⟩; (try simp only [two]); (try simp only [AV.ren]); (try simp only [renT]); (try simp only [AT.ren]); (try simp only [A.ren]); (try (rw [ptr_ren]; rotate_left; exact rfl)); (try (rw [slc_ren]; rotate_left; exact rfl)); (try simp only [S.ren]))
      refine And.intro ?_ ?_
      · refine bkP ?_
        rfl
      (repeat (first | refine aC ?_ | refine aK ?_ | refine ⟨fun _ => ?_, fun h => absurd h (by decide)⟩ | refine ⟨fun h => absurd h (by decide), fun _ => ?_⟩))
      refine ⟨fun g2 => ?_, fun g2 => ?_⟩
      · have g2 : inG s.xs (s.es.getD (e * 4 + 3) 0) i = true := g2
        rw [g1, g2] at uN
        (repeat (first | refine aC ?_ | refine aK ?_ | refine ⟨fun _ => ?_, fun h => absurd h (by decide)⟩ | refine ⟨fun h => absurd h (by decide), fun _ => ?_⟩))
        exact ⟨e + 1, hkl, by omega, some, by simp only [uN]; exact wI⟩
      · have g2 : inG s.xs (s.es.getD (e * 4 + 3) 0) i = false := g2
        rw [g1, g2] at uN
        (repeat (first | refine aC ?_ | refine aK ?_ | refine ⟨fun _ => ?_, fun h => absurd h (by decide)⟩ | refine ⟨fun h => absurd h (by decide), fun _ => ?_⟩))
        exact ⟨e + 1, hkl, by omega, some, by simp only [uN]; exact wI⟩
  · have g := of_decide_eq_false g
    obtain rfl : e = s.m := by omega
    (repeat (first | refine aC ?_ | refine aK ?_ | refine ⟨fun _ => ?_, fun h => absurd h (by decide)⟩ | refine ⟨fun h => absurd h (by decide), fun _ => ?_⟩))
    exact ⟨some, .int .i64 (usedN s.xs s.es i s.m : Int), refH s gs, by exact wI, rfl, rfl⟩
set_option maxRecDepth 20000 in
theorem rleft_c (s : St) (gs : List Int) (hr : Rf s gs) (i : Nat) (hi : i < s.n) (no : Int) (hno : no = (i : Int) + 1) :
    CallA Try.prog 89 [refA s.n s.m s.d, .int .i64 no] (refH s gs) (fun w H => w = .int .i64 (fG s.xs i 7) ∧ H = refH s gs) := by
  subst hno
  refine call_of_vc TYok mixedO Try.func89 rfl rfl (Nat.le_of_ble_eq_true rfl) ?_
  have hf := hr.good.rng.wf.few
  have hg := hr.len
  have hu := hr.good.rng.u i hi
  have a0 : i64ok ((i : Int) + 1 - 1) = true := i64_of (by omega)
  have a1 : decide (0 ≤ (i : Int) + 1 - 1 ∧ (i : Int) + 1 - 1 < (s.n : Int)) = true := decide_eq_true (by omega)
  have b0 : gs.getD (0 + i * 9 + 7) 0 = fG gs i 7 := by rw [Nat.zero_add]
  (repeat (first | refine aC ?_ | refine aK ?_ | refine ⟨fun _ => ?_, fun h => absurd h (by decide)⟩ | refine ⟨fun h => absurd h (by decide), fun _ => ?_⟩))
  rw [succ_k]
  refine And.intro (fld_z (o := 7) (by decide) rfl hi hg) ?_
  (repeat (first | refine aC ?_ | refine aK ?_ | refine ⟨fun _ => ?_, fun h => absurd h (by decide)⟩ | refine ⟨fun h => absurd h (by decide), fun _ => ?_⟩))
  by_cases h0 : fG gs i 7 < 0
  · have q1 : decide (gs.getD (0 + i * 9 + 7) 0 < 0) = true := by rw [b0]; exact decide_eq_true h0
    (first | refine brTT (q1) ?_ | refine brTF (q1) ?_ | refine brFT (q1) ?_ | refine brFF (q1) ?_)
    (repeat (first | refine aC ?_ | refine aK ?_ | refine ⟨fun _ => ?_, fun h => absurd h (by decide)⟩ | refine ⟨fun h => absurd h (by decide), fun _ => ?_⟩))
    rw [hr.no i hi h0]
    exact ⟨some, .int .i64 (-1), refH s gs, by exact wI, rfl, rfl⟩
  · have q1 : decide (gs.getD (0 + i * 9 + 7) 0 < 0) = false := by rw [b0]; exact decide_eq_false h0
    obtain ⟨y1, y2⟩ := hr.yes i hi (by omega)
    (first | refine brTT (q1) ?_ | refine brTF (q1) ?_ | refine brFT (q1) ?_ | refine brFF (q1) ?_)
    (repeat (first | refine aC ?_ | refine ⟨fun _ => ?_, fun h => absurd h (by decide)⟩ | refine ⟨fun h => absurd h (by decide), fun _ => ?_⟩))
    refine Or.inr (cut_rule [(1, .int .i64 ((i : Int) + 1)), (2, .t (.a (.s (.ptr 2 0))))] (refX s gs) some (by exact wI) ?_)
    (refine drawn_rule TYok mixedO [] [(true, 0, []), (true, 1, []), (true, 2, []), (true, 3, []), (true, 4, []), (true, 5, []), (true, 6, []), (true, 7, []), (true, 8, []), (false, 9, []), (true, 10, []), (true, 11, [])] (by kernel_rfl) ?_)
    (repeat (first | refine aC ?_ | refine aK ?_ | refine ⟨fun _ => ?_, fun h => absurd h (by decide)⟩ | refine ⟨fun h => absurd h (by decide), fun _ => ?_⟩))
    rw [succ_k]
    refine And.intro (fld_z (o := 7) (by decide) rfl hi hg) ?_
    (repeat (first | refine aC ?_ | refine aK ?_ | refine ⟨fun _ => ?_, fun h => absurd h (by decide)⟩ | refine ⟨fun h => absurd h (by decide), fun _ => ?_⟩))
    (refine call_lift (rused_c s gs hr i hi) (fun i => match i with | 0 => some 0 | 1 => some 1 | _ => none) rfl rfl hI rfl rfl rfl ?_; rintro v H1 ⟨rfl, rfl⟩; refine ⟨⟨rfl, rfl, rfl, rfl⟩, ?_⟩; (try simp only [two]); (try simp only [AV.ren]); (try simp only [renT]); (try simp only [AT.ren]); (try simp only [A.ren]); (try (rw [ptr_ren]; rotate_left; exact rfl)); (try (rw [slc_ren]; rotate_left; exact rfl)); (try simp only [S.ren]))
    refine And.intro ?_ ?_
    · refine bkP ?_
      rfl
    (repeat (first | refine aC ?_ | refine aK ?_ | refine ⟨fun _ => ?_, fun h => absurd h (by decide)⟩ | refine ⟨fun h => absurd h (by decide), fun _ => ?_⟩))
    refine And.intro (show i64ok (gs.getD (0 + i * 9 + 7) 0 - (usedN s.xs s.es i s.m : Nat)) = true by rw [b0, ← y2]; exact i64_of (by omega)) ?_
    (repeat (first | refine aC ?_ | refine aK ?_ | refine ⟨fun _ => ?_, fun h => absurd h (by decide)⟩ | refine ⟨fun h => absurd h (by decide), fun _ => ?_⟩))
    rw [y2, ← b0]
    exact ⟨some, .int .i64 (gs.getD (0 + i * 9 + 7) 0 - (usedN s.xs s.es i s.m : Nat)), refH s gs, by exact wI, rfl, rfl⟩
/-- spent, itself or one above it -/
def spS (xs : List Int) (no : Int) : Nat → Bool
  | 0 => false
  | c + 1 => spS xs no c || (inG xs no c && (fG xs c 7 == 0))
theorem spS_any {n : Nat} {xs : List Int} (hw : Wf n xs) {k : Nat} (hk : k < n) : spS xs ((k : Int) + 1) n = spentB xs k := by
  have key : ∀ c, spS xs ((k : Int) + 1) c = true ↔ ∃ i, i < c ∧ i ∈ line xs k ∧ zeroG xs i = true := by
    intro c
    induction c with
    | zero => exact ⟨fun h => (by cases h), fun ⟨_, h, _⟩ => absurd h (Nat.not_lt_zero _)⟩
    | succ c ih =>
      simp only [spS, Bool.or_eq_true, Bool.and_eq_true]
      have hi : inG xs ((k : Int) + 1) c = true ↔ c ∈ line xs k := by
        unfold inG
        rw [succ_k, decide_eq_true_eq]
      constructor
      · rintro (h | ⟨h1, h2⟩)
        · obtain ⟨i, a, b⟩ := ih.1 h
          exact ⟨i, Nat.lt_succ_of_lt a, b⟩
        · exact ⟨c, Nat.lt_succ_self c, hi.1 h1, h2⟩
      · rintro ⟨i, a, b, e⟩
        rcases Nat.lt_succ_iff_lt_or_eq.1 a with h | rfl
        · exact .inl (ih.2 ⟨i, h, b, e⟩)
        · exact .inr ⟨hi.2 b, e⟩
  unfold spentB
  rw [Bool.eq_iff_iff, key, List.any_eq_true]
  exact ⟨fun ⟨i, _, h2, h3⟩ => ⟨i, h2, h3⟩, fun ⟨i, h1, h2⟩ => ⟨i, line_lt hw hk i h1, h1, h2⟩⟩
set_option maxRecDepth 20000 in
theorem rspent_c (s : St) (gs : List Int) (hr : Rf s gs) (k : Nat) (hk : k < s.n) :
    CallA Try.prog 101 [refA s.n s.m s.d, .int .i64 ((k : Int) + 1)] (refH s gs) (fun w H => w = .boo (spentB s.xs k) ∧ H = refH s gs) := by
  refine call_of_vc TYok mixedO Try.func101 rfl rfl (Nat.le_of_ble_eq_true rfl) ?_
  have hw := hr.good.rng.wf
  have hf := hw.few
  rw [← spS_any hw hk]
  (repeat (first | refine aC ?_ | refine aK ?_ | refine ⟨fun _ => ?_, fun h => absurd h (by decide)⟩ | refine ⟨fun h => absurd h (by decide), fun _ => ?_⟩))
  refine loop_rule TYok mixedO (ι := Nat) (fun c => [(1, .int .i64 ((k : Int) + 1)), (2, .t (.a (.s (.ptr 2 0)))), (5, .int .i64 ((c : Int) + 1))]) (fun _ => refX s gs) (fun c => c ≤ s.n ∧ spS s.xs ((k : Int) + 1) c = false) (fun c => s.n - c) 0 ⟨Nat.zero_le _, rfl⟩ some (by exact wI) ?_
  rintro c ⟨hc, hv⟩
  (repeat (first | refine aC ?_ | refine aK ?_ | refine ⟨fun _ => ?_, fun h => absurd h (by decide)⟩ | refine ⟨fun h => absurd h (by decide), fun _ => ?_⟩))
  refine ⟨fun g => ?_, fun g => ?_⟩
  · have g := of_decide_eq_true g
    have hcn : c < s.n := by omega
    (repeat (first | refine aC ?_ | refine aK ?_ | refine ⟨fun _ => ?_, fun h => absurd h (by decide)⟩ | refine ⟨fun h => absurd h (by decide), fun _ => ?_⟩))
    (refine call_lift (runder_c s gs hr ((k : Int) + 1) c (by omega) (by omega)) (fun i => match i with | 0 => some 0 | 1 => some 1 | _ => none) rfl rfl hI rfl rfl rfl ?_; rintro v H1 ⟨rfl, rfl⟩; refine ⟨⟨rfl, rfl, rfl, rfl⟩, ?_⟩; (try simp only [two]); (try simp only [AV.ren]); (try simp only [renT]); (try simp only [AT.ren]); (try simp only [A.ren]); (try (rw [ptr_ren]; rotate_left; exact rfl)); (try (rw [slc_ren]; rotate_left; exact rfl)); (try simp only [S.ren]))
    (repeat (first | refine aC ?_ | refine aK ?_ | refine ⟨fun _ => ?_, fun h => absurd h (by decide)⟩ | refine ⟨fun h => absurd h (by decide), fun _ => ?_⟩))
    refine ⟨fun g1 => ?_, fun g1 => ?_⟩
    · have g1 : inG s.xs ((k : Int) + 1) c = true := g1
      (repeat (first | refine aC ?_ | refine aK ?_ | refine ⟨fun _ => ?_, fun h => absurd h (by decide)⟩ | refine ⟨fun h => absurd h (by decide), fun _ => ?_⟩))
      (refine call_lift (rleft_c s gs hr c hcn ((c : Int) + 1) rfl) (fun i => match i with | 0 => some 0 | 1 => some 1 | _ => none) rfl rfl hI rfl rfl rfl ?_; rintro v H1 ⟨rfl, rfl⟩; refine ⟨⟨rfl, rfl, rfl, rfl⟩, ?_⟩; (try simp only [two]); (try simp only [AV.ren]); (try simp only [renT]); (try simp only [AT.ren]); (try simp only [A.ren]); (try (rw [ptr_ren]; rotate_left; exact rfl)); (try (rw [slc_ren]; rotate_left; exact rfl)); (try simp only [S.ren]))
      (repeat (first | refine aC ?_ | refine aK ?_ | refine ⟨fun _ => ?_, fun h => absurd h (by decide)⟩ | refine ⟨fun h => absurd h (by decide), fun _ => ?_⟩))
      refine ⟨fun g2 => ?_, fun g2 => ?_⟩
      · have g2 : (fG s.xs c 7 == 0) = true := g2
        (repeat (first | refine aC ?_ | refine aK ?_ | refine ⟨fun _ => ?_, fun h => absurd h (by decide)⟩ | refine ⟨fun h => absurd h (by decide), fun _ => ?_⟩))
        have e : spS s.xs ((k : Int) + 1) s.n = true := by
          rw [spS_any hw hk]
          unfold spentB
          rw [List.any_eq_true]
          have := of_decide_eq_true g1
          rw [succ_k] at this
          exact ⟨c, this, g2⟩
        rw [e]
        exact ⟨some, .boo true, refH s gs, by exact wI, rfl, rfl⟩
      · have g2 : (fG s.xs c 7 == 0) = false := g2
        (repeat (first | refine aC ?_ | refine aK ?_ | refine ⟨fun _ => ?_, fun h => absurd h (by decide)⟩ | refine ⟨fun h => absurd h (by decide), fun _ => ?_⟩))
        exact ⟨c + 1, ⟨hcn, by simp only [spS]; rw [hv, g1, g2]; rfl⟩, by omega, some, by exact wI⟩
    · have g1 : inG s.xs ((k : Int) + 1) c = false := g1
      (repeat (first | refine aC ?_ | refine aK ?_ | refine ⟨fun _ => ?_, fun h => absurd h (by decide)⟩ | refine ⟨fun h => absurd h (by decide), fun _ => ?_⟩))
      exact ⟨c + 1, ⟨hcn, by simp only [spS]; rw [hv, g1]; rfl⟩, by omega, some, by exact wI⟩
  · have g := of_decide_eq_false g
    obtain rfl : c = s.n := by omega
    (repeat (first | refine aC ?_ | refine aK ?_ | refine ⟨fun _ => ?_, fun h => absurd h (by decide)⟩ | refine ⟨fun h => absurd h (by decide), fun _ => ?_⟩))
    rw [hv]
    exact ⟨some, .boo false, refH s gs, by exact wI, rfl, rfl⟩
end Go.Proofs.Ytlbgkfidpkbafaa
/- The specification's keys; its book copied; one grant more. -/
namespace Go.Proofs.Ytlbgkfidpkbafaa
open Go.RowKit
set_option linter.unusedSimpArgs false
set_option linter.unusedVariables false
theorem hasV_rem {v a : Int} (v0 : 0 ≤ v) : ((v.fdiv (2 ^ a.toNat)) % 2 == 0) = !hasV v a := by
  obtain ⟨V, rfl⟩ := Int.eq_ofNat_of_zero_le v0
  unfold hasV
  rw [fd_pow, Int.toNat_natCast, Nat.and_one_is_mod]
  generalize V / 2 ^ a.toNat = y
  rw [Bool.eq_iff_iff, beq_iff_eq, Bool.not_eq_true', beq_eq_false_iff_ne]
  omega
theorem hasOpen_eq (r : Int) : (((r.toNat &&& 1 : Nat) : Int) == 0) = !hasOpen r := by
  unfold hasOpen bne
  rw [Bool.not_not]
theorem fdiv_nn {v a : Int} (v0 : 0 ≤ v) : 0 ≤ v.fdiv (2 ^ a.toNat) := by
  obtain ⟨V, rfl⟩ := Int.eq_ofNat_of_zero_le v0
  rw [fd_pow]
  exact Int.natCast_nonneg _
theorem keyE_k {s : St} {k : Nat} (hk : k < s.n) (a by_ : Int) : keyE s.d s.n s.xs a ((k : Int) + 1) by_ = if keyC s.d s.xs k a by_ = false then 12 else if spentB s.xs k = true then 8 else 0 := by
  unfold keyE
  rw [if_neg (by rw [decide_eq_true (by omega), decide_eq_true (by omega)]; decide), succ_k]
set_option maxRecDepth 20000 in
set_option maxHeartbeats 4000000 in
theorem rkey_c (s : St) (gs : List Int) (hr : Rf s gs) (a no by_ : Int) (ha : 0 ≤ a ∧ a ≤ 15) :
    CallA Try.prog 95 [refA s.n s.m s.d, .int .i64 a, .int .i64 no, .int .i64 by_] (refH s gs) (fun w H => w = .int .i64 (keyE s.d s.n s.xs a no by_) ∧ H = refH s gs) := by
  refine call_of_vc TYok mixedO Try.func95 rfl rfl (Nat.le_of_ble_eq_true rfl) ?_
  have hf := hr.good.rng.wf.few
  have hg := hr.len
  (repeat (first | refine aC ?_ | refine aK ?_ | refine ⟨fun _ => ?_, fun h => absurd h (by decide)⟩ | refine ⟨fun h => absurd h (by decide), fun _ => ?_⟩))
  (refine call_lift (rhas_c s gs no) (fun i => match i with | 0 => some 0 | 1 => some 1 | _ => none) rfl rfl hI rfl rfl rfl ?_; rintro v H1 ⟨rfl, rfl⟩; refine ⟨⟨rfl, rfl, rfl, rfl⟩, ?_⟩; (try simp only [two]); (try simp only [AV.ren]); (try simp only [renT]); (try simp only [AT.ren]); (try simp only [A.ren]); (try (rw [ptr_ren]; rotate_left; exact rfl)); (try (rw [slc_ren]; rotate_left; exact rfl)); (try simp only [S.ren]))
  (repeat (first | refine aC ?_ | refine aK ?_ | refine ⟨fun _ => ?_, fun h => absurd h (by decide)⟩ | refine ⟨fun h => absurd h (by decide), fun _ => ?_⟩))
  by_cases h0 : inB s no = true
  · have q0 : (!inB s no) = false := by rw [h0]; rfl
    obtain ⟨k, rfl, hk⟩ := inB_k h0
    rw [keyE_k hk]
    have v0 := hr.good.rng.v k hk
    have r0 := hr.good.rng.r k hk
    have a0 : i64ok ((k : Int) + 1 - 1) = true := i64_of (by omega)
    have a1 : decide (0 ≤ (k : Int) + 1 - 1 ∧ (k : Int) + 1 - 1 < (s.n : Int)) = true := decide_eq_true (by omega)
    have b : ∀ o, o < 7 → gs.getD (0 + k * 9 + o) 0 = fG s.xs k o := fun o ho => by rw [Nat.zero_add]; exact hr.same k o hk ho
    have n5 : natOk .i64 (gs.getD (0 + k * 9 + 5) 0) = true := by rw [b 5 (by decide)]; exact natOk_i64.2 ⟨r0.1, by omega⟩
    have p4 : 0 ≤ (gs.getD (0 + k * 9 + 4) 0).fdiv (2 ^ a.toNat) := by rw [b 4 (by decide)]; exact fdiv_nn v0.1
    (first | refine brTT (q0) ?_ | refine brTF (q0) ?_ | refine brFT (q0) ?_ | refine brFF (q0) ?_)
    (repeat (first | refine aC ?_ | refine aK ?_ | refine ⟨fun _ => ?_, fun h => absurd h (by decide)⟩ | refine ⟨fun h => absurd h (by decide), fun _ => ?_⟩))
    rw [succ_k]
    refine And.intro (rec_z hk hg rfl rfl) ?_
    (repeat (first | refine aC ?_ | refine aK ?_ | refine ⟨fun _ => ?_, fun h => absurd h (by decide)⟩ | refine ⟨fun h => absurd h (by decide), fun _ => ?_⟩))
    by_cases h1 : (by_ == fG s.xs k 3) = true
    · have q1 : (gs.getD (0 + k * 9 + 3) 0 != by_) = false := by rw [b 3 (by decide), bne_eq_false_iff_eq]; exact (beq_iff_eq.1 h1).symm
      (first | refine brTT (q1) ?_ | refine brTF (q1) ?_ | refine brFT (q1) ?_ | refine brFF (q1) ?_)
      (repeat (first | refine aC ?_ | refine aK ?_ | refine ⟨fun _ => ?_, fun h => absurd h (by decide)⟩ | refine ⟨fun h => absurd h (by decide), fun _ => ?_⟩))
      (refine call_lift (rstands_c s gs hr k hk) (fun i => match i with | 0 => some 0 | 1 => some 1 | _ => none) rfl rfl hI rfl rfl rfl ?_; rintro v H1 ⟨rfl, rfl⟩; refine ⟨⟨rfl, rfl, rfl, rfl⟩, ?_⟩; (try simp only [two]); (try simp only [AV.ren]); (try simp only [renT]); (try simp only [AT.ren]); (try simp only [A.ren]); (try (rw [ptr_ren]; rotate_left; exact rfl)); (try (rw [slc_ren]; rotate_left; exact rfl)); (try simp only [S.ren]))
      (repeat (first | refine aC ?_ | refine aK ?_ | refine ⟨fun _ => ?_, fun h => absurd h (by decide)⟩ | refine ⟨fun h => absurd h (by decide), fun _ => ?_⟩))
      by_cases h2 : standsB s.d s.xs k = true
      · have q2 : (!standsB s.d s.xs k) = false := by rw [h2]; rfl
        (first | refine brTT (q2) ?_ | refine brTF (q2) ?_ | refine brFT (q2) ?_ | refine brFF (q2) ?_)
        (repeat (first | refine aC ?_ | refine aK ?_ | refine ⟨fun _ => ?_, fun h => absurd h (by decide)⟩ | refine ⟨fun h => absurd h (by decide), fun _ => ?_⟩))
        (try (refine And.intro (and_t n5 rfl) ?_))
        (repeat (first | refine aC ?_ | refine aK ?_ | refine ⟨fun _ => ?_, fun h => absurd h (by decide)⟩ | refine ⟨fun h => absurd h (by decide), fun _ => ?_⟩))
        by_cases h3 : hasOpen (fG s.xs k 5) = true
        · have q3 : ((((gs.getD (0 + k * 9 + 5) 0).toNat &&& 1 : Nat) : Int) == 0) = false := by rw [hasOpen_eq, b 5 (by decide), h3]; rfl
          (first | refine brTT (q3) ?_ | refine brTF (q3) ?_ | refine brFT (q3) ?_ | refine brFF (q3) ?_)
          (repeat (first | refine aC ?_ | refine aK ?_ | refine ⟨fun _ => ?_, fun h => absurd h (by decide)⟩ | refine ⟨fun h => absurd h (by decide), fun _ => ?_⟩))
          (try (refine And.intro (decide_eq_true (p := 0 ≤ a ∧ a < (64 : Nat)) (by omega)) ?_))
          (repeat (first | refine aC ?_ | refine aK ?_ | refine ⟨fun _ => ?_, fun h => absurd h (by decide)⟩ | refine ⟨fun h => absurd h (by decide), fun _ => ?_⟩))
          (try (refine And.intro (decide_eq_true ⟨p4, by decide⟩) ?_))
          (repeat (first | refine aC ?_ | refine aK ?_ | refine ⟨fun _ => ?_, fun h => absurd h (by decide)⟩ | refine ⟨fun h => absurd h (by decide), fun _ => ?_⟩))
          by_cases h4 : hasV (fG s.xs k 4) a = true
          · have q4 : (((gs.getD (0 + k * 9 + 4) 0).fdiv (2 ^ a.toNat)) % 2 == 0) = false := by rw [b 4 (by decide), hasV_rem v0.1, h4]; rfl
            have hc : keyC s.d s.xs k a by_ = true := by simp only [keyC, h1, h2, h3, h4]; rfl
            (first | refine brTT (q4) ?_ | refine brTF (q4) ?_ | refine brFT (q4) ?_ | refine brFF (q4) ?_)
            (repeat (first | refine aC ?_ | refine aK ?_ | refine ⟨fun _ => ?_, fun h => absurd h (by decide)⟩ | refine ⟨fun h => absurd h (by decide), fun _ => ?_⟩))
            (refine call_lift (rspent_c s gs hr k hk) (fun i => match i with | 0 => some 0 | 1 => some 1 | _ => none) rfl rfl hI rfl rfl rfl ?_; rintro v H1 ⟨rfl, rfl⟩; refine ⟨⟨rfl, rfl, rfl, rfl⟩, ?_⟩; (try simp only [two]); (try simp only [AV.ren]); (try simp only [renT]); (try simp only [AT.ren]); (try simp only [A.ren]); (try (rw [ptr_ren]; rotate_left; exact rfl)); (try (rw [slc_ren]; rotate_left; exact rfl)); (try simp only [S.ren]))
            (repeat (first | refine aC ?_ | refine aK ?_ | refine ⟨fun _ => ?_, fun h => absurd h (by decide)⟩ | refine ⟨fun h => absurd h (by decide), fun _ => ?_⟩))
            refine ⟨fun g5 => ?_, fun g5 => ?_⟩
            · have g5 : spentB s.xs k = true := g5
              (repeat (first | refine aC ?_ | refine aK ?_ | refine ⟨fun _ => ?_, fun h => absurd h (by decide)⟩ | refine ⟨fun h => absurd h (by decide), fun _ => ?_⟩))
              rw [hc, if_neg (by decide), if_pos g5]
              exact ⟨some, .int .i64 8, refH s gs, by exact wI, rfl, rfl⟩
            · have g5 : spentB s.xs k = false := g5
              (repeat (first | refine aC ?_ | refine aK ?_ | refine ⟨fun _ => ?_, fun h => absurd h (by decide)⟩ | refine ⟨fun h => absurd h (by decide), fun _ => ?_⟩))
              rw [hc, if_neg (by decide), if_neg (by rw [g5]; decide)]
              exact ⟨some, .int .i64 0, refH s gs, by exact wI, rfl, rfl⟩
          · have h4 : hasV (fG s.xs k 4) a = false := by simpa using h4
            have q4 : (((gs.getD (0 + k * 9 + 4) 0).fdiv (2 ^ a.toNat)) % 2 == 0) = true := by rw [b 4 (by decide), hasV_rem v0.1, h4]; rfl
            have hc : keyC s.d s.xs k a by_ = false := by simp only [keyC, h1, h2, h3, h4]; rfl
            (first | refine brTT (q4) ?_ | refine brTF (q4) ?_ | refine brFT (q4) ?_ | refine brFF (q4) ?_)
            (repeat (first | refine aC ?_ | refine aK ?_ | refine ⟨fun _ => ?_, fun h => absurd h (by decide)⟩ | refine ⟨fun h => absurd h (by decide), fun _ => ?_⟩))
            rw [hc, if_pos rfl]
            exact ⟨some, .int .i64 12, refH s gs, by exact wI, rfl, rfl⟩
        · have h3 : hasOpen (fG s.xs k 5) = false := by simpa using h3
          have q3 : ((((gs.getD (0 + k * 9 + 5) 0).toNat &&& 1 : Nat) : Int) == 0) = true := by rw [hasOpen_eq, b 5 (by decide), h3]; rfl
          have hc : keyC s.d s.xs k a by_ = false := by simp only [keyC, h1, h2, h3]; rfl
          (first | refine brTT (q3) ?_ | refine brTF (q3) ?_ | refine brFT (q3) ?_ | refine brFF (q3) ?_)
          (repeat (first | refine aC ?_ | refine aK ?_ | refine ⟨fun _ => ?_, fun h => absurd h (by decide)⟩ | refine ⟨fun h => absurd h (by decide), fun _ => ?_⟩))
          rw [hc, if_pos rfl]
          exact ⟨some, .int .i64 12, refH s gs, by exact wI, rfl, rfl⟩
      · have h2 : standsB s.d s.xs k = false := by simpa using h2
        have q2 : (!standsB s.d s.xs k) = true := by rw [h2]; rfl
        have hc : keyC s.d s.xs k a by_ = false := by simp only [keyC, h1, h2]; rfl
        (first | refine brTT (q2) ?_ | refine brTF (q2) ?_ | refine brFT (q2) ?_ | refine brFF (q2) ?_)
        (repeat (first | refine aC ?_ | refine aK ?_ | refine ⟨fun _ => ?_, fun h => absurd h (by decide)⟩ | refine ⟨fun h => absurd h (by decide), fun _ => ?_⟩))
        rw [hc, if_pos rfl]
        exact ⟨some, .int .i64 12, refH s gs, by exact wI, rfl, rfl⟩
    · have h1 : (by_ == fG s.xs k 3) = false := by simpa using h1
      have q1 : (gs.getD (0 + k * 9 + 3) 0 != by_) = true := by rw [b 3 (by decide), bne_iff_ne]; exact fun e => (beq_eq_false_iff_ne.1 h1) e.symm
      have hc : keyC s.d s.xs k a by_ = false := by simp only [keyC, h1]; rfl
      (first | refine brTT (q1) ?_ | refine brTF (q1) ?_ | refine brFT (q1) ?_ | refine brFF (q1) ?_)
      (repeat (first | refine aC ?_ | refine aK ?_ | refine ⟨fun _ => ?_, fun h => absurd h (by decide)⟩ | refine ⟨fun h => absurd h (by decide), fun _ => ?_⟩))
      rw [hc, if_pos rfl]
      exact ⟨some, .int .i64 12, refH s gs, by exact wI, rfl, rfl⟩
  · have h0 : inB s no = false := by simpa using h0
    have q0 : (!inB s no) = true := by rw [h0]; rfl
    have e : keyE s.d s.n s.xs a no by_ = 6 := by unfold keyE; rw [if_pos (show (decide (1 ≤ no) && decide (no ≤ (s.n : Int))) = false from h0)]
    (first | refine brTT (q0) ?_ | refine brTF (q0) ?_ | refine brFT (q0) ?_ | refine brFF (q0) ?_)
    (repeat (first | refine aC ?_ | refine aK ?_ | refine ⟨fun _ => ?_, fun h => absurd h (by decide)⟩ | refine ⟨fun h => absurd h (by decide), fun _ => ?_⟩))
    rw [e]
    exact ⟨some, .int .i64 6, refH s gs, by exact wI, rfl, rfl⟩
def cpyE (es : List Int) : Nat → List Int
  | 0 => []
  | c + 1 => cpyE es c ++ [es.getD (c * 4) 0, es.getD (c * 4 + 1) 0, es.getD (c * 4 + 2) 0, es.getD (c * 4 + 3) 0]
theorem cpyE_take (es : List Int) {m : Nat} (he : m * 4 = es.length) : ∀ c, c ≤ m → cpyE es c = es.take (c * 4)
  | 0, _ => by simp [cpyE]
  | c + 1, hc => by
    simp only [cpyE]
    rw [cpyE_take es he c (Nat.le_of_succ_le hc)]
    apply List.ext_getElem?
    intro i
    have hg : ∀ j, j < es.length → es.getD j 0 = es[j]! := fun j hj => by simp [List.getD_eq_getElem?_getD, hj]
    rw [List.getElem?_append, List.length_take, List.getElem?_take, List.getElem?_take]
    have hmin : min (c * 4) es.length = c * 4 := by omega
    rw [hmin]
    by_cases h1 : i < c * 4
    · rw [if_pos h1, if_pos h1, if_pos (by omega)]
    · rw [if_neg h1]
      by_cases h2 : i < (c + 1) * 4
      · rw [if_pos h2]
        obtain ⟨q, rfl⟩ : ∃ q, i = c * 4 + q := ⟨i - c * 4, by omega⟩
        have hq : q < 4 := by omega
        rw [Nat.add_sub_cancel_left]
        have hi : c * 4 + q < es.length := by omega
        rw [List.getElem?_eq_getElem hi]
        match q, hq with
        | 0, _ => simp [List.getD_eq_getElem?_getD, List.getElem?_eq_getElem (show c * 4 < es.length by omega)]
        | 1, _ => simp [List.getD_eq_getElem?_getD, List.getElem?_eq_getElem hi]
        | 2, _ => simp [List.getD_eq_getElem?_getD, List.getElem?_eq_getElem hi]
        | 3, _ => simp [List.getD_eq_getElem?_getD, List.getElem?_eq_getElem hi]
      · rw [if_neg h2]
        exact List.getElem?_eq_none (by simp; omega)
theorem cpyE_all (es : List Int) {m : Nat} (he : m * 4 = es.length) : cpyE es m = es := by
  rw [cpyE_take es he m (Nat.le_refl _), he]
  exact List.take_length
theorem cpyE_len (es : List Int) : ∀ c, (cpyE es c).length = c * 4
  | 0 => rfl
  | c + 1 => by
    simp only [cpyE, List.length_append, cpyE_len es c, List.length_cons, List.length_nil]
    omega
abbrev boxN (c e : Nat) (d : Int) : Blk := ⟨true, true, 30, 1, .cells [.s (.slc 5 0 c), .s (.slc 6 0 e), .s (.v (.int .i64 d))]⟩
abbrev boxM (c : Nat) (d : Int) : Blk := ⟨true, true, 30, 1, .cells [.s (.slc 5 0 c), .s (.v (.slice none 0 0)), .s (.v (.int .i64 d))]⟩
abbrev boxZ : Blk := ⟨true, true, 30, 1, .cells [.s (.v (.slice none 0 0)), .s (.v (.slice none 0 0)), .s (.v (.int .i64 0))]⟩
abbrev grB (gs : List Int) (c : Nat) : Blk := ⟨true, false, 50, 9, .recs kG (cpy gs c)⟩
set_option maxRecDepth 20000 in
set_option maxHeartbeats 4000000 in
theorem rcopied_c (s : St) (gs : List Int) (hr : Rf s gs) :
    CallA Try.prog 93 [refA s.n s.m s.d] (refH s gs) (fun w H => w = .t (.agg [.s (.slc 2 0 s.n), .s (.slc 3 0 s.m), .s (.v (.int .i64 s.d))]) ∧ H = refH s gs ++ [grB gs s.n, entB true s.es]) := by
  refine call_of_vc TYok mixedO Try.func93 rfl rfl (Nat.le_of_ble_eq_true rfl) ?_
  have hf := hr.good.rng.wf.few
  have hg := hr.len
  have hel := hr.good.len
  have hm4 := hr.good.few
  (repeat (first | refine aC ?_ | refine aK ?_ | refine ⟨fun _ => ?_, fun h => absurd h (by decide)⟩ | refine ⟨fun h => absurd h (by decide), fun _ => ?_⟩))
  refine loop_rule TYok mixedO (ι := Nat) (fun c => [(1, .t (.a (.s (.ptr 2 0)))), (2, .t (.a (.s (.ptr 3 0)))), (3, .t (.a (.s (.ptr 4 0)))), (4, .int .i64 (c : Int))]) (fun c => refX s gs ++ [boxZ, boxM c s.d, grB gs c]) (fun c => c ≤ s.n) (fun c => s.n - c) 0 (Nat.zero_le _) (fun i => match i with | 0 => some 0 | 1 => some 1 | 2 => some 2 | 3 => some 3 | 4 => some 4 | _ => none) (by exact wI) ?_
  rintro c hc
  (repeat (first | refine aC ?_ | refine aK ?_ | refine ⟨fun _ => ?_, fun h => absurd h (by decide)⟩ | refine ⟨fun h => absurd h (by decide), fun _ => ?_⟩))
  refine ⟨fun g => ?_, fun g => ?_⟩
  · have g := of_decide_eq_true g
    have hk : c < s.n := by omega
    (repeat (first | refine aC ?_ | refine ⟨fun _ => ?_, fun h => absurd h (by decide)⟩ | refine ⟨fun h => absurd h (by decide), fun _ => ?_⟩))
    refine cut_rule [(1, .t (.a (.s (.ptr 2 0)))), (2, .t (.a (.s (.ptr 3 0)))), (3, .t (.a (.s (.ptr 4 0)))), (4, .int .i64 (c : Int))] (refX s gs ++ [boxZ, boxM c s.d, grB gs c]) some (by exact wI) ?_
    (refine drawn_rule TYok mixedO [(5, 8), (4, 10)] [(true, 0, []), (true, 1, []), (true, 2, []), (true, 3, []), (true, 4, []), (true, 5, []), (true, 6, []), (false, 7, []), (false, 8, [5]), (true, 9, [5]), (false, 10, [4, 5])] (by kernel_rfl) ?_)
    have e1 : 0 + ((c : Nat) : Int).toNat * ti50.size = c * 9 := by rw [siz50]; simp
    (repeat (first | refine aC ?_ | refine aK ?_ | refine ⟨fun _ => ?_, fun h => absurd h (by decide)⟩ | refine ⟨fun h => absurd h (by decide), fun _ => ?_⟩))
    rw [e1]
    refine And.intro (rec_t hk hg rfl rfl) ?_
    (repeat (first | refine aC ?_ | refine aK ?_ | refine ⟨fun _ => ?_, fun h => absurd h (by decide)⟩ | refine ⟨fun h => absurd h (by decide), fun _ => ?_⟩))
    refine And.intro ?_ ?_
    · exact and_t (and_t (and_t (and_t rfl rfl) rfl) rfl) (apR_t rfl rfl rfl rfl (cpy_len gs c).symm (by omega))
    (repeat (first | refine aC ?_ | refine aK ?_ | refine ⟨fun _ => ?_, fun h => absurd h (by decide)⟩ | refine ⟨fun h => absurd h (by decide), fun _ => ?_⟩))
    exact ⟨c + 1, hk, by omega, (fun i => match i with | 0 => some 0 | 1 => some 1 | 2 => some 2 | 3 => some 3 | 4 => some 4 | 5 => some 7 | _ => none), by exact wI⟩
  · have g := of_decide_eq_false g
    obtain rfl : c = s.n := by omega
    (repeat (first | refine aC ?_ | refine aK ?_ | refine ⟨fun _ => ?_, fun h => absurd h (by decide)⟩ | refine ⟨fun h => absurd h (by decide), fun _ => ?_⟩))
    refine loop_rule TYok mixedO (ι := Nat) (fun e => [(1, .t (.a (.s (.ptr 2 0)))), (2, .t (.a (.s (.ptr 3 0)))), (3, .t (.a (.s (.ptr 4 0)))), (5, .int .i64 (e : Int))]) (fun e => refX s gs ++ [boxZ, boxN s.n e s.d, grB gs s.n, entB true (cpyE s.es e)]) (fun e => e ≤ s.m) (fun e => s.m - e) 0 (Nat.zero_le _) (fun i => match i with | 0 => some 0 | 1 => some 1 | 2 => some 2 | 3 => some 3 | 4 => some 4 | 5 => some 5 | _ => none) (by exact wI) ?_
    rintro e he
    (repeat (first | refine aC ?_ | refine aK ?_ | refine ⟨fun _ => ?_, fun h => absurd h (by decide)⟩ | refine ⟨fun h => absurd h (by decide), fun _ => ?_⟩))
    refine ⟨fun g => ?_, fun g => ?_⟩
    · have g := of_decide_eq_true g
      have hk : e < s.m := by omega
      have e4 : 0 + ((e : Nat) : Int).toNat * ti67.size = e * 4 := by rw [siz67]; simp
      (repeat (first | refine aC ?_ | refine ⟨fun _ => ?_, fun h => absurd h (by decide)⟩ | refine ⟨fun h => absurd h (by decide), fun _ => ?_⟩))
      refine cut_rule [(1, .t (.a (.s (.ptr 2 0)))), (2, .t (.a (.s (.ptr 3 0)))), (3, .t (.a (.s (.ptr 4 0)))), (5, .int .i64 (e : Int))] (refX s gs ++ [boxZ, boxN s.n e s.d, grB gs s.n, entB true (cpyE s.es e)]) some (by exact wI) ?_
      (refine drawn_rule TYok mixedO [(6, 8), (4, 10)] [(true, 0, []), (true, 1, []), (true, 2, []), (true, 3, []), (true, 4, []), (true, 5, []), (true, 6, []), (false, 7, []), (false, 8, [6]), (true, 9, [6]), (false, 10, [4, 6])] (by kernel_rfl) ?_)
      (repeat (first | refine aC ?_ | refine aK ?_ | refine ⟨fun _ => ?_, fun h => absurd h (by decide)⟩ | refine ⟨fun h => absurd h (by decide), fun _ => ?_⟩))
      rw [e4]
      (repeat (first | refine aC ?_ | refine aK ?_ | refine ⟨fun _ => ?_, fun h => absurd h (by decide)⟩ | refine ⟨fun h => absurd h (by decide), fun _ => ?_⟩))
      refine And.intro ?_ ?_
      · exact and_t (and_t (and_t (and_t rfl rfl) rfl) rfl) (apO_t rfl rfl rfl (cpyE_len s.es e).symm (by omega))
      (repeat (first | refine aC ?_ | refine aK ?_ | refine ⟨fun _ => ?_, fun h => absurd h (by decide)⟩ | refine ⟨fun h => absurd h (by decide), fun _ => ?_⟩))
      exact ⟨e + 1, hk, by omega, (fun i => match i with | 0 => some 0 | 1 => some 1 | 2 => some 2 | 3 => some 3 | 4 => some 4 | 5 => some 5 | 6 => some 8 | _ => none), by exact wI⟩
    · have g := of_decide_eq_false g
      obtain rfl : e = s.m := by omega
      rw [cpyE_all s.es hel]
      (repeat (first | refine aC ?_ | refine aK ?_ | refine ⟨fun _ => ?_, fun h => absurd h (by decide)⟩ | refine ⟨fun h => absurd h (by decide), fun _ => ?_⟩))
      exact ⟨(fun i => match i with | 0 => some 0 | 1 => some 1 | 2 => some 5 | 3 => some 6 | _ => none), .t (.agg [.s (.slc 2 0 s.n), .s (.slc 3 0 s.m), .s (.v (.int .i64 s.d))]), refH s gs ++ [grB gs s.n, entB true s.es], by exact wI, rfl, rfl⟩
end Go.Proofs.Ytlbgkfidpkbafaa
/- What stays so of the specification's book. -/
namespace Go.Proofs.Ytlbgkfidpkbafaa
open Go.RowKit
set_option linter.unusedSimpArgs false
set_option linter.unusedVariables false
theorem cpy_fld {xs : List Int} {c k o : Nat} (hk : k < c) (ho : o < 8) : fG (cpy xs c) k o = fG xs k o := by
  rw [cpy_get xs hk (by omega)]
  unfold recG
  match o, ho with
  | 0, _ => rfl
  | 1, _ => rfl
  | 2, _ => rfl
  | 3, _ => rfl
  | 4, _ => rfl
  | 5, _ => rfl
  | 6, _ => rfl
  | 7, _ => rfl
theorem cpy_rev {xs : List Int} {c k : Nat} (hk : k < c) : revG (cpy xs c) k = revG xs k := by
  show ((cpy xs c).getD (k * 9 + 8) 0 != 0) = _
  rw [show (cpy xs c).getD (k * 9 + 8) 0 = _ from cpy_get xs hk (show 8 < 9 by decide)]
  show ((if revG xs k = true then (1 : Int) else 0) != 0) = _
  cases revG xs k <;> rfl
theorem Rf.copy {s : St} {gs : List Int} (h : Rf s gs) : Rf s (cpy gs s.n) :=
  ⟨h.good, (cpy_len gs s.n).symm, fun k o hk ho => by rw [cpy_fld hk (by omega)]; exact h.same k o hk ho, fun k hk => by rw [cpy_rev hk]; exact h.rev k hk, h.ent, fun k hk => by rw [cpy_fld hk (by decide)]; exact h.no k hk, fun k hk => by rw [cpy_fld hk (by decide)]; exact h.yes k hk⟩
theorem Rf.more {s : St} {gs : List Int} (h : Rf s gs) {ab ro ho v r u us : Int} (hn : s.n < 128) (hv : validG ho v r u us = true)
    (hg : Good ⟨s.d, s.n + 1, s.xs ++ [(s.n : Int) + 1, ab, ro, ho, v, r, u, us, 0], s.m, s.es⟩) : Rf ⟨s.d, s.n + 1, s.xs ++ [(s.n : Int) + 1, ab, ro, ho, v, r, u, us, 0], s.m, s.es⟩ (gs ++ [(s.n : Int) + 1, ab, ro, ho, v, r, u, us, 0]) := by
  have hT : Turned s ⟨s.d, s.n + 1, s.xs ++ [(s.n : Int) + 1, ab, ro, ho, v, r, u, us, 0], s.m, s.es⟩ := .more ab ro ho v r u us hn hv
  have he := turned_ent h.good hT h.ent
  have hl := (turned_line h.good hg hT).2
  have hw := h.good.rng.wf
  have hx := hw.len
  have hy := h.len
  obtain ⟨_, _, _, _, b9, b10, b11⟩ := validG_bd hv
  have cs : ∀ {k : Nat}, k < s.n + 1 → k < s.n ∨ k = s.n := fun h => by omega
  refine ⟨hg, by simp only [List.length_append, List.length_cons, List.length_nil]; omega, fun k o hk ho => ?_, fun k hk => ?_, he, fun k hk => ?_, fun k hk => ?_⟩
  · show fG (gs ++ _) k o = fG (s.xs ++ _) k o
    rcases cs hk with hk | rfl
    · rw [app_old hy _ hk (by omega), app_old hx _ hk (by omega)]
      exact h.same k o hk ho
    · rw [app_new hy, app_new hx]
  · show ((gs ++ _).getD (k * 9 + 8) 0 != 0) = ((s.xs ++ _).getD (k * 9 + 8) 0 != 0)
    rcases cs hk with hk | rfl
    · rw [show (gs ++ _).getD (k * 9 + 8) 0 = _ from app_old hy _ hk (by decide), show (s.xs ++ _).getD (k * 9 + 8) 0 = _ from app_old hx _ hk (by decide)]
      exact h.rev k hk
    · rw [show (gs ++ _).getD (s.n * 9 + 8) 0 = _ from app_new hy _ 8, show (s.xs ++ _).getD (s.n * 9 + 8) 0 = _ from app_new hx _ 8]
  · show fG (gs ++ _) k 7 < 0 → fG (s.xs ++ _) k 7 = -1
    rcases cs hk with hk | rfl
    · rw [app_old hy _ hk (by decide), app_old hx _ hk (by decide)]
      exact h.no k hk
    · rw [app_new hy, app_new hx]
      intro hh
      have hh : us < 0 := hh
      show us = -1
      omega
  · show 0 ≤ fG (gs ++ _) k 7 → 0 ≤ fG (s.xs ++ _) k 7 ∧ fG (s.xs ++ _) k 7 = fG (gs ++ _) k 7 - (usedN (s.xs ++ _) s.es k s.m : Nat)
    rcases cs hk with hk | rfl
    · rw [app_old hy _ hk (by decide), app_old hx _ hk (by decide), usedN_congr k hl h.ent.a h.ent.b (fun _ _ _ _ => rfl) (Nat.le_refl _)]
      exact h.yes k hk
    · rw [app_new hy, app_new hx, usedN_congr s.n hl h.ent.a h.ent.b (fun _ _ _ _ => rfl) (Nat.le_refl _), usedN_none hw (Nat.le_refl _) h.ent.a h.ent.b (Nat.le_refl _)]
      intro hh
      exact ⟨hh, (Int.sub_zero _).symm⟩
theorem Rf.revoke {s : St} {gs : List Int} (h : Rf s gs) {q : Nat} (hq : q < s.n) (hg : Good ⟨s.d, s.n, revX s.xs q, s.m, s.es⟩) : Rf ⟨s.d, s.n, revX s.xs q, s.m, s.es⟩ (revX gs q) := by
  have hx := h.good.rng.wf.len
  have hl : ∀ k, k < s.n → line (revX s.xs q) k = line s.xs k := fun k hk => line_congr h.good.rng.wf hg.rng.wf (fun i _ => by show fG (revX s.xs q) i 1 = _; rw [revX_get hx hq (by decide), if_neg (fun e => by omega)]) hk
  have g7 : ∀ (l : List Int) k o, s.n * 9 = l.length → o < 8 → fG (revX l q) k o = fG l k o := fun l k o hh ho => by
    rw [revX_get hh hq (by omega), if_neg (fun e => by omega)]
  refine ⟨hg, by rw [revX_len]; exact h.len, fun k o hk ho => ?_, fun k hk => ?_, ⟨h.ent.a, h.ent.b⟩, fun k hk => ?_, fun k hk => ?_⟩
  · show fG (revX gs q) k o = fG (revX s.xs q) k o
    rw [g7 gs k o h.len (by omega), g7 s.xs k o hx (by omega)]
    exact h.same k o hk ho
  · show ((revX gs q).getD (k * 9 + 8) 0 != 0) = ((revX s.xs q).getD (k * 9 + 8) 0 != 0)
    rw [show (revX gs q).getD (k * 9 + 8) 0 = _ from revX_get h.len hq (i := k) (o := 8) (by decide), show (revX s.xs q).getD (k * 9 + 8) 0 = _ from revX_get hx hq (i := k) (o := 8) (by decide)]
    by_cases e : k = q
    · rw [if_pos ⟨e, rfl⟩, if_pos ⟨e, rfl⟩]
    · rw [if_neg (fun h => e h.1), if_neg (fun h => e h.1)]
      exact h.rev k hk
  · show fG (revX gs q) k 7 < 0 → fG (revX s.xs q) k 7 = -1
    rw [g7 gs k 7 h.len (by decide), g7 s.xs k 7 hx (by decide)]
    exact h.no k hk
  · show 0 ≤ fG (revX gs q) k 7 → 0 ≤ fG (revX s.xs q) k 7 ∧ fG (revX s.xs q) k 7 = fG (revX gs q) k 7 - (usedN (revX s.xs q) s.es k s.m : Nat)
    rw [g7 gs k 7 h.len (by decide), g7 s.xs k 7 hx (by decide), usedN_congr k hl h.ent.a h.ent.b (fun _ _ _ _ => rfl) (Nat.le_refl _)]
    exact h.yes k hk
theorem Rf.next {s : St} {gs : List Int} (h : Rf s gs) (d : Int) : Rf ⟨d, s.n, s.xs, s.m, s.es⟩ gs :=
  ⟨⟨h.good.rng, h.good.len, h.good.few, h.good.no, h.good.h, h.good.v1, h.good.r1, h.good.t, h.good.root, h.good.up⟩, h.len, h.same, h.rev, ⟨h.ent.a, h.ent.b⟩, h.no, h.yes⟩
theorem Rf.opn {s : St} {gs : List Int} (h : Rf s gs) {a f t : Int} (f1 : 1 ≤ f) (f2 : f ≤ (s.n : Int)) (t1 : 1 ≤ t) (t2 : t ≤ (s.n : Int)) (sf : standsB s.d s.xs (f - 1).toNat = true) (st : standsB s.d s.xs (t - 1).toNat = true) (hr : fG s.xs (f - 1).toNat 2 ≠ fG s.xs (t - 1).toNat 2) (zf : spentB s.xs (f - 1).toNat = false) (zt : spentB s.xs (t - 1).toNat = false)
    (hg : Good ⟨s.d, s.n, useG (useG s.xs (f - 1).toNat) (t - 1).toNat, s.m + 1, s.es ++ [s.d, a, f, t]⟩) : Rf ⟨s.d, s.n, useG (useG s.xs (f - 1).toNat) (t - 1).toNat, s.m + 1, s.es ++ [s.d, a, f, t]⟩ gs := by
  have hT : Turned s ⟨s.d, s.n, useG (useG s.xs (f - 1).toNat) (t - 1).toNat, s.m + 1, s.es ++ [s.d, a, f, t]⟩ := .opn a f t f1 f2 t1 t2 sf st hr zf zt
  have hkf : (f - 1).toNat < s.n := by omega
  have hkt : (t - 1).toNat < s.n := by omega
  have hRf := useG_rng h.good.rng hkf
  have keep : ∀ k o, o < 9 → o ≠ 7 → fG (useG (useG s.xs (f - 1).toNat) (t - 1).toNat) k o = fG s.xs k o := fun k o ho h7 => by
    rw [useG_keep hRf.wf hkt k ho h7, useG_keep h.good.rng.wf hkf k ho h7]
  -- the uses, by the law of uses over the list of what was made
  have hU : UsesI s ((List.range s.n).map fun k => fG gs k 7) := by
    have hg : ∀ k, k < s.n → ((List.range s.n).map fun k => fG gs k 7).getD k 0 = fG gs k 7 := fun k hk => by
      simp only [List.getD_eq_getElem?_getD, List.getElem?_map, List.getElem?_range hk]
      rfl
    exact ⟨by simp, h.ent, fun k hk => by rw [hg k hk]; exact h.no k hk, fun k hk => by rw [hg k hk]; exact h.yes k hk⟩
  have hU' := turned_uses h.good hg hT hU
  have e1 : ((List.range s.n).map fun k => fG gs k 7) ++ moreU (useG (useG s.xs (f - 1).toNat) (t - 1).toNat) s.n (s.n - s.n) = ((List.range s.n).map fun k => fG gs k 7) := moreU_0 _ _ _
  have hgt : ∀ k, k < s.n → ((List.range s.n).map fun k => fG gs k 7).getD k 0 = fG gs k 7 := fun k hk => by
    simp only [List.getD_eq_getElem?_getD, List.getElem?_map, List.getElem?_range hk]
    rfl
  refine ⟨hg, h.len, fun k o hk ho => ?_, fun k hk => ?_, turned_ent h.good hT h.ent, fun k hk => ?_, fun k hk => ?_⟩
  · show fG gs k o = fG (useG (useG s.xs (f - 1).toNat) (t - 1).toNat) k o
    rw [keep k o (by omega) (by omega)]
    exact h.same k o hk ho
  · show revG gs k = ((useG (useG s.xs (f - 1).toNat) (t - 1).toNat).getD (k * 9 + 8) 0 != 0)
    rw [show (useG (useG s.xs (f - 1).toNat) (t - 1).toNat).getD (k * 9 + 8) 0 = _ from keep k 8 (by decide) (by decide)]
    exact h.rev k hk
  · have := hU'.no k hk
    rw [show (_ : List Int).getD k 0 = fG gs k 7 from by
      show (((List.range s.n).map fun k => fG gs k 7) ++ moreU (useG (useG s.xs (f - 1).toNat) (t - 1).toNat) s.n (s.n - s.n)).getD k 0 = _
      rw [e1]; exact hgt k hk] at this
    exact this
  · have := hU'.yes k hk
    rw [show (_ : List Int).getD k 0 = fG gs k 7 from by
      show (((List.range s.n).map fun k => fG gs k 7) ++ moreU (useG (useG s.xs (f - 1).toNat) (t - 1).toNat) s.n (s.n - s.n)).getD k 0 = _
      rw [e1]; exact hgt k hk] at this
    exact this
end Go.Proofs.Ytlbgkfidpkbafaa
