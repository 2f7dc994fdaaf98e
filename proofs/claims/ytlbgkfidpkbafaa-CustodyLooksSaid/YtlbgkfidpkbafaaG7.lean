/- The specification's revocations and openings. -/
import Derived.Test.YtlbgkfidpkbafaaG6
import Derived.Test.YtlbgkfidpkbafaaG3
namespace Go.Proofs.Ytlbgkfidpkbafaa
open Go.RowKit
set_option linter.unusedSimpArgs false
set_option linter.unusedVariables false
def mayS (xs : List Int) (no b : Int) : Nat → Bool
  | 0 => false
  | c + 1 => mayS xs no b c || (inG xs no c && holdG xs b c)
theorem mayS_any {n : Nat} {xs : List Int} (hw : Wf n xs) {k : Nat} (hk : k < n) (b : Int) : mayS xs ((k : Int) + 1) b n = (line xs k).any (holdG xs b) := by
  have key : ∀ c, mayS xs ((k : Int) + 1) b c = true ↔ ∃ i, i < c ∧ i ∈ line xs k ∧ holdG xs b i = true := by
    intro c
    induction c with
    | zero => exact ⟨fun h => (by cases h), fun ⟨_, h, _⟩ => absurd h (Nat.not_lt_zero _)⟩
    | succ c ih =>
      simp only [mayS, Bool.or_eq_true, Bool.and_eq_true]
      have hi : inG xs ((k : Int) + 1) c = true ↔ c ∈ line xs k := by
        unfold inG
        rw [succ_k, decide_eq_true_eq]
      constructor
      · rintro (h | ⟨h1, h2⟩)
        · obtain ⟨i, a, b⟩ := ih.1 h
          exact ⟨i, Nat.lt_succ_of_lt a, b⟩
        · exact ⟨c, Nat.lt_succ_self c, hi.1 h1, h2⟩
      · rintro ⟨i, a, b, e⟩
        rcases Nat.lt_succ_iff_lt_or_eq.1 a with h | rfl
        · exact .inl (ih.2 ⟨i, h, b, e⟩)
        · exact .inr ⟨hi.2 b, e⟩
  rw [Bool.eq_iff_iff, key, List.any_eq_true]
  exact ⟨fun ⟨i, _, h2, h3⟩ => ⟨i, h2, h3⟩, fun ⟨i, h1, h2⟩ => ⟨i, line_lt hw hk i h1, h1, h2⟩⟩
theorem revokeS_e {s : St} {k : Nat} (hk : k < s.n) {b : Int} (h : revE s.xs k b ≠ 0) : revokeS s ((k : Int) + 1) b = (s, 0, revE s.xs k b) := by
  unfold revokeS
  rw [if_neg (by rw [inB_of hk]; decide), succ_k, if_pos h]
theorem revokeS_0 {s : St} {k : Nat} (hk : k < s.n) {b : Int} (h : revE s.xs k b = 0) : revokeS s ((k : Int) + 1) b = (⟨s.d, s.n, revX s.xs k, s.m, s.es⟩, ((standN s.d s.xs s.n : Nat) - (standN s.d (revX s.xs k) s.n : Nat) : Int), 0) := by
  unfold revokeS
  rw [if_neg (by rw [inB_of hk]; decide), succ_k, if_neg (by rw [h]; decide)]
set_option maxRecDepth 20000 in
set_option maxHeartbeats 8000000 in
theorem rrevoke_c (s : St) (gs : List Int) (hr : Rf s gs) (no b : Int) : CallA Try.prog 43 [refA s.n s.m s.d, .int .i64 no, .int .i64 b] (refH s gs) (RPost3 s gs (revokeS s no b)) := by
  refine call_of_vc TYok mixedO Try.func43 rfl rfl (Nat.le_of_ble_eq_true rfl) ?_
  have hw := hr.good.rng.wf
  have hf := hw.few
  have hg := hr.len
  (repeat (first | refine aC ?_ | refine aK ?_ | refine ⟨fun _ => ?_, fun h => absurd h (by decide)⟩ | refine ⟨fun h => absurd h (by decide), fun _ => ?_⟩))
  (refine call_lift (rhas_c s gs no) (fun i => match i with | 0 => some 0 | 1 => some 1 | _ => none) rfl rfl hI rfl rfl rfl ?_; rintro v H1 ⟨rfl, rfl⟩; refine ⟨⟨rfl, rfl, rfl, rfl⟩, ?_⟩; (try simp only [two]); (try simp only [AV.ren]); (try simp only [renT]); (try simp only [AT.ren]); (try simp only [A.ren]); (try (rw [ptr_ren]; rotate_left; exact rfl)); (try (rw [slc_ren]; rotate_left; exact rfl)); (try simp only [S.ren]))
  (repeat (first | refine aC ?_ | refine aK ?_ | refine ⟨fun _ => ?_, fun h => absurd h (by decide)⟩ | refine ⟨fun h => absurd h (by decide), fun _ => ?_⟩))
  by_cases h0 : inB s no = true
  · have q0 : (!inB s no) = false := by rw [h0]; rfl
    obtain ⟨k, rfl, hk⟩ := inB_k h0
    have a0 : i64ok ((k : Int) + 1 - 1) = true := i64_of (by omega)
    have a1 : decide (0 ≤ (k : Int) + 1 - 1 ∧ (k : Int) + 1 - 1 < (s.n : Int)) = true := decide_eq_true (by omega)
    (first | refine brTT (q0) ?_ | refine brTF (q0) ?_ | refine brFT (q0) ?_ | refine brFF (q0) ?_)
    (repeat (first | refine aC ?_ | refine aK ?_ | refine ⟨fun _ => ?_, fun h => absurd h (by decide)⟩ | refine ⟨fun h => absurd h (by decide), fun _ => ?_⟩))
    (refine call_lift (rperson_c b) (fun i => match i with | 0 => none | _ => none) rfl rfl hI rfl rfl rfl ?_; rintro v H1 ⟨rfl, rfl⟩; refine ⟨⟨rfl, rfl, rfl, rfl⟩, ?_⟩; (try simp only [two]); (try simp only [AV.ren]); (try simp only [renT]); (try simp only [AT.ren]); (try simp only [A.ren]); (try (rw [ptr_ren]; rotate_left; exact rfl)); (try (rw [slc_ren]; rotate_left; exact rfl)); (try simp only [S.ren]))
    (repeat (first | refine aC ?_ | refine aK ?_ | refine ⟨fun _ => ?_, fun h => absurd h (by decide)⟩ | refine ⟨fun h => absurd h (by decide), fun _ => ?_⟩))
    by_cases hp : isPer b = true
    · have qp : (!isPer b) = false := by rw [hp]; rfl
      (first | refine brTT (qp) ?_ | refine brTF (qp) ?_ | refine brFT (qp) ?_ | refine brFF (qp) ?_)
      (repeat (first | refine aC ?_ | refine aK ?_ | refine ⟨fun _ => ?_, fun h => absurd h (by decide)⟩ | refine ⟨fun h => absurd h (by decide), fun _ => ?_⟩))
      refine loop_rule TYok mixedO (ι := Nat) (fun c => [(1, .int .i64 ((k : Int) + 1)), (2, .int .i64 b), (3, .t (.a (.s (.ptr 2 0)))), (6, .t (.a (.s (.ptr 3 0)))), (9, .boo (mayS s.xs ((k : Int) + 1) b c)), (10, .int .i64 ((c : Int) + 1))]) (fun _ => refX s gs ++ [boxZ]) (fun c => c ≤ s.n) (fun c => s.n - c) 0 (Nat.zero_le _) some (by exact wI) ?_
      rintro c hc
      (repeat (first | refine aC ?_ | refine aK ?_ | refine ⟨fun _ => ?_, fun h => absurd h (by decide)⟩ | refine ⟨fun h => absurd h (by decide), fun _ => ?_⟩))
      refine ⟨fun g => ?_, fun g => ?_⟩
      · have g := of_decide_eq_true g
        have hlt : c < s.n := by omega
        have c0 : i64ok ((c : Int) + 1 - 1) = true := i64_of (by omega)
        have c1 : decide (0 ≤ (c : Int) + 1 - 1 ∧ (c : Int) + 1 - 1 < (s.n : Int)) = true := decide_eq_true (by omega)
        have f3 : (gs.getD (0 + c * 9 + 3) 0 == b) = holdG s.xs b c := by
          rw [Nat.zero_add]
          show (fG gs c 3 == b) = (fG s.xs c 3 == b)
          rw [hr.same c 3 hlt (by decide)]
        have eM : mayS s.xs ((k : Int) + 1) b (c + 1) = (mayS s.xs ((k : Int) + 1) b c || (inG s.xs ((k : Int) + 1) c && holdG s.xs b c)) := rfl
        (repeat (first | refine aC ?_ | refine aK ?_ | refine ⟨fun _ => ?_, fun h => absurd h (by decide)⟩ | refine ⟨fun h => absurd h (by decide), fun _ => ?_⟩))
        by_cases g1 : mayS s.xs ((k : Int) + 1) b c = true
        · (first | refine brTT (g1) ?_ | refine brTF (g1) ?_ | refine brFT (g1) ?_ | refine brFF (g1) ?_)
          (repeat (first | refine aC ?_ | refine aK ?_ | refine ⟨fun _ => ?_, fun h => absurd h (by decide)⟩ | refine ⟨fun h => absurd h (by decide), fun _ => ?_⟩))
          rw [g1] at eM
          exact ⟨c + 1, hlt, by omega, some, by simp only [eM]; exact wI⟩
        · have g1 : mayS s.xs ((k : Int) + 1) b c = false := by simpa using g1
          (first | refine brTT (g1) ?_ | refine brTF (g1) ?_ | refine brFT (g1) ?_ | refine brFF (g1) ?_)
          (repeat (first | refine aC ?_ | refine aK ?_ | refine ⟨fun _ => ?_, fun h => absurd h (by decide)⟩ | refine ⟨fun h => absurd h (by decide), fun _ => ?_⟩))
          (refine call_lift (runder_c s gs hr ((k : Int) + 1) c (by omega) (by omega)) (fun i => match i with | 0 => some 0 | 1 => some 1 | _ => none) rfl rfl hI rfl rfl rfl ?_; rintro v H1 ⟨rfl, rfl⟩; refine ⟨⟨rfl, rfl, rfl, rfl⟩, ?_⟩; (try simp only [two]); (try simp only [AV.ren]); (try simp only [renT]); (try simp only [AT.ren]); (try simp only [A.ren]); (try (rw [ptr_ren]; rotate_left; exact rfl)); (try (rw [slc_ren]; rotate_left; exact rfl)); (try simp only [S.ren]))
          (repeat (first | refine aC ?_ | refine aK ?_ | refine ⟨fun _ => ?_, fun h => absurd h (by decide)⟩ | refine ⟨fun h => absurd h (by decide), fun _ => ?_⟩))
          by_cases g2 : inG s.xs ((k : Int) + 1) c = true
          · (first | refine brTT (g2) ?_ | refine brTF (g2) ?_ | refine brFT (g2) ?_ | refine brFF (g2) ?_)
            (repeat (first | refine aC ?_ | refine aK ?_ | refine ⟨fun _ => ?_, fun h => absurd h (by decide)⟩ | refine ⟨fun h => absurd h (by decide), fun _ => ?_⟩))
            rw [succ_k]
            refine And.intro (fld_z (o := 3) (by decide) rfl hlt hg) ?_
            (repeat (first | refine aC ?_ | refine aK ?_ | refine ⟨fun _ => ?_, fun h => absurd h (by decide)⟩ | refine ⟨fun h => absurd h (by decide), fun _ => ?_⟩))
            rw [g1, g2, Bool.false_or, Bool.true_and, ← f3] at eM
            exact ⟨c + 1, hlt, by omega, some, by simp only [eM]; exact wI⟩
          · have g2 : inG s.xs ((k : Int) + 1) c = false := by simpa using g2
            (first | refine brTT (g2) ?_ | refine brTF (g2) ?_ | refine brFT (g2) ?_ | refine brFF (g2) ?_)
            (repeat (first | refine aC ?_ | refine aK ?_ | refine ⟨fun _ => ?_, fun h => absurd h (by decide)⟩ | refine ⟨fun h => absurd h (by decide), fun _ => ?_⟩))
            rw [g1, g2] at eM
            exact ⟨c + 1, hlt, by omega, some, by simp only [eM]; exact wI⟩
      · have g := of_decide_eq_false g
        obtain rfl : c = s.n := by omega
        rw [mayS_any hw hk b]
        (repeat (first | refine aC ?_ | refine aK ?_ | refine ⟨fun _ => ?_, fun h => absurd h (by decide)⟩ | refine ⟨fun h => absurd h (by decide), fun _ => ?_⟩))
        by_cases hh : (line s.xs k).any (holdG s.xs b) = true
        · have qh : (!(line s.xs k).any (holdG s.xs b)) = false := by rw [hh]; rfl
          have hR := rrevoked_c s gs hr ((k : Int) + 1) (by omega) (by omega)
          rw [succ_k] at hR
          (first | refine brTT (qh) ?_ | refine brTF (qh) ?_ | refine brFT (qh) ?_ | refine brFF (qh) ?_)
          (repeat (first | refine aC ?_ | refine aK ?_ | refine ⟨fun _ => ?_, fun h => absurd h (by decide)⟩ | refine ⟨fun h => absurd h (by decide), fun _ => ?_⟩))
          (refine call_lift (hR) (fun i => match i with | 0 => some 0 | 1 => some 1 | _ => none) rfl rfl hI rfl rfl rfl ?_; rintro v H1 ⟨rfl, rfl⟩; refine ⟨⟨rfl, rfl, rfl, rfl⟩, ?_⟩; (try simp only [two]); (try simp only [AV.ren]); (try simp only [renT]); (try simp only [AT.ren]); (try simp only [A.ren]); (try (rw [ptr_ren]; rotate_left; exact rfl)); (try (rw [slc_ren]; rotate_left; exact rfl)); (try simp only [S.ren]))
          (repeat (first | refine aC ?_ | refine aK ?_ | refine ⟨fun _ => ?_, fun h => absurd h (by decide)⟩ | refine ⟨fun h => absurd h (by decide), fun _ => ?_⟩))
          by_cases hv : (line s.xs k).any (revG s.xs) = true
          · have e : revE s.xs k b = 9 := by unfold revE; rw [if_neg (by rw [hp]; decide), if_neg (by rw [hh]; decide), if_pos hv]
            rw [revokeS_e hk (by rw [e]; decide), e]
            (first | refine brTT (hv) ?_ | refine brTF (hv) ?_ | refine brFT (hv) ?_ | refine brFF (hv) ?_)
            (repeat (first | refine aC ?_ | refine aK ?_ | refine ⟨fun _ => ?_, fun h => absurd h (by decide)⟩ | refine ⟨fun h => absurd h (by decide), fun _ => ?_⟩))
            exact ⟨some, tupOf [oldA s.n s.m s.d, intA 0, intA 9], refH s gs, by exact wI, .inl ⟨rfl, rfl, rfl⟩⟩
          · have hv : (line s.xs k).any (revG s.xs) = false := by simpa using hv
            have e : revE s.xs k b = 0 := by unfold revE; rw [if_neg (by rw [hp]; decide), if_neg (by rw [hh]; decide), if_neg (by rw [hv]; decide)]
            have hgd := revokeS_good hr.good ((k : Int) + 1) b
            rw [revokeS_0 hk e] at hgd ⊢
            have hR1 : Rf ⟨s.d, s.n, revX s.xs k, s.m, s.es⟩ (revX (cpy gs s.n) k) := hr.copy.revoke hk hgd
            have hcn := goneN_eq hr.good.rng hk s.d (Nat.le_refl s.n)
            have hgl : s.n * 9 = (cpy gs s.n).length := (cpy_len gs s.n).symm
            (first | refine brTT (hv) ?_ | refine brTF (hv) ?_ | refine brFT (hv) ?_ | refine brFF (hv) ?_)
            (repeat (first | refine aC ?_ | refine aK ?_ | refine ⟨fun _ => ?_, fun h => absurd h (by decide)⟩ | refine ⟨fun h => absurd h (by decide), fun _ => ?_⟩))
            (refine call_lift (rcopied_c s gs hr) (fun i => match i with | 0 => some 0 | 1 => some 1 | _ => none) rfl rfl hI rfl rfl rfl ?_; rintro v H1 ⟨rfl, rfl⟩; refine ⟨⟨rfl, rfl, rfl, rfl⟩, ?_⟩; (try simp only [two]); (try simp only [AV.ren]); (try simp only [renT]); (try simp only [AT.ren]); (try simp only [A.ren]); (try (rw [ptr_ren]; rotate_left; exact rfl)); (try (rw [slc_ren]; rotate_left; exact rfl)); (try simp only [S.ren]))
            (repeat (first | refine aC ?_ | refine aK ?_ | refine ⟨fun _ => ?_, fun h => absurd h (by decide)⟩ | refine ⟨fun h => absurd h (by decide), fun _ => ?_⟩))
            rw [succ_k]
            refine And.intro ?_ ?_
            · exact and_t (and_t (and_t (and_t (and_t (fld_z (o := 8) (by decide) rfl hk hgl) rfl) rfl) rfl) rfl) (decide_eq_true siz4.symm)
            (repeat (first | refine aC ?_ | refine aK ?_ | refine ⟨fun _ => ?_, fun h => absurd h (by decide)⟩ | refine ⟨fun h => absurd h (by decide), fun _ => ?_⟩))
            have eX : (cpy gs s.n).set (0 + k * 9 + 8) 1 = revX (cpy gs s.n) k := by rw [Nat.zero_add]; rfl
            refine loop_rule TYok mixedO (ι := Nat) (fun c => [(3, .t (.a (.s (.ptr 2 0)))), (6, .t (.a (.s (.ptr 3 0)))), (11, .t (.a (.s (.ptr 6 0)))), (12, .int .i64 (goneN s.d s.xs k c : Int)), (13, .int .i64 ((c : Int) + 1))]) (fun _ => refX s gs ++ [boxZ, gsB (revX (cpy gs s.n) k), entB true s.es, ⟨true, true, 30, 1, .cells [.s (.slc 4 0 s.n), .s (.slc 5 0 s.m), .s (.v (.int .i64 s.d))]⟩]) (fun c => c ≤ s.n) (fun c => s.n - c) 0 (Nat.zero_le _) some (by simp only [← eX]; exact wI) ?_
            rintro c hc
            have hgl2 := goneN_le s.d s.xs k c
            (repeat (first | refine aC ?_ | refine aK ?_ | refine ⟨fun _ => ?_, fun h => absurd h (by decide)⟩ | refine ⟨fun h => absurd h (by decide), fun _ => ?_⟩))
            refine ⟨fun g => ?_, fun g => ?_⟩
            · have g := of_decide_eq_true g
              have hlt : c < s.n := by omega
              have eG : goneN s.d s.xs k (c + 1) = goneN s.d s.xs k c + (if (standsB s.d s.xs c && decide (k ∈ line s.xs c)) = true then 1 else 0) := rfl
              have hst := rev_stands hr.good.rng hk s.d hlt
              (repeat (first | refine aC ?_ | refine aK ?_ | refine ⟨fun _ => ?_, fun h => absurd h (by decide)⟩ | refine ⟨fun h => absurd h (by decide), fun _ => ?_⟩))
              (refine call_lift (rstands_c s gs hr c hlt) (fun i => match i with | 0 => some 0 | 1 => some 1 | _ => none) rfl rfl hI rfl rfl rfl ?_; rintro v H1 ⟨rfl, rfl⟩; refine ⟨⟨rfl, rfl, rfl, rfl⟩, ?_⟩; (try simp only [two]); (try simp only [AV.ren]); (try simp only [renT]); (try simp only [AT.ren]); (try simp only [A.ren]); (try (rw [ptr_ren]; rotate_left; exact rfl)); (try (rw [slc_ren]; rotate_left; exact rfl)); (try simp only [S.ren]))
              (repeat (first | refine aC ?_ | refine aK ?_ | refine ⟨fun _ => ?_, fun h => absurd h (by decide)⟩ | refine ⟨fun h => absurd h (by decide), fun _ => ?_⟩))
              by_cases g1 : standsB s.d s.xs c = true
              · have hB := rstands_c _ _ hR1 c hlt
                dsimp only at hB
                (first | refine brTT (g1) ?_ | refine brTF (g1) ?_ | refine brFT (g1) ?_ | refine brFF (g1) ?_)
                (repeat (first | refine aC ?_ | refine aK ?_ | refine ⟨fun _ => ?_, fun h => absurd h (by decide)⟩ | refine ⟨fun h => absurd h (by decide), fun _ => ?_⟩))
                (refine call_lift (hB) (fun i => match i with | 0 => some 4 | 1 => some 5 | _ => none) rfl rfl hI rfl rfl rfl ?_; rintro v H1 ⟨rfl, rfl⟩; refine ⟨⟨rfl, rfl, rfl, rfl⟩, ?_⟩; (try simp only [two]); (try simp only [AV.ren]); (try simp only [renT]); (try simp only [AT.ren]); (try simp only [A.ren]); (try (rw [ptr_ren]; rotate_left; exact rfl)); (try (rw [slc_ren]; rotate_left; exact rfl)); (try simp only [S.ren]))
                (repeat (first | refine aC ?_ | refine aK ?_ | refine ⟨fun _ => ?_, fun h => absurd h (by decide)⟩ | refine ⟨fun h => absurd h (by decide), fun _ => ?_⟩))
                by_cases g2 : decide (k ∈ line s.xs c) = true
                · have q2 : (!standsB s.d (revX s.xs k) c) = true := by rw [hst, g1, g2]; rfl
                  rw [g1, g2] at eG
                  have eG' : (goneN s.d s.xs k (c + 1) : Int) = (goneN s.d s.xs k c : Int) + 1 := by rw [eG]; rfl
                  (first | refine brTT (q2) ?_ | refine brTF (q2) ?_ | refine brFT (q2) ?_ | refine brFF (q2) ?_)
                  (repeat (first | refine aC ?_ | refine aK ?_ | refine ⟨fun _ => ?_, fun h => absurd h (by decide)⟩ | refine ⟨fun h => absurd h (by decide), fun _ => ?_⟩))
                  exact ⟨c + 1, hlt, by omega, some, by simp only [eG']; exact wI⟩
                · have g2 : decide (k ∈ line s.xs c) = false := by simpa using g2
                  have q2 : (!standsB s.d (revX s.xs k) c) = false := by rw [hst, g1, g2]; rfl
                  rw [g1, g2] at eG
                  have eG' : (goneN s.d s.xs k (c + 1) : Int) = (goneN s.d s.xs k c : Int) := by rw [eG]; rfl
                  (first | refine brTT (q2) ?_ | refine brTF (q2) ?_ | refine brFT (q2) ?_ | refine brFF (q2) ?_)
                  (repeat (first | refine aC ?_ | refine aK ?_ | refine ⟨fun _ => ?_, fun h => absurd h (by decide)⟩ | refine ⟨fun h => absurd h (by decide), fun _ => ?_⟩))
                  exact ⟨c + 1, hlt, by omega, some, by simp only [eG']; exact wI⟩
              · have g1 : standsB s.d s.xs c = false := by simpa using g1
                rw [g1] at eG
                have eG' : (goneN s.d s.xs k (c + 1) : Int) = (goneN s.d s.xs k c : Int) := by rw [eG]; rfl
                (first | refine brTT (g1) ?_ | refine brTF (g1) ?_ | refine brFT (g1) ?_ | refine brFF (g1) ?_)
                (repeat (first | refine aC ?_ | refine aK ?_ | refine ⟨fun _ => ?_, fun h => absurd h (by decide)⟩ | refine ⟨fun h => absurd h (by decide), fun _ => ?_⟩))
                exact ⟨c + 1, hlt, by omega, some, by simp only [eG']; exact wI⟩
            · have g := of_decide_eq_false g
              obtain rfl : c = s.n := by omega
              have eF : ((standN s.d s.xs s.n : Nat) - (standN s.d (revX s.xs k) s.n : Nat) : Int) = (goneN s.d s.xs k s.n : Int) := by omega
              rw [eF]
              (repeat (first | refine aC ?_ | refine aK ?_ | refine ⟨fun _ => ?_, fun h => absurd h (by decide)⟩ | refine ⟨fun h => absurd h (by decide), fun _ => ?_⟩))
              exact ⟨(fun i => match i with | 0 => some 0 | 1 => some 1 | 2 => some 4 | 3 => some 5 | _ => none), tupOf [newA s.n s.m s.d, intA (goneN s.d s.xs k s.n : Int), intA 0], refH s gs ++ [gsB (revX (cpy gs s.n) k), entB true s.es], by exact wI, .inr ⟨_, hR1, rfl, rfl⟩⟩
        · have hh : (line s.xs k).any (holdG s.xs b) = false := by simpa using hh
          have qh : (!(line s.xs k).any (holdG s.xs b)) = true := by rw [hh]; rfl
          have e : revE s.xs k b = 12 := by unfold revE; rw [if_neg (by rw [hp]; decide), if_pos hh]
          rw [revokeS_e hk (by rw [e]; decide), e]
          (first | refine brTT (qh) ?_ | refine brTF (qh) ?_ | refine brFT (qh) ?_ | refine brFF (qh) ?_)
          (repeat (first | refine aC ?_ | refine aK ?_ | refine ⟨fun _ => ?_, fun h => absurd h (by decide)⟩ | refine ⟨fun h => absurd h (by decide), fun _ => ?_⟩))
          exact ⟨some, tupOf [oldA s.n s.m s.d, intA 0, intA 12], refH s gs, by exact wI, .inl ⟨rfl, rfl, rfl⟩⟩
    · have hp : isPer b = false := by simpa using hp
      have qp : (!isPer b) = true := by rw [hp]; rfl
      have e : revE s.xs k b = 2 := by unfold revE; rw [if_pos hp]
      rw [revokeS_e hk (by rw [e]; decide), e]
      (first | refine brTT (qp) ?_ | refine brTF (qp) ?_ | refine brFT (qp) ?_ | refine brFF (qp) ?_)
      (repeat (first | refine aC ?_ | refine aK ?_ | refine ⟨fun _ => ?_, fun h => absurd h (by decide)⟩ | refine ⟨fun h => absurd h (by decide), fun _ => ?_⟩))
      exact ⟨some, tupOf [oldA s.n s.m s.d, intA 0, intA 2], refH s gs, by exact wI, .inl ⟨rfl, rfl, rfl⟩⟩
  · have h0 : inB s no = false := by simpa using h0
    have q0 : (!inB s no) = true := by rw [h0]; rfl
    have e : revokeS s no b = (s, 0, 6) := by unfold revokeS; rw [if_pos h0]
    rw [e]
    (first | refine brTT (q0) ?_ | refine brTF (q0) ?_ | refine brFT (q0) ?_ | refine brFF (q0) ?_)
    (repeat (first | refine aC ?_ | refine aK ?_ | refine ⟨fun _ => ?_, fun h => absurd h (by decide)⟩ | refine ⟨fun h => absurd h (by decide), fun _ => ?_⟩))
    exact ⟨some, tupOf [oldA s.n s.m s.d, intA 0, intA 6], refH s gs, by exact wI, .inl ⟨rfl, rfl, rfl⟩⟩
theorem openS_e {s : St} {a f fb t tb e : Int} (h : openE s.d s.n s.xs s.m a f fb t tb = e) (h0 : e ≠ 0) : openS s a f fb t tb = (s, e) := by
  unfold openS
  rw [if_pos (by rw [h]; exact h0), h]
theorem openS_0 {s : St} {a f fb t tb : Int} (h : openE s.d s.n s.xs s.m a f fb t tb = 0) : openS s a f fb t tb = (⟨s.d, s.n, useG (useG s.xs (f - 1).toNat) (t - 1).toNat, s.m + 1, s.es ++ [s.d, a, f, t]⟩, 0) := by
  unfold openS
  rw [if_neg (by rw [h]; decide)]
end Go.Proofs.Ytlbgkfidpkbafaa
/- The specification's openings. -/
namespace Go.Proofs.Ytlbgkfidpkbafaa
open Go.RowKit
set_option linter.unusedSimpArgs false
set_option linter.unusedVariables false
theorem isVt_t {a : Int} (h : 0 ≤ a ∧ a ≤ 15) : isVt a = true := by
  unfold isVt
  rw [if_pos (decide_eq_true h.1)]
  exact decide_eq_true h.2
theorem isVt_f {a : Int} (h : ¬ (0 ≤ a ∧ a ≤ 15)) : isVt a = false := by
  by_cases h' : isVt a = true
  · exact absurd (isVt_bd h') h
  · simpa using h'
abbrev rslt (a f fb t tb : Int) : List (Nat × AV) := [(1, .int .i64 a), (2, .int .i64 f), (3, .int .i64 fb), (4, .int .i64 t), (5, .int .i64 tb), (6, .t (.a (.s (.ptr 2 0)))), (12, .t (.a (.s (.ptr 3 0))))]
set_option maxRecDepth 20000 in
set_option maxHeartbeats 8000000 in
theorem ropen_c (s : St) (gs : List Int) (hr : Rf s gs) (a f fb t tb : Int) : CallA Try.prog 45 [refA s.n s.m s.d, .int .i64 a, .int .i64 f, .int .i64 fb, .int .i64 t, .int .i64 tb] (refH s gs) (RPost2 s gs (openS s a f fb t tb)) := by
  refine call_of_vc TYok mixedO Try.func45 rfl rfl (Nat.le_of_ble_eq_true rfl) ?_
  have hf := hr.good.rng.wf.few
  have hg := hr.len
  have hm4 := hr.good.few
  have hel := hr.good.len
  (repeat (first | refine aC ?_ | refine aK ?_ | refine ⟨fun _ => ?_, fun h => absurd h (by decide)⟩ | refine ⟨fun h => absurd h (by decide), fun _ => ?_⟩))
  by_cases hv : 0 ≤ a ∧ a ≤ 15
  · have q1 : decide (a < 0) = false := decide_eq_false (by omega)
    have q2 : decide (a > 15) = false := decide_eq_false (by omega)
    have ev := isVt_t hv
    (first | refine brTT (q1) ?_ | refine brTF (q1) ?_ | refine brFT (q1) ?_ | refine brFF (q1) ?_)
    (repeat (first | refine aC ?_ | refine aK ?_ | refine ⟨fun _ => ?_, fun h => absurd h (by decide)⟩ | refine ⟨fun h => absurd h (by decide), fun _ => ?_⟩))
    (first | refine brTT (q2) ?_ | refine brTF (q2) ?_ | refine brFT (q2) ?_ | refine brFF (q2) ?_)
    (repeat (first | refine aC ?_ | refine aK ?_ | refine ⟨fun _ => ?_, fun h => absurd h (by decide)⟩ | refine ⟨fun h => absurd h (by decide), fun _ => ?_⟩))
    (refine call_lift (rkey_c s gs hr a f fb hv) (fun i => match i with | 0 => some 0 | 1 => some 1 | _ => none) rfl rfl hI rfl rfl rfl ?_; rintro v H1 ⟨rfl, rfl⟩; refine ⟨⟨rfl, rfl, rfl, rfl⟩, ?_⟩; (try simp only [two]); (try simp only [AV.ren]); (try simp only [renT]); (try simp only [AT.ren]); (try simp only [A.ren]); (try (rw [ptr_ren]; rotate_left; exact rfl)); (try (rw [slc_ren]; rotate_left; exact rfl)); (try simp only [S.ren]))
    (repeat (first | refine aC ?_ | refine aK ?_ | refine ⟨fun _ => ?_, fun h => absurd h (by decide)⟩ | refine ⟨fun h => absurd h (by decide), fun _ => ?_⟩))
    by_cases k1 : keyE s.d s.n s.xs a f fb = 0
    · have p1 : (keyE s.d s.n s.xs a f fb == 0) = true := beq_iff_eq.2 k1
      (first | refine brTT (p1) ?_ | refine brTF (p1) ?_ | refine brFT (p1) ?_ | refine brFF (p1) ?_)
      (repeat (first | refine aC ?_ | refine aK ?_ | refine ⟨fun _ => ?_, fun h => absurd h (by decide)⟩ | refine ⟨fun h => absurd h (by decide), fun _ => ?_⟩))
      (refine call_lift (rkey_c s gs hr a t tb hv) (fun i => match i with | 0 => some 0 | 1 => some 1 | _ => none) rfl rfl hI rfl rfl rfl ?_; rintro v H1 ⟨rfl, rfl⟩; refine ⟨⟨rfl, rfl, rfl, rfl⟩, ?_⟩; (try simp only [two]); (try simp only [AV.ren]); (try simp only [renT]); (try simp only [AT.ren]); (try simp only [A.ren]); (try (rw [ptr_ren]; rotate_left; exact rfl)); (try (rw [slc_ren]; rotate_left; exact rfl)); (try simp only [S.ren]))
      (repeat (first | refine aC ?_ | refine aK ?_ | refine ⟨fun _ => ?_, fun h => absurd h (by decide)⟩ | refine ⟨fun h => absurd h (by decide), fun _ => ?_⟩))
      by_cases k2 : keyE s.d s.n s.xs a t tb = 0
      · have p2 : (keyE s.d s.n s.xs a t tb != 0) = false := by rw [bne_eq_false_iff_eq]; exact k2
        obtain ⟨⟨f1, f2⟩, kf, zf⟩ := keyE_in k1
        obtain ⟨⟨t1, t2⟩, kt, zt⟩ := keyE_in k2
        simp only [keyC, Bool.and_eq_true, beq_iff_eq] at kf kt
        have hkf : (f - 1).toNat < s.n := by omega
        have hkt : (t - 1).toNat < s.n := by omega
        have g2 : ∀ k, k < s.n → gs.getD (0 + k * 9 + 2) 0 = fG s.xs k 2 := fun k hk => by rw [Nat.zero_add]; exact hr.same k 2 hk (by decide)
        have i1 : i64ok (f - 1) = true := i64_of (by omega)
        have i2 : i64ok (t - 1) = true := i64_of (by omega)
        have x1 : decide (0 ≤ f - 1 ∧ f - 1 < (s.n : Int)) = true := decide_eq_true (by omega)
        have x2 : decide (0 ≤ t - 1 ∧ t - 1 < (s.n : Int)) = true := decide_eq_true (by omega)
        (first | refine brTT (p2) ?_ | refine brTF (p2) ?_ | refine brFT (p2) ?_ | refine brFF (p2) ?_)
        (repeat (first | refine aC ?_ | refine ⟨fun _ => ?_, fun h => absurd h (by decide)⟩ | refine ⟨fun h => absurd h (by decide), fun _ => ?_⟩))
        refine Or.inr (cut_rule (rslt a f fb t tb) (refX s gs ++ [boxZ]) some (by exact wI) ?_)
        (refine drawn_rule TYok mixedO [] [(true, 0, []), (true, 1, []), (true, 2, []), (true, 3, []), (true, 4, []), (true, 5, []), (true, 6, []), (true, 7, []), (true, 8, []), (true, 9, []), (true, 10, []), (true, 11, []), (true, 12, []), (true, 13, []), (true, 14, []), (true, 15, []), (true, 16, []), (true, 17, []), (true, 18, []), (true, 19, [])] (by kernel_rfl) ?_)
        (repeat (first | refine aC ?_ | refine aK ?_ | refine ⟨fun _ => ?_, fun h => absurd h (by decide)⟩ | refine ⟨fun h => absurd h (by decide), fun _ => ?_⟩))
        by_cases e1 : (fb == tb) = true
        · have e : openE s.d s.n s.xs s.m a f fb t tb = 13 := by
            unfold openE
            rw [if_neg (by rw [ev]; decide), if_neg (by rw [k1]; decide), if_neg (by rw [k2]; decide), if_pos (by unfold bne; rw [e1]; rfl)]
          rw [openS_e e (by decide)]
          (first | refine brTT (e1) ?_ | refine brTF (e1) ?_ | refine brFT (e1) ?_ | refine brFF (e1) ?_)
          (repeat (first | refine aC ?_ | refine aK ?_ | refine ⟨fun _ => ?_, fun h => absurd h (by decide)⟩ | refine ⟨fun h => absurd h (by decide), fun _ => ?_⟩))
          exact ⟨some, tupOf [oldA s.n s.m s.d, intA 13], refH s gs, by exact wI, .inl ⟨rfl, rfl, rfl⟩⟩
        · have e1 : (fb == tb) = false := by simpa using e1
          (first | refine brTT (e1) ?_ | refine brTF (e1) ?_ | refine brFT (e1) ?_ | refine brFF (e1) ?_)
          (repeat (first | refine aC ?_ | refine aK ?_ | refine ⟨fun _ => ?_, fun h => absurd h (by decide)⟩ | refine ⟨fun h => absurd h (by decide), fun _ => ?_⟩))
          refine And.intro (fld_z (o := 2) (by decide) rfl hkf hg) ?_
          (repeat (first | refine aC ?_ | refine aK ?_ | refine ⟨fun _ => ?_, fun h => absurd h (by decide)⟩ | refine ⟨fun h => absurd h (by decide), fun _ => ?_⟩))
          refine And.intro (fld_z (o := 2) (by decide) rfl hkt hg) ?_
          (repeat (first | refine aC ?_ | refine aK ?_ | refine ⟨fun _ => ?_, fun h => absurd h (by decide)⟩ | refine ⟨fun h => absurd h (by decide), fun _ => ?_⟩))
          by_cases e2 : (fG s.xs (f - 1).toNat 2 == fG s.xs (t - 1).toNat 2) = true
          · have q3 : (gs.getD (0 + (f - 1).toNat * 9 + 2) 0 == gs.getD (0 + (t - 1).toNat * 9 + 2) 0) = true := by rw [g2 _ hkf, g2 _ hkt]; exact e2
            have e : openE s.d s.n s.xs s.m a f fb t tb = 13 := by
              unfold openE
              rw [if_neg (by rw [ev]; decide), if_neg (by rw [k1]; decide), if_neg (by rw [k2]; decide), if_pos (by unfold bne; rw [e2, Bool.not_true, Bool.and_false])]
            rw [openS_e e (by decide)]
            (first | refine brTT (q3) ?_ | refine brTF (q3) ?_ | refine brFT (q3) ?_ | refine brFF (q3) ?_)
            (repeat (first | refine aC ?_ | refine aK ?_ | refine ⟨fun _ => ?_, fun h => absurd h (by decide)⟩ | refine ⟨fun h => absurd h (by decide), fun _ => ?_⟩))
            exact ⟨some, tupOf [oldA s.n s.m s.d, intA 13], refH s gs, by exact wI, .inl ⟨rfl, rfl, rfl⟩⟩
          · have e2 : (fG s.xs (f - 1).toNat 2 == fG s.xs (t - 1).toNat 2) = false := by simpa using e2
            have q3 : (gs.getD (0 + (f - 1).toNat * 9 + 2) 0 == gs.getD (0 + (t - 1).toNat * 9 + 2) 0) = false := by rw [g2 _ hkf, g2 _ hkt]; exact e2
            have en : ((fb != tb) && (fG s.xs (f - 1).toNat 2 != fG s.xs (t - 1).toNat 2)) = true := by unfold bne; rw [e1, e2]; rfl
            (first | refine brTT (q3) ?_ | refine brTF (q3) ?_ | refine brFT (q3) ?_ | refine brFF (q3) ?_)
            (repeat (first | refine aC ?_ | refine aK ?_ | refine ⟨fun _ => ?_, fun h => absurd h (by decide)⟩ | refine ⟨fun h => absurd h (by decide), fun _ => ?_⟩))
            by_cases e3 : 4096 ≤ s.m
            · have q4 : decide ((s.m : Int) ≥ 4096) = true := decide_eq_true (by omega)
              have e : openE s.d s.n s.xs s.m a f fb t tb = 8 := by
                unfold openE
                rw [if_neg (by rw [ev]; decide), if_neg (by rw [k1]; decide), if_neg (by rw [k2]; decide), if_neg (by rw [en]; decide), if_pos e3]
              rw [openS_e e (by decide)]
              (first | refine brTT (q4) ?_ | refine brTF (q4) ?_ | refine brFT (q4) ?_ | refine brFF (q4) ?_)
              (repeat (first | refine aC ?_ | refine aK ?_ | refine ⟨fun _ => ?_, fun h => absurd h (by decide)⟩ | refine ⟨fun h => absurd h (by decide), fun _ => ?_⟩))
              exact ⟨some, tupOf [oldA s.n s.m s.d, intA 8], refH s gs, by exact wI, .inl ⟨rfl, rfl, rfl⟩⟩
            · have q4 : decide ((s.m : Int) ≥ 4096) = false := decide_eq_false (by omega)
              have e : openE s.d s.n s.xs s.m a f fb t tb = 0 := by
                unfold openE
                rw [if_neg (by rw [ev]; decide), if_neg (by rw [k1]; decide), if_neg (by rw [k2]; decide), if_neg (by rw [en]; decide), if_neg e3]
              have hgd := openS_good hr.good a f fb t tb
              rw [openS_0 e] at hgd ⊢
              have hR := hr.copy.opn f1 f2 t1 t2 kf.1.1.2 kt.1.1.2 (beq_eq_false_iff_ne.1 e2) zf zt hgd
              (first | refine brTT (q4) ?_ | refine brTF (q4) ?_ | refine brFT (q4) ?_ | refine brFF (q4) ?_)
              (repeat (first | refine aC ?_ | refine aK ?_ | refine ⟨fun _ => ?_, fun h => absurd h (by decide)⟩ | refine ⟨fun h => absurd h (by decide), fun _ => ?_⟩))
              (refine call_lift (rcopied_c s gs hr) (fun i => match i with | 0 => some 0 | 1 => some 1 | _ => none) rfl rfl hI rfl rfl rfl ?_; rintro v H1 ⟨rfl, rfl⟩; refine ⟨⟨rfl, rfl, rfl, rfl⟩, ?_⟩; (try simp only [two]); (try simp only [AV.ren]); (try simp only [renT]); (try simp only [AT.ren]); (try simp only [A.ren]); (try (rw [ptr_ren]; rotate_left; exact rfl)); (try (rw [slc_ren]; rotate_left; exact rfl)); (try simp only [S.ren]))
              (repeat (first | refine aC ?_ | refine aK ?_ | refine ⟨fun _ => ?_, fun h => absurd h (by decide)⟩ | refine ⟨fun h => absurd h (by decide), fun _ => ?_⟩))
              refine And.intro ?_ ?_
              · exact and_t (and_t (and_t (and_t rfl rfl) rfl) rfl) (apO_t rfl rfl rfl hel (by omega))
              (repeat (first | refine aC ?_ | refine aK ?_ | refine ⟨fun _ => ?_, fun h => absurd h (by decide)⟩ | refine ⟨fun h => absurd h (by decide), fun _ => ?_⟩))
              exact ⟨(fun i => match i with | 0 => some 0 | 1 => some 1 | 2 => some 4 | 3 => some 8 | _ => none), tupOf [newA s.n (s.m + 1) s.d, intA 0], refH s gs ++ [gsB (cpy gs s.n), entB true (s.es ++ [s.d, a, f, t])], by exact wI, .inr ⟨_, hR, rfl, rfl⟩⟩
      · have p2 : (keyE s.d s.n s.xs a t tb != 0) = true := bne_iff_ne.2 k2
        have e : openE s.d s.n s.xs s.m a f fb t tb = keyE s.d s.n s.xs a t tb := by
          unfold openE
          rw [if_neg (by rw [ev]; decide), if_neg (by rw [k1]; decide), if_pos k2]
        rw [openS_e e k2]
        (first | refine brTT (p2) ?_ | refine brTF (p2) ?_ | refine brFT (p2) ?_ | refine brFF (p2) ?_)
        (repeat (first | refine aC ?_ | refine aK ?_ | refine ⟨fun _ => ?_, fun h => absurd h (by decide)⟩ | refine ⟨fun h => absurd h (by decide), fun _ => ?_⟩))
        exact ⟨some, tupOf [oldA s.n s.m s.d, intA (keyE s.d s.n s.xs a t tb)], refH s gs, by exact wI, .inl ⟨rfl, rfl, rfl⟩⟩
    · have p1 : (keyE s.d s.n s.xs a f fb == 0) = false := beq_eq_false_iff_ne.2 k1
      have p2 : (keyE s.d s.n s.xs a f fb != 0) = true := bne_iff_ne.2 k1
      have e : openE s.d s.n s.xs s.m a f fb t tb = keyE s.d s.n s.xs a f fb := by
        unfold openE
        rw [if_neg (by rw [ev]; decide), if_pos k1]
      rw [openS_e e k1]
      (first | refine brTT (p1) ?_ | refine brTF (p1) ?_ | refine brFT (p1) ?_ | refine brFF (p1) ?_)
      (repeat (first | refine aC ?_ | refine aK ?_ | refine ⟨fun _ => ?_, fun h => absurd h (by decide)⟩ | refine ⟨fun h => absurd h (by decide), fun _ => ?_⟩))
      (first | refine brTT (p2) ?_ | refine brTF (p2) ?_ | refine brFT (p2) ?_ | refine brFF (p2) ?_)
      (repeat (first | refine aC ?_ | refine aK ?_ | refine ⟨fun _ => ?_, fun h => absurd h (by decide)⟩ | refine ⟨fun h => absurd h (by decide), fun _ => ?_⟩))
      exact ⟨some, tupOf [oldA s.n s.m s.d, intA (keyE s.d s.n s.xs a f fb)], refH s gs, by exact wI, .inl ⟨rfl, rfl, rfl⟩⟩
  · have e : openE s.d s.n s.xs s.m a f fb t tb = 2 := by
      unfold openE
      rw [if_pos (isVt_f hv)]
    rw [openS_e e (by decide)]
    by_cases q : a < 0
    · have q1 : decide (a < 0) = true := decide_eq_true q
      (first | refine brTT (q1) ?_ | refine brTF (q1) ?_ | refine brFT (q1) ?_ | refine brFF (q1) ?_)
      (repeat (first | refine aC ?_ | refine aK ?_ | refine ⟨fun _ => ?_, fun h => absurd h (by decide)⟩ | refine ⟨fun h => absurd h (by decide), fun _ => ?_⟩))
      exact ⟨some, tupOf [oldA s.n s.m s.d, intA 2], refH s gs, by exact wI, .inl ⟨rfl, rfl, rfl⟩⟩
    · have q1 : decide (a < 0) = false := decide_eq_false q
      have q2 : decide (a > 15) = true := decide_eq_true (by omega)
      (first | refine brTT (q1) ?_ | refine brTF (q1) ?_ | refine brFT (q1) ?_ | refine brFF (q1) ?_)
      (repeat (first | refine aC ?_ | refine aK ?_ | refine ⟨fun _ => ?_, fun h => absurd h (by decide)⟩ | refine ⟨fun h => absurd h (by decide), fun _ => ?_⟩))
      (first | refine brTT (q2) ?_ | refine brTF (q2) ?_ | refine brFT (q2) ?_ | refine brFF (q2) ?_)
      (repeat (first | refine aC ?_ | refine aK ?_ | refine ⟨fun _ => ?_, fun h => absurd h (by decide)⟩ | refine ⟨fun h => absurd h (by decide), fun _ => ?_⟩))
      exact ⟨some, tupOf [oldA s.n s.m s.d, intA 2], refH s gs, by exact wI, .inl ⟨rfl, rfl, rfl⟩⟩
end Go.Proofs.Ytlbgkfidpkbafaa
/- The specification's book, told; numbers and entries compared. -/
namespace Go.Proofs.Ytlbgkfidpkbafaa
open Go.RowKit
set_option linter.unusedSimpArgs false
set_option linter.unusedVariables false
set_option maxRecDepth 20000 in
theorem rget_c (s : St) (gs : List Int) (hr : Rf s gs) (k : Nat) (hk : k < s.n) : CallA Try.prog 46 [refA s.n s.m s.d, .int .i64 ((k : Int) + 1)] (refH s gs) (fun w H => w = tupOf [.agg (gCells s.xs k), intA 0] ∧ H = refH s gs) := by
  refine call_of_vc TYok mixedO Try.func46 rfl rfl (Nat.le_of_ble_eq_true rfl) ?_
  have hf := hr.good.rng.wf.few
  have hg := hr.len
  have q0 : (!inB s ((k : Int) + 1)) = false := by rw [inB_of hk]; rfl
  have a0 : i64ok ((k : Int) + 1 - 1) = true := i64_of (by omega)
  have a1 : decide (0 ≤ (k : Int) + 1 - 1 ∧ (k : Int) + 1 - 1 < (s.n : Int)) = true := decide_eq_true (by omega)
  (repeat (first | refine aC ?_ | refine aK ?_ | refine ⟨fun _ => ?_, fun h => absurd h (by decide)⟩ | refine ⟨fun h => absurd h (by decide), fun _ => ?_⟩))
  (refine call_lift (rhas_c s gs ((k : Int) + 1)) (fun i => match i with | 0 => some 0 | 1 => some 1 | _ => none) rfl rfl hI rfl rfl rfl ?_; rintro v H1 ⟨rfl, rfl⟩; refine ⟨⟨rfl, rfl, rfl, rfl⟩, ?_⟩; (try simp only [two]); (try simp only [AV.ren]); (try simp only [renT]); (try simp only [AT.ren]); (try simp only [A.ren]); (try (rw [ptr_ren]; rotate_left; exact rfl)); (try (rw [slc_ren]; rotate_left; exact rfl)); (try simp only [S.ren]))
  (repeat (first | refine aC ?_ | refine aK ?_ | refine ⟨fun _ => ?_, fun h => absurd h (by decide)⟩ | refine ⟨fun h => absurd h (by decide), fun _ => ?_⟩))
  (first | refine brTT (q0) ?_ | refine brTF (q0) ?_ | refine brFT (q0) ?_ | refine brFF (q0) ?_)
  (repeat (first | refine aC ?_ | refine aK ?_ | refine ⟨fun _ => ?_, fun h => absurd h (by decide)⟩ | refine ⟨fun h => absurd h (by decide), fun _ => ?_⟩))
  rw [succ_k]
  refine And.intro (rec_z hk hg rfl rfl) ?_
  (repeat (first | refine aC ?_ | refine aK ?_ | refine ⟨fun _ => ?_, fun h => absurd h (by decide)⟩ | refine ⟨fun h => absurd h (by decide), fun _ => ?_⟩))
  (refine call_lift (rleft_c s gs hr k hk ((k : Int) + 1) rfl) (fun i => match i with | 0 => some 0 | 1 => some 1 | _ => none) rfl rfl hI rfl rfl rfl ?_; rintro v H1 ⟨rfl, rfl⟩; refine ⟨⟨rfl, rfl, rfl, rfl⟩, ?_⟩; (try simp only [two]); (try simp only [AV.ren]); (try simp only [renT]); (try simp only [AT.ren]); (try simp only [A.ren]); (try (rw [ptr_ren]; rotate_left; exact rfl)); (try (rw [slc_ren]; rotate_left; exact rfl)); (try simp only [S.ren]))
  (repeat (first | refine aC ?_ | refine aK ?_ | refine ⟨fun _ => ?_, fun h => absurd h (by decide)⟩ | refine ⟨fun h => absurd h (by decide), fun _ => ?_⟩))
  have f : ∀ o, o < 7 → gs.getD (0 + k * 9 + o) 0 = fG s.xs k o := fun o ho => by rw [Nat.zero_add]; exact hr.same k o hk ho
  have f8 : (gs.getD (0 + k * 9 + 8) 0 != 0) = revG s.xs k := by rw [Nat.zero_add]; exact hr.rev k hk
  have eC : gCells s.xs k = [.s (.v (.int .i64 (gs.getD (0 + k * 9 + 0) 0))), .s (.v (.int .i64 (gs.getD (0 + k * 9 + 1) 0))), .s (.v (.int .i64 (gs.getD (0 + k * 9 + 2) 0))), .s (.v (.int .i64 (gs.getD (0 + k * 9 + 3) 0))), .s (.v (.int .i64 (gs.getD (0 + k * 9 + 4) 0))), .s (.v (.int .i64 (gs.getD (0 + k * 9 + 5) 0))), .s (.v (.int .i64 (gs.getD (0 + k * 9 + 6) 0))), .s (.v (.int .i64 (fG s.xs k 7))), .s (.v (.bool (gs.getD (0 + k * 9 + 8) 0 != 0)))] := by
    rw [f 0 (by decide), f 1 (by decide), f 2 (by decide), f 3 (by decide), f 4 (by decide), f 5 (by decide), f 6 (by decide), f8]
  rw [eC]
  exact ⟨some, tupOf [.agg _, intA 0], refH s gs, by exact wI, rfl, rfl⟩
set_option maxRecDepth 20000 in
theorem rget_none (s : St) (gs : List Int) (no : Int) (h : inB s no = false) : CallA Try.prog 46 [refA s.n s.m s.d, .int .i64 no] (refH s gs) (fun w H => w = tupOf [.agg noCells, intA 6] ∧ H = refH s gs) := by
  refine call_of_vc TYok mixedO Try.func46 rfl rfl (Nat.le_of_ble_eq_true rfl) ?_
  have q0 : (!inB s no) = true := by rw [h]; rfl
  (repeat (first | refine aC ?_ | refine aK ?_ | refine ⟨fun _ => ?_, fun h => absurd h (by decide)⟩ | refine ⟨fun h => absurd h (by decide), fun _ => ?_⟩))
  (refine call_lift (rhas_c s gs no) (fun i => match i with | 0 => some 0 | 1 => some 1 | _ => none) rfl rfl hI rfl rfl rfl ?_; rintro v H1 ⟨rfl, rfl⟩; refine ⟨⟨rfl, rfl, rfl, rfl⟩, ?_⟩; (try simp only [two]); (try simp only [AV.ren]); (try simp only [renT]); (try simp only [AT.ren]); (try simp only [A.ren]); (try (rw [ptr_ren]; rotate_left; exact rfl)); (try (rw [slc_ren]; rotate_left; exact rfl)); (try simp only [S.ren]))
  (repeat (first | refine aC ?_ | refine aK ?_ | refine ⟨fun _ => ?_, fun h => absurd h (by decide)⟩ | refine ⟨fun h => absurd h (by decide), fun _ => ?_⟩))
  (first | refine brTT (q0) ?_ | refine brTF (q0) ?_ | refine brFT (q0) ?_ | refine brFF (q0) ?_)
  (repeat (first | refine aC ?_ | refine aK ?_ | refine ⟨fun _ => ?_, fun h => absurd h (by decide)⟩ | refine ⟨fun h => absurd h (by decide), fun _ => ?_⟩))
  exact ⟨some, tupOf [.agg noCells, intA 6], refH s gs, by exact wI, rfl, rfl⟩
set_option maxRecDepth 20000 in
theorem rStands_c (s : St) (gs : List Int) (hr : Rf s gs) (k : Nat) (hk : k < s.n) : CallA Try.prog 47 [refA s.n s.m s.d, .int .i64 ((k : Int) + 1)] (refH s gs) (fun w H => w = tupOf [.a (.s (.v (.bool (standsB s.d s.xs k)))), intA 0] ∧ H = refH s gs) := by
  refine call_of_vc TYok mixedO Try.func47 rfl rfl (Nat.le_of_ble_eq_true rfl) ?_
  have q0 : (!inB s ((k : Int) + 1)) = false := by rw [inB_of hk]; rfl
  (repeat (first | refine aC ?_ | refine aK ?_ | refine ⟨fun _ => ?_, fun h => absurd h (by decide)⟩ | refine ⟨fun h => absurd h (by decide), fun _ => ?_⟩))
  (refine call_lift (rhas_c s gs ((k : Int) + 1)) (fun i => match i with | 0 => some 0 | 1 => some 1 | _ => none) rfl rfl hI rfl rfl rfl ?_; rintro v H1 ⟨rfl, rfl⟩; refine ⟨⟨rfl, rfl, rfl, rfl⟩, ?_⟩; (try simp only [two]); (try simp only [AV.ren]); (try simp only [renT]); (try simp only [AT.ren]); (try simp only [A.ren]); (try (rw [ptr_ren]; rotate_left; exact rfl)); (try (rw [slc_ren]; rotate_left; exact rfl)); (try simp only [S.ren]))
  (repeat (first | refine aC ?_ | refine aK ?_ | refine ⟨fun _ => ?_, fun h => absurd h (by decide)⟩ | refine ⟨fun h => absurd h (by decide), fun _ => ?_⟩))
  (first | refine brTT (q0) ?_ | refine brTF (q0) ?_ | refine brFT (q0) ?_ | refine brFF (q0) ?_)
  (repeat (first | refine aC ?_ | refine aK ?_ | refine ⟨fun _ => ?_, fun h => absurd h (by decide)⟩ | refine ⟨fun h => absurd h (by decide), fun _ => ?_⟩))
  (refine call_lift (rstands_c s gs hr k hk) (fun i => match i with | 0 => some 0 | 1 => some 1 | _ => none) rfl rfl hI rfl rfl rfl ?_; rintro v H1 ⟨rfl, rfl⟩; refine ⟨⟨rfl, rfl, rfl, rfl⟩, ?_⟩; (try simp only [two]); (try simp only [AV.ren]); (try simp only [renT]); (try simp only [AT.ren]); (try simp only [A.ren]); (try (rw [ptr_ren]; rotate_left; exact rfl)); (try (rw [slc_ren]; rotate_left; exact rfl)); (try simp only [S.ren]))
  (repeat (first | refine aC ?_ | refine aK ?_ | refine ⟨fun _ => ?_, fun h => absurd h (by decide)⟩ | refine ⟨fun h => absurd h (by decide), fun _ => ?_⟩))
  exact ⟨some, tupOf [.a (.s (.v (.bool (standsB s.d s.xs k)))), intA 0], refH s gs, by exact wI, rfl, rfl⟩
set_option maxRecDepth 20000 in
theorem rStands_none (s : St) (gs : List Int) (no : Int) (h : inB s no = false) : CallA Try.prog 47 [refA s.n s.m s.d, .int .i64 no] (refH s gs) (fun w H => w = tupOf [.a (.s (.v (.bool false))), intA 6] ∧ H = refH s gs) := by
  refine call_of_vc TYok mixedO Try.func47 rfl rfl (Nat.le_of_ble_eq_true rfl) ?_
  have q0 : (!inB s no) = true := by rw [h]; rfl
  (repeat (first | refine aC ?_ | refine aK ?_ | refine ⟨fun _ => ?_, fun h => absurd h (by decide)⟩ | refine ⟨fun h => absurd h (by decide), fun _ => ?_⟩))
  (refine call_lift (rhas_c s gs no) (fun i => match i with | 0 => some 0 | 1 => some 1 | _ => none) rfl rfl hI rfl rfl rfl ?_; rintro v H1 ⟨rfl, rfl⟩; refine ⟨⟨rfl, rfl, rfl, rfl⟩, ?_⟩; (try simp only [two]); (try simp only [AV.ren]); (try simp only [renT]); (try simp only [AT.ren]); (try simp only [A.ren]); (try (rw [ptr_ren]; rotate_left; exact rfl)); (try (rw [slc_ren]; rotate_left; exact rfl)); (try simp only [S.ren]))
  (repeat (first | refine aC ?_ | refine aK ?_ | refine ⟨fun _ => ?_, fun h => absurd h (by decide)⟩ | refine ⟨fun h => absurd h (by decide), fun _ => ?_⟩))
  (first | refine brTT (q0) ?_ | refine brTF (q0) ?_ | refine brFT (q0) ?_ | refine brFF (q0) ?_)
  (repeat (first | refine aC ?_ | refine aK ?_ | refine ⟨fun _ => ?_, fun h => absurd h (by decide)⟩ | refine ⟨fun h => absurd h (by decide), fun _ => ?_⟩))
  exact ⟨some, tupOf [.a (.s (.v (.bool false))), intA 6], refH s gs, by exact wI, rfl, rfl⟩
theorem rBelow_none_nil : True := trivial
theorem undB_eq {s : St} {c k : Nat} : (((c : Int) + 1 != (k : Int) + 1) && inG s.xs ((c : Int) + 1) k) = undB s.xs k c := by
  unfold undB inG
  rw [succ_k]
  have : ((c : Int) + 1 != (k : Int) + 1) = !(c == k) := by
    rw [Bool.eq_iff_iff, bne_iff_ne, Bool.not_eq_true', beq_eq_false_iff_ne]
    omega
  rw [this]
set_option maxRecDepth 20000 in
set_option maxHeartbeats 4000000 in
theorem rBelow_c (s : St) (gs : List Int) (hr : Rf s gs) (k : Nat) (hk : k < s.n) : CallA Try.prog 48 [refA s.n s.m s.d, .int .i64 ((k : Int) + 1)] (refH s gs) (fun w H => w = tupOf [.a (.s (.slc 2 0 (belowS s.xs k s.n).length)), intA 0] ∧ H = refH s gs ++ [⟨true, false, 3, 1, .rows (.int .i64) (belowS s.xs k s.n)⟩]) := by
  refine call_of_vc TYok mixedO Try.func48 rfl rfl (Nat.le_of_ble_eq_true rfl) ?_
  have hf := hr.good.rng.wf.few
  have q0 : (!inB s ((k : Int) + 1)) = false := by rw [inB_of hk]; rfl
  (repeat (first | refine aC ?_ | refine aK ?_ | refine ⟨fun _ => ?_, fun h => absurd h (by decide)⟩ | refine ⟨fun h => absurd h (by decide), fun _ => ?_⟩))
  (refine call_lift (rhas_c s gs ((k : Int) + 1)) (fun i => match i with | 0 => some 0 | 1 => some 1 | _ => none) rfl rfl hI rfl rfl rfl ?_; rintro v H1 ⟨rfl, rfl⟩; refine ⟨⟨rfl, rfl, rfl, rfl⟩, ?_⟩; (try simp only [two]); (try simp only [AV.ren]); (try simp only [renT]); (try simp only [AT.ren]); (try simp only [A.ren]); (try (rw [ptr_ren]; rotate_left; exact rfl)); (try (rw [slc_ren]; rotate_left; exact rfl)); (try simp only [S.ren]))
  (repeat (first | refine aC ?_ | refine aK ?_ | refine ⟨fun _ => ?_, fun h => absurd h (by decide)⟩ | refine ⟨fun h => absurd h (by decide), fun _ => ?_⟩))
  (first | refine brTT (q0) ?_ | refine brTF (q0) ?_ | refine brFT (q0) ?_ | refine brFF (q0) ?_)
  (repeat (first | refine aC ?_ | refine aK ?_ | refine ⟨fun _ => ?_, fun h => absurd h (by decide)⟩ | refine ⟨fun h => absurd h (by decide), fun _ => ?_⟩))
  refine loop_rule TYok mixedO (ι := Nat) (fun c => [(1, .int .i64 ((k : Int) + 1)), (2, .t (.a (.s (.ptr 2 0)))), (6, .t (.a (.s (.slc 3 0 (belowS s.xs k c).length)))), (7, .int .i64 ((c : Int) + 1))]) (fun c => refX s gs ++ [⟨true, false, 3, 1, .rows (.int .i64) (belowS s.xs k c)⟩]) (fun c => c ≤ s.n) (fun c => s.n - c) 0 (Nat.zero_le _) (fun i => match i with | 0 => some 0 | 1 => some 1 | 2 => some 2 | _ => none) (by exact wI) ?_
  rintro c hc
  have hbl := belowS_len s.xs k c
  (repeat (first | refine aC ?_ | refine aK ?_ | refine ⟨fun _ => ?_, fun h => absurd h (by decide)⟩ | refine ⟨fun h => absurd h (by decide), fun _ => ?_⟩))
  refine ⟨fun g => ?_, fun g => ?_⟩
  · have g := of_decide_eq_true g
    have hlt : c < s.n := by omega
    have hno : fG s.xs c 0 = (c : Int) + 1 := hr.good.no c hlt
    have hu := undB_eq (s := s) (c := c) (k := k)
    (repeat (first | refine aC ?_ | refine aK ?_ | refine ⟨fun _ => ?_, fun h => absurd h (by decide)⟩ | refine ⟨fun h => absurd h (by decide), fun _ => ?_⟩))
    by_cases g1 : ((c : Int) + 1 != (k : Int) + 1) = true
    · (first | refine brTT (g1) ?_ | refine brTF (g1) ?_ | refine brFT (g1) ?_ | refine brFF (g1) ?_)
      (repeat (first | refine aC ?_ | refine aK ?_ | refine ⟨fun _ => ?_, fun h => absurd h (by decide)⟩ | refine ⟨fun h => absurd h (by decide), fun _ => ?_⟩))
      (refine call_lift (runder_c s gs hr ((c : Int) + 1) k (by omega) (by omega)) (fun i => match i with | 0 => some 0 | 1 => some 1 | _ => none) rfl rfl hI rfl rfl rfl ?_; rintro v H1 ⟨rfl, rfl⟩; refine ⟨⟨rfl, rfl, rfl, rfl⟩, ?_⟩; (try simp only [two]); (try simp only [AV.ren]); (try simp only [renT]); (try simp only [AT.ren]); (try simp only [A.ren]); (try (rw [ptr_ren]; rotate_left; exact rfl)); (try (rw [slc_ren]; rotate_left; exact rfl)); (try simp only [S.ren]))
      (repeat (first | refine aC ?_ | refine aK ?_ | refine ⟨fun _ => ?_, fun h => absurd h (by decide)⟩ | refine ⟨fun h => absurd h (by decide), fun _ => ?_⟩))
      by_cases g2 : inG s.xs ((c : Int) + 1) k = true
      · rw [g1, g2] at hu
        have eb : belowS s.xs k (c + 1) = belowS s.xs k c ++ [(c : Int) + 1] := by simp only [belowS]; rw [← hu, hno]; rfl
        have el : (belowS s.xs k c ++ [(c : Int) + 1]).length = (belowS s.xs k c).length + 1 := by rw [List.length_append]; rfl
        (first | refine brTT (g2) ?_ | refine brTF (g2) ?_ | refine brFT (g2) ?_ | refine brFF (g2) ?_)
        (repeat (first | refine aC ?_ | refine aK ?_ | refine ⟨fun _ => ?_, fun h => absurd h (by decide)⟩ | refine ⟨fun h => absurd h (by decide), fun _ => ?_⟩))
        refine And.intro ?_ ?_
        · exact and_t (and_t (and_t (and_t rfl rfl) rfl) rfl) (apJ_t rfl rfl rfl rfl (by omega))
        (repeat (first | refine aC ?_ | refine aK ?_ | refine ⟨fun _ => ?_, fun h => absurd h (by decide)⟩ | refine ⟨fun h => absurd h (by decide), fun _ => ?_⟩))
        exact ⟨c + 1, hlt, by omega, (fun i => match i with | 0 => some 0 | 1 => some 1 | 2 => some 2 | 3 => some 5 | _ => none), by simp only [eb, el]; exact wI⟩
      · have g2 : inG s.xs ((c : Int) + 1) k = false := by simpa using g2
        rw [g1, g2] at hu
        have eb : belowS s.xs k (c + 1) = belowS s.xs k c := by simp only [belowS]; rw [← hu]; exact List.append_nil _
        (first | refine brTT (g2) ?_ | refine brTF (g2) ?_ | refine brFT (g2) ?_ | refine brFF (g2) ?_)
        (repeat (first | refine aC ?_ | refine aK ?_ | refine ⟨fun _ => ?_, fun h => absurd h (by decide)⟩ | refine ⟨fun h => absurd h (by decide), fun _ => ?_⟩))
        exact ⟨c + 1, hlt, by omega, some, by simp only [eb]; exact wI⟩
    · have g1 : ((c : Int) + 1 != (k : Int) + 1) = false := by simpa using g1
      rw [g1] at hu
      have eb : belowS s.xs k (c + 1) = belowS s.xs k c := by simp only [belowS]; rw [← hu]; exact List.append_nil _
      (first | refine brTT (g1) ?_ | refine brTF (g1) ?_ | refine brFT (g1) ?_ | refine brFF (g1) ?_)
      (repeat (first | refine aC ?_ | refine aK ?_ | refine ⟨fun _ => ?_, fun h => absurd h (by decide)⟩ | refine ⟨fun h => absurd h (by decide), fun _ => ?_⟩))
      exact ⟨c + 1, hlt, by omega, some, by simp only [eb]; exact wI⟩
  · have g := of_decide_eq_false g
    obtain rfl : c = s.n := by omega
    (repeat (first | refine aC ?_ | refine aK ?_ | refine ⟨fun _ => ?_, fun h => absurd h (by decide)⟩ | refine ⟨fun h => absurd h (by decide), fun _ => ?_⟩))
    exact ⟨(fun i => match i with | 0 => some 0 | 1 => some 1 | 2 => some 3 | _ => none), tupOf [.a (.s (.slc 2 0 (belowS s.xs k s.n).length)), intA 0], refH s gs ++ [⟨true, false, 3, 1, .rows (.int .i64) (belowS s.xs k s.n)⟩], by exact wI, rfl, rfl⟩
abbrev rowB (l : List Int) : Blk := ⟨false, false, 3, 1, .rows (.int .i64) l⟩
set_option maxRecDepth 20000 in
theorem same_c (l : List Int) (hl : l.length ≤ 100000) : CallA Try.prog 49 [.t (.a (.s (.slc 0 0 l.length))), .t (.a (.s (.slc 1 0 l.length)))] [rowB l, rowB l] (fun w H => w = .boo true ∧ H = [rowB l, rowB l]) := by
  refine call_of_vc TYok mixedO Try.func49 rfl rfl (Nat.le_of_ble_eq_true rfl) ?_
  have q : (((l.length : Nat) : Int) != ((l.length : Nat) : Int)) = false := by simp
  (repeat (first | refine aC ?_ | refine aK ?_ | refine ⟨fun _ => ?_, fun h => absurd h (by decide)⟩ | refine ⟨fun h => absurd h (by decide), fun _ => ?_⟩))
  (first | refine brTT (q) ?_ | refine brTF (q) ?_ | refine brFT (q) ?_ | refine brFF (q) ?_)
  (repeat (first | refine aC ?_ | refine aK ?_ | refine ⟨fun _ => ?_, fun h => absurd h (by decide)⟩ | refine ⟨fun h => absurd h (by decide), fun _ => ?_⟩))
  refine loop_rule TYok mixedO (ι := Nat) (fun j => [(0, .t (.a (.s (.slc 0 0 l.length)))), (1, .t (.a (.s (.slc 1 0 l.length)))), (5, .int .i64 (j : Int))]) (fun _ => [rowB l, rowB l]) (fun j => j ≤ l.length) (fun j => l.length - j) 0 (Nat.zero_le _) some (by exact wI) ?_
  rintro j hj
  (repeat (first | refine aC ?_ | refine aK ?_ | refine ⟨fun _ => ?_, fun h => absurd h (by decide)⟩ | refine ⟨fun h => absurd h (by decide), fun _ => ?_⟩))
  refine ⟨fun g => ?_, fun g => ?_⟩
  · have g := of_decide_eq_true g
    have hlt : j < l.length := by omega
    have e3 : 0 + ((j : Nat) : Int).toNat * ti3.size = j := by rw [siz3]; simp
    have q2 : (l.getD j 0 != l.getD j 0) = false := by simp
    (repeat (first | refine aC ?_ | refine ⟨fun _ => ?_, fun h => absurd h (by decide)⟩ | refine ⟨fun h => absurd h (by decide), fun _ => ?_⟩))
    refine Or.inr (cut_rule [(0, .t (.a (.s (.slc 0 0 l.length)))), (1, .t (.a (.s (.slc 1 0 l.length)))), (5, .int .i64 (j : Int))] [rowB l, rowB l] some (by exact wI) ?_)
    (refine drawn_rule TYok mixedO [] [(true, 0, []), (true, 1, []), (true, 2, []), (true, 3, []), (true, 4, []), (true, 5, []), (true, 6, []), (true, 7, []), (true, 8, [])] (by kernel_rfl) ?_)
    (repeat (first | refine aC ?_ | refine aK ?_ | refine ⟨fun _ => ?_, fun h => absurd h (by decide)⟩ | refine ⟨fun h => absurd h (by decide), fun _ => ?_⟩))
    (try rw [e3])
    (try (refine And.intro (decide_eq_true (show j < l.length from hlt)) ?_))
    (repeat (first | refine aC ?_ | refine aK ?_ | refine ⟨fun _ => ?_, fun h => absurd h (by decide)⟩ | refine ⟨fun h => absurd h (by decide), fun _ => ?_⟩))
    (try rw [e3])
    (try (refine And.intro (decide_eq_true (show j < l.length from hlt)) ?_))
    (repeat (first | refine aC ?_ | refine aK ?_ | refine ⟨fun _ => ?_, fun h => absurd h (by decide)⟩ | refine ⟨fun h => absurd h (by decide), fun _ => ?_⟩))
    (first | refine brTT (q2) ?_ | refine brTF (q2) ?_ | refine brFT (q2) ?_ | refine brFF (q2) ?_)
    (repeat (first | refine aC ?_ | refine aK ?_ | refine ⟨fun _ => ?_, fun h => absurd h (by decide)⟩ | refine ⟨fun h => absurd h (by decide), fun _ => ?_⟩))
    exact ⟨j + 1, hlt, by omega, some, by exact wI⟩
  · (repeat (first | refine aC ?_ | refine aK ?_ | refine ⟨fun _ => ?_, fun h => absurd h (by decide)⟩ | refine ⟨fun h => absurd h (by decide), fun _ => ?_⟩))
    exact ⟨some, .boo true, [rowB l, rowB l], by exact wI, rfl, rfl⟩
abbrev enB (l : List Int) : Blk := ⟨false, false, 67, 4, .rows (.int .i64) l⟩
set_option maxRecDepth 20000 in
theorem entries_c (m : Nat) (l : List Int) (hl : m * 4 = l.length) (hm : m ≤ 4096) : CallA Try.prog 40 [.t (.a (.s (.slc 0 0 m))), .t (.a (.s (.slc 1 0 m)))] [enB l, enB l] (fun w H => w = .boo true ∧ H = [enB l, enB l]) := by
  refine call_of_vc TYok mixedO Try.func40 rfl rfl (Nat.le_of_ble_eq_true rfl) ?_
  have q : (((m : Nat) : Int) != ((m : Nat) : Int)) = false := by simp
  (repeat (first | refine aC ?_ | refine aK ?_ | refine ⟨fun _ => ?_, fun h => absurd h (by decide)⟩ | refine ⟨fun h => absurd h (by decide), fun _ => ?_⟩))
  (first | refine brTT (q) ?_ | refine brTF (q) ?_ | refine brFT (q) ?_ | refine brFF (q) ?_)
  (repeat (first | refine aC ?_ | refine aK ?_ | refine ⟨fun _ => ?_, fun h => absurd h (by decide)⟩ | refine ⟨fun h => absurd h (by decide), fun _ => ?_⟩))
  refine loop_rule TYok mixedO (ι := Nat) (fun j => [(0, .t (.a (.s (.slc 0 0 m)))), (1, .t (.a (.s (.slc 1 0 m)))), (5, .int .i64 (j : Int))]) (fun _ => [enB l, enB l]) (fun j => j ≤ m) (fun j => m - j) 0 (Nat.zero_le _) some (by exact wI) ?_
  rintro j hj
  (repeat (first | refine aC ?_ | refine aK ?_ | refine ⟨fun _ => ?_, fun h => absurd h (by decide)⟩ | refine ⟨fun h => absurd h (by decide), fun _ => ?_⟩))
  refine ⟨fun g => ?_, fun g => ?_⟩
  · have g := of_decide_eq_true g
    have hlt : j < m := by omega
    have e4 : 0 + ((j : Nat) : Int).toNat * ti67.size = j * 4 := by rw [siz67]; simp
    have q2 : (!(l.getD (j * 4) 0 == l.getD (j * 4) 0 && (l.getD (j * 4 + 1) 0 == l.getD (j * 4 + 1) 0 && (l.getD (j * 4 + 1 + 1) 0 == l.getD (j * 4 + 1 + 1) 0 && (l.getD (j * 4 + 1 + 1 + 1) 0 == l.getD (j * 4 + 1 + 1 + 1) 0 && true))))) = false := by simp
    (repeat (first | refine aC ?_ | refine ⟨fun _ => ?_, fun h => absurd h (by decide)⟩ | refine ⟨fun h => absurd h (by decide), fun _ => ?_⟩))
    refine Or.inr (cut_rule [(0, .t (.a (.s (.slc 0 0 m)))), (1, .t (.a (.s (.slc 1 0 m)))), (5, .int .i64 (j : Int))] [enB l, enB l] some (by exact wI) ?_)
    (refine drawn_rule TYok mixedO [] [(true, 0, []), (true, 1, []), (true, 2, []), (true, 3, []), (true, 4, []), (true, 5, []), (true, 6, []), (true, 7, []), (true, 8, [])] (by kernel_rfl) ?_)
    (repeat (first | refine aC ?_ | refine aK ?_ | refine ⟨fun _ => ?_, fun h => absurd h (by decide)⟩ | refine ⟨fun h => absurd h (by decide), fun _ => ?_⟩))
    (try rw [e4])
    (try (refine And.intro (and_t (decide_eq_true (show j * 4 < l.length by omega)) (and_t (decide_eq_true (show j * 4 + 1 < l.length by omega)) (and_t (decide_eq_true (show j * 4 + 1 + 1 < l.length by omega)) (and_t (decide_eq_true (show j * 4 + 1 + 1 + 1 < l.length by omega)) rfl)))) ?_))
    (repeat (first | refine aC ?_ | refine aK ?_ | refine ⟨fun _ => ?_, fun h => absurd h (by decide)⟩ | refine ⟨fun h => absurd h (by decide), fun _ => ?_⟩))
    (try rw [e4])
    (try (refine And.intro (and_t (decide_eq_true (show j * 4 < l.length by omega)) (and_t (decide_eq_true (show j * 4 + 1 < l.length by omega)) (and_t (decide_eq_true (show j * 4 + 1 + 1 < l.length by omega)) (and_t (decide_eq_true (show j * 4 + 1 + 1 + 1 < l.length by omega)) rfl)))) ?_))
    (repeat (first | refine aC ?_ | refine aK ?_ | refine ⟨fun _ => ?_, fun h => absurd h (by decide)⟩ | refine ⟨fun h => absurd h (by decide), fun _ => ?_⟩))
    (first | refine brTT (q2) ?_ | refine brTF (q2) ?_ | refine brFT (q2) ?_ | refine brFF (q2) ?_)
    (repeat (first | refine aC ?_ | refine aK ?_ | refine ⟨fun _ => ?_, fun h => absurd h (by decide)⟩ | refine ⟨fun h => absurd h (by decide), fun _ => ?_⟩))
    exact ⟨j + 1, hlt, by omega, some, by exact wI⟩
  · (repeat (first | refine aC ?_ | refine aK ?_ | refine ⟨fun _ => ?_, fun h => absurd h (by decide)⟩ | refine ⟨fun h => absurd h (by decide), fun _ => ?_⟩))
    exact ⟨some, .boo true, [enB l, enB l], by exact wI, rfl, rfl⟩
end Go.Proofs.Ytlbgkfidpkbafaa
/- A book and the specification's show the same. -/
namespace Go.Proofs.Ytlbgkfidpkbafaa
open Go.RowKit
set_option linter.unusedSimpArgs false
set_option linter.unusedVariables false
/-- a book and the specification's -/
abbrev bkH (s : St) (gs : List Int) : AH := heap0 false s ++ [⟨false, false, 50, 9, .recs kG gs⟩, ⟨false, false, 67, 4, .rows (.int .i64) s.es⟩]
abbrev ref3 (n m : Nat) (d : Int) : AV := .t (.agg [.s (.slc 3 0 n), .s (.slc 4 0 m), .s (.v (.int .i64 d))])
set_option maxRecDepth 20000 in
set_option maxHeartbeats 8000000 in
theorem grantL_c (s : St) (gs : List Int) (hr : Rf s gs) (k : Nat) (hk : k < s.n) : CallA Try.prog 20 [.t (.a (.s (.ptr 0 0))), ref3 s.n s.m s.d, .int .i64 ((k : Int) + 1)] (bkH s gs) (fun w H => w = .boo true ∧ H = bkH s gs) := by
  refine call_of_vc TYok mixedO Try.func20 rfl rfl (Nat.le_of_ble_eq_true rfl) ?_
  have hw := hr.good.rng.wf
  have hf := hw.few
  have hbl := belowS_len s.xs k s.n
  have q1 : (fG s.xs k 0 == fG s.xs k 0 && (fG s.xs k 1 == fG s.xs k 1 && (fG s.xs k 2 == fG s.xs k 2 && (fG s.xs k 3 == fG s.xs k 3 && (fG s.xs k 4 == fG s.xs k 4 && (fG s.xs k 5 == fG s.xs k 5 && (fG s.xs k 6 == fG s.xs k 6 && (fG s.xs k 7 == fG s.xs k 7 && (revG s.xs k == revG s.xs k && true))))))))) = true := by simp
  have q2 : (standsB s.d s.xs k == standsB s.d s.xs k) = true := by simp
  (repeat (first | refine aC ?_ | refine aK ?_ | refine ⟨fun _ => ?_, fun h => absurd h (by decide)⟩ | refine ⟨fun h => absurd h (by decide), fun _ => ?_⟩))
  (refine call_lift (get_c s.d s.n s.xs s.m s.es hw k hk) (fun i => match i with | 0 => some 0 | 1 => some 1 | 2 => some 2 | _ => none) rfl rfl hI rfl rfl rfl ?_; rintro v H1 ⟨rfl, rfl⟩; refine ⟨⟨rfl, rfl, rfl, rfl⟩, ?_⟩; (try simp only [two]); (try simp only [AV.ren]); (try simp only [renT]); (try simp only [AT.ren]); (try simp only [A.ren]); (try (rw [ptr_ren]; rotate_left; exact rfl)); (try (rw [slc_ren]; rotate_left; exact rfl)); (try simp only [S.ren]))
  (repeat (first | refine aC ?_ | refine aK ?_ | refine ⟨fun _ => ?_, fun h => absurd h (by decide)⟩ | refine ⟨fun h => absurd h (by decide), fun _ => ?_⟩))
  (refine call_lift (rget_c s gs hr k hk) (fun i => match i with | 0 => some 3 | 1 => some 4 | _ => none) rfl rfl hI rfl rfl rfl ?_; rintro v H1 ⟨rfl, rfl⟩; refine ⟨⟨rfl, rfl, rfl, rfl⟩, ?_⟩; (try simp only [two]); (try simp only [AV.ren]); (try simp only [renT]); (try simp only [AT.ren]); (try simp only [A.ren]); (try (rw [ptr_ren]; rotate_left; exact rfl)); (try (rw [slc_ren]; rotate_left; exact rfl)); (try simp only [S.ren]))
  (repeat (first | refine aC ?_ | refine aK ?_ | refine ⟨fun _ => ?_, fun h => absurd h (by decide)⟩ | refine ⟨fun h => absurd h (by decide), fun _ => ?_⟩))
  (refine call_lift (Stands_c s.d s.n s.xs s.m s.es hw k hk) (fun i => match i with | 0 => some 0 | 1 => some 1 | 2 => some 2 | _ => none) rfl rfl hI rfl rfl rfl ?_; rintro v H1 ⟨rfl, rfl⟩; refine ⟨⟨rfl, rfl, rfl, rfl⟩, ?_⟩; (try simp only [two]); (try simp only [AV.ren]); (try simp only [renT]); (try simp only [AT.ren]); (try simp only [A.ren]); (try (rw [ptr_ren]; rotate_left; exact rfl)); (try (rw [slc_ren]; rotate_left; exact rfl)); (try simp only [S.ren]))
  (repeat (first | refine aC ?_ | refine aK ?_ | refine ⟨fun _ => ?_, fun h => absurd h (by decide)⟩ | refine ⟨fun h => absurd h (by decide), fun _ => ?_⟩))
  (refine call_lift (rStands_c s gs hr k hk) (fun i => match i with | 0 => some 3 | 1 => some 4 | _ => none) rfl rfl hI rfl rfl rfl ?_; rintro v H1 ⟨rfl, rfl⟩; refine ⟨⟨rfl, rfl, rfl, rfl⟩, ?_⟩; (try simp only [two]); (try simp only [AV.ren]); (try simp only [renT]); (try simp only [AT.ren]); (try simp only [A.ren]); (try (rw [ptr_ren]; rotate_left; exact rfl)); (try (rw [slc_ren]; rotate_left; exact rfl)); (try simp only [S.ren]))
  (repeat (first | refine aC ?_ | refine aK ?_ | refine ⟨fun _ => ?_, fun h => absurd h (by decide)⟩ | refine ⟨fun h => absurd h (by decide), fun _ => ?_⟩))
  (refine call_lift (below_c s.d s.n s.xs s.m s.es hw k hk ((k : Int) + 1) rfl) (fun i => match i with | 0 => some 0 | 1 => some 1 | 2 => some 2 | _ => none) rfl rfl hI rfl rfl rfl ?_; rintro v H1 ⟨rfl, rfl⟩; refine ⟨⟨rfl, rfl, rfl, rfl⟩, ?_⟩; (try simp only [two]); (try simp only [AV.ren]); (try simp only [renT]); (try simp only [AT.ren]); (try simp only [A.ren]); (try (rw [ptr_ren]; rotate_left; exact rfl)); (try (rw [slc_ren]; rotate_left; exact rfl)); (try simp only [S.ren]))
  (repeat (first | refine aC ?_ | refine aK ?_ | refine ⟨fun _ => ?_, fun h => absurd h (by decide)⟩ | refine ⟨fun h => absurd h (by decide), fun _ => ?_⟩))
  (refine call_lift (rBelow_c s gs hr k hk) (fun i => match i with | 0 => some 3 | 1 => some 4 | _ => none) rfl rfl hI rfl rfl rfl ?_; rintro v H1 ⟨rfl, rfl⟩; refine ⟨⟨rfl, rfl, rfl, rfl⟩, ?_⟩; (try simp only [two]); (try simp only [AV.ren]); (try simp only [renT]); (try simp only [AT.ren]); (try simp only [A.ren]); (try (rw [ptr_ren]; rotate_left; exact rfl)); (try (rw [slc_ren]; rotate_left; exact rfl)); (try simp only [S.ren]))
  (repeat (first | refine aC ?_ | refine aK ?_ | refine ⟨fun _ => ?_, fun h => absurd h (by decide)⟩ | refine ⟨fun h => absurd h (by decide), fun _ => ?_⟩))
  (first | refine brTT (q1) ?_ | refine brTF (q1) ?_ | refine brFT (q1) ?_ | refine brFF (q1) ?_)
  (repeat (first | refine aC ?_ | refine aK ?_ | refine ⟨fun _ => ?_, fun h => absurd h (by decide)⟩ | refine ⟨fun h => absurd h (by decide), fun _ => ?_⟩))
  (first | refine brTT (q2) ?_ | refine brTF (q2) ?_ | refine brFT (q2) ?_ | refine brFF (q2) ?_)
  (repeat (first | refine aC ?_ | refine aK ?_ | refine ⟨fun _ => ?_, fun h => absurd h (by decide)⟩ | refine ⟨fun h => absurd h (by decide), fun _ => ?_⟩))
  (refine call_lift (same_c (belowS s.xs k s.n) (by omega)) (fun i => match i with | 0 => some 8 | 1 => some 9 | _ => none) rfl rfl hI rfl rfl rfl ?_; rintro v H1 ⟨rfl, rfl⟩; refine ⟨⟨rfl, rfl, rfl, rfl⟩, ?_⟩; (try simp only [two]); (try simp only [AV.ren]); (try simp only [renT]); (try simp only [AT.ren]); (try simp only [A.ren]); (try (rw [ptr_ren]; rotate_left; exact rfl)); (try (rw [slc_ren]; rotate_left; exact rfl)); (try simp only [S.ren]))
  (repeat (first | refine aC ?_ | refine aK ?_ | refine ⟨fun _ => ?_, fun h => absurd h (by decide)⟩ | refine ⟨fun h => absurd h (by decide), fun _ => ?_⟩))
  exact ⟨some, .boo true, bkH s gs, by exact wI, rfl, rfl⟩
set_option maxRecDepth 20000 in
set_option maxHeartbeats 8000000 in
theorem shows_c (s : St) (gs : List Int) (hr : Rf s gs) : CallA Try.prog 17 [.t (.a (.s (.ptr 0 0))), ref3 s.n s.m s.d] (bkH s gs) (fun w H => w = .boo true ∧ H = bkH s gs) := by
  refine call_of_vc TYok mixedO Try.func17 rfl rfl (Nat.le_of_ble_eq_true rfl) ?_
  have hf := hr.good.rng.wf.few
  have hm4 := hr.good.few
  have hel := hr.good.len
  have q1 : (s.d != s.d) = false := by simp
  (repeat (first | refine aC ?_ | refine aK ?_ | refine ⟨fun _ => ?_, fun h => absurd h (by decide)⟩ | refine ⟨fun h => absurd h (by decide), fun _ => ?_⟩))
  (refine call_lift (Entries_c s.d s.n s.xs s.m s.es hel hm4) (fun i => match i with | 0 => some 0 | 1 => some 1 | 2 => some 2 | _ => none) rfl rfl hI rfl rfl rfl ?_; rintro v H1 ⟨rfl, rfl⟩; refine ⟨⟨rfl, rfl, rfl, rfl⟩, ?_⟩; (try simp only [two]); (try simp only [AV.ren]); (try simp only [renT]); (try simp only [AT.ren]); (try simp only [A.ren]); (try (rw [ptr_ren]; rotate_left; exact rfl)); (try (rw [slc_ren]; rotate_left; exact rfl)); (try simp only [S.ren]))
  (repeat (first | refine aC ?_ | refine ⟨fun _ => ?_, fun h => absurd h (by decide)⟩ | refine ⟨fun h => absurd h (by decide), fun _ => ?_⟩))
  refine Or.inr (cut_rule [(0, .t (.a (.s (.ptr 0 0)))), (3, .t (.a (.s (.ptr 5 0)))), (5, .t (.a (.s (.slc 6 0 s.m))))] (bkH s gs ++ [⟨true, true, 30, 1, .cells [.s (.slc 3 0 s.n), .s (.slc 4 0 s.m), .s (.v (.int .i64 s.d))]⟩, entB true s.es]) some (by exact wI) ?_)
  (refine drawn_rule TYok mixedO [] [(true, 0, []), (true, 2, []), (true, 3, []), (false, 1, []), (true, 4, []), (true, 5, []), (true, 6, []), (true, 7, []), (true, 8, []), (false, 9, []), (true, 10, []), (true, 11, [])] (by kernel_rfl) ?_)
  (repeat (first | refine aC ?_ | refine aK ?_ | refine ⟨fun _ => ?_, fun h => absurd h (by decide)⟩ | refine ⟨fun h => absurd h (by decide), fun _ => ?_⟩))
  (refine call_lift (Day_c s.d s.n s.xs s.m s.es) (fun i => match i with | 0 => some 0 | 1 => some 1 | 2 => some 2 | _ => none) rfl rfl hI rfl rfl rfl ?_; rintro v H1 ⟨rfl, rfl⟩; refine ⟨⟨rfl, rfl, rfl, rfl⟩, ?_⟩; (try simp only [two]); (try simp only [AV.ren]); (try simp only [renT]); (try simp only [AT.ren]); (try simp only [A.ren]); (try (rw [ptr_ren]; rotate_left; exact rfl)); (try (rw [slc_ren]; rotate_left; exact rfl)); (try simp only [S.ren]))
  refine And.intro ?_ ?_
  · refine bkP ?_
    rfl
  (repeat (first | refine aC ?_ | refine aK ?_ | refine ⟨fun _ => ?_, fun h => absurd h (by decide)⟩ | refine ⟨fun h => absurd h (by decide), fun _ => ?_⟩))
  (first | refine brTT (q1) ?_ | refine brTF (q1) ?_ | refine brFT (q1) ?_ | refine brFF (q1) ?_)
  (repeat (first | refine aC ?_ | refine aK ?_ | refine ⟨fun _ => ?_, fun h => absurd h (by decide)⟩ | refine ⟨fun h => absurd h (by decide), fun _ => ?_⟩))
  (refine call_lift (entries_c s.m s.es hel hm4) (fun i => match i with | 0 => some 6 | 1 => some 4 | _ => none) rfl rfl hI rfl rfl rfl ?_; rintro v H1 ⟨rfl, rfl⟩; refine ⟨⟨rfl, rfl, rfl, rfl⟩, ?_⟩; (try simp only [two]); (try simp only [AV.ren]); (try simp only [renT]); (try simp only [AT.ren]); (try simp only [A.ren]); (try (rw [ptr_ren]; rotate_left; exact rfl)); (try (rw [slc_ren]; rotate_left; exact rfl)); (try simp only [S.ren]))
  refine And.intro ?_ ?_
  · refine bkP ?_
    rfl
  (repeat (first | refine aC ?_ | refine aK ?_ | refine ⟨fun _ => ?_, fun h => absurd h (by decide)⟩ | refine ⟨fun h => absurd h (by decide), fun _ => ?_⟩))
  refine loop_rule TYok mixedO (ι := Nat × List Int) (fun q => [(0, .t (.a (.s (.ptr 0 0)))), (3, .t (.a (.s (.ptr 5 0)))), (5, .t (.a (.s (.slc 6 0 s.m)))), (6, .int .i64 (q.1 : Int))]) (fun q => bkH s gs ++ [⟨true, true, 30, 1, .cells [.s (.slc 3 0 s.n), .s (.slc 4 0 s.m), .s (.v (.int .i64 s.d))]⟩, entB true q.2]) (fun q => q.1 ≤ s.m ∧ q.2.length = s.m * 4) (fun q => s.m - q.1) (0, s.es) ⟨Nat.zero_le _, hel.symm⟩ some (by exact wI) ?_
  rintro ⟨j, E⟩ ⟨hj, hE⟩
  dsimp only at hj hE ⊢
  (repeat (first | refine aC ?_ | refine aK ?_ | refine ⟨fun _ => ?_, fun h => absurd h (by decide)⟩ | refine ⟨fun h => absurd h (by decide), fun _ => ?_⟩))
  refine ⟨fun g => ?_, fun g => ?_⟩
  · have g := of_decide_eq_true g
    have hlt : j < s.m := by omega
    have e4 : 0 + ((j : Nat) : Int).toNat * ti67.size = j * 4 := by rw [siz67]; simp
    (repeat (first | refine aC ?_ | refine aK ?_ | refine ⟨fun _ => ?_, fun h => absurd h (by decide)⟩ | refine ⟨fun h => absurd h (by decide), fun _ => ?_⟩))
    rw [e4]
    refine And.intro ?_ ?_
    · exact and_t (and_t (and_t (and_t (and_t (decide_eq_true (show j * 4 + 1 < E.length by omega)) rfl) rfl) rfl) rfl) (decide_eq_true siz3.symm)
    (repeat (first | refine aC ?_ | refine aK ?_ | refine ⟨fun _ => ?_, fun h => absurd h (by decide)⟩ | refine ⟨fun h => absurd h (by decide), fun _ => ?_⟩))
    exact ⟨(j + 1, E.set (j * 4 + 1) (-1)), ⟨hlt, by rw [List.length_set]; exact hE⟩, by show s.m - (j + 1) < s.m - j; omega, some, by exact wI⟩
  · (repeat (first | refine aC ?_ | refine aK ?_ | refine ⟨fun _ => ?_, fun h => absurd h (by decide)⟩ | refine ⟨fun h => absurd h (by decide), fun _ => ?_⟩))
    refine loop_rule TYok mixedO (ι := Nat) (fun c => [(0, .t (.a (.s (.ptr 0 0)))), (3, .t (.a (.s (.ptr 5 0)))), (7, .int .i64 ((c : Int) + 1))]) (fun _ => bkH s gs ++ [⟨true, true, 30, 1, .cells [.s (.slc 3 0 s.n), .s (.slc 4 0 s.m), .s (.v (.int .i64 s.d))]⟩]) (fun c => c ≤ s.n) (fun c => s.n - c) 0 (Nat.zero_le _) some (by exact wI) ?_
    rintro c hc
    (repeat (first | refine aC ?_ | refine aK ?_ | refine ⟨fun _ => ?_, fun h => absurd h (by decide)⟩ | refine ⟨fun h => absurd h (by decide), fun _ => ?_⟩))
    refine ⟨fun g => ?_, fun g => ?_⟩
    · have g := of_decide_eq_true g
      have hlt : c < s.n := by omega
      (repeat (first | refine aC ?_ | refine aK ?_ | refine ⟨fun _ => ?_, fun h => absurd h (by decide)⟩ | refine ⟨fun h => absurd h (by decide), fun _ => ?_⟩))
      (refine call_lift (grantL_c s gs hr c hlt) (fun i => match i with | 0 => some 0 | 1 => some 1 | 2 => some 2 | 3 => some 3 | 4 => some 4 | _ => none) rfl rfl hI rfl rfl rfl ?_; rintro v H1 ⟨rfl, rfl⟩; refine ⟨⟨rfl, rfl, rfl, rfl⟩, ?_⟩; (try simp only [two]); (try simp only [AV.ren]); (try simp only [renT]); (try simp only [AT.ren]); (try simp only [A.ren]); (try (rw [ptr_ren]; rotate_left; exact rfl)); (try (rw [slc_ren]; rotate_left; exact rfl)); (try simp only [S.ren]))
      (repeat (first | refine aC ?_ | refine aK ?_ | refine ⟨fun _ => ?_, fun h => absurd h (by decide)⟩ | refine ⟨fun h => absurd h (by decide), fun _ => ?_⟩))
      exact ⟨c + 1, hlt, by omega, some, by exact wI⟩
    · (repeat (first | refine aC ?_ | refine aK ?_ | refine ⟨fun _ => ?_, fun h => absurd h (by decide)⟩ | refine ⟨fun h => absurd h (by decide), fun _ => ?_⟩))
      exact ⟨some, .boo true, bkH s gs, by exact wI, rfl, rfl⟩
end Go.Proofs.Ytlbgkfidpkbafaa
