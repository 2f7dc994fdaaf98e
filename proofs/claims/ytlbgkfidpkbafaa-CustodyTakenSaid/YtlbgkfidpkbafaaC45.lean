/- What falls with a grant that is taken back. -/
import Derived.Test.YtlbgkfidpkbafaaC44
namespace Go.Proofs.Ytlbgkfidpkbafaa
open Go.RowKit
set_option linter.unusedSimpArgs false
set_option linter.unusedVariables false
/-- what a revocation takes: the grant and all beneath it -/
theorem rev_any {n : Nat} {xs : List Int} (hw : Wf n xs) {k : Nat} (hk : k < n) : ∀ {l : List Nat}, (∀ i ∈ l, i < n) → l.any (revG (revX xs k)) = (l.any (revG xs) || decide (k ∈ l))
  | [], _ => rfl
  | i :: l, hl => by
    have hg : revG (revX xs k) i = (revG xs i || decide (i = k)) := by
      have := revX_get hw.len hk (i := i) (o := 8) (by decide)
      show ((revX xs k).getD (i * 9 + 8) 0 != 0) = ((xs.getD (i * 9 + 8) 0 != 0) || decide (i = k))
      rw [show (revX xs k).getD (i * 9 + 8) 0 = _ from this]
      by_cases h : i = k
      · rw [if_pos ⟨h, rfl⟩, decide_eq_true h, Bool.or_true]
        rfl
      · rw [if_neg (fun e => h e.1), decide_eq_false h, Bool.or_false]
    rw [List.any_cons, List.any_cons, rev_any hw hk (fun j hj => hl j (List.mem_cons_of_mem _ hj)), hg]
    have hm : decide (k ∈ i :: l) = (decide (i = k) || decide (k ∈ l)) := by
      rw [Bool.eq_iff_iff, Bool.or_eq_true, decide_eq_true_eq, decide_eq_true_eq, decide_eq_true_eq, List.mem_cons]
      exact ⟨fun h => h.imp (fun e => e.symm) id, fun h => h.imp (fun e => e.symm) id⟩
    rw [hm]
    cases revG xs i <;> cases decide (i = k) <;> cases l.any (revG xs) <;> rfl
theorem rev_line {n : Nat} {xs : List Int} (hR : Rng n xs) {k : Nat} (hk : k < n) {i : Nat} (hi : i < n) : line (revX xs k) i = line xs i :=
  line_congr hR.wf (revX_rng hR hk).wf (fun q _ => by rw [revX_get hR.wf.len hk (by decide), if_neg (fun e => by omega)]) hi
theorem rev_stands {n : Nat} {xs : List Int} (hR : Rng n xs) {k : Nat} (hk : k < n) (d : Int) {i : Nat} (hi : i < n) : standsB d (revX xs k) i = (standsB d xs i && !decide (k ∈ line xs i)) := by
  unfold standsB
  rw [rev_line hR hk hi, rev_any hR.wf hk (line_lt hR.wf hi), revX_get hR.wf.len hk (by decide), if_neg (fun e => by omega)]
  cases decide (d ≤ fG xs i 6) <;> cases (line xs i).any (revG xs) <;> cases decide (k ∈ line xs i) <;> rfl
def goneN (d : Int) (xs : List Int) (k : Nat) : Nat → Nat
  | 0 => 0
  | c + 1 => goneN d xs k c + (if (standsB d xs c && decide (k ∈ line xs c)) = true then 1 else 0)
theorem goneN_eq {n : Nat} {xs : List Int} (hR : Rng n xs) {k : Nat} (hk : k < n) (d : Int) : ∀ {c : Nat}, c ≤ n → standN d xs c = standN d (revX xs k) c + goneN d xs k c
  | 0, _ => rfl
  | c + 1, hc => by
    simp only [standN, goneN]
    rw [goneN_eq hR hk d (Nat.le_of_succ_le hc), rev_stands hR hk d hc]
    cases standsB d xs c <;> cases decide (k ∈ line xs c) <;> simp <;> omega
theorem goneN_le (d : Int) (xs : List Int) (k : Nat) : ∀ c, goneN d xs k c ≤ c
  | 0 => Nat.le_refl _
  | c + 1 => by
    have := goneN_le d xs k c
    simp only [goneN]
    split <;> omega
/-- acts behind a book -/
def runF (s : St) (ys : List Int) : Nat → St
  | 0 => s
  | j + 1 => (actS (runF s ys j) (acAt ys j)).1
theorem runF_good {s : St} (hs : Good s) (ys : List Int) : ∀ j, Good (runF s ys j)
  | 0 => hs
  | j + 1 => actS_good (runF_good hs ys j) _
/-- what is gone stays gone -/
structure GoneI (s0 : St) (k : Nat) (s : St) : Prop where
  lt : k < s0.n
  n : s0.n ≤ s.n
  m : s0.m ≤ s.m
  line : ∀ i, i < s0.n → line s.xs i = line s0.xs i
  rev : revG s.xs k = true
  a : ∀ e, s0.m ≤ e → e < s.m → 1 ≤ s.es.getD (e * 4 + 2) 0 ∧ (s.es.getD (e * 4 + 2) 0 ≤ (s0.n : Int) → k ∉ Go.Proofs.Ytlbgkfidpkbafaa.line s0.xs (s.es.getD (e * 4 + 2) 0 - 1).toNat)
  b : ∀ e, s0.m ≤ e → e < s.m → 1 ≤ s.es.getD (e * 4 + 3) 0 ∧ (s.es.getD (e * 4 + 3) 0 ≤ (s0.n : Int) → k ∉ Go.Proofs.Ytlbgkfidpkbafaa.line s0.xs (s.es.getD (e * 4 + 3) 0 - 1).toNat)
theorem stands_out {d : Int} {xs : List Int} {i k : Nat} (hr : revG xs k = true) (h : standsB d xs i = true) : k ∉ Go.Proofs.Ytlbgkfidpkbafaa.line xs i := fun hm => by
  unfold standsB at h
  simp only [Bool.and_eq_true, decide_eq_true_eq, Bool.not_eq_true'] at h
  have := List.any_eq_false.1 h.2 k hm
  exact this hr
theorem gone_turned {s0 s s' : St} {k : Nat} (hs : Good s) (hs' : Good s') (h : Turned s s') (hi : GoneI s0 k s) : GoneI s0 k s' := by
  have hl := turned_line hs hs' h
  have hkn : k < s.n := Nat.lt_of_lt_of_le hi.lt hi.n
  have hln : ∀ i, i < s0.n → line s'.xs i = line s0.xs i := fun i h => by rw [hl.2 i (Nat.lt_of_lt_of_le h hi.n), hi.line i h]
  have hn : s0.n ≤ s'.n := Nat.le_trans hi.n hl.1
  cases h with
  | same => exact hi
  | more ab ro h v r u us hnn hv =>
    refine ⟨hi.lt, hn, hi.m, hln, ?_, hi.a, hi.b⟩
    show ((s.xs ++ _).getD (k * 9 + 8) 0 != 0) = true
    rw [show (s.xs ++ _).getD (k * 9 + 8) 0 = fG s.xs k 8 from app_old hs.rng.wf.len _ hkn (by decide)]
    exact hi.rev
  | rev q hq =>
    refine ⟨hi.lt, hn, hi.m, hln, ?_, hi.a, hi.b⟩
    show ((revX s.xs q).getD (k * 9 + 8) 0 != 0) = true
    rw [show (revX s.xs q).getD (k * 9 + 8) 0 = _ from revX_get hs.rng.wf.len hq (i := k) (o := 8) (by decide)]
    split
    · rfl
    · exact hi.rev
  | day d hd => exact ⟨hi.lt, hn, hi.m, hln, hi.rev, hi.a, hi.b⟩
  | opn a f t f1 f2 t1 t2 sf st hr zf zt =>
    have hkf : (f - 1).toNat < s.n := by omega
    have hkt : (t - 1).toNat < s.n := by omega
    have hRf := useG_rng hs.rng hkf
    have of := stands_out hi.rev sf
    have ot := stands_out hi.rev st
    refine ⟨hi.lt, hn, Nat.le_succ_of_le hi.m, hln, ?_, fun e h1 h2 => ?_, fun e h1 h2 => ?_⟩
    · show ((useG (useG s.xs (f - 1).toNat) (t - 1).toNat).getD (k * 9 + 8) 0 != 0) = true
      rw [show (useG (useG s.xs (f - 1).toNat) (t - 1).toNat).getD (k * 9 + 8) 0 = _ from useG_keep hRf.wf hkt k (o := 8) (by decide) (by decide), useG_keep hs.rng.wf hkf k (by decide) (by decide)]
      exact hi.rev
    · show 1 ≤ (s.es ++ [s.d, a, f, t]).getD (e * 4 + 2) 0 ∧ ((s.es ++ [s.d, a, f, t]).getD (e * 4 + 2) 0 ≤ (s0.n : Int) → k ∉ Go.Proofs.Ytlbgkfidpkbafaa.line s0.xs ((s.es ++ [s.d, a, f, t]).getD (e * 4 + 2) 0 - 1).toNat)
      rcases Nat.lt_succ_iff_lt_or_eq.1 (show e < s.m + 1 from h2) with h | rfl
      · rw [es_old hs.len _ h (by decide)]
        exact hi.a e h1 h
      · rw [es_new hs.len]
        refine ⟨f1, fun h => ?_⟩
        have h : f ≤ (s0.n : Int) := h
        show k ∉ Go.Proofs.Ytlbgkfidpkbafaa.line s0.xs (f - 1).toNat
        rw [← hi.line (f - 1).toNat (by omega)]
        exact of
    · show 1 ≤ (s.es ++ [s.d, a, f, t]).getD (e * 4 + 3) 0 ∧ ((s.es ++ [s.d, a, f, t]).getD (e * 4 + 3) 0 ≤ (s0.n : Int) → k ∉ Go.Proofs.Ytlbgkfidpkbafaa.line s0.xs ((s.es ++ [s.d, a, f, t]).getD (e * 4 + 3) 0 - 1).toNat)
      rcases Nat.lt_succ_iff_lt_or_eq.1 (show e < s.m + 1 from h2) with h | rfl
      · rw [es_old hs.len _ h (by decide)]
        exact hi.b e h1 h
      · rw [es_new hs.len]
        refine ⟨t1, fun h => ?_⟩
        have h : t ≤ (s0.n : Int) := h
        show k ∉ Go.Proofs.Ytlbgkfidpkbafaa.line s0.xs (t - 1).toNat
        rw [← hi.line (t - 1).toNat (by omega)]
        exact ot
theorem runF_gone {s0 : St} {k : Nat} (hs : Good s0) (hk : k < s0.n) (hr : revG s0.xs k = true) (ys : List Int) : ∀ j, GoneI s0 k (runF s0 ys j)
  | 0 => ⟨hk, Nat.le_refl _, Nat.le_refl _, fun _ _ => rfl, hr, fun e h1 h2 => absurd h2 (Nat.not_lt.2 h1), fun e h1 h2 => absurd h2 (Nat.not_lt.2 h1)⟩
  | j + 1 => gone_turned (runF_good hs ys j) (runF_good hs ys (j + 1)) (act_turned _ _) (runF_gone hs hk hr ys j)
end Go.Proofs.Ytlbgkfidpkbafaa
