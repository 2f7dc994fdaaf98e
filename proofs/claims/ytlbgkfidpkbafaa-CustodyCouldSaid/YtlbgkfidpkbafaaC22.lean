/- A vault opened. -/
import Derived.Test.YtlbgkfidpkbafaaC21
namespace Go.Proofs.Ytlbgkfidpkbafaa
open Go.RowKit
set_option linter.unusedSimpArgs false
set_option linter.unusedVariables false
/-- what the numbers of grants may be -/
structure Rng (n : Nat) (xs : List Int) : Prop where
  wf : Wf n xs
  v : ∀ k, k < n → 0 ≤ fG xs k 4 ∧ fG xs k 4 ≤ 65535
  r : ∀ k, k < n → 0 ≤ fG xs k 5 ∧ fG xs k 5 ≤ 3
  u : ∀ k, k < n → -1 ≤ fG xs k 7 ∧ fG xs k 7 ≤ 1048576
def isVt (a : Int) : Bool := if decide (0 ≤ a) = true then decide (a ≤ 15) else false
theorem isVault_c (x : Int) : CallA Try.prog 80 [.int .i64 x] [] (fun v H => v = .boo (isVt x) ∧ H = []) := by
  refine call_of_vc TYok mixedO Try.func80 rfl rfl (Nat.le_of_ble_eq_true rfl) ?_
  (repeat (first | refine aC ?_ | refine aK ?_ | refine ⟨fun _ => ?_, fun h => absurd h (by decide)⟩ | refine ⟨fun h => absurd h (by decide), fun _ => ?_⟩))
  refine ⟨fun g => ?_, fun g => ?_⟩
  · (repeat (first | refine aC ?_ | refine aK ?_ | refine ⟨fun _ => ?_, fun h => absurd h (by decide)⟩ | refine ⟨fun h => absurd h (by decide), fun _ => ?_⟩))
    exact ⟨some, .boo _, [], by exact wI, congrArg AV.boo (by simp only [isVt, g]), rfl⟩
  · (repeat (first | refine aC ?_ | refine aK ?_ | refine ⟨fun _ => ?_, fun h => absurd h (by decide)⟩ | refine ⟨fun h => absurd h (by decide), fun _ => ?_⟩))
    exact ⟨some, .boo _, [], by exact wI, congrArg AV.boo (by simp only [isVt, g]; rfl), rfl⟩
def keyE (d : Int) (n : Nat) (xs : List Int) (a no by_ : Int) : Int :=
  if (decide (1 ≤ no) && decide (no ≤ (n : Int))) = false then 6 else if keyC d xs (no - 1).toNat a by_ = false then 12 else if spentB xs (no - 1).toNat = true then 8 else 0
theorem isVt_bd {a : Int} (h : isVt a = true) : 0 ≤ a ∧ a ≤ 15 := by
  unfold isVt at h
  split at h
  · rename_i h0
    exact ⟨of_decide_eq_true h0, of_decide_eq_true h⟩
  · cases h
theorem CallE.mono {P : Program} {g : FuncId} {args : List AV} {H : AH} {K K' : AV → AH → Prop} {KP KP' : Value → AH → Prop} (h : CallE P g args H K KP) (hk : ∀ v H', K v H' → K' v H') (hp : ∀ v H', KP v H' → KP' v H') : CallE P g args H K' KP' :=
  ⟨h.1, fun C ρ w ra hI hra => (h.2 C ρ w ra hI hra).mono fun _ _ h => h.imp (fun ⟨u, v, H', ρ', h1, h2, h3⟩ => ⟨u, v, H', ρ', h1, hk _ _ h2, h3⟩) (fun ⟨pv, H', ρ', h1, h2, h3⟩ => ⟨pv, H', ρ', h1, hp _ _ h2, h3⟩)⟩
theorem key_all (d : Int) (n : Nat) (xs : List Int) (m : Nat) (es : List Int) (hR : Rng n xs) (a no by_ : Int) (ha : isVt a = true) : CallE Try.prog 81 [.t (.a (.s (.ptr 0 0))), .int .i64 a, .int .i64 no, .int .i64 by_] (bookR false d n xs m es)
    (fun w H => keyE d n xs a no by_ = 0 ∧ w = .t (.a (.s (.ptr 1 ((no - 1).toNat * 9)))) ∧ H = bookR false d n xs m es) (fun pv H => keyE d n xs a no by_ ≠ 0 ∧ pv = .iface 110 (.int .i64 (keyE d n xs a no by_)) ∧ H = bookR false d n xs m es) := by
  by_cases hno : (decide (1 ≤ no) && decide (no ≤ (n : Int))) = false
  · have e : keyE d n xs a no by_ = 6 := by unfold keyE; rw [if_pos hno]
    rw [e]
    exact (key_none d n xs m es a no by_ hno).mono (fun _ _ h => h.elim) (fun _ _ ⟨h1, h2⟩ => ⟨by decide, h1, h2⟩)
  · have hno' : (decide (1 ≤ no) && decide (no ≤ (n : Int))) = true := by simpa using hno
    rw [Bool.and_eq_true, decide_eq_true_eq, decide_eq_true_eq] at hno'
    obtain ⟨h1, h2⟩ := hno'
    obtain ⟨k, rfl⟩ : ∃ k : Nat, no = (k : Int) + 1 := ⟨(no - 1).toNat, by omega⟩
    have hk : k < n := by omega
    obtain ⟨a0, a1⟩ := isVt_bd ha
    obtain ⟨v0, v1⟩ := hR.v k hk
    obtain ⟨r0, r1⟩ := hR.r k hk
    have e : keyE d n xs a ((k : Int) + 1) by_ = if keyC d xs k a by_ = false then 12 else if spentB xs k = true then 8 else 0 := by
      unfold keyE
      rw [if_neg hno, succ_k]
    rw [succ_k]
    refine (key_c d n xs m es hR.wf k hk v0 v1 (natOk_i64.2 ⟨r0, by omega⟩) a by_ a0 a1).mono ?_ ?_
    · rintro w H ⟨⟨g1, g2⟩, rfl, rfl⟩
      refine ⟨?_, rfl, rfl⟩
      rw [e, g1, g2]
      rfl
    · rintro pv H ⟨h, rfl⟩
      rcases h with ⟨g1, rfl⟩ | ⟨g1, g2, rfl⟩
      · rw [e, g1, if_pos rfl]
        exact ⟨by decide, rfl, rfl⟩
      · rw [e, g1, g2, if_neg (by decide), if_pos rfl]
        exact ⟨by decide, rfl, rfl⟩
def useG (xs : List Int) (k : Nat) : List Int := useL (line xs k) xs
theorem useG_rng {n : Nat} {xs : List Int} (hR : Rng n xs) {k : Nat} (hk : k < n) : Rng n (useG xs k) := by
  have hl := line_lt hR.wf hk
  have hx := hR.wf.len
  refine ⟨use_wf hR.wf hl, fun i hi => ?_, fun i hi => ?_, ?_⟩
  · rw [show fG (useG xs k) i 4 = fG xs i 4 from useL_get hx hl (by decide) (by decide)]
    exact hR.v i hi
  · rw [show fG (useG xs k) i 5 = fG xs i 5 from useL_get hx hl (by decide) (by decide)]
    exact hR.r i hi
  · have key : ∀ (l : List Nat) (ys : List Int), n * 9 = ys.length → (∀ q ∈ l, q < n) → (∀ i, i < n → -1 ≤ fG ys i 7 ∧ fG ys i 7 ≤ 1048576) → ∀ i, i < n → -1 ≤ fG (useL l ys) i 7 ∧ fG (useL l ys) i 7 ≤ 1048576 := by
      intro l
      induction l with
      | nil => exact fun ys _ _ h => h
      | cons q l ih =>
        intro ys hy hq hb
        exact ih (use1 ys q) (by rw [use1_len]; exact hy) (fun p hp => hq p (List.mem_cons_of_mem _ hp)) (use1_bd hy (hq q List.mem_cons_self) hb)
    exact key _ _ hx hl hR.u
end Go.Proofs.Ytlbgkfidpkbafaa
