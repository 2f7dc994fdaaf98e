/- The keys of a group; whether two can meet. -/
import Derived.Test.YtlbgkfidpkbafaaC32
namespace Go.Proofs.Ytlbgkfidpkbafaa
open Go.RowKit
set_option linter.unusedSimpArgs false
set_option linter.unusedVariables false
def keyOk (s : St) (P : Int) (k : Nat) : Bool := hasV P (fG s.xs k 3) && standsB s.d s.xs k && hasOpen (fG s.xs k 5) && !spentB s.xs k
def keysF (s : St) (P : Int) : Nat → List Nat
  | 0 => []
  | c + 1 => if keyOk s P c = true then keysF s P c ++ [c] else keysF s P c
theorem keysF_len (s : St) (P : Int) : ∀ c, (keysF s P c).length ≤ c
  | 0 => Nat.le_refl _
  | c + 1 => by
    have := keysF_len s P c
    simp only [keysF]
    split
    · simp
      exact this
    · omega
theorem keysF_mem (s : St) (P : Int) : ∀ {c i : Nat}, i ∈ keysF s P c ↔ i < c ∧ keyOk s P i = true
  | 0, i => by simp [keysF]
  | c + 1, i => by
    have ih := keysF_mem s P (c := c) (i := i)
    simp only [keysF]
    split
    · rename_i h
      rw [List.mem_append, ih, List.mem_singleton]
      constructor
      · rintro (⟨h1, h2⟩ | rfl)
        · exact ⟨by omega, h2⟩
        · exact ⟨by omega, h⟩
      · rintro ⟨h1, h2⟩
        by_cases e : i = c
        · exact .inr e
        · exact .inl ⟨by omega, h2⟩
    · rename_i h
      rw [ih]
      constructor
      · rintro ⟨h1, h2⟩
        exact ⟨by omega, h2⟩
      · rintro ⟨h1, h2⟩
        refine ⟨?_, h2⟩
        by_cases e : i = c
        · subst e
          exact absurd h2 h
        · omega
/-- where the search for keys stands -/
structure KeysAt (s : St) (P : Int) (q : Nat × List Nat × Nat) : Prop where
  le : q.1 ≤ s.n
  os : q.2.1 = (keysF s P q.1).map (· * 9)
  L : q.2.2 = (keysF s P q.1).length
set_option maxRecDepth 20000 in
set_option maxHeartbeats 4000000 in
theorem keys_c (s : St) (hs : Good s) (P : Int) (h0 : 0 ≤ P) (h1 : P ≤ 65535) : CallA Try.prog 54 [.t (.a (.s (.ptr 0 0))), .int .i64 P] (heap0 false s) (fun w H => w = .t (.a (.s (.slc 3 0 (keysF s P s.n).length))) ∧ H = heap0 false s ++ [⟨true, false, 89, 1, .ptrs 1 ((keysF s P s.n).map (· * 9))⟩]) := by
  refine call_of_vc TYok mixedO Try.func54 rfl rfl (Nat.le_of_ble_eq_true rfl) ?_
  have hf := hs.rng.wf.few
  have hx := hs.rng.wf.len
  (repeat (first | refine aC ?_ | refine aK ?_ | refine ⟨fun _ => ?_, fun h => absurd h (by decide)⟩ | refine ⟨fun h => absurd h (by decide), fun _ => ?_⟩))
  refine loop_rule TYok mixedO (ι := Nat × List Nat × Nat) (fun q => [(0, .t (.a (.s (.ptr 0 0)))), (1, .int .i64 P), (5, .t (.a (.s (.slc 3 0 q.2.2)))), (12, .int .i64 (s.n : Int)), (13, .int .i64 (q.1 : Int))]) (fun q => heap0 false s ++ [⟨true, false, 89, 1, .ptrs 1 q.2.1⟩]) (KeysAt s P) (fun q => s.n - q.1) (0, [], 0) ⟨Nat.zero_le _, rfl, rfl⟩ (fun i => match i with | 0 => some 0 | 1 => some 1 | 2 => some 2 | _ => none) (by exact wI) ?_
  rintro ⟨i, os, L⟩ ⟨hi, ho, hL⟩
  dsimp only at hi ho hL ⊢
  have hlen := keysF_len s P i
  have hol : os.length = L := by rw [ho, hL]; simp
  (repeat (first | refine aC ?_ | refine aK ?_ | refine ⟨fun _ => ?_, fun h => absurd h (by decide)⟩ | refine ⟨fun h => absurd h (by decide), fun _ => ?_⟩))
  refine ⟨fun g => ?_, fun g => ?_⟩
  · have g := of_decide_eq_true g
    have hlt : i < s.n := by omega
    obtain ⟨b0, b1⟩ := hs.h i hlt
    obtain ⟨r0, r1⟩ := hs.rng.r i hlt
    (repeat (first | refine aC ?_ | refine aK ?_ | refine ⟨fun _ => ?_, fun h => absurd h (by decide)⟩ | refine ⟨fun h => absurd h (by decide), fun _ => ?_⟩))
    have e1 : 0 + ((i : Nat) : Int).toNat * ti50.size = i * 9 := by
      rw [siz50]
      simp
    rw [e1]
    (repeat (first | refine aC ?_ | refine aK ?_ | refine ⟨fun _ => ?_, fun h => absurd h (by decide)⟩ | refine ⟨fun h => absurd h (by decide), fun _ => ?_⟩))
    refine And.intro (fld_t (o := 3) (by decide) rfl hlt hx) ?_
    (repeat (first | refine aC ?_ | refine aK ?_ | refine ⟨fun _ => ?_, fun h => absurd h (by decide)⟩ | refine ⟨fun h => absurd h (by decide), fun _ => ?_⟩))
    refine And.intro (decide_eq_true (p := 0 ≤ fG s.xs i 3 ∧ fG s.xs i 3 < (64 : Nat)) (by omega)) ?_
    (repeat (first | refine aC ?_ | refine aK ?_ | refine ⟨fun _ => ?_, fun h => absurd h (by decide)⟩ | refine ⟨fun h => absurd h (by decide), fun _ => ?_⟩))
    refine And.intro (and_t (shr_ok h0 h1) rfl) ?_
    (repeat (first | refine aC ?_ | refine aK ?_ | refine ⟨fun _ => ?_, fun h => absurd h (by decide)⟩ | refine ⟨fun h => absurd h (by decide), fun _ => ?_⟩))
    have nxt : keyOk s P i = false → KeysAt s P (i + 1, os, L) := fun h => by
      have e : keysF s P (i + 1) = keysF s P i := by
        simp only [keysF]
        rw [if_neg (by rw [h]; decide)]
      exact ⟨hlt, by dsimp only; rw [e]; exact ho, by dsimp only; rw [e]; exact hL⟩
    refine ⟨fun g => ?_, fun g => ?_⟩
    · have g1 : hasV P (fG s.xs i 3) = true := g
      (repeat (first | refine aC ?_ | refine aK ?_ | refine ⟨fun _ => ?_, fun h => absurd h (by decide)⟩ | refine ⟨fun h => absurd h (by decide), fun _ => ?_⟩))
      (refine call_lift (stands_c s.d s.n s.xs s.m s.es i hs.rng.wf hlt) (fun i => match i with | 0 => some 0 | 1 => some 1 | 2 => some 2 | _ => none) rfl rfl hI rfl rfl rfl ?_; rintro v H1 ⟨rfl, rfl⟩; refine ⟨⟨rfl, rfl, rfl, rfl⟩, ?_⟩; (try simp only [two]); (try simp only [AV.ren]); (try simp only [renT]); (try simp only [AT.ren]); (try simp only [A.ren]); (try (rw [ptr_ren]; rotate_left; exact rfl)); (try (rw [slc_ren]; rotate_left; exact rfl)); (try simp only [S.ren]))
      (repeat (first | refine aC ?_ | refine aK ?_ | refine ⟨fun _ => ?_, fun h => absurd h (by decide)⟩ | refine ⟨fun h => absurd h (by decide), fun _ => ?_⟩))
      refine ⟨fun g => ?_, fun g => ?_⟩
      · have g2 : standsB s.d s.xs i = true := g
        (repeat (first | refine aC ?_ | refine aK ?_ | refine ⟨fun _ => ?_, fun h => absurd h (by decide)⟩ | refine ⟨fun h => absurd h (by decide), fun _ => ?_⟩))
        refine And.intro (fld_t (o := 5) (by decide) rfl hlt hx) ?_
        (repeat (first | refine aC ?_ | refine aK ?_ | refine ⟨fun _ => ?_, fun h => absurd h (by decide)⟩ | refine ⟨fun h => absurd h (by decide), fun _ => ?_⟩))
        refine And.intro (and_t ((natOk_i64 (x := fG s.xs i 5)).2 ⟨r0, by omega⟩) rfl) ?_
        (repeat (first | refine aC ?_ | refine aK ?_ | refine ⟨fun _ => ?_, fun h => absurd h (by decide)⟩ | refine ⟨fun h => absurd h (by decide), fun _ => ?_⟩))
        refine ⟨fun g => ?_, fun g => ?_⟩
        · have g3 : hasOpen (fG s.xs i 5) = true := g
          (repeat (first | refine aC ?_ | refine aK ?_ | refine ⟨fun _ => ?_, fun h => absurd h (by decide)⟩ | refine ⟨fun h => absurd h (by decide), fun _ => ?_⟩))
          (refine call_lift (isSpent_c s.d s.n s.xs s.m s.es i hs.rng.wf hlt) (fun i => match i with | 0 => some 0 | 1 => some 1 | 2 => some 2 | _ => none) rfl rfl hI rfl rfl rfl ?_; rintro v H1 ⟨rfl, rfl⟩; refine ⟨⟨rfl, rfl, rfl, rfl⟩, ?_⟩; (try simp only [two]); (try simp only [AV.ren]); (try simp only [renT]); (try simp only [AT.ren]); (try simp only [A.ren]); (try (rw [ptr_ren]; rotate_left; exact rfl)); (try (rw [slc_ren]; rotate_left; exact rfl)); (try simp only [S.ren]))
          (repeat (first | refine aC ?_ | refine aK ?_ | refine ⟨fun _ => ?_, fun h => absurd h (by decide)⟩ | refine ⟨fun h => absurd h (by decide), fun _ => ?_⟩))
          refine ⟨fun g => ?_, fun g => ?_⟩
          · have g4 : (!spentB s.xs i) = true := g
            have hk : keyOk s P i = true := by simp only [keyOk, g1, g2, g3, g4]; rfl
            (repeat (first | refine aC ?_ | refine aK ?_ | refine ⟨fun _ => ?_, fun h => absurd h (by decide)⟩ | refine ⟨fun h => absurd h (by decide), fun _ => ?_⟩))
            refine And.intro ?_ ?_
            · exact and_t (and_t (and_t (and_t rfl rfl) rfl) rfl) (apP_t rfl rfl rfl hol.symm (by omega))
            (repeat (first | refine aC ?_ | refine aK ?_ | refine ⟨fun _ => ?_, fun h => absurd h (by decide)⟩ | refine ⟨fun h => absurd h (by decide), fun _ => ?_⟩))
            have e : keysF s P (i + 1) = keysF s P i ++ [i] := by
              simp only [keysF]
              rw [if_pos hk]
            exact ⟨(i + 1, os ++ [i * 9], L + 1), ⟨hlt, by dsimp only; rw [e, ho]; simp, by dsimp only; rw [e, hL]; simp⟩, by dsimp only; omega, (fun i => match i with | 0 => some 0 | 1 => some 1 | 2 => some 2 | 3 => some 5 | _ => none), by exact wI⟩
          · have g4 : (!spentB s.xs i) = false := g
            (repeat (first | refine aC ?_ | refine aK ?_ | refine ⟨fun _ => ?_, fun h => absurd h (by decide)⟩ | refine ⟨fun h => absurd h (by decide), fun _ => ?_⟩))
            exact ⟨(i + 1, os, L), nxt (by simp only [keyOk, g1, g2, g3, g4]; rfl), by dsimp only; omega, some, by exact wI⟩
        · have g3 : hasOpen (fG s.xs i 5) = false := g
          (repeat (first | refine aC ?_ | refine aK ?_ | refine ⟨fun _ => ?_, fun h => absurd h (by decide)⟩ | refine ⟨fun h => absurd h (by decide), fun _ => ?_⟩))
          exact ⟨(i + 1, os, L), nxt (by simp only [keyOk, g1, g2, g3]; rfl), by dsimp only; omega, some, by exact wI⟩
      · have g2 : standsB s.d s.xs i = false := g
        (repeat (first | refine aC ?_ | refine aK ?_ | refine ⟨fun _ => ?_, fun h => absurd h (by decide)⟩ | refine ⟨fun h => absurd h (by decide), fun _ => ?_⟩))
        exact ⟨(i + 1, os, L), nxt (by simp only [keyOk, g1, g2]; rfl), by dsimp only; omega, some, by exact wI⟩
    · have g1 : hasV P (fG s.xs i 3) = false := g
      (repeat (first | refine aC ?_ | refine aK ?_ | refine ⟨fun _ => ?_, fun h => absurd h (by decide)⟩ | refine ⟨fun h => absurd h (by decide), fun _ => ?_⟩))
      exact ⟨(i + 1, os, L), nxt (by simp only [keyOk, g1]; rfl), by dsimp only; omega, some, by exact wI⟩
  · have g := of_decide_eq_false g
    (repeat (first | refine aC ?_ | refine aK ?_ | refine ⟨fun _ => ?_, fun h => absurd h (by decide)⟩ | refine ⟨fun h => absurd h (by decide), fun _ => ?_⟩))
    obtain rfl : i = s.n := by omega
    rw [← ho, ← hL]
    exact ⟨some, .t (.a (.s (.slc 3 0 L))), heap0 false s ++ [⟨true, false, 89, 1, .ptrs 1 os⟩], by exact wI, rfl, rfl⟩
def meetB (xs : List Int) (P : Int) (k1 k2 : Nat) : Bool :=
  !(fG xs k1 2 == fG xs k2 2) && ((fG xs k1 3 != fG xs k2 3) || (((((fG xs k1 5).toNat ||| (fG xs k2 5).toNat : Nat) : Int).toNat &&& 2 : Nat) : Int) != 0 && !(P == 1 * 2 ^ (fG xs k1 3).toNat))
theorem pow_ok {h : Int} (h0 : 0 ≤ h) (h1 : h ≤ 15) : (decide (0 ≤ h ∧ h < (64 : Nat)) && i64ok (1 * 2 ^ h.toNat)) = true := by
  refine and_t (decide_eq_true ⟨h0, by omega⟩) (i64_of ?_)
  have h2 : h.toNat ≤ 15 := by omega
  have h3 : (2 : Int) ^ h.toNat ≤ 2 ^ 15 := by
    have := Nat.pow_le_pow_right (show 2 > 0 by decide) h2
    exact_mod_cast this
  have h4 : (0 : Int) < 2 ^ h.toNat := Int.pow_pos (by decide)
  have e : (2 : Int) ^ 15 = 32768 := by decide
  omega
theorem or_ok {a b : Int} (ha : 0 ≤ a ∧ a ≤ 65535) (hb : 0 ≤ b ∧ b ≤ 65535) : natOk .i64 ((a.toNat ||| b.toNat : Nat) : Int) = true := by
  rw [natOk_i64]
  have : a.toNat ||| b.toNat < 2 ^ 16 := Nat.or_lt_two_pow (by omega) (by omega)
  omega
set_option maxRecDepth 20000 in
set_option maxHeartbeats 4000000 in
theorem meet_c (s : St) (hs : Good s) (P : Int) (k1 k2 : Nat) (hk1 : k1 < s.n) (hk2 : k2 < s.n) : CallA Try.prog 55 [.t (.a (.s (.ptr 1 (k1 * 9)))), .t (.a (.s (.ptr 1 (k2 * 9)))), .int .i64 P] (heap0 false s) (fun w H => w = .boo (meetB s.xs P k1 k2) ∧ H = heap0 false s) := by
  refine call_of_vc TYok mixedO Try.func55 rfl rfl (Nat.le_of_ble_eq_true rfl) ?_
  have hx := hs.rng.wf.len
  obtain ⟨b0, b1⟩ := hs.h k1 hk1
  obtain ⟨r0, r1⟩ := hs.rng.r k1 hk1
  obtain ⟨r2, r3⟩ := hs.rng.r k2 hk2
  (repeat (first | refine aC ?_ | refine aK ?_ | refine ⟨fun _ => ?_, fun h => absurd h (by decide)⟩ | refine ⟨fun h => absurd h (by decide), fun _ => ?_⟩))
  refine And.intro (fld_t (o := 2) (by decide) rfl hk1 hx) ?_
  (repeat (first | refine aC ?_ | refine aK ?_ | refine ⟨fun _ => ?_, fun h => absurd h (by decide)⟩ | refine ⟨fun h => absurd h (by decide), fun _ => ?_⟩))
  refine And.intro (fld_t (o := 2) (by decide) rfl hk2 hx) ?_
  (repeat (first | refine aC ?_ | refine aK ?_ | refine ⟨fun _ => ?_, fun h => absurd h (by decide)⟩ | refine ⟨fun h => absurd h (by decide), fun _ => ?_⟩))
  refine ⟨fun g => ?_, fun g => ?_⟩
  · have g1 : (fG s.xs k1 2 == fG s.xs k2 2) = true := g
    (repeat (first | refine aC ?_ | refine aK ?_ | refine ⟨fun _ => ?_, fun h => absurd h (by decide)⟩ | refine ⟨fun h => absurd h (by decide), fun _ => ?_⟩))
    exact ⟨some, .boo false, heap0 false s, by exact wI, by simp only [meetB, g1]; rfl, rfl⟩
  · have g1 : (fG s.xs k1 2 == fG s.xs k2 2) = false := g
    (repeat (first | refine aC ?_ | refine aK ?_ | refine ⟨fun _ => ?_, fun h => absurd h (by decide)⟩ | refine ⟨fun h => absurd h (by decide), fun _ => ?_⟩))
    refine And.intro (fld_t (o := 5) (by decide) rfl hk1 hx) ?_
    (repeat (first | refine aC ?_ | refine aK ?_ | refine ⟨fun _ => ?_, fun h => absurd h (by decide)⟩ | refine ⟨fun h => absurd h (by decide), fun _ => ?_⟩))
    refine And.intro (fld_t (o := 5) (by decide) rfl hk2 hx) ?_
    (repeat (first | refine aC ?_ | refine aK ?_ | refine ⟨fun _ => ?_, fun h => absurd h (by decide)⟩ | refine ⟨fun h => absurd h (by decide), fun _ => ?_⟩))
    refine And.intro (and_t ((natOk_i64 (x := fG s.xs k1 5)).2 ⟨r0, by omega⟩) ((natOk_i64 (x := fG s.xs k2 5)).2 ⟨r2, by omega⟩)) ?_
    (repeat (first | refine aC ?_ | refine aK ?_ | refine ⟨fun _ => ?_, fun h => absurd h (by decide)⟩ | refine ⟨fun h => absurd h (by decide), fun _ => ?_⟩))
    refine And.intro (and_t (or_ok (a := fG s.xs k1 5) (b := fG s.xs k2 5) ⟨r0, by omega⟩ ⟨r2, by omega⟩) rfl) ?_
    (repeat (first | refine aC ?_ | refine aK ?_ | refine ⟨fun _ => ?_, fun h => absurd h (by decide)⟩ | refine ⟨fun h => absurd h (by decide), fun _ => ?_⟩))
    refine And.intro (fld_t (o := 3) (by decide) rfl hk1 hx) ?_
    (repeat (first | refine aC ?_ | refine aK ?_ | refine ⟨fun _ => ?_, fun h => absurd h (by decide)⟩ | refine ⟨fun h => absurd h (by decide), fun _ => ?_⟩))
    refine And.intro (pow_ok (h := fG s.xs k1 3) b0 b1) ?_
    (repeat (first | refine aC ?_ | refine aK ?_ | refine ⟨fun _ => ?_, fun h => absurd h (by decide)⟩ | refine ⟨fun h => absurd h (by decide), fun _ => ?_⟩))
    refine And.intro (fld_t (o := 3) (by decide) rfl hk1 hx) ?_
    (repeat (first | refine aC ?_ | refine aK ?_ | refine ⟨fun _ => ?_, fun h => absurd h (by decide)⟩ | refine ⟨fun h => absurd h (by decide), fun _ => ?_⟩))
    refine And.intro (fld_t (o := 3) (by decide) rfl hk2 hx) ?_
    (repeat (first | refine aC ?_ | refine aK ?_ | refine ⟨fun _ => ?_, fun h => absurd h (by decide)⟩ | refine ⟨fun h => absurd h (by decide), fun _ => ?_⟩))
    refine ⟨fun g => ?_, fun g => ?_⟩
    · have g2 : (fG s.xs k1 3 != fG s.xs k2 3) = false := g
      (repeat (first | refine aC ?_ | refine aK ?_ | refine ⟨fun _ => ?_, fun h => absurd h (by decide)⟩ | refine ⟨fun h => absurd h (by decide), fun _ => ?_⟩))
      refine ⟨fun g => ?_, fun g => ?_⟩
      · have g3 : ((((((fG s.xs k1 5).toNat ||| (fG s.xs k2 5).toNat : Nat) : Int).toNat &&& 2 : Nat) : Int) != 0) = true := g
        (repeat (first | refine aC ?_ | refine aK ?_ | refine ⟨fun _ => ?_, fun h => absurd h (by decide)⟩ | refine ⟨fun h => absurd h (by decide), fun _ => ?_⟩))
        exact ⟨some, .boo (!(P == 1 * 2 ^ (fG s.xs k1 3).toNat)), heap0 false s, by exact wI, by simp only [meetB, g1, g2, g3]; rfl, rfl⟩
      · have g3 : ((((((fG s.xs k1 5).toNat ||| (fG s.xs k2 5).toNat : Nat) : Int).toNat &&& 2 : Nat) : Int) != 0) = false := g
        (repeat (first | refine aC ?_ | refine aK ?_ | refine ⟨fun _ => ?_, fun h => absurd h (by decide)⟩ | refine ⟨fun h => absurd h (by decide), fun _ => ?_⟩))
        exact ⟨some, .boo false, heap0 false s, by exact wI, by simp only [meetB, g1, g2, g3]; rfl, rfl⟩
    · have g2 : (fG s.xs k1 3 != fG s.xs k2 3) = true := g
      (repeat (first | refine aC ?_ | refine aK ?_ | refine ⟨fun _ => ?_, fun h => absurd h (by decide)⟩ | refine ⟨fun h => absurd h (by decide), fun _ => ?_⟩))
      exact ⟨some, .boo true, heap0 false s, by exact wI, by simp only [meetB, g1, g2]; rfl, rfl⟩
end Go.Proofs.Ytlbgkfidpkbafaa
/- What a group could open. -/
namespace Go.Proofs.Ytlbgkfidpkbafaa
open Go.RowKit
set_option linter.unusedSimpArgs false
set_option linter.unusedVariables false
abbrev vN (xs : List Int) (k : Nat) : Nat := (fG xs k 4).toNat
def innF (s : St) (P : Int) (l : List Nat) (j a0 : Nat) : Nat → Nat
  | 0 => a0
  | i + 1 => if meetB s.xs P (l.getD j 0) (l.getD i 0) = true then innF s P l j a0 i ||| (vN s.xs (l.getD j 0) &&& vN s.xs (l.getD i 0)) else innF s P l j a0 i
def outF (s : St) (P : Int) (l : List Nat) : Nat → Nat
  | 0 => 0
  | j + 1 => innF s P l j (outF s P l j) j
theorem innF_lt {s : St} (hs : Good s) (P : Int) {l : List Nat} (hl : ∀ i ∈ l, i < s.n) {j a0 : Nat} (h0 : a0 < 65536) : ∀ {i : Nat}, i ≤ l.length → innF s P l j a0 i < 65536
  | 0, _ => h0
  | i + 1, hi => by
    have ih := innF_lt hs P hl (j := j) h0 (i := i) (by omega)
    simp only [innF]
    split
    · have hv := hs.rng.v (l.getD i 0) (getD_lt hl (by omega))
      have h1 : vN s.xs (l.getD j 0) &&& vN s.xs (l.getD i 0) < 2 ^ 16 := Nat.lt_of_le_of_lt Nat.and_le_right (by show (fG s.xs _ 4).toNat < _; omega)
      exact Nat.or_lt_two_pow (n := 16) ih h1
    · exact ih
theorem outF_lt {s : St} (hs : Good s) (P : Int) {l : List Nat} (hl : ∀ i ∈ l, i < s.n) : ∀ {j : Nat}, j ≤ l.length → outF s P l j < 65536
  | 0, _ => (by decide : (0 : Nat) < 65536)
  | j + 1, hj => innF_lt hs P hl (outF_lt hs P hl (by omega)) (by omega)
def couldV (s : St) (P : Int) : Nat := outF s P (keysF s P s.n) (keysF s P s.n).length
def CouldPost (s : St) (P : Int) (w : AV) (H : AH) : Prop :=
  ((0 ≤ P ∧ P ≤ 65535) ∧ w = tupOf [.a (.s (.v (.int .i64 ((couldV s P : Nat) : Int)))), .a (.s (.v (.int .i64 0)))] ∧ H = heap0 false s) ∨
  (¬ (0 ≤ P ∧ P ≤ 65535) ∧ w = tupOf [.a (.s (.v (.int .i64 0))), .a (.s (.v (.int .i64 2)))] ∧ H = heap0 false s)
set_option maxRecDepth 20000 in
set_option maxHeartbeats 4000000 in
theorem could_c (s : St) (hs : Good s) (P : Int) : CallA Try.prog 21 [.t (.a (.s (.ptr 0 0))), .int .i64 P] (heap0 false s) (CouldPost s P) := by
  refine call_defer TYok mixedO Try.func21 rfl rfl (Nat.le_of_ble_eq_true rfl) (df_ok 50 rfl) ?_
  have hf := hs.rng.wf.few
  have hx := hs.rng.wf.len
  have hl : ∀ i ∈ keysF s P s.n, i < s.n := fun i hi => (keysF_mem s P).1 hi |>.1
  have hlen := keysF_len s P s.n
  (repeat (first | refine aC ?_ | refine aK ?_ | refine ⟨fun _ => ?_, fun h => absurd h (by decide)⟩ | refine ⟨fun h => absurd h (by decide), fun _ => ?_⟩))
  refine And.intro ?_ ?_
  · exact ⟨rfl, rfl, rfl⟩
  (repeat (first | refine aC ?_ | refine aK ?_ | refine ⟨fun _ => ?_, fun h => absurd h (by decide)⟩ | refine ⟨fun h => absurd h (by decide), fun _ => ?_⟩))
  (refine call_lift (needMade_c s.d s.n s.xs s.m s.es) (fun i => match i with | 0 => some 0 | 1 => some 1 | 2 => some 2 | _ => none) rfl rfl hI rfl rfl rfl ?_; rintro v H1 ⟨rfl, rfl⟩; refine ⟨⟨rfl, rfl, rfl, rfl⟩, ?_⟩; (try simp only [two]); (try simp only [AV.ren]); (try simp only [renT]); (try simp only [AT.ren]); (try simp only [A.ren]); (try (rw [ptr_ren]; rotate_left; exact rfl)); (try (rw [slc_ren]; rotate_left; exact rfl)); (try simp only [S.ren]))
  (repeat (first | refine aC ?_ | refine aK ?_ | refine ⟨fun _ => ?_, fun h => absurd h (by decide)⟩ | refine ⟨fun h => absurd h (by decide), fun _ => ?_⟩))
  by_cases hP : 0 ≤ P ∧ P ≤ 65535
  · obtain ⟨p0, p1⟩ := hP
    refine ⟨fun _ => ?_, fun h => absurd ((decide_eq_true p0).symm.trans h) (by decide)⟩
    (repeat (first | refine aC ?_ | refine aK ?_ | refine ⟨fun _ => ?_, fun h => absurd h (by decide)⟩ | refine ⟨fun h => absurd h (by decide), fun _ => ?_⟩))
    (refine call_lift (need_tb (decide (P ≤ 65535)) 2 (decide_eq_true p1)) (fun i => match i with | 0 => none | _ => none) rfl rfl hI rfl rfl rfl ?_; rintro v H1 ⟨rfl, rfl⟩; refine ⟨⟨rfl, rfl, rfl, rfl⟩, ?_⟩; (try simp only [two]); (try simp only [AV.ren]); (try simp only [renT]); (try simp only [AT.ren]); (try simp only [A.ren]); (try (rw [ptr_ren]; rotate_left; exact rfl)); (try (rw [slc_ren]; rotate_left; exact rfl)); (try simp only [S.ren]))
    (repeat (first | refine aC ?_ | refine aK ?_ | refine ⟨fun _ => ?_, fun h => absurd h (by decide)⟩ | refine ⟨fun h => absurd h (by decide), fun _ => ?_⟩))
    (refine call_lift (keys_c s hs P p0 p1) (fun i => match i with | 0 => some 0 | 1 => some 1 | 2 => some 2 | _ => none) rfl rfl hI rfl rfl rfl ?_; rintro v H1 ⟨rfl, rfl⟩; refine ⟨⟨rfl, rfl, rfl, rfl⟩, ?_⟩; (try simp only [two]); (try simp only [AV.ren]); (try simp only [renT]); (try simp only [AT.ren]); (try simp only [A.ren]); (try (rw [ptr_ren]; rotate_left; exact rfl)); (try (rw [slc_ren]; rotate_left; exact rfl)); (try simp only [S.ren]))
    have hc : couldV s P = outF s P (keysF s P s.n) (keysF s P s.n).length := rfl
    generalize keysF s P s.n = l at *
    (repeat (first | refine aC ?_ | refine aK ?_ | refine ⟨fun _ => ?_, fun h => absurd h (by decide)⟩ | refine ⟨fun h => absurd h (by decide), fun _ => ?_⟩))
    refine loop_rule TYok mixedO (ι := Nat × Nat) (fun q => [(1, .int .i64 P), (4, .int .i64 (q.2 : Int)), (5, .t (.a (.s (.ptr 3 0)))), (6, .t (.a (.s (.slc 4 0 l.length)))), (24, .t (.a (.s (.slc 4 0 l.length)))), (25, .int .i64 (l.length : Int)), (26, .int .i64 (q.1 : Int))]) (fun _ => heap0 false s ++ [⟨true, true, 39, 1, .cells [.s (.v (.int .i64 0))]⟩, ⟨false, false, 89, 1, .ptrs 1 (l.map (· * 9))⟩]) (fun q => q.1 ≤ l.length ∧ q.2 = outF s P l q.1) (fun q => l.length - q.1) (0, 0) ⟨Nat.zero_le _, rfl⟩ some (by exact wI) ?_
    rintro ⟨j, acc⟩ ⟨hj, ha⟩
    dsimp only at hj ha ⊢
    have hacc := outF_lt hs P hl hj
    rw [← ha] at hacc
    (repeat (first | refine aC ?_ | refine aK ?_ | refine ⟨fun _ => ?_, fun h => absurd h (by decide)⟩ | refine ⟨fun h => absurd h (by decide), fun _ => ?_⟩))
    refine ⟨fun g => ?_, fun g => ?_⟩
    · have g := of_decide_eq_true g
      have hjl : j < l.length := by omega
      have hjn := getD_lt hl hjl
      (repeat (first | refine aC ?_ | refine aK ?_ | refine ⟨fun _ => ?_, fun h => absurd h (by decide)⟩ | refine ⟨fun h => absurd h (by decide), fun _ => ?_⟩))
      have e1 : 0 + ((j : Nat) : Int).toNat * ti89.size = j := by
        rw [siz89]
        simp
      rw [e1]
      refine And.intro (decide_eq_true (by rw [List.length_map]; exact hjl)) ?_
      rw [nine]
      (repeat (first | refine aC ?_ | refine aK ?_ | refine ⟨fun _ => ?_, fun h => absurd h (by decide)⟩ | refine ⟨fun h => absurd h (by decide), fun _ => ?_⟩))
      refine loop_rule TYok mixedO (ι := Nat × Nat) (fun q => [(1, .int .i64 P), (4, .int .i64 (q.2 : Int)), (5, .t (.a (.s (.ptr 3 0)))), (6, .t (.a (.s (.slc 4 0 l.length)))), (8, .t (.a (.s (.ptr 1 (l.getD j 0 * 9))))), (24, .t (.a (.s (.slc 4 0 l.length)))), (25, .int .i64 (l.length : Int)), (26, .int .i64 (j : Int)), (33, .t (.a (.s (.slc 4 0 j)))), (34, .int .i64 (j : Int)), (35, .int .i64 (q.1 : Int))]) (fun _ => heap0 false s ++ [⟨true, true, 39, 1, .cells [.s (.v (.int .i64 0))]⟩, ⟨false, false, 89, 1, .ptrs 1 (l.map (· * 9))⟩]) (fun q => q.1 ≤ j ∧ q.2 = innF s P l j acc q.1) (fun q => j - q.1) (0, acc) ⟨Nat.zero_le _, rfl⟩ some (by exact wI) ?_
      rintro ⟨i, a⟩ ⟨hi, hb⟩
      dsimp only at hi hb ⊢
      have hal := innF_lt hs P hl (j := j) hacc (i := i) (by omega)
      rw [← hb] at hal
      (repeat (first | refine aC ?_ | refine aK ?_ | refine ⟨fun _ => ?_, fun h => absurd h (by decide)⟩ | refine ⟨fun h => absurd h (by decide), fun _ => ?_⟩))
      refine ⟨fun g => ?_, fun g => ?_⟩
      · have g := of_decide_eq_true g
        have hij : i < j := by omega
        have hin := getD_lt hl (show i < l.length by omega)
        obtain ⟨v0, v1⟩ := hs.rng.v _ hjn
        obtain ⟨v2, v3⟩ := hs.rng.v _ hin
        (repeat (first | refine aC ?_ | refine aK ?_ | refine ⟨fun _ => ?_, fun h => absurd h (by decide)⟩ | refine ⟨fun h => absurd h (by decide), fun _ => ?_⟩))
        have e2 : 0 + ((i : Nat) : Int).toNat * ti89.size = i := by
          rw [siz89]
          simp
        rw [e2]
        refine And.intro (decide_eq_true (by rw [List.length_map]; omega)) ?_
        rw [nine]
        (repeat (first | refine aC ?_ | refine aK ?_ | refine ⟨fun _ => ?_, fun h => absurd h (by decide)⟩ | refine ⟨fun h => absurd h (by decide), fun _ => ?_⟩))
        (refine call_lift (meet_c s hs P (l.getD j 0) (l.getD i 0) hjn hin) (fun i => match i with | 0 => some 0 | 1 => some 1 | 2 => some 2 | _ => none) rfl rfl hI rfl rfl rfl ?_; rintro v H1 ⟨rfl, rfl⟩; refine ⟨⟨rfl, rfl, rfl, rfl⟩, ?_⟩; (try simp only [two]); (try simp only [AV.ren]); (try simp only [renT]); (try simp only [AT.ren]); (try simp only [A.ren]); (try (rw [ptr_ren]; rotate_left; exact rfl)); (try (rw [slc_ren]; rotate_left; exact rfl)); (try simp only [S.ren]))
        (repeat (first | refine aC ?_ | refine aK ?_ | refine ⟨fun _ => ?_, fun h => absurd h (by decide)⟩ | refine ⟨fun h => absurd h (by decide), fun _ => ?_⟩))
        refine ⟨fun g => ?_, fun g => ?_⟩
        · have g1 : meetB s.xs P (l.getD j 0) (l.getD i 0) = true := g
          (repeat (first | refine aC ?_ | refine aK ?_ | refine ⟨fun _ => ?_, fun h => absurd h (by decide)⟩ | refine ⟨fun h => absurd h (by decide), fun _ => ?_⟩))
          refine And.intro (fld_t (o := 4) (by decide) rfl hjn hx) ?_
          (repeat (first | refine aC ?_ | refine aK ?_ | refine ⟨fun _ => ?_, fun h => absurd h (by decide)⟩ | refine ⟨fun h => absurd h (by decide), fun _ => ?_⟩))
          refine And.intro (fld_t (o := 4) (by decide) rfl hin hx) ?_
          (repeat (first | refine aC ?_ | refine aK ?_ | refine ⟨fun _ => ?_, fun h => absurd h (by decide)⟩ | refine ⟨fun h => absurd h (by decide), fun _ => ?_⟩))
          refine And.intro (and_t ((natOk_i64 (x := fG s.xs (l.getD j 0) 4)).2 ⟨v0, by omega⟩) ((natOk_i64 (x := fG s.xs (l.getD i 0) 4)).2 ⟨v2, by omega⟩)) ?_
          (repeat (first | refine aC ?_ | refine aK ?_ | refine ⟨fun _ => ?_, fun h => absurd h (by decide)⟩ | refine ⟨fun h => absurd h (by decide), fun _ => ?_⟩))
          have hand : vN s.xs (l.getD j 0) &&& vN s.xs (l.getD i 0) < 65536 := Nat.lt_of_le_of_lt Nat.and_le_right (by show (fG s.xs _ 4).toNat < _; omega)
          refine And.intro (and_t ((natOk_i64 (x := (a : Int))).2 ⟨by omega, by omega⟩) ((natOk_i64 (x := ((vN s.xs (l.getD j 0) &&& vN s.xs (l.getD i 0) : Nat) : Int))).2 ⟨by omega, by omega⟩)) ?_
          (repeat (first | refine aC ?_ | refine aK ?_ | refine ⟨fun _ => ?_, fun h => absurd h (by decide)⟩ | refine ⟨fun h => absurd h (by decide), fun _ => ?_⟩))
          have e3 : innF s P l j acc (i + 1) = a ||| (vN s.xs (l.getD j 0) &&& vN s.xs (l.getD i 0)) := by
            simp only [innF]
            rw [if_pos g1, ← hb]
          exact ⟨(i + 1, a ||| (vN s.xs (l.getD j 0) &&& vN s.xs (l.getD i 0))), ⟨hij, e3.symm⟩, by dsimp only; omega, some, by exact wI⟩
        · have g1 : meetB s.xs P (l.getD j 0) (l.getD i 0) = false := g
          (repeat (first | refine aC ?_ | refine aK ?_ | refine ⟨fun _ => ?_, fun h => absurd h (by decide)⟩ | refine ⟨fun h => absurd h (by decide), fun _ => ?_⟩))
          have e3 : innF s P l j acc (i + 1) = a := by
            simp only [innF]
            rw [if_neg (by rw [g1]; decide), ← hb]
          exact ⟨(i + 1, a), ⟨hij, e3.symm⟩, by dsimp only; omega, some, by exact wI⟩
      · have g := of_decide_eq_false g
        (repeat (first | refine aC ?_ | refine aK ?_ | refine ⟨fun _ => ?_, fun h => absurd h (by decide)⟩ | refine ⟨fun h => absurd h (by decide), fun _ => ?_⟩))
        obtain rfl : i = j := by omega
        exact ⟨(i + 1, a), ⟨hjl, by show a = innF s P l i (outF s P l i) i; rw [← ha]; exact hb⟩, by dsimp only; omega, some, by exact wI⟩
    · have g := of_decide_eq_false g
      (repeat (first | refine aC ?_ | refine aK ?_ | refine ⟨fun _ => ?_, fun h => absurd h (by decide)⟩ | refine ⟨fun h => absurd h (by decide), fun _ => ?_⟩))
      obtain rfl : j = l.length := by omega
      exact ⟨some, tupOf [.a (.s (.v (.int .i64 (acc : Int)))), .a (.s (.v (.int .i64 0)))], heap0 false s, by exact wI, .inl ⟨⟨p0, p1⟩, by rw [hc, ← ha], rfl⟩⟩
  · by_cases p0 : 0 ≤ P
    · refine ⟨fun _ => ?_, fun h => absurd ((decide_eq_true p0).symm.trans h) (by decide)⟩
      (repeat (first | refine aC ?_ | refine aK ?_ | refine ⟨fun _ => ?_, fun h => absurd h (by decide)⟩ | refine ⟨fun h => absurd h (by decide), fun _ => ?_⟩))
      (refine call_liftE (need_fb (decide (P ≤ 65535)) 2 (decide_eq_false (fun h => hP ⟨p0, h⟩))) (fun i => match i with | 0 => none | _ => none) rfl rfl hI rfl rfl rfl (fun _ _ h => h.elim) ?_; rintro pv H1 ⟨rfl, rfl⟩; refine ⟨⟨rfl, rfl, rfl⟩, ?_⟩)
      refine And.intro rfl (And.intro rfl (And.intro rfl ?_))
      exact ⟨some, tupOf [.a (.s (.v (.int .i64 0))), .a (.s (.v (.int .i64 2)))], heap0 false s, by exact wI, .inr ⟨hP, rfl, rfl⟩⟩
    · refine ⟨fun h => absurd ((decide_eq_false p0).symm.trans h) (by decide), fun _ => ?_⟩
      (repeat (first | refine aC ?_ | refine aK ?_ | refine ⟨fun _ => ?_, fun h => absurd h (by decide)⟩ | refine ⟨fun h => absurd h (by decide), fun _ => ?_⟩))
      (refine call_liftE (need_f 2) (fun i => match i with | 0 => none | _ => none) rfl rfl hI rfl rfl rfl (fun _ _ h => h.elim) ?_; rintro pv H1 ⟨rfl, rfl⟩; refine ⟨⟨rfl, rfl, rfl⟩, ?_⟩)
      refine And.intro rfl (And.intro rfl (And.intro rfl ?_))
      exact ⟨some, tupOf [.a (.s (.v (.int .i64 0))), .a (.s (.v (.int .i64 2)))], heap0 false s, by exact wI, .inr ⟨hP, rfl, rfl⟩⟩
end Go.Proofs.Ytlbgkfidpkbafaa
/- What a group could open, by what it holds. -/
namespace Go.Proofs.Ytlbgkfidpkbafaa
open Go.RowKit
set_option linter.unusedSimpArgs false
set_option linter.unusedVariables false
theorem hasV_bit {P h : Int} (hP : 0 ≤ P) : hasV P h = P.toNat.testBit h.toNat := by
  unfold hasV
  have e : (P.fdiv (2 ^ h.toNat)).toNat = P.toNat / 2 ^ h.toNat := by
    obtain ⟨p, rfl⟩ : ∃ p : Nat, P = (p : Int) := ⟨P.toNat, by omega⟩
    have hp : (0 : Int) ≤ 2 ^ h.toNat := Int.le_of_lt (Int.pow_pos (by decide))
    rw [Int.fdiv_eq_ediv_of_nonneg _ hp]
    have h1 : ((p : Int) / 2 ^ h.toNat) = ((p / 2 ^ h.toNat : Nat) : Int) := by
      rw [Int.natCast_ediv, Int.natCast_pow]
      rfl
    rw [h1, Int.toNat_natCast, Int.toNat_natCast]
  rw [e, Nat.testBit_eq_decide_div_mod_eq, Nat.and_one_is_mod]
  by_cases h1 : P.toNat / 2 ^ h.toNat % 2 = 1
  · rw [h1]
    rfl
  · have : P.toNat / 2 ^ h.toNat % 2 = 0 := by omega
    rw [this]
    rfl
theorem keysF_sorted (s : St) (P : Int) : ∀ c, (keysF s P c).Pairwise (· < ·)
  | 0 => List.Pairwise.nil
  | c + 1 => by
    have ih := keysF_sorted s P c
    simp only [keysF]
    split
    · rw [List.pairwise_append]
      refine ⟨ih, List.pairwise_singleton _ _, fun a ha b hb => ?_⟩
      rw [List.mem_singleton] at hb
      subst hb
      exact ((keysF_mem s P).1 ha).1
    · exact ih
def pairB (s : St) (P : Int) (v a b : Nat) : Prop := meetB s.xs P a b = true ∧ (vN s.xs a).testBit v = true ∧ (vN s.xs b).testBit v = true
theorem innF_bit (s : St) (P : Int) (l : List Nat) (j a0 v : Nat) : ∀ i, (innF s P l j a0 i).testBit v = true ↔ a0.testBit v = true ∨ ∃ q, q < i ∧ pairB s P v (l.getD j 0) (l.getD q 0)
  | 0 => by simp [innF]
  | i + 1 => by
    have ih := innF_bit s P l j a0 v i
    simp only [innF]
    split
    · rename_i h
      rw [Nat.testBit_or, Bool.or_eq_true, ih, Nat.testBit_and, Bool.and_eq_true]
      constructor
      · rintro ((h1 | ⟨q, h1, h2⟩) | ⟨h1, h2⟩)
        · exact .inl h1
        · exact .inr ⟨q, by omega, h2⟩
        · exact .inr ⟨i, by omega, h, h1, h2⟩
      · rintro (h1 | ⟨q, h1, h2⟩)
        · exact .inl (.inl h1)
        · by_cases e : q = i
          · subst e
            exact .inr h2.2
          · exact .inl (.inr ⟨q, by omega, h2⟩)
    · rename_i h
      rw [ih]
      constructor
      · rintro (h1 | ⟨q, h1, h2⟩)
        · exact .inl h1
        · exact .inr ⟨q, by omega, h2⟩
      · rintro (h1 | ⟨q, h1, h2⟩)
        · exact .inl h1
        · by_cases e : q = i
          · subst e
            exact absurd h2.1 h
          · exact .inr ⟨q, by omega, h2⟩
theorem outF_bit (s : St) (P : Int) (l : List Nat) (v : Nat) : ∀ j, (outF s P l j).testBit v = true ↔ ∃ p q, p < j ∧ q < p ∧ pairB s P v (l.getD p 0) (l.getD q 0)
  | 0 => by simp [outF]
  | j + 1 => by
    have ih := outF_bit s P l v j
    simp only [outF]
    rw [innF_bit, ih]
    constructor
    · rintro (⟨p, q, h1, h2, h3⟩ | ⟨q, h1, h2⟩)
      · exact ⟨p, q, by omega, h2, h3⟩
      · exact ⟨j, q, by omega, h1, h2⟩
    · rintro ⟨p, q, h1, h2, h3⟩
      by_cases e : p = j
      · subst e
        exact .inr ⟨q, h2, h3⟩
      · exact .inl ⟨p, q, by omega, h2, h3⟩
theorem couldV_bit (s : St) (P : Int) (v : Nat) : (couldV s P).testBit v = true ↔ ∃ a b, b < a ∧ a < s.n ∧ keyOk s P a = true ∧ keyOk s P b = true ∧ pairB s P v a b := by
  unfold couldV
  rw [outF_bit]
  have hm := fun i => keysF_mem s P (c := s.n) (i := i)
  have hs := keysF_sorted s P s.n
  generalize keysF s P s.n = l at *
  have hg : ∀ i, i < l.length → l.getD i 0 ∈ l := fun i hi => by
    simp only [List.getD_eq_getElem?_getD, List.getElem?_eq_getElem hi, Option.getD_some]
    exact List.getElem_mem hi
  have hlt : ∀ i j, i < j → j < l.length → l.getD i 0 < l.getD j 0 := fun i j h1 h2 => by
    simp only [List.getD_eq_getElem?_getD, List.getElem?_eq_getElem h2, List.getElem?_eq_getElem (Nat.lt_trans h1 h2), Option.getD_some]
    exact List.pairwise_iff_getElem.1 hs i j (Nat.lt_trans h1 h2) h2 h1
  constructor
  · rintro ⟨p, q, h1, h2, h3⟩
    have a1 := (hm _).1 (hg p h1)
    have a2 := (hm _).1 (hg q (by omega))
    exact ⟨_, _, hlt q p h2 h1, a1.1, a1.2, a2.2, h3⟩
  · rintro ⟨a, b, h1, h2, h3, h4, h5⟩
    obtain ⟨p, hp, e1⟩ := List.mem_iff_getElem.1 ((hm a).2 ⟨h2, h3⟩)
    obtain ⟨q, hq, e2⟩ := List.mem_iff_getElem.1 ((hm b).2 ⟨by omega, h4⟩)
    have f1 : l.getD p 0 = a := by simp only [List.getD_eq_getElem?_getD, List.getElem?_eq_getElem hp, Option.getD_some, e1]
    have f2 : l.getD q 0 = b := by simp only [List.getD_eq_getElem?_getD, List.getElem?_eq_getElem hq, Option.getD_some, e2]
    refine ⟨p, q, hp, ?_, by rw [f1, f2]; exact h5⟩
    rcases Nat.lt_or_ge q p with h | h
    · exact h
    · rcases Nat.eq_or_lt_of_le h with h | h
      · subst h
        omega
      · have := hlt p q h hq
        omega
/-- more persons could open no less -/
theorem could_more {s : St} (hs : Good s) {P M : Int} (hP : 0 ≤ P) (hM : 0 ≤ M) : couldV s P &&& couldV s ((P.toNat ||| M.toNat : Nat) : Int) = couldV s P := by
  apply Nat.eq_of_testBit_eq
  intro v
  rw [Nat.testBit_and]
  cases hb : (couldV s P).testBit v with
  | false => rfl
  | true =>
    rw [Bool.true_and]
    obtain ⟨a, b, h1, h2, h3, h4, h5⟩ := (couldV_bit s P v).1 hb
    have up : ∀ k, keyOk s P k = true → keyOk s ((P.toNat ||| M.toNat : Nat) : Int) k = true := fun k h => by
      unfold keyOk at h ⊢
      simp only [Bool.and_eq_true] at h ⊢
      obtain ⟨⟨⟨g1, g2⟩, g3⟩, g4⟩ := h
      refine ⟨⟨⟨?_, g2⟩, g3⟩, g4⟩
      rw [hasV_bit hP] at g1
      rw [hasV_bit (by omega)]
      simp only [Int.toNat_natCast, Nat.testBit_or, g1, Bool.true_or]
    refine (couldV_bit s _ v).2 ⟨a, b, h1, h2, up a h3, up b h4, ?_, h5.2⟩
    have hmeet := h5.1
    have hh : P.toNat.testBit (fG s.xs a 3).toNat = true := by
      unfold keyOk at h3
      simp only [Bool.and_eq_true] at h3
      have := h3.1.1.1
      rwa [hasV_bit hP] at this
    unfold meetB at hmeet ⊢
    simp only [Bool.and_eq_true, Bool.or_eq_true, Bool.not_eq_true', beq_eq_false_iff_ne] at hmeet ⊢
    refine ⟨hmeet.1, hmeet.2.imp id fun g => ⟨g.1, fun e => g.2 ?_⟩⟩
    have e : P.toNat ||| M.toNat = 2 ^ (fG s.xs a 3).toNat := by
      have : ((P.toNat ||| M.toNat : Nat) : Int) = ((2 ^ (fG s.xs a 3).toNat : Nat) : Int) := by
        rw [e, Int.one_mul]
        norm_cast
      exact_mod_cast this
    have : P.toNat = 2 ^ (fG s.xs a 3).toNat := by
      apply Nat.eq_of_testBit_eq
      intro i
      have ei := congrArg (fun x => Nat.testBit x i) e
      simp only [Nat.testBit_or, Nat.testBit_two_pow] at ei
      rw [Nat.testBit_two_pow]
      by_cases hi : (fG s.xs a 3).toNat = i
      · rw [decide_eq_true hi, ← hi]
        exact hh
      · rw [decide_eq_false hi] at ei ⊢
        rw [Bool.or_eq_false_iff] at ei
        exact ei.1
    have e2 : P = ((2 ^ (fG s.xs a 3).toNat : Nat) : Int) := by omega
    rw [e2, Int.one_mul]
    norm_cast
/-! a root more, for a person outside -/
theorem line_app {n : Nat} {xs : List Int} (hw : Wf n xs) (zs : List Int) : ∀ {k : Nat}, k < n → ∀ f, lineN (xs ++ zs) f k = lineN xs f k := by
  intro k hk f
  induction f generalizing k with
  | zero => rfl
  | succ f ih =>
    have e : (xs ++ zs).getD (k * 9 + 1) 0 = xs.getD (k * 9 + 1) 0 := app_old hw.len zs hk (by decide)
    have h1 := hw.ge k hk
    have h2 := hw.le k hk
    simp only [lineN]
    rw [e]
    split
    · rfl
    · rw [ih (by omega)]
theorem line_app' {n : Nat} {xs : List Int} (hw : Wf n xs) (zs : List Int) {k : Nat} (hk : k < n) : line (xs ++ zs) k = line xs k := line_app hw zs hk k
theorem any_congr {l : List Nat} {p q : Nat → Bool} (h : ∀ i ∈ l, p i = q i) : l.any p = l.any q := by
  induction l with
  | nil => rfl
  | cons a l ih =>
    rw [List.any_cons, List.any_cons, h a List.mem_cons_self, ih (fun i hi => h i (List.mem_cons_of_mem _ hi))]
theorem keyOk_app {s : St} (hs : Good s) (zs : List Int) (P : Int) {k : Nat} (hk : k < s.n) : keyOk ⟨s.d, s.n + 1, s.xs ++ zs, s.m, s.es⟩ P k = keyOk s P k := by
  have hw := hs.rng.wf
  have hx := hw.len
  have hl := line_lt hw hk
  have g : ∀ {i o : Nat}, i < s.n → o < 9 → fG (s.xs ++ zs) i o = fG s.xs i o := fun hi ho => app_old hx zs hi ho
  unfold keyOk standsB spentB
  dsimp only
  rw [g hk (by decide), g hk (by decide), g hk (by decide), line_app' hw zs hk]
  rw [any_congr (p := revG (s.xs ++ zs)) (q := revG s.xs) (fun i hi => by
    show (fG (s.xs ++ zs) i 8 != 0) = (fG s.xs i 8 != 0)
    rw [g (hl i hi) (by decide)])]
  rw [any_congr (p := zeroG (s.xs ++ zs)) (q := zeroG s.xs) (fun i hi => by
    unfold zeroG
    rw [g (hl i hi) (by decide)])]
theorem keysF_app {s : St} (hs : Good s) (zs : List Int) (P : Int) : ∀ {c : Nat}, c ≤ s.n → keysF ⟨s.d, s.n + 1, s.xs ++ zs, s.m, s.es⟩ P c = keysF s P c
  | 0, _ => rfl
  | c + 1, hc => by
    simp only [keysF]
    rw [keysF_app hs zs P (c := c) (by omega), keyOk_app hs zs P (by omega)]
theorem innF_app {s : St} (hs : Good s) (zs : List Int) (P : Int) {l : List Nat} (hl : ∀ i ∈ l, i < s.n) {j : Nat} (hj : j < l.length) (a0 : Nat) : ∀ {i : Nat}, i ≤ l.length → innF ⟨s.d, s.n + 1, s.xs ++ zs, s.m, s.es⟩ P l j a0 i = innF s P l j a0 i
  | 0, _ => rfl
  | i + 1, hi => by
    have ih := innF_app hs zs P hl hj a0 (i := i) (by omega)
    have h1 := getD_lt hl hj
    have h2 := getD_lt hl (show i < l.length by omega)
    have g : ∀ {i o : Nat}, i < s.n → o < 9 → fG (s.xs ++ zs) i o = fG s.xs i o := fun hi ho => app_old hs.rng.wf.len zs hi ho
    simp only [innF]
    rw [ih]
    have em : meetB (s.xs ++ zs) P (l.getD j 0) (l.getD i 0) = meetB s.xs P (l.getD j 0) (l.getD i 0) := by
      unfold meetB
      rw [g h1 (show 2 < 9 by decide), g h2 (show 2 < 9 by decide), g h1 (show 3 < 9 by decide), g h2 (show 3 < 9 by decide), g h1 (show 5 < 9 by decide), g h2 (show 5 < 9 by decide)]
    have e4 : ∀ {k : Nat}, k < s.n → vN (s.xs ++ zs) k = vN s.xs k := fun hk => by
      show (fG (s.xs ++ zs) _ 4).toNat = _
      rw [g hk (by decide)]
    rw [em, e4 h1, e4 h2]
theorem outF_app {s : St} (hs : Good s) (zs : List Int) (P : Int) {l : List Nat} (hl : ∀ i ∈ l, i < s.n) : ∀ {j : Nat}, j ≤ l.length → outF ⟨s.d, s.n + 1, s.xs ++ zs, s.m, s.es⟩ P l j = outF s P l j
  | 0, _ => rfl
  | j + 1, hj => by
    simp only [outF]
    rw [outF_app hs zs P hl (j := j) (by omega), innF_app hs zs P hl (by omega) _ (by omega)]
theorem could_root {s : St} (hs : Good s) {P h v r u us : Int} (hh : hasV P h = false) : couldV (grantS s h v r u us).1 P = couldV s P := by
  unfold grantS
  split
  · rfl
  · split
    · rfl
    · dsimp only
      generalize hz : [(s.n : Int) + 1, 0, (s.n : Int) + 1, h, v, r, u, us, 0] = zs
      have hk : keysF ⟨s.d, s.n + 1, s.xs ++ zs, s.m, s.es⟩ P (s.n + 1) = keysF s P s.n := by
        simp only [keysF]
        rw [keysF_app hs zs P (Nat.le_refl _), if_neg ?_]
        have e : fG (s.xs ++ zs) s.n 3 = h := by
          rw [app_new hs.rng.wf.len, ← hz]
          rfl
        unfold keyOk
        dsimp only
        rw [e, hh]
        simp
      unfold couldV
      dsimp only
      rw [hk]
      exact outF_app hs zs P (fun i hi => ((keysF_mem s P).1 hi).1) (Nat.le_refl _)
end Go.Proofs.Ytlbgkfidpkbafaa
/- The law of groups. -/
namespace Go.Proofs.Ytlbgkfidpkbafaa
open Go.RowKit
set_option linter.unusedSimpArgs false
set_option linter.unusedVariables false
def inF (P h : Int) : Bool := decide (h ≥ 0) && decide (h ≤ 15) && (P.fdiv (2 ^ h.toNat) % 2 == 1)
theorem inF_no {P h : Int} (hP : 0 ≤ P) (hi : inF P h = false) (h0 : 0 ≤ h) (h1 : h ≤ 15) : hasV P h = false := by
  unfold inF at hi
  rw [decide_eq_true h0, decide_eq_true h1, Bool.true_and, Bool.true_and] at hi
  unfold hasV
  have hp : (0 : Int) ≤ 2 ^ h.toNat := Int.le_of_lt (Int.pow_pos (by decide))
  have hq : 0 ≤ P.fdiv (2 ^ h.toNat) := by
    rw [Int.fdiv_eq_ediv_of_nonneg _ hp]
    exact Int.ediv_nonneg hP hp
  generalize P.fdiv (2 ^ h.toNat) = q at *
  rw [Nat.and_one_is_mod]
  rw [beq_eq_false_iff_ne] at hi ⊢
  omega
theorem in_c (P h : Int) (hP : 0 ≤ P) : CallA Try.prog 39 [.int .i64 P, .int .i64 h] [] (fun w H => w = .boo (inF P h) ∧ H = []) := by
  refine call_of_vc TYok mixedO Try.func39 rfl rfl (Nat.le_of_ble_eq_true rfl) ?_
  (repeat (first | ((refine And.intro ?_ ?_; · (first | with_reducible exact rfl | ((with_reducible refine bkP ?_); rfl) | (first | with_reducible exact rfl | with_reducible assumption | ((repeat' (with_reducible refine and_t ?_ ?_)) <;> (first | with_reducible exact rfl | decide | with_reducible assumption | ((with_reducible first | refine one_t ?_ | refine live_t ?_ | refine all_t ?_ | refine beq_t ?_ | refine isz_t ?_ | refine len_t ?_); rfl) | ((with_reducible refine bs_t ?_ ?_ ?_) <;> first | exact of_decide_eq_true rfl | rfl) | ((with_reducible first | refine mk_t ?_ | refine ap_t (y := 1) rfl ?_ | refine decide_eq_true ?_); (try simp only [List.getElem_toArray, List.getElem_cons_succ, List.getElem_cons_zero, lenOf, List.length_cons, List.length_nil, List.length_set, siz3, byt3, siz72, byt72, siz4, byt4, siz5, byt5, siz50, byt50, siz67, byt67, siz89, byt89]) <;> omega) | ((with_reducible first | refine i64_of ?_ | refine natOk_u64.2 ?_ | refine natOk_i64.2 ?_); omega))))))) | (refine Or.inl (And.intro ?_ ?_); · (with_reducible refine lexOk ?_); kernel_rfl) | refine ⟨fun _ => ?_, fun h => absurd h (by decide)⟩ | refine ⟨fun h => absurd h (by decide), fun _ => ?_⟩))
  refine ⟨fun g => ?_, fun g => ?_⟩
  · have g1 : decide (h ≥ 0) = true := g
    have h0 := of_decide_eq_true g1
    (repeat (first | ((refine And.intro ?_ ?_; · (first | with_reducible exact rfl | ((with_reducible refine bkP ?_); rfl) | (first | with_reducible exact rfl | with_reducible assumption | ((repeat' (with_reducible refine and_t ?_ ?_)) <;> (first | with_reducible exact rfl | decide | with_reducible assumption | ((with_reducible first | refine one_t ?_ | refine live_t ?_ | refine all_t ?_ | refine beq_t ?_ | refine isz_t ?_ | refine len_t ?_); rfl) | ((with_reducible refine bs_t ?_ ?_ ?_) <;> first | exact of_decide_eq_true rfl | rfl) | ((with_reducible first | refine mk_t ?_ | refine ap_t (y := 1) rfl ?_ | refine decide_eq_true ?_); (try simp only [List.getElem_toArray, List.getElem_cons_succ, List.getElem_cons_zero, lenOf, List.length_cons, List.length_nil, List.length_set, siz3, byt3, siz72, byt72, siz4, byt4, siz5, byt5, siz50, byt50, siz67, byt67, siz89, byt89]) <;> omega) | ((with_reducible first | refine i64_of ?_ | refine natOk_u64.2 ?_ | refine natOk_i64.2 ?_); omega))))))) | (refine Or.inl (And.intro ?_ ?_); · (with_reducible refine lexOk ?_); kernel_rfl) | refine ⟨fun _ => ?_, fun h => absurd h (by decide)⟩ | refine ⟨fun h => absurd h (by decide), fun _ => ?_⟩))
    refine ⟨fun g => ?_, fun g => ?_⟩
    · have g2 : decide (h ≤ 15) = true := g
      have h1 := of_decide_eq_true g2
      have hp : (0 : Int) ≤ 2 ^ h.toNat := Int.le_of_lt (Int.pow_pos (by decide))
      have hq : 0 ≤ P.fdiv (2 ^ h.toNat) := by
        rw [Int.fdiv_eq_ediv_of_nonneg _ hp]
        exact Int.ediv_nonneg hP hp
      (repeat (first | ((refine And.intro ?_ ?_; · (first | with_reducible exact rfl | ((with_reducible refine bkP ?_); rfl) | (first | with_reducible exact rfl | with_reducible assumption | ((repeat' (with_reducible refine and_t ?_ ?_)) <;> (first | with_reducible exact rfl | decide | with_reducible assumption | ((with_reducible first | refine one_t ?_ | refine live_t ?_ | refine all_t ?_ | refine beq_t ?_ | refine isz_t ?_ | refine len_t ?_); rfl) | ((with_reducible refine bs_t ?_ ?_ ?_) <;> first | exact of_decide_eq_true rfl | rfl) | ((with_reducible first | refine mk_t ?_ | refine ap_t (y := 1) rfl ?_ | refine decide_eq_true ?_); (try simp only [List.getElem_toArray, List.getElem_cons_succ, List.getElem_cons_zero, lenOf, List.length_cons, List.length_nil, List.length_set, siz3, byt3, siz72, byt72, siz4, byt4, siz5, byt5, siz50, byt50, siz67, byt67, siz89, byt89]) <;> omega) | ((with_reducible first | refine i64_of ?_ | refine natOk_u64.2 ?_ | refine natOk_i64.2 ?_); omega))))))) | (refine Or.inl (And.intro ?_ ?_); · (with_reducible refine lexOk ?_); kernel_rfl) | refine ⟨fun _ => ?_, fun h => absurd h (by decide)⟩ | refine ⟨fun h => absurd h (by decide), fun _ => ?_⟩))
      refine And.intro (decide_eq_true (p := 0 ≤ h ∧ h < (64 : Nat)) (by omega)) ?_
      (repeat (first | ((refine And.intro ?_ ?_; · (first | with_reducible exact rfl | ((with_reducible refine bkP ?_); rfl) | (first | with_reducible exact rfl | with_reducible assumption | ((repeat' (with_reducible refine and_t ?_ ?_)) <;> (first | with_reducible exact rfl | decide | with_reducible assumption | ((with_reducible first | refine one_t ?_ | refine live_t ?_ | refine all_t ?_ | refine beq_t ?_ | refine isz_t ?_ | refine len_t ?_); rfl) | ((with_reducible refine bs_t ?_ ?_ ?_) <;> first | exact of_decide_eq_true rfl | rfl) | ((with_reducible first | refine mk_t ?_ | refine ap_t (y := 1) rfl ?_ | refine decide_eq_true ?_); (try simp only [List.getElem_toArray, List.getElem_cons_succ, List.getElem_cons_zero, lenOf, List.length_cons, List.length_nil, List.length_set, siz3, byt3, siz72, byt72, siz4, byt4, siz5, byt5, siz50, byt50, siz67, byt67, siz89, byt89]) <;> omega) | ((with_reducible first | refine i64_of ?_ | refine natOk_u64.2 ?_ | refine natOk_i64.2 ?_); omega))))))) | (refine Or.inl (And.intro ?_ ?_); · (with_reducible refine lexOk ?_); kernel_rfl) | refine ⟨fun _ => ?_, fun h => absurd h (by decide)⟩ | refine ⟨fun h => absurd h (by decide), fun _ => ?_⟩))
      exact ⟨some, .boo (P.fdiv (2 ^ h.toNat) % 2 == 1), [], by (refine ⟨⟨rfl, ⟨rfl, rfl⟩, Nat.le_of_ble_eq_true rfl⟩, ?_, ?_⟩; (· (repeat (first | exact trivial | refine ⟨⟨rfl, .inr rfl⟩, ?_⟩ | (refine ⟨⟨rfl, .inr ?_⟩, ?_⟩; · rfl)))); (· (repeat (first | exact trivial | (refine And.intro ?_ ?_; · (first | exact ⟨fun _ => rfl, rfl, rfl, fun _ => rfl, rfl, rfl⟩ | exact ⟨fun _ => rfl, rfl, rfl, fun h => (by cases h), rfl, rfl⟩ | exact ⟨fun h => (by cases h), rfl, rfl, fun _ => rfl, rfl, rfl⟩ | exact ⟨fun h => (by cases h), rfl, rfl, fun h => (by cases h), rfl, rfl⟩ | rfl | exact trivial)))))), by simp only [inF, g1, g2]; rfl, rfl⟩
    · have g2 : decide (h ≤ 15) = false := g
      (repeat (first | ((refine And.intro ?_ ?_; · (first | with_reducible exact rfl | ((with_reducible refine bkP ?_); rfl) | (first | with_reducible exact rfl | with_reducible assumption | ((repeat' (with_reducible refine and_t ?_ ?_)) <;> (first | with_reducible exact rfl | decide | with_reducible assumption | ((with_reducible first | refine one_t ?_ | refine live_t ?_ | refine all_t ?_ | refine beq_t ?_ | refine isz_t ?_ | refine len_t ?_); rfl) | ((with_reducible refine bs_t ?_ ?_ ?_) <;> first | exact of_decide_eq_true rfl | rfl) | ((with_reducible first | refine mk_t ?_ | refine ap_t (y := 1) rfl ?_ | refine decide_eq_true ?_); (try simp only [List.getElem_toArray, List.getElem_cons_succ, List.getElem_cons_zero, lenOf, List.length_cons, List.length_nil, List.length_set, siz3, byt3, siz72, byt72, siz4, byt4, siz5, byt5, siz50, byt50, siz67, byt67, siz89, byt89]) <;> omega) | ((with_reducible first | refine i64_of ?_ | refine natOk_u64.2 ?_ | refine natOk_i64.2 ?_); omega))))))) | (refine Or.inl (And.intro ?_ ?_); · (with_reducible refine lexOk ?_); kernel_rfl) | refine ⟨fun _ => ?_, fun h => absurd h (by decide)⟩ | refine ⟨fun h => absurd h (by decide), fun _ => ?_⟩))
      exact ⟨some, .boo false, [], by (refine ⟨⟨rfl, ⟨rfl, rfl⟩, Nat.le_of_ble_eq_true rfl⟩, ?_, ?_⟩; (· (repeat (first | exact trivial | refine ⟨⟨rfl, .inr rfl⟩, ?_⟩ | (refine ⟨⟨rfl, .inr ?_⟩, ?_⟩; · rfl)))); (· (repeat (first | exact trivial | (refine And.intro ?_ ?_; · (first | exact ⟨fun _ => rfl, rfl, rfl, fun _ => rfl, rfl, rfl⟩ | exact ⟨fun _ => rfl, rfl, rfl, fun h => (by cases h), rfl, rfl⟩ | exact ⟨fun h => (by cases h), rfl, rfl, fun _ => rfl, rfl, rfl⟩ | exact ⟨fun h => (by cases h), rfl, rfl, fun h => (by cases h), rfl, rfl⟩ | rfl | exact trivial)))))), by simp only [inF, g1, g2]; rfl, rfl⟩
  · have g1 : decide (h ≥ 0) = false := g
    (repeat (first | ((refine And.intro ?_ ?_; · (first | with_reducible exact rfl | ((with_reducible refine bkP ?_); rfl) | (first | with_reducible exact rfl | with_reducible assumption | ((repeat' (with_reducible refine and_t ?_ ?_)) <;> (first | with_reducible exact rfl | decide | with_reducible assumption | ((with_reducible first | refine one_t ?_ | refine live_t ?_ | refine all_t ?_ | refine beq_t ?_ | refine isz_t ?_ | refine len_t ?_); rfl) | ((with_reducible refine bs_t ?_ ?_ ?_) <;> first | exact of_decide_eq_true rfl | rfl) | ((with_reducible first | refine mk_t ?_ | refine ap_t (y := 1) rfl ?_ | refine decide_eq_true ?_); (try simp only [List.getElem_toArray, List.getElem_cons_succ, List.getElem_cons_zero, lenOf, List.length_cons, List.length_nil, List.length_set, siz3, byt3, siz72, byt72, siz4, byt4, siz5, byt5, siz50, byt50, siz67, byt67, siz89, byt89]) <;> omega) | ((with_reducible first | refine i64_of ?_ | refine natOk_u64.2 ?_ | refine natOk_i64.2 ?_); omega))))))) | (refine Or.inl (And.intro ?_ ?_); · (with_reducible refine lexOk ?_); kernel_rfl) | refine ⟨fun _ => ?_, fun h => absurd h (by decide)⟩ | refine ⟨fun h => absurd h (by decide), fun _ => ?_⟩))
    exact ⟨some, .boo false, [], by (refine ⟨⟨rfl, ⟨rfl, rfl⟩, Nat.le_of_ble_eq_true rfl⟩, ?_, ?_⟩; (· (repeat (first | exact trivial | refine ⟨⟨rfl, .inr rfl⟩, ?_⟩ | (refine ⟨⟨rfl, .inr ?_⟩, ?_⟩; · rfl)))); (· (repeat (first | exact trivial | (refine And.intro ?_ ?_; · (first | exact ⟨fun _ => rfl, rfl, rfl, fun _ => rfl, rfl, rfl⟩ | exact ⟨fun _ => rfl, rfl, rfl, fun h => (by cases h), rfl, rfl⟩ | exact ⟨fun h => (by cases h), rfl, rfl, fun _ => rfl, rfl, rfl⟩ | exact ⟨fun h => (by cases h), rfl, rfl, fun h => (by cases h), rfl, rfl⟩ | rfl | exact trivial)))))), by simp only [inF, g1]; rfl, rfl⟩
theorem could_in (s : St) (hs : Good s) (P : Int) (hP : 0 ≤ P ∧ P ≤ 65535) : CallA Try.prog 21 [.t (.a (.s (.ptr 0 0))), .int .i64 P] (heap0 false s) (fun w H => w = tupOf [.a (.s (.v (.int .i64 ((couldV s P : Nat) : Int)))), .a (.s (.v (.int .i64 0)))] ∧ H = heap0 false s) :=
  (could_c s hs P).mono fun _ _ h => h.elim (fun h => h.2) (fun h => absurd hP h.1)
theorem and_ne {X Y : Nat} (h : X &&& Y = X) : ((((X : Int).toNat &&& (Y : Int).toNat : Nat) : Int) != (X : Int)) = false := by
  rw [Int.toNat_natCast, Int.toNat_natCast, h]
  simp
theorem could_same {s : St} (hs : Good s) {P h u : Int} (hP : 0 ≤ P) (hi : inF P h = false) : couldV (grantS s h 65535 3 u (-1)).1 P = couldV s P := by
  by_cases hv : validG h 65535 3 u (-1) = true
  · obtain ⟨⟨h0, h1⟩, _⟩ := validG_bd hv
    exact could_root hs (inF_no hP hi h0 h1)
  · have e : grantS s h 65535 3 u (-1) = (s, 0, 2) := by
      unfold grantS
      rw [if_pos (by simpa using hv)]
    rw [e]
theorem coulds_lt (s : St) (hs : Good s) (P : Int) : couldV s P < 65536 := outF_lt hs P (fun i hi => ((keysF_mem s P).1 hi).1) (Nat.le_refl _)
set_option maxRecDepth 20000 in
set_option maxHeartbeats 8000000 in
theorem law12 (N : Nat) (ys : List Int) (hy : N * 11 = ys.length) (hk : ∀ j, j < N → 0 ≤ ys.getD (j * 11) 0) (P M h : Int) : CallA Try.prog 12 [.t (.a (.s (.slc 0 0 N))), .int .i64 P, .int .i64 M, .int .i64 h] [actsB ys] (fun w H => w = .boo true ∧ H = [actsB ys]) := by
  refine call_of_vc TYok mixedO Try.func12 rfl rfl (Nat.le_of_ble_eq_true rfl) ?_
  by_cases hall : N ≤ 40 ∧ (0 ≤ P ∧ P ≤ 65535) ∧ 0 ≤ M ∧ M ≤ 65535
  · obtain ⟨hN, ⟨p0, p1⟩, m0, m1⟩ := hall
    have q1 : (!decide ((N : Int) ≤ 40)) = false := by rw [decide_eq_true (by omega)]; rfl
    have q2 : decide (P < 0) = false := decide_eq_false (by omega)
    have q3 : decide (P > 65535) = false := decide_eq_false (by omega)
    have q4 : decide (M < 0) = false := decide_eq_false (by omega)
    have q5 : decide (M > 65535) = false := decide_eq_false (by omega)
    (repeat (first | ((refine And.intro ?_ ?_; · (first | with_reducible exact rfl | ((with_reducible refine bkP ?_); rfl) | (first | with_reducible exact rfl | with_reducible assumption | ((repeat' (with_reducible refine and_t ?_ ?_)) <;> (first | with_reducible exact rfl | decide | with_reducible assumption | ((with_reducible first | refine one_t ?_ | refine live_t ?_ | refine all_t ?_ | refine beq_t ?_ | refine isz_t ?_ | refine len_t ?_); rfl) | ((with_reducible refine bs_t ?_ ?_ ?_) <;> first | exact of_decide_eq_true rfl | rfl) | ((with_reducible first | refine mk_t ?_ | refine ap_t (y := 1) rfl ?_ | refine decide_eq_true ?_); (try simp only [List.getElem_toArray, List.getElem_cons_succ, List.getElem_cons_zero, lenOf, List.length_cons, List.length_nil, List.length_set, siz3, byt3, siz72, byt72, siz4, byt4, siz5, byt5, siz50, byt50, siz67, byt67, siz89, byt89]) <;> omega) | ((with_reducible first | refine i64_of ?_ | refine natOk_u64.2 ?_ | refine natOk_i64.2 ?_); omega))))))) | (refine Or.inl (And.intro ?_ ?_); · (with_reducible refine lexOk ?_); kernel_rfl) | refine ⟨fun _ => ?_, fun h => absurd h (by decide)⟩ | refine ⟨fun h => absurd h (by decide), fun _ => ?_⟩))
    (refine call_lift (few_c N ys) (fun i => match i with | 0 => some 0 | _ => none) rfl rfl (by (repeat (first | exact trivial | (refine And.intro ?_ ?_; · (first | exact ⟨fun _ => rfl, rfl, rfl, fun _ => rfl, rfl, rfl⟩ | exact ⟨fun _ => rfl, rfl, rfl, fun h => (by cases h), rfl, rfl⟩ | exact ⟨fun h => (by cases h), rfl, rfl, fun _ => rfl, rfl, rfl⟩ | exact ⟨fun h => (by cases h), rfl, rfl, fun h => (by cases h), rfl, rfl⟩ | rfl | exact trivial))))) rfl rfl rfl ?_; rintro v H1 ⟨rfl, rfl⟩; refine ⟨⟨rfl, rfl, rfl, rfl⟩, ?_⟩; (try simp only [two]); (try simp only [AV.ren]); (try simp only [renT]); (try simp only [AT.ren]); (try simp only [A.ren]); (try (rw [ptr_ren]; rotate_left; exact rfl)); (try (rw [slc_ren]; rotate_left; exact rfl)); (try simp only [S.ren]))
    (repeat (first | ((refine And.intro ?_ ?_; · (first | with_reducible exact rfl | ((with_reducible refine bkP ?_); rfl) | (first | with_reducible exact rfl | with_reducible assumption | ((repeat' (with_reducible refine and_t ?_ ?_)) <;> (first | with_reducible exact rfl | decide | with_reducible assumption | ((with_reducible first | refine one_t ?_ | refine live_t ?_ | refine all_t ?_ | refine beq_t ?_ | refine isz_t ?_ | refine len_t ?_); rfl) | ((with_reducible refine bs_t ?_ ?_ ?_) <;> first | exact of_decide_eq_true rfl | rfl) | ((with_reducible first | refine mk_t ?_ | refine ap_t (y := 1) rfl ?_ | refine decide_eq_true ?_); (try simp only [List.getElem_toArray, List.getElem_cons_succ, List.getElem_cons_zero, lenOf, List.length_cons, List.length_nil, List.length_set, siz3, byt3, siz72, byt72, siz4, byt4, siz5, byt5, siz50, byt50, siz67, byt67, siz89, byt89]) <;> omega) | ((with_reducible first | refine i64_of ?_ | refine natOk_u64.2 ?_ | refine natOk_i64.2 ?_); omega))))))) | (refine Or.inl (And.intro ?_ ?_); · (with_reducible refine lexOk ?_); kernel_rfl) | refine ⟨fun _ => ?_, fun h => absurd h (by decide)⟩ | refine ⟨fun h => absurd h (by decide), fun _ => ?_⟩))
    refine ⟨fun _ => ?_, fun h => absurd (q1.symm.trans h) (by decide)⟩
    (repeat (first | ((refine And.intro ?_ ?_; · (first | with_reducible exact rfl | ((with_reducible refine bkP ?_); rfl) | (first | with_reducible exact rfl | with_reducible assumption | ((repeat' (with_reducible refine and_t ?_ ?_)) <;> (first | with_reducible exact rfl | decide | with_reducible assumption | ((with_reducible first | refine one_t ?_ | refine live_t ?_ | refine all_t ?_ | refine beq_t ?_ | refine isz_t ?_ | refine len_t ?_); rfl) | ((with_reducible refine bs_t ?_ ?_ ?_) <;> first | exact of_decide_eq_true rfl | rfl) | ((with_reducible first | refine mk_t ?_ | refine ap_t (y := 1) rfl ?_ | refine decide_eq_true ?_); (try simp only [List.getElem_toArray, List.getElem_cons_succ, List.getElem_cons_zero, lenOf, List.length_cons, List.length_nil, List.length_set, siz3, byt3, siz72, byt72, siz4, byt4, siz5, byt5, siz50, byt50, siz67, byt67, siz89, byt89]) <;> omega) | ((with_reducible first | refine i64_of ?_ | refine natOk_u64.2 ?_ | refine natOk_i64.2 ?_); omega))))))) | (refine Or.inl (And.intro ?_ ?_); · (with_reducible refine lexOk ?_); kernel_rfl) | refine ⟨fun _ => ?_, fun h => absurd h (by decide)⟩ | refine ⟨fun h => absurd h (by decide), fun _ => ?_⟩))
    refine ⟨fun _ => ?_, fun h => absurd (q2.symm.trans h) (by decide)⟩
    (repeat (first | ((refine And.intro ?_ ?_; · (first | with_reducible exact rfl | ((with_reducible refine bkP ?_); rfl) | (first | with_reducible exact rfl | with_reducible assumption | ((repeat' (with_reducible refine and_t ?_ ?_)) <;> (first | with_reducible exact rfl | decide | with_reducible assumption | ((with_reducible first | refine one_t ?_ | refine live_t ?_ | refine all_t ?_ | refine beq_t ?_ | refine isz_t ?_ | refine len_t ?_); rfl) | ((with_reducible refine bs_t ?_ ?_ ?_) <;> first | exact of_decide_eq_true rfl | rfl) | ((with_reducible first | refine mk_t ?_ | refine ap_t (y := 1) rfl ?_ | refine decide_eq_true ?_); (try simp only [List.getElem_toArray, List.getElem_cons_succ, List.getElem_cons_zero, lenOf, List.length_cons, List.length_nil, List.length_set, siz3, byt3, siz72, byt72, siz4, byt4, siz5, byt5, siz50, byt50, siz67, byt67, siz89, byt89]) <;> omega) | ((with_reducible first | refine i64_of ?_ | refine natOk_u64.2 ?_ | refine natOk_i64.2 ?_); omega))))))) | (refine Or.inl (And.intro ?_ ?_); · (with_reducible refine lexOk ?_); kernel_rfl) | refine ⟨fun _ => ?_, fun h => absurd h (by decide)⟩ | refine ⟨fun h => absurd h (by decide), fun _ => ?_⟩))
    refine ⟨fun _ => ?_, fun h => absurd (q3.symm.trans h) (by decide)⟩
    (repeat (first | ((refine And.intro ?_ ?_; · (first | with_reducible exact rfl | ((with_reducible refine bkP ?_); rfl) | (first | with_reducible exact rfl | with_reducible assumption | ((repeat' (with_reducible refine and_t ?_ ?_)) <;> (first | with_reducible exact rfl | decide | with_reducible assumption | ((with_reducible first | refine one_t ?_ | refine live_t ?_ | refine all_t ?_ | refine beq_t ?_ | refine isz_t ?_ | refine len_t ?_); rfl) | ((with_reducible refine bs_t ?_ ?_ ?_) <;> first | exact of_decide_eq_true rfl | rfl) | ((with_reducible first | refine mk_t ?_ | refine ap_t (y := 1) rfl ?_ | refine decide_eq_true ?_); (try simp only [List.getElem_toArray, List.getElem_cons_succ, List.getElem_cons_zero, lenOf, List.length_cons, List.length_nil, List.length_set, siz3, byt3, siz72, byt72, siz4, byt4, siz5, byt5, siz50, byt50, siz67, byt67, siz89, byt89]) <;> omega) | ((with_reducible first | refine i64_of ?_ | refine natOk_u64.2 ?_ | refine natOk_i64.2 ?_); omega))))))) | (refine Or.inl (And.intro ?_ ?_); · (with_reducible refine lexOk ?_); kernel_rfl) | refine ⟨fun _ => ?_, fun h => absurd h (by decide)⟩ | refine ⟨fun h => absurd h (by decide), fun _ => ?_⟩))
    refine ⟨fun _ => ?_, fun h => absurd (q4.symm.trans h) (by decide)⟩
    (repeat (first | ((refine And.intro ?_ ?_; · (first | with_reducible exact rfl | ((with_reducible refine bkP ?_); rfl) | (first | with_reducible exact rfl | with_reducible assumption | ((repeat' (with_reducible refine and_t ?_ ?_)) <;> (first | with_reducible exact rfl | decide | with_reducible assumption | ((with_reducible first | refine one_t ?_ | refine live_t ?_ | refine all_t ?_ | refine beq_t ?_ | refine isz_t ?_ | refine len_t ?_); rfl) | ((with_reducible refine bs_t ?_ ?_ ?_) <;> first | exact of_decide_eq_true rfl | rfl) | ((with_reducible first | refine mk_t ?_ | refine ap_t (y := 1) rfl ?_ | refine decide_eq_true ?_); (try simp only [List.getElem_toArray, List.getElem_cons_succ, List.getElem_cons_zero, lenOf, List.length_cons, List.length_nil, List.length_set, siz3, byt3, siz72, byt72, siz4, byt4, siz5, byt5, siz50, byt50, siz67, byt67, siz89, byt89]) <;> omega) | ((with_reducible first | refine i64_of ?_ | refine natOk_u64.2 ?_ | refine natOk_i64.2 ?_); omega))))))) | (refine Or.inl (And.intro ?_ ?_); · (with_reducible refine lexOk ?_); kernel_rfl) | refine ⟨fun _ => ?_, fun h => absurd h (by decide)⟩ | refine ⟨fun h => absurd h (by decide), fun _ => ?_⟩))
    refine ⟨fun h => absurd (q5.symm.trans h) (by decide), fun _ => ?_⟩
    (repeat (first | ((refine And.intro ?_ ?_; · (first | with_reducible exact rfl | ((with_reducible refine bkP ?_); rfl) | (first | with_reducible exact rfl | with_reducible assumption | ((repeat' (with_reducible refine and_t ?_ ?_)) <;> (first | with_reducible exact rfl | decide | with_reducible assumption | ((with_reducible first | refine one_t ?_ | refine live_t ?_ | refine all_t ?_ | refine beq_t ?_ | refine isz_t ?_ | refine len_t ?_); rfl) | ((with_reducible refine bs_t ?_ ?_ ?_) <;> first | exact of_decide_eq_true rfl | rfl) | ((with_reducible first | refine mk_t ?_ | refine ap_t (y := 1) rfl ?_ | refine decide_eq_true ?_); (try simp only [List.getElem_toArray, List.getElem_cons_succ, List.getElem_cons_zero, lenOf, List.length_cons, List.length_nil, List.length_set, siz3, byt3, siz72, byt72, siz4, byt4, siz5, byt5, siz50, byt50, siz67, byt67, siz89, byt89]) <;> omega) | ((with_reducible first | refine i64_of ?_ | refine natOk_u64.2 ?_ | refine natOk_i64.2 ?_); omega))))))) | (refine Or.inl (And.intro ?_ ?_); · (with_reducible refine lexOk ?_); kernel_rfl) | refine ⟨fun _ => ?_, fun h => absurd h (by decide)⟩ | refine ⟨fun h => absurd h (by decide), fun _ => ?_⟩))
    (refine call_lift (book_c N ys hy (by omega) hk) (fun i => match i with | 0 => some 0 | _ => none) rfl rfl (by (repeat (first | exact trivial | (refine And.intro ?_ ?_; · (first | exact ⟨fun _ => rfl, rfl, rfl, fun _ => rfl, rfl, rfl⟩ | exact ⟨fun _ => rfl, rfl, rfl, fun h => (by cases h), rfl, rfl⟩ | exact ⟨fun h => (by cases h), rfl, rfl, fun _ => rfl, rfl, rfl⟩ | exact ⟨fun h => (by cases h), rfl, rfl, fun h => (by cases h), rfl, rfl⟩ | rfl | exact trivial))))) rfl rfl rfl ?_; rintro v H1 ⟨rfl, rfl⟩; refine ⟨⟨rfl, rfl, rfl, rfl⟩, ?_⟩; (try simp only [two]); (try simp only [AV.ren]); (try simp only [renT]); (try simp only [AT.ren]); (try simp only [A.ren]); (try (rw [ptr_ren]; rotate_left; exact rfl)); (try (rw [slc_ren]; rotate_left; exact rfl)); (try simp only [S.ren]))
    have hs := runS_good ys N
    generalize runS ys N = s at *
    have hX := coulds_lt s hs P
    have hY := coulds_lt s hs ((P.toNat ||| M.toNat : Nat) : Int)
    have hor : P.toNat ||| M.toNat < 2 ^ 16 := Nat.or_lt_two_pow (by omega) (by omega)
    have hmore := could_more hs p0 m0
    (repeat (first | ((refine And.intro ?_ ?_; · (first | with_reducible exact rfl | ((with_reducible refine bkP ?_); rfl) | (first | with_reducible exact rfl | with_reducible assumption | ((repeat' (with_reducible refine and_t ?_ ?_)) <;> (first | with_reducible exact rfl | decide | with_reducible assumption | ((with_reducible first | refine one_t ?_ | refine live_t ?_ | refine all_t ?_ | refine beq_t ?_ | refine isz_t ?_ | refine len_t ?_); rfl) | ((with_reducible refine bs_t ?_ ?_ ?_) <;> first | exact of_decide_eq_true rfl | rfl) | ((with_reducible first | refine mk_t ?_ | refine ap_t (y := 1) rfl ?_ | refine decide_eq_true ?_); (try simp only [List.getElem_toArray, List.getElem_cons_succ, List.getElem_cons_zero, lenOf, List.length_cons, List.length_nil, List.length_set, siz3, byt3, siz72, byt72, siz4, byt4, siz5, byt5, siz50, byt50, siz67, byt67, siz89, byt89]) <;> omega) | ((with_reducible first | refine i64_of ?_ | refine natOk_u64.2 ?_ | refine natOk_i64.2 ?_); omega))))))) | (refine Or.inl (And.intro ?_ ?_); · (with_reducible refine lexOk ?_); kernel_rfl) | refine ⟨fun _ => ?_, fun h => absurd h (by decide)⟩ | refine ⟨fun h => absurd h (by decide), fun _ => ?_⟩))
    (refine call_lift (could_in s hs P ⟨p0, p1⟩) (fun i => match i with | 0 => some 1 | 1 => some 2 | 2 => some 3 | _ => none) rfl rfl (by (repeat (first | exact trivial | (refine And.intro ?_ ?_; · (first | exact ⟨fun _ => rfl, rfl, rfl, fun _ => rfl, rfl, rfl⟩ | exact ⟨fun _ => rfl, rfl, rfl, fun h => (by cases h), rfl, rfl⟩ | exact ⟨fun h => (by cases h), rfl, rfl, fun _ => rfl, rfl, rfl⟩ | exact ⟨fun h => (by cases h), rfl, rfl, fun h => (by cases h), rfl, rfl⟩ | rfl | exact trivial))))) rfl rfl rfl ?_; rintro v H1 ⟨rfl, rfl⟩; refine ⟨⟨rfl, rfl, rfl, rfl⟩, ?_⟩; (try simp only [two]); (try simp only [AV.ren]); (try simp only [renT]); (try simp only [AT.ren]); (try simp only [A.ren]); (try (rw [ptr_ren]; rotate_left; exact rfl)); (try (rw [slc_ren]; rotate_left; exact rfl)); (try simp only [S.ren]))
    (repeat (first | ((refine And.intro ?_ ?_; · (first | with_reducible exact rfl | ((with_reducible refine bkP ?_); rfl) | (first | with_reducible exact rfl | with_reducible assumption | ((repeat' (with_reducible refine and_t ?_ ?_)) <;> (first | with_reducible exact rfl | decide | with_reducible assumption | ((with_reducible first | refine one_t ?_ | refine live_t ?_ | refine all_t ?_ | refine beq_t ?_ | refine isz_t ?_ | refine len_t ?_); rfl) | ((with_reducible refine bs_t ?_ ?_ ?_) <;> first | exact of_decide_eq_true rfl | rfl) | ((with_reducible first | refine mk_t ?_ | refine ap_t (y := 1) rfl ?_ | refine decide_eq_true ?_); (try simp only [List.getElem_toArray, List.getElem_cons_succ, List.getElem_cons_zero, lenOf, List.length_cons, List.length_nil, List.length_set, siz3, byt3, siz72, byt72, siz4, byt4, siz5, byt5, siz50, byt50, siz67, byt67, siz89, byt89]) <;> omega) | ((with_reducible first | refine i64_of ?_ | refine natOk_u64.2 ?_ | refine natOk_i64.2 ?_); omega))))))) | (refine Or.inl (And.intro ?_ ?_); · (with_reducible refine lexOk ?_); kernel_rfl) | refine ⟨fun _ => ?_, fun h => absurd h (by decide)⟩ | refine ⟨fun h => absurd h (by decide), fun _ => ?_⟩))
    (refine call_lift (could_in s hs ((P.toNat ||| M.toNat : Nat) : Int) ⟨by omega, by omega⟩) (fun i => match i with | 0 => some 1 | 1 => some 2 | 2 => some 3 | _ => none) rfl rfl (by (repeat (first | exact trivial | (refine And.intro ?_ ?_; · (first | exact ⟨fun _ => rfl, rfl, rfl, fun _ => rfl, rfl, rfl⟩ | exact ⟨fun _ => rfl, rfl, rfl, fun h => (by cases h), rfl, rfl⟩ | exact ⟨fun h => (by cases h), rfl, rfl, fun _ => rfl, rfl, rfl⟩ | exact ⟨fun h => (by cases h), rfl, rfl, fun h => (by cases h), rfl, rfl⟩ | rfl | exact trivial))))) rfl rfl rfl ?_; rintro v H1 ⟨rfl, rfl⟩; refine ⟨⟨rfl, rfl, rfl, rfl⟩, ?_⟩; (try simp only [two]); (try simp only [AV.ren]); (try simp only [renT]); (try simp only [AT.ren]); (try simp only [A.ren]); (try (rw [ptr_ren]; rotate_left; exact rfl)); (try (rw [slc_ren]; rotate_left; exact rfl)); (try simp only [S.ren]))
    have q6 := and_ne hmore
    (repeat (first | ((refine And.intro ?_ ?_; · (first | with_reducible exact rfl | ((with_reducible refine bkP ?_); rfl) | (first | with_reducible exact rfl | with_reducible assumption | ((repeat' (with_reducible refine and_t ?_ ?_)) <;> (first | with_reducible exact rfl | decide | with_reducible assumption | ((with_reducible first | refine one_t ?_ | refine live_t ?_ | refine all_t ?_ | refine beq_t ?_ | refine isz_t ?_ | refine len_t ?_); rfl) | ((with_reducible refine bs_t ?_ ?_ ?_) <;> first | exact of_decide_eq_true rfl | rfl) | ((with_reducible first | refine mk_t ?_ | refine ap_t (y := 1) rfl ?_ | refine decide_eq_true ?_); (try simp only [List.getElem_toArray, List.getElem_cons_succ, List.getElem_cons_zero, lenOf, List.length_cons, List.length_nil, List.length_set, siz3, byt3, siz72, byt72, siz4, byt4, siz5, byt5, siz50, byt50, siz67, byt67, siz89, byt89]) <;> omega) | ((with_reducible first | refine i64_of ?_ | refine natOk_u64.2 ?_ | refine natOk_i64.2 ?_); omega))))))) | (refine Or.inl (And.intro ?_ ?_); · (with_reducible refine lexOk ?_); kernel_rfl) | refine ⟨fun _ => ?_, fun h => absurd h (by decide)⟩ | refine ⟨fun h => absurd h (by decide), fun _ => ?_⟩))
    refine ⟨fun h => absurd (q6.symm.trans h) (by decide), fun _ => ?_⟩
    (repeat (first | ((refine And.intro ?_ ?_; · (first | with_reducible exact rfl | ((with_reducible refine bkP ?_); rfl) | (first | with_reducible exact rfl | with_reducible assumption | ((repeat' (with_reducible refine and_t ?_ ?_)) <;> (first | with_reducible exact rfl | decide | with_reducible assumption | ((with_reducible first | refine one_t ?_ | refine live_t ?_ | refine all_t ?_ | refine beq_t ?_ | refine isz_t ?_ | refine len_t ?_); rfl) | ((with_reducible refine bs_t ?_ ?_ ?_) <;> first | exact of_decide_eq_true rfl | rfl) | ((with_reducible first | refine mk_t ?_ | refine ap_t (y := 1) rfl ?_ | refine decide_eq_true ?_); (try simp only [List.getElem_toArray, List.getElem_cons_succ, List.getElem_cons_zero, lenOf, List.length_cons, List.length_nil, List.length_set, siz3, byt3, siz72, byt72, siz4, byt4, siz5, byt5, siz50, byt50, siz67, byt67, siz89, byt89]) <;> omega) | ((with_reducible first | refine i64_of ?_ | refine natOk_u64.2 ?_ | refine natOk_i64.2 ?_); omega))))))) | (refine Or.inl (And.intro ?_ ?_); · (with_reducible refine lexOk ?_); kernel_rfl) | refine ⟨fun _ => ?_, fun h => absurd h (by decide)⟩ | refine ⟨fun h => absurd h (by decide), fun _ => ?_⟩))
    (refine call_lift (in_c P h p0) (fun i => match i with | 0 => none | _ => none) rfl rfl (by (repeat (first | exact trivial | (refine And.intro ?_ ?_; · (first | exact ⟨fun _ => rfl, rfl, rfl, fun _ => rfl, rfl, rfl⟩ | exact ⟨fun _ => rfl, rfl, rfl, fun h => (by cases h), rfl, rfl⟩ | exact ⟨fun h => (by cases h), rfl, rfl, fun _ => rfl, rfl, rfl⟩ | exact ⟨fun h => (by cases h), rfl, rfl, fun h => (by cases h), rfl, rfl⟩ | rfl | exact trivial))))) rfl rfl rfl ?_; rintro v H1 ⟨rfl, rfl⟩; refine ⟨⟨rfl, rfl, rfl, rfl⟩, ?_⟩; (try simp only [two]); (try simp only [AV.ren]); (try simp only [renT]); (try simp only [AT.ren]); (try simp only [A.ren]); (try (rw [ptr_ren]; rotate_left; exact rfl)); (try (rw [slc_ren]; rotate_left; exact rfl)); (try simp only [S.ren]))
    (repeat (first | ((refine And.intro ?_ ?_; · (first | with_reducible exact rfl | ((with_reducible refine bkP ?_); rfl) | (first | with_reducible exact rfl | with_reducible assumption | ((repeat' (with_reducible refine and_t ?_ ?_)) <;> (first | with_reducible exact rfl | decide | with_reducible assumption | ((with_reducible first | refine one_t ?_ | refine live_t ?_ | refine all_t ?_ | refine beq_t ?_ | refine isz_t ?_ | refine len_t ?_); rfl) | ((with_reducible refine bs_t ?_ ?_ ?_) <;> first | exact of_decide_eq_true rfl | rfl) | ((with_reducible first | refine mk_t ?_ | refine ap_t (y := 1) rfl ?_ | refine decide_eq_true ?_); (try simp only [List.getElem_toArray, List.getElem_cons_succ, List.getElem_cons_zero, lenOf, List.length_cons, List.length_nil, List.length_set, siz3, byt3, siz72, byt72, siz4, byt4, siz5, byt5, siz50, byt50, siz67, byt67, siz89, byt89]) <;> omega) | ((with_reducible first | refine i64_of ?_ | refine natOk_u64.2 ?_ | refine natOk_i64.2 ?_); omega))))))) | (refine Or.inl (And.intro ?_ ?_); · (with_reducible refine lexOk ?_); kernel_rfl) | refine ⟨fun _ => ?_, fun h => absurd h (by decide)⟩ | refine ⟨fun h => absurd h (by decide), fun _ => ?_⟩))
    refine ⟨fun g => ?_, fun g => ?_⟩
    · (repeat (first | ((refine And.intro ?_ ?_; · (first | with_reducible exact rfl | ((with_reducible refine bkP ?_); rfl) | (first | with_reducible exact rfl | with_reducible assumption | ((repeat' (with_reducible refine and_t ?_ ?_)) <;> (first | with_reducible exact rfl | decide | with_reducible assumption | ((with_reducible first | refine one_t ?_ | refine live_t ?_ | refine all_t ?_ | refine beq_t ?_ | refine isz_t ?_ | refine len_t ?_); rfl) | ((with_reducible refine bs_t ?_ ?_ ?_) <;> first | exact of_decide_eq_true rfl | rfl) | ((with_reducible first | refine mk_t ?_ | refine ap_t (y := 1) rfl ?_ | refine decide_eq_true ?_); (try simp only [List.getElem_toArray, List.getElem_cons_succ, List.getElem_cons_zero, lenOf, List.length_cons, List.length_nil, List.length_set, siz3, byt3, siz72, byt72, siz4, byt4, siz5, byt5, siz50, byt50, siz67, byt67, siz89, byt89]) <;> omega) | ((with_reducible first | refine i64_of ?_ | refine natOk_u64.2 ?_ | refine natOk_i64.2 ?_); omega))))))) | (refine Or.inl (And.intro ?_ ?_); · (with_reducible refine lexOk ?_); kernel_rfl) | refine ⟨fun _ => ?_, fun h => absurd h (by decide)⟩ | refine ⟨fun h => absurd h (by decide), fun _ => ?_⟩))
      (refine call_lift (alive_c) (fun i => match i with | 0 => none | _ => none) rfl rfl (by (repeat (first | exact trivial | (refine And.intro ?_ ?_; · (first | exact ⟨fun _ => rfl, rfl, rfl, fun _ => rfl, rfl, rfl⟩ | exact ⟨fun _ => rfl, rfl, rfl, fun h => (by cases h), rfl, rfl⟩ | exact ⟨fun h => (by cases h), rfl, rfl, fun _ => rfl, rfl, rfl⟩ | exact ⟨fun h => (by cases h), rfl, rfl, fun h => (by cases h), rfl, rfl⟩ | rfl | exact trivial))))) rfl rfl rfl ?_; rintro v H1 ⟨rfl, rfl⟩; refine ⟨⟨rfl, rfl, rfl, rfl⟩, ?_⟩; (try simp only [two]); (try simp only [AV.ren]); (try simp only [renT]); (try simp only [AT.ren]); (try simp only [A.ren]); (try (rw [ptr_ren]; rotate_left; exact rfl)); (try (rw [slc_ren]; rotate_left; exact rfl)); (try simp only [S.ren]))
      (repeat (first | ((refine And.intro ?_ ?_; · (first | with_reducible exact rfl | ((with_reducible refine bkP ?_); rfl) | (first | with_reducible exact rfl | with_reducible assumption | ((repeat' (with_reducible refine and_t ?_ ?_)) <;> (first | with_reducible exact rfl | decide | with_reducible assumption | ((with_reducible first | refine one_t ?_ | refine live_t ?_ | refine all_t ?_ | refine beq_t ?_ | refine isz_t ?_ | refine len_t ?_); rfl) | ((with_reducible refine bs_t ?_ ?_ ?_) <;> first | exact of_decide_eq_true rfl | rfl) | ((with_reducible first | refine mk_t ?_ | refine ap_t (y := 1) rfl ?_ | refine decide_eq_true ?_); (try simp only [List.getElem_toArray, List.getElem_cons_succ, List.getElem_cons_zero, lenOf, List.length_cons, List.length_nil, List.length_set, siz3, byt3, siz72, byt72, siz4, byt4, siz5, byt5, siz50, byt50, siz67, byt67, siz89, byt89]) <;> omega) | ((with_reducible first | refine i64_of ?_ | refine natOk_u64.2 ?_ | refine natOk_i64.2 ?_); omega))))))) | (refine Or.inl (And.intro ?_ ?_); · (with_reducible refine lexOk ?_); kernel_rfl) | refine ⟨fun _ => ?_, fun h => absurd h (by decide)⟩ | refine ⟨fun h => absurd h (by decide), fun _ => ?_⟩))
      exact ⟨fun i => match i with | 0 => some 0 | _ => none, .boo true, [actsB ys], by (refine ⟨⟨rfl, ⟨rfl, rfl⟩, Nat.le_of_ble_eq_true rfl⟩, ?_, ?_⟩; (· (repeat (first | exact trivial | refine ⟨⟨rfl, .inr rfl⟩, ?_⟩ | (refine ⟨⟨rfl, .inr ?_⟩, ?_⟩; · rfl)))); (· (repeat (first | exact trivial | (refine And.intro ?_ ?_; · (first | exact ⟨fun _ => rfl, rfl, rfl, fun _ => rfl, rfl, rfl⟩ | exact ⟨fun _ => rfl, rfl, rfl, fun h => (by cases h), rfl, rfl⟩ | exact ⟨fun h => (by cases h), rfl, rfl, fun _ => rfl, rfl, rfl⟩ | exact ⟨fun h => (by cases h), rfl, rfl, fun h => (by cases h), rfl, rfl⟩ | rfl | exact trivial)))))), rfl, rfl⟩
    · have hi : inF P h = false := g
      have hroot := could_same hs (u := s.d) p0 hi
      have hs' := grantS_good hs h 65535 3 s.d (-1)
      (repeat (first | ((refine And.intro ?_ ?_; · (first | with_reducible exact rfl | ((with_reducible refine bkP ?_); rfl) | (first | with_reducible exact rfl | with_reducible assumption | ((repeat' (with_reducible refine and_t ?_ ?_)) <;> (first | with_reducible exact rfl | decide | with_reducible assumption | ((with_reducible first | refine one_t ?_ | refine live_t ?_ | refine all_t ?_ | refine beq_t ?_ | refine isz_t ?_ | refine len_t ?_); rfl) | ((with_reducible refine bs_t ?_ ?_ ?_) <;> first | exact of_decide_eq_true rfl | rfl) | ((with_reducible first | refine mk_t ?_ | refine ap_t (y := 1) rfl ?_ | refine decide_eq_true ?_); (try simp only [List.getElem_toArray, List.getElem_cons_succ, List.getElem_cons_zero, lenOf, List.length_cons, List.length_nil, List.length_set, siz3, byt3, siz72, byt72, siz4, byt4, siz5, byt5, siz50, byt50, siz67, byt67, siz89, byt89]) <;> omega) | ((with_reducible first | refine i64_of ?_ | refine natOk_u64.2 ?_ | refine natOk_i64.2 ?_); omega))))))) | (refine Or.inl (And.intro ?_ ?_); · (with_reducible refine lexOk ?_); kernel_rfl) | refine ⟨fun _ => ?_, fun h => absurd h (by decide)⟩ | refine ⟨fun h => absurd h (by decide), fun _ => ?_⟩))
      (refine call_lift (Day_c s.d s.n s.xs s.m s.es) (fun i => match i with | 0 => some 1 | 1 => some 2 | 2 => some 3 | _ => none) rfl rfl (by (repeat (first | exact trivial | (refine And.intro ?_ ?_; · (first | exact ⟨fun _ => rfl, rfl, rfl, fun _ => rfl, rfl, rfl⟩ | exact ⟨fun _ => rfl, rfl, rfl, fun h => (by cases h), rfl, rfl⟩ | exact ⟨fun h => (by cases h), rfl, rfl, fun _ => rfl, rfl, rfl⟩ | exact ⟨fun h => (by cases h), rfl, rfl, fun h => (by cases h), rfl, rfl⟩ | rfl | exact trivial))))) rfl rfl rfl ?_; rintro v H1 ⟨rfl, rfl⟩; refine ⟨⟨rfl, rfl, rfl, rfl⟩, ?_⟩; (try simp only [two]); (try simp only [AV.ren]); (try simp only [renT]); (try simp only [AT.ren]); (try simp only [A.ren]); (try (rw [ptr_ren]; rotate_left; exact rfl)); (try (rw [slc_ren]; rotate_left; exact rfl)); (try simp only [S.ren]))
      (repeat (first | ((refine And.intro ?_ ?_; · (first | with_reducible exact rfl | ((with_reducible refine bkP ?_); rfl) | (first | with_reducible exact rfl | with_reducible assumption | ((repeat' (with_reducible refine and_t ?_ ?_)) <;> (first | with_reducible exact rfl | decide | with_reducible assumption | ((with_reducible first | refine one_t ?_ | refine live_t ?_ | refine all_t ?_ | refine beq_t ?_ | refine isz_t ?_ | refine len_t ?_); rfl) | ((with_reducible refine bs_t ?_ ?_ ?_) <;> first | exact of_decide_eq_true rfl | rfl) | ((with_reducible first | refine mk_t ?_ | refine ap_t (y := 1) rfl ?_ | refine decide_eq_true ?_); (try simp only [List.getElem_toArray, List.getElem_cons_succ, List.getElem_cons_zero, lenOf, List.length_cons, List.length_nil, List.length_set, siz3, byt3, siz72, byt72, siz4, byt4, siz5, byt5, siz50, byt50, siz67, byt67, siz89, byt89]) <;> omega) | ((with_reducible first | refine i64_of ?_ | refine natOk_u64.2 ?_ | refine natOk_i64.2 ?_); omega))))))) | (refine Or.inl (And.intro ?_ ?_); · (with_reducible refine lexOk ?_); kernel_rfl) | refine ⟨fun _ => ?_, fun h => absurd h (by decide)⟩ | refine ⟨fun h => absurd h (by decide), fun _ => ?_⟩))
      (refine call_lift (grant_all s hs h 65535 3 s.d (-1)) (fun i => match i with | 0 => some 1 | 1 => some 2 | 2 => some 3 | _ => none) rfl rfl (by (repeat (first | exact trivial | (refine And.intro ?_ ?_; · (first | exact ⟨fun _ => rfl, rfl, rfl, fun _ => rfl, rfl, rfl⟩ | exact ⟨fun _ => rfl, rfl, rfl, fun h => (by cases h), rfl, rfl⟩ | exact ⟨fun h => (by cases h), rfl, rfl, fun _ => rfl, rfl, rfl⟩ | exact ⟨fun h => (by cases h), rfl, rfl, fun h => (by cases h), rfl, rfl⟩ | rfl | exact trivial))))) rfl rfl rfl ?_)
      generalize grantS s h 65535 3 s.d (-1) = p at *
      obtain ⟨s', no, er⟩ := p
      dsimp only at hroot hs'
      have q7 : (((couldV s' P : Nat) : Int) == ((couldV s P : Nat) : Int)) = true := by rw [hroot]; simp
      rintro v H1 ⟨rfl, (rfl | rfl)⟩
      · refine ⟨⟨rfl, rfl, rfl, rfl⟩, ?_⟩
        ((try simp only [two]); (try simp only [AV.ren]); (try simp only [renT]); (try simp only [AT.ren]); (try simp only [A.ren]); (try (rw [ptr_ren]; rotate_left; exact rfl)); (try (rw [slc_ren]; rotate_left; exact rfl)); (try simp only [S.ren]))
        (repeat (first | ((refine And.intro ?_ ?_; · (first | with_reducible exact rfl | ((with_reducible refine bkP ?_); rfl) | (first | with_reducible exact rfl | with_reducible assumption | ((repeat' (with_reducible refine and_t ?_ ?_)) <;> (first | with_reducible exact rfl | decide | with_reducible assumption | ((with_reducible first | refine one_t ?_ | refine live_t ?_ | refine all_t ?_ | refine beq_t ?_ | refine isz_t ?_ | refine len_t ?_); rfl) | ((with_reducible refine bs_t ?_ ?_ ?_) <;> first | exact of_decide_eq_true rfl | rfl) | ((with_reducible first | refine mk_t ?_ | refine ap_t (y := 1) rfl ?_ | refine decide_eq_true ?_); (try simp only [List.getElem_toArray, List.getElem_cons_succ, List.getElem_cons_zero, lenOf, List.length_cons, List.length_nil, List.length_set, siz3, byt3, siz72, byt72, siz4, byt4, siz5, byt5, siz50, byt50, siz67, byt67, siz89, byt89]) <;> omega) | ((with_reducible first | refine i64_of ?_ | refine natOk_u64.2 ?_ | refine natOk_i64.2 ?_); omega))))))) | (refine Or.inl (And.intro ?_ ?_); · (with_reducible refine lexOk ?_); kernel_rfl) | refine ⟨fun _ => ?_, fun h => absurd h (by decide)⟩ | refine ⟨fun h => absurd h (by decide), fun _ => ?_⟩))
        (refine call_lift (could_in s' hs' P ⟨p0, p1⟩) (fun i => match i with | 0 => some 1 | 1 => some 2 | 2 => some 3 | _ => none) rfl rfl (by (repeat (first | exact trivial | (refine And.intro ?_ ?_; · (first | exact ⟨fun _ => rfl, rfl, rfl, fun _ => rfl, rfl, rfl⟩ | exact ⟨fun _ => rfl, rfl, rfl, fun h => (by cases h), rfl, rfl⟩ | exact ⟨fun h => (by cases h), rfl, rfl, fun _ => rfl, rfl, rfl⟩ | exact ⟨fun h => (by cases h), rfl, rfl, fun h => (by cases h), rfl, rfl⟩ | rfl | exact trivial))))) rfl rfl rfl ?_; rintro v H1 ⟨rfl, rfl⟩; refine ⟨⟨rfl, rfl, rfl, rfl⟩, ?_⟩; (try simp only [two]); (try simp only [AV.ren]); (try simp only [renT]); (try simp only [AT.ren]); (try simp only [A.ren]); (try (rw [ptr_ren]; rotate_left; exact rfl)); (try (rw [slc_ren]; rotate_left; exact rfl)); (try simp only [S.ren]))
        (repeat (first | ((refine And.intro ?_ ?_; · (first | with_reducible exact rfl | ((with_reducible refine bkP ?_); rfl) | (first | with_reducible exact rfl | with_reducible assumption | ((repeat' (with_reducible refine and_t ?_ ?_)) <;> (first | with_reducible exact rfl | decide | with_reducible assumption | ((with_reducible first | refine one_t ?_ | refine live_t ?_ | refine all_t ?_ | refine beq_t ?_ | refine isz_t ?_ | refine len_t ?_); rfl) | ((with_reducible refine bs_t ?_ ?_ ?_) <;> first | exact of_decide_eq_true rfl | rfl) | ((with_reducible first | refine mk_t ?_ | refine ap_t (y := 1) rfl ?_ | refine decide_eq_true ?_); (try simp only [List.getElem_toArray, List.getElem_cons_succ, List.getElem_cons_zero, lenOf, List.length_cons, List.length_nil, List.length_set, siz3, byt3, siz72, byt72, siz4, byt4, siz5, byt5, siz50, byt50, siz67, byt67, siz89, byt89]) <;> omega) | ((with_reducible first | refine i64_of ?_ | refine natOk_u64.2 ?_ | refine natOk_i64.2 ?_); omega))))))) | (refine Or.inl (And.intro ?_ ?_); · (with_reducible refine lexOk ?_); kernel_rfl) | refine ⟨fun _ => ?_, fun h => absurd h (by decide)⟩ | refine ⟨fun h => absurd h (by decide), fun _ => ?_⟩))
        refine ⟨fun _ => ?_, fun h => absurd (q7.symm.trans h) (by decide)⟩
        (repeat (first | ((refine And.intro ?_ ?_; · (first | with_reducible exact rfl | ((with_reducible refine bkP ?_); rfl) | (first | with_reducible exact rfl | with_reducible assumption | ((repeat' (with_reducible refine and_t ?_ ?_)) <;> (first | with_reducible exact rfl | decide | with_reducible assumption | ((with_reducible first | refine one_t ?_ | refine live_t ?_ | refine all_t ?_ | refine beq_t ?_ | refine isz_t ?_ | refine len_t ?_); rfl) | ((with_reducible refine bs_t ?_ ?_ ?_) <;> first | exact of_decide_eq_true rfl | rfl) | ((with_reducible first | refine mk_t ?_ | refine ap_t (y := 1) rfl ?_ | refine decide_eq_true ?_); (try simp only [List.getElem_toArray, List.getElem_cons_succ, List.getElem_cons_zero, lenOf, List.length_cons, List.length_nil, List.length_set, siz3, byt3, siz72, byt72, siz4, byt4, siz5, byt5, siz50, byt50, siz67, byt67, siz89, byt89]) <;> omega) | ((with_reducible first | refine i64_of ?_ | refine natOk_u64.2 ?_ | refine natOk_i64.2 ?_); omega))))))) | (refine Or.inl (And.intro ?_ ?_); · (with_reducible refine lexOk ?_); kernel_rfl) | refine ⟨fun _ => ?_, fun h => absurd h (by decide)⟩ | refine ⟨fun h => absurd h (by decide), fun _ => ?_⟩))
        (refine call_lift (alive_c) (fun i => match i with | 0 => none | _ => none) rfl rfl (by (repeat (first | exact trivial | (refine And.intro ?_ ?_; · (first | exact ⟨fun _ => rfl, rfl, rfl, fun _ => rfl, rfl, rfl⟩ | exact ⟨fun _ => rfl, rfl, rfl, fun h => (by cases h), rfl, rfl⟩ | exact ⟨fun h => (by cases h), rfl, rfl, fun _ => rfl, rfl, rfl⟩ | exact ⟨fun h => (by cases h), rfl, rfl, fun h => (by cases h), rfl, rfl⟩ | rfl | exact trivial))))) rfl rfl rfl ?_; rintro v H1 ⟨rfl, rfl⟩; refine ⟨⟨rfl, rfl, rfl, rfl⟩, ?_⟩; (try simp only [two]); (try simp only [AV.ren]); (try simp only [renT]); (try simp only [AT.ren]); (try simp only [A.ren]); (try (rw [ptr_ren]; rotate_left; exact rfl)); (try (rw [slc_ren]; rotate_left; exact rfl)); (try simp only [S.ren]))
        (repeat (first | ((refine And.intro ?_ ?_; · (first | with_reducible exact rfl | ((with_reducible refine bkP ?_); rfl) | (first | with_reducible exact rfl | with_reducible assumption | ((repeat' (with_reducible refine and_t ?_ ?_)) <;> (first | with_reducible exact rfl | decide | with_reducible assumption | ((with_reducible first | refine one_t ?_ | refine live_t ?_ | refine all_t ?_ | refine beq_t ?_ | refine isz_t ?_ | refine len_t ?_); rfl) | ((with_reducible refine bs_t ?_ ?_ ?_) <;> first | exact of_decide_eq_true rfl | rfl) | ((with_reducible first | refine mk_t ?_ | refine ap_t (y := 1) rfl ?_ | refine decide_eq_true ?_); (try simp only [List.getElem_toArray, List.getElem_cons_succ, List.getElem_cons_zero, lenOf, List.length_cons, List.length_nil, List.length_set, siz3, byt3, siz72, byt72, siz4, byt4, siz5, byt5, siz50, byt50, siz67, byt67, siz89, byt89]) <;> omega) | ((with_reducible first | refine i64_of ?_ | refine natOk_u64.2 ?_ | refine natOk_i64.2 ?_); omega))))))) | (refine Or.inl (And.intro ?_ ?_); · (with_reducible refine lexOk ?_); kernel_rfl) | refine ⟨fun _ => ?_, fun h => absurd h (by decide)⟩ | refine ⟨fun h => absurd h (by decide), fun _ => ?_⟩))
        exact ⟨fun i => match i with | 0 => some 0 | _ => none, .boo true, [actsB ys], by (refine ⟨⟨rfl, ⟨rfl, rfl⟩, Nat.le_of_ble_eq_true rfl⟩, ?_, ?_⟩; (· (repeat (first | exact trivial | refine ⟨⟨rfl, .inr rfl⟩, ?_⟩ | (refine ⟨⟨rfl, .inr ?_⟩, ?_⟩; · rfl)))); (· (repeat (first | exact trivial | (refine And.intro ?_ ?_; · (first | exact ⟨fun _ => rfl, rfl, rfl, fun _ => rfl, rfl, rfl⟩ | exact ⟨fun _ => rfl, rfl, rfl, fun h => (by cases h), rfl, rfl⟩ | exact ⟨fun h => (by cases h), rfl, rfl, fun _ => rfl, rfl, rfl⟩ | exact ⟨fun h => (by cases h), rfl, rfl, fun h => (by cases h), rfl, rfl⟩ | rfl | exact trivial)))))), rfl, rfl⟩
      · refine ⟨⟨rfl, rfl, rfl, rfl⟩, ?_⟩
        ((try simp only [two]); (try simp only [AV.ren]); (try simp only [renT]); (try simp only [AT.ren]); (try simp only [A.ren]); (try (rw [ptr_ren]; rotate_left; exact rfl)); (try (rw [slc_ren]; rotate_left; exact rfl)); (try simp only [S.ren]))
        (repeat (first | ((refine And.intro ?_ ?_; · (first | with_reducible exact rfl | ((with_reducible refine bkP ?_); rfl) | (first | with_reducible exact rfl | with_reducible assumption | ((repeat' (with_reducible refine and_t ?_ ?_)) <;> (first | with_reducible exact rfl | decide | with_reducible assumption | ((with_reducible first | refine one_t ?_ | refine live_t ?_ | refine all_t ?_ | refine beq_t ?_ | refine isz_t ?_ | refine len_t ?_); rfl) | ((with_reducible refine bs_t ?_ ?_ ?_) <;> first | exact of_decide_eq_true rfl | rfl) | ((with_reducible first | refine mk_t ?_ | refine ap_t (y := 1) rfl ?_ | refine decide_eq_true ?_); (try simp only [List.getElem_toArray, List.getElem_cons_succ, List.getElem_cons_zero, lenOf, List.length_cons, List.length_nil, List.length_set, siz3, byt3, siz72, byt72, siz4, byt4, siz5, byt5, siz50, byt50, siz67, byt67, siz89, byt89]) <;> omega) | ((with_reducible first | refine i64_of ?_ | refine natOk_u64.2 ?_ | refine natOk_i64.2 ?_); omega))))))) | (refine Or.inl (And.intro ?_ ?_); · (with_reducible refine lexOk ?_); kernel_rfl) | refine ⟨fun _ => ?_, fun h => absurd h (by decide)⟩ | refine ⟨fun h => absurd h (by decide), fun _ => ?_⟩))
        (refine call_lift (could_in s' hs' P ⟨p0, p1⟩) (fun i => match i with | 0 => some 1 | 1 => some 4 | 2 => some 3 | _ => none) rfl rfl (by (repeat (first | exact trivial | (refine And.intro ?_ ?_; · (first | exact ⟨fun _ => rfl, rfl, rfl, fun _ => rfl, rfl, rfl⟩ | exact ⟨fun _ => rfl, rfl, rfl, fun h => (by cases h), rfl, rfl⟩ | exact ⟨fun h => (by cases h), rfl, rfl, fun _ => rfl, rfl, rfl⟩ | exact ⟨fun h => (by cases h), rfl, rfl, fun h => (by cases h), rfl, rfl⟩ | rfl | exact trivial))))) rfl rfl rfl ?_; rintro v H1 ⟨rfl, rfl⟩; refine ⟨⟨rfl, rfl, rfl, rfl⟩, ?_⟩; (try simp only [two]); (try simp only [AV.ren]); (try simp only [renT]); (try simp only [AT.ren]); (try simp only [A.ren]); (try (rw [ptr_ren]; rotate_left; exact rfl)); (try (rw [slc_ren]; rotate_left; exact rfl)); (try simp only [S.ren]))
        (repeat (first | ((refine And.intro ?_ ?_; · (first | with_reducible exact rfl | ((with_reducible refine bkP ?_); rfl) | (first | with_reducible exact rfl | with_reducible assumption | ((repeat' (with_reducible refine and_t ?_ ?_)) <;> (first | with_reducible exact rfl | decide | with_reducible assumption | ((with_reducible first | refine one_t ?_ | refine live_t ?_ | refine all_t ?_ | refine beq_t ?_ | refine isz_t ?_ | refine len_t ?_); rfl) | ((with_reducible refine bs_t ?_ ?_ ?_) <;> first | exact of_decide_eq_true rfl | rfl) | ((with_reducible first | refine mk_t ?_ | refine ap_t (y := 1) rfl ?_ | refine decide_eq_true ?_); (try simp only [List.getElem_toArray, List.getElem_cons_succ, List.getElem_cons_zero, lenOf, List.length_cons, List.length_nil, List.length_set, siz3, byt3, siz72, byt72, siz4, byt4, siz5, byt5, siz50, byt50, siz67, byt67, siz89, byt89]) <;> omega) | ((with_reducible first | refine i64_of ?_ | refine natOk_u64.2 ?_ | refine natOk_i64.2 ?_); omega))))))) | (refine Or.inl (And.intro ?_ ?_); · (with_reducible refine lexOk ?_); kernel_rfl) | refine ⟨fun _ => ?_, fun h => absurd h (by decide)⟩ | refine ⟨fun h => absurd h (by decide), fun _ => ?_⟩))
        refine ⟨fun _ => ?_, fun h => absurd (q7.symm.trans h) (by decide)⟩
        (repeat (first | ((refine And.intro ?_ ?_; · (first | with_reducible exact rfl | ((with_reducible refine bkP ?_); rfl) | (first | with_reducible exact rfl | with_reducible assumption | ((repeat' (with_reducible refine and_t ?_ ?_)) <;> (first | with_reducible exact rfl | decide | with_reducible assumption | ((with_reducible first | refine one_t ?_ | refine live_t ?_ | refine all_t ?_ | refine beq_t ?_ | refine isz_t ?_ | refine len_t ?_); rfl) | ((with_reducible refine bs_t ?_ ?_ ?_) <;> first | exact of_decide_eq_true rfl | rfl) | ((with_reducible first | refine mk_t ?_ | refine ap_t (y := 1) rfl ?_ | refine decide_eq_true ?_); (try simp only [List.getElem_toArray, List.getElem_cons_succ, List.getElem_cons_zero, lenOf, List.length_cons, List.length_nil, List.length_set, siz3, byt3, siz72, byt72, siz4, byt4, siz5, byt5, siz50, byt50, siz67, byt67, siz89, byt89]) <;> omega) | ((with_reducible first | refine i64_of ?_ | refine natOk_u64.2 ?_ | refine natOk_i64.2 ?_); omega))))))) | (refine Or.inl (And.intro ?_ ?_); · (with_reducible refine lexOk ?_); kernel_rfl) | refine ⟨fun _ => ?_, fun h => absurd h (by decide)⟩ | refine ⟨fun h => absurd h (by decide), fun _ => ?_⟩))
        (refine call_lift (alive_c) (fun i => match i with | 0 => none | _ => none) rfl rfl (by (repeat (first | exact trivial | (refine And.intro ?_ ?_; · (first | exact ⟨fun _ => rfl, rfl, rfl, fun _ => rfl, rfl, rfl⟩ | exact ⟨fun _ => rfl, rfl, rfl, fun h => (by cases h), rfl, rfl⟩ | exact ⟨fun h => (by cases h), rfl, rfl, fun _ => rfl, rfl, rfl⟩ | exact ⟨fun h => (by cases h), rfl, rfl, fun h => (by cases h), rfl, rfl⟩ | rfl | exact trivial))))) rfl rfl rfl ?_; rintro v H1 ⟨rfl, rfl⟩; refine ⟨⟨rfl, rfl, rfl, rfl⟩, ?_⟩; (try simp only [two]); (try simp only [AV.ren]); (try simp only [renT]); (try simp only [AT.ren]); (try simp only [A.ren]); (try (rw [ptr_ren]; rotate_left; exact rfl)); (try (rw [slc_ren]; rotate_left; exact rfl)); (try simp only [S.ren]))
        (repeat (first | ((refine And.intro ?_ ?_; · (first | with_reducible exact rfl | ((with_reducible refine bkP ?_); rfl) | (first | with_reducible exact rfl | with_reducible assumption | ((repeat' (with_reducible refine and_t ?_ ?_)) <;> (first | with_reducible exact rfl | decide | with_reducible assumption | ((with_reducible first | refine one_t ?_ | refine live_t ?_ | refine all_t ?_ | refine beq_t ?_ | refine isz_t ?_ | refine len_t ?_); rfl) | ((with_reducible refine bs_t ?_ ?_ ?_) <;> first | exact of_decide_eq_true rfl | rfl) | ((with_reducible first | refine mk_t ?_ | refine ap_t (y := 1) rfl ?_ | refine decide_eq_true ?_); (try simp only [List.getElem_toArray, List.getElem_cons_succ, List.getElem_cons_zero, lenOf, List.length_cons, List.length_nil, List.length_set, siz3, byt3, siz72, byt72, siz4, byt4, siz5, byt5, siz50, byt50, siz67, byt67, siz89, byt89]) <;> omega) | ((with_reducible first | refine i64_of ?_ | refine natOk_u64.2 ?_ | refine natOk_i64.2 ?_); omega))))))) | (refine Or.inl (And.intro ?_ ?_); · (with_reducible refine lexOk ?_); kernel_rfl) | refine ⟨fun _ => ?_, fun h => absurd h (by decide)⟩ | refine ⟨fun h => absurd h (by decide), fun _ => ?_⟩))
        exact ⟨fun i => match i with | 0 => some 0 | _ => none, .boo true, [actsB ys], by (refine ⟨⟨rfl, ⟨rfl, rfl⟩, Nat.le_of_ble_eq_true rfl⟩, ?_, ?_⟩; (· (repeat (first | exact trivial | refine ⟨⟨rfl, .inr rfl⟩, ?_⟩ | (refine ⟨⟨rfl, .inr ?_⟩, ?_⟩; · rfl)))); (· (repeat (first | exact trivial | (refine And.intro ?_ ?_; · (first | exact ⟨fun _ => rfl, rfl, rfl, fun _ => rfl, rfl, rfl⟩ | exact ⟨fun _ => rfl, rfl, rfl, fun h => (by cases h), rfl, rfl⟩ | exact ⟨fun h => (by cases h), rfl, rfl, fun _ => rfl, rfl, rfl⟩ | exact ⟨fun h => (by cases h), rfl, rfl, fun h => (by cases h), rfl, rfl⟩ | rfl | exact trivial)))))), rfl, rfl⟩
  · (repeat (first | ((refine And.intro ?_ ?_; · (first | with_reducible exact rfl | ((with_reducible refine bkP ?_); rfl) | (first | with_reducible exact rfl | with_reducible assumption | ((repeat' (with_reducible refine and_t ?_ ?_)) <;> (first | with_reducible exact rfl | decide | with_reducible assumption | ((with_reducible first | refine one_t ?_ | refine live_t ?_ | refine all_t ?_ | refine beq_t ?_ | refine isz_t ?_ | refine len_t ?_); rfl) | ((with_reducible refine bs_t ?_ ?_ ?_) <;> first | exact of_decide_eq_true rfl | rfl) | ((with_reducible first | refine mk_t ?_ | refine ap_t (y := 1) rfl ?_ | refine decide_eq_true ?_); (try simp only [List.getElem_toArray, List.getElem_cons_succ, List.getElem_cons_zero, lenOf, List.length_cons, List.length_nil, List.length_set, siz3, byt3, siz72, byt72, siz4, byt4, siz5, byt5, siz50, byt50, siz67, byt67, siz89, byt89]) <;> omega) | ((with_reducible first | refine i64_of ?_ | refine natOk_u64.2 ?_ | refine natOk_i64.2 ?_); omega))))))) | (refine Or.inl (And.intro ?_ ?_); · (with_reducible refine lexOk ?_); kernel_rfl) | refine ⟨fun _ => ?_, fun h => absurd h (by decide)⟩ | refine ⟨fun h => absurd h (by decide), fun _ => ?_⟩))
    (refine call_lift (few_c N ys) (fun i => match i with | 0 => some 0 | _ => none) rfl rfl (by (repeat (first | exact trivial | (refine And.intro ?_ ?_; · (first | exact ⟨fun _ => rfl, rfl, rfl, fun _ => rfl, rfl, rfl⟩ | exact ⟨fun _ => rfl, rfl, rfl, fun h => (by cases h), rfl, rfl⟩ | exact ⟨fun h => (by cases h), rfl, rfl, fun _ => rfl, rfl, rfl⟩ | exact ⟨fun h => (by cases h), rfl, rfl, fun h => (by cases h), rfl, rfl⟩ | rfl | exact trivial))))) rfl rfl rfl ?_; rintro v H1 ⟨rfl, rfl⟩; refine ⟨⟨rfl, rfl, rfl, rfl⟩, ?_⟩; (try simp only [two]); (try simp only [AV.ren]); (try simp only [renT]); (try simp only [AT.ren]); (try simp only [A.ren]); (try (rw [ptr_ren]; rotate_left; exact rfl)); (try (rw [slc_ren]; rotate_left; exact rfl)); (try simp only [S.ren]))
    (repeat (first | ((refine And.intro ?_ ?_; · (first | with_reducible exact rfl | ((with_reducible refine bkP ?_); rfl) | (first | with_reducible exact rfl | with_reducible assumption | ((repeat' (with_reducible refine and_t ?_ ?_)) <;> (first | with_reducible exact rfl | decide | with_reducible assumption | ((with_reducible first | refine one_t ?_ | refine live_t ?_ | refine all_t ?_ | refine beq_t ?_ | refine isz_t ?_ | refine len_t ?_); rfl) | ((with_reducible refine bs_t ?_ ?_ ?_) <;> first | exact of_decide_eq_true rfl | rfl) | ((with_reducible first | refine mk_t ?_ | refine ap_t (y := 1) rfl ?_ | refine decide_eq_true ?_); (try simp only [List.getElem_toArray, List.getElem_cons_succ, List.getElem_cons_zero, lenOf, List.length_cons, List.length_nil, List.length_set, siz3, byt3, siz72, byt72, siz4, byt4, siz5, byt5, siz50, byt50, siz67, byt67, siz89, byt89]) <;> omega) | ((with_reducible first | refine i64_of ?_ | refine natOk_u64.2 ?_ | refine natOk_i64.2 ?_); omega))))))) | (refine Or.inl (And.intro ?_ ?_); · (with_reducible refine lexOk ?_); kernel_rfl) | refine ⟨fun _ => ?_, fun h => absurd h (by decide)⟩ | refine ⟨fun h => absurd h (by decide), fun _ => ?_⟩))
    by_cases c0 : N ≤ 40
    · have q1 : (!decide ((N : Int) ≤ 40)) = false := by rw [decide_eq_true (by omega)]; rfl
      refine ⟨fun _ => ?_, fun h => absurd (q1.symm.trans h) (by decide)⟩
      (repeat (first | ((refine And.intro ?_ ?_; · (first | with_reducible exact rfl | ((with_reducible refine bkP ?_); rfl) | (first | with_reducible exact rfl | with_reducible assumption | ((repeat' (with_reducible refine and_t ?_ ?_)) <;> (first | with_reducible exact rfl | decide | with_reducible assumption | ((with_reducible first | refine one_t ?_ | refine live_t ?_ | refine all_t ?_ | refine beq_t ?_ | refine isz_t ?_ | refine len_t ?_); rfl) | ((with_reducible refine bs_t ?_ ?_ ?_) <;> first | exact of_decide_eq_true rfl | rfl) | ((with_reducible first | refine mk_t ?_ | refine ap_t (y := 1) rfl ?_ | refine decide_eq_true ?_); (try simp only [List.getElem_toArray, List.getElem_cons_succ, List.getElem_cons_zero, lenOf, List.length_cons, List.length_nil, List.length_set, siz3, byt3, siz72, byt72, siz4, byt4, siz5, byt5, siz50, byt50, siz67, byt67, siz89, byt89]) <;> omega) | ((with_reducible first | refine i64_of ?_ | refine natOk_u64.2 ?_ | refine natOk_i64.2 ?_); omega))))))) | (refine Or.inl (And.intro ?_ ?_); · (with_reducible refine lexOk ?_); kernel_rfl) | refine ⟨fun _ => ?_, fun h => absurd h (by decide)⟩ | refine ⟨fun h => absurd h (by decide), fun _ => ?_⟩))
      by_cases c1 : 0 ≤ P
      · have q2 : decide (P < 0) = false := decide_eq_false (by omega)
        refine ⟨fun _ => ?_, fun h => absurd (q2.symm.trans h) (by decide)⟩
        (repeat (first | ((refine And.intro ?_ ?_; · (first | with_reducible exact rfl | ((with_reducible refine bkP ?_); rfl) | (first | with_reducible exact rfl | with_reducible assumption | ((repeat' (with_reducible refine and_t ?_ ?_)) <;> (first | with_reducible exact rfl | decide | with_reducible assumption | ((with_reducible first | refine one_t ?_ | refine live_t ?_ | refine all_t ?_ | refine beq_t ?_ | refine isz_t ?_ | refine len_t ?_); rfl) | ((with_reducible refine bs_t ?_ ?_ ?_) <;> first | exact of_decide_eq_true rfl | rfl) | ((with_reducible first | refine mk_t ?_ | refine ap_t (y := 1) rfl ?_ | refine decide_eq_true ?_); (try simp only [List.getElem_toArray, List.getElem_cons_succ, List.getElem_cons_zero, lenOf, List.length_cons, List.length_nil, List.length_set, siz3, byt3, siz72, byt72, siz4, byt4, siz5, byt5, siz50, byt50, siz67, byt67, siz89, byt89]) <;> omega) | ((with_reducible first | refine i64_of ?_ | refine natOk_u64.2 ?_ | refine natOk_i64.2 ?_); omega))))))) | (refine Or.inl (And.intro ?_ ?_); · (with_reducible refine lexOk ?_); kernel_rfl) | refine ⟨fun _ => ?_, fun h => absurd h (by decide)⟩ | refine ⟨fun h => absurd h (by decide), fun _ => ?_⟩))
        by_cases c2 : P ≤ 65535
        · have q3 : decide (P > 65535) = false := decide_eq_false (by omega)
          refine ⟨fun _ => ?_, fun h => absurd (q3.symm.trans h) (by decide)⟩
          (repeat (first | ((refine And.intro ?_ ?_; · (first | with_reducible exact rfl | ((with_reducible refine bkP ?_); rfl) | (first | with_reducible exact rfl | with_reducible assumption | ((repeat' (with_reducible refine and_t ?_ ?_)) <;> (first | with_reducible exact rfl | decide | with_reducible assumption | ((with_reducible first | refine one_t ?_ | refine live_t ?_ | refine all_t ?_ | refine beq_t ?_ | refine isz_t ?_ | refine len_t ?_); rfl) | ((with_reducible refine bs_t ?_ ?_ ?_) <;> first | exact of_decide_eq_true rfl | rfl) | ((with_reducible first | refine mk_t ?_ | refine ap_t (y := 1) rfl ?_ | refine decide_eq_true ?_); (try simp only [List.getElem_toArray, List.getElem_cons_succ, List.getElem_cons_zero, lenOf, List.length_cons, List.length_nil, List.length_set, siz3, byt3, siz72, byt72, siz4, byt4, siz5, byt5, siz50, byt50, siz67, byt67, siz89, byt89]) <;> omega) | ((with_reducible first | refine i64_of ?_ | refine natOk_u64.2 ?_ | refine natOk_i64.2 ?_); omega))))))) | (refine Or.inl (And.intro ?_ ?_); · (with_reducible refine lexOk ?_); kernel_rfl) | refine ⟨fun _ => ?_, fun h => absurd h (by decide)⟩ | refine ⟨fun h => absurd h (by decide), fun _ => ?_⟩))
          by_cases c3 : 0 ≤ M
          · have q4 : decide (M < 0) = false := decide_eq_false (by omega)
            refine ⟨fun _ => ?_, fun h => absurd (q4.symm.trans h) (by decide)⟩
            (repeat (first | ((refine And.intro ?_ ?_; · (first | with_reducible exact rfl | ((with_reducible refine bkP ?_); rfl) | (first | with_reducible exact rfl | with_reducible assumption | ((repeat' (with_reducible refine and_t ?_ ?_)) <;> (first | with_reducible exact rfl | decide | with_reducible assumption | ((with_reducible first | refine one_t ?_ | refine live_t ?_ | refine all_t ?_ | refine beq_t ?_ | refine isz_t ?_ | refine len_t ?_); rfl) | ((with_reducible refine bs_t ?_ ?_ ?_) <;> first | exact of_decide_eq_true rfl | rfl) | ((with_reducible first | refine mk_t ?_ | refine ap_t (y := 1) rfl ?_ | refine decide_eq_true ?_); (try simp only [List.getElem_toArray, List.getElem_cons_succ, List.getElem_cons_zero, lenOf, List.length_cons, List.length_nil, List.length_set, siz3, byt3, siz72, byt72, siz4, byt4, siz5, byt5, siz50, byt50, siz67, byt67, siz89, byt89]) <;> omega) | ((with_reducible first | refine i64_of ?_ | refine natOk_u64.2 ?_ | refine natOk_i64.2 ?_); omega))))))) | (refine Or.inl (And.intro ?_ ?_); · (with_reducible refine lexOk ?_); kernel_rfl) | refine ⟨fun _ => ?_, fun h => absurd h (by decide)⟩ | refine ⟨fun h => absurd h (by decide), fun _ => ?_⟩))
            have q5 : decide (M > 65535) = true := decide_eq_true (by omega)
            refine ⟨fun _ => ?_, fun h => absurd (q5.symm.trans h) (by decide)⟩
            (repeat (first | ((refine And.intro ?_ ?_; · (first | with_reducible exact rfl | ((with_reducible refine bkP ?_); rfl) | (first | with_reducible exact rfl | with_reducible assumption | ((repeat' (with_reducible refine and_t ?_ ?_)) <;> (first | with_reducible exact rfl | decide | with_reducible assumption | ((with_reducible first | refine one_t ?_ | refine live_t ?_ | refine all_t ?_ | refine beq_t ?_ | refine isz_t ?_ | refine len_t ?_); rfl) | ((with_reducible refine bs_t ?_ ?_ ?_) <;> first | exact of_decide_eq_true rfl | rfl) | ((with_reducible first | refine mk_t ?_ | refine ap_t (y := 1) rfl ?_ | refine decide_eq_true ?_); (try simp only [List.getElem_toArray, List.getElem_cons_succ, List.getElem_cons_zero, lenOf, List.length_cons, List.length_nil, List.length_set, siz3, byt3, siz72, byt72, siz4, byt4, siz5, byt5, siz50, byt50, siz67, byt67, siz89, byt89]) <;> omega) | ((with_reducible first | refine i64_of ?_ | refine natOk_u64.2 ?_ | refine natOk_i64.2 ?_); omega))))))) | (refine Or.inl (And.intro ?_ ?_); · (with_reducible refine lexOk ?_); kernel_rfl) | refine ⟨fun _ => ?_, fun h => absurd h (by decide)⟩ | refine ⟨fun h => absurd h (by decide), fun _ => ?_⟩))
            (refine call_lift (alive_c) (fun i => match i with | 0 => none | _ => none) rfl rfl (by (repeat (first | exact trivial | (refine And.intro ?_ ?_; · (first | exact ⟨fun _ => rfl, rfl, rfl, fun _ => rfl, rfl, rfl⟩ | exact ⟨fun _ => rfl, rfl, rfl, fun h => (by cases h), rfl, rfl⟩ | exact ⟨fun h => (by cases h), rfl, rfl, fun _ => rfl, rfl, rfl⟩ | exact ⟨fun h => (by cases h), rfl, rfl, fun h => (by cases h), rfl, rfl⟩ | rfl | exact trivial))))) rfl rfl rfl ?_; rintro v H1 ⟨rfl, rfl⟩; refine ⟨⟨rfl, rfl, rfl, rfl⟩, ?_⟩; (try simp only [two]); (try simp only [AV.ren]); (try simp only [renT]); (try simp only [AT.ren]); (try simp only [A.ren]); (try (rw [ptr_ren]; rotate_left; exact rfl)); (try (rw [slc_ren]; rotate_left; exact rfl)); (try simp only [S.ren]))
            (repeat (first | ((refine And.intro ?_ ?_; · (first | with_reducible exact rfl | ((with_reducible refine bkP ?_); rfl) | (first | with_reducible exact rfl | with_reducible assumption | ((repeat' (with_reducible refine and_t ?_ ?_)) <;> (first | with_reducible exact rfl | decide | with_reducible assumption | ((with_reducible first | refine one_t ?_ | refine live_t ?_ | refine all_t ?_ | refine beq_t ?_ | refine isz_t ?_ | refine len_t ?_); rfl) | ((with_reducible refine bs_t ?_ ?_ ?_) <;> first | exact of_decide_eq_true rfl | rfl) | ((with_reducible first | refine mk_t ?_ | refine ap_t (y := 1) rfl ?_ | refine decide_eq_true ?_); (try simp only [List.getElem_toArray, List.getElem_cons_succ, List.getElem_cons_zero, lenOf, List.length_cons, List.length_nil, List.length_set, siz3, byt3, siz72, byt72, siz4, byt4, siz5, byt5, siz50, byt50, siz67, byt67, siz89, byt89]) <;> omega) | ((with_reducible first | refine i64_of ?_ | refine natOk_u64.2 ?_ | refine natOk_i64.2 ?_); omega))))))) | (refine Or.inl (And.intro ?_ ?_); · (with_reducible refine lexOk ?_); kernel_rfl) | refine ⟨fun _ => ?_, fun h => absurd h (by decide)⟩ | refine ⟨fun h => absurd h (by decide), fun _ => ?_⟩))
            exact ⟨some, .boo true, [actsB ys], by (refine ⟨⟨rfl, ⟨rfl, rfl⟩, Nat.le_of_ble_eq_true rfl⟩, ?_, ?_⟩; (· (repeat (first | exact trivial | refine ⟨⟨rfl, .inr rfl⟩, ?_⟩ | (refine ⟨⟨rfl, .inr ?_⟩, ?_⟩; · rfl)))); (· (repeat (first | exact trivial | (refine And.intro ?_ ?_; · (first | exact ⟨fun _ => rfl, rfl, rfl, fun _ => rfl, rfl, rfl⟩ | exact ⟨fun _ => rfl, rfl, rfl, fun h => (by cases h), rfl, rfl⟩ | exact ⟨fun h => (by cases h), rfl, rfl, fun _ => rfl, rfl, rfl⟩ | exact ⟨fun h => (by cases h), rfl, rfl, fun h => (by cases h), rfl, rfl⟩ | rfl | exact trivial)))))), rfl, rfl⟩
          · have q4 : decide (M < 0) = true := decide_eq_true (by omega)
            refine ⟨fun h => absurd (q4.symm.trans h) (by decide), fun _ => ?_⟩
            (repeat (first | ((refine And.intro ?_ ?_; · (first | with_reducible exact rfl | ((with_reducible refine bkP ?_); rfl) | (first | with_reducible exact rfl | with_reducible assumption | ((repeat' (with_reducible refine and_t ?_ ?_)) <;> (first | with_reducible exact rfl | decide | with_reducible assumption | ((with_reducible first | refine one_t ?_ | refine live_t ?_ | refine all_t ?_ | refine beq_t ?_ | refine isz_t ?_ | refine len_t ?_); rfl) | ((with_reducible refine bs_t ?_ ?_ ?_) <;> first | exact of_decide_eq_true rfl | rfl) | ((with_reducible first | refine mk_t ?_ | refine ap_t (y := 1) rfl ?_ | refine decide_eq_true ?_); (try simp only [List.getElem_toArray, List.getElem_cons_succ, List.getElem_cons_zero, lenOf, List.length_cons, List.length_nil, List.length_set, siz3, byt3, siz72, byt72, siz4, byt4, siz5, byt5, siz50, byt50, siz67, byt67, siz89, byt89]) <;> omega) | ((with_reducible first | refine i64_of ?_ | refine natOk_u64.2 ?_ | refine natOk_i64.2 ?_); omega))))))) | (refine Or.inl (And.intro ?_ ?_); · (with_reducible refine lexOk ?_); kernel_rfl) | refine ⟨fun _ => ?_, fun h => absurd h (by decide)⟩ | refine ⟨fun h => absurd h (by decide), fun _ => ?_⟩))
            (refine call_lift (alive_c) (fun i => match i with | 0 => none | _ => none) rfl rfl (by (repeat (first | exact trivial | (refine And.intro ?_ ?_; · (first | exact ⟨fun _ => rfl, rfl, rfl, fun _ => rfl, rfl, rfl⟩ | exact ⟨fun _ => rfl, rfl, rfl, fun h => (by cases h), rfl, rfl⟩ | exact ⟨fun h => (by cases h), rfl, rfl, fun _ => rfl, rfl, rfl⟩ | exact ⟨fun h => (by cases h), rfl, rfl, fun h => (by cases h), rfl, rfl⟩ | rfl | exact trivial))))) rfl rfl rfl ?_; rintro v H1 ⟨rfl, rfl⟩; refine ⟨⟨rfl, rfl, rfl, rfl⟩, ?_⟩; (try simp only [two]); (try simp only [AV.ren]); (try simp only [renT]); (try simp only [AT.ren]); (try simp only [A.ren]); (try (rw [ptr_ren]; rotate_left; exact rfl)); (try (rw [slc_ren]; rotate_left; exact rfl)); (try simp only [S.ren]))
            (repeat (first | ((refine And.intro ?_ ?_; · (first | with_reducible exact rfl | ((with_reducible refine bkP ?_); rfl) | (first | with_reducible exact rfl | with_reducible assumption | ((repeat' (with_reducible refine and_t ?_ ?_)) <;> (first | with_reducible exact rfl | decide | with_reducible assumption | ((with_reducible first | refine one_t ?_ | refine live_t ?_ | refine all_t ?_ | refine beq_t ?_ | refine isz_t ?_ | refine len_t ?_); rfl) | ((with_reducible refine bs_t ?_ ?_ ?_) <;> first | exact of_decide_eq_true rfl | rfl) | ((with_reducible first | refine mk_t ?_ | refine ap_t (y := 1) rfl ?_ | refine decide_eq_true ?_); (try simp only [List.getElem_toArray, List.getElem_cons_succ, List.getElem_cons_zero, lenOf, List.length_cons, List.length_nil, List.length_set, siz3, byt3, siz72, byt72, siz4, byt4, siz5, byt5, siz50, byt50, siz67, byt67, siz89, byt89]) <;> omega) | ((with_reducible first | refine i64_of ?_ | refine natOk_u64.2 ?_ | refine natOk_i64.2 ?_); omega))))))) | (refine Or.inl (And.intro ?_ ?_); · (with_reducible refine lexOk ?_); kernel_rfl) | refine ⟨fun _ => ?_, fun h => absurd h (by decide)⟩ | refine ⟨fun h => absurd h (by decide), fun _ => ?_⟩))
            exact ⟨some, .boo true, [actsB ys], by (refine ⟨⟨rfl, ⟨rfl, rfl⟩, Nat.le_of_ble_eq_true rfl⟩, ?_, ?_⟩; (· (repeat (first | exact trivial | refine ⟨⟨rfl, .inr rfl⟩, ?_⟩ | (refine ⟨⟨rfl, .inr ?_⟩, ?_⟩; · rfl)))); (· (repeat (first | exact trivial | (refine And.intro ?_ ?_; · (first | exact ⟨fun _ => rfl, rfl, rfl, fun _ => rfl, rfl, rfl⟩ | exact ⟨fun _ => rfl, rfl, rfl, fun h => (by cases h), rfl, rfl⟩ | exact ⟨fun h => (by cases h), rfl, rfl, fun _ => rfl, rfl, rfl⟩ | exact ⟨fun h => (by cases h), rfl, rfl, fun h => (by cases h), rfl, rfl⟩ | rfl | exact trivial)))))), rfl, rfl⟩
        · have q3 : decide (P > 65535) = true := decide_eq_true (by omega)
          refine ⟨fun h => absurd (q3.symm.trans h) (by decide), fun _ => ?_⟩
          (repeat (first | ((refine And.intro ?_ ?_; · (first | with_reducible exact rfl | ((with_reducible refine bkP ?_); rfl) | (first | with_reducible exact rfl | with_reducible assumption | ((repeat' (with_reducible refine and_t ?_ ?_)) <;> (first | with_reducible exact rfl | decide | with_reducible assumption | ((with_reducible first | refine one_t ?_ | refine live_t ?_ | refine all_t ?_ | refine beq_t ?_ | refine isz_t ?_ | refine len_t ?_); rfl) | ((with_reducible refine bs_t ?_ ?_ ?_) <;> first | exact of_decide_eq_true rfl | rfl) | ((with_reducible first | refine mk_t ?_ | refine ap_t (y := 1) rfl ?_ | refine decide_eq_true ?_); (try simp only [List.getElem_toArray, List.getElem_cons_succ, List.getElem_cons_zero, lenOf, List.length_cons, List.length_nil, List.length_set, siz3, byt3, siz72, byt72, siz4, byt4, siz5, byt5, siz50, byt50, siz67, byt67, siz89, byt89]) <;> omega) | ((with_reducible first | refine i64_of ?_ | refine natOk_u64.2 ?_ | refine natOk_i64.2 ?_); omega))))))) | (refine Or.inl (And.intro ?_ ?_); · (with_reducible refine lexOk ?_); kernel_rfl) | refine ⟨fun _ => ?_, fun h => absurd h (by decide)⟩ | refine ⟨fun h => absurd h (by decide), fun _ => ?_⟩))
          (refine call_lift (alive_c) (fun i => match i with | 0 => none | _ => none) rfl rfl (by (repeat (first | exact trivial | (refine And.intro ?_ ?_; · (first | exact ⟨fun _ => rfl, rfl, rfl, fun _ => rfl, rfl, rfl⟩ | exact ⟨fun _ => rfl, rfl, rfl, fun h => (by cases h), rfl, rfl⟩ | exact ⟨fun h => (by cases h), rfl, rfl, fun _ => rfl, rfl, rfl⟩ | exact ⟨fun h => (by cases h), rfl, rfl, fun h => (by cases h), rfl, rfl⟩ | rfl | exact trivial))))) rfl rfl rfl ?_; rintro v H1 ⟨rfl, rfl⟩; refine ⟨⟨rfl, rfl, rfl, rfl⟩, ?_⟩; (try simp only [two]); (try simp only [AV.ren]); (try simp only [renT]); (try simp only [AT.ren]); (try simp only [A.ren]); (try (rw [ptr_ren]; rotate_left; exact rfl)); (try (rw [slc_ren]; rotate_left; exact rfl)); (try simp only [S.ren]))
          (repeat (first | ((refine And.intro ?_ ?_; · (first | with_reducible exact rfl | ((with_reducible refine bkP ?_); rfl) | (first | with_reducible exact rfl | with_reducible assumption | ((repeat' (with_reducible refine and_t ?_ ?_)) <;> (first | with_reducible exact rfl | decide | with_reducible assumption | ((with_reducible first | refine one_t ?_ | refine live_t ?_ | refine all_t ?_ | refine beq_t ?_ | refine isz_t ?_ | refine len_t ?_); rfl) | ((with_reducible refine bs_t ?_ ?_ ?_) <;> first | exact of_decide_eq_true rfl | rfl) | ((with_reducible first | refine mk_t ?_ | refine ap_t (y := 1) rfl ?_ | refine decide_eq_true ?_); (try simp only [List.getElem_toArray, List.getElem_cons_succ, List.getElem_cons_zero, lenOf, List.length_cons, List.length_nil, List.length_set, siz3, byt3, siz72, byt72, siz4, byt4, siz5, byt5, siz50, byt50, siz67, byt67, siz89, byt89]) <;> omega) | ((with_reducible first | refine i64_of ?_ | refine natOk_u64.2 ?_ | refine natOk_i64.2 ?_); omega))))))) | (refine Or.inl (And.intro ?_ ?_); · (with_reducible refine lexOk ?_); kernel_rfl) | refine ⟨fun _ => ?_, fun h => absurd h (by decide)⟩ | refine ⟨fun h => absurd h (by decide), fun _ => ?_⟩))
          exact ⟨some, .boo true, [actsB ys], by (refine ⟨⟨rfl, ⟨rfl, rfl⟩, Nat.le_of_ble_eq_true rfl⟩, ?_, ?_⟩; (· (repeat (first | exact trivial | refine ⟨⟨rfl, .inr rfl⟩, ?_⟩ | (refine ⟨⟨rfl, .inr ?_⟩, ?_⟩; · rfl)))); (· (repeat (first | exact trivial | (refine And.intro ?_ ?_; · (first | exact ⟨fun _ => rfl, rfl, rfl, fun _ => rfl, rfl, rfl⟩ | exact ⟨fun _ => rfl, rfl, rfl, fun h => (by cases h), rfl, rfl⟩ | exact ⟨fun h => (by cases h), rfl, rfl, fun _ => rfl, rfl, rfl⟩ | exact ⟨fun h => (by cases h), rfl, rfl, fun h => (by cases h), rfl, rfl⟩ | rfl | exact trivial)))))), rfl, rfl⟩
      · have q2 : decide (P < 0) = true := decide_eq_true (by omega)
        refine ⟨fun h => absurd (q2.symm.trans h) (by decide), fun _ => ?_⟩
        (repeat (first | ((refine And.intro ?_ ?_; · (first | with_reducible exact rfl | ((with_reducible refine bkP ?_); rfl) | (first | with_reducible exact rfl | with_reducible assumption | ((repeat' (with_reducible refine and_t ?_ ?_)) <;> (first | with_reducible exact rfl | decide | with_reducible assumption | ((with_reducible first | refine one_t ?_ | refine live_t ?_ | refine all_t ?_ | refine beq_t ?_ | refine isz_t ?_ | refine len_t ?_); rfl) | ((with_reducible refine bs_t ?_ ?_ ?_) <;> first | exact of_decide_eq_true rfl | rfl) | ((with_reducible first | refine mk_t ?_ | refine ap_t (y := 1) rfl ?_ | refine decide_eq_true ?_); (try simp only [List.getElem_toArray, List.getElem_cons_succ, List.getElem_cons_zero, lenOf, List.length_cons, List.length_nil, List.length_set, siz3, byt3, siz72, byt72, siz4, byt4, siz5, byt5, siz50, byt50, siz67, byt67, siz89, byt89]) <;> omega) | ((with_reducible first | refine i64_of ?_ | refine natOk_u64.2 ?_ | refine natOk_i64.2 ?_); omega))))))) | (refine Or.inl (And.intro ?_ ?_); · (with_reducible refine lexOk ?_); kernel_rfl) | refine ⟨fun _ => ?_, fun h => absurd h (by decide)⟩ | refine ⟨fun h => absurd h (by decide), fun _ => ?_⟩))
        (refine call_lift (alive_c) (fun i => match i with | 0 => none | _ => none) rfl rfl (by (repeat (first | exact trivial | (refine And.intro ?_ ?_; · (first | exact ⟨fun _ => rfl, rfl, rfl, fun _ => rfl, rfl, rfl⟩ | exact ⟨fun _ => rfl, rfl, rfl, fun h => (by cases h), rfl, rfl⟩ | exact ⟨fun h => (by cases h), rfl, rfl, fun _ => rfl, rfl, rfl⟩ | exact ⟨fun h => (by cases h), rfl, rfl, fun h => (by cases h), rfl, rfl⟩ | rfl | exact trivial))))) rfl rfl rfl ?_; rintro v H1 ⟨rfl, rfl⟩; refine ⟨⟨rfl, rfl, rfl, rfl⟩, ?_⟩; (try simp only [two]); (try simp only [AV.ren]); (try simp only [renT]); (try simp only [AT.ren]); (try simp only [A.ren]); (try (rw [ptr_ren]; rotate_left; exact rfl)); (try (rw [slc_ren]; rotate_left; exact rfl)); (try simp only [S.ren]))
        (repeat (first | ((refine And.intro ?_ ?_; · (first | with_reducible exact rfl | ((with_reducible refine bkP ?_); rfl) | (first | with_reducible exact rfl | with_reducible assumption | ((repeat' (with_reducible refine and_t ?_ ?_)) <;> (first | with_reducible exact rfl | decide | with_reducible assumption | ((with_reducible first | refine one_t ?_ | refine live_t ?_ | refine all_t ?_ | refine beq_t ?_ | refine isz_t ?_ | refine len_t ?_); rfl) | ((with_reducible refine bs_t ?_ ?_ ?_) <;> first | exact of_decide_eq_true rfl | rfl) | ((with_reducible first | refine mk_t ?_ | refine ap_t (y := 1) rfl ?_ | refine decide_eq_true ?_); (try simp only [List.getElem_toArray, List.getElem_cons_succ, List.getElem_cons_zero, lenOf, List.length_cons, List.length_nil, List.length_set, siz3, byt3, siz72, byt72, siz4, byt4, siz5, byt5, siz50, byt50, siz67, byt67, siz89, byt89]) <;> omega) | ((with_reducible first | refine i64_of ?_ | refine natOk_u64.2 ?_ | refine natOk_i64.2 ?_); omega))))))) | (refine Or.inl (And.intro ?_ ?_); · (with_reducible refine lexOk ?_); kernel_rfl) | refine ⟨fun _ => ?_, fun h => absurd h (by decide)⟩ | refine ⟨fun h => absurd h (by decide), fun _ => ?_⟩))
        exact ⟨some, .boo true, [actsB ys], by (refine ⟨⟨rfl, ⟨rfl, rfl⟩, Nat.le_of_ble_eq_true rfl⟩, ?_, ?_⟩; (· (repeat (first | exact trivial | refine ⟨⟨rfl, .inr rfl⟩, ?_⟩ | (refine ⟨⟨rfl, .inr ?_⟩, ?_⟩; · rfl)))); (· (repeat (first | exact trivial | (refine And.intro ?_ ?_; · (first | exact ⟨fun _ => rfl, rfl, rfl, fun _ => rfl, rfl, rfl⟩ | exact ⟨fun _ => rfl, rfl, rfl, fun h => (by cases h), rfl, rfl⟩ | exact ⟨fun h => (by cases h), rfl, rfl, fun _ => rfl, rfl, rfl⟩ | exact ⟨fun h => (by cases h), rfl, rfl, fun h => (by cases h), rfl, rfl⟩ | rfl | exact trivial)))))), rfl, rfl⟩
    · have q1 : (!decide ((N : Int) ≤ 40)) = true := by rw [decide_eq_false (by omega)]; rfl
      refine ⟨fun h => absurd (q1.symm.trans h) (by decide), fun _ => ?_⟩
      (repeat (first | ((refine And.intro ?_ ?_; · (first | with_reducible exact rfl | ((with_reducible refine bkP ?_); rfl) | (first | with_reducible exact rfl | with_reducible assumption | ((repeat' (with_reducible refine and_t ?_ ?_)) <;> (first | with_reducible exact rfl | decide | with_reducible assumption | ((with_reducible first | refine one_t ?_ | refine live_t ?_ | refine all_t ?_ | refine beq_t ?_ | refine isz_t ?_ | refine len_t ?_); rfl) | ((with_reducible refine bs_t ?_ ?_ ?_) <;> first | exact of_decide_eq_true rfl | rfl) | ((with_reducible first | refine mk_t ?_ | refine ap_t (y := 1) rfl ?_ | refine decide_eq_true ?_); (try simp only [List.getElem_toArray, List.getElem_cons_succ, List.getElem_cons_zero, lenOf, List.length_cons, List.length_nil, List.length_set, siz3, byt3, siz72, byt72, siz4, byt4, siz5, byt5, siz50, byt50, siz67, byt67, siz89, byt89]) <;> omega) | ((with_reducible first | refine i64_of ?_ | refine natOk_u64.2 ?_ | refine natOk_i64.2 ?_); omega))))))) | (refine Or.inl (And.intro ?_ ?_); · (with_reducible refine lexOk ?_); kernel_rfl) | refine ⟨fun _ => ?_, fun h => absurd h (by decide)⟩ | refine ⟨fun h => absurd h (by decide), fun _ => ?_⟩))
      (refine call_lift (alive_c) (fun i => match i with | 0 => none | _ => none) rfl rfl (by (repeat (first | exact trivial | (refine And.intro ?_ ?_; · (first | exact ⟨fun _ => rfl, rfl, rfl, fun _ => rfl, rfl, rfl⟩ | exact ⟨fun _ => rfl, rfl, rfl, fun h => (by cases h), rfl, rfl⟩ | exact ⟨fun h => (by cases h), rfl, rfl, fun _ => rfl, rfl, rfl⟩ | exact ⟨fun h => (by cases h), rfl, rfl, fun h => (by cases h), rfl, rfl⟩ | rfl | exact trivial))))) rfl rfl rfl ?_; rintro v H1 ⟨rfl, rfl⟩; refine ⟨⟨rfl, rfl, rfl, rfl⟩, ?_⟩; (try simp only [two]); (try simp only [AV.ren]); (try simp only [renT]); (try simp only [AT.ren]); (try simp only [A.ren]); (try (rw [ptr_ren]; rotate_left; exact rfl)); (try (rw [slc_ren]; rotate_left; exact rfl)); (try simp only [S.ren]))
      (repeat (first | ((refine And.intro ?_ ?_; · (first | with_reducible exact rfl | ((with_reducible refine bkP ?_); rfl) | (first | with_reducible exact rfl | with_reducible assumption | ((repeat' (with_reducible refine and_t ?_ ?_)) <;> (first | with_reducible exact rfl | decide | with_reducible assumption | ((with_reducible first | refine one_t ?_ | refine live_t ?_ | refine all_t ?_ | refine beq_t ?_ | refine isz_t ?_ | refine len_t ?_); rfl) | ((with_reducible refine bs_t ?_ ?_ ?_) <;> first | exact of_decide_eq_true rfl | rfl) | ((with_reducible first | refine mk_t ?_ | refine ap_t (y := 1) rfl ?_ | refine decide_eq_true ?_); (try simp only [List.getElem_toArray, List.getElem_cons_succ, List.getElem_cons_zero, lenOf, List.length_cons, List.length_nil, List.length_set, siz3, byt3, siz72, byt72, siz4, byt4, siz5, byt5, siz50, byt50, siz67, byt67, siz89, byt89]) <;> omega) | ((with_reducible first | refine i64_of ?_ | refine natOk_u64.2 ?_ | refine natOk_i64.2 ?_); omega))))))) | (refine Or.inl (And.intro ?_ ?_); · (with_reducible refine lexOk ?_); kernel_rfl) | refine ⟨fun _ => ?_, fun h => absurd h (by decide)⟩ | refine ⟨fun h => absurd h (by decide), fun _ => ?_⟩))
      exact ⟨some, .boo true, [actsB ys], by (refine ⟨⟨rfl, ⟨rfl, rfl⟩, Nat.le_of_ble_eq_true rfl⟩, ?_, ?_⟩; (· (repeat (first | exact trivial | refine ⟨⟨rfl, .inr rfl⟩, ?_⟩ | (refine ⟨⟨rfl, .inr ?_⟩, ?_⟩; · rfl)))); (· (repeat (first | exact trivial | (refine And.intro ?_ ?_; · (first | exact ⟨fun _ => rfl, rfl, rfl, fun _ => rfl, rfl, rfl⟩ | exact ⟨fun _ => rfl, rfl, rfl, fun h => (by cases h), rfl, rfl⟩ | exact ⟨fun h => (by cases h), rfl, rfl, fun _ => rfl, rfl, rfl⟩ | exact ⟨fun h => (by cases h), rfl, rfl, fun h => (by cases h), rfl, rfl⟩ | rfl | exact trivial)))))), rfl, rfl⟩
end Go.Proofs.Ytlbgkfidpkbafaa
