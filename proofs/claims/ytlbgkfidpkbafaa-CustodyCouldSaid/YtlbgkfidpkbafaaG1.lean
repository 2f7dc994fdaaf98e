/- The entries, copied. -/
import Derived.Test.YtlbgkfidpkbafaaC32
namespace Go.Proofs.Ytlbgkfidpkbafaa
open Go.RowKit
set_option linter.unusedSimpArgs false
set_option linter.unusedVariables false
abbrev entB (q : Bool) (es : List Int) : Blk := ⟨q, false, 67, 4, .rows (.int .i64) es⟩
theorem apE_t {js jb L n xl : Nat} {m : Nat} (hL : L = m) (hm : 0 < m) (hm2 : m ≤ 4096) (hj : js = 4) (hb : jb = 32) (h3 : n = 0) (hx : xl = 0) : decide (0 < L ∧ n * js = xl ∧ (n + L) * jb ≤ 140737488355328 ∧ n + L ≤ 9223372036854775807 ∧ 0 < js) = true := by
  subst hL hj hb h3 hx
  exact decide_eq_true ⟨hm, by omega, by omega, by omega, by omega⟩
set_option maxRecDepth 20000 in
theorem cloneE_c (m : Nat) (es : List Int) (he : m * 4 = es.length) (hm : m ≤ 4096) : CallA Try.prog 60 [.t (.a (.s (.slc 0 0 m)))] [entB false es] (fun w H => w = .t (.a (.s (.slc 1 0 m))) ∧ H = [entB false es, entB true es]) := by
  refine call_of_vc TYok mixedO Try.func60 rfl rfl (Nat.le_of_ble_eq_true rfl) ?_
  cases m with
  | zero =>
    have h0 : es = [] := List.eq_nil_of_length_eq_zero (by omega)
    subst h0
    (repeat (first | refine aC ?_ | refine aK ?_ | refine ⟨fun _ => ?_, fun h => absurd h (by decide)⟩ | refine ⟨fun h => absurd h (by decide), fun _ => ?_⟩))
    intro b
    (repeat (first | refine aC ?_ | refine aK ?_ | refine ⟨fun _ => ?_, fun h => absurd h (by decide)⟩ | refine ⟨fun h => absurd h (by decide), fun _ => ?_⟩))
    refine ⟨fun _ => ?_, fun _ => ?_⟩
    · (repeat (first | refine aC ?_ | refine aK ?_ | refine ⟨fun _ => ?_, fun h => absurd h (by decide)⟩ | refine ⟨fun h => absurd h (by decide), fun _ => ?_⟩))
      exact ⟨fun i => match i with | 0 => some 0 | _ => none, .t (.a (.s (.slc 1 0 0))), [entB false [], entB true []], by exact wI, rfl, rfl⟩
    · (repeat (first | refine aC ?_ | refine aK ?_ | refine ⟨fun _ => ?_, fun h => absurd h (by decide)⟩ | refine ⟨fun h => absurd h (by decide), fun _ => ?_⟩))
      exact ⟨some, .t (.a (.s (.slc 1 0 0))), [entB false [], entB true []], by exact wI, rfl, rfl⟩
  | succ m =>
    (repeat (first | refine aC ?_ | refine aK ?_ | refine ⟨fun _ => ?_, fun h => absurd h (by decide)⟩ | refine ⟨fun h => absurd h (by decide), fun _ => ?_⟩))
    refine And.intro ?_ ?_
    · exact and_t (and_t (and_t (and_t (decide_eq_true (by rw [siz67]; omega)) rfl) rfl) (decide_eq_true siz67.symm)) (apE_t rfl (Nat.succ_pos m) hm rfl rfl rfl rfl)
    · (repeat (first | refine aC ?_ | refine aK ?_ | refine ⟨fun _ => ?_, fun h => absurd h (by decide)⟩ | refine ⟨fun h => absurd h (by decide), fun _ => ?_⟩))
      have ht : [] ++ List.take ((m + 1) * ti67.size) (List.drop 0 es) = es := by
        rw [siz67, List.nil_append, List.drop_zero]
        exact List.take_of_length_le (by omega)
      rw [ht]
      generalize hg : 0 + lenOf _ = g
      obtain rfl : g = m + 1 := by
        rw [← hg]
        exact Nat.zero_add (m + 1)
      exact ⟨(fun i => match i with | 0 => some 0 | 1 => some 2 | _ => none), .t (.a (.s (.slc 1 0 (m + 1)))), [entB false es, entB true es], by exact wI, rfl, rfl⟩
set_option maxRecDepth 20000 in
theorem Entries_c (d : Int) (n : Nat) (xs : List Int) (m : Nat) (es : List Int) (he : m * 4 = es.length) (hm : m ≤ 4096) : CallA Try.prog 33 [.t (.a (.s (.ptr 0 0)))] (bookR false d n xs m es) (fun w H => w = .t (.a (.s (.slc 3 0 m))) ∧ H = bookR false d n xs m es ++ [entB true es]) := by
  refine call_of_vc TYok mixedO Try.func33 rfl rfl (Nat.le_of_ble_eq_true rfl) ?_
  (repeat (first | refine aC ?_ | refine aK ?_ | refine ⟨fun _ => ?_, fun h => absurd h (by decide)⟩ | refine ⟨fun h => absurd h (by decide), fun _ => ?_⟩))
  (refine call_lift (isMade_c d n xs m es) (fun i => match i with | 0 => some 0 | 1 => some 1 | 2 => some 2 | _ => none) rfl rfl hI rfl rfl rfl ?_; rintro v H1 ⟨rfl, rfl⟩; refine ⟨⟨rfl, rfl, rfl, rfl⟩, ?_⟩; (try simp only [two]); (try simp only [AV.ren]); (try simp only [renT]); (try simp only [AT.ren]); (try simp only [A.ren]); (try (rw [ptr_ren]; rotate_left; exact rfl)); (try (rw [slc_ren]; rotate_left; exact rfl)); (try simp only [S.ren]))
  (repeat (first | refine aC ?_ | refine aK ?_ | refine ⟨fun _ => ?_, fun h => absurd h (by decide)⟩ | refine ⟨fun h => absurd h (by decide), fun _ => ?_⟩))
  (refine call_lift (cloneE_c m es he hm) (fun i => match i with | 0 => some 2 | 1 => some 3 | _ => none) rfl rfl hI rfl rfl rfl ?_; rintro v H1 ⟨rfl, rfl⟩; refine ⟨⟨rfl, rfl, rfl, rfl⟩, ?_⟩; (try simp only [two]); (try simp only [AV.ren]); (try simp only [renT]); (try simp only [AT.ren]); (try simp only [A.ren]); (try (rw [ptr_ren]; rotate_left; exact rfl)); (try (rw [slc_ren]; rotate_left; exact rfl)); (try simp only [S.ren]))
  (repeat (first | refine aC ?_ | refine aK ?_ | refine ⟨fun _ => ?_, fun h => absurd h (by decide)⟩ | refine ⟨fun h => absurd h (by decide), fun _ => ?_⟩))
  exact ⟨some, .t (.a (.s (.slc 3 0 m))), bookR false d n xs m es ++ [entB true es], by exact wI, rfl, rfl⟩
end Go.Proofs.Ytlbgkfidpkbafaa
/- What is so where a vault was opened. -/
namespace Go.Proofs.Ytlbgkfidpkbafaa
open Go.RowKit
set_option linter.unusedSimpArgs false
set_option linter.unusedVariables false
structure Opened (s : St) (a f fb t tb : Int) : Prop where
  vt : 0 ≤ a ∧ a ≤ 15
  bf : 1 ≤ f ∧ f ≤ (s.n : Int)
  bt : 1 ≤ t ∧ t ≤ (s.n : Int)
  sf : standsB s.d s.xs (f - 1).toNat = true
  st : standsB s.d s.xs (t - 1).toNat = true
  hf : fG s.xs (f - 1).toNat 3 = fb
  ht : fG s.xs (t - 1).toNat 3 = tb
  root : fG s.xs (f - 1).toNat 2 ≠ fG s.xs (t - 1).toNat 2
  pers : fb ≠ tb
  rf : hasOpen (fG s.xs (f - 1).toNat 5) = true
  rt : hasOpen (fG s.xs (t - 1).toNat 5) = true
  vf : hasV (fG s.xs (f - 1).toNat 4) a = true
  vs : hasV (fG s.xs (t - 1).toNat 4) a = true
  uf : fG s.xs (f - 1).toNat 7 ≠ 0
  ut : fG s.xs (t - 1).toNat 7 ≠ 0
  few : s.m < 4096
theorem line_self {s : St} (hs : Good s) {i : Nat} (hi : i < s.n) : i ∈ line s.xs i := by
  by_cases ha : fG s.xs i 1 = 0
  · rw [line_root_eq hs.rng.wf hi ha]
    exact List.mem_singleton.2 rfl
  · rw [line_up hs.rng.wf hi ha]
    exact List.mem_cons_self
theorem opened_of {s : St} (hs : Good s) {a f fb t tb : Int} (h : openE s.d s.n s.xs s.m a f fb t tb = 0) : Opened s a f fb t tb := by
  unfold openE at h
  split at h
  · cases h
  rename_i h1
  split at h
  · rename_i h2
    exact absurd h h2
  rename_i h2
  split at h
  · rename_i h3
    exact absurd h h3
  rename_i h3
  split at h
  · cases h
  rename_i h4
  split at h
  · cases h
  rename_i h5
  have h2 : keyE s.d s.n s.xs a f fb = 0 := by simpa using h2
  have h3 : keyE s.d s.n s.xs a t tb = 0 := by simpa using h3
  obtain ⟨bf, kf, zf⟩ := keyE_in h2
  obtain ⟨bt, kt, zt⟩ := keyE_in h3
  simp only [keyC, Bool.and_eq_true, beq_iff_eq] at kf kt
  have h4 : ((fb != tb) && (fG s.xs (f - 1).toNat 2 != fG s.xs (t - 1).toNat 2)) = true := by simpa using h4
  simp only [Bool.and_eq_true, bne_iff_ne, ne_eq] at h4
  have z : ∀ k, k < s.n → spentB s.xs k = false → fG s.xs k 7 ≠ 0 := by
    intro k hk hz e
    unfold spentB at hz
    rw [List.any_eq_false] at hz
    exact hz k (line_self hs hk) (by unfold zeroG; rw [e]; rfl)
  exact ⟨isVt_bd (by simpa using h1), bf, bt, kf.1.1.2, kt.1.1.2, kf.1.1.1.symm, kt.1.1.1.symm, h4.2, h4.1, kf.1.2, kt.1.2, kf.2, kt.2, z _ (by omega) zf, z _ (by omega) zt, by omega⟩
/-- does this act open a vault -/
def opK (a : Ac) : Bool := decide (a.k % 8 ≥ 4) && decide (a.k % 8 ≤ 6)
theorem act_opens {s : St} (hs : Good s) {a : Ac} (h0 : 0 ≤ a.k) (hk : opK a = true) (he : (actS s a).2 = 0) : Opened s a.n a.g a.a a.h a.b ∧ (actS s a).1 = ⟨s.d, s.n, useG (useG s.xs (a.g - 1).toNat) (a.h - 1).toNat, s.m + 1, s.es ++ [s.d, a.n, a.g, a.h]⟩ := by
  unfold opK at hk
  rw [Bool.and_eq_true, decide_eq_true_eq, decide_eq_true_eq] at hk
  have e : actS s a = openS s a.n a.g a.a a.h a.b := by
    unfold actS
    rw [if_neg (by omega), if_neg (by omega), if_neg (by omega), if_neg (by omega)]
  rw [e] at he ⊢
  by_cases h : openE s.d s.n s.xs s.m a.n a.g a.a a.h a.b = 0
  · refine ⟨opened_of hs h, ?_⟩
    unfold openS
    rw [if_neg (by omega)]
  · unfold openS at he
    rw [if_pos h] at he
    exact absurd he h
theorem act_keeps {s : St} {a : Ac} (h0 : 0 ≤ a.k) (h : (opK a && ((actS s a).2 == 0)) = false) : (actS s a).1.m = s.m := by
  by_cases hk : opK a = true
  · rw [hk, Bool.true_and, beq_eq_false_iff_ne] at h
    unfold opK at hk
    rw [Bool.and_eq_true, decide_eq_true_eq, decide_eq_true_eq] at hk
    have e : actS s a = openS s a.n a.g a.a a.h a.b := by
      unfold actS
      rw [if_neg (by omega), if_neg (by omega), if_neg (by omega), if_neg (by omega)]
    rw [e] at h ⊢
    unfold openS at h ⊢
    split
    · rfl
    · rename_i h1
      rw [if_neg h1] at h
      exact absurd rfl h
  · have hk : opK a = false := by simpa using hk
    unfold opK at hk
    rw [Bool.and_eq_false_iff, decide_eq_false_iff_not, decide_eq_false_iff_not] at hk
    unfold actS
    split
    · unfold grantS
      split <;> (try split) <;> rfl
    split
    · unfold passS
      split <;> (try split) <;> (try split) <;> (try split) <;> rfl
    split
    · unfold revokeS
      split <;> (try split) <;> rfl
    split
    · rfl
    · exfalso
      omega
end Go.Proofs.Ytlbgkfidpkbafaa
/- Nobody opens alone. -/
namespace Go.Proofs.Ytlbgkfidpkbafaa
open Go.RowKit
set_option linter.unusedSimpArgs false
set_option linter.unusedVariables false
theorem brTT {b : Bool} {G G' : Prop} (h : b = true) (k : G) : (b = true → G) ∧ (b = false → G') := ⟨fun _ => k, fun h' => absurd (h.symm.trans h') (by decide)⟩
theorem brTF {b : Bool} {G G' : Prop} (h : b = false) (k : G') : (b = true → G) ∧ (b = false → G') := ⟨fun h' => absurd (h.symm.trans h') (by decide), fun _ => k⟩
theorem brFT {b : Bool} {G G' : Prop} (h : b = true) (k : G') : (b = false → G) ∧ (b = true → G') := ⟨fun h' => absurd (h.symm.trans h') (by decide), fun _ => k⟩
theorem brFF {b : Bool} {G G' : Prop} (h : b = false) (k : G) : (b = false → G) ∧ (b = true → G') := ⟨fun _ => k, fun h' => absurd (h.symm.trans h') (by decide)⟩
def stB (s : St) (no : Int) : Bool := inB s no && standsB s.d s.xs (no - 1).toNat
theorem Stands_a (s : St) (hs : Good s) (no : Int) : CallA Try.prog 28 [.t (.a (.s (.ptr 0 0))), .int .i64 no] (heap0 false s)
    (fun w H => w = tupOf [.a (.s (.v (.bool (stB s no)))), .a (.s (.v (.int .i64 (if inB s no = true then 0 else 6))))] ∧ H = heap0 false s) := by
  by_cases h : inB s no = true
  · have h1 := h
    unfold inB at h1
    rw [Bool.and_eq_true, decide_eq_true_eq, decide_eq_true_eq] at h1
    unfold stB
    rw [h, if_pos rfl, Bool.true_and]
    exact Stands_e s.d s.n s.xs s.m s.es hs.rng.wf (no - 1).toNat (by omega) no (by omega)
  · have h : inB s no = false := by simpa using h
    unfold stB
    rw [h, Bool.false_and, if_neg (by decide)]
    exact Stands_none s.d s.n s.xs s.m s.es no h
theorem hasOpen_and {r t : Int} (h1 : hasOpen r = true) (h2 : hasOpen t = true) : (((((r.toNat &&& t.toNat : Nat) : Int).toNat &&& 1 : Nat) : Int) == 0) = false := by
  unfold hasOpen at h1 h2
  rw [bne_iff_ne] at h1 h2
  rw [beq_eq_false_iff_ne, Int.toNat_natCast]
  have a1 : r.toNat &&& 1 = 1 := by have := Nat.and_one_is_mod r.toNat; omega
  have a2 : t.toNat &&& 1 = 1 := by have := Nat.and_one_is_mod t.toNat; omega
  rw [Nat.and_assoc, a2, a1]
  decide
theorem fd_pow (X q : Nat) : (X : Int).fdiv (2 ^ q) = ((X / 2 ^ q : Nat) : Int) := by
  have hp : (0 : Int) ≤ 2 ^ q := Int.le_of_lt (Int.pow_pos (by decide))
  rw [Int.fdiv_eq_ediv_of_nonneg _ hp]
  push_cast
  rfl
theorem hasV_tb {X : Nat} {a : Int} (h : hasV (X : Int) a = true) : X.testBit a.toNat = true := by
  unfold hasV at h
  have h := beq_iff_eq.1 h
  rw [fd_pow, Int.toNat_natCast, Nat.and_one_is_mod] at h
  rw [Nat.testBit_eq_decide_div_mod_eq]
  exact decide_eq_true (by exact_mod_cast h)
theorem hasV_and {v w a : Int} (v0 : 0 ≤ v) (w0 : 0 ≤ w) (h1 : hasV v a = true) (h2 : hasV w a = true) : ((((v.toNat &&& w.toNat : Nat) : Int).fdiv (2 ^ a.toNat)) % 2 == 0) = false := by
  obtain ⟨V, rfl⟩ := Int.eq_ofNat_of_zero_le v0
  obtain ⟨W, rfl⟩ := Int.eq_ofNat_of_zero_le w0
  have k3 : (V &&& W).testBit a.toNat = true := by rw [Nat.testBit_and, hasV_tb h1, hasV_tb h2]; rfl
  rw [Nat.testBit_eq_decide_div_mod_eq] at k3
  have k3 := of_decide_eq_true k3
  rw [beq_eq_false_iff_ne, Int.toNat_natCast, Int.toNat_natCast, fd_pow]
  omega
end Go.Proofs.Ytlbgkfidpkbafaa
