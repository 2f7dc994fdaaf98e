/- What is so where a vault was opened. -/
import Derived.Test.YtlbgkfidpkbafaaC38
namespace Go.Proofs.Ytlbgkfidpkbafaa
open Go.RowKit
set_option linter.unusedSimpArgs false
set_option linter.unusedVariables false
structure Opened (s : St) (a f fb t tb : Int) : Prop where
  vt : 0 ≤ a ∧ a ≤ 15
  bf : 1 ≤ f ∧ f ≤ (s.n : Int)
  bt : 1 ≤ t ∧ t ≤ (s.n : Int)
  sf : standsB s.d s.xs (f - 1).toNat = true
  st : standsB s.d s.xs (t - 1).toNat = true
  hf : fG s.xs (f - 1).toNat 3 = fb
  ht : fG s.xs (t - 1).toNat 3 = tb
  root : fG s.xs (f - 1).toNat 2 ≠ fG s.xs (t - 1).toNat 2
  pers : fb ≠ tb
  rf : hasOpen (fG s.xs (f - 1).toNat 5) = true
  rt : hasOpen (fG s.xs (t - 1).toNat 5) = true
  vf : hasV (fG s.xs (f - 1).toNat 4) a = true
  vs : hasV (fG s.xs (t - 1).toNat 4) a = true
  uf : fG s.xs (f - 1).toNat 7 ≠ 0
  ut : fG s.xs (t - 1).toNat 7 ≠ 0
  few : s.m < 4096
theorem line_self {s : St} (hs : Good s) {i : Nat} (hi : i < s.n) : i ∈ line s.xs i := by
  by_cases ha : fG s.xs i 1 = 0
  · rw [line_root_eq hs.rng.wf hi ha]
    exact List.mem_singleton.2 rfl
  · rw [line_up hs.rng.wf hi ha]
    exact List.mem_cons_self
theorem opened_of {s : St} (hs : Good s) {a f fb t tb : Int} (h : openE s.d s.n s.xs s.m a f fb t tb = 0) : Opened s a f fb t tb := by
  unfold openE at h
  split at h
  · cases h
  rename_i h1
  split at h
  · rename_i h2
    exact absurd h h2
  rename_i h2
  split at h
  · rename_i h3
    exact absurd h h3
  rename_i h3
  split at h
  · cases h
  rename_i h4
  split at h
  · cases h
  rename_i h5
  have h2 : keyE s.d s.n s.xs a f fb = 0 := by simpa using h2
  have h3 : keyE s.d s.n s.xs a t tb = 0 := by simpa using h3
  obtain ⟨bf, kf, zf⟩ := keyE_in h2
  obtain ⟨bt, kt, zt⟩ := keyE_in h3
  simp only [keyC, Bool.and_eq_true, beq_iff_eq] at kf kt
  have h4 : ((fb != tb) && (fG s.xs (f - 1).toNat 2 != fG s.xs (t - 1).toNat 2)) = true := by simpa using h4
  simp only [Bool.and_eq_true, bne_iff_ne, ne_eq] at h4
  have z : ∀ k, k < s.n → spentB s.xs k = false → fG s.xs k 7 ≠ 0 := by
    intro k hk hz e
    unfold spentB at hz
    rw [List.any_eq_false] at hz
    exact hz k (line_self hs hk) (by unfold zeroG; rw [e]; rfl)
  exact ⟨isVt_bd (by simpa using h1), bf, bt, kf.1.1.2, kt.1.1.2, kf.1.1.1.symm, kt.1.1.1.symm, h4.2, h4.1, kf.1.2, kt.1.2, kf.2, kt.2, z _ (by omega) zf, z _ (by omega) zt, by omega⟩
/-- does this act open a vault -/
def opK (a : Ac) : Bool := decide (a.k % 8 ≥ 4) && decide (a.k % 8 ≤ 6)
theorem act_opens {s : St} (hs : Good s) {a : Ac} (h0 : 0 ≤ a.k) (hk : opK a = true) (he : (actS s a).2 = 0) : Opened s a.n a.g a.a a.h a.b ∧ (actS s a).1 = ⟨s.d, s.n, useG (useG s.xs (a.g - 1).toNat) (a.h - 1).toNat, s.m + 1, s.es ++ [s.d, a.n, a.g, a.h]⟩ := by
  unfold opK at hk
  rw [Bool.and_eq_true, decide_eq_true_eq, decide_eq_true_eq] at hk
  have e : actS s a = openS s a.n a.g a.a a.h a.b := by
    unfold actS
    rw [if_neg (by omega), if_neg (by omega), if_neg (by omega), if_neg (by omega)]
  rw [e] at he ⊢
  by_cases h : openE s.d s.n s.xs s.m a.n a.g a.a a.h a.b = 0
  · refine ⟨opened_of hs h, ?_⟩
    unfold openS
    rw [if_neg (by omega)]
  · unfold openS at he
    rw [if_pos h] at he
    exact absurd he h
theorem act_keeps {s : St} {a : Ac} (h0 : 0 ≤ a.k) (h : (opK a && ((actS s a).2 == 0)) = false) : (actS s a).1.m = s.m := by
  by_cases hk : opK a = true
  · rw [hk, Bool.true_and, beq_eq_false_iff_ne] at h
    unfold opK at hk
    rw [Bool.and_eq_true, decide_eq_true_eq, decide_eq_true_eq] at hk
    have e : actS s a = openS s a.n a.g a.a a.h a.b := by
      unfold actS
      rw [if_neg (by omega), if_neg (by omega), if_neg (by omega), if_neg (by omega)]
    rw [e] at h ⊢
    unfold openS at h ⊢
    split
    · rfl
    · rename_i h1
      rw [if_neg h1] at h
      exact absurd rfl h
  · have hk : opK a = false := by simpa using hk
    unfold opK at hk
    rw [Bool.and_eq_false_iff, decide_eq_false_iff_not, decide_eq_false_iff_not] at hk
    unfold actS
    split
    · unfold grantS
      split <;> (try split) <;> rfl
    split
    · unfold passS
      split <;> (try split) <;> (try split) <;> (try split) <;> rfl
    split
    · unfold revokeS
      split <;> (try split) <;> rfl
    split
    · rfl
    · exfalso
      omega
end Go.Proofs.Ytlbgkfidpkbafaa
