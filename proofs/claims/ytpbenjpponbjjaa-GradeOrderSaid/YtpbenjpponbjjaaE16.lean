/- Closing of conditions. -/
import Derived.Test.YtpbenjpponbjjaaT
import Derived.Test.YtpbenjpponbjjaaR2
namespace Go.Proofs.Ytpbenjpponbjjaa.En
open Go.RowKit
theorem natOk_u64 {x : Int} : natOk .u64 x = true ↔ 0 ≤ x ∧ x ≤ 18446744073709551615 := by
  unfold natOk
  rw [decide_eq_true_eq]
  have : IntKind.u64.max = 18446744073709551615 := by decide
  rw [this]
theorem ptr_ren {σ : Rn} {b o c : Nat} (h : σ b = some c) : (S.ptr b o).ren σ = .ptr c o := by
  simp only [S.ren, h]
theorem slc_ren {σ : Rn} {b o n c : Nat} (h : σ b = some c) : (S.slc b o n).ren σ = .slc c o n := by
  simp only [S.ren, h]
theorem i64_of {x : Int} (h : -9223372036854775808 ≤ x ∧ x ≤ 9223372036854775807) : i64ok x = true := decide_eq_true h
theorem natOk_i64 {x : Int} : natOk .i64 x = true ↔ 0 ≤ x ∧ x ≤ 9223372036854775807 := by
  unfold natOk
  rw [decide_eq_true_eq]
  have : IntKind.i64.max = 9223372036854775807 := by decide
  rw [this]
theorem one_t {x : A} (h : x.one = true) : x.one = true := h
theorem beq_t {a b : Nat} (h : a = b) : (a == b) = true := beq_iff_eq.2 h
theorem bs_t {a b n : Nat} {l : List A} (h1 : a ≤ n) (h2 : b ≤ n) (h3 : b = l.length) : decide (a ≤ n ∧ b ≤ n ∧ b = l.length) = true := decide_eq_true ⟨h1, h2, h3⟩
theorem ap_t {x y n z L m : Nat} (hx : x = y) (h : 0 < y ∧ n * z = L ∧ (n + y) * m ≤ 140737488355328 ∧ n + y ≤ 9223372036854775807 ∧ 0 < z) : decide (0 < x ∧ n * z = L ∧ (n + x) * m ≤ 140737488355328 ∧ n + x ≤ 9223372036854775807 ∧ 0 < z) = true := by
  subst hx
  exact decide_eq_true h
theorem mk_t {n : Int} {b : Nat} (h : 0 ≤ n ∧ n * b ≤ 281474976710656 ∧ n ≤ 9223372036854775807) : decide (n = n ∧ 0 ≤ n ∧ n * b ≤ 281474976710656 ∧ n ≤ 9223372036854775807) = true := decide_eq_true ⟨rfl, h⟩
theorem live_t {b : Body} (h : b.live = true) : b.live = true := h
theorem len_t {l : List A} {n : Nat} (h : l.length = n) : decide (l.length = n) = true := decide_eq_true h
theorem isz_t {l : List A} {i : TI} (h : l.length = i.size) : decide (l.length = i.size) = true := decide_eq_true h
/-- only what is still wanted is carried on -/
theorem cut_rule {P : Program} {N n0 : Nat} {c : Code} {Q : Post} {E : Env} {H : AH} (E2 : Env) (H2 : AH) (σ : Rn) (hw : Weak n0 σ E H E2 H2) (h : ASem P N n0 c Q E2 H2) : ASem P N n0 c Q E H := by
  intro C D ρ0 ρ w a hI hE hX _
  obtain ⟨ρ2, hI2, hE2, hX2, hn2⟩ := weak_ok hw hI hE hX
  exact h C D ρ0 ρ2 w a hI2 hE2 hX2 hn2
end Go.Proofs.Ytpbenjpponbjjaa.En
