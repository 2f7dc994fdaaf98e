/- After a revocation neither the grant nor any grant beneath it stands on any later day or is in a later entry, and all other grants stand as before. -/
import Derived.Test.YtlbgkfidpkbafaaF9
import Derived.Test.YtlbgkfidpkbafaaC47
namespace Go.Proofs.Ytlbgkfidpkbafaa
open Go.ChangeShapes Go.WideShapes Go.ChangeAt Go.RowKit Go.Deep

set_option maxRecDepth 100000 in
theorem custodyTaken_lifted (os : Os) (started : os.Started) (H : Type) (enc : TypeId × Value → H) :
    ReturnsInHanded {} Try.checked os 9 .any (Rows.custodyTakenSpec.pre6 enc Try.prog Try.f9 Rows.custodyTakenRow.domain false) (Rows.custodyTakenSpec.post enc Try.prog Try.f9 false true false false) := by
  refine returnsInHanded_of_change (C := Try.checked) ownT started (by kernel_rfl) Try.func9
    (ChangeSpec.witness6 (enc := enc) (C := Try.checked) false ⟨#[], #[.slice none 0 0, .int .i64 0, .int .i64 0, .slice none 0 0], []⟩ 8 (by kernel_rfl) (by kernel_rfl) (by kernel_rfl) (by kernel_rfl)) ?_
  intro W base args ds gs before hval0 hW hcnd _
  have hval : ∀ (j : Nat) t v, Try.f9.params[j]? = some t → args[j]? = some v → Value.okWide Try.prog W .any base t v := hval0
  have hW' := hW
  obtain ⟨p, q, hA0, hV, rfl, hfz, hnd⟩ := hW
  have hA : DataW.TrodAll enc Try.prog W 0 (fun _ => true) true Try.f9.params.toList args.toList ds p := hA0
  rw [Try.params9] at hA hval
  have hA0' := hA
  obtain ⟨v0, vs0, d0, ds0, p0, q0, e0, rfl, rfl, h0, t0⟩ := trodAll_cons hA0'
  obtain ⟨v1, vs1, d1, ds1, p1, q1, e1, rfl, rfl, h1, t1⟩ := trodAll_cons t0
  obtain ⟨v2, vs2, d2, ds2, p2, q2, e2, rfl, rfl, h2, t2⟩ := trodAll_cons t1
  obtain ⟨v3, vs3, d3, ds3, p3, q3, e3, rfl, rfl, h3, t3⟩ := trodAll_cons t2
  have hend : vs3 = [] ∧ ds3 = [] ∧ q3 = [] := by
    cases vs3 <;> cases ds3 <;> simp [DataW.TrodAll] at t3 ⊢ <;> first | exact t3 | simp_all
  obtain ⟨rfl, rfl, rfl⟩ := hend
  have hargs : args = #[v0, v1, v2, v3] := by
    have : args.toList = [v0, v1, v2, v3] := by rw [e0, e1, e2, e3]
    rw [← Array.toArray_toList (xs := args), this]
  subst hargs
  obtain ⟨rfl, rfl⟩ := trodVars_none hV
  obtain ⟨A0, n0, cap0, fl0, rfl, ho0⟩ := open_acts (hval 0 22 v0 rfl rfl) h0
  have hl0 := acts_len ho0
  have hk0 := acts_kind ho0
  obtain ⟨x1, rfl, _, _, w1⟩ := open_int Try.underlying3 (hval 1 3 v1 rfl rfl) h1
  have r1 := lit_range w1
  obtain ⟨x2, rfl, _, _, w2⟩ := open_int Try.underlying3 (hval 2 3 v2 rfl rfl) h2
  have r2 := lit_range w2
  obtain ⟨A3, n3, cap3, fl3, rfl, ho3⟩ := open_acts (hval 3 22 v3 rfl rfl) h3
  have hl3 := acts_len ho3
  have hk3 := acts_kind ho3
  clear hA0 hval0
  refine (law_enterR (l := [⟨35, 11, A0, n0, cap0, fl0, kA⟩, ⟨35, 11, A3, n3, cap3, fl3, kA⟩]) (ra := #[.slice A0 n0 cap0, .int .i64 x1, .int .i64 x2, .slice A3 n3 cap3]) (law9 n0 fl0 hl0 hk0 x1 x2 n3 fl3 hl3 hk3) (by simp; exact ⟨ho0, ho3⟩) ⟨slc_ofR rfl ho0, rfl, rfl, slc_ofR rfl ho3, trivial⟩ rfl).mono fun e W' ⟨he, hb⟩ => ?_
  subst he
  exact ⟨_, rfl, law_shut rfl rfl (by rw [Try.params9]; intro t ht; simp at ht; rcases ht with rfl | rfl | rfl <;> exact ⟨by kernel_rfl, of_decide_eq_true (by kernel_rfl)⟩) rfl hW' hb⟩

theorem custodyTaken_holds : Rows.CustodyTakenSaid :=
  OpenClaim.holds_of_wide 9 Try.f9 rfl rfl rfl rfl rfl rfl rfl ⟨rfl, rfl, rfl, rfl, rfl⟩ rfl rfl rfl rfl rfl (by kernel_rfl) Try.func9 (by kernel_rfl)
    (of_decide_eq_true (by kernel_rfl)) (by unfold Func.isWrapper; first | (rw [if_pos (by decide +kernel)]; kernel_rfl) | (rw [if_neg (by decide +kernel)]; exact ⟨rfl, rfl⟩))
    (fun os started H enc _ => custodyTaken_lifted os started H enc)

end Go.Proofs.Ytlbgkfidpkbafaa
