/- Any sequence of grants, delegations, revocations and openings returns the specified results and leaves the specified state. -/
import Derived.Test.YtlbgkfidpkbafaaF9
import Derived.Test.YtlbgkfidpkbafaaG8
namespace Go.Proofs.Ytlbgkfidpkbafaa
open Go.ChangeShapes Go.WideShapes Go.ChangeAt Go.RowKit Go.Deep

set_option maxRecDepth 100000 in
theorem custodyPlays_lifted (os : Os) (started : os.Started) (H : Type) (enc : TypeId × Value → H) :
    ReturnsInHanded {} Try.checked os 3 .any (Rows.custodyPlaysSpec.pre6 enc Try.prog Try.f3 Rows.custodyPlaysRow.domain false) (Rows.custodyPlaysSpec.post enc Try.prog Try.f3 false true false false) := by
  refine returnsInHanded_of_change (C := Try.checked) ownT started (by kernel_rfl) Try.func3
    (ChangeSpec.witness6 (enc := enc) (C := Try.checked) false ⟨#[], #[.slice none 0 0], []⟩ 8 (by kernel_rfl) (by kernel_rfl) (by kernel_rfl) (by kernel_rfl)) ?_
  intro W base args ds gs before hval0 hW hcnd _
  have hval : ∀ (j : Nat) t v, Try.f3.params[j]? = some t → args[j]? = some v → Value.okWide Try.prog W .any base t v := hval0
  have hW' := hW
  obtain ⟨p, q, hA0, hV, rfl, hfz, hnd⟩ := hW
  have hA : DataW.TrodAll enc Try.prog W 0 (fun _ => true) true Try.f3.params.toList args.toList ds p := hA0
  rw [Try.params3] at hA hval
  have hA0' := hA
  obtain ⟨v0, vs0, d0, ds0, p0, q0, e0, rfl, rfl, h0, t0⟩ := trodAll_cons hA0'
  have hend : vs0 = [] ∧ ds0 = [] ∧ q0 = [] := by
    cases vs0 <;> cases ds0 <;> simp [DataW.TrodAll] at t0 ⊢ <;> first | exact t0 | simp_all
  obtain ⟨rfl, rfl, rfl⟩ := hend
  have hargs : args = #[v0] := by
    have : args.toList = [v0] := by rw [e0]
    rw [← Array.toArray_toList (xs := args), this]
  subst hargs
  obtain ⟨rfl, rfl⟩ := trodVars_none hV
  obtain ⟨A0, n0, cap0, fl0, rfl, ho0⟩ := open_acts (hval 0 22 v0 rfl rfl) h0
  have hl0 := acts_len ho0
  have hk0 := acts_kind ho0
  clear hA0 hval0
  refine (law_enterR (l := [⟨35, 11, A0, n0, cap0, fl0, kA⟩]) (ra := #[.slice A0 n0 cap0]) (law3 n0 fl0 hl0 hk0) (by simp; exact ho0) ⟨slc_ofR rfl ho0, trivial⟩ rfl).mono fun e W' ⟨he, hb⟩ => ?_
  subst he
  exact ⟨_, rfl, law_shut rfl rfl (by rw [Try.params3]; intro t ht; simp at ht; subst ht <;> exact ⟨by kernel_rfl, of_decide_eq_true (by kernel_rfl)⟩) rfl hW' hb⟩

theorem custodyPlays_holds : Rows.CustodyPlaysSaid :=
  OpenClaim.holds_of_wide 3 Try.f3 rfl rfl rfl rfl rfl rfl rfl ⟨rfl, rfl, rfl, rfl, rfl⟩ rfl rfl rfl rfl rfl (by kernel_rfl) Try.func3 (by kernel_rfl)
    (of_decide_eq_true (by kernel_rfl)) (by unfold Func.isWrapper; first | (rw [if_pos (by decide +kernel)]; kernel_rfl) | (rw [if_neg (by decide +kernel)]; exact ⟨rfl, rfl⟩))
    (fun os started H enc _ => custodyPlays_lifted os started H enc)

end Go.Proofs.Ytlbgkfidpkbafaa
