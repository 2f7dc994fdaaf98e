/- For every list of curves and every total: Split and Meet return what the specification's Split and Meet return: the same numbers, the same price, the same error; no condition on the arguments (beyond the sizes that the law itself passes over). -/
import Derived.Test.YtdepnhnpklbmiaaF
import Derived.Test.YtdepnhnpklbmiaaSG
namespace Go.Proofs.Ytdepnhnpklbmiaa
open Go.ChangeShapes Go.WideShapes Go.ChangeAt Go.RowKit Go.Deep

set_option maxRecDepth 100000 in
theorem curveSplits_lifted (os : Os) (started : os.Started) (H : Type) (enc : TypeId × Value → H) :
    ReturnsInHanded {} Try.checked os 6 .any (Rows.curveSplitsSpec.pre6 enc Try.prog Try.f6 Rows.curveSplitsRow.domain false) (Rows.curveSplitsSpec.post enc Try.prog Try.f6 false true false false) := by
  refine returnsInHanded_of_change (C := Try.checked) ownT started (by kernel_rfl) Try.func6
    (ChangeSpec.witness6 (enc := enc) (C := Try.checked) false ⟨#[], #[.slice none 0 0, .int .i64 0], []⟩ 8 (by kernel_rfl) (by kernel_rfl) (by kernel_rfl) (by kernel_rfl)) ?_
  intro W base args ds gs before hval0 hW hcnd _
  have hval : ∀ (j : Nat) t v, Try.f6.params[j]? = some t → args[j]? = some v → Value.okWide Try.prog W .any base t v := hval0
  have hW' := hW
  obtain ⟨p, q, hA0, hV, rfl, hfz, hnd⟩ := hW
  have hA : DataW.TrodAll enc Try.prog W 0 (fun _ => true) true Try.f6.params.toList args.toList ds p := hA0
  rw [Try.params6] at hA hval
  have hA0' := hA
  obtain ⟨v0, vs0, d0, ds0, p0, q0, e0, rfl, rfl, h0, t0⟩ := trodAll_cons hA0'
  obtain ⟨v1, vs1, d1, ds1, p1, q1, e1, rfl, rfl, h1, t1⟩ := trodAll_cons t0
  have hend : vs1 = [] ∧ ds1 = [] ∧ q1 = [] := by
    cases vs1 <;> cases ds1 <;> simp [DataW.TrodAll] at t1 ⊢ <;> first | exact t1 | simp_all
  obtain ⟨rfl, rfl, rfl⟩ := hend
  have hargs : args = #[v0, v1] := by
    have : args.toList = [v0, v1] := by rw [e0, e1]
    rw [← Array.toArray_toList (xs := args), this]
  subst hargs
  obtain ⟨rfl, rfl⟩ := trodVars_none hV
  obtain ⟨A0, n0, cap0, cs0, ss0, rfl, hx0, hcap0, hn0, hm0⟩ := open_curves2 (hval 0 45 v0 rfl rfl) h0
  obtain ⟨x1, rfl, _, _, w1⟩ := open_int Try.underlying3 (hval 1 3 v1 rfl rfl) h1
  have r1 := lit_range w1
  clear hA0 hval0
  refine (splits_law A0 n0 cap0 cs0 ss0 x1 W hx0 hcap0 hn0 hm0 r1).mono fun e W' ⟨he, hb⟩ => ?_
  subst he
  exact ⟨_, rfl, law_shut rfl rfl (by rw [Try.params6]; intro t ht; simp at ht; rcases ht with rfl | rfl <;> exact ⟨by kernel_rfl, of_decide_eq_true (by kernel_rfl)⟩) rfl hW' hb⟩

theorem curveSplits_holds : Rows.CurveSplitsSaid :=
  OpenClaim.holds_of_wide 6 Try.f6 rfl rfl rfl rfl rfl rfl rfl ⟨rfl, rfl, rfl, rfl, rfl⟩ rfl rfl rfl rfl rfl (by kernel_rfl) Try.func6 (by kernel_rfl)
    (of_decide_eq_true (by kernel_rfl)) (by unfold Func.isWrapper; first | (rw [if_pos (by decide +kernel)]; kernel_rfl) | (rw [if_neg (by decide +kernel)]; exact ⟨rfl, rfl⟩))
    (fun os started H enc _ => curveSplits_lifted os started H enc)

end Go.Proofs.Ytdepnhnpklbmiaa
