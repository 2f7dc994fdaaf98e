/- Add, Join, Flip, Tilt, Move and Part return the specified curves, or the specified error. -/
import Derived.Test.YtdepnhnpklbmiaaF3
import Derived.Test.YtdepnhnpklbmiaaW14
namespace Go.Proofs.Ytdepnhnpklbmiaa
open Go.ChangeShapes Go.WideShapes Go.ChangeAt Go.RowKit Go.Deep

set_option maxRecDepth 100000 in
theorem curveMakes_lifted (os : Os) (started : os.Started) (H : Type) (enc : TypeId × Value → H) :
    ReturnsInHanded {} Try.checked os 4 .any (Rows.curveMakesSpec.pre6 enc Try.prog Try.f4 Rows.curveMakesRow.domain false) (Rows.curveMakesSpec.post enc Try.prog Try.f4 false true false false) := by
  refine returnsInHanded_of_change (C := Try.checked) ownT started (by kernel_rfl) Try.func4
    (ChangeSpec.witness6 (enc := enc) (C := Try.checked) false ⟨#[], #[.agg #[.int .i64 0, .int .i64 0, .slice none 0 0], .agg #[.int .i64 0, .int .i64 0, .slice none 0 0], .int .i64 0, .int .i64 0, .int .i64 0], []⟩ 8 (by kernel_rfl) (by kernel_rfl) (by kernel_rfl) (by kernel_rfl)) ?_
  intro W base args ds gs before hval0 hW hcnd _
  have hval : ∀ (j : Nat) t v, Try.f4.params[j]? = some t → args[j]? = some v → Value.okWide Try.prog W .any base t v := hval0
  have hW' := hW
  obtain ⟨p, q, hA0, hV, rfl, hfz, hnd⟩ := hW
  have hA : DataW.TrodAll enc Try.prog W 0 (fun _ => true) true Try.f4.params.toList args.toList ds p := hA0
  rw [Try.params4] at hA hval
  have hA0' := hA
  obtain ⟨v0, vs0, d0, ds0, p0, q0, e0, rfl, rfl, h0, t0⟩ := trodAll_cons hA0'
  obtain ⟨v1, vs1, d1, ds1, p1, q1, e1, rfl, rfl, h1, t1⟩ := trodAll_cons t0
  obtain ⟨v2, vs2, d2, ds2, p2, q2, e2, rfl, rfl, h2, t2⟩ := trodAll_cons t1
  obtain ⟨v3, vs3, d3, ds3, p3, q3, e3, rfl, rfl, h3, t3⟩ := trodAll_cons t2
  obtain ⟨v4, vs4, d4, ds4, p4, q4, e4, rfl, rfl, h4, t4⟩ := trodAll_cons t3
  have hend : vs4 = [] ∧ ds4 = [] ∧ q4 = [] := by
    cases vs4 <;> cases ds4 <;> simp [DataW.TrodAll] at t4 ⊢ <;> first | exact t4 | simp_all
  obtain ⟨rfl, rfl, rfl⟩ := hend
  have hargs : args = #[v0, v1, v2, v3, v4] := by
    have : args.toList = [v0, v1, v2, v3, v4] := by rw [e0, e1, e2, e3, e4]
    rw [← Array.toArray_toList (xs := args), this]
  subst hargs
  obtain ⟨rfl, rfl⟩ := trodVars_none hV
  obtain ⟨f0, g0, A0, n0, cap0, fl0, rfl, ho0, hl0, hb0⟩ := open_cuE (hval 0 24 v0 rfl rfl) h0
  obtain ⟨f1, g1, A1, n1, cap1, fl1, rfl, ho1, hl1, hb1⟩ := open_cuE (hval 1 24 v1 rfl rfl) h1
  obtain ⟨x2, rfl, _, _, w2⟩ := open_int Try.underlying3 (hval 2 3 v2 rfl rfl) h2
  have r2 := lit_range w2
  obtain ⟨x3, rfl, _, _, w3⟩ := open_int Try.underlying3 (hval 3 3 v3 rfl rfl) h3
  have r3 := lit_range w3
  obtain ⟨x4, rfl, _, _, w4⟩ := open_int Try.underlying3 (hval 4 3 v4 rfl rfl) h4
  have r4 := lit_range w4
  clear hA0 hval0
  refine (law_enter (l := [⟨3, 1, A0, n0, cap0, fl0, .int .i64⟩, ⟨3, 1, A1, n1, cap1, fl1, .int .i64⟩]) (ra := #[.agg #[.int .i64 f0, .int .i64 g0, .slice A0 n0 cap0], .agg #[.int .i64 f1, .int .i64 g1, .slice A1 n1 cap1], .int .i64 x2, .int .i64 x3, .int .i64 x4]) (law4 f0 g0 n0 fl0 hl0 hb0 f1 g1 n1 fl1 hl1 hb1 x2 x3 x4) (by simp; exact ⟨ho0, ho1⟩) ⟨cu_of rfl ho0, cu_of rfl ho1, rfl, rfl, rfl, trivial⟩ rfl).mono fun e W' ⟨he, hb⟩ => ?_
  subst he
  exact ⟨_, rfl, law_shut rfl rfl (by rw [Try.params4]; intro t ht; simp at ht; rcases ht with rfl | rfl <;> exact ⟨by kernel_rfl, of_decide_eq_true (by kernel_rfl)⟩) rfl hW' hb⟩

theorem curveMakes_holds : Rows.CurveMakesSaid :=
  OpenClaim.holds_of_wide 4 Try.f4 rfl rfl rfl rfl rfl rfl rfl ⟨rfl, rfl, rfl, rfl, rfl⟩ rfl rfl rfl rfl rfl (by kernel_rfl) Try.func4 (by kernel_rfl)
    (of_decide_eq_true (by kernel_rfl)) (by unfold Func.isWrapper; first | (rw [if_pos (by decide +kernel)]; kernel_rfl) | (rw [if_neg (by decide +kernel)]; exact ⟨rfl, rfl⟩))
    (fun os started H enc _ => curveMakes_lifted os started H enc)

end Go.Proofs.Ytdepnhnpklbmiaa
