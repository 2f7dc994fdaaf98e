/- For all curves and all numbers: Add, Flip, Tilt, Move and Part return valid curves with the values that are asked for, where they succeed; the arguments stay as they were. -/
import Derived.Test.YtdepnhnpklbmiaaF1
import Derived.Test.YtdepnhnpklbmiaaV7
namespace Go.Proofs.Ytdepnhnpklbmiaa
open Go.ChangeShapes Go.WideShapes Go.ChangeAt Go.RowKit Go.Deep

set_option maxRecDepth 100000 in
theorem curveConvex_lifted (os : Os) (started : os.Started) (H : Type) (enc : TypeId × Value → H) :
    ReturnsInHanded {} Try.checked os 7 .any (Rows.curveConvexSpec.pre6 enc Try.prog Try.f7 Rows.curveConvexRow.domain false) (Rows.curveConvexSpec.post enc Try.prog Try.f7 false true false false) := by
  refine returnsInHanded_of_change (C := Try.checked) ownT started (by kernel_rfl) Try.func7
    (ChangeSpec.witness6 (enc := enc) (C := Try.checked) false ⟨#[], #[.agg #[.int .i64 0, .int .i64 0, .slice none 0 0], .agg #[.int .i64 0, .int .i64 0, .slice none 0 0], .int .i64 0, .int .i64 0, .int .i64 0, .int .i64 0], []⟩ 8 (by kernel_rfl) (by kernel_rfl) (by kernel_rfl) (by kernel_rfl)) ?_
  intro W base args ds gs before hval0 hW hcnd _
  have hval : ∀ (j : Nat) t v, Try.f7.params[j]? = some t → args[j]? = some v → Value.okWide Try.prog W .any base t v := hval0
  have hW' := hW
  obtain ⟨p, q, hA0, hV, rfl, hfz, hnd⟩ := hW
  have hA : DataW.TrodAll enc Try.prog W 0 (fun _ => true) true Try.f7.params.toList args.toList ds p := hA0
  rw [Try.params7] at hA hval
  have hA0' := hA
  obtain ⟨v0, vs0, d0, ds0, p0, q0, e0, rfl, rfl, h0, t0⟩ := trodAll_cons hA0'
  obtain ⟨v1, vs1, d1, ds1, p1, q1, e1, rfl, rfl, h1, t1⟩ := trodAll_cons t0
  obtain ⟨v2, vs2, d2, ds2, p2, q2, e2, rfl, rfl, h2, t2⟩ := trodAll_cons t1
  obtain ⟨v3, vs3, d3, ds3, p3, q3, e3, rfl, rfl, h3, t3⟩ := trodAll_cons t2
  obtain ⟨v4, vs4, d4, ds4, p4, q4, e4, rfl, rfl, h4, t4⟩ := trodAll_cons t3
  obtain ⟨v5, vs5, d5, ds5, p5, q5, e5, rfl, rfl, h5, t5⟩ := trodAll_cons t4
  have hend : vs5 = [] ∧ ds5 = [] ∧ q5 = [] := by
    cases vs5 <;> cases ds5 <;> simp [DataW.TrodAll] at t5 ⊢ <;> first | exact t5 | simp_all
  obtain ⟨rfl, rfl, rfl⟩ := hend
  have hargs : args = #[v0, v1, v2, v3, v4, v5] := by
    have : args.toList = [v0, v1, v2, v3, v4, v5] := by rw [e0, e1, e2, e3, e4, e5]
    rw [← Array.toArray_toList (xs := args), this]
  subst hargs
  obtain ⟨rfl, rfl⟩ := trodVars_none hV
  obtain ⟨c0, A0, n0, cap0, rfl, hc0, hcap0⟩ := open_cuc (hval 0 24 v0 rfl rfl) h0
  obtain ⟨c1, A1, n1, cap1, rfl, hc1⟩ := open_cu (hval 1 24 v1 rfl rfl) h1
  obtain ⟨x2, rfl, _, _, w2⟩ := open_int Try.underlying3 (hval 2 3 v2 rfl rfl) h2
  have r2 := lit_range w2
  obtain ⟨x3, rfl, _, _, w3⟩ := open_int Try.underlying3 (hval 3 3 v3 rfl rfl) h3
  have r3 := lit_range w3
  obtain ⟨x4, rfl, _, _, w4⟩ := open_int Try.underlying3 (hval 4 3 v4 rfl rfl) h4
  have r4 := lit_range w4
  obtain ⟨x5, rfl, _, _, w5⟩ := open_int Try.underlying3 (hval 5 3 v5 rfl rfl) h5
  have r5 := lit_range w5
  clear hA0 hval0
  refine (convex_law c0 c1 A0 n0 cap0 A1 n1 cap1 x2 x3 x4 x5 W hc0.at_ hc1.at_ hc0.big hc1.big hcap0 r5).mono fun e W' ⟨he, hb⟩ => ?_
  subst he
  exact ⟨_, rfl, law_shut rfl rfl (by rw [Try.params7]; intro t ht; simp at ht; rcases ht with rfl | rfl <;> exact ⟨by kernel_rfl, of_decide_eq_true (by kernel_rfl)⟩) rfl hW' hb⟩

theorem curveConvex_holds : Rows.CurveConvexSaid :=
  OpenClaim.holds_of_wide 7 Try.f7 rfl rfl rfl rfl rfl rfl rfl ⟨rfl, rfl, rfl, rfl, rfl⟩ rfl rfl rfl rfl rfl (by kernel_rfl) Try.func7 (by kernel_rfl)
    (of_decide_eq_true (by kernel_rfl)) (by unfold Func.isWrapper; first | (rw [if_pos (by decide +kernel)]; kernel_rfl) | (rw [if_neg (by decide +kernel)]; exact ⟨rfl, rfl⟩))
    (fun os started H enc _ => curveConvex_lifted os started H enc)

end Go.Proofs.Ytdepnhnpklbmiaa
