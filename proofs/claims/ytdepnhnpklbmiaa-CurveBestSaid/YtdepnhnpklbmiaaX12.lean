/- For every list of curves, every total and every choice of numbers: Split returns the lexicographically first division of least cost, certified by its price, or reports an error and returns nothing else; the arguments stay as they were. -/
import Derived.Test.YtdepnhnpklbmiaaF0
import Derived.Test.YtdepnhnpklbmiaaV12
namespace Go.Proofs.Ytdepnhnpklbmiaa
open Go.ChangeShapes Go.WideShapes Go.ChangeAt Go.RowKit Go.Deep

set_option maxRecDepth 100000 in
theorem curveBest_lifted (os : Os) (started : os.Started) (H : Type) (enc : TypeId × Value → H) :
    ReturnsInHanded {} Try.checked os 12 .any (Rows.curveBestSpec.pre6 enc Try.prog Try.f12 Rows.curveBestRow.domain false) (Rows.curveBestSpec.post enc Try.prog Try.f12 false true false false) := by
  refine returnsInHanded_of_change (C := Try.checked) ownT started (by kernel_rfl) Try.func12
    (ChangeSpec.witness6 (enc := enc) (C := Try.checked) false ⟨#[], #[.slice none 0 0, .int .i64 0, .slice none 0 0], []⟩ 8 (by kernel_rfl) (by kernel_rfl) (by kernel_rfl) (by kernel_rfl)) ?_
  intro W base args ds gs before hval0 hW hcnd _
  have hval : ∀ (j : Nat) t v, Try.f12.params[j]? = some t → args[j]? = some v → Value.okWide Try.prog W .any base t v := hval0
  have hW' := hW
  obtain ⟨p, q, hA0, hV, rfl, hfz, hnd⟩ := hW
  have hA : DataW.TrodAll enc Try.prog W 0 (fun _ => true) true Try.f12.params.toList args.toList ds p := hA0
  rw [Try.params12] at hA hval
  have hA0' := hA
  obtain ⟨v0, vs0, d0, ds0, p0, q0, e0, rfl, rfl, h0, t0⟩ := trodAll_cons hA0'
  obtain ⟨v1, vs1, d1, ds1, p1, q1, e1, rfl, rfl, h1, t1⟩ := trodAll_cons t0
  obtain ⟨v2, vs2, d2, ds2, p2, q2, e2, rfl, rfl, h2, t2⟩ := trodAll_cons t1
  have hend : vs2 = [] ∧ ds2 = [] ∧ q2 = [] := by
    cases vs2 <;> cases ds2 <;> simp [DataW.TrodAll] at t2 ⊢ <;> first | exact t2 | simp_all
  obtain ⟨rfl, rfl, rfl⟩ := hend
  have hargs : args = #[v0, v1, v2] := by
    have : args.toList = [v0, v1, v2] := by rw [e0, e1, e2]
    rw [← Array.toArray_toList (xs := args), this]
  subst hargs
  obtain ⟨rfl, rfl⟩ := trodVars_none hV
  obtain ⟨A0, n0, cap0, cs0, ss0, rfl, hx0, hcap0, hn0, hm0⟩ := open_curves (hval 0 45 v0 rfl rfl) h0
  obtain ⟨x1, rfl, _, _, w1⟩ := open_int Try.underlying3 (hval 1 3 v1 rfl rfl) h1
  have r1 := lit_range w1
  obtain ⟨A2, n2, cap2, xs2, rfl, hx2⟩ := open_nums (hval 2 22 v2 rfl rfl) h2
  clear hA0 hval0
  refine (best_law A0 n0 cap0 cs0 ss0 x1 A2 n2 cap2 xs2 W hx0 hcap0 hn0 hm0 hx2.at_ (Nat.le_trans hx2.le hx2.big)).mono fun e W' ⟨he, hb⟩ => ?_
  subst he
  exact ⟨_, rfl, law_shut rfl rfl (by rw [Try.params12]; intro t ht; simp at ht; rcases ht with rfl | rfl | rfl <;> exact ⟨by kernel_rfl, of_decide_eq_true (by kernel_rfl)⟩) rfl hW' hb⟩

theorem curveBest_holds : Rows.CurveBestSaid :=
  OpenClaim.holds_of_wide 12 Try.f12 rfl rfl rfl rfl rfl rfl rfl ⟨rfl, rfl, rfl, rfl, rfl⟩ rfl rfl rfl rfl rfl (by kernel_rfl) Try.func12 (by kernel_rfl)
    (of_decide_eq_true (by kernel_rfl)) (by unfold Func.isWrapper; first | (rw [if_pos (by decide +kernel)]; kernel_rfl) | (rw [if_neg (by decide +kernel)]; exact ⟨rfl, rfl⟩))
    (fun os started H enc _ => curveBest_lifted os started H enc)

end Go.Proofs.Ytdepnhnpklbmiaa
