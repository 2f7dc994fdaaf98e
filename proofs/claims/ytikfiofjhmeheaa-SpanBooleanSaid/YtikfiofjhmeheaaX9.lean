/- For every three lists of spans, the sets of them obey the laws of a Boolean algebra, where no call reports that it is full; the lists stay as they were. No condition. -/
import Derived.Test.YtikfiofjhmeheaaW2
import Derived.Test.YtikfiofjhmeheaaV9
namespace Go.Proofs.Ytikfiofjhmeheaa
open Go.ChangeShapes Go.WideShapes Go.ChangeAt Go.RowKit Go.Deep

set_option maxRecDepth 100000 in
theorem spanBoolean_lifted (os : Os) (started : os.Started) (H : Type) (enc : TypeId × Value → H) :
    ReturnsInHanded {} Try.checked os 9 .any (Rows.spanBooleanSpec.pre6 enc Try.prog Try.f9 Rows.spanBooleanRow.domain false) (Rows.spanBooleanSpec.post enc Try.prog Try.f9 false true false false) := by
  refine returnsInHanded_of_change (C := Try.checked) ownT started (by kernel_rfl) Try.func9
    (ChangeSpec.witness6 (enc := enc) (C := Try.checked) false ⟨#[], #[.slice none 0 0, .slice none 0 0, .slice none 0 0], []⟩ 8 (by kernel_rfl) (by kernel_rfl) (by kernel_rfl) (by kernel_rfl)) ?_
  intro W base args ds gs before hval0 hW hcnd _
  have hval : ∀ (j : Nat) t v, Try.f9.params[j]? = some t → args[j]? = some v → Value.okWide Try.prog W .any base t v := hval0
  have hW' := hW
  obtain ⟨p, q, hA0, hV, rfl, hfz, hnd⟩ := hW
  have hA : DataW.TrodAll enc Try.prog W 0 (fun _ => true) true Try.f9.params.toList args.toList ds p := hA0
  rw [Try.params9] at hA hval
  obtain ⟨v0, v1, v2, d0, d1, d2, p0, p1, p2, rfl, rfl, rfl, h0, h1, h2⟩ := trodAll_three hA
  obtain ⟨rfl, rfl⟩ := trodVars_none hV
  obtain ⟨A0, n0, cap0, xs0, rfl, hx0, hn0⟩ := open_spans_big (hval 0 22 v0 rfl rfl) h0
  obtain ⟨A1, n1, cap1, xs1, rfl, hx1, hn1⟩ := open_spans_big (hval 1 22 v1 rfl rfl) h1
  obtain ⟨A2, n2, cap2, xs2, rfl, hx2, hn2⟩ := open_spans_big (hval 2 22 v2 rfl rfl) h2
  clear hA0 hval0
  refine (boolean_law A0 A1 A2 n0 cap0 n1 cap1 n2 cap2 xs0 xs1 xs2 W hx0 hx1 hx2 hn0 hn1 hn2).mono fun e W' ⟨he, hb⟩ => ?_
  subst he
  exact ⟨_, rfl, law_shut rfl rfl (by rw [Try.params9]; intro t ht; simp at ht; subst ht <;> exact ⟨by kernel_rfl, of_decide_eq_true (by kernel_rfl)⟩) rfl hW' hb⟩

theorem spanBoolean_holds : Rows.SpanBooleanSaid :=
  OpenClaim.holds_of_wide 9 Try.f9 rfl rfl rfl rfl rfl rfl rfl ⟨rfl, rfl, rfl, rfl, rfl⟩ rfl rfl rfl rfl rfl (by kernel_rfl) Try.func9 (by kernel_rfl)
    (of_decide_eq_true (by kernel_rfl)) (by unfold Func.isWrapper; first | (rw [if_pos (by decide +kernel)]; kernel_rfl) | (rw [if_neg (by decide +kernel)]; exact ⟨rfl, rfl⟩))
    (fun os started H enc _ => spanBoolean_lifted os started H enc)

end Go.Proofs.Ytikfiofjhmeheaa
