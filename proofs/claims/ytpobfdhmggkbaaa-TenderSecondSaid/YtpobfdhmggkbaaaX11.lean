/- With a single lot the highest offer wins, the first of several, and its buyer pays the highest offer of the other buyers -/
import Derived.Test.YtpobfdhmggkbaaaF2
import Derived.Test.YtpobfdhmggkbaaaL11
namespace Go.Proofs.Ytpobfdhmggkbaaa
open Go.ChangeShapes Go.WideShapes Go.ChangeAt Go.RowKit Go.Deep

set_option maxRecDepth 100000 in
theorem tenderSecond_lifted (os : Os) (started : os.Started) (H : Type) (enc : TypeId × Value → H) :
    ReturnsInHanded {} Try.checked os 11 .any (Rows.tenderSecondSpec.pre6 enc Try.prog Try.f11 Rows.tenderSecondRow.domain false) (Rows.tenderSecondSpec.post enc Try.prog Try.f11 false true false false) := by
  refine returnsInHanded_of_change (C := Try.checked) ownT started (by kernel_rfl) Try.func11
    (ChangeSpec.witness6 (enc := enc) (C := Try.checked) false ⟨#[], #[.slice none 0 0, .slice none 0 0], []⟩ 8 (by kernel_rfl) (by kernel_rfl) (by kernel_rfl) (by kernel_rfl)) ?_
  intro W base args ds gs before hval0 hW hcnd _
  have hval : ∀ (j : Nat) t v, Try.f11.params[j]? = some t → args[j]? = some v → Value.okWide Try.prog W .any base t v := hval0
  have hW' := hW
  obtain ⟨p, q, hA0, hV, rfl, hfz, hnd⟩ := hW
  have hA : DataW.TrodAll enc Try.prog W 0 (fun _ => true) true Try.f11.params.toList args.toList ds p := hA0
  rw [Try.params11] at hA hval
  have hA0' := hA
  obtain ⟨v0, vs0, d0, ds0, p0, q0, e0, rfl, rfl, h0, t0⟩ := trodAll_cons hA0'
  obtain ⟨v1, vs1, d1, ds1, p1, q1, e1, rfl, rfl, h1, t1⟩ := trodAll_cons t0
  have hend : vs1 = [] ∧ ds1 = [] ∧ q1 = [] := by
    cases vs1 <;> cases ds1 <;> simp [DataW.TrodAll] at t1 ⊢ <;> first | exact t1 | simp_all
  obtain ⟨rfl, rfl, rfl⟩ := hend
  have hargs : args = #[v0, v1] := by
    have : args.toList = [v0, v1] := by rw [e0, e1]
    rw [← Array.toArray_toList (xs := args), this]
  subst hargs
  obtain ⟨rfl, rfl⟩ := trodVars_none hV
  obtain ⟨A0, n0, cap0, fl0, rfl, ho0⟩ := open_in Try.underlying26 Try.underlying3 (by kernel_rfl) (hval 0 26 v0 rfl rfl) h0
  obtain ⟨A1, n1, cap1, fl1, rfl, ho1⟩ := open_inU Try.underlying89 Try.underlying5 (by kernel_rfl) (hval 1 89 v1 rfl rfl) h1
  obtain rfl : n0 = fl0.length := by
    have := ho0.len
    dsimp only at this
    omega
  obtain rfl : n1 = fl1.length := by
    have := ho1.len
    dsimp only at this
    omega
  clear hA0 hval0
  refine (law_enter (l := [⟨3, 1, A0, fl0.length, cap0, fl0, .int .i64⟩, ⟨5, 1, A1, fl1.length, cap1, fl1, .int .u8⟩]) (ra := #[.slice A0 fl0.length cap0, .slice A1 fl1.length cap1]) (law11 fl0 fl1 (by have h1 := ho0.le; have h2 := ho0.big; dsimp only at h1 h2; omega) (by have h1 := ho1.le; have h2 := ho1.big; dsimp only at h1 h2; omega) (fun j hj => (ho1.fits j hj).1)) (by simp; exact ⟨ho0, ho1⟩) ⟨slc_of rfl ho0, slc_of rfl ho1, trivial⟩ rfl).mono fun e W' ⟨he, hb⟩ => ?_
  subst he
  exact ⟨_, rfl, law_shut rfl rfl (by rw [Try.params11]; intro t ht; simp at ht; rcases ht with rfl | rfl <;> exact ⟨by kernel_rfl, of_decide_eq_true (by kernel_rfl)⟩) rfl hW' hb⟩

theorem tenderSecond_holds : Rows.TenderSecondSaid :=
  OpenClaim.holds_of_wide 11 Try.f11 rfl rfl rfl rfl rfl rfl rfl ⟨rfl, rfl, rfl, rfl, rfl⟩ rfl rfl rfl rfl rfl (by kernel_rfl) Try.func11 (by kernel_rfl)
    (of_decide_eq_true (by kernel_rfl)) (by unfold Func.isWrapper; first | (rw [if_pos (by decide +kernel)]; kernel_rfl) | (rw [if_neg (by decide +kernel)]; exact ⟨rfl, rfl⟩))
    (fun os started H enc _ => tenderSecond_lifted os started H enc)

end Go.Proofs.Ytpobfdhmggkbaaa
