/- Every method of a nil tender, or of a zero value of the type, returns what the document says. -/
import Derived.Test.YtpobfdhmggkbaaaF7
import Derived.Test.YtpobfdhmggkbaaaL7
namespace Go.Proofs.Ytpobfdhmggkbaaa
open Go.ChangeShapes Go.WideShapes Go.ChangeAt Go.RowKit Go.Deep

set_option maxRecDepth 100000 in
theorem tenderNobody_lifted (os : Os) (started : os.Started) (H : Type) (enc : TypeId × Value → H) :
    ReturnsInHanded {} Try.checked os 7 .any (Rows.tenderNobodySpec.pre6 enc Try.prog Try.f7 Rows.tenderNobodyRow.domain false) (Rows.tenderNobodySpec.post enc Try.prog Try.f7 false true false false) := by
  refine returnsInHanded_of_change (C := Try.checked) ownT started (by kernel_rfl) Try.func7
    (ChangeSpec.witness6 (enc := enc) (C := Try.checked) false ⟨#[], #[.agg #[.int .u8 0, .int .i64 0, .slice none 0 0, .int .u64 0, .bool false], .bool false], []⟩ 8 (by kernel_rfl) (by kernel_rfl) (by kernel_rfl) (by kernel_rfl)) ?_
  intro W base args ds gs before hval0 hW hcnd _
  have hval : ∀ (j : Nat) t v, Try.f7.params[j]? = some t → args[j]? = some v → Value.okWide Try.prog W .any base t v := hval0
  have hW' := hW
  obtain ⟨p, q, hA0, hV, rfl, hfz, hnd⟩ := hW
  have hA : DataW.TrodAll enc Try.prog W 0 (fun _ => true) true Try.f7.params.toList args.toList ds p := hA0
  rw [Try.params7] at hA hval
  have hA0' := hA
  obtain ⟨v0, vs0, d0, ds0, p0, q0, e0, rfl, rfl, h0, t0⟩ := trodAll_cons hA0'
  obtain ⟨v1, vs1, d1, ds1, p1, q1, e1, rfl, rfl, h1, t1⟩ := trodAll_cons t0
  have hend : vs1 = [] ∧ ds1 = [] ∧ q1 = [] := by
    cases vs1 <;> cases ds1 <;> simp [DataW.TrodAll] at t1 ⊢ <;> first | exact t1 | simp_all
  obtain ⟨rfl, rfl, rfl⟩ := hend
  have hargs : args = #[v0, v1] := by
    have : args.toList = [v0, v1] := by rw [e0, e1]
    rw [← Array.toArray_toList (xs := args), this]
  subst hargs
  obtain ⟨rfl, rfl⟩ := trodVars_none hV
  obtain ⟨k0, y0, s0, w0, A0, n0, cap0, fl0, rfl, ho0⟩ := open_act (hval 0 63 v0 rfl rfl) h0
  obtain ⟨b1, rfl, _, _⟩ := open_bool Try.underlying4 (hval 1 4 v1 rfl rfl) h1
  clear hA0 hval0
  refine (law_enter (l := [⟨72, 3, A0, n0, cap0, fl0⟩]) (ra := #[.agg #[.int .u8 k0, .int .i64 y0, .slice A0 n0 cap0, .int .u64 s0, .bool w0], .bool b1]) (law7 fl0 n0 k0 y0 s0 w0 b1) (by simp; exact ho0) ⟨⟨_, rfl, rfl, rfl, slc_of rfl ho0, rfl, rfl, trivial⟩, rfl, trivial⟩ rfl).mono fun e W' ⟨he, hb⟩ => ?_
  subst he
  exact ⟨_, rfl, law_shut rfl rfl (by rw [Try.params7]; intro t ht; simp at ht; rcases ht with rfl | rfl <;> exact ⟨by kernel_rfl, of_decide_eq_true (by kernel_rfl)⟩) rfl hW' hb⟩

theorem tenderNobody_holds : Rows.TenderNobodySaid :=
  OpenClaim.holds_of_wide 7 Try.f7 rfl rfl rfl rfl rfl rfl rfl ⟨rfl, rfl, rfl, rfl, rfl⟩ rfl rfl rfl rfl rfl (by kernel_rfl) Try.func7 (by kernel_rfl)
    (of_decide_eq_true (by kernel_rfl)) (by unfold Func.isWrapper; first | (rw [if_pos (by decide +kernel)]; kernel_rfl) | (rw [if_neg (by decide +kernel)]; exact ⟨rfl, rfl⟩))
    (fun os started H enc _ => tenderNobody_lifted os started H enc)

end Go.Proofs.Ytpobfdhmggkbaaa
