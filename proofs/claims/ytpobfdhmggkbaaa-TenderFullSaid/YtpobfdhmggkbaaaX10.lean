/- Show returns ErrFull when more offers would be shown than there may be, and changes nothing then; a buyer without an offer still shows, and Close decides all offers that were shown. -/
import Derived.Test.YtpobfdhmggkbaaaWD
import Derived.Test.YtpobfdhmggkbaaaWE
namespace Go.Proofs.Ytpobfdhmggkbaaa
open Go.ChangeShapes Go.WideShapes Go.ChangeAt Go.RowKit Go.Deep

set_option maxRecDepth 100000 in
theorem tenderFull_lifted (os : Os) (started : os.Started) (H : Type) (enc : TypeId × Value → H) :
    ReturnsInHanded {} Try.checked os 13 .any (Rows.tenderFullSpec.pre6 enc Try.prog Try.f13 Rows.tenderFullRow.domain false) (Rows.tenderFullSpec.post enc Try.prog Try.f13 false true false false) := by
  refine returnsInHanded_of_change (C := Try.checked) ownT started (by kernel_rfl) Try.func13
    (ChangeSpec.witness6 (enc := enc) (C := Try.checked) false ⟨#[], #[.agg #[.int .u16 0, .int .u16 0, .int .u16 0, .int .u16 0, .int .u16 0, .int .u16 0, .int .u16 0, .int .u16 0, .int .u16 0, .int .u16 0, .int .u16 0, .int .u16 0, .int .u16 0, .int .u16 0, .int .u16 0, .int .u16 0, .int .u16 0], .int .u8 0], []⟩ 8 (by kernel_rfl) (by kernel_rfl) (by kernel_rfl) (by kernel_rfl)) ?_
  intro W base args ds gs before hval0 hW hcnd _
  have hval : ∀ (j : Nat) t v, Try.f13.params[j]? = some t → args[j]? = some v → Value.okWide Try.prog W .any base t v := hval0
  have hW' := hW
  obtain ⟨p, q, hA0, hV, rfl, hfz, hnd⟩ := hW
  have hA : DataW.TrodAll enc Try.prog W 0 (fun _ => true) true Try.f13.params.toList args.toList ds p := hA0
  rw [Try.params13] at hA hval
  have hA0' := hA
  obtain ⟨v0, vs0, d0, ds0, p0, q0, e0, rfl, rfl, h0, t0⟩ := trodAll_cons hA0'
  obtain ⟨v1, vs1, d1, ds1, p1, q1, e1, rfl, rfl, h1, t1⟩ := trodAll_cons t0
  have hend : vs1 = [] ∧ ds1 = [] ∧ q1 = [] := by
    cases vs1 <;> cases ds1 <;> simp [DataW.TrodAll] at t1 ⊢ <;> first | exact t1 | simp_all
  obtain ⟨rfl, rfl, rfl⟩ := hend
  have hargs : args = #[v0, v1] := by
    have : args.toList = [v0, v1] := by rw [e0, e1]
    rw [← Array.toArray_toList (xs := args), this]
  subst hargs
  obtain ⟨rfl, rfl⟩ := trodVars_none hV
  obtain ⟨cs, rfl, hsz, hcs⟩ := open_arr (n := 17) Try.underlying97 Try.underlying96 (by kernel_rfl) (by kernel_rfl) (hval 0 97 v0 rfl rfl) h0
  obtain ⟨x1, rfl, _, _, w1⟩ := open_int Try.underlying5 (hval 1 5 v1 rfl rfl) h1
  have r1 := lit_u8 w1
  clear hA0 hval0
  have hpr : ∃ pr : Nat → Int, ∀ i, i < 17 → cs[i]? = some (.int .u16 (pr i)) ∧ 0 ≤ pr i ∧ pr i ≤ 65535 := by
    refine ⟨fun i => match cs[i]? with | some (.int _ q) => q | _ => 0, fun i hi => ?_⟩
    obtain ⟨q, hq, hwf⟩ := hcs i hi
    have h3 := (Lit.wf_int_iff .u16 q).1 hwf
    have e1 : IntKind.u16.min = 0 := by decide
    have e2 : IntKind.u16.max = 65535 := by decide
    rw [e1, e2] at h3
    dsimp only
    rw [hq]
    exact ⟨rfl, h3.1, h3.2⟩
  obtain ⟨pr, hpr⟩ := hpr
  obtain ⟨last, rfl⟩ : ∃ last : Nat, x1 = last := ⟨x1.toNat, by omega⟩
  refine (law13 W cs pr hsz hpr last (by omega)).mono fun e W' ⟨he, hb⟩ => ?_
  subst he
  exact ⟨_, rfl, law_shut rfl rfl (by rw [Try.params13]; intro t ht; simp at ht; rcases ht with rfl | rfl <;> exact ⟨by kernel_rfl, of_decide_eq_true (by kernel_rfl)⟩) rfl hW' hb⟩

theorem tenderFull_holds : Rows.TenderFullSaid :=
  OpenClaim.holds_of_wide 13 Try.f13 rfl rfl rfl rfl rfl rfl rfl ⟨rfl, rfl, rfl, rfl, rfl⟩ rfl rfl rfl rfl rfl (by kernel_rfl) Try.func13 (by kernel_rfl)
    (of_decide_eq_true (by kernel_rfl)) (by unfold Func.isWrapper; first | (rw [if_pos (by decide +kernel)]; kernel_rfl) | (rw [if_neg (by decide +kernel)]; exact ⟨rfl, rfl⟩))
    (fun os started H enc _ => tenderFull_lifted os started H enc)

end Go.Proofs.Ytpobfdhmggkbaaa
