/- For every list of entries and two indexes: the list with the two entries exchanged has the same root only if the two entries are equal, or Accuse names two different byte strings with one hash from the two paths. No condition on the arguments; the two library variables that are listed hold what their initialisers lay (tied to the program text by the card). -/
import Derived.Test.YtbinmkigolkhcaaDoorND
import Derived.Test.YtbinmkigolkhcaaDoorFO
import Derived.Test.YtbinmkigolkhcaaDoorPY
import Derived.Test.YtbinmkigolkhcaaDoorTie
import Derived.Test.YtbinmkigolkhcaaDoorCards
import Derived.SevenTiedAt
set_option linter.unusedSimpArgs false
set_option linter.unusedVariables false
namespace Go.Proofs.YtbinmkigolkhcaaDoor
open Go.ChangeShapes Go.WideShapes Go.ChangeAt Go.RowKit Go.Joins Go.Deep

set_option maxRecDepth 100000 in
theorem proofOrder_lifted (os : Os) (started : os.Started) (H : Type) (enc : TypeId × Value → H) (F : Stop.Interp) :
    ReturnsInHanded {} Tryd.checked os 14 .any ((OpenSpec.ofChange Rows.proofOrderSpec).preRow enc Tryd.prog Tryd.f14 Rows.proofOrderRow.domain false Rows.proofOrderRow.laid) (((OpenSpec.ofChange Rows.proofOrderSpec).at F).post enc Tryd.prog Tryd.f14 false true false false) := by
  refine returnsInHanded_of_row (C := Tryd.checked) (s := OpenSpec.ofChange Rows.proofOrderSpec) ownTd started (by kernel_rfl) Tryd.func14
    (ChangeSpec.witness_shaped (enc := enc) (C := Tryd.checked) (os := os) (s := Rows.proofOrderSpec) (X := fun w _ => laidMetH Tryd.prog laidL w) false (World.doorLaid Tryd.prog 400 os) #[.slice none 0 0, .int .i64 0, .int .i64 0] 8 rfl (World.shaped_of_RefB (by kernel_rfl) (by kernel_rfl)) (by kernel_rfl) (by kernel_rfl) (by kernel_rfl) (door_met os _)) ?_
  intro W base args ds gs before hval0 hW _ _ _ hL hsh _
  have hval : ∀ (j : Nat) t v, Tryd.f14.params[j]? = some t → args[j]? = some v → Value.okWide Tryd.prog W .any base t v := hval0
  have hW' := hW
  obtain ⟨p, q, hA0, hV, rfl, hfz, hnd⟩ := hW
  have hA : DataW.TrodAll enc Tryd.prog W 0 (fun _ => true) true Tryd.f14.params.toList args.toList ds p := hA0
  rw [Tryd.params14] at hA hval
  have hA0' := hA
  obtain ⟨v0, vs0, d0, ds0, p0, q0, e0, rfl, rfl, h0, t0⟩ := trodAll_cons hA0'
  obtain ⟨v1, vs1, d1, ds1, p1, q1, e1, rfl, rfl, h1, t1⟩ := trodAll_cons t0
  obtain ⟨v2, vs2, d2, ds2, p2, q2, e2, rfl, rfl, h2, t2⟩ := trodAll_cons t1
  have hend : vs2 = [] ∧ ds2 = [] ∧ q2 = [] := by
    cases vs2 <;> cases ds2 <;> simp [DataW.TrodAll] at t2 ⊢ <;> first | exact t2 | simp_all
  obtain ⟨rfl, rfl, rfl⟩ := hend
  have hargs : args = #[v0, v1, v2] := by
    have : args.toList = [v0, v1, v2] := by rw [e0, e1, e2]
    rw [← Array.toArray_toList (xs := args), this]
  subst hargs
  obtain ⟨rfl, rfl⟩ := trodVars_none hV
  obtain ⟨A0, n0, c0, l0, rfl, hx0, hn0, hc0⟩ := open_lists (hval 0 22 v0 rfl rfl) h0
  obtain ⟨x1, rfl, _, _, w1⟩ := open_int Tryd.underlying3 (hval 1 3 v1 rfl rfl) h1
  have r1 := lit_i64 w1
  obtain ⟨x2, rfl, _, _, w2⟩ := open_int Tryd.underlying3 (hval 2 3 v2 rfl rfl) h2
  have r2 := lit_i64 w2
  clear hA0 hval0
  refine (order_law A0 n0 c0 l0 x1 x2 W (env_of hL) hx0 hn0 (Nat.le_trans hn0 hc0)).mono fun e W' ⟨he, hb⟩ => ?_
  subst he
  exact ⟨_, rfl, law_shut rfl rfl (by rw [Tryd.params14]; intro t ht; simp at ht; rcases ht with rfl | rfl <;> exact ⟨by kernel_rfl, of_decide_eq_true (by kernel_rfl)⟩) rfl hW' hb⟩

theorem proofOrder_row : Rows.ProofOrderSaid :=
  OpenClaim.holds_of_cond 14 Tryd.f14 rfl rfl rfl rfl rfl rfl rfl ⟨rfl, rfl, rfl, rfl, rfl⟩ rfl rfl rfl rfl rfl (by kernel_rfl) Tryd.func14 (by kernel_rfl)
    (of_decide_eq_true (by kernel_rfl)) (by unfold Func.isWrapper; first | (rw [if_pos (by decide +kernel)]; kernel_rfl) | (rw [if_neg (by decide +kernel)]; exact ⟨rfl, rfl⟩))
    (fun os started H enc _ F => by rw [OpenClaim.pre_eq_preRow]; exact proofOrder_lifted os started H enc F)

theorem proofOrder_holds : Rows.ProofOrderCardSaid :=
  Claim7.holds_tied_plain_at .later [] [.data, .data] true (true, "05396d5674170714a5f9dc24e5637f2bf583603d2f9fdb5282903cf869a64653") false
    proofOrder_row (fun _ h => by cases h) (by kernel_rfl) (fun _ h => by cases h) proofOrder_row_tie rfl ⟨rfl, rfl⟩ (by kernel_rfl) rfl
    (fun f fn hf hfn => by
      obtain rfl : f = 14 := Option.some.inj ((show Tryd.prog.funcNamed "kimberlite/kimberlitelaw07.ProofOrder" = some 14 by kernel_rfl).symm.trans hf) |>.symm
      obtain rfl : fn = Tryd.f14 := (Option.some.inj (Tryd.func14.symm.trans hfn)).symm
      exact ⟨by kernel_rfl, fun j t ht => by
        rw [Tryd.params14] at ht
        have h3 : t = 22 ∨ t = 3 := by
          rcases j with _ | _ | _ | j
          · simp at ht; exact (.inl ht.symm)
          · simp at ht; exact (.inr ht.symm)
          · simp at ht; exact (.inr ht.symm)
          · simp at ht
        rcases h3 with rfl | rfl
        · exact (show Tryd.prog.wantsStandIn 22 = false by kernel_rfl)
        · exact (show Tryd.prog.wantsStandIn 3 = false by kernel_rfl)⟩)
    (by kernel_rfl)
end Go.Proofs.YtbinmkigolkhcaaDoor
