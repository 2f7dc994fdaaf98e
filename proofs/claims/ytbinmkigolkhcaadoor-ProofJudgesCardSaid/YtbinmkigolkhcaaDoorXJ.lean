/- For every entry, every steps and hashes, valid or not, and every numbers: Included, Extended and Follow return what the specification's do. No condition on the arguments; the two library variables that are listed hold what their initialisers lay (tied to the program's text by the card). -/
import Derived.Test.YtbinmkigolkhcaaDoorIB
import Derived.Test.YtbinmkigolkhcaaDoorFO
import Derived.Test.YtbinmkigolkhcaaDoorTie
import Derived.Test.YtbinmkigolkhcaaDoorCards
import Derived.SevenTiedAt
set_option linter.unusedSimpArgs false
set_option linter.unusedVariables false
namespace Go.Proofs.YtbinmkigolkhcaaDoor
open Go.ChangeShapes Go.WideShapes Go.ChangeAt Go.RowKit Go.Joins Go.Deep

set_option maxRecDepth 100000 in
theorem proofJudges_lifted (os : Os) (started : os.Started) (H : Type) (enc : TypeId × Value → H) (F : Stop.Interp) :
    ReturnsInHanded {} Tryd.checked os 5 .any ((OpenSpec.ofChange Rows.proofJudgesSpec).preRow enc Tryd.prog Tryd.f5 Rows.proofJudgesRow.domain false Rows.proofJudgesRow.laid) (((OpenSpec.ofChange Rows.proofJudgesSpec).at F).post enc Tryd.prog Tryd.f5 false true false false) := by
  refine returnsInHanded_of_row (C := Tryd.checked) (s := OpenSpec.ofChange Rows.proofJudgesSpec) ownTd started (by kernel_rfl) Tryd.func5
    (ChangeSpec.witness_shaped (enc := enc) (C := Tryd.checked) (os := os) (s := Rows.proofJudgesSpec) (X := fun w _ => laidMetH Tryd.prog laidL w) false (World.doorLaid Tryd.prog 400 os) #[.slice none 0 0, .int .i64 0, .int .i64 0, .int .u64 0, .slice none 0 0, .int .i64 0, .int .u64 0, .slice none 0 0] 8 rfl (World.shaped_of_RefB (by kernel_rfl) (by kernel_rfl)) (by kernel_rfl) (by kernel_rfl) (by kernel_rfl) (door_met os _)) ?_
  intro W base args ds gs before hval0 hW _ _ _ hL hsh _
  have hval : ∀ (j : Nat) t v, Tryd.f5.params[j]? = some t → args[j]? = some v → Value.okWide Tryd.prog W .any base t v := hval0
  have hW' := hW
  obtain ⟨p, q, hA0, hV, rfl, hfz, hnd⟩ := hW
  have hA : DataW.TrodAll enc Tryd.prog W 0 (fun _ => true) true Tryd.f5.params.toList args.toList ds p := hA0
  rw [Tryd.params5] at hA hval
  have hA0' := hA
  obtain ⟨v0, vs0, d0, ds0, p0, q0, e0, rfl, rfl, h0, t0⟩ := trodAll_cons hA0'
  obtain ⟨v1, vs1, d1, ds1, p1, q1, e1, rfl, rfl, h1, t1⟩ := trodAll_cons t0
  obtain ⟨v2, vs2, d2, ds2, p2, q2, e2, rfl, rfl, h2, t2⟩ := trodAll_cons t1
  obtain ⟨v3, vs3, d3, ds3, p3, q3, e3, rfl, rfl, h3, t3⟩ := trodAll_cons t2
  obtain ⟨v4, vs4, d4, ds4, p4, q4, e4, rfl, rfl, h4, t4⟩ := trodAll_cons t3
  obtain ⟨v5, vs5, d5, ds5, p5, q5, e5, rfl, rfl, h5, t5⟩ := trodAll_cons t4
  obtain ⟨v6, vs6, d6, ds6, p6, q6, e6, rfl, rfl, h6, t6⟩ := trodAll_cons t5
  obtain ⟨v7, vs7, d7, ds7, p7, q7, e7, rfl, rfl, h7, t7⟩ := trodAll_cons t6
  have hend : vs7 = [] ∧ ds7 = [] ∧ q7 = [] := by
    cases vs7 <;> cases ds7 <;> simp [DataW.TrodAll] at t7 ⊢ <;> first | exact t7 | simp_all
  obtain ⟨rfl, rfl, rfl⟩ := hend
  have hargs : args = #[v0, v1, v2, v3, v4, v5, v6, v7] := by
    have : args.toList = [v0, v1, v2, v3, v4, v5, v6, v7] := by rw [e0, e1, e2, e3, e4, e5, e6, e7]
    rw [← Array.toArray_toList (xs := args), this]
  subst hargs
  obtain ⟨rfl, rfl⟩ := trodVars_none hV
  obtain ⟨A0, n0, c0, l0, rfl, hx0, hn0, hc0⟩ := open_bytes23 (hval 0 23 v0 rfl rfl) h0
  obtain ⟨x1, rfl, _, _, w1⟩ := open_int Tryd.underlying3 (hval 1 3 v1 rfl rfl) h1
  have r1 := lit_i64 w1
  obtain ⟨x2, rfl, _, _, w2⟩ := open_int Tryd.underlying3 (hval 2 3 v2 rfl rfl) h2
  have r2 := lit_i64 w2
  obtain ⟨x3, rfl, hx3⟩ := open_u64 (hval 3 24 v3 rfl rfl) h3
  obtain ⟨A4, n4, c4, l4, rfl, hx4, hn4, hc4⟩ := open_steps (hval 4 33 v4 rfl rfl) h4
  obtain ⟨x5, rfl, _, _, w5⟩ := open_int Tryd.underlying3 (hval 5 3 v5 rfl rfl) h5
  have r5 := lit_i64 w5
  obtain ⟨x6, rfl, hx6⟩ := open_u64 (hval 6 24 v6 rfl rfl) h6
  obtain ⟨A7, n7, c7, l7, rfl, hx7, hn7, hc7⟩ := open_hashes (hval 7 36 v7 rfl rfl) h7
  clear hA0 hval0
  refine (judges_law A0 n0 c0 l0 x1 x2 x3 A4 n4 c4 l4 x5 x6 A7 n7 c7 l7 W (env_of hL) hx0 hx4 hx7 hn7 hx6).mono fun e W' ⟨he, hb⟩ => ?_
  subst he
  exact ⟨_, rfl, law_shut rfl rfl (by rw [Tryd.params5]; intro t ht; simp at ht; rcases ht with rfl | rfl | rfl | rfl | rfl | rfl | rfl <;> exact ⟨by kernel_rfl, of_decide_eq_true (by kernel_rfl)⟩) rfl hW' hb⟩

theorem proofJudges_row : Rows.ProofJudgesSaid :=
  OpenClaim.holds_of_cond 5 Tryd.f5 rfl rfl rfl rfl rfl rfl rfl ⟨rfl, rfl, rfl, rfl, rfl⟩ rfl rfl rfl rfl rfl (by kernel_rfl) Tryd.func5 (by kernel_rfl)
    (of_decide_eq_true (by kernel_rfl)) (by unfold Func.isWrapper; first | (rw [if_pos (by decide +kernel)]; kernel_rfl) | (rw [if_neg (by decide +kernel)]; exact ⟨rfl, rfl⟩))
    (fun os started H enc _ F => by rw [OpenClaim.pre_eq_preRow]; exact proofJudges_lifted os started H enc F)

theorem proofJudges_holds : Rows.ProofJudgesCardSaid :=
  Claim7.holds_tied_plain_at .later [] [.data, .data] true (true, "05396d5674170714a5f9dc24e5637f2bf583603d2f9fdb5282903cf869a64653") false
    proofJudges_row (fun _ h => by cases h) (by kernel_rfl) (fun _ h => by cases h) proofJudges_row_tie rfl ⟨rfl, rfl⟩ (by kernel_rfl) rfl
    (fun f fn hf hfn => by
      obtain rfl : f = 5 := Option.some.inj ((show Tryd.prog.funcNamed "kimberlite/kimberlitelaw07.ProofJudges" = some 5 by kernel_rfl).symm.trans hf) |>.symm
      obtain rfl : fn = Tryd.f5 := (Option.some.inj (Tryd.func5.symm.trans hfn)).symm
      exact ⟨by kernel_rfl, fun j t ht => by
        rw [Tryd.params5] at ht
        have h3 : t = 23 ∨ t = 3 ∨ t = 24 ∨ t = 33 ∨ t = 36 := by
          rcases j with _ | _ | _ | _ | _ | _ | _ | _ | j
          · simp at ht; exact (.inl ht.symm)
          · simp at ht; exact (.inr (.inl ht.symm))
          · simp at ht; exact (.inr (.inl ht.symm))
          · simp at ht; exact (.inr (.inr (.inl ht.symm)))
          · simp at ht; exact (.inr (.inr (.inr (.inl ht.symm))))
          · simp at ht; exact (.inr (.inl ht.symm))
          · simp at ht; exact (.inr (.inr (.inl ht.symm)))
          · simp at ht; exact (.inr (.inr (.inr (.inr ht.symm))))
          · simp at ht
        rcases h3 with rfl | rfl | rfl | rfl | rfl
        · exact (show Tryd.prog.wantsStandIn 23 = false by kernel_rfl)
        · exact (show Tryd.prog.wantsStandIn 3 = false by kernel_rfl)
        · exact (show Tryd.prog.wantsStandIn 24 = false by kernel_rfl)
        · exact (show Tryd.prog.wantsStandIn 33 = false by kernel_rfl)
        · exact (show Tryd.prog.wantsStandIn 36 = false by kernel_rfl)⟩)
    (by kernel_rfl)
end Go.Proofs.YtbinmkigolkhcaaDoor
