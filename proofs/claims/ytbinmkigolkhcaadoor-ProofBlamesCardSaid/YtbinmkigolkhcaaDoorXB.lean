/- For every index, number and two ways, valid or not: where two different entries are accepted at one index under one root, Accuse returns two different byte strings with one hash from their paths; else an error and no bytes. No condition on the arguments; the two library variables that are listed hold what their initialisers lay (tied to the program's text by the card). -/
import Derived.Test.YtbinmkigolkhcaaDoorKH
import Derived.Test.YtbinmkigolkhcaaDoorFW
import Derived.Test.YtbinmkigolkhcaaDoorTie
import Derived.Test.YtbinmkigolkhcaaDoorCards
import Derived.SevenTiedAt
set_option linter.unusedSimpArgs false
set_option linter.unusedVariables false
namespace Go.Proofs.YtbinmkigolkhcaaDoor
open Go.ChangeShapes Go.WideShapes Go.ChangeAt Go.RowKit Go.Joins Go.Deep

set_option maxRecDepth 100000 in
theorem proofBlames_lifted (os : Os) (started : os.Started) (H : Type) (enc : TypeId × Value → H) (F : Stop.Interp) :
    ReturnsInHanded {} Tryd.checked os 11 .any ((OpenSpec.ofChange Rows.proofBlamesSpec).preRow enc Tryd.prog Tryd.f11 Rows.proofBlamesRow.domain false Rows.proofBlamesRow.laid) (((OpenSpec.ofChange Rows.proofBlamesSpec).at F).post enc Tryd.prog Tryd.f11 false true false false) := by
  refine returnsInHanded_of_row (C := Tryd.checked) (s := OpenSpec.ofChange Rows.proofBlamesSpec) ownTd started (by kernel_rfl) Tryd.func11
    (ChangeSpec.witness_shaped (enc := enc) (C := Tryd.checked) (os := os) (s := Rows.proofBlamesSpec) (X := fun w _ => laidMetH Tryd.prog laidL w) false (World.doorLaid Tryd.prog 400 os) #[.int .i64 0, .int .i64 0, .agg #[.slice none 0 0, .slice none 0 0], .agg #[.slice none 0 0, .slice none 0 0]] 8 rfl (World.shaped_of_RefB (by kernel_rfl) (by kernel_rfl)) (by kernel_rfl) (by kernel_rfl) (by kernel_rfl) (door_met os _)) ?_
  intro W base args ds gs before hval0 hW _ _ _ hL hsh _
  have hval : ∀ (j : Nat) t v, Tryd.f11.params[j]? = some t → args[j]? = some v → Value.okWide Tryd.prog W .any base t v := hval0
  have hW' := hW
  obtain ⟨p, q, hA0, hV, rfl, hfz, hnd⟩ := hW
  have hA : DataW.TrodAll enc Tryd.prog W 0 (fun _ => true) true Tryd.f11.params.toList args.toList ds p := hA0
  rw [Tryd.params11] at hA hval
  have hA0' := hA
  obtain ⟨v0, vs0, d0, ds0, p0, q0, e0, rfl, rfl, h0, t0⟩ := trodAll_cons hA0'
  obtain ⟨v1, vs1, d1, ds1, p1, q1, e1, rfl, rfl, h1, t1⟩ := trodAll_cons t0
  obtain ⟨v2, vs2, d2, ds2, p2, q2, e2, rfl, rfl, h2, t2⟩ := trodAll_cons t1
  obtain ⟨v3, vs3, d3, ds3, p3, q3, e3, rfl, rfl, h3, t3⟩ := trodAll_cons t2
  have hend : vs3 = [] ∧ ds3 = [] ∧ q3 = [] := by
    cases vs3 <;> cases ds3 <;> simp [DataW.TrodAll] at t3 ⊢ <;> first | exact t3 | simp_all
  obtain ⟨rfl, rfl, rfl⟩ := hend
  have hargs : args = #[v0, v1, v2, v3] := by
    have : args.toList = [v0, v1, v2, v3] := by rw [e0, e1, e2, e3]
    rw [← Array.toArray_toList (xs := args), this]
  subst hargs
  obtain ⟨rfl, rfl⟩ := trodVars_none hV
  obtain ⟨x0, rfl, _, _, w0⟩ := open_int Tryd.underlying3 (hval 0 3 v0 rfl rfl) h0
  have r0 := lit_i64 w0
  obtain ⟨x1, rfl, _, _, w1⟩ := open_int Tryd.underlying3 (hval 1 3 v1 rfl rfl) h1
  have r1 := lit_i64 w1
  obtain ⟨A2, n2, c2, l2, B2, m2, z2, s2, rfl, hx2, hn2, hc2, hs2, hm2, he2⟩ := open_way (hval 2 50 v2 rfl rfl) h2
  obtain ⟨A3, n3, c3, l3, B3, m3, z3, s3, rfl, hx3, hn3, hc3, hs3, hm3, he3⟩ := open_way (hval 3 50 v3 rfl rfl) h3
  clear hA0 hval0
  refine (blames_law x0 x1 A2 n2 c2 l2 B2 m2 z2 s2 A3 n3 c3 l3 B3 m3 z3 s3 W (env_of hL) hx2 hs2 hx3 hs3).mono fun e W' ⟨he, hb⟩ => ?_
  subst he
  exact ⟨_, rfl, law_shut rfl rfl (by rw [Tryd.params11]; intro t ht; simp at ht; rcases ht with rfl | rfl <;> exact ⟨by kernel_rfl, of_decide_eq_true (by kernel_rfl)⟩) rfl hW' hb⟩

theorem proofBlames_row : Rows.ProofBlamesSaid :=
  OpenClaim.holds_of_cond 11 Tryd.f11 rfl rfl rfl rfl rfl rfl rfl ⟨rfl, rfl, rfl, rfl, rfl⟩ rfl rfl rfl rfl rfl (by kernel_rfl) Tryd.func11 (by kernel_rfl)
    (of_decide_eq_true (by kernel_rfl)) (by unfold Func.isWrapper; first | (rw [if_pos (by decide +kernel)]; kernel_rfl) | (rw [if_neg (by decide +kernel)]; exact ⟨rfl, rfl⟩))
    (fun os started H enc _ F => by rw [OpenClaim.pre_eq_preRow]; exact proofBlames_lifted os started H enc F)

theorem proofBlames_holds : Rows.ProofBlamesCardSaid :=
  Claim7.holds_tied_plain_at .later [] [.data, .data] true (true, "05396d5674170714a5f9dc24e5637f2bf583603d2f9fdb5282903cf869a64653") false
    proofBlames_row (fun _ h => by cases h) (by kernel_rfl) (fun _ h => by cases h) proofBlames_row_tie rfl ⟨rfl, rfl⟩ (by kernel_rfl) rfl
    (fun f fn hf hfn => by
      obtain rfl : f = 11 := Option.some.inj ((show Tryd.prog.funcNamed "kimberlite/kimberlitelaw07.ProofBlames" = some 11 by kernel_rfl).symm.trans hf) |>.symm
      obtain rfl : fn = Tryd.f11 := (Option.some.inj (Tryd.func11.symm.trans hfn)).symm
      exact ⟨by kernel_rfl, fun j t ht => by
        rw [Tryd.params11] at ht
        have h3 : t = 3 ∨ t = 50 := by
          rcases j with _ | _ | _ | _ | j
          · simp at ht; exact (.inl ht.symm)
          · simp at ht; exact (.inl ht.symm)
          · simp at ht; exact (.inr ht.symm)
          · simp at ht; exact (.inr ht.symm)
          · simp at ht
        rcases h3 with rfl | rfl
        · exact (show Tryd.prog.wantsStandIn 3 = false by kernel_rfl)
        · exact (show Tryd.prog.wantsStandIn 50 = false by kernel_rfl)⟩)
    (by kernel_rfl)
end Go.Proofs.YtbinmkigolkhcaaDoor
