/- Only sealed offers, or others with the same seal, can be shown, and the award does not depend on the order of the calls. -/
import Derived.Test.YtpobfdhmggkbaaaWH
import Derived.Test.YtpobfdhmggkbaaaWE
namespace Go.Proofs.Ytpobfdhmggkbaaa
open Go.ChangeShapes Go.WideShapes Go.ChangeAt Go.RowKit Go.Deep
/-- a row of records of three numbers as offers -/
theorem off_of_rin {W : World} {A : Option Addr} {n cap : Nat} {fl : List Int} (h : (RIn.mk 72 3 A n cap fl (.int .i64)).ok W) : ∃ L : List Ofr, OffAt W.heap.size W A n L ∧ n ≤ cap ∧ cap ≤ 9223372036854775807 ∧ ∀ o ∈ L, okI o := by
  have hlen : fl.length = 3 * n := h.len
  have hfit : ∀ j, j < fl.length → -9223372036854775808 ≤ fl.getD j 0 ∧ fl.getD j 0 ≤ 9223372036854775807 := h.fits
  refine ⟨(List.range n).map fun i => (fl.getD (i * 3) 0, fl.getD (i * 3 + 1) 0, fl.getD (i * 3 + 2) 0), ⟨by simp, ?_⟩, h.le, h.big, ?_⟩
  · rcases Nat.eq_zero_or_pos n with h0 | h0
    · exact .inl h0
    · obtain ⟨b, off, e, hlt, hc⟩ := h.at_ h0
      refine .inr ⟨b, off, e, hlt, fun i hi => ?_⟩
      have hc : ∀ j, j < fl.length → W.cell? ⟨b, off + j, none⟩ = some (.int .i64 (fl.getD j 0)) := hc
      have ho : oA ((List.range n).map fun i => (fl.getD (i * 3) 0, fl.getD (i * 3 + 1) 0, fl.getD (i * 3 + 2) 0)) i = (fl.getD (i * 3) 0, fl.getD (i * 3 + 1) 0, fl.getD (i * 3 + 2) 0) := by
        unfold oA
        simp [List.getD_eq_getElem?_getD, hi]
      rw [ho]
      refine ⟨hc _ (by omega), ?_, ?_⟩
      · rw [Nat.add_assoc]
        exact hc _ (by omega)
      · rw [Nat.add_assoc]
        exact hc _ (by omega)
  · intro o ho
    obtain ⟨i, hi, rfl⟩ := List.mem_map.1 ho
    have hi : i < n := by simpa using hi
    exact ⟨hfit _ (by omega), hfit _ (by omega), hfit _ (by omega)⟩

set_option maxRecDepth 100000 in
theorem tenderBinds_lifted (os : Os) (started : os.Started) (H : Type) (enc : TypeId × Value → H) :
    ReturnsInHanded {} Try.checked os 12 .any (Rows.tenderBindsSpec.pre6 enc Try.prog Try.f12 Rows.tenderBindsRow.domain false) (Rows.tenderBindsSpec.post enc Try.prog Try.f12 false true false false) := by
  refine returnsInHanded_of_change (C := Try.checked) ownT started (by kernel_rfl) Try.func12
    (ChangeSpec.witness6 (enc := enc) (C := Try.checked) false ⟨#[], #[.int .i64 0, .slice none 0 0, .agg #[.int .u64 0, .int .u64 0, .int .u64 0, .int .u64 0], .slice none 0 0, .int .u8 0], []⟩ 8 (by kernel_rfl) (by kernel_rfl) (by kernel_rfl) (by kernel_rfl)) ?_
  intro W base args ds gs before hval0 hW hcnd _
  have hval : ∀ (j : Nat) t v, Try.f12.params[j]? = some t → args[j]? = some v → Value.okWide Try.prog W .any base t v := hval0
  have hW' := hW
  obtain ⟨p, q, hA0, hV, rfl, hfz, hnd⟩ := hW
  have hA : DataW.TrodAll enc Try.prog W 0 (fun _ => true) true Try.f12.params.toList args.toList ds p := hA0
  rw [Try.params12] at hA hval
  have hA0' := hA
  obtain ⟨v0, vs0, d0, ds0, p0, q0, e0, rfl, rfl, h0, t0⟩ := trodAll_cons hA0'
  obtain ⟨v1, vs1, d1, ds1, p1, q1, e1, rfl, rfl, h1, t1⟩ := trodAll_cons t0
  obtain ⟨v2, vs2, d2, ds2, p2, q2, e2, rfl, rfl, h2, t2⟩ := trodAll_cons t1
  obtain ⟨v3, vs3, d3, ds3, p3, q3, e3, rfl, rfl, h3, t3⟩ := trodAll_cons t2
  obtain ⟨v4, vs4, d4, ds4, p4, q4, e4, rfl, rfl, h4, t4⟩ := trodAll_cons t3
  have hend : vs4 = [] ∧ ds4 = [] ∧ q4 = [] := by
    cases vs4 <;> cases ds4 <;> simp [DataW.TrodAll] at t4 ⊢ <;> first | exact t4 | simp_all
  obtain ⟨rfl, rfl, rfl⟩ := hend
  have hargs : args = #[v0, v1, v2, v3, v4] := by
    have : args.toList = [v0, v1, v2, v3, v4] := by rw [e0, e1, e2, e3, e4]
    rw [← Array.toArray_toList (xs := args), this]
  subst hargs
  obtain ⟨rfl, rfl⟩ := trodVars_none hV
  obtain ⟨x0, rfl, _, _, w0⟩ := open_int Try.underlying3 (hval 0 3 v0 rfl rfl) h0
  obtain ⟨A1, n1, c1, fl1, rfl, ho1⟩ := open_in3 Try.underlying22 Try.underlying72 rfl rfl rfl Try.underlying3 (by kernel_rfl) (by kernel_rfl) ⟨rfl, rfl, rfl⟩ (hval 1 22 v1 rfl rfl) h1
  obtain ⟨cs, rfl, hsz, hcs⟩ := open_arr (n := 4) Try.underlying92 Try.underlying45 (by kernel_rfl) (by kernel_rfl) (hval 2 92 v2 rfl rfl) h2
  obtain ⟨A3, n3, c3, fl3, rfl, ho3⟩ := open_in3 Try.underlying22 Try.underlying72 rfl rfl rfl Try.underlying3 (by kernel_rfl) (by kernel_rfl) ⟨rfl, rfl, rfl⟩ (hval 3 22 v3 rfl rfl) h3
  obtain ⟨x4, rfl, _, _, w4⟩ := open_int Try.underlying5 (hval 4 5 v4 rfl rfl) h4
  have r4 := lit_u8 w4
  clear hA0 hval0
  have hsl : ∃ sl : Nat → Nat, ∀ i, i < 4 → cs[i]? = some (.int .u64 (sl i : Nat)) ∧ sl i < 18446744073709551616 := by
    refine ⟨fun i => match cs[i]? with | some (.int _ q) => q.toNat | _ => 0, fun i hi => ?_⟩
    obtain ⟨q, hq, hwf⟩ := hcs i hi
    have h3 := natOk_u64.1 (lit_u64 hwf)
    dsimp only
    rw [hq]
    dsimp only
    rw [Int.toNat_of_nonneg h3.1]
    exact ⟨rfl, by omega⟩
  obtain ⟨sl, hsl⟩ := hsl
  obtain ⟨order, rfl⟩ : ∃ order : Nat, x4 = order := ⟨x4.toNat, by omega⟩
  obtain ⟨L, hL, hLc, hLb, hLo⟩ := off_of_rin ho1
  obtain ⟨M, hM, hMc, hMb, hMo⟩ := off_of_rin ho3
  refine (law12 W x0 A1 n1 c1 L hL hLc hLb hLo cs sl hsz hsl A3 n3 c3 M hM hMc hMb hMo order (by omega)).mono fun e W' ⟨he, hb⟩ => ?_
  subst he
  exact ⟨_, rfl, law_shut rfl rfl (by rw [Try.params12]; intro t ht; simp at ht; rcases ht with rfl | rfl | rfl | rfl | rfl <;> exact ⟨by kernel_rfl, of_decide_eq_true (by kernel_rfl)⟩) rfl hW' hb⟩

theorem tenderBinds_holds : Rows.TenderBindsSaid :=
  OpenClaim.holds_of_wide 12 Try.f12 rfl rfl rfl rfl rfl rfl rfl ⟨rfl, rfl, rfl, rfl, rfl⟩ rfl rfl rfl rfl rfl (by kernel_rfl) Try.func12 (by kernel_rfl)
    (of_decide_eq_true (by kernel_rfl)) (by unfold Func.isWrapper; first | (rw [if_pos (by decide +kernel)]; kernel_rfl) | (rw [if_neg (by decide +kernel)]; exact ⟨rfl, rfl⟩))
    (fun os started H enc _ => tenderBinds_lifted os started H enc)

end Go.Proofs.Ytpobfdhmggkbaaa
