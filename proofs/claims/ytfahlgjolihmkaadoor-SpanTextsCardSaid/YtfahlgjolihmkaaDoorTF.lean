/- Digits: the specification's numerals. -/
import Derived.Test.YtfahlgjolihmkaaDoorTA
import Derived.Deep.DeepCutAuto
namespace Go.Proofs.YtfahlgjolihmkaaDoor
open Go.RowKit Go.Sort
attribute [local go_sem] Oper.semAt_some

def strE0 : Value → Nat
  | .string s => if s.size = 0 then 1 else 0
  | _ => 0
theorem strE0_cons (b : UInt8) (l : List UInt8) : strE0 (.string (bstr (b :: l))) = 0 := by
  have h : (bstr (b :: l)).size ≠ 0 := by rw [bstr_size]; simp
  simp only [strE0]
  exact if_neg h
theorem dgI_len {u v : Nat} {out : List UInt8} (h : DgI u v out) (hu : u ≤ 9223372036854775808) : out.length ≤ 20 := by
  have h1 : (Lib.decDigits u).length ≤ 20 := by
    have := Lib.itoa_length_le (-(u : Int)) (by omega) (by omega)
    unfold Lib.itoa at this
    by_cases h0 : u = 0
    · subst h0; rw [Lib.decDigits, dif_pos (by decide)]; simp
    · rw [if_pos (by omega)] at this
      simpa using this
  unfold DgI at h
  rw [h] at h1
  split at h1
  · exact h1
  · simp at h1; omega

theorem tm_neg {v : Int} (h : v ≤ 0) : v.tmod 10 = -((-v) % 10) ∧ v.tdiv 10 = -((-v) / 10) := by
  obtain ⟨u, rfl⟩ : ∃ u, v = -u := ⟨-v, by omega⟩
  rw [Int.neg_tmod, Int.neg_tdiv, Int.tmod_eq_emod_of_nonneg (by omega), Int.tdiv_eq_ediv_of_nonneg (by omega), Int.neg_neg]
  exact ⟨rfl, rfl⟩
theorem tm_pos {v : Int} (h : 0 ≤ v) : v.tmod 10 = v % 10 ∧ v.tdiv 10 = v / 10 :=
  ⟨Int.tmod_eq_emod_of_nonneg h, Int.tdiv_eq_ediv_of_nonneg h⟩
theorem tm_parts (v : Int) : (v.tmod 10).natAbs = v.natAbs % 10 ∧ (v.tdiv 10).natAbs = v.natAbs / 10 := by
  rcases Int.le_total v 0 with h | h
  · rw [(tm_neg h).1, (tm_neg h).2]; omega
  · rw [(tm_pos h).1, (tm_pos h).2]; omega
theorem dig_ext (d : Nat) (h : d < 10) : ({ data := #[48, 49, 50, 51, 52, 53, 54, 55, 56, 57] } : ByteArray).extract d (d + 1) = bstr [UInt8.ofNat (48 + d)] := by
  have key : ∀ k : Fin 10, ({ data := #[48, 49, 50, 51, 52, 53, 54, 55, 56, 57] } : ByteArray).extract k.val (k.val + 1) = bstr [UInt8.ofNat (48 + k.val)] := by decide +kernel
  exact key ⟨d, h⟩
theorem dig_str {d : Nat} (h : d < 10) (out : List UInt8) {a b : Nat} (ha : a = d) (hb : b = d + 1) :
    Value.string (({ data := #[48, 49, 50, 51, 52, 53, 54, 55, 56, 57] } : ByteArray).extract a b ++ bstr out) = .string (bstr (UInt8.ofNat (48 + d) :: out)) := by
  subst ha; subst hb
  rw [dig_ext _ h, bstr_append]
  rfl

theorem dig_fin {w wr : World} {n v x : Int} {out : List UInt8} {a b : Nat} (hI : DgI n.natAbs v.natAbs out ∧ -9223372036854775808 ≤ v ∧ v ≤ 9223372036854775807) (hG : w = wr) (hv : v ≠ 0)
    (hx : x = v.tdiv 10) (ha : a = v.natAbs % 10) (hb : b = v.natAbs % 10 + 1) :
    (∃ (v_1 : Int) (out_1 : List UInt8), Value.int IntKind.i64 x = Value.int IntKind.i64 v_1 ∧ Value.string (({ data := #[48, 49, 50, 51, 52, 53, 54, 55, 56, 57] } : ByteArray).extract a b ++ bstr out) = Value.string (bstr out_1) ∧
      Hid (DgI n.natAbs v_1.natAbs out_1 ∧ -9223372036854775808 ≤ v_1 ∧ v_1 ≤ 9223372036854775807) ∧ w = wr) ∧
    (intOf (Value.int IntKind.i64 x)).natAbs + strE0 (Value.string (({ data := #[48, 49, 50, 51, 52, 53, 54, 55, 56, 57] } : ByteArray).extract a b ++ bstr out)) < (intOf (Value.int IntKind.i64 v)).natAbs + strE0 (Value.string (bstr out)) := by
  have hd : v.natAbs % 10 < 10 := Nat.mod_lt _ (by decide)
  have hq := (tm_parts v).2
  have HST := dgI_step hI.1 (.inl (by omega : v.natAbs ≠ 0))
  rw [← hq] at HST
  rw [dig_str hd out ha hb]
  subst hx
  refine ⟨⟨v.tdiv 10, _, rfl, rfl, ⟨HST, by omega, by omega⟩, hG⟩, ?_⟩
  have e1 : strE0 (.string (bstr (UInt8.ofNat (48 + v.natAbs % 10) :: out))) = 0 := by
    exact strE0_cons _ _
  rw [e1]
  show (v.tdiv 10).natAbs + 0 < v.natAbs + _
  omega

set_option maxHeartbeats 4000000 in
set_option maxRecDepth 100000 in
theorem Digits_any (n : Int) (h0 : -9223372036854775808 ≤ n) (h1 : n ≤ 9223372036854775807) (w : World) :
    Calls Tryd.prog 26 #[.int .i64 n] w fun e w' => e = .returned (.string (bstr (Lib.itoa n))) ∧ w = w' := by
  have mixed := mixedOrders
  have HD0 := hide (dgI_0 n.natAbs)
  go_enter Tryd.func26, Tryd.ntmps26
  go_wp2_with fail
  go_loopw [0, 3] (fun vn vo wr => ∃ (v : Int) (out : List UInt8), vn = .int .i64 v ∧ vo = .string (bstr out) ∧ Hid (DgI n.natAbs v.natAbs out ∧ -9223372036854775808 ≤ v ∧ v ≤ 9223372036854775807) ∧ w = wr) (fun vn vo _ => (intOf vn).natAbs + strE0 vo)
  case atStart => exact ⟨n, [], rfl, rfl, ⟨HD0.out, h0, h1⟩, rfl⟩
  case round =>
    obtain ⟨v, out, rfl, rfl, HI, hG⟩ := hrel
    by_cases hv : v = 0
    · subst hv
      by_cases ho : out = []
      · subst ho
        have HST := hide (dgI_step HI.out.1 (.inr rfl))
        go_wp2_with fail
        refine ⟨⟨0, [48], rfl, by rw [dig_str (d := 0) (by decide) [] rfl rfl]; rfl, ⟨HST.out, by decide, by decide⟩, hG⟩, by decide⟩
      · have ho2 : out.isEmpty = false := by
          cases out with
          | nil => exact absurd rfl ho
          | cons _ _ => rfl
        have HE := hide (dgI_end HI.out.1 (by rintro (h | h); exact h rfl; exact ho h))
        have hol := dgI_len HI.out.1 (by omega)
        by_cases hn : n < 0
        · have hit : Lib.itoa n = 45 :: out := by rw [HE.out]; exact if_pos hn
          have hadd := fun w => run_string_add_sum (P := Tryd.prog) w ⟨#[45]⟩ (bstr out) (by rw [bstr_size out]; show 1 + _ ≤ _; omega)
          have hno : ¬ 9223372036854775807 < 1 + out.length := by omega
          have HH := hide hit
          clear hit ho
          go_wp2_with fail
          go_ret
          exact ⟨ret_val (by rw [HH.out]; show Value.string (bstr [45] ++ bstr out) = _; rw [bstr_append]; rfl), by first | exact hG | rfl⟩
        · have hit : Lib.itoa n = out := by rw [HE.out]; unfold Lib.itoa; rw [if_neg hn, show n.toNat = n.natAbs by omega]
          have HH := hide hit
          clear hit ho
          go_wp2_with fail
          go_ret
          exact ⟨ret_val (by rw [HH.out]; rfl), by first | exact hG | rfl⟩
    · have hb : (v == 0) = false := beq_eq_false_iff_ne.2 hv
      have FF : Hid (∃ d : Nat, d < 10 ∧ v.natAbs % 10 = d ∧ out.length ≤ 20 ∧ wrap64 (v.tdiv 10) = v.tdiv 10 ∧ (v.tmod 10 < 0 → wrap64 (-v.tmod 10) = (d : Int)) ∧ (¬ v.tmod 10 < 0 → v.tmod 10 = (d : Int)) ∧ wrap64 ((d : Int) + 1) = (d : Int) + 1) := by
        obtain ⟨hr1, hq1⟩ := tm_parts v
        have hI := HI.out
        refine ⟨v.natAbs % 10, by omega, rfl, dgI_len hI.1 (by omega), IntWalk.wrap64_in _ (by omega), fun h => ?_, fun h => by omega, IntWalk.wrap64_in _ (by omega)⟩
        rw [IntWalk.wrap64_in _ (by omega)]
        omega
      by_cases hneg : Int.tmod v 10 < 0
      · have F1 : Hid (0 ≤ wrap64 (wrap64 (-v.tmod 10) + 1) ∧ wrap64 (wrap64 (-v.tmod 10) + 1) ≤ 10) := by
          obtain ⟨d, h0, -, -, -, h5, -, h7⟩ := FF.out
          show _ ∧ _
          rw [h5 hneg, h7]; omega
        have F2 : Hid (0 ≤ wrap64 (-v.tmod 10) ∧ wrap64 (-v.tmod 10) ≤ wrap64 (wrap64 (-v.tmod 10) + 1)) := by
          obtain ⟨d, h0, -, -, -, h5, -, h7⟩ := FF.out
          show _ ∧ _
          rw [h5 hneg, h7]; omega
        have F3 : Hid (¬ 9223372036854775807 < (wrap64 (wrap64 (-v.tmod 10) + 1)).toNat - (wrap64 (-v.tmod 10)).toNat + out.length) := by
          obtain ⟨d, h0, -, h2, -, h5, -, h7⟩ := FF.out
          show ¬ _
          rw [h5 hneg, h7]; omega
        go_wp2_with fail
        all_goals (try (exfalso; have q1 := F1.out; have q2 := F2.out; have q3 := F3.out; clear HI HD0 FF F1 F2 F3; omega))
        obtain ⟨d, h0, h1, -, h4, h5, -, h7⟩ := FF.out
        have e1 := h5 hneg
        exact dig_fin HI.out (by first | exact hG | rfl) hv h4 (by rw [e1, h1]; rfl) (by rw [e1, h7, h1]; rfl)
      · have F1 : Hid (0 ≤ wrap64 (v.tmod 10 + 1) ∧ wrap64 (v.tmod 10 + 1) ≤ 10) := by
          obtain ⟨d, h0, -, -, -, -, h5, h7⟩ := FF.out
          show _ ∧ _
          rw [h5 hneg, h7]; omega
        have F2 : Hid (0 ≤ v.tmod 10 ∧ v.tmod 10 ≤ wrap64 (v.tmod 10 + 1)) := by
          obtain ⟨d, h0, -, -, -, -, h5, h7⟩ := FF.out
          show _ ∧ _
          rw [h5 hneg, h7]; omega
        have F3 : Hid (¬ 9223372036854775807 < (wrap64 (v.tmod 10 + 1)).toNat - (v.tmod 10).toNat + out.length) := by
          obtain ⟨d, h0, -, h2, -, -, h5, h7⟩ := FF.out
          show ¬ _
          rw [h5 hneg, h7]; omega
        go_wp2_with fail
        all_goals (try (exfalso; have q1 := F1.out; have q2 := F2.out; have q3 := F3.out; clear HI HD0 FF F1 F2 F3; omega))
        obtain ⟨d, h0, h1, -, h4, -, h5, h7⟩ := FF.out
        have e1 := h5 hneg
        exact dig_fin HI.out (by first | exact hG | rfl) hv h4 (by rw [e1, h1]; rfl) (by rw [e1, h7, h1]; rfl)
end Go.Proofs.YtfahlgjolihmkaaDoor
