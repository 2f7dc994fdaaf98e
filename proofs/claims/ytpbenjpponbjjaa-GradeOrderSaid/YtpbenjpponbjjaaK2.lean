/- The contract of slices.Repeat for runs; Width of three grades. -/
import Derived.Test.YtpbenjpponbjjaaK1
import Derived.Test.YtpbenjpponbjjaaGW
set_option linter.unusedSimpArgs false
set_option linter.unusedVariables false
namespace Go.Proofs.Ytpbenjpponbjjaa
open Go.RowKit Go.Sort Go.BigFrame
theorem ent98 : ∀ args w, (callFunc 98 args).run Try.prog w = .ok (.enter 98 args) w := enters_of Try.func98 (by kernel_rfl) rfl
end Go.Proofs.Ytpbenjpponbjjaa
namespace Go.Proofs.Ytpbenjpponbjjaa.En
open Go.RowKit
theorem repK_ok : CallOk Try.prog repK := by
  intro g args H r H' h
  unfold repK at h
  split at h <;> try (cases h; done)
  rename_i hg
  obtain rfl := beq_iff_eq.1 hg
  split at h <;> try (cases h; done)
  rename_i b h3
  split at h <;> try (cases h; done)
  rename_i v hv
  injection h with h
  injection h with h1 h2
  subst h1 h2
  show CallA Try.prog 98 args H (fun v1 H1 => v1 = _ ∧ H1 = _)
  unfold is3 at h3
  split at h3 <;> try (cases h3; done)
  rename_i b' o n m
  split at h3 <;> try (cases h3; done)
  rename_i hd
  obtain ⟨rfl, rfl, rfl⟩ := of_decide_eq_true hd
  injection h3 with h3
  subst h3
  unfold one0 at hv
  split at hv <;> try (cases hv; done)
  rename_i blk hb
  split at hv <;> try (cases hv; done)
  rename_i v' hget
  injection hv with hv
  subst hv
  refine ⟨ent98, fun C ρ w ra hI hra => ?_⟩
  obtain ⟨l⟩ := ra
  match l, hra with
  | [u1, u2], ⟨h1, h2, _⟩ =>
    obtain ⟨hon, ad, c, rfl, hnc, hml, hsl⟩ : (ρ b').on = true ∧ ∃ ad c, u1 = .slice ad 1 c ∧ 1 ≤ c ∧ c ≤ maxLen ∧ SlAt (ρ b') 0 1 ad c := h1
    obtain rfl : u2 = .int .i64 3 := h2
    have hlv : blk.body.live = true := by
      cases hbd : blk.body with
      | dead => rw [hbd] at hget; cases hget
      | _ => rfl
    have hB0 := hI.blk b' blk hb hlv
    obtain ⟨a, u, f1, f2, f3⟩ := hB0.cell 0 _ hget
    obtain rfl : u = .int .i64 v' := f3
    rcases hsl with ⟨a0, ha0, hs0, rfl, _⟩ | ⟨h0, _⟩
    · rw [f1] at ha0
      injection ha0 with ha0
      subst ha0
      rw [addr_add' hs0, Nat.add_zero] at f2
      have ea : a.add 0 = ⟨a.block, a.off, none⟩ := by rw [addr_add' hs0, Nat.add_zero]
      rw [ea]
      have hlt := (hB0.lt a f1).2
      refine (Repeat3_any a.block a.off c v' w f2 hlt).mono ?_
      rintro e w' ⟨g, rfl, hg, hrow, hbl⟩
      have hB := hI.adopt (g := g) (g2 := g) (w' := w') hbl.os hbl.tape hbl.output hbl.size (fun q hq _ _ => hbl.block q hq) (C.all _ (Nat.le_trans hI.size hg)) (C.all _ (Nat.le_trans hI.size hg))
        (fun q b a' hq hl ha => by
          have := ((hI.blk q b hq hl).lt a' ha).2
          exact ⟨by omega, by omega⟩) hrow true 1 (.rows (.int .i64) [v', v', v'])
        (fun j x hx => by
          obtain ⟨u, h1, h2⟩ := rows_get (ρ := ρ) (us := [v', v', v'].map (RK.int .i64).val) (fun q hq => getD_int _ q hq _) j x hx
          refine ⟨u, ?_, h2⟩
          simpa [RK.val] using h1) (by simp [Body.len]) (fun _ => rfl)
      refine ⟨_, _, _, _, rfl, ⟨rfl, rfl⟩, hB.1, fun i _ ho => hB.2 i ho, by simp, by rw [upd_same], some ⟨g, 0, none⟩, 3, rfl, by omega, by unfold maxLen; omega, .inl ⟨⟨g, 0, none⟩, by rw [upd_same], rfl, by rw [addr_add], ?_⟩⟩
      rw [upd_same]
      exact ⟨(by decide : 0 + 3 * 1 ≤ 3), fun _ => rfl⟩
    · cases h0
def wH : AH := [⟨false, true, 23, 3, .rows (.int .i64) [0, 0, 1, 0, 1, 0, 0, 1, 1]⟩]
end Go.Proofs.Ytpbenjpponbjjaa.En
