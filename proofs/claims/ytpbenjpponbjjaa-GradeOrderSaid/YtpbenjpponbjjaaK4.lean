/- Width of three known grades: the walk's contract. -/
import Derived.Test.YtpbenjpponbjjaaK3
set_option linter.unusedSimpArgs false
set_option linter.unusedVariables false
namespace Go.Proofs.Ytpbenjpponbjjaa.En
open Go.RowKit
def gW : List Gd := [(0, 0, 1), (0, 1, 0), (0, 1, 1)]
theorem wIn_ok {W : World} {A : Option Addr} {c : Nat} (hx : GdAt W.heap.size W A 3 gW) (h1 : 3 ≤ c) (h2 : c ≤ 9223372036854775807) : (wIn A c).ok W := by
  refine ⟨rfl, h1, h2, fun _ => ?_, ?_⟩
  · rcases hx.row with h0 | ⟨b, off, e, hb, hc⟩
    · cases h0
    · refine ⟨b, off, e, hb, ?_⟩
      obtain ⟨a0, a1, a2⟩ := hc 0 (by decide)
      obtain ⟨b0, b1, b2⟩ := hc 1 (by decide)
      obtain ⟨c0, c1, c2⟩ := hc 2 (by decide)
      intro j hj
      have hj : j < 9 := hj
      have hcase : j = 0 ∨ j = 1 ∨ j = 2 ∨ j = 3 ∨ j = 4 ∨ j = 5 ∨ j = 6 ∨ j = 7 ∨ j = 8 := by omega
      rcases hcase with rfl | rfl | rfl | rfl | rfl | rfl | rfl | rfl | rfl
      · exact a0
      · exact a1
      · exact a2
      · exact b0
      · exact b1
      · exact b2
      · exact c0
      · exact c1
      · exact c2
  · intro j hj
    have hj : j < 9 := hj
    exact (by decide : ∀ j : Fin 9, -9223372036854775808 ≤ ([0, 0, 1, 0, 1, 0, 0, 1, 1] : List Int).getD j.val 0 ∧ ([0, 0, 1, 0, 1, 0, 0, 1, 1] : List Int).getD j.val 0 ≤ 9223372036854775807) ⟨j, hj⟩
theorem Width3_any (W : World) (A : Option Addr) (c : Nat) (hx : GdAt W.heap.size W A 3 gW) (h1 : 3 ≤ c) (h2 : c ≤ 9223372036854775807) :
    Calls Try.prog 38 #[.slice A 3 c] W fun e w' => ∃ A' c', e = .returned (.tuple #[.int .i64 2, .slice A' 2 c', .int .i64 0]) ∧ IntsAt w'.heap.size w' A' 2 [0, 1] ∧ Below W.heap.size W w' := by
  obtain ⟨q, H', ⟨blk, hb, hbd⟩, hC⟩ := width_c
  have hok := wIn_ok hx h1 h2
  have hI0 : Inv (cxW W) (plOf [wIn A c]) wH0 W := inv_of (l := [wIn A c]) (fun r hr => by
    simp at hr
    subst hr
    exact hok)
  refine (hC.2 (cxW W) (plOf [wIn A c]) W #[.slice A 3 c] hI0 ⟨slc_of (l := [wIn A c]) (i := 0) rfl hok, trivial⟩).mono ?_
  rintro e w' ⟨u, v, H1, ρ', rfl, ⟨rfl, rfl⟩, hI, _, _, hv⟩
  have hB : Below W.heap.size W w' := ⟨hI.os, hI.tape, hI.output, hI.size, fun k hk => hI.kept k hk (by show ¬ W.heap.size ≤ k; omega)⟩
  obtain ⟨vs, rfl, hvs⟩ := hv
  obtain ⟨l⟩ := vs
  match l, hvs with
  | [u1, u2, u3], ⟨g1, g2, g3, _⟩ =>
    obtain rfl : u1 = .int .i64 2 := g1
    obtain rfl : u3 = .int .i64 0 := g3
    obtain ⟨ad, c', rfl, _, _, hints, _, _⟩ := hI.ints hb hbd rfl (u := u2) g2
    exact ⟨ad, c', rfl, hints, hB⟩
end Go.Proofs.Ytpbenjpponbjjaa.En
