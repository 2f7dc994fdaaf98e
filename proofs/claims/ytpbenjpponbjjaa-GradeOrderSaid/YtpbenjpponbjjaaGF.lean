/- valid, antichain. -/
import Derived.Test.YtpbenjpponbjjaaGE
namespace Go.Proofs.Ytpbenjpponbjjaa
open Go.RowKit Go.Sort Go.BigFrame
def validG (g : Gd) : Bool := belowG (0, 0, 0) g && belowG g (11, 11, 11)
theorem valid_any (g : Gd) (w : World) : Calls Try.prog 83 #[gdV g] w fun e w' => e = .returned (.bool (validG g)) ∧ Below w.heap.size w w' := by
  have HB := hide (fun w1 => Below_any (0, 0, 0) g w1)
  have HB2 := hide (fun w1 => Below_any g (11, 11, 11) w1)
  obtain ⟨p, hp⟩ : ∃ p, w.heap.size = p := ⟨_, rfl⟩
  obtain ⟨W1, hW1⟩ : ∃ W1, w.alloc (.cells #[.int .i64 g.1, .int .i64 g.2.1, .int .i64 g.2.2] 23) = W1 := ⟨_, rfl⟩
  have hg : Below w.heap.size w W1 := by rw [← hW1]; exact (Below.refl _ _).alloc (Nat.le_refl _) _
  have h1 : W1.heap[p]? = some (.cells #[.int .i64 g.1, .int .i64 g.2.1, .int .i64 g.2.2] 23 (0, 0)) := by rw [← hW1, ← hp]; exact heap_alloc_new _ _
  have HK := hide (fun w2 (h : Below W1.heap.size W1 w2) => box3 ((h.block p (Array.getElem?_eq_some_iff.1 h1).1).trans h1))
  obtain ⟨x0, x1, x2⟩ := box3 h1
  have HG := hide hg
  clear hg h1
  obtain ⟨q, hq⟩ : ∃ q, belowG (0, 0, 0) g = q := ⟨_, rfl⟩
  obtain ⟨r, hr⟩ : ∃ r, belowG g (11, 11, 11) = r := ⟨_, rfl⟩
  have hv : Hid (validG g = (q && r)) := hide (by rw [← hq, ← hr]; rfl)
  rw [hq] at HB
  rw [hr] at HB2
  obtain ⟨v, hv'⟩ : ∃ v, validG g = v := ⟨_, rfl⟩
  rw [hv'] at hv ⊢
  clear hq hr hv'
  obtain ⟨g0, g1, g2⟩ := g
  dsimp only at *
  go_enter Try.func83, Try.ntmps83
  go_wp2_with fail
  refine (HB.out _).mono ?_
  rintro e w2 ⟨rfl, hg2⟩
  have hg2 := hg2.below
  obtain ⟨y0, y1, y2⟩ := HK.out w2 hg2
  have HG2 := hide (bel_next HG.out hg2)
  clear hg2 hW1 hp HB x0 x1 x2 HG
  cases q
  · go_wp2_with fail
    go_ret
    exact ⟨by rw [hv.out]; rfl, HG2.out⟩
  · go_wp2_with fail
    refine (HB2.out _).mono ?_
    rintro e w3 ⟨rfl, hg3⟩
    have HG3 := hide (bel_next HG2.out hg3.below)
    clear hg3
    go_wp2_with fail
    go_ret
    exact ⟨by rw [hv.out]; rfl, HG3.out⟩
end Go.Proofs.Ytpbenjpponbjjaa
