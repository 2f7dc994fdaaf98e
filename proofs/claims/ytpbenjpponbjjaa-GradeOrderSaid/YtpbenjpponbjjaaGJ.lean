/- Count. -/
import Derived.Test.YtpbenjpponbjjaaGH
namespace Go.Proofs.Ytpbenjpponbjjaa
open Go.RowKit Go.Sort Go.BigFrame
def overB (l : List Gd) (g : Gd) : Bool := l.any fun h => belowG h g
/-- the closure of Count: one bound cell, a slice of grades -/
theorem countC_any (A : Option Addr) (n c : Nat) (l : List Gd) (g : Gd) (b : Nat) (w : World) (hx : GdAt w.heap.size w A n l) (hn : n ≤ 1000000) (hb : w.cell? ⟨b, 0, none⟩ = some (.slice A n c)) (hlt : b < w.heap.size) :
    Calls Try.prog 85 #[gdV g, .pointer (some ⟨b, 0, none⟩)] w fun e w' => e = .returned (.bool (overB l g)) ∧ Below w.heap.size w w' := by
  obtain ⟨p, hp⟩ : ∃ p, w.heap.size = p := ⟨_, rfl⟩
  obtain ⟨W1, hW1⟩ : ∃ W1, w.alloc (.cells #[.int .i64 g.1, .int .i64 g.2.1, .int .i64 g.2.2] 23) = W1 := ⟨_, rfl⟩
  have hg : Below w.heap.size w W1 := by rw [← hW1]; exact (Below.refl _ _).alloc (Nat.le_refl _) _
  have h1 : W1.heap[p]? = some (.cells #[.int .i64 g.1, .int .i64 g.2.1, .int .i64 g.2.2] 23 (0, 0)) := by rw [← hW1, ← hp]; exact heap_alloc_new _ _
  have HB := hide (over_any A n c l g W1 (hx.now hg (Nat.le_refl _)) hn)
  have c0 := (hg.cell (p := ⟨b, 0, none⟩) hlt).trans hb
  obtain ⟨x0, x1, x2⟩ := box3 h1
  have HG := hide hg
  clear hg h1 hb hlt hx hn
  obtain ⟨q, hq⟩ : ∃ q, overB l g = q := ⟨_, rfl⟩
  have hq' : (l.any fun h => belowG h g) = q := hq
  rw [hq'] at HB
  rw [hq]
  clear hq hq'
  obtain ⟨g0, g1, g2⟩ := g
  dsimp only at *
  go_enter Try.func85, Try.ntmps85
  go_wp2_with fail
  refine HB.out.mono ?_
  rintro e w2 ⟨rfl, hg2⟩
  have HG2 := hide (bel_next HG.out hg2)
  clear hg2 hW1 hp HB x0 x1 x2 c0
  go_wp2_with fail
  go_ret
  exact ⟨rfl, HG2.out⟩
theorem ent85 : ∀ args w, (callFunc 85 args).run Try.prog w = .ok (.enter 85 args) w := enters_of Try.func85 (by kernel_rfl) rfl
def countG (l : List Gd) : Nat := (allG.filter (overB l)).length
set_option maxHeartbeats 2000000 in
theorem Count_any (A : Option Addr) (n c : Nat) (l : List Gd) (w : World) (hx : GdAt w.heap.size w A n l) (hn : n ≤ 1000000) (hc : n ≤ c) :
    Calls Try.prog 50 #[.slice A n c] w fun e w' => e = .returned (.tuple #[.int .i64 (if antiG l then (countG l : Int) else 0), .int .i64 (if antiG l then 0 else 2)]) ∧ Below w.heap.size w w' := by
  obtain ⟨p, hp⟩ : ∃ p, w.heap.size = p := ⟨_, rfl⟩
  obtain ⟨W1, hW1⟩ : ∃ W1, w.alloc (.cells #[.slice A n c] 27) = W1 := ⟨_, rfl⟩
  have hg : Below w.heap.size w W1 := by rw [← hW1]; exact (Below.refl _ _).alloc (Nat.le_refl _) _
  have h1 : W1.heap[p]? = some (.cells #[.slice A n c] 27 (0, 0)) := by rw [← hW1, ← hp]; exact heap_alloc_new _ _
  have hcell : ∀ w2, Below W1.heap.size W1 w2 → w2.cell? ⟨p, 0, none⟩ = some (.slice A n c) ∧ p < w2.heap.size := fun w2 h => by
    have h2 := (h.block p (Array.getElem?_eq_some_iff.1 h1).1).trans h1
    exact ⟨by simp [World.cell?, h2], (Array.getElem?_eq_some_iff.1 h2).1⟩
  have HCE := hide hcell
  have HG := hide hg
  have HX := hide (hx.now hg (Nat.le_refl _))
  have HA := hide (antichain_any A n c l W1 HX.out hn hc)
  have HGA := hide (fun w2 (h : Below W1.heap.size W1 w2) => gather_any 85 (.pointer (some ⟨p, 0, none⟩)) (overB l) w2 ent85 (fun i _ w3 hw => by
    obtain ⟨k1, k2⟩ := hcell w3 (bel_next h hw)
    exact countC_any A n c l (gI i) p w3 (HX.out.now (bel_next h hw) (Nat.le_refl _)) hn k1 k2))
  have c0 := (hcell W1 (Below.refl _ _)).1
  obtain ⟨q, hq⟩ : ∃ q, antiG l = q := ⟨_, rfl⟩
  rw [hq] at HA ⊢
  clear hg h1 hcell hx hn hc hq
  go_enter Try.func50, Try.ntmps50
  go_wp2_with fail
  refine HA.out.mono ?_
  rintro e w2 ⟨rfl, hg2⟩
  have HG2 := hide (bel_next HG.out hg2)
  cases q with
  | false =>
    clear hg2 hW1 hp HA c0
    go_wp2_with fail
    go_ret2
    exact ⟨rfl, HG2.out⟩
  | true =>
    have HGB := hide (HGA.out w2 hg2)
    clear hg2 hW1 hp HA c0 HGA
    go_wp2_with fail
    refine HGB.out.mono ?_
    rintro e w3 ⟨A3, c3, rfl, -, hb3⟩
    have HG3 := hide (bel_next HG2.out hb3)
    obtain ⟨m, hm⟩ : ∃ m, (allG.filter (overB l)).length = m := ⟨_, rfl⟩
    have HM : Hid (countG l = m) := hm
    rw [hm] at *
    clear hb3 hm HGB
    go_wp2_with fail
    go_ret2
    exact ⟨by rw [HM.out]; rfl, HG3.out⟩
end Go.Proofs.Ytpbenjpponbjjaa
