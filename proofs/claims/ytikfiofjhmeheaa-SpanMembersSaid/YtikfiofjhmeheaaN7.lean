/- Contracts of spoil, and of the specification's Of, Whole, Two and Not. -/
import Derived.Test.YtikfiofjhmeheaaN5
import Derived.Test.YtikfiofjhmeheaaN6
namespace Go.Proofs.Ytikfiofjhmeheaa
open Go.RowKit Go.Sort

/-- in place of a row: any spans -/
theorem spoil_any (n₀ : Nat) (a : Option Addr) (k c : Nat) (xs : List Value) (w : World) (hk : k ≤ 1000000) (ho : w.ownsRow n₀ 42 2 (.slice a k c) k xs) :
    Calls Try.prog 22 #[.slice a k c] w fun e w' => e = .returned (.tuple #[]) ∧ w.grownBy w' (Value.slice a k c).ownBlock := by
  have HO : Hid (w.ownsRow n₀ 42 2 (.slice a k c) k xs) := ho
  clear ho
  by_cases hk0 : k = 0
  · subst hk0
    go_enter Try.func22, Try.ntmps22
    go_wp2
    go_loop [2] (fun vi => vi = .int .i64 0) (fun _ => 0)
    case atStart => rfl
    case round =>
      obtain rfl := hrel
      go_wp2
      go_end0
      exact ⟨rfl, ((Gr.refl w).grownBy _)⟩
  · obtain ⟨g, c', he, hg1, hg2⟩ := own_row HO.out hk0
    injection he with he1 he2 he3
    subst he1; subst he3
    have HI := hide (⟨xs, HO.out⟩ : ∃ xs, w.ownsRow n₀ 42 2 (.slice (some ⟨g, 0, none⟩) k c) k xs)
    go_enter Try.func22, Try.ntmps22
    go_wp2
    go_loopw [2] (fun vi wr => ∃ i : Nat, i ≤ k ∧ vi = .int .i64 i ∧ Hid (∃ xs, wr.ownsRow n₀ 42 2 (.slice (some ⟨g, 0, none⟩) k c) k xs) ∧ Hid (w.grownBy wr (some g))) (fun vi _ => k - (intOf vi).toNat)
    case atStart => exact ⟨0, Nat.zero_le _, rfl, HI, (Gr.refl w).grownBy _⟩
    case round =>
      clear HI HO
      obtain ⟨i, hi, rfl, HX, HG⟩ := hrel
      by_cases hlt : i < k
      · have hlt' : (i : Int) < (k : Int) := by omega
        obtain ⟨xs', h'⟩ := HX.out
        have hl : xs'.length = k * 2 := h'.1
        obtain ⟨z0, c0⟩ : ∃ z, wr.cell? ⟨g, i * 2, none⟩ = some z := ⟨_, (h'.cellAt (i * 2) (by omega)).trans (List.getElem?_eq_getElem (by omega))⟩
        obtain ⟨z1, c1⟩ : ∃ z, wr.cell? ⟨g, i * 2 + 1, none⟩ = some z := ⟨_, (h'.cellAt (i * 2 + 1) (by omega)).trans (List.getElem?_eq_getElem (by omega))⟩
        have f0 := h'.frozenAt (i * 2)
        have f1 := h'.frozenAt (i * 2 + 1)
        obtain ⟨s1, s2⟩ := h'.stored (i * 2) (.int .i64 5)
        obtain ⟨s3, s4⟩ := s1.stored (i * 2 + 1) (.int .i64 (-5))
        have HX2 := hide (⟨_, s3⟩ : ∃ xs, ((wr.setCell ⟨g, i * 2, none⟩ (.int .i64 5)).setCell ⟨g, i * 2 + 1, none⟩ (.int .i64 (-5))).ownsRow n₀ 42 2 (.slice (some ⟨g, 0, none⟩) k c) k xs)
        have HG2 := hide ((HG.out.trans s2).trans s4)
        clear s1 s2 s3 s4 h' hl
        go_wp2
        go_roundw
        case rel => exact ⟨i + 1, by omega, by go_num, HX2, HG2⟩
        case measure => simp [intOf]; omega
      · go_wp2
        go_end0
        exact ⟨rfl, HG.out⟩

theorem setpost_made {ys : List Sp} {w : World} {e : Ending} {w' : World} {a : Option Addr} {c : Nat} (h : OwnS w w' a c ys.length ys) (he : e = .returned (.tuple #[.slice a ys.length c, .int .i64 0])) : SetPost 0 ys w e w' :=
  ⟨a, c, he, h.2.1, h.2.2⟩

set_option maxHeartbeats 1000000 in
theorem refOf_any (A : Option Addr) (n cap : Nat) (xs : List Sp) (w : World) (hx : SpansAt w.heap.size w A n xs) :
    Calls Try.prog 18 #[.slice A n cap] w (SetPost (checkE xs) (ofV xs) w) := by
  have HX := hide hx
  have HCK := hide (list_any A n cap xs w hx)
  rw [ofV_same]
  clear hx
  by_cases hc : checkE xs = 0
  · rw [if_pos hc]
    have HC2 := HCK.out
    rw [hc] at HC2 ⊢
    have HC3 := hide HC2
    have hn := check_ok hc
    have HN := hide hn.1
    clear HC2 HCK hc hn
    go_enter Try.func18, Try.ntmps18
    go_wp2_with fail
    refine HC3.out.mono ?_
    rintro e w2 ⟨rfl, hG⟩
    have HG := hide hG
    clear hG HC3
    go_wp2_with fail
    refine (made_any 0 (.inl rfl) A none n cap 0 0 xs [] w2 (HX.out.gr HG.out) ⟨rfl, .inl rfl⟩ (by have := HN.out; have := HX.out.1; omega) (by omega)).mono ?_
    rintro e w3 ⟨a, c, rfl, h⟩
    have H := hide h
    clear h
    go_wp2
    go_ret2
    exact ⟨a, c, rfl, own_base H.out.2.1 HG.out.size, HG.out.below.trans (H.out.2.2.mono HG.out.size)⟩
  · rw [if_neg hc]
    have hc1 : (checkE xs == 0) = false := beq_eq_false_iff_ne.2 hc
    have hc2 : (checkE xs != 0) = true := by rw [bne_iff_ne]; exact hc
    clear hc
    go_enter Try.func18, Try.ntmps18
    go_wp2_with fail
    refine HCK.out.mono ?_
    rintro e w2 ⟨rfl, hG⟩
    have HG := hide hG
    clear hG HCK
    go_wp2
    go_ret2
    exact setpost_nil HG.out.below

end Go.Proofs.Ytikfiofjhmeheaa
