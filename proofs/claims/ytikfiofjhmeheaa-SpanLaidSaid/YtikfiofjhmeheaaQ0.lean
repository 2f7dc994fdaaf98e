/- Contracts of own and kept: a copy of spans with a mark behind. -/
import Derived.Test.YtikfiofjhmeheaaL0
namespace Go.Proofs.Ytikfiofjhmeheaa
open Go.RowKit Go.Sort

/-- the row g has the spans xs and the mark behind -/
def Mark (W : World) (base g n : Nat) (xs : List Sp) : Prop := W.ownsRow base 42 2 (.slice (some ⟨g, 0, none⟩) (n + 1) (n + 1)) (n + 1) (flat (xs ++ [(7, 77)]))

theorem made_own {W : World} {base n : Nat} (hb : base ≤ W.heap.size) (hn : n ≤ 1000000) : (W.alloc (.cells (madeCells #[.int .i64 0, .int .i64 0] ((n + 1) * 2)) 42)).ownsRow base 42 2 (.slice (some ⟨W.heap.size, 0, none⟩) (n + 1) (n + 1)) (n + 1) (madeCells #[.int .i64 0, .int .i64 0] ((n + 1) * 2)).toList :=
  World.ownsRow_lit (base := base) (e := 42) (size := 2) W (madeCells #[.int .i64 0, .int .i64 0] ((n + 1) * 2)) (n + 1) hb (by unfold maxLen; omega) (by rw [size_madeCells])

theorem two_stored {W : World} {base g N i : Nat} {vals zs : List Value} {a b : Value} (ho : W.ownsRow base 42 2 (.slice (some ⟨g, 0, none⟩) N N) N vals) (hv : ∀ j, j < i * 2 → vals[j]? = zs[j]?) (hi : i < N) (h0 : zs[i * 2]? = some a) (h1 : zs[i * 2 + 1]? = some b) :
    ∃ vals' : List Value, ((W.setCell ⟨g, i * 2, none⟩ a).setCell ⟨g, i * 2 + 1, none⟩ b).ownsRow base 42 2 (.slice (some ⟨g, 0, none⟩) N N) N vals' ∧ ∀ j, j < (i + 1) * 2 → vals'[j]? = zs[j]? := by
  have hl := ho.1
  refine ⟨(vals.set (i * 2) a).set (i * 2 + 1) b, ((ho.stored (i * 2) a).1.stored (i * 2 + 1) b).1, fun j hj => ?_⟩
  by_cases e1 : j = i * 2 + 1
  · subst e1
    rw [h1, List.getElem?_set_self (by simp; omega)]
  · rw [List.getElem?_set_ne (by omega)]
    by_cases e0 : j = i * 2
    · subst e0
      rw [h0, List.getElem?_set_self (by omega)]
    · rw [List.getElem?_set_ne (by omega)]
      exact hv j (by omega)
theorem loA_left {xs ys : List Sp} {i : Nat} (h : i < xs.length) : loA (xs ++ ys) i = loA xs i ∧ hiA (xs ++ ys) i = hiA xs i := by
  simp [loA, hiA, List.getD_eq_getElem?_getD, List.getElem?_append_left h]
theorem loA_last (xs : List Sp) (s : Sp) {n : Nat} (h : xs.length = n) : loA (xs ++ [s]) n = s.1 ∧ hiA (xs ++ [s]) n = s.2 := by
  subst h
  simp [loA, hiA, List.getD_eq_getElem?_getD]

set_option maxHeartbeats 1000000 in
set_option maxRecDepth 100000 in
theorem own_any (A : Option Addr) (n cap : Nat) (xs : List Sp) (w : World) (hx : SpansAt w.heap.size w A n xs) (hn : n ≤ 1000000) :
    Calls Try.prog 17 #[.slice A n cap] w fun e w' => e = .returned (.slice (some ⟨w.heap.size, 0, none⟩) n (n + 1)) ∧ Mark w' w.heap.size w.heap.size n xs ∧ Below w.heap.size w w' := by
  obtain ⟨i0, hi0, hz0, hz1, hz2⟩ := info_parts info42
  have hmk : ∀ W, (Instr.makeSlice 22 (.int .i64 ((n : Int) + 1)) (.int .i64 ((n : Int) + 1))).run Try.prog W = .ok (.slice (some ⟨W.heap.size, 0, none⟩) (n + 1) (n + 1)) (W.alloc (.cells (madeCells #[.int .i64 0, .int .i64 0] ((n + 1) * 2)) 42)) := fun W => by
    have h := run_make (P := Try.prog) W 22 42 i0 (.agg #[.int .i64 0, .int .i64 0]) Try.underlying22 hi0 hz0 .i64 .i64 ((n : Int) + 1) ((n : Int) + 1) (by omega) (by omega) (by rw [hz2]; omega) (by omega)
    rw [hz1] at h
    have e : ((n : Int) + 1).toNat = n + 1 := by omega
    rw [e] at h
    exact h
  have HX := hide hx
  clear hx
  go_enter Try.func17, Try.ntmps17
  go_wp2_with fail
  go_loopw [4] (fun vi wr => ∃ i : Nat, i ≤ n ∧ vi = .int .i64 i ∧ Hid (∃ vals : List Value, wr.ownsRow w.heap.size 42 2 (.slice (some ⟨w.heap.size, 0, none⟩) (n + 1) (n + 1)) (n + 1) vals ∧ ∀ j, j < i * 2 → vals[j]? = (flat (xs ++ [(7, 77)]))[j]?) ∧ Hid (Below w.heap.size w wr)) (fun vi _ => n - (intOf vi).toNat)
  case atStart => exact ⟨0, Nat.zero_le _, rfl, ⟨_, made_own (Nat.le_refl _) hn, fun j hj => by omega⟩, (Below.refl _ _).alloc (Nat.le_refl _) _⟩
  case round =>
    obtain ⟨i, hi, rfl, ⟨vals, HO, HV⟩, HB⟩ := hrel
    have HO1 := hide HO
    have HV1 := hide HV
    have HB1 := hide HB
    obtain ⟨z0, c0⟩ : ∃ z, wr.cell? ⟨w.heap.size, i * 2, none⟩ = some z := ⟨_, (HO.cellAt (i * 2) (by omega)).trans (List.getElem?_eq_getElem (by rw [HO.1]; omega))⟩
    obtain ⟨z1, c1⟩ : ∃ z, wr.cell? ⟨w.heap.size, i * 2 + 1, none⟩ = some z := ⟨_, (HO.cellAt (i * 2 + 1) (by omega)).trans (List.getElem?_eq_getElem (by rw [HO.1]; omega))⟩
    have f0 := HO.frozenAt (i * 2)
    have f1 := HO.frozenAt (i * 2 + 1)
    by_cases hlt : i < n
    · obtain ⟨b, off, rfl, hb, g0, g1⟩ := HX.out.at_ hlt
      have e0 := (HB.cell (p := ⟨b, off + i * 2, none⟩) hb).trans g0
      have e1 := (HB.cell (p := ⟨b, off + i * 2 + 1, none⟩) hb).trans g1
      clear HO HV HB g0 g1
      have hf := flat_get (xs ++ [(7, 77)]) i (by rw [List.length_append, HX.out.1]; simp; omega)
      rw [(loA_left (ys := [(7, 77)]) (i := i) (by rw [HX.out.1]; exact hlt)).1, (loA_left (ys := [(7, 77)]) (i := i) (by rw [HX.out.1]; exact hlt)).2] at hf
      have HS := hide (two_stored HO1.out HV1.out (by omega) hf.1 hf.2)
      clear hf
      go_wp2
      go_roundw
      case rel => exact ⟨i + 1, by omega, by go_num, HS, (HB1.out.setCell (by dsimp only; omega) _).setCell (by dsimp only; omega) _⟩
      case measure => simp [intOf]; omega
    · obtain rfl : i = n := by omega
      have hf := flat_get (xs ++ [(7, 77)]) i (by rw [List.length_append, HX.out.1]; simp)
      rw [(loA_last xs (7, 77) HX.out.1).1, (loA_last xs (7, 77) HX.out.1).2] at hf
      have HS := hide (two_stored HO1.out HV1.out (by omega) hf.1 hf.2)
      clear HO HV HB hf
      go_wp2
      go_ret
      obtain ⟨vals', h1, h2⟩ := HS.out
      have hz : vals' = flat (xs ++ [(7, 77)]) := by
        have hl : vals'.length = (i + 1) * 2 := h1.1
        have hl2 : (flat (xs ++ [(7, 77)])).length = (i + 1) * 2 := by rw [flat_length, List.length_append, HX.out.1]; rfl
        refine List.ext_getElem? fun j => ?_
        rcases Nat.lt_or_ge j ((i + 1) * 2) with h | h
        · exact h2 j h
        · rw [List.getElem?_eq_none (by omega), List.getElem?_eq_none (by omega)]
      rw [hz] at h1
      exact ⟨rfl, h1, (HB1.out.setCell (by dsimp only; omega) _).setCell (by dsimp only; omega) _⟩

theorem Mark.spans {W : World} {base g n : Nat} {xs : List Sp} (h : Mark W base g n xs) (hn : xs.length = n) : SpansAt W.heap.size W (some ⟨g, 0, none⟩) n xs ∧ W.cell? ⟨g, n * 2, none⟩ = some (.int .i64 7) ∧ W.cell? ⟨g, n * 2 + 1, none⟩ = some (.int .i64 77) ∧ base ≤ g ∧ g < W.heap.size := by
  have hs := spans_of_own h (by rw [List.length_append, hn]; rfl)
  have hlast := hs.at2 (k := n) (by omega)
  rw [(loA_last xs (7, 77) hn).1, (loA_last xs (7, 77) hn).2, Nat.zero_add] at hlast
  obtain ⟨g', c', he, hg1, hg2⟩ := own_row h (by omega)
  injection he with he _ _
  injection he with he
  injection he with he
  subst he
  refine ⟨⟨hn, .inr ⟨g, 0, rfl, hg2, fun i hi => ?_⟩⟩, hlast.1, hlast.2, hg1, hg2⟩
  have := hs.at2 (k := i) (by omega)
  rw [(loA_left (ys := [(7, 77)]) (i := i) (by omega)).1, (loA_left (ys := [(7, 77)]) (i := i) (by omega)).2] at this
  exact this

set_option maxHeartbeats 1000000 in
set_option maxRecDepth 100000 in
theorem kept_any (A : Option Addr) (n cap g base : Nat) (xs : List Sp) (w : World) (hx : SpansAt w.heap.size w A n xs) (hm : Mark w base g n xs) (hn : n ≤ 1000000) :
    Calls Try.prog 21 #[.slice (some ⟨g, 0, none⟩) n (n + 1), .slice A n cap] w fun e w' => e = .returned (.bool true) ∧ Below w.heap.size w w' := by
  obtain ⟨h1, h2, h3, h4, h5⟩ := hm.spans hx.1
  have hs := same_any _ _ n (n + 1) n cap xs xs w h1 hx hn hn
  rw [decide_eq_true rfl] at hs
  have HS := hide hs
  clear hs hx h1
  go_enter Try.func21, Try.ntmps21
  go_wp2_with fail
  refine HS.out.mono ?_
  rintro e w2 ⟨rfl, q, rfl⟩
  have c0 : (w.drewN q).cell? ⟨g, n * 2, none⟩ = some (.int .i64 7) := h2
  have c1 : (w.drewN q).cell? ⟨g, n * 2 + 1, none⟩ = some (.int .i64 77) := h3
  clear h2 h3
  go_wp2
  go_ret
  exact ⟨rfl, ((Gr.refl w).drewN q).below⟩

end Go.Proofs.Ytikfiofjhmeheaa
