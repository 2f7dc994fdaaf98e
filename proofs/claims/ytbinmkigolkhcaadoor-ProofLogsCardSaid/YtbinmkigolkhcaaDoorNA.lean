/- The mathematics of ProofBinds and ProofOrder: another root, entry, place or side is refused, or somebody is to blame; two entries exchanged. -/
import Derived.Test.YtbinmkigolkhcaaDoorZD
set_option linter.unusedSimpArgs false
set_option linter.unusedVariables false
namespace Go.Proofs.YtbinmkigolkhcaaDoor
open Go.RowKit Go.Sort

theorem get_small {ls : List (List UInt8)} {i : Nat} (hi : i < ls.length) (hl : ∀ l ∈ ls, l.length ≤ 256) : (ls.getD i []).length ≤ 256 := by
  rw [List.getD_eq_getElem?_getD, List.getElem?_eq_getElem hi]
  exact hl _ (List.getElem_mem hi)
theorem place_ok {i n : Nat} (hi : i < n) (hn : n ≤ 4096) : placeB i n = true := decide_eq_true (by omega)
theorem inc_of {l : List UInt8} {i n r : Nat} {s : List St} (hi : i < n) (hn : n ≤ 4096) (hl : l.length ≤ 256) : includedV l i n r s = (leadB s (sidesV i n) && decide (followV l s = r), 0) := by
  unfold includedV
  rw [if_neg (by rw [place_ok hi hn]; decide), if_neg (by omega), Int.toNat_natCast, Int.toNat_natCast]
theorem bind_root {ls : List (List UInt8)} {i r : Nat} (hi : i < ls.length) (hl : ∀ l ∈ ls, l.length ≤ 256) (hn : ls.length ≤ 4096) (hr : r ≠ rootV ls) : includedV (ls.getD i []) i ls.length r (stepsV ls i) = (false, 0) := by
  rw [inc_of hi hn (get_small hi hl), follow_steps ls.length ls i (Nat.le_refl _) hi, decide_eq_false (fun e => hr e.symm), Bool.and_false]
theorem bind_other {ls : List (List UInt8)} {i : Nat} {o : List UInt8} (hi : i < ls.length) (hl : ∀ l ∈ ls, l.length ≤ 256) (hn : ls.length ≤ 4096) (ho : o.length ≤ 256) (hne : o ≠ ls.getD i []) :
    ∃ b, includedV o i ls.length (rootV ls) (stepsV ls i) = (b, 0) ∧ (b = true → accE i ls.length (ls.getD i []) (stepsV ls i) o (stepsV ls i) = 0) := by
  refine ⟨_, inc_of hi hn ho, fun hb => ?_⟩
  have hf := follow_steps ls.length ls i (Nat.le_refl _) hi
  refine acc_good ?_ ?_ (fun e => hne e.symm)
  · rw [hf, include_taken hi hl hn]
  · rw [hf, inc_of hi hn ho]
    exact hb
theorem bind_place {ls : List (List UInt8)} {i j : Nat} (hi : i < ls.length) (hj : j < ls.length) (hl : ∀ l ∈ ls, l.length ≤ 256) (hn : ls.length ≤ 4096) (hne : ls.getD j [] ≠ ls.getD i []) :
    ∃ b, includedV (ls.getD i []) j ls.length (rootV ls) (stepsV ls i) = (b, 0) ∧ (b = true → accE j ls.length (ls.getD j []) (stepsV ls j) (ls.getD i []) (stepsV ls i) = 0) := by
  refine ⟨_, inc_of hj hn (get_small hi hl), fun hb => ?_⟩
  have hf := follow_steps ls.length ls j (Nat.le_refl _) hj
  refine acc_good ?_ ?_ hne
  · rw [hf, include_taken hj hl hn]
  · rw [hf, inc_of hj hn (get_small hi hl)]
    exact hb
/-- a step whose side is exchanged -/
def flipS (ss : List St) (p : Nat) : List St := ss.set p (stH ss p, !stL ss p)
theorem flip_len (ss : List St) (p : Nat) : (flipS ss p).length = ss.length := List.length_set
theorem flip_side {ss : List St} {p : Nat} (hp : p < ss.length) : stL (flipS ss p) p = !stL ss p := by
  unfold flipS
  have : stL (ss.set p (stH ss p, !stL ss p)) p = ((ss.set p (stH ss p, !stL ss p)).getD p (0, false)).2 := rfl
  rw [this, List.getD_eq_getElem?_getD, List.getElem?_set_self hp]
  rfl
theorem bind_side {ls : List (List UInt8)} {i p : Nat} {r : Nat} (hi : i < ls.length) (hl : ∀ l ∈ ls, l.length ≤ 256) (hn : ls.length ≤ 4096) (hp : p < (stepsV ls i).length) : includedV (ls.getD i []) i ls.length r (flipS (stepsV ls i) p) = (false, 0) := by
  have hs := steps_sides ls.length ls i (Nat.le_refl _) hi
  have hlen : (sidesV i ls.length).length = (stepsV ls i).length := by rw [← hs, List.length_map]
  have : leadB (flipS (stepsV ls i) p) (sidesV i ls.length) = false := by
    refine lead_ne (i := p) (by rw [flip_len]; exact hp) (by rw [hlen]; exact hp) ?_
    rw [flip_side hp, ← hs, List.getD_eq_getElem?_getD, List.getElem?_map]
    unfold stL
    rw [List.getD_eq_getElem?_getD, List.getElem?_eq_getElem hp]
    simp
  rw [inc_of hi hn (get_small hi hl), this, Bool.false_and]
theorem flip_bound {ss : List St} (h : StBound ss) (p : Nat) : StBound (flipS ss p) := by
  intro s hs
  unfold flipS at hs
  rcases List.mem_or_eq_of_mem_set hs with h1 | h1
  · exact h s h1
  · subst h1
    show stH ss p < _
    unfold stH
    rw [List.getD_eq_getElem?_getD]
    cases e : ss[p]? with
    | none => exact Nat.two_pow_pos 64
    | some x => exact h x (List.mem_of_getElem? e)

/-- two entries exchanged -/
def swapL (ls : List (List UInt8)) (i k : Nat) : List (List UInt8) := (ls.set i (ls.getD k [])).set k (ls.getD i [])
theorem swap_len (ls : List (List UInt8)) (i k : Nat) : (swapL ls i k).length = ls.length := by
  unfold swapL
  rw [List.length_set, List.length_set]
theorem swap_get {ls : List (List UInt8)} {i k j : Nat} (hi : i < ls.length) (hk : k < ls.length) : (swapL ls i k).getD j [] = if j = k then ls.getD i [] else if j = i then ls.getD k [] else ls.getD j [] := by
  unfold swapL
  rw [List.getD_eq_getElem?_getD, List.getElem?_set, List.getElem?_set]
  by_cases e1 : j = k
  · subst e1
    rw [if_pos rfl, if_pos rfl, if_pos (by rw [List.length_set]; exact hk)]
    rfl
  · rw [if_neg (fun e => e1 e.symm), if_neg e1]
    by_cases e2 : j = i
    · subst e2
      rw [if_pos rfl, if_pos rfl, if_pos hi]
      rfl
    · rw [if_neg (fun e => e2 e.symm), if_neg e2, ← List.getD_eq_getElem?_getD]
theorem ext_get {l m : List (List UInt8)} (h : l.length = m.length) (hg : ∀ j, j < l.length → l.getD j [] = m.getD j []) : l = m := by
  refine List.ext_getElem? fun j => ?_
  rcases Nat.lt_or_ge j l.length with h1 | h1
  · have := hg j h1
    rw [List.getD_eq_getElem?_getD, List.getD_eq_getElem?_getD, List.getElem?_eq_getElem h1, List.getElem?_eq_getElem (by omega)] at this
    rw [List.getElem?_eq_getElem h1, List.getElem?_eq_getElem (by omega)]
    exact congrArg some this
  · rw [List.getElem?_eq_none h1, List.getElem?_eq_none (by omega)]
theorem swap_same {ls : List (List UInt8)} {i k : Nat} (hi : i < ls.length) (hk : k < ls.length) (h : ls.getD i [] = ls.getD k []) : swapL ls i k = ls := by
  refine ext_get (swap_len ls i k) fun j hj => ?_
  rw [swap_get hi hk]
  split
  · rename_i e; rw [e, h]
  · split
    · rename_i e; rw [e, h]
    · rfl
theorem swap_all {ls : List (List UInt8)} {i k : Nat} {P : List UInt8 → Prop} (hi : i < ls.length) (hk : k < ls.length) (h : ∀ l ∈ ls, P l) : ∀ l ∈ swapL ls i k, P l := by
  intro l hl
  obtain ⟨j, hj, rfl⟩ := List.getElem_of_mem hl
  have e := swap_get (j := j) hi hk
  rw [List.getD_eq_getElem?_getD, List.getElem?_eq_getElem hj, Option.getD_some] at e
  rw [e]
  split
  · exact h _ (mem_getD hi)
  · split
    · exact h _ (mem_getD hk)
    · exact h _ (mem_getD (by rw [swap_len] at hj; exact hj))
theorem swap_long {ls : List (List UInt8)} {i k : Nat} (hi : i < ls.length) (hk : k < ls.length) : longB (swapL ls i k) = longB ls := by
  cases h : longB ls
  · exact long_no fun j hj => swap_all (P := fun l => l.length ≤ 256) hi hk (long_false h) _ (mem_getD hj)
  · cases h2 : longB (swapL ls i k)
    · exfalso
      have h3 := long_false h2
      have : longB ls = false := long_no fun j hj => by
        by_cases e1 : j = i
        · subst e1
          have := h3 _ (mem_getD (i := k) (by rw [swap_len]; exact hk))
          rw [swap_get hi hk, if_pos rfl] at this
          exact this
        · by_cases e2 : j = k
          · subst e2
            have := h3 _ (mem_getD (i := i) (by rw [swap_len]; exact hi))
            rw [swap_get hi hk] at this
            split at this
            · rename_i e; exact absurd e.symm e1
            · rw [if_pos rfl] at this; exact this
          · have := h3 _ (mem_getD (i := j) (by rw [swap_len]; exact hj))
            rw [swap_get hi hk, if_neg e2, if_neg e1] at this
            exact this
      rw [h] at this
      cases this
    · rfl
theorem swap_blame {ls : List (List UInt8)} {i k : Nat} (hi : i < ls.length) (hk : k < ls.length) (hl : ∀ l ∈ ls, l.length ≤ 256) (hn : ls.length ≤ 4096) (hne : ls.getD i [] ≠ ls.getD k []) (hr : rootV (swapL ls i k) = rootV ls) :
    accE i ls.length (ls.getD i []) (stepsV ls i) (ls.getD k []) (stepsV (swapL ls i k) i) = 0 := by
  have hs := swap_len ls i k
  have hg : (swapL ls i k).getD i [] = ls.getD k [] := by
    rw [swap_get hi hk]
    split
    · rename_i e; rw [e]
    · rw [if_pos rfl]
  have hi2 : i < (swapL ls i k).length := by rw [hs]; exact hi
  have h2 := include_taken hi2 (swap_all (P := fun l => l.length ≤ 256) hi hk hl) (by rw [hs]; exact hn)
  rw [hg, hs, hr] at h2
  have hf := follow_steps ls.length ls i (Nat.le_refl _) hi
  refine acc_good ?_ ?_ hne
  · rw [hf, include_taken hi hl hn]
  · rw [hf, h2]
end Go.Proofs.YtbinmkigolkhcaaDoor
