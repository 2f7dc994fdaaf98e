/- The scan of all sets and the search: the mathematics (1). -/
import Derived.Test.YtpobfdhmggkbaaaV2
namespace Go.Proofs.Ytpobfdhmggkbaaa
open Go.RowKit

abbrev Cand := List Int × Int
def upC (st : Cand) : Option Cand → Cand
  | none => st
  | some c => if c.2 > st.2 then c else st
/-- f (m-1) first, f 0 last -/
def scan (f : Nat → Option Cand) : Nat → Cand → Cand
  | 0, st => st
  | m + 1, st => scan f m (upC st (f m))
theorem scan_add (f : Nat → Option Cand) (a : Nat) : ∀ (b : Nat) (st : Cand), scan f (a + b) st = scan f a (scan (fun s => f (a + s)) b st)
  | 0, st => rfl
  | b + 1, st => by
    show scan f (a + b) (upC st (f (a + b))) = _
    rw [scan_add f a b]
    rfl
def bet (st c : Cand) : Cand := if c.2 > st.2 then c else st
theorem scan_from (f : Nat → Option Cand) (hf : ∀ s c, f s = some c → 0 ≤ c.2) : ∀ (m : Nat) (st : Cand), -1 ≤ st.2 → -1 ≤ (scan f m ([], -1)).2 ∧ scan f m st = bet st (scan f m ([], -1))
  | 0, st, h => by
    refine ⟨by show (-1 : Int) ≤ -1; decide, ?_⟩
    show st = if (-1 : Int) > st.2 then _ else st
    rw [if_neg (by omega)]
  | m + 1, st, h => by
    show -1 ≤ (scan f m (upC ([], -1) (f m))).2 ∧ scan f m (upC st (f m)) = bet st (scan f m (upC ([], -1) (f m)))
    cases hc : f m with
    | none => exact scan_from f hf m st h
    | some c =>
      have h0 := hf m c hc
      have e1 : upC ([], -1) (some c) = c := by
        show (if c.2 > (-1 : Int) then c else _) = c
        rw [if_pos (by omega)]
      rw [e1]
      obtain ⟨h1, h2⟩ := scan_from f hf m c (by omega)
      have h3 := (scan_from f hf m (upC st (some c)) (by show -1 ≤ (if c.2 > st.2 then c else st).2; split <;> omega)).2
      rw [h2, h3]
      generalize scan f m ([], -1) = x at h1
      refine ⟨by unfold bet; split <;> omega, ?_⟩
      unfold upC bet
      dsimp only
      by_cases g1 : c.2 > st.2 <;> by_cases g2 : x.2 > c.2 <;> by_cases g3 : x.2 > st.2 <;> simp only [g1, g2, g3, if_true, if_false] <;> first | rfl | omega
theorem scan_map (f g : Nat → Option Cand) (i p : Int) (hp : 0 ≤ p) (hf : ∀ s c, f s = some c → 0 ≤ c.2) : ∀ (m : Nat), (∀ s, s < m → g s = (f s).map fun c => (i :: c.1, c.2 + p)) →
    ∀ (st st' : Cand), (st = ([], -1) ∧ st' = ([], -1)) ∨ (0 ≤ st.2 ∧ st' = (i :: st.1, st.2 + p)) → (scan f m st = ([], -1) ∧ scan g m st' = ([], -1)) ∨ (0 ≤ (scan f m st).2 ∧ scan g m st' = (i :: (scan f m st).1, (scan f m st).2 + p))
  | 0, _, st, st', h => h
  | m + 1, hg, st, st', h => by
    show (scan f m (upC st (f m)) = _ ∧ scan g m (upC st' (g m)) = _) ∨ _
    refine scan_map f g i p hp hf m (fun s hs => hg s (by omega)) _ _ ?_
    rw [hg m (by omega)]
    cases hc : f m with
    | none => exact h
    | some c =>
      have h0 := hf m c hc
      refine .inr ?_
      simp only [Option.map_some, upC]
      rcases h with ⟨rfl, rfl⟩ | ⟨h1, rfl⟩
      · rw [if_pos (show c.2 > (-1 : Int) by omega), if_pos (show c.2 + p > (-1 : Int) by omega)]
        exact ⟨h0, rfl⟩
      · by_cases g1 : c.2 > st.2
        · rw [if_pos g1, if_pos (show c.2 + p > st.2 + p by omega)]
          exact ⟨h0, rfl⟩
        · rw [if_neg g1, if_neg (show ¬ c.2 + p > st.2 + p by omega)]
          exact ⟨h1, rfl⟩
theorem scan_none (f : Nat → Option Cand) (st : Cand) : ∀ m, (∀ s, s < m → f s = none) → scan f m st = st
  | 0, _ => rfl
  | m + 1, h => by
    show scan f m (upC st (f m)) = st
    rw [h m (by omega)]
    exact scan_none f st m fun s hs => h s (by omega)
theorem scan_congr (f g : Nat → Option Cand) : ∀ (m : Nat) (st : Cand), (∀ s, s < m → f s = g s) → scan f m st = scan g m st
  | 0, _, _ => rfl
  | m + 1, st, h => by
    show scan f m (upC st (f m)) = scan g m (upC st (g m))
    rw [h m (by omega)]
    exact scan_congr f g m _ fun s hs => h s (by omega)

/-- the set s of the last r offers, from offer i on -/
def evS (fl : List Int) : Nat → Nat → Int → Int → Nat → Option Cand
  | 0, _, _, _, _ => some ([], 0)
  | r + 1, i, g, sv, s => if s < 2 ^ r then evS fl r (i + 1) g sv s else if clash (offN fl i) g sv = true then none
      else (evS fl r (i + 1) (ior g (offN fl i).lots) (ior sv (bit (offN fl i).buyer)) (s - 2 ^ r)).map fun c => ((i : Int) :: c.1, c.2 + (offN fl i).price)
/-- the search with lists -/
def srL (fl : List Int) : Nat → Nat → Int → Int → Cand
  | 0, _, _, _ => ([], 0)
  | r + 1, i, g, sv => if clash (offN fl i) g sv = true then srL fl r (i + 1) g sv
      else if (srL fl r (i + 1) (ior g (offN fl i).lots) (ior sv (bit (offN fl i).buyer))).2 + (offN fl i).price < (srL fl r (i + 1) g sv).2 then srL fl r (i + 1) g sv
      else ((i : Int) :: (srL fl r (i + 1) (ior g (offN fl i).lots) (ior sv (bit (offN fl i).buyer))).1, (srL fl r (i + 1) (ior g (offN fl i).lots) (ior sv (bit (offN fl i).buyer))).2 + (offN fl i).price)
theorem srL_2 (fl : List Int) : ∀ (r i : Nat) (g sv : Int), (srL fl r i g sv).2 = (srch fl r i g sv).2
  | 0, _, _, _ => rfl
  | r + 1, i, g, sv => by
    unfold srL srch
    rw [srL_2 fl r, srL_2 fl r]
    split
    · exact srL_2 fl r _ _ _
    · split
      · exact srL_2 fl r _ _ _
      · rfl
theorem ev_pos {fl : List Int} {n : Nat} (hv : ∀ i, i < n → 1 ≤ (offN fl i).price) : ∀ (r i : Nat) (g sv : Int) (s : Nat) (c : Cand), i + r = n → evS fl r i g sv s = some c → 0 ≤ c.2
  | 0, _, _, _, _, c, _, h => by
    injection h with h
    subst h
    exact Int.le_refl _
  | r + 1, i, g, sv, s, c, hi, h => by
    unfold evS at h
    split at h
    · exact ev_pos hv r _ _ _ _ c (by omega) h
    · split at h <;> try (cases h; done)
      cases he : evS fl r (i + 1) (ior g (offN fl i).lots) (ior sv (bit (offN fl i).buyer)) (s - 2 ^ r) with
      | none => rw [he] at h; cases h
      | some d =>
        rw [he] at h
        injection h with h
        subst h
        have := ev_pos hv r _ _ _ _ d (by omega) he
        have := hv i (by omega)
        show 0 ≤ d.2 + (offN fl i).price
        omega
theorem scan_evS {fl : List Int} {n : Nat} (hv : ∀ i, i < n → 1 ≤ (offN fl i).price) : ∀ (r i : Nat) (g sv : Int), i + r = n → 0 ≤ (srL fl r i g sv).2 ∧ scan (evS fl r i g sv) (2 ^ r) ([], -1) = srL fl r i g sv
  | 0, i, g, sv, _ => by
    refine ⟨Int.le_refl _, ?_⟩
    show upC ([], -1) (some ([], 0)) = ([], 0)
    rfl
  | r + 1, i, g, sv, hi => by
    obtain ⟨h1, h2⟩ := scan_evS hv r (i + 1) g sv (by omega)
    obtain ⟨h3, h4⟩ := scan_evS hv r (i + 1) (ior g (offN fl i).lots) (ior sv (bit (offN fl i).buyer)) (by omega)
    have hp := hv i (by omega)
    have lower : ∀ st : Cand, -1 ≤ st.2 → scan (evS fl (r + 1) i g sv) (2 ^ r) st = bet st (srL fl r (i + 1) g sv) := by
      intro st hst
      rw [scan_congr _ (evS fl r (i + 1) g sv) _ st fun s hs => by rw [evS, if_pos hs]]
      rw [(scan_from _ (fun s c h => ev_pos hv r (i + 1) g sv s c (by omega) h) _ st hst).2, h2]
    have e2 : 2 ^ (r + 1) = 2 ^ r + 2 ^ r := by omega
    rw [e2, scan_add]
    by_cases hc : clash (offN fl i) g sv = true
    · rw [scan_none (fun s => evS fl (r + 1) i g sv (2 ^ r + s)) _ _ fun s hs => by
        show evS fl (r + 1) i g sv (2 ^ r + s) = none
        rw [evS, if_neg (by omega), if_pos hc]]
      rw [lower _ (by show (-1 : Int) ≤ -1; decide), srL, if_pos hc]
      refine ⟨h1, ?_⟩
      show (if (srL fl r (i + 1) g sv).2 > (-1 : Int) then _ else _) = _
      rw [if_pos (by omega)]
    · have hm := scan_map (evS fl r (i + 1) (ior g (offN fl i).lots) (ior sv (bit (offN fl i).buyer))) (fun s => evS fl (r + 1) i g sv (2 ^ r + s)) i (offN fl i).price (by omega) (fun s c h => ev_pos hv r (i + 1) _ _ s c (by omega) h) (2 ^ r)
        (fun s hs => by
          show evS fl (r + 1) i g sv (2 ^ r + s) = _
          rw [evS, if_neg (by omega), if_neg hc, show 2 ^ r + s - 2 ^ r = s by omega]) ([], -1) ([], -1) (.inl ⟨rfl, rfl⟩)
      rw [h4] at hm
      rcases hm with ⟨h5, _⟩ | ⟨_, h6⟩
      · rw [h5] at h3
        exact absurd h3 (by decide)
      · rw [h6, lower _ (by show -1 ≤ _ + _; omega), srL, if_neg hc]
        unfold bet
        dsimp only
        constructor
        · split
          · exact h1
          · show 0 ≤ _ + _
            omega
        · split
          · rfl
          · rfl
end Go.Proofs.Ytpobfdhmggkbaaa
