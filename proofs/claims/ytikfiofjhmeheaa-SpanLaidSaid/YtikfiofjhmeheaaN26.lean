/- Plain facts: trays are a colouring, as many as the greatest number of spans that share a number. -/
import Derived.Test.YtikfiofjhmeheaaN25
namespace Go.Proofs.Ytikfiofjhmeheaa

/-- the j-th span by lower end -/
noncomputable def ordL (xs : List Sp) (n j : Nat) : Nat := ordF (keyA (fun a _ => a) xs) n j
/-- the first tray that is free at lo -/
def freeAt (ends : List Int) (lo : Int) : Nat := ends.findIdx fun e => decide (e ≤ lo)
theorem freeAt_le (E : List Int) (lo : Int) : freeAt E lo ≤ E.length := List.findIdx_le_length
theorem iA_gt {E : List Int} {t : Nat} (h : t < E.length) : iA E t = E[t] := by
  unfold iA
  simp [List.getD_eq_getElem?_getD, List.getElem?_eq_getElem h]
theorem freeAt_before {E : List Int} {lo : Int} {t : Nat} (h : t < freeAt E lo) : lo < iA E t := by
  have h1 : t < E.length := Nat.lt_of_lt_of_le h (freeAt_le E lo)
  have h2 := List.not_of_lt_findIdx h
  rw [iA_gt h1]
  have h3 := of_decide_eq_false (by simpa using h2 : decide (E[t] ≤ lo) = false)
  omega
theorem freeAt_at {E : List Int} {lo : Int} (h : freeAt E lo < E.length) : iA E (freeAt E lo) ≤ lo := by
  have h2 := List.findIdx_getElem (w := h)
  rw [iA_gt h]
  exact of_decide_eq_true h2
theorem freeAt_is {E : List Int} {lo : Int} {t : Nat} (ht : t ≤ E.length) (h1 : ∀ s, s < t → lo < iA E s) (h2 : t < E.length → iA E t ≤ lo) : freeAt E lo = t := by
  rcases Nat.lt_trichotomy (freeAt E lo) t with h | h | h
  · have := h1 _ h
    have := freeAt_at (E := E) (lo := lo) (by omega)
    omega
  · exact h
  · have := freeAt_before h
    have := h2 (Nat.lt_of_lt_of_le h (freeAt_le E lo))
    omega
theorem iA_set (l : List Int) (t : Nat) (v : Int) (k : Nat) (ht : t < l.length) : iA (l.set t v) k = if k = t then v else iA l k := by
  unfold iA
  rw [List.getD_eq_getElem?_getD, List.getElem?_set, List.getD_eq_getElem?_getD]
  by_cases h : k = t
  · subst h
    simp [ht]
  · rw [if_neg (fun e => h e.symm), if_neg h]

def layEnds (E : List Int) (lo hi : Int) : List Int := (if freeAt E lo < E.length then E else E ++ [0]).set (freeAt E lo) hi
noncomputable def layStep (xs : List Sp) (st : List Int × List Int) (o : Nat) : List Int × List Int :=
  (layEnds st.1 (loA xs o) (hiA xs o), st.2.set o (freeAt st.1 (loA xs o) : Nat))
noncomputable def layTo (xs : List Sp) {n : Nat} (pre : List (Fin n)) : List Int × List Int := pre.foldl (fun st x => layStep xs st (ordL xs n x.1)) ([], List.replicate n 0)
theorem layTo_snoc (xs : List Sp) {n : Nat} (pre : List (Fin n)) (x : Fin n) : layTo xs (pre ++ [x]) = layStep xs (layTo xs pre) (ordL xs n x.1) := by
  simp [layTo]
theorem layEnds_length (E : List Int) (lo hi : Int) : (layEnds E lo hi).length = if freeAt E lo < E.length then E.length else E.length + 1 := by
  unfold layEnds
  rw [List.length_set]
  split <;> simp
theorem layEnds_at (E : List Int) (lo hi : Int) : iA (layEnds E lo hi) (freeAt E lo) = hi := by
  unfold layEnds
  have := freeAt_le E lo
  rw [iA_set _ _ _ _ (by split <;> (try simp) <;> omega), if_pos rfl]
theorem layEnds_other {E : List Int} {lo hi : Int} {s : Nat} (h : s ≠ freeAt E lo) (hs : s < E.length) : iA (layEnds E lo hi) s = iA E s := by
  unfold layEnds
  have := freeAt_le E lo
  rw [iA_set _ _ _ _ (by split <;> (try simp) <;> omega), if_neg h]
  split
  · rfl
  · exact iA_old hs
theorem layTo_length (xs : List Sp) {n : Nat} (pre : List (Fin n)) : (layTo xs pre).2.length = n ∧ (layTo xs pre).1.length ≤ pre.length := by
  suffices h : ∀ (pre : List (Fin n)) (st : List Int × List Int), (pre.foldl (fun st x => layStep xs st (ordL xs n x.1)) st).2.length = st.2.length ∧
      (pre.foldl (fun st x => layStep xs st (ordL xs n x.1)) st).1.length ≤ st.1.length + pre.length by
    have := h pre ([], List.replicate n 0)
    simpa [layTo] using this
  intro pre
  induction pre with
  | nil => intro st; simp
  | cons x pre ih =>
    intro st
    have h2 := ih (layStep xs st (ordL xs n x.1))
    have h1 : (layStep xs st (ordL xs n x.1)).2.length = st.2.length ∧ (layStep xs st (ordL xs n x.1)).1.length ≤ st.1.length + 1 := by
      refine ⟨by simp [layStep], ?_⟩
      show (layEnds _ _ _).length ≤ _
      rw [layEnds_length]
      split <;> omega
    simp only [List.foldl_cons, List.length_cons]
    exact ⟨h2.1.trans h1.1, by omega⟩

theorem conTo_succ (xs : List Sp) (x : Int) (k : Nat) : conTo xs x (k + 1) = if hasB (loA xs k) (hiA xs k) x = true then conTo xs x k + 1 else conTo xs x k := rfl
theorem conTo_mono (xs : List Sp) (x : Int) {i : Nat} : ∀ k, i ≤ k → conTo xs x i ≤ conTo xs x k
  | 0, h => by obtain rfl : i = 0 := by omega
               exact Nat.le_refl _
  | k + 1, h => by
    rcases Nat.lt_or_ge i (k + 1) with h1 | h1
    · have := conTo_mono xs x k (by omega : i ≤ k)
      rw [conTo_succ]
      split <;> omega
    · obtain rfl : i = k + 1 := by omega
      exact Nat.le_refl _
theorem conTo_lt {xs : List Sp} {x : Int} {i k : Nat} (h : i < k) (hb : hasB (loA xs i) (hiA xs i) x = true) : conTo xs x i < conTo xs x k := by
  have := conTo_mono xs x k (by omega : i + 1 ≤ k)
  rw [conTo_succ, if_pos hb] at this
  omega
/-- so many spans have x -/
theorem conTo_ge {xs : List Sp} {x : Int} {n N : Nat} (f : Nat → Nat) (h1 : ∀ a, a < N → f a < n ∧ hasB (loA xs (f a)) (hiA xs (f a)) x = true) (h2 : ∀ a b, a < N → b < N → f a = f b → a = b) : N ≤ conTo xs x n := by
  refine pigeon (conTo xs x n) N (fun a => conTo xs x (f a)) (fun a ha => conTo_lt (h1 a ha).1 (h1 a ha).2) fun a b ha hb he => h2 a b ha hb ?_
  have he : conTo xs x (f a) = conTo xs x (f b) := he
  rcases Nat.lt_trichotomy (f a) (f b) with h | h | h
  · have := conTo_lt h (h1 a ha).2
    omega
  · exact h
  · have := conTo_lt h (h1 b hb).2
    omega
theorem conTo_enum (xs : List Sp) (x : Int) : ∀ n, ∃ e : Nat → Nat, (∀ a, a < conTo xs x n → e a < n ∧ hasB (loA xs (e a)) (hiA xs (e a)) x = true) ∧ ∀ a b, a < conTo xs x n → b < conTo xs x n → e a = e b → a = b
  | 0 => ⟨fun a => a, fun a h => by simp [conTo] at h, fun a b h => by simp [conTo] at h⟩
  | n + 1 => by
    obtain ⟨e, h1, h2⟩ := conTo_enum xs x n
    by_cases hb : hasB (loA xs n) (hiA xs n) x = true
    · refine ⟨fun a => if a < conTo xs x n then e a else n, fun a ha => ?_, fun a b ha hb' he => ?_⟩
      · show (if a < conTo xs x n then e a else n) < n + 1 ∧ hasB (loA xs (if a < conTo xs x n then e a else n)) (hiA xs (if a < conTo xs x n then e a else n)) x = true
        split
        · rename_i h
          exact ⟨by have := (h1 a h).1; omega, (h1 a h).2⟩
        · exact ⟨by omega, hb⟩
      · rw [conTo_succ, if_pos hb] at ha hb'
        have he : (if a < conTo xs x n then e a else n) = (if b < conTo xs x n then e b else n) := he
        split at he
        · rename_i h
          split at he
          · rename_i h'
            exact h2 a b h h' he
          · have := (h1 a h).1
            omega
        · split at he
          · rename_i h'
            have := (h1 b h').1
            omega
          · omega
    · rw [conTo_succ, if_neg hb]
      exact ⟨e, fun a ha => ⟨by have := (h1 a ha).1; omega, (h1 a ha).2⟩, h2⟩
theorem conTo_few {xs : List Sp} {x : Int} {n m : Nat} (g : Nat → Nat) (h1 : ∀ i, i < n → hasB (loA xs i) (hiA xs i) x = true → g i < m)
    (h2 : ∀ i k, i < n → k < n → hasB (loA xs i) (hiA xs i) x = true → hasB (loA xs k) (hiA xs k) x = true → g i = g k → i = k) : conTo xs x n ≤ m := by
  obtain ⟨e, e1, e2⟩ := conTo_enum xs x n
  exact pigeon m _ (fun a => g (e a)) (fun a ha => h1 _ (e1 a ha).1 (e1 a ha).2) fun a b ha hb he => e2 a b ha hb (h2 _ _ (e1 a ha).1 (e1 b hb).1 (e1 a ha).2 (e1 b hb).2 he)

/-- what stands behind k spans -/
structure LayI (xs : List Sp) (n k : Nat) (E T : List Int) : Prop where
  len : T.length = n
  small : E.length ≤ k
  own : ∀ j, j < k → ∃ t : Nat, t < E.length ∧ iA T (ordL xs n j) = (t : Int) ∧ hiA xs (ordL xs n j) ≤ iA E t
  last : ∀ t : Nat, t < E.length → ∃ j, j < k ∧ iA T (ordL xs n j) = (t : Int) ∧ hiA xs (ordL xs n j) = iA E t
  apart : ∀ j j', j < j' → j' < k → iA T (ordL xs n j) = iA T (ordL xs n j') → hiA xs (ordL xs n j) ≤ loA xs (ordL xs n j')
  deep : ∃ x, E.length ≤ conTo xs x n

theorem ordL_lt (xs : List Sp) {n j : Nat} (h : j < n) : ordL xs n j < n := (ordF_ord (keyA (fun a _ => a) xs) n).lt h
theorem ordL_inj {xs : List Sp} {n j k : Nat} (hj : j < n) (hk : k < n) (e : ordL xs n j = ordL xs n k) : j = k := (ordF_ord (keyA (fun a _ => a) xs) n).inj hj hk e
theorem ordL_asc (xs : List Sp) {n j k : Nat} (hj : j < k) (hk : k < n) : loA xs (ordL xs n j) ≤ loA xs (ordL xs n k) := by
  have := (ordF_ord (keyA (fun a _ => a) xs) n).2 j k (Nat.zero_le _) hj hk
  unfold lexL at this
  rw [show ∀ i, keyA (fun a _ => a) xs i = loA xs i from fun _ => rfl, show ∀ i, keyA (fun a _ => a) xs i = loA xs i from fun _ => rfl] at this
  unfold ordL
  omega
theorem ordL_onto (xs : List Sp) {n i : Nat} (h : i < n) : ∃ j, j < n ∧ ordL xs n j = i := (ordF_ord (keyA (fun a _ => a) xs) n).onto h

theorem lay_facts {xs : List Sp} {n : Nat} (hok : okTo xs n) : ∀ k, k ≤ n → LayI xs n k (layTo xs (ups n k)).1 (layTo xs (ups n k)).2
  | 0, _ => by
    rw [ups_zero]
    exact ⟨by simp [layTo], by simp [layTo], fun j h => by omega, fun a h => by simp [layTo] at h, fun j j' h1 h2 => by omega, 0, by simp [layTo]⟩
  | k + 1, hk => by
    have ih := lay_facts hok k (by omega)
    have hon : ordL xs n k < n := ordL_lt xs (by omega)
    have hv := okB_true (hok _ hon)
    rw [ups_succ (show k < n by omega), layTo_snoc]
    show LayI xs n (k + 1) (layStep xs (layTo xs (ups n k)) (ordL xs n k)).1 (layStep xs (layTo xs (ups n k)) (ordL xs n k)).2
    have hsort : ∀ j, j < k → loA xs (ordL xs n j) ≤ loA xs (ordL xs n k) := fun j hj => ordL_asc xs hj (by omega)
    have hne : ∀ j, j < k → ordL xs n j ≠ ordL xs n k := fun j hj e => by have := ordL_inj (by omega) (by omega) e; omega
    generalize (layTo xs (ups n k)) = st at ih ⊢
    obtain ⟨E, T⟩ := st
    have ih : LayI xs n k E T := ih
    show LayI xs n (k + 1) (layEnds E (loA xs (ordL xs n k)) (hiA xs (ordL xs n k))) (T.set (ordL xs n k) (freeAt E (loA xs (ordL xs n k)) : Nat))
    have hT : ∀ j, j < k → iA (T.set (ordL xs n k) (freeAt E (loA xs (ordL xs n k)) : Nat)) (ordL xs n j) = iA T (ordL xs n j) := fun j hj => by
      rw [iA_set _ _ _ _ (by rw [ih.len]; exact hon), if_neg (hne j hj)]
    have hTk : iA (T.set (ordL xs n k) (freeAt E (loA xs (ordL xs n k)) : Nat)) (ordL xs n k) = (freeAt E (loA xs (ordL xs n k)) : Nat) := by
      rw [iA_set _ _ _ _ (by rw [ih.len]; exact hon), if_pos rfl]
    have hTl : (T.set (ordL xs n k) (freeAt E (loA xs (ordL xs n k)) : Nat)).length = n := by simp [ih.len]
    have hE := layEnds_length E (loA xs (ordL xs n k)) (hiA xs (ordL xs n k))
    have hEt := layEnds_at E (loA xs (ordL xs n k)) (hiA xs (ordL xs n k))
    have hEo : ∀ s, s ≠ freeAt E (loA xs (ordL xs n k)) → s < E.length → iA (layEnds E (loA xs (ordL xs n k)) (hiA xs (ordL xs n k))) s = iA E s := fun s h1 h2 => layEnds_other h1 h2
    have hfl := freeAt_le E (loA xs (ordL xs n k))
    have hfa := freeAt_at (E := E) (lo := loA xs (ordL xs n k))
    have hfb : ∀ s, s < freeAt E (loA xs (ordL xs n k)) → loA xs (ordL xs n k) < iA E s := fun s h => freeAt_before h
    generalize layEnds E (loA xs (ordL xs n k)) (hiA xs (ordL xs n k)) = E' at *
    generalize T.set (ordL xs n k) (freeAt E (loA xs (ordL xs n k)) : Nat) = T' at *
    generalize freeAt E (loA xs (ordL xs n k)) = t at *
    have hlt : t < E'.length := by rw [hE]; split <;> omega
    refine ⟨hTl, ?_, fun j hj => ?_, fun s hs => ?_, fun j j' hj hj' he => ?_, ?_⟩
    · have := ih.small
      rw [hE]
      split <;> omega
    · rcases Nat.lt_or_ge j k with h | h
      · obtain ⟨s, h1, h2, h3⟩ := ih.own j h
        refine ⟨s, by rw [hE]; split <;> omega, by rw [hT j h]; exact h2, ?_⟩
        by_cases hs : s = t
        · subst hs
          rw [hEt]
          have := hfa h1
          omega
        · rw [hEo s hs h1]
          exact h3
      · obtain rfl : j = k := by omega
        exact ⟨t, hlt, hTk, by rw [hEt]; exact Int.le_refl _⟩
    · by_cases h : s = t
      · subst h
        exact ⟨k, by omega, hTk, hEt.symm⟩
      · have hs2 : s < E.length := by
          rw [hE] at hs
          split at hs <;> omega
        obtain ⟨j, h1, h2, h3⟩ := ih.last s hs2
        exact ⟨j, by omega, by rw [hT j h1]; exact h2, by rw [hEo s h hs2]; exact h3⟩
    · rw [hT j (by omega)] at he
      rcases Nat.lt_or_ge j' k with h | h
      · rw [hT j' h] at he
        exact ih.apart j j' hj h he
      · obtain rfl : j' = k := by omega
        rw [hTk] at he
        obtain ⟨s, h1, h2, h3⟩ := ih.own j hj
        have h4 : s = t := by omega
        subst h4
        have := hfa h1
        omega
    · rw [hE]
      by_cases h : t < E.length
      · rw [if_pos h]
        exact ih.deep
      · rw [if_neg h]
        have htE : t = E.length := by omega
        refine ⟨loA xs (ordL xs n k), ?_⟩
        have hj : ∀ s, ∃ j, s < E.length → j < k ∧ iA T (ordL xs n j) = (s : Int) ∧ hiA xs (ordL xs n j) = iA E s := fun s => by
          by_cases hs : s < E.length
          · obtain ⟨j, h1⟩ := ih.last s hs
            exact ⟨j, fun _ => h1⟩
          · exact ⟨0, fun h => absurd h hs⟩
        obtain ⟨f, hf⟩ := Classical.axiomOfChoice hj
        refine conTo_ge (fun s => if s < E.length then ordL xs n (f s) else ordL xs n k) (fun a ha => ?_) (fun a b ha hb he => ?_)
        · show (if a < E.length then ordL xs n (f a) else ordL xs n k) < n ∧ hasB (loA xs (if a < E.length then ordL xs n (f a) else ordL xs n k)) (hiA xs (if a < E.length then ordL xs n (f a) else ordL xs n k)) _ = true
          split
          · rename_i h1
            obtain ⟨h2, h3, h4⟩ := hf a h1
            have h5 := hsort _ h2
            have h6 := hfb a (by omega)
            exact ⟨ordL_lt xs (by omega), decide_eq_true ⟨h5, by omega⟩⟩
          · exact ⟨hon, decide_eq_true ⟨Int.le_refl _, hv.2.1⟩⟩
        · have he : (if a < E.length then ordL xs n (f a) else ordL xs n k) = (if b < E.length then ordL xs n (f b) else ordL xs n k) := he
          split at he
          · rename_i h1
            obtain ⟨h2, h3, h4⟩ := hf a h1
            split at he
            · rename_i h5
              obtain ⟨h6, h7, h8⟩ := hf b h5
              rw [he] at h3
              omega
            · exact absurd he (hne _ h2)
          · split at he
            · rename_i h5
              exact absurd he.symm (hne _ (hf b h5).1)
            · omega

/-- the spec's test of a tray -/
theorem lay_taken {xs : List Sp} {n k : Nat} {E T : List Int} (h : LayI xs n k E T) (hok : okTo xs n) (hk : k < n) {t : Nat} (ht : t < freeAt E (loA xs (ordL xs n k))) :
    ∃ j, j < k ∧ iA T (ordL xs n j) = (t : Int) ∧ loA xs (ordL xs n j) < hiA xs (ordL xs n k) ∧ loA xs (ordL xs n k) < hiA xs (ordL xs n j) := by
  have h1 : t < E.length := Nat.lt_of_lt_of_le ht (freeAt_le E _)
  obtain ⟨j, h2, h3, h4⟩ := h.last t h1
  have h5 := freeAt_before ht
  have h6 := ordL_asc xs h2 hk
  have h7 := okB_true (hok _ (ordL_lt xs hk))
  exact ⟨j, h2, h3, by omega, by omega⟩
theorem lay_free {xs : List Sp} {n k : Nat} {E T : List Int} (h : LayI xs n k E T) {j : Nat} (hj : j < k) (hT : iA T (ordL xs n j) = (freeAt E (loA xs (ordL xs n k)) : Nat)) :
    ¬ loA xs (ordL xs n k) < hiA xs (ordL xs n j) := by
  obtain ⟨t, h1, h2, h3⟩ := h.own j hj
  have h4 : t = freeAt E (loA xs (ordL xs n k)) := by omega
  subst h4
  have := freeAt_at h1
  omega

/-- the greatest number of spans with one number, and the first such number, over the spans in S -/
def DeepI (xs : List Sp) (n : Nat) (S : Nat → Prop) (st : Nat × Int) : Prop :=
  ((∀ i, ¬ S i) ∧ st = (0, 0)) ∨ ((∃ i, S i ∧ i < n ∧ loA xs i = st.2 ∧ conTo xs st.2 n = st.1) ∧ 0 < st.1 ∧ ∀ i, S i → conTo xs (loA xs i) n ≤ st.1 ∧ (conTo xs (loA xs i) n = st.1 → st.2 ≤ loA xs i))
theorem DeepI.unique {xs : List Sp} {n : Nat} {S : Nat → Prop} {st st' : Nat × Int} (h : DeepI xs n S st) (g : DeepI xs n S st') : st = st' := by
  rcases h with ⟨h1, h2⟩ | ⟨⟨i, h1, h2, h3, h4⟩, h5, h6⟩
  · rcases g with ⟨_, g2⟩ | ⟨⟨i, g1, _⟩, _⟩
    · rw [h2, g2]
    · exact absurd g1 (h1 i)
  · rcases g with ⟨g1, _⟩ | ⟨⟨k, g1, g2, g3, g4⟩, g5, g6⟩
    · exact absurd h1 (g1 i)
    · have a1 := h6 k g1
      have a2 := g6 i h1
      rw [g3, g4] at a1
      rw [h3, h4] at a2
      have e1 : st.1 = st'.1 := by omega
      have e2 : st.2 = st'.2 := by
        have := a1.2 e1.symm
        have := a2.2 e1
        omega
      exact Prod.ext e1 e2
theorem DeepI.congr {xs : List Sp} {n : Nat} {S S' : Nat → Prop} {st : Nat × Int} (h : DeepI xs n S st) (hs : ∀ i, S i ↔ S' i) : DeepI xs n S' st := by
  have : S = S' := funext fun i => propext (hs i)
  rwa [← this]
noncomputable def depStep (xs : List Sp) (n : Nat) (st : Nat × Int) (o : Nat) : Nat × Int := if st.1 < conTo xs (loA xs o) n then (conTo xs (loA xs o) n, loA xs o) else st
noncomputable def depTo (xs : List Sp) {n : Nat} (pre : List (Fin n)) : Nat × Int := pre.foldl (fun st x => depStep xs n st (ordL xs n x.1)) (0, 0)
theorem depTo_snoc (xs : List Sp) {n : Nat} (pre : List (Fin n)) (x : Fin n) : depTo xs (pre ++ [x]) = depStep xs n (depTo xs pre) (ordL xs n x.1) := by
  simp [depTo]
theorem conTo_own {xs : List Sp} {n i : Nat} (hok : okTo xs n) (h : i < n) : 0 < conTo xs (loA xs i) n := by
  have := conTo_lt (xs := xs) (x := loA xs i) h (decide_eq_true ⟨Int.le_refl _, (okB_true (hok i h)).2.1⟩)
  omega
theorem dep_facts {xs : List Sp} {n : Nat} (hok : okTo xs n) : ∀ k, k ≤ n → DeepI xs n (fun i => ∃ j, j < k ∧ ordL xs n j = i) (depTo xs (ups n k))
  | 0, _ => by
    rw [ups_zero]
    exact .inl ⟨fun i ⟨j, h, _⟩ => by omega, rfl⟩
  | k + 1, hk => by
    have ih := dep_facts hok k (by omega)
    have hon : ordL xs n k < n := ordL_lt xs (by omega)
    rw [ups_succ (show k < n by omega), depTo_snoc]
    show DeepI xs n _ (depStep xs n (depTo xs (ups n k)) (ordL xs n k))
    have hsort : ∀ j, j < k → loA xs (ordL xs n j) ≤ loA xs (ordL xs n k) := fun j hj => ordL_asc xs hj (by omega)
    have hpos := conTo_own hok hon
    generalize (depTo xs (ups n k)) = st at ih ⊢
    unfold depStep
    have hcase : ∀ i, (∃ j, j < k + 1 ∧ ordL xs n j = i) → (∃ j, j < k ∧ ordL xs n j = i) ∨ i = ordL xs n k := fun i ⟨j, h1, h2⟩ => by
      rcases Nat.lt_or_ge j k with h | h
      · exact .inl ⟨j, h, h2⟩
      · obtain rfl : j = k := by omega
        exact .inr h2.symm
    split
    · rename_i hlt
      refine .inr ⟨⟨_, ⟨k, by omega, rfl⟩, hon, rfl, rfl⟩, hpos, fun i hi => ?_⟩
      show conTo xs (loA xs i) n ≤ conTo xs (loA xs (ordL xs n k)) n ∧ (_ → loA xs (ordL xs n k) ≤ loA xs i)
      rcases hcase i hi with h | rfl
      · rcases ih with ⟨h1, _⟩ | ⟨_, _, h6⟩
        · exact absurd h (h1 i)
        · have := (h6 i h).1
          exact ⟨by omega, fun e => by omega⟩
      · exact ⟨Nat.le_refl _, fun _ => Int.le_refl _⟩
    · rename_i hge
      rcases ih with ⟨h1, rfl⟩ | ⟨⟨i, h1, h2, h3, h4⟩, h5, h6⟩
      · exact absurd hpos (by simpa using hge)
      · refine .inr ⟨⟨i, (by obtain ⟨j, a1, a2⟩ := h1; exact ⟨j, by omega, a2⟩), h2, h3, h4⟩, h5, fun i' hi' => ?_⟩
        rcases hcase i' hi' with h | rfl
        · exact h6 i' h
        · refine ⟨by omega, fun _ => ?_⟩
          obtain ⟨j, a1, a2⟩ := h1
          rw [← h3, ← a2]
          exact hsort j a1

/-- the specification's way: in the order of the list -/
noncomputable def depStepS (xs : List Sp) (n : Nat) (st : Nat × Int) (i : Nat) : Nat × Int := if st.1 < conTo xs (loA xs i) n ∨ (conTo xs (loA xs i) n = st.1 ∧ loA xs i < st.2) then (conTo xs (loA xs i) n, loA xs i) else st
noncomputable def depToS (xs : List Sp) (n : Nat) : Nat → Nat × Int
  | 0 => (0, 0)
  | k + 1 => depStepS xs n (depToS xs n k) k
theorem depS_facts {xs : List Sp} {n : Nat} (hok : okTo xs n) : ∀ k, k ≤ n → DeepI xs n (fun i => i < k) (depToS xs n k)
  | 0, _ => .inl ⟨fun i h => by omega, rfl⟩
  | k + 1, hk => by
    have ih := depS_facts hok k (by omega)
    have hpos := conTo_own hok (show k < n by omega)
    show DeepI xs n _ (depStepS xs n (depToS xs n k) k)
    generalize depToS xs n k = st at ih ⊢
    unfold depStepS
    split
    · rename_i hlt
      refine .inr ⟨⟨k, by omega, by omega, rfl, rfl⟩, hpos, fun i hi => ?_⟩
      show conTo xs (loA xs i) n ≤ conTo xs (loA xs k) n ∧ (_ → loA xs k ≤ loA xs i)
      rcases Nat.lt_or_ge i k with h | h
      · rcases ih with ⟨h1, _⟩ | ⟨_, _, h6⟩
        · exact absurd h (h1 i)
        · have h7 := h6 i h
          rcases hlt with h8 | ⟨h8, h9⟩
          · exact ⟨by omega, fun e => by omega⟩
          · exact ⟨by omega, fun e => by have := h7.2 (by omega); omega⟩
      · obtain rfl : i = k := by omega
        exact ⟨Nat.le_refl _, fun _ => Int.le_refl _⟩
    · rename_i hge
      rcases ih with ⟨h1, rfl⟩ | ⟨⟨i, h1, h2, h3, h4⟩, h5, h6⟩
      · exact absurd (Or.inl hpos) hge
      · refine .inr ⟨⟨i, by omega, h2, h3, h4⟩, h5, fun i' hi' => ?_⟩
        rcases Nat.lt_or_ge i' k with h | h
        · exact h6 i' h
        · obtain rfl : i' = k := by omega
          rw [not_or] at hge
          exact ⟨by omega, fun e => by
            rcases Int.lt_or_le (loA xs i') st.2 with h8 | h8
            · exact absurd ⟨e, h8⟩ hge.2
            · exact h8⟩
theorem dep_same {xs : List Sp} {n : Nat} (hok : okTo xs n) : depToS xs n n = depTo xs (ups n n) :=
  (depS_facts hok n (Nat.le_refl _)).unique ((dep_facts hok n (Nat.le_refl _)).congr fun _ => ⟨fun ⟨_, h1, h2⟩ => h2 ▸ ordL_lt xs h1, fun h => ordL_onto xs h⟩)

/-- no number has more spans than the greatest number at lower ends -/
theorem con_max {xs : List Sp} {n : Nat} {st : Nat × Int} (h : DeepI xs n (fun i => i < n) st) (x : Int) : conTo xs x n ≤ st.1 ∧ (conTo xs x n < st.1 ∨ st.2 ≤ x ∨ st.1 = 0) := by
  rcases Nat.eq_zero_or_pos (conTo xs x n) with h0 | h0
  · rw [h0]
    exact ⟨by omega, by omega⟩
  · have key : ∃ i, i < n ∧ loA xs i ≤ x ∧ conTo xs x n ≤ conTo xs (loA xs i) n := by
      have : ∀ k, k ≤ n → conTo xs x k = 0 ∨ ∃ i, i < k ∧ hasB (loA xs i) (hiA xs i) x = true ∧ ∀ j, j < k → hasB (loA xs j) (hiA xs j) x = true → loA xs j ≤ loA xs i := by
        intro k
        induction k with
        | zero => exact fun _ => .inl rfl
        | succ k ih =>
          intro hk
          by_cases hb : hasB (loA xs k) (hiA xs k) x = true
          · rcases ih (by omega) with h1 | ⟨i, h1, h2, h3⟩
            · refine .inr ⟨k, by omega, hb, fun j hj hj2 => ?_⟩
              rcases Nat.lt_or_ge j k with h | h
              · have := conTo_lt h hj2
                omega
              · obtain rfl : j = k := by omega
                exact Int.le_refl _
            · by_cases hm : loA xs i ≤ loA xs k
              · refine .inr ⟨k, by omega, hb, fun j hj hj2 => ?_⟩
                rcases Nat.lt_or_ge j k with h | h
                · have := h3 j h hj2
                  omega
                · obtain rfl : j = k := by omega
                  exact Int.le_refl _
              · refine .inr ⟨i, by omega, h2, fun j hj hj2 => ?_⟩
                rcases Nat.lt_or_ge j k with h | h
                · exact h3 j h hj2
                · obtain rfl : j = k := by omega
                  omega
          · rw [conTo_succ, if_neg hb]
            rcases ih (by omega) with h1 | ⟨i, h1, h2, h3⟩
            · exact .inl h1
            · refine .inr ⟨i, by omega, h2, fun j hj hj2 => ?_⟩
              rcases Nat.lt_or_ge j k with h | h
              · exact h3 j h hj2
              · obtain rfl : j = k := by omega
                exact absurd hj2 hb
      rcases this n (Nat.le_refl _) with h1 | ⟨i, h1, h2, h3⟩
      · omega
      · have h4 := of_decide_eq_true h2
        refine ⟨i, h1, h4.1, ?_⟩
        obtain ⟨e, e1, e2⟩ := conTo_enum xs x n
        refine conTo_ge e (fun a ha => ⟨(e1 a ha).1, ?_⟩) e2
        have h5 := of_decide_eq_true (e1 a ha).2
        exact decide_eq_true ⟨h3 _ (e1 a ha).1 (e1 a ha).2, by omega⟩
    obtain ⟨i, h1, h2, h3⟩ := key
    rcases h with ⟨h4, _⟩ | ⟨_, h5, h6⟩
    · exact absurd h1 (h4 i)
    · have := h6 i h1
      refine ⟨by omega, ?_⟩
      rcases Nat.lt_or_ge (conTo xs x n) st.1 with h7 | h7
      · exact .inl h7
      · have := this.2 (by omega)
        exact .inr (.inl (by omega))

/-- what the law on trays asks -/
structure LaidF (xs : List Sp) (n used : Nat) (T : List Int) (st : Nat × Int) : Prop where
  cnt : used = st.1
  tray : ∀ i, i < n → ∃ t : Nat, t < used ∧ iA T i = (t : Int)
  apart : ∀ i k, i < n → k < n → i ≠ k → iA T i = iA T k → ¬ (loA xs i < hiA xs k ∧ loA xs k < hiA xs i)
  here : conTo xs st.2 n = st.1
  there : ∀ x, conTo xs x n ≤ st.1 ∧ (conTo xs x n < st.1 ∨ st.2 ≤ x ∨ st.1 = 0)
theorem laid_facts {xs : List Sp} {n : Nat} (hok : okTo xs n) : LaidF xs n (layTo xs (ups n n)).1.length (layTo xs (ups n n)).2 (depTo xs (ups n n)) := by
  have h := lay_facts hok n (Nat.le_refl _)
  have g := (dep_facts hok n (Nat.le_refl _)).congr (S' := fun i => i < n) fun i => ⟨fun ⟨j, h1, h2⟩ => h2 ▸ ordL_lt xs h1, fun h => ordL_onto xs h⟩
  generalize depTo xs (ups n n) = st at g ⊢
  generalize layTo xs (ups n n) = ly at h ⊢
  obtain ⟨E, T⟩ := ly
  have h : LayI xs n n E T := h
  show LaidF xs n E.length T st
  have hown : ∀ i, i < n → ∃ t : Nat, t < E.length ∧ iA T i = (t : Int) := fun i hi => by
    obtain ⟨j, h1, rfl⟩ := ordL_onto xs hi
    obtain ⟨t, h2, h3, _⟩ := h.own j h1
    exact ⟨t, h2, h3⟩
  have hap : ∀ i k, i < n → k < n → i ≠ k → iA T i = iA T k → ¬ (loA xs i < hiA xs k ∧ loA xs k < hiA xs i) := fun i k hi hk hne he ⟨h1, h2⟩ => by
    obtain ⟨a, a1, rfl⟩ := ordL_onto xs hi
    obtain ⟨b, b1, rfl⟩ := ordL_onto xs hk
    rcases Nat.lt_trichotomy a b with h3 | h3 | h3
    · have := h.apart a b h3 b1 he
      omega
    · exact hne (by rw [h3])
    · have := h.apart b a h3 a1 he.symm
      omega
  have hhere : conTo xs st.2 n = st.1 := by
    rcases g with ⟨h1, h2⟩ | ⟨⟨i, _, _, h3, h4⟩, _⟩
    · have h0 : n = 0 := by
        rcases Nat.eq_zero_or_pos n with h | h
        · exact h
        · exact absurd h (h1 0)
      rw [h2, h0]
      rfl
    · exact h4
  refine ⟨?_, hown, hap, hhere, fun x => con_max g x⟩
  have h1 : E.length ≤ st.1 := by
    obtain ⟨x, hx⟩ := h.deep
    have := (con_max g x).1
    omega
  have h2 : conTo xs st.2 n ≤ E.length := by
    refine conTo_few (fun i => (iA T i).toNat) (fun i hi hb => ?_) fun i k hi hk hb hb' he => ?_
    · obtain ⟨t, a1, a2⟩ := hown i hi
      show (iA T i).toNat < _
      omega
    · have he : (iA T i).toNat = (iA T k).toNat := he
      obtain ⟨t, a1, a2⟩ := hown i hi
      obtain ⟨s, b1, b2⟩ := hown k hk
      have c1 := of_decide_eq_true hb
      have c2 := of_decide_eq_true hb'
      rcases Nat.decEq i k with hne | hne
      · exact absurd ⟨by omega, by omega⟩ (hap i k hi hk hne (by omega))
      · exact hne
  omega

end Go.Proofs.Ytikfiofjhmeheaa
