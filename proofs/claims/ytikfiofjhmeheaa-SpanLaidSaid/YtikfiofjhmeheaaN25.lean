/- Plain facts: the points of stab meet every span, ascend, and stand for spans that are apart; no fewer numbers meet every span. -/
import Derived.Test.YtikfiofjhmeheaaN24
namespace Go.Proofs.Ytikfiofjhmeheaa

theorem iA_old {P : List Int} {y : Int} {a : Nat} (h : a < P.length) : iA (P ++ [y]) a = iA P a := by
  unfold iA
  simp [List.getD_eq_getElem?_getD, List.getElem?_append_left h]
theorem iA_new (P : List Int) (y : Int) : iA (P ++ [y]) P.length = y := by
  unfold iA
  simp [List.getD_eq_getElem?_getD]

/-- what stands behind k spans -/
structure StI (xs : List Sp) (n k : Nat) (P O : List Int) : Prop where
  len : O.length = P.length
  met : ∀ j, j < k → anyIn (loA xs (ordH xs n j)) (hiA xs (ordH xs n j)) P = true
  own : ∀ a, a < P.length → ∃ j, j < k ∧ iA O a = (ordH xs n j : Int) ∧ iA P a = hiA xs (ordH xs n j) - 1
  apart : ∀ a b (o : Nat), a < b → b < P.length → iA O b = (o : Int) → iA P a < loA xs o

theorem stab_facts {xs : List Sp} {n : Nat} (hok : okTo xs n) : ∀ k, k ≤ n → StI xs n k (stabTo xs (ups n k)).1 (stabTo xs (ups n k)).2
  | 0, _ => by
    rw [ups_zero]
    exact ⟨rfl, fun j h => by omega, fun a h => by simp [stabTo] at h, fun a b o h1 h2 => by simp [stabTo] at h2⟩
  | k + 1, hk => by
    have ih := stab_facts hok k (by omega)
    have ho := ordF_ord (keyA (fun _ b => b) xs) n
    have hon : ordH xs n k < n := ho.lt (show k < n by omega)
    have hv := okB_true (hok _ hon)
    rw [ups_succ (show k < n by omega), stabTo_snoc]
    show StI xs n (k + 1) (stabStep xs (stabTo xs (ups n k)) (ordH xs n k)).1 (stabStep xs (stabTo xs (ups n k)) (ordH xs n k)).2
    have hsort : ∀ j, j < k → hiA xs (ordH xs n j) ≤ hiA xs (ordH xs n k) := fun j hj => by
      have := ho.2 j k (Nat.zero_le _) hj (by omega)
      unfold lexL at this
      rw [show ∀ i, keyA (fun _ b => b) xs i = hiA xs i from fun _ => rfl, show ∀ i, keyA (fun _ b => b) xs i = hiA xs i from fun _ => rfl] at this
      unfold ordH
      omega
    generalize (stabTo xs (ups n k)) = st at ih ⊢
    obtain ⟨P, O⟩ := st
    have ih : StI xs n k P O := ih
    unfold stabStep
    by_cases han : anyIn (loA xs (ordH xs n k)) (hiA xs (ordH xs n k)) P = true
    · rw [if_pos han]
      refine ⟨ih.len, fun j hj => ?_, fun a ha => ?_, ih.apart⟩
      · rcases Nat.lt_or_ge j k with h | h
        · exact ih.met j h
        · obtain rfl : j = k := by omega
          exact han
      · obtain ⟨j, h1, h2⟩ := ih.own a ha
        exact ⟨j, by omega, h2⟩
    · rw [if_neg han]
      have hno : ∀ a, a < P.length → iA P a < loA xs (ordH xs n k) := fun a ha => by
        obtain ⟨j, h1, h2, h3⟩ := ih.own a ha
        have h4 := hsort j h1
        rcases Int.lt_or_le (iA P a) (loA xs (ordH xs n k)) with h | h
        · exact h
        · exact absurd (anyIn_true ha (decide_eq_true ⟨h, by omega⟩)) han
      refine ⟨by simp [ih.len], fun j hj => ?_, fun a ha => ?_, fun a b o hab hb he => ?_⟩
      · show List.any (P ++ [_]) _ = true
        rw [List.any_append, Bool.or_eq_true]
        rcases Nat.lt_or_ge j k with h | h
        · exact .inl (ih.met j h)
        · obtain rfl : j = k := by omega
          refine .inr ?_
          simp only [List.any_cons, List.any_nil, Bool.or_false]
          exact decide_eq_true ⟨by omega, by omega⟩
      · simp only [List.length_append, List.length_cons, List.length_nil] at ha
        rcases Nat.lt_or_ge a P.length with h | h
        · obtain ⟨j, h1, h2, h3⟩ := ih.own a h
          exact ⟨j, by omega, by show iA (O ++ [_]) a = _; rw [iA_old (by rw [ih.len]; exact h)]; exact h2, by show iA (P ++ [_]) a = _; rw [iA_old h]; exact h3⟩
        · obtain rfl : a = P.length := by omega
          exact ⟨k, by omega, by show iA (O ++ [_]) _ = _; rw [← ih.len]; exact iA_new _ _, iA_new _ _⟩
      · simp only [List.length_append, List.length_cons, List.length_nil] at hb
        have ha : a < P.length := by omega
        show iA (P ++ [_]) a < _
        rw [iA_old ha]
        have he : iA (O ++ [(ordH xs n k : Int)]) b = (o : Int) := he
        rcases Nat.lt_or_ge b P.length with h | h
        · rw [iA_old (by rw [ih.len]; exact h)] at he
          exact ih.apart a b o hab h he
        · obtain rfl : b = P.length := by omega
          rw [← ih.len, iA_new] at he
          have : ordH xs n k = o := by omega
          rw [← this]
          exact hno a ha

theorem pigeon : ∀ (m N : Nat) (f : Nat → Nat), (∀ a, a < N → f a < m) → (∀ a b, a < N → b < N → f a = f b → a = b) → N ≤ m
  | 0, N, f, h1, _ => by
    rcases Nat.eq_zero_or_pos N with h | h
    · omega
    · have := h1 0 h
      omega
  | m + 1, 0, _, _, _ => by omega
  | m + 1, N + 1, f, h1, h2 => by
    have := pigeon m N (fun a => if f a = m then f N else f a) (fun a ha => by
      show (if f a = m then f N else f a) < m
      split
      · rename_i h
        have h3 := h1 N (by omega)
        have h4 : f N ≠ m := fun e => by have := h2 a N (by omega) (by omega) (by omega); omega
        omega
      · have := h1 a (by omega)
        omega) (fun a b ha hb he => by
      have he : (if f a = m then f N else f a) = (if f b = m then f N else f b) := he
      split at he
      · split at he
        · exact h2 a b (by omega) (by omega) (by omega)
        · have := h2 N b (by omega) (by omega) he
          omega
      · split at he
        · have := h2 a N (by omega) (by omega) he
          omega
        · exact h2 a b (by omega) (by omega) he)
    omega

/-- what the law on points asks -/
structure MetF (xs : List Sp) (n : Nat) (P O : List Int) : Prop where
  len : O.length = P.length
  met : meetsB xs n P P.length = true
  own : ∀ a, a < P.length → ∃ o : Nat, o < n ∧ iA O a = (o : Int)
  asc : ∀ a b, a < b → b < P.length → iA P a < iA P b
  dis : ∀ a b (o o' : Nat), a < b → b < P.length → iA O a = (o : Int) → iA O b = (o' : Int) → hiA xs o ≤ loA xs o'
  few : ∀ ys m, meetsB xs n ys m = true → P.length ≤ m

theorem met_facts {xs : List Sp} (h : checkE xs = 0) : MetF xs xs.length (stabP xs) (stabO xs) := by
  have hok : okTo xs xs.length := by
    unfold checkE at h
    split at h
    · omega
    · split at h
      · assumption
      · omega
  have hf := stab_facts hok xs.length (Nat.le_refl _)
  unfold stabP stabO
  rw [if_pos h, if_pos h]
  generalize stabTo xs (ups xs.length xs.length) = st at hf ⊢
  obtain ⟨P, O⟩ := st
  have hf : StI xs xs.length xs.length P O := hf
  show MetF xs xs.length P O
  have ho := ordF_ord (keyA (fun _ b => b) xs) xs.length
  have hown : ∀ a, a < P.length → ∃ o : Nat, o < xs.length ∧ iA O a = (o : Int) ∧ iA P a = hiA xs o - 1 := fun a ha => by
    obtain ⟨j, h1, h2, h3⟩ := hf.own a ha
    exact ⟨_, ho.lt h1, h2, h3⟩
  have hdis : ∀ a b (o o' : Nat), a < b → b < P.length → iA O a = (o : Int) → iA O b = (o' : Int) → hiA xs o ≤ loA xs o' := fun a b o o' hab hb h1 h2 => by
    obtain ⟨u, _, h4, h5⟩ := hown a (by omega)
    have h6 := hf.apart a b o' hab hb h2
    have : u = o := by omega
    subst this
    omega
  refine ⟨hf.len, ?_, fun a ha => ?_, fun a b hab hb => ?_, hdis, fun ys m hm => ?_⟩
  · refine decide_eq_true fun i hi => ?_
    obtain ⟨j, hj, he⟩ := onto xs.length (ordF (keyA (fun _ b => b) xs) xs.length) (fun k hk => ho.lt hk) (fun k k' hk hk' e => ho.inj hk hk' e) i hi
    have hm := hf.met j hj
    unfold ordH at hm
    rw [he] at hm
    obtain ⟨y, hy, hh⟩ := List.any_eq_true.1 hm
    obtain ⟨q, hq, rfl⟩ := List.mem_iff_getElem.1 hy
    refine (anyTo_iff _ _ _ _).2 ⟨q, hq, ?_⟩
    unfold iA
    rw [List.getD_eq_getElem?_getD, List.getElem?_eq_getElem hq]
    exact hh
  · obtain ⟨o, h1, h2, _⟩ := hown a ha
    exact ⟨o, h1, h2⟩
  · obtain ⟨o, h1, h2, h3⟩ := hown b hb
    have h4 := hf.apart a b o hab hb h2
    have h5 := okB_true (hok o h1)
    omega
  · have hm' : ∀ i, i < xs.length → anyTo (loA xs i) (hiA xs i) ys m = true := of_decide_eq_true hm
    have hex : ∀ a, ∃ j, a < P.length → j < m ∧ ∃ o : Nat, iA O a = (o : Int) ∧ hasB (loA xs o) (hiA xs o) (iA ys j) = true := fun a => by
      by_cases ha : a < P.length
      · obtain ⟨o, h1, h2, _⟩ := hown a ha
        obtain ⟨j, h3, h4⟩ := (anyTo_iff _ _ _ _).1 (hm' o h1)
        exact ⟨j, fun _ => ⟨h3, o, h2, h4⟩⟩
      · exact ⟨0, fun h => absurd h ha⟩
    obtain ⟨f, hff⟩ := Classical.axiomOfChoice hex
    refine pigeon m P.length f (fun a ha => (hff a ha).1) ?_
    have key : ∀ a b, a < b → b < P.length → f a ≠ f b := fun a b hab hb he => by
      obtain ⟨_, o, h1, h2⟩ := hff a (by omega)
      obtain ⟨_, o', h3, h4⟩ := hff b hb
      have h5 := hdis a b o o' hab hb h1 h3
      rw [he] at h2
      have h6 := of_decide_eq_true h2
      have h7 := of_decide_eq_true h4
      omega
    intro a b ha hb he
    rcases Nat.lt_trichotomy a b with h | h | h
    · exact absurd he (key a b h hb)
    · exact h
    · exact absurd he.symm (key b a h ha)

end Go.Proofs.Ytikfiofjhmeheaa
