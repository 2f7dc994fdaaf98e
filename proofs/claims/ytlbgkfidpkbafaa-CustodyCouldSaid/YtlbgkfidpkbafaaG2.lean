/- What an act makes of a book; how often a grant was used. -/
import Derived.Test.YtlbgkfidpkbafaaG1
namespace Go.Proofs.Ytlbgkfidpkbafaa
open Go.RowKit
set_option linter.unusedSimpArgs false
set_option linter.unusedVariables false
inductive Turned (s : St) : St → Prop where
  | same : Turned s s
  | more (ab ro h v r u us : Int) (hn : s.n < 128) (hv : validG h v r u us = true) : Turned s ⟨s.d, s.n + 1, s.xs ++ [(s.n : Int) + 1, ab, ro, h, v, r, u, us, 0], s.m, s.es⟩
  | rev (k : Nat) (hk : k < s.n) : Turned s ⟨s.d, s.n, revX s.xs k, s.m, s.es⟩
  | day (d : Int) (hd : s.d ≤ d) : Turned s ⟨d, s.n, s.xs, s.m, s.es⟩
  | opn (a f t : Int) (f1 : 1 ≤ f) (f2 : f ≤ (s.n : Int)) (t1 : 1 ≤ t) (t2 : t ≤ (s.n : Int)) (sf : standsB s.d s.xs (f - 1).toNat = true) (st : standsB s.d s.xs (t - 1).toNat = true) (hr : fG s.xs (f - 1).toNat 2 ≠ fG s.xs (t - 1).toNat 2) (zf : spentB s.xs (f - 1).toNat = false) (zt : spentB s.xs (t - 1).toNat = false) :
    Turned s ⟨s.d, s.n, useG (useG s.xs (f - 1).toNat) (t - 1).toNat, s.m + 1, s.es ++ [s.d, a, f, t]⟩
theorem grant_turned (s : St) (h v r u us : Int) : Turned s (grantS s h v r u us).1 := by
  unfold grantS
  split
  · exact .same
  rename_i h0
  split
  · exact .same
  · exact .more 0 _ h v r u us (by omega) (by simpa using h0)
theorem pass_turned (s : St) (no b h v r u us : Int) : Turned s (passS s no b h v r u us).1 := by
  unfold passS
  split
  · exact .same
  split
  · exact .same
  rename_i h1
  split
  · exact .same
  split
  · exact .same
  · have h1 : (validG h v r u us && isPer b) = true := by simpa using h1
    rw [Bool.and_eq_true] at h1
    exact .more _ _ h v r u us (by omega) h1.1
theorem revoke_turned (s : St) (no b : Int) : Turned s (revokeS s no b).1 := by
  unfold revokeS
  split
  · exact .same
  rename_i h0
  split
  · exact .same
  · obtain ⟨k, rfl, hk⟩ := inB_k (by simpa using h0 : inB s no = true)
    rw [succ_k]
    exact .rev k hk
theorem next_turned (s : St) (e : Int) : Turned s (nextS s e).1 := by
  unfold nextS
  split
  · rename_i h
    unfold nextE at h
    refine .day e ?_
    split at h
    · cases h
    · split at h
      · cases h
      · omega
  · exact .day s.d (Int.le_refl _)
theorem open_turned (s : St) (a f fb t tb : Int) : Turned s (openS s a f fb t tb).1 := by
  unfold openS
  split
  · exact .same
  · rename_i h
    obtain ⟨_, h1, h2, _, h4, h5⟩ := openE_0 (by simpa using h)
    obtain ⟨⟨f1, f2⟩, kf, f3⟩ := keyE_in h1
    obtain ⟨⟨t1, t2⟩, kt, t3⟩ := keyE_in h2
    simp only [keyC, Bool.and_eq_true, beq_iff_eq] at kf kt
    exact .opn a f t f1 f2 t1 t2 kf.1.1.2 kt.1.1.2 h4 f3 t3
theorem act_turned (s : St) (a : Ac) : Turned s (actS s a).1 := by
  unfold actS
  split
  · exact grant_turned s _ _ _ _ _
  split
  · exact pass_turned s _ _ _ _ _ _ _
  split
  · exact revoke_turned s _ _
  split
  · exact next_turned s _
  · exact open_turned s _ _ _ _ _
/-- lines stay, however the book turns -/
theorem line_apd {n : Nat} {xs ys : List Int} (hw : Wf n xs) (hy : Wf (n + 1) (xs ++ ys)) : ∀ {k : Nat}, k < n → line (xs ++ ys) k = line xs k := by
  intro k
  induction k using Nat.strongRecOn with
  | ind k ih =>
    intro hk
    have h1 := hw.ge k hk
    have h2 := hw.le k hk
    have e : (xs ++ ys).getD (k * 9 + 1) 0 = xs.getD (k * 9 + 1) 0 := app_old hw.len ys hk (by decide)
    by_cases h0 : xs.getD (k * 9 + 1) 0 = 0
    · rw [line_root_eq hw hk h0, line_root_eq hy (by omega) (by rw [e]; exact h0)]
    · rw [line_up hw hk h0, line_up hy (by omega) (by rw [e]; exact h0), e, ih _ (by omega) (by omega)]
theorem turned_line {s s' : St} (hs : Good s) (hs' : Good s') (h : Turned s s') : s.n ≤ s'.n ∧ ∀ k, k < s.n → line s'.xs k = line s.xs k := by
  have hw := hs.rng.wf
  cases h with
  | same => exact ⟨Nat.le_refl _, fun _ _ => rfl⟩
  | more ab ro h v r u us hn hv => exact ⟨Nat.le_succ _, fun k hk => line_apd hw hs'.rng.wf hk⟩
  | rev q hq => exact ⟨Nat.le_refl _, fun k hk => line_congr hw hs'.rng.wf (fun i _ => by show fG (revX s.xs q) i 1 = _; rw [revX_get hw.len hq (by decide), if_neg (fun e => by omega)]) hk⟩
  | day d hd => exact ⟨Nat.le_refl _, fun _ _ => rfl⟩
  | opn a f t f1 f2 t1 t2 sf st hr zf zt => exact ⟨Nat.le_refl _, fun k hk => by
      show line (useG (useG s.xs (f - 1).toNat) (t - 1).toNat) k = _
      rw [useG_line (useG_rng hs.rng (by omega)) (by omega) hk, useG_line hs.rng (by omega) hk]⟩
def inG (xs : List Int) (no : Int) (i : Nat) : Bool := decide (i ∈ line xs (no - 1).toNat)
def one (b : Bool) : Nat := if b = true then 1 else 0
def usedN (xs es : List Int) (i : Nat) : Nat → Nat
  | 0 => 0
  | e + 1 => usedN xs es i e + one (inG xs (es.getD (e * 4 + 2) 0) i) + one (inG xs (es.getD (e * 4 + 3) 0) i)
structure EntI (s : St) : Prop where
  a : ∀ e, e < s.m → 1 ≤ s.es.getD (e * 4 + 2) 0 ∧ s.es.getD (e * 4 + 2) 0 ≤ (s.n : Int)
  b : ∀ e, e < s.m → 1 ≤ s.es.getD (e * 4 + 3) 0 ∧ s.es.getD (e * 4 + 3) 0 ≤ (s.n : Int)
theorem es_old {es : List Int} {m : Nat} (he : m * 4 = es.length) (ys : List Int) {e o : Nat} (h : e < m) (ho : o < 4) : (es ++ ys).getD (e * 4 + o) 0 = es.getD (e * 4 + o) 0 := by
  simp only [List.getD_eq_getElem?_getD]
  rw [List.getElem?_append_left (by omega)]
theorem es_new {es : List Int} {m : Nat} (he : m * 4 = es.length) (ys : List Int) (o : Nat) : (es ++ ys).getD (m * 4 + o) 0 = ys.getD o 0 := by
  simp only [List.getD_eq_getElem?_getD]
  rw [List.getElem?_append_right (by omega)]
  rw [show m * 4 + o - es.length = o by omega]
theorem turned_ent {s s' : St} (hs : Good s) (h : Turned s s') (hi : EntI s) : EntI s' := by
  cases h with
  | same => exact hi
  | more ab ro h v r u us hn hv =>
    refine ⟨fun e he => ?_, fun e he => ?_⟩
    · have := hi.a e he
      show 1 ≤ s.es.getD (e * 4 + 2) 0 ∧ s.es.getD (e * 4 + 2) 0 ≤ ((s.n + 1 : Nat) : Int)
      exact ⟨this.1, by have := this.2; omega⟩
    · have := hi.b e he
      show 1 ≤ s.es.getD (e * 4 + 3) 0 ∧ s.es.getD (e * 4 + 3) 0 ≤ ((s.n + 1 : Nat) : Int)
      exact ⟨this.1, by have := this.2; omega⟩
  | rev q hq => exact ⟨hi.a, hi.b⟩
  | day d hd => exact ⟨hi.a, hi.b⟩
  | opn a f t f1 f2 t1 t2 sf st hr zf zt =>
    have hl := hs.len
    refine ⟨fun e he => ?_, fun e he => ?_⟩
    · show 1 ≤ (s.es ++ _).getD _ 0 ∧ (s.es ++ _).getD _ 0 ≤ (s.n : Int)
      have he : e < s.m + 1 := he
      rcases Nat.lt_succ_iff_lt_or_eq.1 he with h | rfl
      · rw [es_old hl _ h (by decide)]
        exact hi.a e h
      · rw [es_new hl]
        exact ⟨f1, f2⟩
    · show 1 ≤ (s.es ++ _).getD _ 0 ∧ (s.es ++ _).getD _ 0 ≤ (s.n : Int)
      have he : e < s.m + 1 := he
      rcases Nat.lt_succ_iff_lt_or_eq.1 he with h | rfl
      · rw [es_old hl _ h (by decide)]
        exact hi.b e h
      · rw [es_new hl]
        exact ⟨t1, t2⟩
theorem usedN_congr {n m : Nat} {xs ys es fs : List Int} (i : Nat) (hl : ∀ k, k < n → line ys k = line xs k) (ha : ∀ e, e < m → 1 ≤ es.getD (e * 4 + 2) 0 ∧ es.getD (e * 4 + 2) 0 ≤ (n : Int)) (hb : ∀ e, e < m → 1 ≤ es.getD (e * 4 + 3) 0 ∧ es.getD (e * 4 + 3) 0 ≤ (n : Int))
    (hf : ∀ e o, e < m → o < 4 → fs.getD (e * 4 + o) 0 = es.getD (e * 4 + o) 0) : ∀ {c : Nat}, c ≤ m → usedN ys fs i c = usedN xs es i c
  | 0, _ => rfl
  | c + 1, hc => by
    have h1 := ha c hc
    have h2 := hb c hc
    simp only [usedN, inG]
    rw [hf c 2 hc (by decide), hf c 3 hc (by decide), usedN_congr i hl ha hb hf (Nat.le_of_succ_le hc), hl _ (by omega), hl _ (by omega)]
theorem usedN_none {n m : Nat} {xs es : List Int} (hw : Wf n xs) {i : Nat} (hi : n ≤ i) (ha : ∀ e, e < m → 1 ≤ es.getD (e * 4 + 2) 0 ∧ es.getD (e * 4 + 2) 0 ≤ (n : Int)) (hb : ∀ e, e < m → 1 ≤ es.getD (e * 4 + 3) 0 ∧ es.getD (e * 4 + 3) 0 ≤ (n : Int)) : ∀ {c : Nat}, c ≤ m → usedN xs es i c = 0
  | 0, _ => rfl
  | c + 1, hc => by
    have h1 := ha c hc
    have h2 := hb c hc
    have q : ∀ no : Int, 1 ≤ no → no ≤ (n : Int) → inG xs no i = false := fun no g1 g2 => decide_eq_false fun h => by
      have := line_lt hw (k := (no - 1).toNat) (by omega) i h
      omega
    simp only [usedN]
    rw [usedN_none hw hi ha hb (Nat.le_of_succ_le hc), q _ h1.1 h1.2, q _ h2.1 h2.2]
    rfl
structure UsesI (s : St) (mk : List Int) : Prop where
  len : mk.length = s.n
  ent : EntI s
  no : ∀ i, i < s.n → mk.getD i 0 < 0 → fG s.xs i 7 = -1
  yes : ∀ i, i < s.n → 0 ≤ mk.getD i 0 → 0 ≤ fG s.xs i 7 ∧ fG s.xs i 7 = mk.getD i 0 - (usedN s.xs s.es i s.m : Nat)
def moreU (xs : List Int) (n : Nat) : Nat → List Int
  | 0 => []
  | c + 1 => moreU xs n c ++ [fG xs (n + c) 7]
theorem moreU_len (xs : List Int) (n : Nat) : ∀ c, (moreU xs n c).length = c
  | 0 => rfl
  | c + 1 => by simp [moreU, moreU_len xs n c]
theorem moreU_0 (xs : List Int) (n : Nat) (mk : List Int) : mk ++ moreU xs n (n - n) = mk := by
  rw [Nat.sub_self]
  exact List.append_nil _
theorem turned_uses {s s' : St} (hs : Good s) (hs' : Good s') (h : Turned s s') {mk : List Int} (hi : UsesI s mk) : UsesI s' (mk ++ moreU s'.xs s.n (s'.n - s.n)) := by
  have he := turned_ent hs h hi.ent
  have hl := turned_line hs hs' h
  have hw := hs.rng.wf
  cases h with
  | same =>
    rw [moreU_0]
    exact hi
  | more ab ro h v r u us hn hv =>
    have e0 : s.n + 1 - s.n = 1 := by omega
    show UsesI _ (mk ++ moreU _ s.n (s.n + 1 - s.n))
    rw [e0]
    have hx := hw.len
    have e1 : moreU (s.xs ++ [(s.n : Int) + 1, ab, ro, h, v, r, u, us, 0]) s.n 1 = [us] := by
      show [] ++ [fG _ (s.n + 0) 7] = _
      rw [Nat.add_zero, app_new hx]
      rfl
    show UsesI _ (mk ++ moreU (s.xs ++ [(s.n : Int) + 1, ab, ro, h, v, r, u, us, 0]) s.n 1)
    rw [e1]
    obtain ⟨_, _, _, _, b9, b10, b11⟩ := validG_bd hv
    have o : ∀ i, i < s.n → (mk ++ [us]).getD i 0 = mk.getD i 0 := fun i h => by
      simp only [List.getD_eq_getElem?_getD]
      rw [List.getElem?_append_left (by rw [hi.len]; exact h)]
    have nw : (mk ++ [us]).getD s.n 0 = us := by
      simp only [List.getD_eq_getElem?_getD]
      rw [List.getElem?_append_right (by rw [hi.len]; exact Nat.le_refl _), hi.len, Nat.sub_self]
      rfl
    refine ⟨by simp [hi.len], he, fun i h => ?_, fun i h => ?_⟩
    · show _ → fG (s.xs ++ _) i 7 = -1
      rcases Nat.lt_succ_iff_lt_or_eq.1 (show i < s.n + 1 from h) with h | rfl
      · rw [o i h, app_old hx _ h (by decide)]
        exact hi.no i h
      · rw [nw, app_new hx]
        intro h
        show us = -1
        omega
    · show _ → 0 ≤ fG (s.xs ++ _) i 7 ∧ fG (s.xs ++ _) i 7 = _ - (usedN (s.xs ++ _) s.es i s.m : Nat)
      rcases Nat.lt_succ_iff_lt_or_eq.1 (show i < s.n + 1 from h) with h | rfl
      · rw [o i h, app_old hx _ h (by decide), usedN_congr i hl.2 hi.ent.a hi.ent.b (fun _ _ _ _ => rfl) (Nat.le_refl _)]
        exact hi.yes i h
      · rw [nw, app_new hx, usedN_congr s.n hl.2 hi.ent.a hi.ent.b (fun _ _ _ _ => rfl) (Nat.le_refl _), usedN_none hw (Nat.le_refl _) hi.ent.a hi.ent.b (Nat.le_refl _)]
        intro h
        exact ⟨h, (Int.sub_zero us).symm⟩
  | rev q hq =>
    have e1 : mk ++ moreU (revX s.xs q) s.n (s.n - s.n) = mk := moreU_0 _ _ _
    show UsesI _ (mk ++ moreU (revX s.xs q) s.n (s.n - s.n))
    rw [e1]
    have g : ∀ i, fG (revX s.xs q) i 7 = fG s.xs i 7 := fun i => by
      rw [revX_get hw.len hq (by decide), if_neg (fun e => by omega)]
    refine ⟨hi.len, he, fun i h => ?_, fun i h => ?_⟩
    · show _ → fG (revX s.xs q) i 7 = -1
      rw [g]
      exact hi.no i h
    · show _ → 0 ≤ fG (revX s.xs q) i 7 ∧ fG (revX s.xs q) i 7 = _ - (usedN (revX s.xs q) s.es i s.m : Nat)
      rw [g, usedN_congr i hl.2 hi.ent.a hi.ent.b (fun _ _ _ _ => rfl) (Nat.le_refl _)]
      exact hi.yes i h
  | day d hd =>
    have e1 : mk ++ moreU s.xs s.n (s.n - s.n) = mk := moreU_0 _ _ _
    show UsesI _ (mk ++ moreU s.xs s.n (s.n - s.n))
    rw [e1]
    exact ⟨hi.len, he, hi.no, hi.yes⟩
  | opn a f t f1 f2 t1 t2 sf st hr zf zt =>
    have e1 : mk ++ moreU (useG (useG s.xs (f - 1).toNat) (t - 1).toNat) s.n (s.n - s.n) = mk := moreU_0 _ _ _
    show UsesI _ (mk ++ moreU (useG (useG s.xs (f - 1).toNat) (t - 1).toNat) s.n (s.n - s.n))
    rw [e1]
    have hkf : (f - 1).toNat < s.n := by omega
    have hkt : (t - 1).toNat < s.n := by omega
    have hRf := useG_rng hs.rng hkf
    have dis : ∀ i, i ∈ line s.xs (f - 1).toNat → i ∉ line s.xs (t - 1).toNat := fun i h1 h2 => hr (by rw [← line_root_of hs hkf i h1, ← line_root_of hs hkt i h2])
    have g : ∀ i, i < s.n → fG (useG (useG s.xs (f - 1).toNat) (t - 1).toNat) i 7 = if i ∈ line s.xs (f - 1).toNat ∨ i ∈ line s.xs (t - 1).toNat then (if fG s.xs i 7 = -1 then -1 else fG s.xs i 7 - 1) else fG s.xs i 7 := fun i h => by
      rw [useG_at hRf.wf hkt, useG_at hs.rng.wf hkf, useG_line hs.rng hkf hkt]
      by_cases h1 : i ∈ line s.xs (f - 1).toNat
      · have h12 : i ∈ line s.xs (f - 1).toNat ∨ i ∈ line s.xs (t - 1).toNat := .inl h1
        rw [if_neg (dis i h1), if_pos h1, if_pos h12]
      · rw [if_neg h1]
        by_cases h2 : i ∈ line s.xs (t - 1).toNat
        · have h12 : i ∈ line s.xs (f - 1).toNat ∨ i ∈ line s.xs (t - 1).toNat := .inr h2
          rw [if_pos h2, if_pos h12]
        · rw [if_neg h2, if_neg (fun e => e.elim h1 h2)]
    have nz : ∀ i, (i ∈ line s.xs (f - 1).toNat ∨ i ∈ line s.xs (t - 1).toNat) → fG s.xs i 7 ≠ 0 := fun i h => h.elim (not_spent zf i) (not_spent zt i)
    have us : ∀ i, usedN (useG (useG s.xs (f - 1).toNat) (t - 1).toNat) (s.es ++ [s.d, a, f, t]) i (s.m + 1) = usedN s.xs s.es i s.m + one (decide (i ∈ line s.xs (f - 1).toNat ∨ i ∈ line s.xs (t - 1).toNat)) := fun i => by
      have hc := usedN_congr (ys := useG (useG s.xs (f - 1).toNat) (t - 1).toNat) (fs := s.es ++ [s.d, a, f, t]) i hl.2 hi.ent.a hi.ent.b (fun e o h1 h2 => es_old hs.len _ h1 h2) (Nat.le_refl s.m)
      simp only [usedN, inG]
      rw [hc, es_new hs.len, es_new hs.len]
      show _ + one (decide (i ∈ line (useG (useG s.xs (f - 1).toNat) (t - 1).toNat) (f - 1).toNat)) + one (decide (i ∈ line (useG (useG s.xs (f - 1).toNat) (t - 1).toNat) (t - 1).toNat)) = _
      rw [hl.2 _ hkf, hl.2 _ hkt]
      by_cases h1 : i ∈ line s.xs (f - 1).toNat
      · rw [decide_eq_true h1, decide_eq_false (dis i h1), decide_eq_true (.inl h1)]
        rfl
      · by_cases h2 : i ∈ line s.xs (t - 1).toNat
        · rw [decide_eq_false h1, decide_eq_true h2, decide_eq_true (.inr h2)]
          rfl
        · rw [decide_eq_false h1, decide_eq_false h2, decide_eq_false (fun e => e.elim h1 h2)]
          rfl
    refine ⟨hi.len, he, fun i h => ?_, fun i h => ?_⟩
    · intro hm
      show fG (useG (useG s.xs (f - 1).toNat) (t - 1).toNat) i 7 = -1
      have := hi.no i h hm
      rw [g i h, this]
      split <;> rfl
    · intro hm
      have := hi.yes i h hm
      have hz := nz i
      show 0 ≤ fG (useG (useG s.xs (f - 1).toNat) (t - 1).toNat) i 7 ∧ fG (useG (useG s.xs (f - 1).toNat) (t - 1).toNat) i 7 = _ - (usedN (useG (useG s.xs (f - 1).toNat) (t - 1).toNat) (s.es ++ [s.d, a, f, t]) i (s.m + 1) : Nat)
      rw [g i h, us]
      by_cases hh : i ∈ line s.xs (f - 1).toNat ∨ i ∈ line s.xs (t - 1).toNat
      · rw [if_pos hh, if_neg (by omega), decide_eq_true hh]
        have := hz hh
        show _ ∧ _ = _ - ((usedN s.xs s.es i s.m + 1 : Nat) : Int)
        omega
      · rw [if_neg hh, decide_eq_false hh]
        show _ ∧ _ = _ - ((usedN s.xs s.es i s.m + 0 : Nat) : Int)
        omega
end Go.Proofs.Ytlbgkfidpkbafaa
/- Is a grant another one, or beneath it. -/
namespace Go.Proofs.Ytlbgkfidpkbafaa
open Go.RowKit
set_option linter.unusedSimpArgs false
set_option linter.unusedVariables false
theorem fld_z' {k o n : Nat} {xs : List Int} {K : RK} (ho : o < 9) (hK : kG.getD o .bool = K) (hk : k < n) (hx : n * 9 = xs.length) : (decide (kG.getD ((0 + k * 9 + o) % kG.length) .bool = K) && decide (0 + k * 9 + o < xs.length)) = true := fld_z ho hK hk hx
theorem inG_step {n : Nat} {xs : List Int} (hw : Wf n xs) {k i : Nat} (hk : k < n) (hne : k ≠ i) : inG xs ((k : Int) + 1) i = (decide (1 ≤ fG xs k 1) && inG xs (fG xs k 1) i) := by
  have h1 : 0 ≤ fG xs k 1 := hw.ge k hk
  unfold inG
  rw [show ((k : Int) + 1 - 1).toNat = k by omega]
  by_cases h : fG xs k 1 = 0
  · rw [line_root_eq hw hk h, decide_eq_false (p := 1 ≤ fG xs k 1) (by omega), Bool.false_and, decide_eq_false (by simpa using fun e => hne e.symm)]
  · rw [line_up hw hk h, decide_eq_true (p := 1 ≤ fG xs k 1) (by omega), Bool.true_and]
    have : (i ∈ k :: line xs (fG xs k 1 - 1).toNat) ↔ i ∈ line xs (fG xs k 1 - 1).toNat := by
      rw [List.mem_cons]
      exact ⟨fun h => h.resolve_left fun e => hne e.symm, .inr⟩
    exact decide_eq_decide.2 this
theorem inG_self {n : Nat} {xs : List Int} (hw : Wf n xs) {k : Nat} (hk : k < n) : inG xs ((k : Int) + 1) k = true := by
  unfold inG
  rw [show ((k : Int) + 1 - 1).toNat = k by omega]
  refine decide_eq_true ?_
  by_cases h : xs.getD (k * 9 + 1) 0 = 0
  · rw [line_root_eq hw hk h]
    exact List.mem_singleton.2 rfl
  · rw [line_up hw hk h]
    exact List.mem_cons_self
structure UnAt (n : Nat) (xs : List Int) (no0 : Int) (i : Nat) (q : Nat × Int) : Prop where
  ge : 0 ≤ q.2
  le : q.2 + (q.1 : Int) ≤ (n : Int)
  eq : inG xs no0 i = (decide (1 ≤ q.2) && inG xs q.2 i)
set_option maxRecDepth 20000 in
theorem under_c (n : Nat) (xs gx : List Int) (hw : Wf n xs) (hg : n * 9 = gx.length) (h1 : ∀ k, k < n → gx.getD (0 + k * 9 + 1) 0 = fG xs k 1) (no0 : Int) (i : Nat) (n1 : 1 ≤ no0) (n2 : no0 ≤ (n : Int)) :
    CallA Try.prog 37 [.t (.a (.s (.slc 0 0 n))), .int .i64 no0, .int .i64 ((i : Int) + 1)] [⟨false, false, 50, 9, .recs kG gx⟩] (fun w H => w = .boo (inG xs no0 i) ∧ H = [⟨false, false, 50, 9, .recs kG gx⟩]) := by
  refine call_of_vc TYok mixedO Try.func37 rfl rfl (Nat.le_of_ble_eq_true rfl) ?_
  have hf := hw.few
  (repeat (first | refine aC ?_ | refine aK ?_ | refine ⟨fun _ => ?_, fun h => absurd h (by decide)⟩ | refine ⟨fun h => absurd h (by decide), fun _ => ?_⟩))
  refine loop_rule TYok mixedO (ι := Nat × Int) (fun q => [(0, .t (.a (.s (.slc 0 0 n)))), (1, .int .i64 q.2), (2, .int .i64 ((i : Int) + 1)), (7, .int .i64 (q.1 : Int))]) (fun _ => [⟨false, false, 50, 9, .recs kG gx⟩]) (UnAt n xs no0 i) (fun q => n + 1 - q.1) (0, no0) ⟨by show 0 ≤ no0; omega, by show no0 + ((0 : Nat) : Int) ≤ n; omega, by show _ = (decide (1 ≤ no0) && _); rw [decide_eq_true n1]; rfl⟩ some (by exact wI) ?_
  rintro ⟨j, no⟩ ⟨hge, hle, he⟩
  dsimp only at hge hle he ⊢
  have g1 : decide ((j : Int) ≤ (n : Int)) = true := decide_eq_true (by omega)
  (repeat (first | refine aC ?_ | refine aK ?_ | refine ⟨fun _ => ?_, fun h => absurd h (by decide)⟩ | refine ⟨fun h => absurd h (by decide), fun _ => ?_⟩))
  refine ⟨fun _ => ?_, fun h => absurd (g1.symm.trans h) (by decide)⟩
  by_cases h0 : 1 ≤ no
  · have g2 : decide (no ≥ 1) = true := decide_eq_true h0
    have g3 : decide (no ≤ (n : Int)) = true := decide_eq_true (by omega)
    obtain ⟨k, rfl⟩ : ∃ k : Nat, no = (k : Int) + 1 := ⟨(no - 1).toNat, by omega⟩
    have hk : k < n := by omega
    (repeat (first | refine aC ?_ | refine aK ?_ | refine ⟨fun _ => ?_, fun h => absurd h (by decide)⟩ | refine ⟨fun h => absurd h (by decide), fun _ => ?_⟩))
    refine ⟨fun _ => ?_, fun h => absurd (g2.symm.trans h) (by decide)⟩
    (repeat (first | refine aC ?_ | refine aK ?_ | refine ⟨fun _ => ?_, fun h => absurd h (by decide)⟩ | refine ⟨fun h => absurd h (by decide), fun _ => ?_⟩))
    refine ⟨fun _ => ?_, fun h => absurd (g3.symm.trans h) (by decide)⟩
    (repeat (first | refine aC ?_ | refine aK ?_ | refine ⟨fun _ => ?_, fun h => absurd h (by decide)⟩ | refine ⟨fun h => absurd h (by decide), fun _ => ?_⟩))
    refine ⟨fun g => ?_, fun g => ?_⟩
    · have g : ((k : Int) + 1 == (i : Int) + 1) = true := g
      have hki : k = i := by
        have := beq_iff_eq.1 g
        omega
      subst hki
      (repeat (first | refine aC ?_ | refine aK ?_ | refine ⟨fun _ => ?_, fun h => absurd h (by decide)⟩ | refine ⟨fun h => absurd h (by decide), fun _ => ?_⟩))
      rw [he, decide_eq_true h0, inG_self hw hk]
      exact ⟨some, .boo true, [⟨false, false, 50, 9, .recs kG gx⟩], by exact wI, rfl, rfl⟩
    · have g : ((k : Int) + 1 == (i : Int) + 1) = false := g
      have hki : k ≠ i := fun e => by
        have := beq_eq_false_iff_ne.1 g
        exact this (by rw [e])
      have a0 : i64ok ((k : Int) + 1 - 1) = true := i64_of (by omega)
      have a1 : decide (0 ≤ (k : Int) + 1 - 1 ∧ (k : Int) + 1 - 1 < (n : Int)) = true := decide_eq_true (by omega)
      (repeat (first | refine aC ?_ | refine aK ?_ | refine ⟨fun _ => ?_, fun h => absurd h (by decide)⟩ | refine ⟨fun h => absurd h (by decide), fun _ => ?_⟩))
      rw [succ_k]
      refine And.intro (fld_z (o := 1) (by decide) rfl hk hg) ?_
      (repeat (first | refine aC ?_ | refine aK ?_ | refine ⟨fun _ => ?_, fun h => absurd h (by decide)⟩ | refine ⟨fun h => absurd h (by decide), fun _ => ?_⟩))
      have b0 := h1 k hk
      have b1 : 0 ≤ fG xs k 1 := hw.ge k hk
      have b2 : fG xs k 1 ≤ k := hw.le k hk
      exact ⟨(j + 1, gx.getD (0 + k * 9 + 1) 0), ⟨by show 0 ≤ gx.getD (0 + k * 9 + 1) 0; omega, by show gx.getD (0 + k * 9 + 1) 0 + ((j + 1 : Nat) : Int) ≤ n; omega, by show _ = (decide (1 ≤ gx.getD (0 + k * 9 + 1) 0) && inG xs (gx.getD (0 + k * 9 + 1) 0) i); rw [b0, he, decide_eq_true h0, Bool.true_and]; exact inG_step hw hk hki⟩, by show n + 1 - (j + 1) < n + 1 - j; omega, some, by exact wI⟩
  · have g2 : decide (no ≥ 1) = false := decide_eq_false h0
    (repeat (first | refine aC ?_ | refine aK ?_ | refine ⟨fun _ => ?_, fun h => absurd h (by decide)⟩ | refine ⟨fun h => absurd h (by decide), fun _ => ?_⟩))
    refine ⟨fun h => absurd (g2.symm.trans h) (by decide), fun _ => ?_⟩
    (repeat (first | refine aC ?_ | refine aK ?_ | refine ⟨fun _ => ?_, fun h => absurd h (by decide)⟩ | refine ⟨fun h => absurd h (by decide), fun _ => ?_⟩))
    rw [he, decide_eq_false h0]
    exact ⟨some, .boo false, [⟨false, false, 50, 9, .recs kG gx⟩], by exact wI, rfl, rfl⟩
end Go.Proofs.Ytlbgkfidpkbafaa
