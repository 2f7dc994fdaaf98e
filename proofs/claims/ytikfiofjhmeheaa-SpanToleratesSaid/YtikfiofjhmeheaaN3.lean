/- What combine makes of two sets: the pieces of the whole, and the ones that are kept. -/
import Derived.Test.YtikfiofjhmeheaaN1
namespace Go.Proofs.Ytikfiofjhmeheaa

theorem inB_cons (s : Sp) (xs : List Sp) (x : Int) : inB (s :: xs) x = (decide (s.1 ≤ x ∧ x < s.2) || inB xs x) := by
  unfold inB
  rfl
theorem strE_cons (s : Sp) (xs : List Sp) (x : Int) : strE (s :: xs) x = if x < s.2 then (if x < s.1 then s.1 else s.2) else strE xs x := by
  unfold strE
  by_cases h : x < s.2
  · rw [List.find?_cons_of_pos (by simpa using h), if_pos h]
  · rw [List.find?_cons_of_neg (by simpa using h), if_neg h]
/-- up to the end of the stretch nothing changes -/
theorem str_same : ∀ (xs : List Sp), Canon xs → ∀ (x y : Int), x ≤ y → y < strE xs x → inB xs y = inB xs x
  | [], _, x, y, _, _ => rfl
  | s :: xs, h, x, y, hxy, hy => by
    have hs := h.head
    have hup : ∀ {z}, inB xs z = true → s.2 < z := fun hz => h.above ((inB_mem _ _).1 hz)
    rw [strE_cons] at hy
    rw [inB_cons, inB_cons]
    by_cases h1 : x < s.2
    · rw [if_pos h1] at hy
      by_cases h2 : x < s.1
      · rw [if_pos h2] at hy
        have e1 : inB xs x = false := by
          cases e : inB xs x
          · rfl
          · have := hup e; omega
        have e2 : inB xs y = false := by
          cases e : inB xs y
          · rfl
          · have := hup e; omega
        rw [e1, e2, decide_eq_false (by omega), decide_eq_false (by omega)]
      · rw [if_neg h2] at hy
        rw [decide_eq_true (show s.1 ≤ y ∧ y < s.2 by omega), decide_eq_true (show s.1 ≤ x ∧ x < s.2 by omega)]
        rfl
    · rw [if_neg h1] at hy
      rw [decide_eq_false (show ¬ (s.1 ≤ y ∧ y < s.2) by omega), decide_eq_false (show ¬ (s.1 ≤ x ∧ x < s.2) by omega), str_same xs h.tail x y hxy hy]
/-- where a stretch ends -/
theorem strE_end : ∀ (xs : List Sp) (x : Int), x < 1099511627776 → x < strE xs x ∧ (strE xs x = 1099511627776 ∨ ∃ s ∈ xs, strE xs x = s.1 ∨ strE xs x = s.2)
  | [], x, h => ⟨h, .inl rfl⟩
  | s :: xs, x, h => by
    rw [strE_cons]
    by_cases h1 : x < s.2
    · rw [if_pos h1]
      by_cases h2 : x < s.1
      · rw [if_pos h2]; exact ⟨h2, .inr ⟨s, by simp, .inl rfl⟩⟩
      · rw [if_neg h2]; exact ⟨h1, .inr ⟨s, by simp, .inr rfl⟩⟩
    · rw [if_neg h1]
      obtain ⟨p, q⟩ := strE_end xs x h
      refine ⟨p, q.imp id fun ⟨t, ht, e⟩ => ⟨t, by simp [ht], e⟩⟩

/-- all places at which a stretch can end -/
def stops (xs ys : List Sp) : List Int := xs.map (·.1) ++ xs.map (·.2) ++ (ys.map (·.1) ++ ys.map (·.2)) ++ [1099511627776]
/-- how many of them are ahead of x -/
def ahead (xs ys : List Sp) (x : Int) : Nat := (stops xs ys).countP fun e => decide (x < e)
theorem ahead_le (xs ys : List Sp) (x : Int) : ahead xs ys x ≤ 2 * xs.length + 2 * ys.length + 1 := by
  have := List.countP_le_length (p := fun e => decide (x < e)) (l := stops xs ys)
  unfold ahead
  have h : (stops xs ys).length = 2 * xs.length + 2 * ys.length + 1 := by simp [stops]; omega
  omega
theorem countP_lt {l : List Int} {x y : Int} (hxy : x < y) (hy : y ∈ l) : l.countP (fun e => decide (y < e)) < l.countP (fun e => decide (x < e)) := by
  induction l with
  | nil => cases hy
  | cons a l ih =>
    have hle : l.countP (fun e => decide (y < e)) ≤ l.countP (fun e => decide (x < e)) :=
      List.countP_mono_left fun e _ h => by have := of_decide_eq_true h; exact decide_eq_true (by omega)
    rw [List.countP_cons, List.countP_cons]
    rcases List.mem_cons.1 hy with e | e
    · subst e
      rw [if_neg (by simp), if_pos (by simpa using hxy)]
      omega
    · have := ih e
      by_cases h1 : y < a
      · rw [if_pos (by simpa using h1), if_pos (by simp; omega)]
        omega
      · rw [if_neg (by simpa using h1)]
        omega

/-- where the piece that begins at x ends -/
def pieceE (xs ys : List Sp) (x : Int) : Int := min (strE xs x) (strE ys x)
theorem pieceE_next {xs ys : List Sp} {x : Int} (h : x < 1099511627776) : x < pieceE xs ys x ∧ pieceE xs ys x ∈ stops xs ys := by
  obtain ⟨a1, a2⟩ := strE_end xs x h
  obtain ⟨b1, b2⟩ := strE_end ys x h
  have m1 : strE xs x ∈ stops xs ys := by
    rcases a2 with e | ⟨s, hs, e | e⟩
    · rw [e]; simp [stops]
    · rw [e]; unfold stops; simp only [List.mem_append, List.mem_map]; exact .inl (.inl (.inl ⟨s, hs, rfl⟩))
    · rw [e]; unfold stops; simp only [List.mem_append, List.mem_map]; exact .inl (.inl (.inr ⟨s, hs, rfl⟩))
  have m2 : strE ys x ∈ stops xs ys := by
    rcases b2 with e | ⟨s, hs, e | e⟩
    · rw [e]; simp [stops]
    · rw [e]; unfold stops; simp only [List.mem_append, List.mem_map]; exact .inl (.inr (.inl ⟨s, hs, rfl⟩))
    · rw [e]; unfold stops; simp only [List.mem_append, List.mem_map]; exact .inl (.inr (.inr ⟨s, hs, rfl⟩))
  unfold pieceE
  refine ⟨by omega, ?_⟩
  rcases Int.le_total (strE xs x) (strE ys x) with h1 | h1
  · rw [Int.min_eq_left h1]; exact m1
  · rw [Int.min_eq_right h1]; exact m2
theorem ahead_next {xs ys : List Sp} {x : Int} (h : x < 1099511627776) : ahead xs ys (pieceE xs ys x) < ahead xs ys x :=
  countP_lt (pieceE_next h).1 (pieceE_next h).2
theorem ahead_pos {xs ys : List Sp} {x : Int} (h : x < 1099511627776) : 0 < ahead xs ys x := by
  have := ahead_next (xs := xs) (ys := ys) h
  omega

/-- the pieces from x on -/
def pcF (xs ys : List Sp) : Nat → Int → List Int
  | 0, _ => []
  | f + 1, x => if x < 1099511627776 then x :: pcF xs ys f (pieceE xs ys x) else []
theorem pcF_end {xs ys : List Sp} {x : Int} (h : ¬ x < 1099511627776) (f : Nat) : pcF xs ys f x = [] := by
  cases f with
  | zero => rfl
  | succ f => unfold pcF; rw [if_neg h]
theorem pcF_step {xs ys : List Sp} {x : Int} (h : x < 1099511627776) {f : Nat} (hf : ahead xs ys x ≤ f) : ∃ f', f = f' + 1 ∧ pcF xs ys f x = x :: pcF xs ys f' (pieceE xs ys x) ∧ ahead xs ys (pieceE xs ys x) ≤ f' := by
  have h1 := ahead_next (xs := xs) (ys := ys) h
  cases f with
  | zero => omega
  | succ f => exact ⟨f, rfl, by show (if x < 1099511627776 then _ else _) = _; rw [if_pos h], by omega⟩
theorem pcF_length (xs ys : List Sp) : ∀ f x, (pcF xs ys f x).length ≤ f
  | 0, _ => by simp [pcF]
  | f + 1, x => by
    unfold pcF
    split
    · have := pcF_length xs ys f (pieceE xs ys x)
      simp only [List.length_cons]
      omega
    · simp
/-- all pieces, by their beginnings -/
def pcL (xs ys : List Sp) : List Int := pcF xs ys (ahead xs ys (-1099511627776)) (-1099511627776)
theorem pcL_length (xs ys : List Sp) : (pcL xs ys).length ≤ 2 * xs.length + 2 * ys.length + 1 :=
  Nat.le_trans (pcF_length _ _ _ _) (ahead_le _ _ _)

/-- the set of the kept ones -/
def combS (keep : Bool → Bool → Bool) (xs ys : List Sp) (out : List Sp) (x : Int) : List Sp := if keep (inB xs x) (inB ys x) then putL out (x, pieceE xs ys x) else out
def combTo (keep : Bool → Bool → Bool) (xs ys : List Sp) (pre : List Int) : List Sp := pre.foldl (combS keep xs ys) []
theorem combTo_snoc (keep : Bool → Bool → Bool) (xs ys : List Sp) (pre : List Int) (x : Int) : combTo keep xs ys (pre ++ [x]) = combS keep xs ys (combTo keep xs ys pre) x := by simp [combTo]
def combL (keep : Bool → Bool → Bool) (xs ys : List Sp) : List Sp := combTo keep xs ys (pcL xs ys)
theorem putL_len (xs : List Sp) (s : Sp) : (putL xs s).length ≤ xs.length + 1 := by
  unfold putL
  split <;> simp
theorem combTo_length (keep : Bool → Bool → Bool) (xs ys : List Sp) (pre : List Int) : (combTo keep xs ys pre).length ≤ pre.length := by
  suffices h : ∀ (pre : List Int) (out : List Sp), (pre.foldl (combS keep xs ys) out).length ≤ out.length + pre.length by
    simpa [combTo] using h pre []
  intro pre
  induction pre with
  | nil => intro out; simp
  | cons x pre ih =>
    intro out
    have h1 := ih (combS keep xs ys out x)
    have h2 : (combS keep xs ys out x).length ≤ out.length + 1 := by
      unfold combS
      split
      · exact putL_len _ _
      · omega
    simp only [List.foldl_cons, List.length_cons]
    omega
theorem comb_run (keep : Bool → Bool → Bool) {xs ys : List Sp} (hx : Canon xs) (hy : Canon ys) : ∀ (f : Nat) (x : Int) (out : List Sp), ahead xs ys x ≤ f → x ≤ 1099511627776 → -1099511627776 ≤ x → Canon out → (∀ t ∈ out, t.1 ≤ x) →
    (∀ z, memS out z ↔ (-1099511627776 ≤ z ∧ z < x ∧ keep (inB xs z) (inB ys z) = true)) → (∀ s ∈ xs, s.2 ≤ 1099511627776) → (∀ s ∈ ys, s.2 ≤ 1099511627776) →
    Canon ((pcF xs ys f x).foldl (combS keep xs ys) out) ∧ ∀ z, memS ((pcF xs ys f x).foldl (combS keep xs ys) out) z ↔ (-1099511627776 ≤ z ∧ z < 1099511627776 ∧ keep (inB xs z) (inB ys z) = true) := by
  intro f
  induction f with
  | zero =>
    intro x out hf hx1 hx0 hc ho hm bx by_
    have : ¬ x < 1099511627776 := fun h => by have := ahead_pos (xs := xs) (ys := ys) h; omega
    obtain rfl : x = 1099511627776 := by omega
    exact ⟨hc, hm⟩
  | succ f ih =>
    intro x out hf hx1 hx0 hc ho hm bx by_
    by_cases h : x < 1099511627776
    · obtain ⟨f', e1, e2, e3⟩ := pcF_step h hf
      obtain rfl : f = f' := by omega
      rw [e2, List.foldl_cons]
      obtain ⟨n1, n2⟩ := pieceE_next (xs := xs) (ys := ys) h
      have hle : pieceE xs ys x ≤ 1099511627776 := by
        have q : ∀ (zs : List Sp), (∀ s ∈ zs, s.2 ≤ 1099511627776) → Canon zs → strE zs x ≤ 1099511627776 := fun zs hz hcz => by
          rcases (strE_end zs x h).2 with e | ⟨s, hs, e | e⟩
          · omega
          · have := hz s hs; have := hcz.1 s hs; omega
          · have := hz s hs; omega
        have := q xs bx hx
        unfold pieceE
        omega
      have same : ∀ z, x ≤ z → z < pieceE xs ys x → keep (inB xs z) (inB ys z) = keep (inB xs x) (inB ys x) := fun z h1 h2 => by
        unfold pieceE at h2
        rw [str_same xs hx x z h1 (by omega), str_same ys hy x z h1 (by omega)]
      cases hk : keep (inB xs x) (inB ys x)
      · have e4 : combS keep xs ys out x = out := by unfold combS; rw [hk]; rfl
        rw [e4]
        refine ih _ out e3 hle (by omega) hc (fun t ht => by have := ho t ht; omega) (fun z => ?_) bx by_
        rw [hm z]
        constructor
        · rintro ⟨p, q, r⟩; exact ⟨p, by omega, r⟩
        · rintro ⟨p, q, r⟩
          rcases ltOrLe z x with h1 | h1
          · exact ⟨p, h1, r⟩
          · rw [same z h1 q, hk] at r; cases r
      · have e4 : combS keep xs ys out x = putL out (x, pieceE xs ys x) := by unfold combS; rw [hk]; rfl
        rw [e4]
        obtain ⟨g1, g2, g3⟩ := putL_canon (s := (x, pieceE xs ys x)) hc n1 ho
        refine ih _ _ e3 hle (by omega) g1 (fun t ht => by have := g3 t ht; dsimp only at this; omega) (fun z => ?_) bx by_
        rw [g2 z, hm z]
        dsimp only
        constructor
        · rintro (⟨p, q, r⟩ | ⟨p, q⟩)
          · exact ⟨p, by omega, r⟩
          · exact ⟨by omega, q, by rw [same z p q]; exact hk⟩
        · rintro ⟨p, q, r⟩
          rcases ltOrLe z x with h1 | h1
          · exact .inl ⟨p, h1, r⟩
          · exact .inr ⟨h1, q⟩
    · obtain rfl : x = 1099511627776 := by omega
      rw [pcF_end h]
      exact ⟨hc, hm⟩
/-- a set: canonical, within the whole -/
def SetS (xs : List Sp) : Prop := Canon xs ∧ ∀ s ∈ xs, okB s.1 s.2 = true
theorem SetS.hi {xs : List Sp} (h : SetS xs) : ∀ s ∈ xs, s.2 ≤ 1099511627776 := fun s hs => (okB_true (h.2 s hs)).2.2
theorem SetS.mem {xs : List Sp} (h : SetS xs) {z : Int} (hz : inB xs z = true) : -1099511627776 ≤ z ∧ z < 1099511627776 := by
  obtain ⟨s, hs, p, q⟩ := (inB_mem _ _).1 hz
  have := okB_true (h.2 s hs)
  omega
theorem canon_set {xs : List Sp} (h : Canon xs) (hm : ∀ z, memS xs z → -1099511627776 ≤ z ∧ z < 1099511627776) : SetS xs := by
  refine ⟨h, fun s hs => okB_mk ?_⟩
  have h1 := h.1 s hs
  have h2 := hm s.1 ⟨s, hs, Int.le_refl _, h1⟩
  have h3 := hm (s.2 - 1) ⟨s, hs, by omega, by omega⟩
  omega
theorem combL_spec (keep : Bool → Bool → Bool) {xs ys : List Sp} (hx : SetS xs) (hy : SetS ys) :
    SetS (combL keep xs ys) ∧ (∀ z, memS (combL keep xs ys) z ↔ (-1099511627776 ≤ z ∧ z < 1099511627776 ∧ keep (inB xs z) (inB ys z) = true)) ∧ (combL keep xs ys).length ≤ 2 * xs.length + 2 * ys.length + 1 := by
  have h := comb_run keep hx.1 hy.1 (ahead xs ys (-1099511627776)) (-1099511627776) [] (Nat.le_refl _) (by decide) (Int.le_refl _) Canon.nil (by simp) (fun z => ⟨fun h => absurd h (memS_nil z), fun h => by omega⟩) hx.hi hy.hi
  exact ⟨canon_set h.1 fun z hz => by have := (h.2 z).1 hz; omega, h.2, Nat.le_trans (combTo_length _ _ _ _) (pcL_length _ _)⟩
theorem setB_set {xs : List Sp} (h : setB xs = true) : SetS xs ∧ xs.length ≤ 128 := by
  obtain ⟨h1, h2⟩ := setB_true h
  exact ⟨setTo_canon h2, h1⟩
theorem set_setB {xs : List Sp} (h : SetS xs) (hl : xs.length ≤ 128) : setB xs = true := by
  unfold setB
  exact decide_eq_true ⟨hl, canon_setTo h.1 h.2⟩
theorem madeL_set (kind : Int) {xs ys : List Sp} (h : ∀ z, keepB kind (inB xs z) (inB ys z) = true → -1099511627776 ≤ z ∧ z < 1099511627776) : SetS (madeL kind xs ys) :=
  canon_set (madeL_spec kind xs ys).1 fun z hz => h z (((madeL_spec kind xs ys).2.1 z).1 hz)

/-- the specification's set of two is what combine makes -/
theorem two_same {kind : Int} {keep : Bool → Bool → Bool} {xs ys : List Sp} (hx : SetS xs) (hy : SetS ys) (hk : ∀ p q, keep p q = keepB kind p q) : madeL kind xs ys = combL keep xs ys := by
  refine canon_ext (madeL_spec kind xs ys).1 (combL_spec keep hx hy).1.1 fun z => ?_
  rw [(madeL_spec kind xs ys).2.1 z, (combL_spec keep hx hy).2.1 z, hk]
  constructor
  · intro h
    have : -1099511627776 ≤ z ∧ z < 1099511627776 := by
      have h0 := h
      unfold keepB at h
      cases e1 : inB xs z
      · cases e2 : inB ys z
        · rw [e1, e2] at h; simp at h
        · exact hy.mem e2
      · exact hx.mem e1
    exact ⟨this.1, this.2, h⟩
  · exact fun h => h.2.2
def wholeL : List Sp := [(-1099511627776, 1099511627776)]
theorem whole_in (z : Int) : inB wholeL z = decide (-1099511627776 ≤ z ∧ z < 1099511627776) := by
  unfold wholeL
  rw [inB_cons]
  simp [inB]
theorem whole_set : SetS wholeL := ⟨⟨by simp [wholeL], by simp [wholeL]⟩, by simp [wholeL]; decide⟩
theorem not_same {xs : List Sp} (hx : SetS xs) : madeL 2 wholeL xs = combL (fun p _ => !p) xs [] := by
  refine canon_ext (madeL_spec 2 wholeL xs).1 (combL_spec _ hx ⟨Canon.nil, by simp⟩).1.1 fun z => ?_
  rw [(madeL_spec 2 wholeL xs).2.1 z, (combL_spec _ hx ⟨Canon.nil, by simp⟩).2.1 z, whole_in]
  unfold keepB
  simp [and_assoc]

end Go.Proofs.Ytikfiofjhmeheaa
