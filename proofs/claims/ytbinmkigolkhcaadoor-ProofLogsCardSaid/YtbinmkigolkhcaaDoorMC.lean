/- The mathematics of the specification's Extended, Levels and Accuse. -/
import Derived.Test.YtbinmkigolkhcaaDoorMA
namespace Go.Proofs.YtbinmkigolkhcaaDoor
open Go.RowKit Go.Sort

/-- how many hashes are taken -/
def cntF : Nat → Nat → Nat → Bool → Nat
  | 0, _, _, _ => 0
  | f + 1, m, n, wh => if m = n then (if wh then 0 else 1) else if m ≤ halfN n then cntF f m (halfN n) wh + 1 else cntF f (m - halfN n) (n - halfN n) false + 1
def cntV (m n : Nat) (wh : Bool) : Nat := cntF n m n wh
theorem cntF_ok : ∀ (f g m n : Nat) (wh : Bool), 1 ≤ m → m ≤ n → n ≤ f → n ≤ g → cntF f m n wh = cntF g m n wh
  | 0, _, m, n, _, h1, h2, h3, _ => by omega
  | _ + 1, 0, m, n, _, h1, h2, _, h4 => by omega
  | f + 1, g + 1, m, n, wh, h1, h2, h3, h4 => by
    simp only [cntF]
    by_cases c3 : m = n
    · rw [if_pos c3, if_pos c3]
    rw [if_neg c3, if_neg c3]
    have hh := halfN_lt (n := n) (by omega)
    by_cases c4 : m ≤ halfN n
    · rw [if_pos c4, if_pos c4, cntF_ok f g m (halfN n) wh h1 c4 (by omega) (by omega)]
    · rw [if_neg c4, if_neg c4, cntF_ok f g (m - halfN n) (n - halfN n) false (by omega) (by omega) (by omega) (by omega)]
theorem cnt_all {n : Nat} (h1 : 1 ≤ n) (wh : Bool) : cntV n n wh = if wh then 0 else 1 := by
  obtain ⟨f, rfl⟩ : ∃ f, n = f + 1 := ⟨n - 1, by omega⟩
  unfold cntV
  simp only [cntF]
  rw [if_pos trivial]
theorem cnt_lo {m n : Nat} (h1 : 1 ≤ m) (h2 : m < n) (hm : m ≤ halfN n) (wh : Bool) : cntV m n wh = cntV m (halfN n) wh + 1 := by
  have hh := halfN_lt (n := n) (by omega)
  obtain ⟨f, hf⟩ : ∃ f, n = f + 1 := ⟨n - 1, by omega⟩
  unfold cntV
  conv => lhs; rw [hf]
  simp only [cntF]
  rw [← hf, if_neg (by omega), if_pos hm, cntF_ok f (halfN n) m (halfN n) wh h1 hm (by omega) (Nat.le_refl _)]
theorem cnt_hi {m n : Nat} (h1 : 1 ≤ m) (h2 : m < n) (hm : halfN n < m) (wh : Bool) : cntV m n wh = cntV (m - halfN n) (n - halfN n) false + 1 := by
  have hh := halfN_lt (n := n) (by omega)
  obtain ⟨f, hf⟩ : ∃ f, n = f + 1 := ⟨n - 1, by omega⟩
  unfold cntV
  conv => lhs; rw [hf]
  simp only [cntF]
  rw [← hf, if_neg (by omega), if_neg (by omega), cntF_ok f (n - halfN n) (m - halfN n) (n - halfN n) false (by omega) (by omega) (by omega) (Nat.le_refl _)]
theorem prj3 {α β γ : Type} {a : α × β × γ} {x : α} {y : β} {z : γ} (h : a = (x, y, z)) : a.2.2 = z := by rw [h]
section
variable {m n : Nat} {wh : Bool} {old : Nat} {hs : List Nat}
theorem fit_whole (h1 : 1 ≤ n) : (twoV n n true old hs).2.2 = decide (hs.length = 0) := by rw [two_whole h1]
theorem fit_none (h1 : 1 ≤ n) (h : ¬ (m = n ∧ wh = true)) (h0 : hs.length = 0) : (twoV m n wh old hs).2.2 = false := by rw [two_none h1 h h0]
theorem fit_part (h1 : 1 ≤ n) (h0 : hs.length ≠ 0) : (twoV n n false old hs).2.2 = decide (hs.length - 1 = 0) := by rw [two_part h1 h0]
theorem fit_lo (h1 : 1 ≤ m) (h2 : m < n) (h0 : hs.length ≠ 0) (hm : m ≤ halfN n) : (twoV m n wh old hs).2.2 = (twoV m (halfN n) wh old (hs.take (hs.length - 1))).2.2 := prj3 (two_lo h1 h2 h0 hm)
theorem fit_hi (h1 : 1 ≤ m) (h2 : m < n) (h0 : hs.length ≠ 0) (hm : halfN n < m) : (twoV m n wh old hs).2.2 = (twoV (m - halfN n) (n - halfN n) false old (hs.take (hs.length - 1))).2.2 := prj3 (two_hi h1 h2 h0 hm)
end
/-- the program's answer fits exactly where there are as many hashes as are taken -/
theorem two_fit : ∀ (N m n : Nat) (wh : Bool) (old : Nat) (hs : List Nat), n ≤ N → 1 ≤ m → m ≤ n → (twoV m n wh old hs).2.2 = decide (hs.length = cntV m n wh) := by
  intro N
  induction N with
  | zero => intro m n wh old hs h h1 h2; omega
  | succ N ih =>
    intro m n wh old hs h h1 h2
    by_cases c1 : m = n ∧ wh = true
    · obtain ⟨rfl, rfl⟩ := c1
      rw [fit_whole h1, cnt_all h1, if_pos rfl]
    by_cases c3 : m = n
    · subst c3
      have hw : wh = false := by
        cases wh
        · rfl
        · exact absurd ⟨rfl, rfl⟩ c1
      subst hw
      rw [cnt_all h1, if_neg (by decide)]
      by_cases c2 : hs.length = 0
      · rw [fit_none h1 c1 c2, decide_eq_false (by omega)]
      · rw [fit_part h1 c2]
        by_cases h3 : hs.length = 1
        · rw [decide_eq_true h3, decide_eq_true (by omega)]
        · rw [decide_eq_false h3, decide_eq_false (by omega)]
    have hh := halfN_lt (n := n) (by omega)
    by_cases c4 : m ≤ halfN n
    · rw [cnt_lo h1 (by omega) c4]
      by_cases c2 : hs.length = 0
      · rw [fit_none (by omega) c1 c2, decide_eq_false (by omega)]
      · rw [fit_lo h1 (by omega) c2 c4, ih m (halfN n) wh old _ (by omega) h1 c4, List.length_take]
        by_cases h3 : hs.length = cntV m (halfN n) wh + 1
        · rw [decide_eq_true h3, decide_eq_true (by omega)]
        · rw [decide_eq_false h3, decide_eq_false (by omega)]
    · rw [cnt_hi h1 (by omega) (by omega)]
      by_cases c2 : hs.length = 0
      · rw [fit_none (by omega) c1 c2, decide_eq_false (by omega)]
      · rw [fit_hi h1 (by omega) c2 (by omega), ih (m - halfN n) (n - halfN n) false old _ (by omega) (by omega) (by omega), List.length_take]
        by_cases h3 : hs.length = cntV (m - halfN n) (n - halfN n) false + 1
        · rw [decide_eq_true h3, decide_eq_true (by omega)]
        · rw [decide_eq_false h3, decide_eq_false (by omega)]
/-- the specification's two roots: it takes the hashes from in front -/
structure TwoS where
  old : Nat
  root : Nat
  taken : Nat
  short : Bool
def TwoS.next (t : TwoS) (hs : List Nat) : Nat × TwoS := if hs.length ≤ t.taken then (0, ⟨t.old, t.root, t.taken, true⟩) else (hs.getD t.taken 0, ⟨t.old, t.root, t.taken + 1, t.short⟩)
theorem next_none {t : TwoS} {hs : List Nat} (h : hs.length ≤ t.taken) : t.next hs = (0, ⟨t.old, t.root, t.taken, true⟩) := if_pos h
theorem next_some {t : TwoS} {hs : List Nat} (h : ¬ hs.length ≤ t.taken) : t.next hs = (hs.getD t.taken 0, ⟨t.old, t.root, t.taken + 1, t.short⟩) := if_neg h
def TwoS.part (t : TwoS) (hs : List Nat) : TwoS := ⟨(t.next hs).1, (t.next hs).1, (t.next hs).2.taken, (t.next hs).2.short⟩
def TwoS.lo (t : TwoS) (hs : List Nat) : TwoS := ⟨(t.next hs).2.old, nodeV (t.next hs).2.root (t.next hs).1, (t.next hs).2.taken, (t.next hs).2.short⟩
def TwoS.hi (t : TwoS) (hs : List Nat) : TwoS := ⟨nodeV (t.next hs).1 (t.next hs).2.old, nodeV (t.next hs).1 (t.next hs).2.root, (t.next hs).2.taken, (t.next hs).2.short⟩
def madeF : Nat → Nat → Nat → Nat → Bool → List Nat → TwoS
  | 0, _, _, _, _, _ => ⟨0, 0, 0, false⟩
  | f + 1, m, n, old, wh, hs => if m = n then (if wh then ⟨old, old, 0, false⟩ else (⟨old, old, 0, false⟩ : TwoS).part hs)
      else if m ≤ halfN n then (madeF f m (halfN n) old wh hs).lo hs else (madeF f (m - halfN n) (n - halfN n) old false hs).hi hs
def madeV (m n old : Nat) (wh : Bool) (hs : List Nat) : TwoS := madeF n m n old wh hs
theorem madeF_ok : ∀ (f g m n old : Nat) (wh : Bool) (hs : List Nat), 1 ≤ m → m ≤ n → n ≤ f → n ≤ g → madeF f m n old wh hs = madeF g m n old wh hs
  | 0, _, m, n, _, _, _, h1, h2, h3, _ => by omega
  | _ + 1, 0, m, n, _, _, _, h1, h2, _, h4 => by omega
  | f + 1, g + 1, m, n, old, wh, hs, h1, h2, h3, h4 => by
    simp only [madeF]
    by_cases c3 : m = n
    · rw [if_pos c3, if_pos c3]
    rw [if_neg c3, if_neg c3]
    have hh := halfN_lt (n := n) (by omega)
    by_cases c4 : m ≤ halfN n
    · rw [if_pos c4, if_pos c4, madeF_ok f g m (halfN n) old wh _ h1 c4 (by omega) (by omega)]
    · rw [if_neg c4, if_neg c4, madeF_ok f g (m - halfN n) (n - halfN n) old false _ (by omega) (by omega) (by omega) (by omega)]
theorem made_whole {n : Nat} (h1 : 1 ≤ n) (old : Nat) (hs : List Nat) : madeV n n old true hs = ⟨old, old, 0, false⟩ := by
  obtain ⟨f, rfl⟩ : ∃ f, n = f + 1 := ⟨n - 1, by omega⟩
  unfold madeV
  simp only [madeF]
  rw [if_pos trivial]
  rfl
theorem made_part {n : Nat} (h1 : 1 ≤ n) (old : Nat) (hs : List Nat) : madeV n n old false hs = (⟨old, old, 0, false⟩ : TwoS).part hs := by
  obtain ⟨f, rfl⟩ : ∃ f, n = f + 1 := ⟨n - 1, by omega⟩
  unfold madeV
  simp only [madeF]
  rw [if_pos trivial]
  rfl
theorem made_lo {m n : Nat} (h1 : 1 ≤ m) (h2 : m < n) (hm : m ≤ halfN n) (old : Nat) (wh : Bool) (hs : List Nat) : madeV m n old wh hs = (madeV m (halfN n) old wh hs).lo hs := by
  have hh := halfN_lt (n := n) (by omega)
  obtain ⟨f, hf⟩ : ∃ f, n = f + 1 := ⟨n - 1, by omega⟩
  unfold madeV
  conv => lhs; rw [hf]
  simp only [madeF]
  rw [← hf, if_neg (by omega), if_pos hm, madeF_ok f (halfN n) m (halfN n) old wh _ h1 hm (by omega) (Nat.le_refl _)]
theorem made_hi {m n : Nat} (h1 : 1 ≤ m) (h2 : m < n) (hm : halfN n < m) (old : Nat) (wh : Bool) (hs : List Nat) : madeV m n old wh hs = (madeV (m - halfN n) (n - halfN n) old false hs).hi hs := by
  have hh := halfN_lt (n := n) (by omega)
  obtain ⟨f, hf⟩ : ∃ f, n = f + 1 := ⟨n - 1, by omega⟩
  unfold madeV
  conv => lhs; rw [hf]
  simp only [madeF]
  rw [← hf, if_neg (by omega), if_neg (by omega), madeF_ok f (n - halfN n) (m - halfN n) (n - halfN n) old false _ (by omega) (by omega) (by omega) (Nat.le_refl _)]
/-- what both come to -/
def Fits (m n : Nat) (wh : Bool) (old : Nat) (hs : List Nat) (t : TwoS) : Prop :=
  (hs.length < cntV m n wh → t.short = true) ∧ (cntV m n wh ≤ hs.length → t.short = false ∧ t.taken = cntV m n wh ∧ (t.old, t.root) = ((twoV m n wh old (hs.take (cntV m n wh))).1, (twoV m n wh old (hs.take (cntV m n wh))).2.1)) ∧ t.taken ≤ hs.length ∧ (hs.length < cntV m n wh → t.taken = hs.length)
theorem take_snocN {hs : List Nat} {k : Nat} (h : k < hs.length) : (hs.take (k + 1)).length - 1 = k ∧ (hs.take (k + 1)).take k = hs.take k ∧ (hs.take (k + 1)).getD k 0 = hs.getD k 0 ∧ (hs.take (k + 1)).length ≠ 0 := by
  refine ⟨by rw [List.length_take]; omega, by rw [List.take_take, Nat.min_eq_left (by omega)], by simp [List.getD_eq_getElem?_getD], by rw [List.length_take]; omega⟩
theorem made_fits : ∀ (N m n old : Nat) (wh : Bool) (hs : List Nat), n ≤ N → 1 ≤ m → m ≤ n → Fits m n wh old hs (madeV m n old wh hs)
  | 0, m, n, _, _, _, h, h1, h2 => by omega
  | N + 1, m, n, old, wh, hs, h, h1, h2 => by
    by_cases c3 : m = n
    · subst c3
      unfold Fits
      rw [cnt_all h1]
      cases wh
      · rw [made_part h1]
        unfold TwoS.part
        rcases Nat.eq_zero_or_pos hs.length with h0 | h0
        · rw [next_none (show hs.length ≤ (⟨old, old, 0, false⟩ : TwoS).taken by show hs.length ≤ 0; omega)]
          refine ⟨fun _ => rfl, fun h3 => ?_, Nat.zero_le _, fun _ => h0.symm⟩
          have : 1 ≤ hs.length := h3
          omega
        · rw [next_some (show ¬ hs.length ≤ (⟨old, old, 0, false⟩ : TwoS).taken by show ¬ hs.length ≤ 0; omega)]
          refine ⟨fun h3 => ?_, fun _ => ⟨rfl, rfl, ?_⟩, h0, fun h3 => ?_⟩
          · have : hs.length < 1 := h3
            omega
          · obtain ⟨a, b, c, d⟩ := take_snocN (hs := hs) (k := 0) h0
            show _ = ((twoV m m false old (hs.take (0 + 1))).1, (twoV m m false old (hs.take (0 + 1))).2.1)
            rw [two_part h1 d, a, c]
          · have : hs.length < 1 := h3
            omega
      · rw [made_whole h1]
        refine ⟨fun h3 => absurd h3 (Nat.not_lt_zero _), fun _ => ⟨rfl, rfl, ?_⟩, Nat.zero_le _, fun h3 => absurd h3 (Nat.not_lt_zero _)⟩
        rw [two_whole h1]
    · have hh := halfN_lt (n := n) (by omega)
      by_cases c4 : m ≤ halfN n
      · obtain ⟨f1, f2, f3, f4⟩ := made_fits N m (halfN n) old wh hs (by omega) h1 c4
        unfold Fits
        rw [cnt_lo h1 (by omega) c4, made_lo h1 (by omega) c4]
        obtain ⟨t, ht⟩ : ∃ t, madeV m (halfN n) old wh hs = t := ⟨_, rfl⟩
        obtain ⟨c, hc⟩ : ∃ c, cntV m (halfN n) wh = c := ⟨_, rfl⟩
        rw [ht] at f1 f2 f3 f4 ⊢
        rw [hc] at f1 f2 f4 ⊢
        unfold TwoS.lo
        by_cases h5 : hs.length ≤ t.taken
        · rw [next_none h5]
          refine ⟨fun _ => rfl, fun h6 => ?_, f3, fun _ => ?_⟩
          · have := (f2 (by omega)).2.1
            omega
          · show t.taken = hs.length
            omega
        · rw [next_some h5]
          have h6 : c ≤ hs.length := by
            rcases Nat.lt_or_ge hs.length c with h7 | h7
            · have := f4 h7
              omega
            · exact h7
          obtain ⟨g1, g2, g3⟩ := f2 h6
          refine ⟨fun h7 => by omega, fun _ => ⟨g1, ?_, ?_⟩, by show t.taken + 1 ≤ _; omega, fun h7 => by omega⟩
          · show t.taken + 1 = c + 1
            rw [g2]
          · obtain ⟨a, b, cc, d⟩ := take_snocN (hs := hs) (k := c) (by omega)
            rw [two_lo h1 (by omega) d c4, a, b, cc, g2]
            injection g3 with g4 g5
            rw [← g4, ← g5]
      · obtain ⟨f1, f2, f3, f4⟩ := made_fits N (m - halfN n) (n - halfN n) old false hs (by omega) (by omega) (by omega)
        unfold Fits
        rw [cnt_hi h1 (by omega) (by omega), made_hi h1 (by omega) (by omega)]
        obtain ⟨t, ht⟩ : ∃ t, madeV (m - halfN n) (n - halfN n) old false hs = t := ⟨_, rfl⟩
        obtain ⟨c, hc⟩ : ∃ c, cntV (m - halfN n) (n - halfN n) false = c := ⟨_, rfl⟩
        rw [ht] at f1 f2 f3 f4 ⊢
        rw [hc] at f1 f2 f4 ⊢
        unfold TwoS.hi
        by_cases h5 : hs.length ≤ t.taken
        · rw [next_none h5]
          refine ⟨fun _ => rfl, fun h6 => ?_, f3, fun _ => ?_⟩
          · have := (f2 (by omega)).2.1
            omega
          · show t.taken = hs.length
            omega
        · rw [next_some h5]
          have h6 : c ≤ hs.length := by
            rcases Nat.lt_or_ge hs.length c with h7 | h7
            · have := f4 h7
              omega
            · exact h7
          obtain ⟨g1, g2, g3⟩ := f2 h6
          refine ⟨fun h7 => by omega, fun _ => ⟨g1, ?_, ?_⟩, by show t.taken + 1 ≤ _; omega, fun h7 => by omega⟩
          · show t.taken + 1 = c + 1
            rw [g2]
          · obtain ⟨a, b, cc, d⟩ := take_snocN (hs := hs) (k := c) (by omega)
            rw [two_hi h1 (by omega) d (by omega), a, b, cc, g2]
            injection g3 with g4 g5
            rw [← g4, ← g5]
/-- THE TWO JUDGEMENTS ARE ONE -/
def extB (m n : Nat) (old root : Nat) (hs : List Nat) : Bool := (twoV m n true old hs).2.2 && decide ((twoV m n true old hs).1 = old) && decide ((twoV m n true old hs).2.1 = root)
theorem made_judge {m n old root : Nat} {hs : List Nat} (h1 : 1 ≤ m) (h2 : m ≤ n) :
    (!(madeV m n old true hs).short && decide ((madeV m n old true hs).taken = hs.length) && decide ((madeV m n old true hs).old = old) && decide ((madeV m n old true hs).root = root)) = extB m n old root hs := by
  obtain ⟨f1, f2, f3, f4⟩ := made_fits n m n old true hs (Nat.le_refl _) h1 h2
  unfold extB
  rw [two_fit n m n true old hs (Nat.le_refl _) h1 h2]
  obtain ⟨t, ht⟩ : ∃ t, madeV m n old true hs = t := ⟨_, rfl⟩
  rw [ht] at f1 f2 f3 f4 ⊢
  rcases Nat.lt_trichotomy hs.length (cntV m n true) with h | h | h
  · rw [f1 h, decide_eq_false (by omega : ¬ hs.length = cntV m n true)]
    rfl
  · obtain ⟨g1, g2, g3⟩ := f2 (by omega)
    rw [List.take_of_length_le (by omega)] at g3
    injection g3 with g4 g5
    rw [g1, decide_eq_true (by omega : t.taken = hs.length), decide_eq_true h, g4, g5]
    rfl
  · obtain ⟨g1, g2, g3⟩ := f2 (by omega)
    rw [g1, decide_eq_false (by omega : ¬ t.taken = hs.length), decide_eq_false (by omega : ¬ hs.length = cntV m n true)]
    rfl
end Go.Proofs.YtbinmkigolkhcaaDoor
