/- Choices as lists of offers: what the greatest worth is. -/
import Derived.Test.YtpobfdhmggkbaaaM2
namespace Go.Proofs.Ytpobfdhmggkbaaa
open Go.RowKit

/-- no lot in common, and not of one buyer -/
def cpt (o p : Of) : Prop := o.buyer ≠ p.buyer ∧ ∀ k, o.lots.toNat.testBit k = true → p.lots.toNat.testBit k = true → False
def okO (o : Of) : Prop := 0 ≤ o.buyer ∧ 0 ≤ o.price
def Cho (ys : List Of) (g sv : Int) : Prop := ys.Pairwise cpt ∧ ∀ o ∈ ys, clash o g sv = false
def sumP : List Of → Int
  | [] => 0
  | o :: os => sumP os + o.price
def wT : List Of → Int → Int → Int
  | [], _, _ => 0
  | o :: os, g, sv => if clash o g sv = true then wT os g sv else if wT os (ior g o.lots) (ior sv (bit o.buyer)) + o.price < wT os g sv then wT os g sv else wT os (ior g o.lots) (ior sv (bit o.buyer)) + o.price
theorem iand_ne (a b : Int) : (iand a b != 0) = true ↔ ∃ k, a.toNat.testBit k = true ∧ b.toNat.testBit k = true := by
  show ((((a.toNat &&& b.toNat : Nat) : Int)) != 0) = true ↔ _
  constructor
  · intro h
    have h1 : a.toNat &&& b.toNat ≠ 0 := by
      intro h2
      rw [h2] at h
      cases h
    obtain ⟨k, hk⟩ := Nat.exists_testBit_of_ne_zero h1
    rw [Nat.testBit_and, Bool.and_eq_true] at hk
    exact ⟨k, hk⟩
  · rintro ⟨k, h1, h2⟩
    rw [bne_iff_ne]
    intro h3
    have h4 : a.toNat &&& b.toNat = 0 := by omega
    have h5 : (a.toNat &&& b.toNat).testBit k = true := by rw [Nat.testBit_and, h1, h2]; rfl
    rw [h4] at h5
    simp at h5
theorem ior_tb (a b : Int) (k : Nat) : (ior a b).toNat.testBit k = (a.toNat.testBit k || b.toNat.testBit k) := by
  show (((a.toNat ||| b.toNat : Nat) : Int)).toNat.testBit k = _
  rw [Int.toNat_natCast, Nat.testBit_or]
theorem ior_pos (a b : Int) : 0 ≤ ior a b := by
  show (0 : Int) ≤ ((_ : Nat) : Int)
  omega
theorem bit_tb (b : Int) (k : Nat) : (bit b).toNat.testBit k = decide (b.toNat = k) := by
  have e : (bit b).toNat = 2 ^ b.toNat := by
    show (1 * (2 : Int) ^ b.toNat).toNat = 2 ^ b.toNat
    have : ((2 ^ b.toNat : Nat) : Int) = 2 ^ b.toNat := by simp
    rw [Int.one_mul, ← this, Int.toNat_natCast]
  rw [e, Nat.testBit_two_pow]
theorem bit_pos (b : Int) : 0 ≤ bit b := by
  show 0 ≤ 1 * (2 : Int) ^ b.toNat
  have : ((2 ^ b.toNat : Nat) : Int) = 2 ^ b.toNat := by simp
  rw [Int.one_mul, ← this]
  exact Int.natCast_nonneg _
theorem shr_tb {sv b : Int} (hs : 0 ≤ sv) (hb : 0 ≤ b) : (iand (shr sv b) 1 == 1) = sv.toNat.testBit b.toNat := by
  have h := bitk_eq hs b.toNat
  rw [bitk, Int.toNat_of_nonneg hb] at h
  exact h
theorem clash_iff {o : Of} {g sv : Int} (hs : 0 ≤ sv) (hb : 0 ≤ o.buyer) : clash o g sv = true ↔ (∃ k, g.toNat.testBit k = true ∧ o.lots.toNat.testBit k = true) ∨ sv.toNat.testBit o.buyer.toNat = true := by
  rw [clash, Bool.or_eq_true, iand_ne, shr_tb hs hb]
theorem clash_no {o : Of} {g sv : Int} (hs : 0 ≤ sv) (hb : 0 ≤ o.buyer) : clash o g sv = false ↔ (∀ k, g.toNat.testBit k = true → o.lots.toNat.testBit k = true → False) ∧ sv.toNat.testBit o.buyer.toNat = false := by
  constructor
  · intro h
    have h1 : ¬ clash o g sv = true := by rw [h]; decide
    rw [clash_iff hs hb] at h1
    refine ⟨fun k a b => h1 (.inl ⟨k, a, b⟩), ?_⟩
    cases h2 : sv.toNat.testBit o.buyer.toNat
    · rfl
    · exact absurd (.inr h2) h1
  · rintro ⟨h1, h2⟩
    cases h : clash o g sv
    · rfl
    · rcases (clash_iff hs hb).1 h with ⟨k, a, b⟩ | h3
      · exact (h1 k a b).elim
      · rw [h2] at h3
        cases h3
theorem clash_up {o p : Of} {g sv : Int} (hs : 0 ≤ sv) (ho : 0 ≤ o.buyer) (hp : 0 ≤ p.buyer) : clash p (ior g o.lots) (ior sv (bit o.buyer)) = false ↔ clash p g sv = false ∧ cpt o p := by
  rw [clash_no (ior_pos _ _) hp, clash_no hs hp, ior_tb, bit_tb]
  constructor
  · rintro ⟨h1, h2⟩
    rw [Bool.or_eq_false_iff, decide_eq_false_iff_not] at h2
    refine ⟨⟨fun k a b => h1 k (by rw [ior_tb, a]; rfl) b, h2.1⟩, fun h => h2.2 (by rw [h]), fun k a b => h1 k (by rw [ior_tb, a, Bool.or_true]) b⟩
  · rintro ⟨⟨h1, h2⟩, h3, h4⟩
    refine ⟨fun k a b => ?_, ?_⟩
    · rw [ior_tb, Bool.or_eq_true] at a
      rcases a with a | a
      · exact h1 k a b
      · exact h4 k a b
    · rw [h2, decide_eq_false (by omega)]
      rfl
theorem Cho_cons {o : Of} {ys : List Of} {g sv : Int} (hs : 0 ≤ sv) (ho : 0 ≤ o.buyer) (hy : ∀ p ∈ ys, 0 ≤ p.buyer) : Cho (o :: ys) g sv ↔ clash o g sv = false ∧ Cho ys (ior g o.lots) (ior sv (bit o.buyer)) := by
  unfold Cho
  rw [List.pairwise_cons]
  constructor
  · rintro ⟨⟨h1, h2⟩, h3⟩
    exact ⟨h3 o (List.mem_cons_self ..), h2, fun p hp => (clash_up hs ho (hy p hp)).2 ⟨h3 p (List.mem_cons_of_mem _ hp), h1 p hp⟩⟩
  · rintro ⟨h1, h2, h3⟩
    refine ⟨⟨fun p hp => ((clash_up hs ho (hy p hp)).1 (h3 p hp)).2, h2⟩, fun p hp => ?_⟩
    rcases List.mem_cons.1 hp with rfl | hp
    · exact h1
    · exact ((clash_up hs ho (hy p hp)).1 (h3 p hp)).1
theorem wT_max : ∀ (os : List Of) (g sv : Int), 0 ≤ sv → (∀ o ∈ os, okO o) → (∀ ys, ys.Sublist os → Cho ys g sv → sumP ys ≤ wT os g sv) ∧ ∃ ys, ys.Sublist os ∧ Cho ys g sv ∧ sumP ys = wT os g sv
  | [], g, sv, _, _ => by
    refine ⟨fun ys h _ => ?_, [], List.Sublist.refl _, ⟨List.Pairwise.nil, fun o h => absurd h List.not_mem_nil⟩, rfl⟩
    rw [List.sublist_nil.1 h]
    exact Int.le_refl _
  | o :: os, g, sv, hs, hok => by
    have hoo := hok o (List.mem_cons_self ..)
    have hos : ∀ p ∈ os, okO p := fun p hp => hok p (List.mem_cons_of_mem _ hp)
    obtain ⟨a1, y1, b1, c1, d1⟩ := wT_max os g sv hs hos
    obtain ⟨a2, y2, b2, c2, d2⟩ := wT_max os (ior g o.lots) (ior sv (bit o.buyer)) (ior_pos _ _) hos
    rw [wT]
    split
    · rename_i hc
      refine ⟨fun ys h hch => ?_, y1, b1.cons _, c1, d1⟩
      cases h with
      | cons _ h => exact a1 ys h hch
      | cons_cons _ h =>
        have := hch.2 o (List.mem_cons_self ..)
        rw [hc] at this
        cases this
    · rename_i hc
      have hcf : clash o g sv = false := by simpa using hc
      have up : ∀ ys, ys.Sublist (o :: os) → Cho ys g sv → sumP ys ≤ wT os g sv ∨ sumP ys ≤ wT os (ior g o.lots) (ior sv (bit o.buyer)) + o.price := by
        intro ys h hch
        cases h with
        | cons _ h => exact .inl (a1 ys h hch)
        | @cons_cons l1 _ _ h =>
          refine .inr ?_
          have := a2 l1 h ((Cho_cons hs hoo.1 fun p hp => (hos p (h.subset hp)).1).1 hch).2
          show sumP l1 + o.price ≤ _
          omega
      split
      · exact ⟨fun ys h hch => by have := up ys h hch; omega, y1, b1.cons _, c1, d1⟩
      · exact ⟨fun ys h hch => by have := up ys h hch; omega, o :: y2, b2.cons_cons _, (Cho_cons hs hoo.1 fun p hp => (hos p (b2.subset hp)).1).2 ⟨hcf, c2⟩, by show sumP y2 + o.price = _; rw [d2]⟩
/-- the offers from i on -/
def ofsF (fl : List Int) : Nat → Nat → List Of
  | _, 0 => []
  | i, r + 1 => offN fl i :: ofsF fl (i + 1) r
theorem ofsF_len (fl : List Int) : ∀ (r i : Nat), (ofsF fl i r).length = r
  | 0, _ => rfl
  | r + 1, i => by rw [ofsF, List.length_cons, ofsF_len fl r]
theorem ofsF_mem {fl : List Int} {o : Of} : ∀ {r i : Nat}, o ∈ ofsF fl i r ↔ ∃ k, i ≤ k ∧ k < i + r ∧ o = offN fl k
  | 0, i => by
    constructor
    · intro h
      cases h
    · rintro ⟨k, h1, h2, _⟩
      omega
  | r + 1, i => by
    rw [ofsF, List.mem_cons, ofsF_mem (r := r) (i := i + 1)]
    constructor
    · rintro (rfl | ⟨k, h1, h2, h3⟩)
      · exact ⟨i, Nat.le_refl _, by omega, rfl⟩
      · exact ⟨k, by omega, by omega, h3⟩
    · rintro ⟨k, h1, h2, h3⟩
      by_cases h : k = i
      · subst h
        exact .inl h3
      · exact .inr ⟨k, by omega, by omega, h3⟩
theorem wT_srL (fl : List Int) : ∀ (r i : Nat) (g sv : Int), (srL fl r i g sv).2 = wT (ofsF fl i r) g sv
  | 0, _, _, _ => rfl
  | r + 1, i, g, sv => by
    rw [srL, ofsF, wT, ← wT_srL fl r, ← wT_srL fl r]
    split
    · rfl
    · split <;> rfl
theorem srch_wT (fl : List Int) (r i : Nat) (g sv : Int) : (srch fl r i g sv).2 = wT (ofsF fl i r) g sv := by rw [← srL_2, wT_srL]
/-- a buyer barred is a buyer without offers -/
theorem wT_bar {b : Int} : ∀ (os : List Of) (g sv sv' : Int), 0 ≤ sv → 0 ≤ sv' → (∀ o ∈ os, okO o) → (∀ k : Nat, sv'.toNat.testBit k = (sv.toNat.testBit k || decide ((k : Int) = b))) → wT os g sv' = wT (os.filter fun o => o.buyer != b) g sv
  | [], _, _, _, _, _, _, _ => rfl
  | o :: os, g, sv, sv', h1, h2, hok, hr => by
    have hoo := (hok o (List.mem_cons_self ..)).1
    have hos : ∀ p ∈ os, okO p := fun p hp => hok p (List.mem_cons_of_mem _ hp)
    have e1 := wT_bar os g sv sv' h1 h2 hos hr
    have hd : ((o.buyer.toNat : Nat) : Int) = o.buyer := Int.toNat_of_nonneg hoo
    by_cases hb : o.buyer = b
    · have hc : clash o g sv' = true := (clash_iff h2 hoo).2 (.inr (by rw [hr, hd, decide_eq_true hb, Bool.or_true]))
      rw [wT, if_pos hc, List.filter_cons_of_neg (by simp [hb]), e1]
    · have hc : clash o g sv' = clash o g sv := by
        cases h : clash o g sv
        · obtain ⟨h3, h4⟩ := (clash_no h1 hoo).1 h
          exact (clash_no h2 hoo).2 ⟨h3, by rw [hr, h4, hd, decide_eq_false hb]; rfl⟩
        · rcases (clash_iff h1 hoo).1 h with h3 | h3
          · exact (clash_iff h2 hoo).2 (.inl h3)
          · exact (clash_iff h2 hoo).2 (.inr (by rw [hr, h3]; rfl))
      have e2 := wT_bar (b := b) os (ior g o.lots) (ior sv (bit o.buyer)) (ior sv' (bit o.buyer)) (ior_pos _ _) (ior_pos _ _) hos fun k => by
        rw [ior_tb, ior_tb, hr]
        cases sv.toNat.testBit k <;> cases (bit o.buyer).toNat.testBit k <;> simp
      rw [wT, hc, List.filter_cons_of_pos (by simp [hb]), wT, e1, e2]
theorem bar0 {b : Int} (h : 0 ≤ b) : ∀ k : Nat, (bit b).toNat.testBit k = ((0 : Int).toNat.testBit k || decide ((k : Int) = b)) := by
  intro k
  rw [bit_tb]
  simp
  omega
theorem bar_none {b : Int} {os : List Of} (h : ∀ o ∈ os, o.buyer ≠ b) : (os.filter fun o => o.buyer != b) = os := List.filter_eq_self.2 fun o ho => by simp [h o ho]

/-! ### indexes -/
def chF (fl : List Int) (n : Nat) : List Int → Nat → Int → Int → Option Int
  | [], _, _, _ => some 0
  | y :: ys, i, g, sv => if (i : Int) ≤ y ∧ y < n then if clash (offN fl y.toNat) g sv = true then none
      else (chF fl n ys (y.toNat + 1) (ior g (offN fl y.toNat).lots) (ior sv (bit (offN fl y.toNat).buyer))).map fun w => w + (offN fl y.toNat).price else none
theorem chF_down {fl : List Int} {n : Nat} {ys : List Int} {i j : Nat} {g sv w : Int} (h : chF fl n ys j g sv = some w) (hij : i ≤ j) : chF fl n ys i g sv = some w := by
  cases ys with
  | nil => exact h
  | cons y ys =>
    rw [chF] at h ⊢
    split at h <;> try (cases h; done)
    rename_i h1
    rw [if_pos (by omega)]
    exact h
theorem srL_self {fl : List Int} {n : Nat} : ∀ (r i : Nat) (g sv : Int), i + r = n → chF fl n (srL fl r i g sv).1 i g sv = some (srL fl r i g sv).2
  | 0, _, _, _, _ => rfl
  | r + 1, i, g, sv, hi => by
    have e1 := srL_self (fl := fl) (n := n) r (i + 1) g sv (by omega)
    have e2 := srL_self (fl := fl) (n := n) r (i + 1) (ior g (offN fl i).lots) (ior sv (bit (offN fl i).buyer)) (by omega)
    rw [srL]
    split
    · exact chF_down e1 (Nat.le_succ _)
    · rename_i hc
      split
      · exact chF_down e1 (Nat.le_succ _)
      · rw [chF, if_pos (by omega), Int.toNat_natCast, if_neg hc, e2]
        rfl
/-- first in the order in which the offers of lower indexes are preferred -/
def ord : List Int → List Int → Prop
  | _, [] => True
  | [], _ :: _ => False
  | x :: xs, y :: ys => x < y ∨ (x = y ∧ ord xs ys)
theorem srL_top {fl : List Int} {n : Nat} (hp : ∀ i, i < n → 1 ≤ (offN fl i).price) : ∀ (r i : Nat) (g sv : Int) (ys : List Int) (w : Int), i + r = n → chF fl n ys i g sv = some w → w ≤ (srL fl r i g sv).2 ∧ (w = (srL fl r i g sv).2 → ord (srL fl r i g sv).1 ys)
  | 0, i, g, sv, ys, w, hi, h => by
    cases ys with
    | nil =>
      injection h with h
      subst h
      exact ⟨Int.le_refl _, fun _ => trivial⟩
    | cons y ys =>
      rw [chF, if_neg (by omega)] at h
      cases h
  | r + 1, i, g, sv, ys, w, hi, h => by
    have h0 := (scan_evS hp (r + 1) i g sv hi).1
    cases ys with
    | nil =>
      injection h with h
      subst h
      exact ⟨h0, fun _ => by cases (srL fl (r + 1) i g sv).1 <;> exact trivial⟩
    | cons y ys =>
      by_cases hy : y = i
      · subst hy
        rw [chF] at h
        split at h <;> try (cases h; done)
        split at h <;> try (cases h; done)
        rename_i h1 hc
        rw [Int.toNat_natCast] at h hc
        cases he : chF fl n ys (i + 1) (ior g (offN fl i).lots) (ior sv (bit (offN fl i).buyer)) with
        | none => rw [he] at h; cases h
        | some v =>
          rw [he] at h
          injection h with h
          subst h
          obtain ⟨h2, h3⟩ := srL_top hp r (i + 1) _ _ ys v (by omega) he
          rw [srL, if_neg hc]
          split
          · rename_i h4
            exact ⟨by dsimp only; omega, fun h5 => by dsimp only at h5; omega⟩
          · rename_i h4
            exact ⟨by dsimp only; omega, fun h5 => .inr ⟨rfl, h3 (by dsimp only at h5; omega)⟩⟩
      · have hi1 : chF fl n (y :: ys) (i + 1) g sv = some w := by
          rw [chF] at h ⊢
          split at h <;> try (cases h; done)
          rename_i h1
          rw [if_pos (by omega)]
          exact h
        have hlt : (i : Int) < y := by
          rw [chF] at hi1
          split at hi1 <;> try (cases hi1; done)
          omega
        obtain ⟨h2, h3⟩ := srL_top hp r (i + 1) g sv (y :: ys) w (by omega) hi1
        rw [srL]
        split
        · exact ⟨h2, h3⟩
        · split
          · exact ⟨h2, h3⟩
          · exact ⟨by dsimp only; omega, fun h5 => .inl hlt⟩
/-- the offers of indexes -/
def pick (fl : List Int) (ys : List Int) : List Of := ys.map fun y => offN fl y.toNat
theorem chF_pick {fl : List Int} {n : Nat} (hb : ∀ i, i < n → 0 ≤ (offN fl i).buyer) : ∀ (ys : List Int) (i r : Nat) (g sv w : Int), 0 ≤ sv → i + r = n → chF fl n ys i g sv = some w → (pick fl ys).Sublist (ofsF fl i r) ∧ Cho (pick fl ys) g sv ∧ sumP (pick fl ys) = w ∧ ∀ y ∈ ys, (i : Int) ≤ y ∧ y < n
  | [], i, r, g, sv, w, _, hi, h => by
    injection h with h
    subst h
    exact ⟨List.nil_sublist _, ⟨List.Pairwise.nil, fun o h => absurd h List.not_mem_nil⟩, rfl, fun y h => absurd h List.not_mem_nil⟩
  | y :: ys, i, r, g, sv, w, hs, hi, h => by
    rw [chF] at h
    split at h <;> try (cases h; done)
    split at h <;> try (cases h; done)
    rename_i h1 hc
    cases he : chF fl n ys (y.toNat + 1) (ior g (offN fl y.toNat).lots) (ior sv (bit (offN fl y.toNat).buyer)) with
    | none => rw [he] at h; cases h
    | some v =>
      rw [he] at h
      injection h with h
      obtain ⟨a, b, c, d⟩ := chF_pick hb ys (y.toNat + 1) (n - (y.toNat + 1)) _ _ v (ior_pos _ _) (by omega) he
      have hk : ∀ (k r : Nat), i + k + r = n → (ofsF fl (i + k) r).Sublist (ofsF fl i (k + r)) := by
        intro k
        induction k with
        | zero => intro r _; rw [Nat.add_zero, Nat.zero_add]; exact List.Sublist.refl _
        | succ k ih =>
          intro r hr
          have := ih (r + 1) (by omega)
          rw [ofsF] at this
          have e : k + 1 + r = k + (r + 1) := by omega
          rw [e]
          exact ((List.sublist_cons_self _ _).trans this)
      have hsub := hk (y.toNat - i) (n - y.toNat) (by omega)
      rw [show i + (y.toNat - i) = y.toNat by omega, show y.toNat - i + (n - y.toNat) = r by omega, show n - y.toNat = n - (y.toNat + 1) + 1 by omega, ofsF] at hsub
      refine ⟨(a.cons_cons _).trans hsub, (Cho_cons hs (hb _ (by omega)) fun p hp => ?_).2 ⟨by simpa using hc, b⟩, by show sumP (pick fl ys) + _ = w; rw [c]; exact h, fun z hz => ?_⟩
      · obtain ⟨z, hz, rfl⟩ := List.mem_map.1 hp
        have := d z hz
        exact hb _ (by omega)
      · rcases List.mem_cons.1 hz with rfl | hz
        · exact h1
        · have := d z hz
          omega
end Go.Proofs.Ytpobfdhmggkbaaa
