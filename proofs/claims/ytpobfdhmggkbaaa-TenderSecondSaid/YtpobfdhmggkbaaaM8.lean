/- A single lot. -/
import Derived.Test.YtpobfdhmggkbaaaM7
namespace Go.Proofs.Ytpobfdhmggkbaaa
open Go.RowKit

/-- the first of the highest prices -/
def fmx (fl : List Int) : Nat → Nat
  | 0 => 0
  | k + 1 => if (offN fl k).price > (offN fl (fmx fl k)).price then k else fmx fl k
theorem fmx_spec (fl : List Int) : ∀ k, (0 < k → fmx fl k < k) ∧ (∀ i, i < k → (offN fl i).price ≤ (offN fl (fmx fl k)).price) ∧ ∀ i, i < fmx fl k → (offN fl i).price < (offN fl (fmx fl k)).price
  | 0 => ⟨fun h => absurd h (Nat.lt_irrefl 0), fun i h => absurd h (Nat.not_lt_zero i), fun i h => absurd h (Nat.not_lt_zero i)⟩
  | k + 1 => by
    obtain ⟨h1, h2, h3⟩ := fmx_spec fl k
    unfold fmx
    split
    · rename_i h
      refine ⟨fun _ => by omega, fun i hi => ?_, fun i hi => ?_⟩
      · by_cases e : i = k
        · rw [e]
          exact Int.le_refl _
        · have := h2 i (by omega)
          omega
      · have := h2 i hi
        omega
    · rename_i h
      refine ⟨fun _ => ?_, fun i hi => ?_, h3⟩
      · by_cases e : k = 0
        · subst e
          show 0 < 1
          omega
        · have := h1 (by omega)
          omega
      · by_cases e : i = k
        · subst e
          omega
        · exact h2 i (by omega)
/-- the highest price of another buyer than that of offer t -/
def sec (fl : List Int) (t : Nat) : Nat → Int
  | 0 => 0
  | k + 1 => if ((offN fl k).buyer != (offN fl t).buyer) = true then max (sec fl t k) (offN fl k).price else sec fl t k
theorem clash0 {o : Of} (h : 0 ≤ o.buyer) : clash o 0 0 = false := by
  rw [clash_no (Int.le_refl _) h]
  exact ⟨fun k hk => by simp at hk, by simp⟩
theorem one_worth {lots : Int} {fl : List Int} {n : Nat} (h : checkV lots fl n = 0) {i : Nat} (hi : i < n) : choiceV fl n [(i : Int)] = ((offN fl i).price, true) := by
  obtain ⟨hl, hn, hv⟩ := check_ok h
  rw [choice_chF hl hv]
  have hc := clash0 (valid_b hl (hv i hi)).1.1
  have e : chF fl n [(i : Int)] 0 0 0 = some (0 + (offN fl i).price) := by
    rw [chF, if_pos (by omega), Int.toNat_natCast, if_neg (by rw [hc]; decide)]
    rfl
  rw [e]
  show (0 + _, true) = _
  rw [Int.zero_add]
/-- offers that have a lot in common with one another -/
theorem few_pairs {ys : List Of} (hp : ys.Pairwise cpt) (h : ∀ o ∈ ys, o.lots.toNat.testBit 0 = true) : ys.length ≤ 1 := by
  match ys, hp, h with
  | [], _, _ => exact Nat.zero_le _
  | [_], _, _ => exact Nat.le_refl _
  | a :: b :: r, hp, h =>
    rw [List.pairwise_cons] at hp
    have := (hp.1 b (by simp)).2 0 (h a (by simp)) (h b (by simp))
    exact this.elim
theorem sum_one {ys : List Of} (h : ys.length ≤ 1) : sumP ys = 0 ∨ ∃ o ∈ ys, sumP ys = o.price := by
  match ys, h with
  | [], _ => exact .inl rfl
  | [o], _ => exact .inr ⟨o, by simp, by show 0 + o.price = _; omega⟩
theorem sec_max {lots : Int} {fl : List Int} {n : Nat} (h : checkV lots fl n = 0) (h1 : ∀ i, i < n → (offN fl i).lots = 1) (t : Nat) : wT ((ofsF fl 0 n).filter fun o => o.buyer != (offN fl t).buyer) 0 0 = sec fl t n := by
  have hok := check_okO h
  have hokf : ∀ o ∈ (ofsF fl 0 n).filter (fun o => o.buyer != (offN fl t).buyer), okO o := fun o ho => hok o (List.mem_filter.1 ho).1
  obtain ⟨ha, ys, hb, hc, hd⟩ := wT_max ((ofsF fl 0 n).filter fun o => o.buyer != (offN fl t).buyer) 0 0 (Int.le_refl _) hokf
  have hsec : ∀ k, k ≤ n → 0 ≤ sec fl t k ∧ (∀ i, i < k → (offN fl i).buyer ≠ (offN fl t).buyer → (offN fl i).price ≤ sec fl t k) ∧ (sec fl t k = 0 ∨ ∃ i, i < k ∧ (offN fl i).buyer ≠ (offN fl t).buyer ∧ sec fl t k = (offN fl i).price) := by
    intro k
    induction k with
    | zero => exact fun _ => ⟨Int.le_refl _, fun i h => absurd h (Nat.not_lt_zero i), .inl rfl⟩
    | succ k ih =>
      intro hk
      obtain ⟨p1, p2, p3⟩ := ih (by omega)
      unfold sec
      split
      · rename_i hb
        have hb : (offN fl k).buyer ≠ (offN fl t).buyer := by simpa using hb
        refine ⟨by omega, fun i hi hne => ?_, ?_⟩
        · by_cases e : i = k
          · subst e
            omega
          · have := p2 i (by omega) hne
            omega
        · by_cases hm : sec fl t k ≤ (offN fl k).price
          · refine .inr ⟨k, by omega, hb, by omega⟩
          · have e : max (sec fl t k) (offN fl k).price = sec fl t k := by omega
            rw [e]
            rcases p3 with p3 | ⟨i, q1, q2, q3⟩
            · exact .inl p3
            · exact .inr ⟨i, by omega, q2, q3⟩
      · rename_i hb
        have hb : (offN fl k).buyer = (offN fl t).buyer := by simpa using hb
        refine ⟨p1, fun i hi hne => ?_, ?_⟩
        · by_cases e : i = k
          · subst e
            exact absurd hb hne
          · exact p2 i (by omega) hne
        · rcases p3 with p3 | ⟨i, q1, q2, q3⟩
          · exact .inl p3
          · exact .inr ⟨i, by omega, q2, q3⟩
  obtain ⟨s1, s2, s3⟩ := hsec n (Nat.le_refl _)
  have mem : ∀ o, o ∈ (ofsF fl 0 n).filter (fun o => o.buyer != (offN fl t).buyer) ↔ ∃ i, i < n ∧ (offN fl i).buyer ≠ (offN fl t).buyer ∧ o = offN fl i := fun o => by
    rw [List.mem_filter, ofsF_mem]
    constructor
    · rintro ⟨⟨k, _, hk, rfl⟩, hne⟩
      exact ⟨k, by omega, by simpa using hne, rfl⟩
    · rintro ⟨i, hi, hne, rfl⟩
      exact ⟨⟨i, Nat.zero_le _, by omega, rfl⟩, by simpa using hne⟩
  have hle : wT ((ofsF fl 0 n).filter fun o => o.buyer != (offN fl t).buyer) 0 0 ≤ sec fl t n := by
    rw [← hd]
    have hlen : ys.length ≤ 1 := few_pairs hc.1 fun o ho => by
      obtain ⟨i, hi, _, rfl⟩ := (mem o).1 (hb.subset ho)
      rw [h1 i hi]
      decide
    rcases sum_one hlen with h0 | ⟨o, ho, h0⟩
    · rw [h0]
      exact s1
    · obtain ⟨i, hi, hne, rfl⟩ := (mem o).1 (hb.subset ho)
      rw [h0]
      exact s2 i hi hne
  have hge : sec fl t n ≤ wT ((ofsF fl 0 n).filter fun o => o.buyer != (offN fl t).buyer) 0 0 := by
    rcases s3 with h0 | ⟨i, hi, hne, h0⟩
    · rw [h0]
      exact ha [] (List.nil_sublist _) ⟨List.Pairwise.nil, fun o h => absurd h List.not_mem_nil⟩
    · rw [h0]
      have hm := (mem (offN fl i)).2 ⟨i, hi, hne, rfl⟩
      have := ha [offN fl i] (List.singleton_sublist.2 hm) ⟨List.pairwise_singleton _ _, fun o ho => by
        have : o = offN fl i := by simpa using ho
        rw [this]
        exact clash0 (hokf _ hm).1⟩
      show _ ≤ _
      have e : sumP [offN fl i] = (offN fl i).price := by show 0 + _ = _; omega
      omega
  omega
theorem single {fl : List Int} {n : Nat} (h : checkV 1 fl n = 0) (hn : 0 < n) : decT 1 fl n = [(fmx fl n : Int)] ∧ decP 1 fl n = [sec fl (fmx fl n) n] ∧ decW 1 fl n = (offN fl (fmx fl n)).price := by
  obtain ⟨hl, hn16, hv⟩ := check_ok h
  have h1 : ∀ i, i < n → (offN fl i).lots = 1 := fun i hi => by
    have := hv i hi
    simp only [validO, Bool.and_eq_true, decide_eq_true_eq] at this
    have e : (2 : Int) ^ (1 : Int).toNat = 2 := by decide
    omega
  obtain ⟨ht1, ht2, ht3, ht4⟩ := took h
  have hlen : (pick fl (bestV 1 fl n).1).length ≤ 1 := few_pairs ht2.1 fun o ho => by
    obtain ⟨y, hy, rfl⟩ := List.mem_map.1 ho
    rw [h1 y.toNat (by have := ht4 y hy; omega)]
    decide
  have hlen' : (bestV 1 fl n).1.length ≤ 1 := by rwa [pick, List.length_map] at hlen
  have hpr : ∀ i, i < n → 1 ≤ (offN fl i).price := fun i hi => (valid_b hl (hv i hi)).2.2.1
  have hth : ∀ i, i < n → (offN fl i).price ≤ (bestV 1 fl n).2.1 ∧ ((offN fl i).price = (bestV 1 fl n).2.1 → ord (bestV 1 fl n).1 [(i : Int)]) := fun i hi => by
    have e := one_worth h hi
    have := worth_theirs h [(i : Int)] (by rw [e])
    rw [e] at this
    exact this
  obtain ⟨f1, f2, f3⟩ := fmx_spec fl n
  have hf := f1 hn
  have key : (bestV 1 fl n).1 = [(fmx fl n : Int)] := by
    match hT : (bestV 1 fl n).1, hlen' with
    | [], _ =>
      rw [hT] at ht3
      have e0 : (bestV 1 fl n).2.1 = 0 := ht3.symm
      have := (hth 0 hn).1
      have := hpr 0 hn
      omega
    | [t], _ =>
      rw [hT] at ht3 ht4
      obtain ⟨q1, q2⟩ := ht4 t (by simp)
      have e0 : (bestV 1 fl n).2.1 = (offN fl t.toNat).price := by
        rw [← ht3]
        show 0 + (offN fl t.toNat).price = _
        exact Int.zero_add _
      have a1 := (hth (fmx fl n) hf)
      have a2 := f2 t.toNat (by omega)
      have a3 : ord [t] [(fmx fl n : Int)] := by
        have := a1.2 (by have := a1.1; omega)
        rwa [hT] at this
      have a4 : t ≤ (fmx fl n : Int) := by
        rcases a3 with h | ⟨h, _⟩ <;> omega
      have a5 : ¬ t.toNat < fmx fl n := fun h => by
        have := f3 t.toNat h
        have := a1.1
        omega
      have : t = (fmx fl n : Int) := by omega
      rw [this]
  have hW : decW 1 fl n = (offN fl (fmx fl n)).price := by
    show (bestV 1 fl n).2.1 = _
    rw [← ht3, key]
    show 0 + (offN fl ((fmx fl n : Int)).toNat).price = _
    rw [Int.toNat_natCast]
    omega
  refine ⟨key, ?_, hW⟩
  have hp := pay_w h (i := (fmx fl n : Int)) (by omega)
  rw [Int.toNat_natCast, sec_max h h1] at hp
  have hW' : (bestV 1 fl n).2.1 = (offN fl (fmx fl n)).price := hW
  rw [decP, key]
  show [_] = _
  rw [show payO fl n (bestV 1 fl n).2.1 (fmx fl n : Int) = sec fl (fmx fl n) n by omega]
end Go.Proofs.Ytpobfdhmggkbaaa
