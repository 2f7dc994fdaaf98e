/- The award compared; the specification's Good; a seal that does not fit. -/
import Derived.Test.YtpobfdhmggkbaaaZF
import Derived.Test.YtpobfdhmggkbaaaV11
import Derived.Test.YtpobfdhmggkbaaaV7
namespace Go.Proofs.Ytpobfdhmggkbaaa
open Go.RowKit Go.Sort Go.BigFrame
theorem dec_bd {lots : Int} {fl : List Int} {n : Nat} (h : checkV lots fl n = 0) : (∀ x ∈ decT lots fl n, -9223372036854775808 ≤ x ∧ x ≤ 9223372036854775807) ∧ (∀ x ∈ decP lots fl n, -9223372036854775808 ≤ x ∧ x ≤ 9223372036854775807) ∧ (decT lots fl n).length ≤ 1000 ∧ (decP lots fl n).length ≤ 1000 := by
  obtain ⟨hl, hn, hv⟩ := check_ok h
  obtain ⟨h1, h2, h3⟩ := best_bd h
  have hlen := best_len lots fl n
  refine ⟨fun x hx => ?_, fun x hx => ?_, by unfold decT; omega, by unfold decP; rw [List.length_map]; omega⟩
  · have := h1 x hx
    omega
  · unfold decP at hx
    obtain ⟨i, hi, rfl⟩ := List.mem_map.1 hx
    have hb := h1 i hi
    obtain ⟨_, s2, s3⟩ := srch_bd hl hn hv n 0 0 (bit (offN fl i.toNat).buyer) (by omega)
    obtain ⟨_, _, p1, p2⟩ := valid_b hl (hv i.toNat (by omega))
    unfold payO
    omega
theorem award_w (w : World) (B : Nat) (u u' : Value) (T P : List Int) (wt : Int) (h : AwAt B w u T P wt) {B' : Nat} (h' : AwAt B' w u' T P wt) (hT : ∀ x ∈ T, -9223372036854775808 ≤ x ∧ x ≤ 9223372036854775807) (hP : ∀ x ∈ P, -9223372036854775808 ≤ x ∧ x ≤ 9223372036854775807) (lT : T.length ≤ 1000) (lP : P.length ≤ 1000) :
    Calls Try.prog 24 #[u, u'] w (fun e w' => e = .returned (.bool true) ∧ Below w.heap.size w w') := by
  obtain ⟨a1, n1, c1, a2, n2, c2, rfl, q1, q2, q3, q4, i1, i2, -, -⟩ := h.isA
  obtain ⟨a3, n3, c3, a4, n4, c4, rfl, q5, q6, q7, q8, i3, i4, -, -⟩ := h'.isA
  have key : ∀ (xs : List Int), (∀ x ∈ xs, -9223372036854775808 ≤ x ∧ x ≤ 9223372036854775807) → ∀ j, j < xs.length → -9223372036854775808 ≤ iA xs j ∧ iA xs j ≤ 9223372036854775807 := fun xs hx j hj => hx _ (by
    unfold iA
    rw [List.getD_eq_getElem?_getD, List.getElem?_eq_getElem hj]
    exact List.getElem_mem _)
  have e1 := i1.1
  have e2 := i2.1
  have e3 := i3.1
  have e4 := i4.1
  have r1 := rin_ints i1 q1 q2 (fun j hj => key T hT j (by omega))
  have r2 := rin_ints i2 q3 q4 (fun j hj => key P hP j (by omega))
  have r3 := rin_ints i3 q5 q6 (fun j hj => key T hT j (by omega))
  have r4 := rin_ints i4 q7 q8 (fun j hj => key P hP j (by omega))
  have hc := award_c T P T P wt wt lT lP
  refine (calls_of (ra := #[.agg #[.slice a1 n1 c1, .slice a2 n2 c2, .int .i64 wt], .agg #[.slice a3 n3 c3, .slice a4 n4 c4, .int .i64 wt]]) (l := [⟨3, 1, a1, n1, c1, T, .int .i64⟩, ⟨3, 1, a2, n2, c2, P, .int .i64⟩, ⟨3, 1, a3, n3, c3, T, .int .i64⟩, ⟨3, 1, a4, n4, c4, P, .int .i64⟩]) hc (by
    intro r hr
    simp at hr
    rcases hr with rfl | rfl | rfl | rfl
    · exact r1
    · exact r2
    · exact r3
    · exact r4) ⟨⟨_, rfl, by rw [e1]; exact slc_of (i := 0) rfl r1, by rw [e2]; exact slc_of (i := 1) rfl r2, rfl, trivial⟩, ⟨_, rfl, by rw [e3]; exact slc_of (i := 2) rfl r3, by rw [e4]; exact slc_of (i := 3) rfl r4, rfl, trivial⟩, trivial⟩ rfl).mono ?_
  rintro e w' ⟨u, v, ρ, rfl, rfl, hr, hg⟩
  have hr : u = .bool (decide (T = T ∧ P = P ∧ wt = wt)) := hr
  exact ⟨by rw [hr]; simp, hg⟩
theorem validO_eq (lots : Nat) (o : Ofr) : validO (lots : Int) ⟨o.1, o.2.1, o.2.2⟩ = validB lots o := by
  unfold validB validO
  have e : ((2 : Int) ^ lots) = ((2 ^ lots : Nat) : Int) := by simp
  simp only [Int.toNat_natCast, e, Bool.and_assoc]
theorem Good_w (w : World) (lots : Nat) (h1 : 1 ≤ lots) (h2 : lots ≤ 12) (o : Ofr) : Calls Try.prog 46 #[.int .i64 lots, ofV o] w (fun e w' => e = .returned (.bool (validB lots o)) ∧ Below w.heap.size w w') := by
  have hc := good_c (lots : Int) ⟨o.1, o.2.1, o.2.2⟩ ⟨by omega, by omega⟩
  refine (calls_of (ra := #[.int .i64 lots, ofV o]) (l := []) (K := fun v => v = .boo (validO (lots : Int) ⟨o.1, o.2.1, o.2.2⟩)) hc (by intro r hr; cases hr) ⟨rfl, ⟨_, rfl, rfl, rfl, rfl, trivial⟩, trivial⟩ rfl).mono ?_
  rintro e w' ⟨u, v, ρ, rfl, rfl, hr, hg⟩
  have hr : u = .bool (validO (lots : Int) ⟨o.1, o.2.1, o.2.2⟩) := hr
  exact ⟨by rw [hr, validO_eq], hg⟩
/-- the tender with k shows, in a turned order -/
structure BdK (S : Nat → List Ofr) (sl : Nat → Nat) (t lots k : Nat) (v : TdV) : Prop where
  lots : v.lots = lots
  state : v.state = 1
  given : v.given = [true, true, true, true, false, false, false, false]
  seals : v.seals = [sealW (S 0) (sl 0), sealW (S 1) (sl 1), sealW (S 2) (sl 2), sealW (S 3) (sl 3), 0, 0, 0, 0]
  shown : ∀ j, j < 8 → v.shown.getD j false = (List.range k).any fun i => (i + t) % 4 == j
  slen : v.shown.length = 8
  count : v.count = ((List.range k).flatMap fun i => S ((i + t) % 4)).length
  offs : v.offers.take v.count = (List.range k).flatMap fun i => S ((i + t) % 4)
  len : v.offers.length = 16
theorem bdK_succ {S : Nat → List Ofr} {sl : Nat → Nat} {t lots k : Nat} {v : TdV} (h : BdK S sl t lots k v) (hk : k < 4) (hS : ∀ j, (S j).length ≤ 2) : BdK S sl t lots (k + 1) (v.showed ((k + t) % 4) (S ((k + t) % 4))) := by
  have hl := h.len
  have hc := h.count
  have hsl := h.slen
  have hflat : ∀ m, ((List.range m).flatMap fun i => S ((i + t) % 4)).length ≤ 2 * m := by
    intro m
    induction m with
    | zero => simp
    | succ m ih =>
      have e : ([m].flatMap fun i => S ((i + t) % 4)) = S ((m + t) % 4) := by simp
      rw [List.range_succ, List.flatMap_append, List.length_append, e]
      have := hS ((m + t) % 4)
      omega
  have h1 := hflat k
  have h2 := hS ((k + t) % 4)
  have hcn : (v.showed ((k + t) % 4) (S ((k + t) % 4))).count = v.count + (S ((k + t) % 4)).length := rfl
  have ho : (v.showed ((k + t) % 4) (S ((k + t) % 4))).offers = v.offers.take v.count ++ (S ((k + t) % 4) ++ v.offers.drop (v.count + (S ((k + t) % 4)).length)) := rfl
  refine ⟨h.lots, h.state, h.given, h.seals, fun j hj => ?_, ?_, ?_, ?_, ?_⟩
  · show (v.shown.set ((k + t) % 4) true).getD j false = _
    rw [List.getD_eq_getElem?_getD, List.getElem?_set]
    rw [List.range_succ, List.any_append]
    by_cases e : (k + t) % 4 = j
    · rw [if_pos e, if_pos (by omega)]
      simp [e]
    · rw [if_neg e, ← List.getD_eq_getElem?_getD, h.shown j hj]
      simp [e]
  · show (v.shown.set ((k + t) % 4) true).length = 8
    rw [List.length_set, hsl]
  · rw [hcn, List.range_succ, List.flatMap_append, List.length_append, ← hc]
    simp
  · rw [hcn, ho, ← List.append_assoc, List.take_left' (by simp; omega), h.offs, List.range_succ, List.flatMap_append]
    simp
  · rw [ho]
    simp
    omega
/-- all that was shown, by buyers -/
theorem sort_B {S : Nat → List Ofr} (hS : ∀ j, ∀ o ∈ S j, o.1 = (j : Int)) (t : Nat) (h4 : ∀ j, 4 ≤ j → S j = []) : sortO ((List.range 4).flatMap fun i => S ((i + t) % 4)) = (List.range 4).flatMap S := by
  have hf : ∀ j i, (S i).filter (fun o => o.1 == (j : Int)) = if i = j then S i else [] := fun j i => by
    split
    · rename_i e
      subst e
      rw [List.filter_eq_self]
      intro o ho
      rw [hS i o ho]
      simp
    · rename_i e
      rw [List.filter_eq_nil_iff]
      intro o ho
      rw [hS i o ho]
      simp
      omega
  have ht : (t % 4 = 0 ∨ t % 4 = 1 ∨ t % 4 = 2 ∨ t % 4 = 3) := by omega
  have e4 := h4 4 (by decide)
  unfold sortO
  rcases ht with h | h | h | h
  · have e0 : (0 + t) % 4 = 0 := by omega
    have e1 : (1 + t) % 4 = 1 := by omega
    have e2 : (2 + t) % 4 = 2 := by omega
    have e3 : (3 + t) % 4 = 3 := by omega
    simp [List.range_succ, List.flatMap_append, List.filter_append, e1, e2, e3, h, hf]
  · have e1 : (1 + t) % 4 = 2 := by omega
    have e2 : (2 + t) % 4 = 3 := by omega
    have e3 : (3 + t) % 4 = 0 := by omega
    simp [List.range_succ, List.flatMap_append, List.filter_append, e1, e2, e3, h, hf]
  · have e1 : (1 + t) % 4 = 3 := by omega
    have e2 : (2 + t) % 4 = 0 := by omega
    have e3 : (3 + t) % 4 = 1 := by omega
    simp [List.range_succ, List.flatMap_append, List.filter_append, e1, e2, e3, h, hf]
  · have e1 : (1 + t) % 4 = 0 := by omega
    have e2 : (2 + t) % 4 = 1 := by omega
    have e3 : (3 + t) % 4 = 2 := by omega
    simp [List.range_succ, List.flatMap_append, List.filter_append, e1, e2, e3, h, hf]
theorem updN_twice {α : Type} (F : Nat → α) (k : Nat) (u v : α) : updN (updN F k u) k v = updN F k v := by
  funext j
  by_cases e : j = k
  · subst e
    rw [updN_same, updN_same]
  · rw [updN_other _ _ e, updN_other _ _ e, updN_other _ _ e]
theorem updN_self {α : Type} (F : Nat → α) (k : Nat) {u : α} (h : F k = u) : updN F k u = F := by
  funext j
  by_cases e : j = k
  · subst e
    rw [updN_same, h]
  · rw [updN_other _ _ e]
theorem setQ_four (lots : Nat) (L : List Ofr) (i : Nat) {j : Nat} (hj : 4 ≤ j) : setQ lots L i j = [] := by
  unfold setQ
  have e : (List.range i).filter (selQ lots L j) = [] := by
    rw [List.filter_eq_nil_iff]
    intro k _
    unfold selQ
    have e2 : (k % 4 == j) = false := beq_eq_false_iff_ne.2 (by omega)
    simp [e2]
  rw [e]
  rfl
/-- the tender with k seals, in a turned order -/
def tdR (S : Nat → List Ofr) (sl : Nat → Nat) (o lt : Nat) : Nat → TdV
  | 0 => TdV.new lt
  | k + 1 => (tdR S sl o lt k).sealed ((k + o) % 4) (sealW (S ((k + o) % 4)) (sl ((k + o) % 4)))
theorem tdR_lots (S : Nat → List Ofr) (sl : Nat → Nat) (o lt : Nat) : ∀ k, (tdR S sl o lt k).lots = lt ∧ (tdR S sl o lt k).state = 0
  | 0 => ⟨rfl, rfl⟩
  | k + 1 => tdR_lots S sl o lt k
theorem bdK_zero (S : Nat → List Ofr) (sl : Nat → Nat) (o lt t : Nat) : BdK S sl t lt 0 { tdR S sl o lt 4 with state := 1 } := by
  have e4 : tdR S sl o lt 4 = ((((TdV.new lt).sealed ((0 + o) % 4) (sealW (S ((0 + o) % 4)) (sl ((0 + o) % 4)))).sealed ((1 + o) % 4) (sealW (S ((1 + o) % 4)) (sl ((1 + o) % 4)))).sealed ((2 + o) % 4) (sealW (S ((2 + o) % 4)) (sl ((2 + o) % 4)))).sealed ((3 + o) % 4) (sealW (S ((3 + o) % 4)) (sl ((3 + o) % 4))) := rfl
  rw [e4]
  have ho : o % 4 = 0 ∨ o % 4 = 1 ∨ o % 4 = 2 ∨ o % 4 = 3 := by omega
  have sh : ∀ j, j < 8 → (List.replicate 8 false).getD j false = (List.range 0).any fun i => (i + t) % 4 == j := fun j hj => by
    have hcase : j = 0 ∨ j = 1 ∨ j = 2 ∨ j = 3 ∨ j = 4 ∨ j = 5 ∨ j = 6 ∨ j = 7 := by omega
    rcases hcase with rfl | rfl | rfl | rfl | rfl | rfl | rfl | rfl <;> rfl
  rcases ho with h | h | h | h
  · have e0 : (0 + o) % 4 = 0 := by omega
    have e1 : (1 + o) % 4 = 1 := by omega
    have e2 : (2 + o) % 4 = 2 := by omega
    have e3 : (3 + o) % 4 = 3 := by omega
    rw [e0, e1, e2, e3]
    exact ⟨rfl, rfl, rfl, rfl, sh, rfl, rfl, rfl, rfl⟩
  · have e0 : (0 + o) % 4 = 1 := by omega
    have e1 : (1 + o) % 4 = 2 := by omega
    have e2 : (2 + o) % 4 = 3 := by omega
    have e3 : (3 + o) % 4 = 0 := by omega
    rw [e0, e1, e2, e3]
    exact ⟨rfl, rfl, rfl, rfl, sh, rfl, rfl, rfl, rfl⟩
  · have e0 : (0 + o) % 4 = 2 := by omega
    have e1 : (1 + o) % 4 = 3 := by omega
    have e2 : (2 + o) % 4 = 0 := by omega
    have e3 : (3 + o) % 4 = 1 := by omega
    rw [e0, e1, e2, e3]
    exact ⟨rfl, rfl, rfl, rfl, sh, rfl, rfl, rfl, rfl⟩
  · have e0 : (0 + o) % 4 = 3 := by omega
    have e1 : (1 + o) % 4 = 0 := by omega
    have e2 : (2 + o) % 4 = 1 := by omega
    have e3 : (3 + o) % 4 = 2 := by omega
    rw [e0, e1, e2, e3]
    exact ⟨rfl, rfl, rfl, rfl, sh, rfl, rfl, rfl, rfl⟩
theorem arr4 (F : Nat → Value) {d : Nat} (h : d < 4) : (#[F 0, F 1, F 2, F 3] : Array Value)[d]? = some (F d) := by
  have hcase : d = 0 ∨ d = 1 ∨ d = 2 ∨ d = 3 := by omega
  rcases hcase with rfl | rfl | rfl | rfl <;> rfl
end Go.Proofs.Ytpobfdhmggkbaaa
