/- Accuse: the mathematics of the first level. -/
import Derived.Test.YtbinmkigolkhcaaDoorKB
set_option linter.unusedSimpArgs false
set_option linter.unusedVariables false
namespace Go.Proofs.YtbinmkigolkhcaaDoor
open Go.RowKit Go.Sort
attribute [local go_sem] Oper.semAt_some

theorem eightF_inj : ∀ (k n m : Nat), n < 256 ^ k → m < 256 ^ k → eightF k n = eightF k m → n = m
  | 0, n, m, h1, h2, _ => by simp at h1 h2; omega
  | k + 1, n, m, h1, h2, h => by
    rw [eightF, eightF, List.cons.injEq] at h
    have hd := eightF_inj k (n / 256) (m / 256) (by rw [Nat.pow_succ] at h1; omega) (by rw [Nat.pow_succ] at h2; omega) h.2
    have h3 : (UInt8.ofNat (n % 256)).toNat = (UInt8.ofNat (m % 256)).toNat := by rw [h.1]
    rw [UInt8.toNat_ofNat_of_lt' (n := n % 256) (Nat.mod_lt _ (by decide)), UInt8.toNat_ofNat_of_lt' (n := m % 256) (Nat.mod_lt _ (by decide))] at h3
    rw [← Nat.div_add_mod n 256, ← Nat.div_add_mod m 256, hd, h3]
theorem eight_inj {n m : Nat} (hn : n < 18446744073709551616) (hm : m < 18446744073709551616) (h : eight n = eight m) : n = m :=
  eightF_inj 8 n m (Nat.lt_of_lt_of_eq hn (by decide)) (Nat.lt_of_lt_of_eq hm (by decide)) h
theorem node_inj {a b c d : Nat} (h : nodeB a b = nodeB c d) : eight a = eight c ∧ eight b = eight d := by
  unfold nodeB at h
  rw [List.cons.injEq] at h
  exact List.append_inj h.2 (by unfold eight; rw [eightF_length, eightF_length])
theorem stepB_inj {f g x y : Nat} {b : Bool} (hf : f < 18446744073709551616) (hg : g < 18446744073709551616) (h : stepB f (x, b) = stepB g (y, b)) : f = g := by
  cases b
  · exact eight_inj hf hg (node_inj h).1
  · exact eight_inj hf hg (node_inj h).2
theorem stL_of_map {s1 s2 : List St} (h : s1.map (·.2) = s2.map (·.2)) (i : Nat) : stL s1 i = stL s2 i := by
  have h1 := congrArg (fun l => (l : List Bool).getD i false) h
  simp only [List.getD_eq_getElem?_getD, List.getElem?_map] at h1
  unfold stL
  rw [List.getD_eq_getElem?_getD, List.getD_eq_getElem?_getD]
  cases e1 : s1[i]? <;> cases e2 : s2[i]? <;> simp [e1, e2] at h1 ⊢ <;> exact h1
/-- up to the first level with equal hashes the strings differ -/
theorem lev_ne {l1 l2 : List UInt8} {s1 s2 : List St} (hne : l1 ≠ l2) (hs : s1.map (·.2) = s2.map (·.2)) : ∀ i, i ≤ s1.length → i ≤ s2.length → (∀ j, j < i → mixV (levF l1 s1 j) ≠ mixV (levF l2 s2 j)) → levF l1 s1 i ≠ levF l2 s2 i
  | 0, _, _, _, h => hne (by
    have h : leafB l1 = leafB l2 := h
    unfold leafB at h
    rw [List.cons.injEq] at h
    exact h.2)
  | i + 1, h1, h2, hj, h => by
    have h : stepB (followV l1 (s1.take i)) (stH s1 i, stL s1 i) = stepB (followV l2 (s2.take i)) (stH s2 i, stL s2 i) := h
    rw [stL_of_map hs i] at h
    have := stepB_inj (follow_lt _ _) (follow_lt _ _) h
    rw [← mix_lev l1 s1 i (by omega), ← mix_lev l2 s2 i (by omega)] at this
    exact hj i (Nat.lt_succ_self i) this
/-- the first level at which the hashes are the same -/
def FirstK (l1 : List UInt8) (s1 : List St) (l2 : List UInt8) (s2 : List St) (k : Nat) : Prop :=
  (∀ j, j < k → mixV (levF l1 s1 j) ≠ mixV (levF l2 s2 j)) ∧ mixV (levF l1 s1 k) = mixV (levF l2 s2 k)
theorem FirstK.uniq {l1 l2 : List UInt8} {s1 s2 : List St} {k k' : Nat} (h : FirstK l1 s1 l2 s2 k) (h' : FirstK l1 s1 l2 s2 k') : k = k' := by
  rcases Nat.lt_trichotomy k k' with g | g | g
  · exact absurd h.2 (h'.1 k g)
  · exact g
  · exact absurd h'.2 (h.1 k' g)
/-- the error of Accuse -/
def accE (i n : Int) (l1 : List UInt8) (s1 : List St) (l2 : List UInt8) (s2 : List St) : Int :=
  if placeB i n = false then 2 else if 256 < l1.length then 3 else if 256 < l2.length then 3 else if l1 = l2 then 11 else
    if leadB s1 (sidesV i.toNat n.toNat) = false then 11 else if leadB s2 (sidesV i.toNat n.toNat) = false then 11 else if followV l1 s1 = followV l2 s2 then 0 else 11
def AccIs (E : Int) (l1 : List UInt8) (s1 : List St) (l2 : List UInt8) (s2 : List St) (b1 b2 : List UInt8) : Prop :=
  (E ≠ 0 → b1 = [] ∧ b2 = []) ∧ (E = 0 → ∃ k, FirstK l1 s1 l2 s2 k ∧ b1 = levF l1 s1 k ∧ b2 = levF l2 s2 k)
theorem AccIs.uniq {E : Int} {l1 l2 : List UInt8} {s1 s2 : List St} {b1 b2 d1 d2 : List UInt8} (h : AccIs E l1 s1 l2 s2 b1 b2) (h' : AccIs E l1 s1 l2 s2 d1 d2) : b1 = d1 ∧ b2 = d2 := by
  by_cases e : E = 0
  · obtain ⟨k, hk, rfl, rfl⟩ := h.2 e
    obtain ⟨k', hk', rfl, rfl⟩ := h'.2 e
    rw [hk.uniq hk']
    exact ⟨rfl, rfl⟩
  · rw [(h.1 e).1, (h.1 e).2, (h'.1 e).1, (h'.1 e).2]
    exact ⟨rfl, rfl⟩
def AccPost (E : Int) (l1 : List UInt8) (s1 : List St) (l2 : List UInt8) (s2 : List St) (w : World) (e : Ending) (w' : World) : Prop :=
  ∃ a1 n1 c1 a2 n2 c2 b1 b2, e = .returned (.tuple #[.agg #[.slice a1 n1 c1, .slice a2 n2 c2], .int .i64 E]) ∧ BytesAt w'.heap.size w' a1 n1 b1 ∧ BytesAt w'.heap.size w' a2 n2 b2 ∧ AccIs E l1 s1 l2 s2 b1 b2 ∧ Below w.heap.size w w'
theorem bytes_nil (B : Nat) (w : World) : BytesAt B w none 0 [] := ⟨rfl, .inl rfl⟩
theorem acc_err {W w : World} {p : Nat} {E : Int} {l1 l2 : List UInt8} {s1 s2 : List St} (hp : w.heap.size = p) (hz : BoxB W p (.slice none 0 0) (.slice none 0 0)) (hb : Below p w W) (hE : E ≠ 0) :
    AccPost E l1 s1 l2 s2 w (.returned (.tuple #[.agg #[.slice none 0 0, .slice none 0 0], .int .i64 E])) ((W.setCell ⟨p, 0, none⟩ (.slice none 0 0)).setCell ⟨p, 1, none⟩ (.slice none 0 0)) := by
  refine ⟨none, 0, 0, none, 0, 0, [], [], rfl, bytes_nil _ _, bytes_nil _ _, ⟨fun _ => ⟨rfl, rfl⟩, fun h => absurd h hE⟩, ?_⟩
  rw [hp]
  exact (hb.setCell (p := ⟨p, 0, none⟩) (Nat.le_refl _) _).setCell (p := ⟨p, 1, none⟩) (Nat.le_refl _) _
theorem acc_ok {W w : World} {p : Nat} {l1 l2 : List UInt8} {s1 s2 : List St} {a1 a2 : Option Addr} {n1 c1 n2 c2 k : Nat} {x y : Option Addr} {nx cx ny cy : Nat} (hp : w.heap.size = p) (hz : BoxB W p (.slice x nx cx) (.slice y ny cy)) (hb : Below p w W)
    (h1 : BytesAt W.heap.size W a1 n1 (levF l1 s1 k)) (h2 : BytesAt W.heap.size W a2 n2 (levF l2 s2 k)) (hk : FirstK l1 s1 l2 s2 k) :
    AccPost 0 l1 s1 l2 s2 w (.returned (.tuple #[.agg #[.slice a1 n1 c1, .slice a2 n2 c2], .int .i64 0])) ((W.setCell ⟨p, 0, none⟩ (.slice a1 n1 c1)).setCell ⟨p, 1, none⟩ (.slice a2 n2 c2)) := by
  refine ⟨a1, n1, c1, a2, n2, c2, _, _, rfl, h1.set2 hz _ _, h2.set2 hz _ _, ⟨fun h => absurd rfl h, fun _ => ⟨k, hk, rfl, rfl⟩⟩, ?_⟩
  rw [hp]
  exact (hb.setCell (p := ⟨p, 0, none⟩) (Nat.le_refl _) _).setCell (p := ⟨p, 1, none⟩) (Nat.le_refl _) _
/-- both ways lead from one place: their sides are the same -/
theorem lead_map {s1 s2 : List St} {L : List Bool} (h1 : leadB s1 L = true) (h2 : leadB s2 L = true) : s1.map (·.2) = s2.map (·.2) := by
  unfold leadB at h1 h2
  rw [of_decide_eq_true h1, of_decide_eq_true h2]
theorem lead_same {s1 s2 : List St} {L : List Bool} (h1 : leadB s1 L = true) (h2 : leadB s2 L = true) : s1.length = s2.length := by
  have := congrArg List.length (lead_map h1 h2)
  rwa [List.length_map, List.length_map] at this
end Go.Proofs.YtbinmkigolkhcaaDoor
