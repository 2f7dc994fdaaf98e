/- Contract of the library's exchange of two stretches of a row. -/
import Derived.Test.YtfahlgjolihmkaaDoorZ3
import Derived.Test.YtfahlgjolihmkaaDoorZ2
namespace Go.Proofs.YtfahlgjolihmkaaDoor
open Go.RowKit Go.Sort

/-- the stretches [a, a + k) and [b, b + k) exchanged -/
def swpB (d : Nat → Nat) (a b k : Nat) : Nat → Nat := fun x => if a ≤ x ∧ x < a + k then d (x - a + b) else if b ≤ x ∧ x < b + k then d (x - b + a) else d x
theorem swpB_zero (d : Nat → Nat) (a b : Nat) : swpB d a b 0 = d := by
  funext x
  unfold swpB
  rw [if_neg (by omega), if_neg (by omega)]
theorem swpB_step (d : Nat → Nat) {a b k : Nat} (h : a + k < b ∨ b + k < a) : swpF (swpB d a b k) (a + k) (b + k) = swpB d a b (k + 1) := by
  funext x
  by_cases h1 : x = a + k
  · subst h1
    rw [swpF_left]
    unfold swpB
    rw [if_neg (by omega), if_neg (by omega), if_pos (by omega)]
    congr 1
    omega
  · by_cases h2 : x = b + k
    · subst h2
      rw [swpF_right]
      unfold swpB
      rw [if_neg (by omega), if_neg (by omega), if_neg (by omega), if_pos (by omega)]
      congr 1
      omega
    · rw [swpF_other _ h1 h2]
      unfold swpB
      by_cases h3 : a ≤ x ∧ x < a + k
      · rw [if_pos h3, if_pos (by omega)]
      · by_cases h4 : b ≤ x ∧ x < b + k
        · rw [if_neg h3, if_pos h4, if_neg (by omega), if_pos (by omega)]
        · rw [if_neg h3, if_neg h4, if_neg (by omega), if_neg (by omega)]

set_option maxHeartbeats 2000000 in
set_option maxRecDepth 100000 in
theorem swapRange_any (cmp : Value) (w0 w : World) (blk n cap a b k : Nat) (d : Nat → Nat) (hR : Row w0 w blk n d) (hn : n ≤ 1000000) (ha : a + k ≤ n) (hb : b + k ≤ n) (hd : a + k ≤ b ∨ b + k ≤ a) :
    Calls Tryd.prog 104 #[.slice (some ⟨blk, 0, none⟩) n cap, .int .i64 a, .int .i64 b, .int .i64 k, cmp] w fun e w' => e = .returned (.tuple #[]) ∧ Row w0 w' blk n (swpB d a b k) := by
  have mixed := mixedOrders
  have HR := hide hR
  clear hR
  go_enter Tryd.func104, Tryd.ntmps104
  go_wp2
  go_loopw [10] (fun vi wr => ∃ i : Nat, i ≤ k ∧ vi = .int .i64 i ∧ Hid (Row w0 wr blk n (swpB d a b i))) (fun vi _ => k - (intOf vi).toNat)
  case atStart => exact ⟨0, Nat.zero_le _, rfl, by rw [swpB_zero]; exact HR⟩
  case round =>
    obtain ⟨i, hi, rfl, R1⟩ := hrel
    by_cases hik : i < k
    · have hik' : (i : Int) < (k : Int) := by omega
      obtain ⟨p, hp⟩ : ∃ p, p = a + i := ⟨_, rfl⟩
      obtain ⟨q, hq⟩ : ∃ q, q = b + i := ⟨_, rfl⟩
      have hpe : (a : Int) + (i : Int) = (p : Int) := by omega
      have hqe : (b : Int) + (i : Int) = (q : Int) := by omega
      have hpn : (p : Int) < (n : Int) := by omega
      have hqn : (q : Int) < (n : Int) := by omega
      have hpq : p ≠ q := by omega
      have m1 := R1.out.cell p (by omega)
      have m2 := R1.out.cell q (by omega)
      have f1 := R1.out.free p
      have f2 := R1.out.free q
      have R4 := hide (R1.out.swap (i := p) (j := q) (by omega) (by omega))
      rw [hp, hq, swpB_step d (by omega), ← hp, ← hq] at R4
      generalize swpB d a b i p = x at m1 R4
      generalize swpB d a b i q = y at m2 R4
      have m3 : (wr.setCell ⟨blk, p, none⟩ (.int .i64 y)).cell? ⟨blk, q, none⟩ = some (.int .i64 y) := (World.cell?_setCell_other _ _ _ _ (by intro e'; simp only [Addr.mk.injEq] at e'; omega)).trans m2
      clear hp hq
      go_wp2_with fail
      go_big_region
      go_wp2
      go_roundw
      case rel => exact ⟨i + 1, by omega, by go_num, R4⟩
      case measure => simp [intOf]; omega
    · obtain rfl : i = k := by omega
      go_wp2
      go_end0
      exact ⟨rfl, R1.out⟩

end Go.Proofs.YtfahlgjolihmkaaDoor
/- Contract of the library's rotation of a stretch of a row. -/
namespace Go.Proofs.YtfahlgjolihmkaaDoor
open Go.RowKit Go.Sort

/-- [a, m) and [m, b) change their order -/
def rotF (d : Nat → Nat) (a m b : Nat) : Nat → Nat := fun x => if a ≤ x ∧ x < a + (b - m) then d (x + (m - a)) else if a + (b - m) ≤ x ∧ x < b then d (x - (b - m)) else d x
theorem rot_left (d : Nat → Nat) {i j m : Nat} (h1 : j < i) (h2 : i ≤ m) (h3 : 0 < j) : rotF (swpB d (m - i) m j) (m - (i - j)) m (m + j) = rotF d (m - i) m (m + j) := by
  funext x
  unfold rotF swpB
  repeat' split
  all_goals first | rfl | (exfalso; omega) | (congr 1; omega)
theorem rot_right (d : Nat → Nat) {i j m : Nat} (h1 : i < j) (h2 : i ≤ m) (h3 : 0 < i) : rotF (swpB d (m - i) (m + j - i) i) (m - i) m (m + (j - i)) = rotF d (m - i) m (m + j) := by
  funext x
  unfold rotF swpB
  repeat' split
  all_goals first | rfl | (exfalso; omega) | (congr 1; omega)
theorem rot_end (d : Nat → Nat) {i m : Nat} (h2 : i ≤ m) (h3 : 0 < i) : swpB d (m - i) m i = rotF d (m - i) m (m + i) := by
  funext x
  unfold rotF swpB
  repeat' split
  all_goals first | rfl | (exfalso; omega) | (congr 1; omega)

set_option maxHeartbeats 2000000 in
set_option maxRecDepth 100000 in
theorem rotate_any (cmp : Value) (w0 w : World) (blk n cap a m b : Nat) (d : Nat → Nat) (hR : Row w0 w blk n d) (hn : n ≤ 1000000) (ha : a < m) (hm : m < b) (hb : b ≤ n) :
    Calls Tryd.prog 99 #[.slice (some ⟨blk, 0, none⟩) n cap, .int .i64 a, .int .i64 m, .int .i64 b, cmp] w fun e w' => e = .returned (.tuple #[]) ∧ Row w0 w' blk n (rotF d a m b) := by
  have mixed := mixedOrders
  have HR := hide hR
  clear hR
  have e1 : (m : Int) - (a : Int) = ((m - a : Nat) : Int) := by omega
  have e2 : (b : Int) - (m : Int) = ((b - m : Nat) : Int) := by omega
  go_enter Tryd.func99, Tryd.ntmps99
  go_wp2
  clear e1 e2
  go_loopw [10, 11] (fun vi vj wr => ∃ (i j : Nat) (dk : Nat → Nat), vi = .int .i64 i ∧ vj = .int .i64 j ∧ 0 < i ∧ 0 < j ∧ a ≤ m - i ∧ i ≤ m ∧ m + j ≤ b ∧ Hid (Row w0 wr blk n dk) ∧ Hid (rotF dk (m - i) m (m + j) = rotF d a m b)) (fun vi vj _ => (intOf vi).toNat + (intOf vj).toNat)
  case atStart => exact ⟨m - a, b - m, d, rfl, rfl, by omega, by omega, by omega, by omega, by omega, HR, by rw [show m - (m - a) = a by omega, show m + (b - m) = b by omega]; rfl⟩
  case round =>
    obtain ⟨i, j, dk, rfl, rfl, hi, hj, hai, him, hjb, R1, HE⟩ := hrel
    by_cases hij : i = j
    · subst hij
      have hne : ((i : Int) != (i : Int)) = false := by simp
      have e1 : (m : Int) - (i : Int) = ((m - i : Nat) : Int) := by omega
      have HS := hide (swapRange_any cmp w0 wr blk n cap (m - i) m i dk R1.out hn (by omega) (by omega) (.inl (by omega)))
      rw [rot_end dk him hi, HE.out] at HS
      go_wp2_with fail
      refine HS.out.mono ?_
      rintro e w2 ⟨rfl, h2⟩
      have H2 := hide h2
      clear h2 HS
      go_wp2
      go_end0
      exact ⟨rfl, H2.out⟩
    · have hne : ((i : Int) != (j : Int)) = true := by rw [bne_iff_ne]; omega
      by_cases hlt : j < i
      · have hd : decide ((j : Int) < (i : Int)) = true := decide_eq_true (by omega)
        have e1 : (m : Int) - (i : Int) = ((m - i : Nat) : Int) := by omega
        have e2 : (i : Int) - (j : Int) = ((i - j : Nat) : Int) := by omega
        have HS := hide (swapRange_any cmp w0 wr blk n cap (m - i) m j dk R1.out hn (by omega) (by omega) (.inl (by omega)))
        have HN := hide ((rot_left dk hlt him hj).trans HE.out)
        go_wp2_with fail
        refine HS.out.mono ?_
        rintro e w2 ⟨rfl, h2⟩
        have H2 := hide h2
        clear h2 HS
        go_wp2
        go_roundw
        case rel => exact ⟨i - j, j, _, rfl, rfl, by omega, hj, by omega, by omega, hjb, H2, HN⟩
        case measure => simp [intOf]; omega
      · have hd : decide ((j : Int) < (i : Int)) = false := decide_eq_false (by omega)
        have e1 : (m : Int) - (i : Int) = ((m - i : Nat) : Int) := by omega
        have e2 : (j : Int) - (i : Int) = ((j - i : Nat) : Int) := by omega
        have e3 : (m : Int) + (j : Int) - (i : Int) = ((m + j - i : Nat) : Int) := by omega
        have HS := hide (swapRange_any cmp w0 wr blk n cap (m - i) (m + j - i) i dk R1.out hn (by omega) (by omega) (.inl (by omega)))
        have HN := hide ((rot_right dk (show i < j by omega) him hi).trans HE.out)
        go_wp2_with fail
        refine HS.out.mono ?_
        rintro e w2 ⟨rfl, h2⟩
        have H2 := hide h2
        clear h2 HS
        go_wp2
        go_roundw
        case rel => exact ⟨i, j - i, _, rfl, rfl, hi, by omega, hai, him, by omega, H2, HN⟩
        case measure => simp [intOf]; omega

end Go.Proofs.YtfahlgjolihmkaaDoor
/- The mathematics of the library's merge in place: what a rotation and two smaller merges give. -/
namespace Go.Proofs.YtfahlgjolihmkaaDoor
open Go.RowKit Go.Sort

theorem PermOn.rot (d : Nat → Nat) {a m b : Nat} (ha : a ≤ m) (hb : m ≤ b) : PermOn a b d (rotF d a m b) := by
  refine ⟨fun x => if x < a + (b - m) then x + (m - a) else x - (b - m), fun x h1 h2 => ?_, fun x y h1 h2 h3 h4 he => ?_, fun x h1 h2 => ?_, fun x hx => ?_⟩
  · dsimp only
    split <;> omega
  · dsimp only at he
    split at he <;> split at he <;> omega
  · unfold rotF
    dsimp only
    split
    · rw [if_pos (by omega)]
    · split
      · rw [if_neg (by omega)]
      · omega
  · unfold rotF
    rw [if_neg (by omega), if_neg (by omega)]

/-- what is asked of the two stretches that are merged: each is sorted, and the left one's indexes are the smaller ones -/
structure TwoRuns (kf : Nat → Int) (a m b : Nat) (d : Nat → Nat) : Prop where
  left : SortedOn kf a m d
  right : SortedOn kf m b d
  low : ∀ k k', a ≤ k → k < m → m ≤ k' → k' < b → d k < d k'

/-- where the cut is at s and e, all that lies left of it is less than all that lies right of it -/
theorem TwoRuns.cut {kf : Nat → Int} {a m b s e : Nat} {d : Nat → Nat} (h : TwoRuns kf a m b d) (hs : a ≤ s ∧ s ≤ m) (he : m ≤ e ∧ e ≤ b)
    (h1 : a < s → e < b → kf (d (s - 1)) ≤ kf (d e)) (h2 : s < m → m < e → kf (d (e - 1)) < kf (d s)) :
    ∀ k k', (a ≤ k ∧ k < s ∨ m ≤ k ∧ k < e) → (s ≤ k' ∧ k' < m ∨ e ≤ k' ∧ k' < b) → lexL kf (d k) (d k') := by
  intro k k' hk hk'
  rcases hk with hk | hk
  · rcases hk' with hk' | hk'
    · exact h.left k k' hk.1 (by omega) hk'.2
    · have h3 := h1 (by omega) (by omega)
      have h4 := h.low k k' hk.1 (by omega) (by omega) hk'.2
      have h5 : kf (d k) ≤ kf (d (s - 1)) := by
        by_cases e1 : k = s - 1
        · rw [e1]; exact Int.le_refl _
        · have := h.left k (s - 1) hk.1 (by omega) (by omega)
          unfold lexL at this
          omega
      have h6 : kf (d e) ≤ kf (d k') := by
        by_cases e1 : k' = e
        · rw [e1]; exact Int.le_refl _
        · have := h.right e k' (by omega) (by omega) hk'.2
          unfold lexL at this
          omega
      unfold lexL
      omega
  · rcases hk' with hk' | hk'
    · have h3 := h2 (by omega) (by omega)
      have h5 : kf (d k) ≤ kf (d (e - 1)) := by
        by_cases e1 : k = e - 1
        · rw [e1]; exact Int.le_refl _
        · have := h.right k (e - 1) hk.1 (by omega) (by omega)
          unfold lexL at this
          omega
      have h6 : kf (d s) ≤ kf (d k') := by
        by_cases e1 : k' = s
        · rw [e1]; exact Int.le_refl _
        · have := h.left s k' (by omega) (by omega) (by omega)
          unfold lexL at this
          omega
      unfold lexL
      omega
    · exact h.right k k' hk.1 (by omega) hk'.2

/-- the left half behind the rotation holds two runs again -/
theorem TwoRuns.half_left {kf : Nat → Int} {a m b s e : Nat} {d : Nat → Nat} (h : TwoRuns kf a m b d) (hs : a ≤ s ∧ s ≤ m) (he : m ≤ e ∧ e ≤ b) : TwoRuns kf a s (s + (e - m)) (rotF d s m e) := by
  have hl : ∀ k, a ≤ k → k < s → rotF d s m e k = d k := fun k _ h2 => by unfold rotF; rw [if_neg (by omega), if_neg (by omega)]
  have hr : ∀ k, s ≤ k → k < s + (e - m) → rotF d s m e k = d (k + (m - s)) := fun k h1 h2 => by unfold rotF; rw [if_pos (by omega)]
  refine ⟨fun k k' h1 h2 h3 => ?_, fun k k' h1 h2 h3 => ?_, fun k k' h1 h2 h3 h4 => ?_⟩
  · rw [hl k h1 (by omega), hl k' (by omega) h3]
    exact h.left k k' h1 h2 (by omega)
  · rw [hr k h1 (by omega), hr k' (by omega) h3]
    exact h.right _ _ (by omega) (by omega) (by omega)
  · rw [hl k h1 h2, hr k' h3 h4]
    exact h.low _ _ h1 (by omega) (by omega) (by omega)
theorem TwoRuns.half_right {kf : Nat → Int} {a m b s e : Nat} {d : Nat → Nat} (h : TwoRuns kf a m b d) (hs : a ≤ s ∧ s ≤ m) (he : m ≤ e ∧ e ≤ b) : TwoRuns kf (s + (e - m)) e b (rotF d s m e) := by
  have hl : ∀ k, s + (e - m) ≤ k → k < e → rotF d s m e k = d (k - (e - m)) := fun k h1 h2 => by unfold rotF; rw [if_neg (by omega), if_pos (by omega)]
  have hr : ∀ k, e ≤ k → rotF d s m e k = d k := fun k h1 => by unfold rotF; rw [if_neg (by omega), if_neg (by omega)]
  refine ⟨fun k k' h1 h2 h3 => ?_, fun k k' h1 h2 h3 => ?_, fun k k' h1 h2 h3 h4 => ?_⟩
  · rw [hl k h1 (by omega), hl k' (by omega) h3]
    exact h.left _ _ (by omega) (by omega) (by omega)
  · rw [hr k h1, hr k' (by omega)]
    exact h.right k k' (by omega) h2 h3
  · rw [hl k h1 h2, hr k' h3]
    exact h.low _ _ (by omega) (by omega) (by omega) h4

/-- two sorted halves, each a reordering of its own, the left one's all less than the right one's -/
theorem sorted_join {kf : Nat → Int} {a c b : Nat} {d d1 d2 : Nat → Nat} (hac : a ≤ c) (hcb : c ≤ b) (p1 : PermOn a c d d1) (s1 : SortedOn kf a c d1) (p2 : PermOn c b d1 d2) (s2 : SortedOn kf c b d2)
    (hl : ∀ k k', a ≤ k → k < c → c ≤ k' → k' < b → lexL kf (d k) (d k')) : PermOn a b d d2 ∧ SortedOn kf a b d2 := by
  refine ⟨(p1.mono (Nat.le_refl _) hcb).trans (p2.mono hac (Nat.le_refl _)), fun k k' h1 h2 h3 => ?_⟩
  have hlow : ∀ k, k < c → d2 k = d1 k := fun k hk => p2.out (.inl hk)
  have hup : ∀ k, c ≤ k → d1 k = d k := fun k hk => p1.out (.inr hk)
  by_cases hk : k' < c
  · rw [hlow k (by omega), hlow k' hk]
    exact s1 k k' h1 h2 hk
  · by_cases hk2 : c ≤ k
    · exact s2 k k' hk2 h2 h3
    · rw [hlow k (by omega)]
      have q1 : ∀ k', c ≤ k' → k' < b → ∀ j, a ≤ j → j < c → lexL kf (d j) (d2 k') := by
        intro x hx1 hx2 j hj1 hj2
        exact p2.all (Q := fun v => lexL kf (d j) v) (fun y hy1 hy2 => by rw [hup y hy1]; exact hl j y hj1 hj2 hy1 hy2) x hx1 hx2
      exact p1.all (Q := fun v => lexL kf v (d2 k')) (fun j hj1 hj2 => q1 k' (by omega) h3 j hj1 hj2) k h1 (by omega)

end Go.Proofs.YtfahlgjolihmkaaDoor
/- The library's merge where the left stretch is one element. -/
namespace Go.Proofs.YtfahlgjolihmkaaDoor
open Go.RowKit Go.Sort

theorem TwoRuns.one_left {kf : Nat → Int} {a b i : Nat} {d : Nat → Nat} (h : TwoRuns kf a (a + 1) b d) (hi : a + 1 ≤ i ∧ i ≤ b) (h1 : a + 1 < i → kf (d (i - 1)) < kf (d a)) (h2 : i < b → kf (d a) ≤ kf (d i)) :
    PermOn a b d (rotF d a (a + 1) i) ∧ SortedOn kf a b (rotF d a (a + 1) i) := by
  refine ⟨(PermOn.rot d (by omega) hi.1).mono (Nat.le_refl _) hi.2, fun k k' g1 g2 g3 => ?_⟩
  have hl : ∀ k, a ≤ k → k < i - 1 → rotF d a (a + 1) i k = d (k + 1) := fun k u1 u2 => by unfold rotF; rw [if_pos (by omega)]; congr 1; omega
  have hm : rotF d a (a + 1) i (i - 1) = d a := by unfold rotF; rw [if_neg (by omega), if_pos (by omega)]; congr 1; omega
  have hr : ∀ k, i ≤ k → rotF d a (a + 1) i k = d k := fun k u1 => by unfold rotF; rw [if_neg (by omega), if_neg (by omega)]
  by_cases c1 : k' < i - 1
  · rw [hl k g1 (by omega), hl k' (by omega) c1]
    exact h.right _ _ (by omega) (by omega) (by omega)
  · by_cases c2 : k' = i - 1
    · subst c2
      rw [hl k g1 g2, hm]
      have h3 := h1 (by omega)
      by_cases c3 : k + 1 = i - 1
      · rw [c3]; exact .inl h3
      · have := h.right (k + 1) (i - 1) (by omega) (by omega) (by omega)
        unfold lexL at this ⊢
        omega
    · rw [hr k' (by omega)]
      by_cases c3 : k < i - 1
      · rw [hl k g1 c3]
        by_cases c4 : k + 1 = k'
        · omega
        · exact h.right _ _ (by omega) (by omega) g3
      · by_cases c4 : k = i - 1
        · subst c4
          rw [hm]
          have h3 := h2 (by omega)
          have h4 := h.low a k' (Nat.le_refl _) (by omega) (by omega) g3
          by_cases c5 : i = k'
          · subst c5; unfold lexL; omega
          · have := h.right i k' (by omega) (by omega) g3
            unfold lexL at this ⊢
            omega
        · rw [hr k (by omega)]
          exact h.right _ _ (by omega) g2 g3
theorem rot_one_start (d : Nat → Nat) (a : Nat) : rotF d a (a + 1) (a + 1) = d := by
  funext x
  unfold rotF
  repeat' split
  all_goals first | rfl | (exfalso; omega) | (congr 1; omega)
theorem rot_one_step (d : Nat → Nat) {a k : Nat} (h : a ≤ k) : swpF (rotF d a (a + 1) (k + 1)) k (k + 1) = rotF d a (a + 1) (k + 2) := by
  funext x
  unfold swpF rotF
  repeat' split
  all_goals first | rfl | (exfalso; omega) | (congr 1; omega)

set_option maxHeartbeats 4000000 in
set_option maxRecDepth 100000 in
theorem symLeft_any (g : Nat) (cb : Array Value) (kf : Nat → Int) (w0 w : World) (blk n cap a b : Nat) (d : Nat → Nat) (eg : ∀ args w, (callFunc g args).run Tryd.prog w = .ok (.enter g args) w) (hcmp : CmpOn w0 blk n g cb kf)
    (hR : Row w0 w blk n d) (hn : n ≤ 1000000) (hab : a + 1 < b) (hb : b ≤ n) (hT : TwoRuns kf a (a + 1) b d) (hdn : ∀ k, a ≤ k → k < b → d k < n) :
    Calls Tryd.prog 88 #[.slice (some ⟨blk, 0, none⟩) n cap, .int .i64 a, .int .i64 ((a + 1 : Nat) : Int), .int .i64 b, .func (.func g) #[] cb] w (InsPost w0 blk n kf a b d) := by
  have mixed := mixedOrders
  have HC := hide hcmp
  have HR := hide hR
  have HT := hide hT
  have HN := hide hdn
  clear hcmp hR hT hdn
  have e1 : ((a + 1 : Nat) : Int) - (a : Int) = 1 := by omega
  go_enter Tryd.func88, Tryd.ntmps88
  go_wp2
  clear e1
  go_loopw [10, 11] (fun vi vj wr => ∃ i j : Nat, a + 1 ≤ i ∧ i ≤ j ∧ j ≤ b ∧ vi = .int .i64 i ∧ vj = .int .i64 j ∧ Hid ((∀ k, k + 1 = i → a < k → kf (d k) < kf (d a)) ∧ (j < b → kf (d a) ≤ kf (d j))) ∧ Hid (Row w0 wr blk n d)) (fun vi vj _ => (intOf vj - intOf vi).toNat)
  case atStart => exact ⟨a + 1, b, Nat.le_refl _, by omega, Nat.le_refl _, rfl, rfl, ⟨fun k hk hk2 => by omega, fun h => by omega⟩, HR⟩
  case round =>
    obtain ⟨i, j, hai, hij, hjn, rfl, rfl, HI, R1⟩ := hrel
    by_cases hlt : i < j
    · obtain ⟨h, hh1, hh2, hh⟩ : ∃ h : Nat, i ≤ h ∧ h < j ∧ h = (i + j) / 2 := ⟨(i + j) / 2, by omega, by omega, rfl⟩
      have he : ((i : Int) + (j : Int)) / 2 = ((h : Nat) : Int) := by omega
      have hhn : (h : Int) < (n : Int) := by omega
      have han : (a : Int) < (n : Int) := by omega
      have l1 := fun q os => cell_grown (n := q) (os := os) (a := ⟨blk, h, none⟩) R1.out.ltW (R1.out.cell h (by omega))
      have l2 := fun q os => cell_grown (n := q) (os := os) (a := ⟨blk, a, none⟩) R1.out.ltW (R1.out.cell a (by omega))
      have EC : Hid (∀ (q : Nat) (os : Array Obj), Calls Tryd.prog g (#[.int .i64 (d h), .int .i64 (d a)] ++ cb) (grow (wr.drewN q) os) fun e w'' => e = .returned (.int .i64 (cmpV (kf (d h)) (kf (d a)))) ∧ ∃ p : GrownBy, w'' = grow (wr.drewN p.n) p.os) := fun q os =>
        gr_call (HC.out _ (d h) (d a) (R1.out.gr (grown_gr wr q os)).grown (HN.out h (by omega) (by omega)) (HN.out a (Nat.le_refl _) (by omega)))
      clear hh
      by_cases hlt2 : kf (d h) < kf (d a)
      · have hd2 : decide (cmpV (kf (d h)) (kf (d a)) < 0) = true := decide_eq_true (cmpV_neg.2 hlt2)
        have hI : Hid ((∀ k, k + 1 = h + 1 → a < k → kf (d k) < kf (d a)) ∧ (j < b → kf (d a) ≤ kf (d j))) := ⟨fun k hk _ => (by have e : k = h := (by omega); rw [e]; exact hlt2), HI.out.2⟩
        clear hlt2
        go_wp2_with fail
        refine wp_region_quiet_grown (by assumption) (by kernel_rfl) ?_
        repeat (first | go_big_quiet_step ((exact EC.out _ _)) | quiet_step ((exact EC.out _ _)))
        refine wpQuiet_nil ?_
        intro _ hw'
        obtain ⟨⟨nq, osq⟩, hw''⟩ := hw'
        subst hw''
        have R3 := hide (R1.out.gr (grown_gr wr nq osq))
        clear l1 l2 EC
        go_wp2
        go_roundw
        case rel => exact ⟨h + 1, j, by omega, by omega, hjn, by go_num, rfl, hI, R3⟩
        case measure => simp [intOf]; omega
      · have hd2 : decide (cmpV (kf (d h)) (kf (d a)) < 0) = false := decide_eq_false (fun h => hlt2 (cmpV_neg.1 h))
        have hI : Hid ((∀ k, k + 1 = i → a < k → kf (d k) < kf (d a)) ∧ (h < b → kf (d a) ≤ kf (d h))) := ⟨HI.out.1, fun _ => by omega⟩
        clear hlt2
        go_wp2_with fail
        refine wp_region_quiet_grown (by assumption) (by kernel_rfl) ?_
        repeat (first | go_big_quiet_step ((exact EC.out _ _)) | quiet_step ((exact EC.out _ _)))
        refine wpQuiet_nil ?_
        intro _ hw'
        obtain ⟨⟨nq, osq⟩, hw''⟩ := hw'
        subst hw''
        have R3 := hide (R1.out.gr (grown_gr wr nq osq))
        clear l1 l2 EC
        go_wp2
        go_roundw
        case rel => exact ⟨i, h, hai, hh1, by omega, rfl, rfl, hI, R3⟩
        case measure => simp [intOf]; omega
    · obtain rfl : i = j := by omega
      obtain ⟨q, hq⟩ : ∃ q, q + 1 = i := ⟨i - 1, by omega⟩
      have hqe : (i : Int) - 1 = (q : Int) := by omega
      have HP := hide (HT.out.one_left ⟨hai, hjn⟩ (fun h => HI.out.1 (i - 1) (by omega) (by omega)) HI.out.2)
      obtain ⟨wo, hwo⟩ : ∃ wo : World, wo = wr := ⟨_, rfl⟩
      subst hwo
      go_wp2
      go_loopw [13] (fun vk wr2 => ∃ k : Nat, a ≤ k ∧ k ≤ q ∧ vk = .int .i64 k ∧ Hid (Row w0 wr2 blk n (rotF d a (a + 1) (k + 1)))) (fun vk _ => q - (intOf vk).toNat)
      case atStart => exact ⟨a, Nat.le_refl _, by omega, rfl, by rw [rot_one_start]; exact R1⟩
      case round =>
        obtain ⟨k, hak, hkq, rfl, R2⟩ := hrel
        by_cases hk : k < q
        · have hk' : (k : Int) < (q : Int) := by omega
          have b1 : (k : Int) + 1 < (n : Int) := by omega
          have b2 : (k : Int) < (n : Int) := by omega
          have m1 := R2.out.cell k (by omega)
          have m2 := R2.out.cell (k + 1) (by omega)
          have f1 := R2.out.free k
          have f2 := R2.out.free (k + 1)
          have R4 := hide (R2.out.swap (i := k) (j := k + 1) (by omega) (by omega))
          rw [rot_one_step d hak] at R4
          generalize rotF d a (a + 1) (k + 1) k = x at m1 R4
          generalize rotF d a (a + 1) (k + 1) (k + 1) = y at m2 R4
          have m3 : (wr.setCell ⟨blk, k, none⟩ (.int .i64 y)).cell? ⟨blk, k + 1, none⟩ = some (.int .i64 y) := (World.cell?_setCell_other _ _ _ _ (by intro e'; simp only [Addr.mk.injEq] at e'; omega)).trans m2
          go_wp2_with fail
          go_big_region
          go_wp2
          go_roundw
          case rel => exact ⟨k + 1, by omega, by omega, by go_num, R4⟩
          case measure => simp [intOf]; omega
        · obtain rfl : k = q := by omega
          go_wp2
          go_end0
          have h2 := R2.out
          rw [hq] at h2
          exact ⟨rfl, _, h2, HP.out.1, HP.out.2⟩

end Go.Proofs.YtfahlgjolihmkaaDoor
/- The library's merge where the right stretch is one element. -/
namespace Go.Proofs.YtfahlgjolihmkaaDoor
open Go.RowKit Go.Sort

theorem TwoRuns.one_right {kf : Nat → Int} {a m i : Nat} {d : Nat → Nat} (h : TwoRuns kf a m (m + 1) d) (hi : a ≤ i ∧ i ≤ m) (h1 : a < i → kf (d (i - 1)) ≤ kf (d m)) (h2 : i < m → kf (d m) < kf (d i)) :
    PermOn a (m + 1) d (rotF d i m (m + 1)) ∧ SortedOn kf a (m + 1) (rotF d i m (m + 1)) := by
  refine ⟨(PermOn.rot d hi.2 (by omega)).mono hi.1 (Nat.le_refl _), fun k k' g1 g2 g3 => ?_⟩
  have hl : ∀ k, k < i → rotF d i m (m + 1) k = d k := fun k u1 => by unfold rotF; rw [if_neg (by omega), if_neg (by omega)]
  have hm : rotF d i m (m + 1) i = d m := by unfold rotF; rw [if_pos (by omega)]; congr 1; omega
  have hr : ∀ k, i < k → k < m + 1 → rotF d i m (m + 1) k = d (k - 1) := fun k u1 u2 => by unfold rotF; rw [if_neg (by omega), if_pos (by omega)]; congr 1; omega
  by_cases c1 : k' < i
  · rw [hl k (by omega), hl k' c1]
    exact h.left _ _ g1 g2 (by omega)
  · by_cases c2 : k' = i
    · subst c2
      rw [hl k g2, hm]
      have h3 := h1 (by omega)
      have h4 := h.low k m g1 (by omega) (Nat.le_refl _) (by omega)
      by_cases c3 : k = k' - 1
      · rw [← c3] at h3
        unfold lexL
        omega
      · have := h.left k (k' - 1) g1 (by omega) (by omega)
        unfold lexL at this ⊢
        omega
    · rw [hr k' (by omega) g3]
      by_cases c3 : k < i
      · rw [hl k c3]
        by_cases c4 : k = k' - 1
        · omega
        · exact h.left _ _ g1 (by omega) (by omega)
      · by_cases c4 : k = i
        · subst c4
          rw [hm]
          have h3 := h2 (by omega)
          by_cases c5 : k = k' - 1
          · rw [← c5]; exact .inl h3
          · have := h.left k (k' - 1) g1 (by omega) (by omega)
            unfold lexL at this ⊢
            omega
        · rw [hr k (by omega) (by omega)]
          exact h.left _ _ (by omega) (by omega) (by omega)
theorem rot_last_start (d : Nat → Nat) (m : Nat) : rotF d m m (m + 1) = d := by
  funext x
  unfold rotF
  repeat' split
  all_goals first | rfl | (exfalso; omega) | (congr 1; omega)
theorem rot_last_step (d : Nat → Nat) {p m : Nat} (h : p < m) : swpF (rotF d (p + 1) m (m + 1)) (p + 1) p = rotF d p m (m + 1) := by
  funext x
  unfold swpF rotF
  repeat' split
  all_goals first | rfl | (exfalso; omega) | (congr 1; omega)

set_option maxHeartbeats 4000000 in
set_option maxRecDepth 100000 in
theorem symRight_any (g : Nat) (cb : Array Value) (kf : Nat → Int) (w0 w : World) (blk n cap a m : Nat) (d : Nat → Nat) (eg : ∀ args w, (callFunc g args).run Tryd.prog w = .ok (.enter g args) w) (hcmp : CmpOn w0 blk n g cb kf)
    (hR : Row w0 w blk n d) (hn : n ≤ 1000000) (ham : a + 1 < m) (hb : m + 1 ≤ n) (hT : TwoRuns kf a m (m + 1) d) (hdn : ∀ k, a ≤ k → k < m + 1 → d k < n) :
    Calls Tryd.prog 88 #[.slice (some ⟨blk, 0, none⟩) n cap, .int .i64 a, .int .i64 m, .int .i64 ((m + 1 : Nat) : Int), .func (.func g) #[] cb] w (InsPost w0 blk n kf a (m + 1) d) := by
  have mixed := mixedOrders
  have HC := hide hcmp
  have HR := hide hR
  have HT := hide hT
  have HN := hide hdn
  clear hcmp hR hT hdn
  have e0 : (((m : Int) - (a : Int)) == 1) = false := beq_eq_false_iff_ne.2 (by omega)
  have e1 : ((m + 1 : Nat) : Int) - (m : Int) = 1 := by omega
  go_enter Tryd.func88, Tryd.ntmps88
  go_wp2
  clear e0 e1
  go_loopw [14, 15] (fun vi vj wr => ∃ i j : Nat, a ≤ i ∧ i ≤ j ∧ j ≤ m ∧ vi = .int .i64 i ∧ vj = .int .i64 j ∧ Hid ((∀ k, k + 1 = i → a ≤ k → kf (d k) ≤ kf (d m)) ∧ (j < m → kf (d m) < kf (d j))) ∧ Hid (Row w0 wr blk n d)) (fun vi vj _ => (intOf vj - intOf vi).toNat)
  case atStart => exact ⟨a, m, Nat.le_refl _, by omega, Nat.le_refl _, rfl, rfl, ⟨fun k hk hk2 => by omega, fun h => by omega⟩, HR⟩
  case round =>
    obtain ⟨i, j, hai, hij, hjn, rfl, rfl, HI, R1⟩ := hrel
    by_cases hlt : i < j
    · obtain ⟨h, hh1, hh2, hh⟩ : ∃ h : Nat, i ≤ h ∧ h < j ∧ h = (i + j) / 2 := ⟨(i + j) / 2, by omega, by omega, rfl⟩
      have he : ((i : Int) + (j : Int)) / 2 = ((h : Nat) : Int) := by omega
      have hhn : (h : Int) < (n : Int) := by omega
      have hmn : (m : Int) < (n : Int) := by omega
      have l1 := fun q os => cell_grown (n := q) (os := os) (a := ⟨blk, h, none⟩) R1.out.ltW (R1.out.cell h (by omega))
      have l2 := fun q os => cell_grown (n := q) (os := os) (a := ⟨blk, m, none⟩) R1.out.ltW (R1.out.cell m (by omega))
      have EC : Hid (∀ (q : Nat) (os : Array Obj), Calls Tryd.prog g (#[.int .i64 (d m), .int .i64 (d h)] ++ cb) (grow (wr.drewN q) os) fun e w'' => e = .returned (.int .i64 (cmpV (kf (d m)) (kf (d h)))) ∧ ∃ p : GrownBy, w'' = grow (wr.drewN p.n) p.os) := fun q os =>
        gr_call (HC.out _ (d m) (d h) (R1.out.gr (grown_gr wr q os)).grown (HN.out m (by omega) (by omega)) (HN.out h (by omega) (by omega)))
      clear hh
      by_cases hlt2 : kf (d m) < kf (d h)
      · have hd2 : decide (cmpV (kf (d m)) (kf (d h)) < 0) = true := decide_eq_true (cmpV_neg.2 hlt2)
        have hI : Hid ((∀ k, k + 1 = i → a ≤ k → kf (d k) ≤ kf (d m)) ∧ (h < m → kf (d m) < kf (d h))) := ⟨HI.out.1, fun _ => hlt2⟩
        clear hlt2
        go_wp2_with fail
        refine wp_region_quiet_grown (by assumption) (by kernel_rfl) ?_
        repeat (first | go_big_quiet_step ((exact EC.out _ _)) | quiet_step ((exact EC.out _ _)))
        refine wpQuiet_nil ?_
        intro _ hw'
        obtain ⟨⟨nq, osq⟩, hw''⟩ := hw'
        subst hw''
        have R3 := hide (R1.out.gr (grown_gr wr nq osq))
        clear l1 l2 EC
        go_wp2
        go_roundw
        case rel => exact ⟨i, h, hai, hh1, by omega, rfl, rfl, hI, R3⟩
        case measure => simp [intOf]; omega
      · have hd2 : decide (cmpV (kf (d m)) (kf (d h)) < 0) = false := decide_eq_false (fun h => hlt2 (cmpV_neg.1 h))
        have hI : Hid ((∀ k, k + 1 = h + 1 → a ≤ k → kf (d k) ≤ kf (d m)) ∧ (j < m → kf (d m) < kf (d j))) := ⟨fun k hk _ => (by have e : k = h := (by omega); rw [e]; omega), HI.out.2⟩
        clear hlt2
        go_wp2_with fail
        refine wp_region_quiet_grown (by assumption) (by kernel_rfl) ?_
        repeat (first | go_big_quiet_step ((exact EC.out _ _)) | quiet_step ((exact EC.out _ _)))
        refine wpQuiet_nil ?_
        intro _ hw'
        obtain ⟨⟨nq, osq⟩, hw''⟩ := hw'
        subst hw''
        have R3 := hide (R1.out.gr (grown_gr wr nq osq))
        clear l1 l2 EC
        go_wp2
        go_roundw
        case rel => exact ⟨h + 1, j, by omega, by omega, hjn, by go_num, rfl, hI, R3⟩
        case measure => simp [intOf]; omega
    · obtain rfl : i = j := by omega
      have HP := hide (HT.out.one_right ⟨hai, hjn⟩ (fun h => HI.out.1 (i - 1) (by omega) (by omega)) HI.out.2)
      obtain ⟨wo, hwo⟩ : ∃ wo : World, wo = wr := ⟨_, rfl⟩
      subst hwo
      go_wp2
      go_loopw [17] (fun vk wr2 => ∃ k : Nat, i ≤ k ∧ k ≤ m ∧ vk = .int .i64 k ∧ Hid (Row w0 wr2 blk n (rotF d k m (m + 1)))) (fun vk _ => (intOf vk).toNat)
      case atStart => exact ⟨m, by omega, Nat.le_refl _, rfl, by rw [rot_last_start]; exact R1⟩
      case round =>
        obtain ⟨k, hik, hkm, rfl, R2⟩ := hrel
        by_cases hk : i < k
        · obtain ⟨p, rfl⟩ : ∃ q, k = q + 1 := ⟨k - 1, by omega⟩
          have hjd2 : decide ((i : Int) < (p : Int) + 1) = true := decide_eq_true (by omega)
          have hjz : (i : Int) < (p : Int) + 1 := by omega
          have b1 : (p : Int) + 1 < (n : Int) := by omega
          have b2 : (p : Int) < (n : Int) := by omega
          have m1 := R2.out.cell (p + 1) (by omega)
          have m2 := R2.out.cell p (by omega)
          have f1 := R2.out.free (p + 1)
          have f2 := R2.out.free p
          have R4 := hide (R2.out.swap (i := p + 1) (j := p) (by omega) (by omega))
          rw [rot_last_step d (by omega)] at R4
          generalize rotF d (p + 1) m (m + 1) (p + 1) = x at m1 R4
          generalize rotF d (p + 1) m (m + 1) p = y at m2 R4
          have m3 : (wr.setCell ⟨blk, p + 1, none⟩ (.int .i64 y)).cell? ⟨blk, p, none⟩ = some (.int .i64 y) := (World.cell?_setCell_other _ _ _ _ (by intro e'; simp only [Addr.mk.injEq] at e'; omega)).trans m2
          go_wp2_with fail
          go_big_region
          go_wp2
          go_roundw
          case rel => exact ⟨p, by omega, by omega, rfl, R4⟩
          case measure => simp [intOf]
        · obtain rfl : k = i := by omega
          have hjd2 : decide ((k : Int) < (k : Int)) = false := by simp
          go_wp2
          go_end0
          exact ⟨rfl, _, R2.out, HP.out.1, HP.out.2⟩

end Go.Proofs.YtfahlgjolihmkaaDoor
/- The library's merge in place. -/
namespace Go.Proofs.YtfahlgjolihmkaaDoor
open Go.RowKit Go.Sort

theorem rot_triv (d : Nat → Nat) {s m e : Nat} (h : s = m ∨ e = m) (h1 : s ≤ m) (h2 : m ≤ e) : rotF d s m e = d := by
  funext x
  unfold rotF
  rcases h with rfl | rfl
  · repeat' split
    all_goals first | rfl | (exfalso; omega) | (congr 1; omega)
  · repeat' split
    all_goals first | rfl | (exfalso; omega) | (congr 1; omega)

/-- the contract of the merge -/
def SymSaid (g : Nat) (cb : Array Value) (kf : Nat → Int) (w0 : World) (blk n cap len : Nat) : Prop :=
  ∀ (a m b : Nat) (d : Nat → Nat) (w : World), b - a ≤ len → a < m → m < b → b ≤ n → Row w0 w blk n d → TwoRuns kf a m b d → (∀ k, a ≤ k → k < b → d k < n) →
    Calls Tryd.prog 88 #[.slice (some ⟨blk, 0, none⟩) n cap, .int .i64 a, .int .i64 m, .int .i64 b, .func (.func g) #[] cb] w (InsPost w0 blk n kf a b d)

/-- what the search for the cut knows -/
structure CutI (kf : Nat → Int) (a m b c i j : Nat) (d : Nat → Nat) : Prop where
  lo : a < i → c + m - i < b → kf (d (i - 1)) ≤ kf (d (c + m - i))
  hi : j < m → m < c + m - j → kf (d (c + m - j - 1)) < kf (d j)

/-- the left half behind the rotation, sorted or to be sorted -/
theorem half_done {kf : Nat → Int} {a s c : Nat} {d : Nat → Nat} (h : TwoRuns kf a s c d) (hc : s ≤ a ∨ c ≤ s) (hs : a ≤ s ∧ s ≤ c) : PermOn a c d d ∧ SortedOn kf a c d := by
  refine ⟨PermOn.refl _ _ _, ?_⟩
  rcases hc with h1 | h1
  · obtain rfl : s = a := by omega
    exact h.right
  · obtain rfl : s = c := by omega
    exact h.left
theorem TwoRuns.congr {kf : Nat → Int} {a m b : Nat} {d d' : Nat → Nat} (h : TwoRuns kf a m b d) (e : ∀ k, a ≤ k → k < b → d' k = d k) (hm : a ≤ m ∧ m ≤ b) : TwoRuns kf a m b d' :=
  ⟨fun k k' h1 h2 h3 => by rw [e k h1 (by omega), e k' (by omega) (by omega)]; exact h.left k k' h1 h2 h3,
   fun k k' h1 h2 h3 => by rw [e k (by omega) (by omega), e k' (by omega) h3]; exact h.right k k' h1 h2 h3,
   fun k k' h1 h2 h3 h4 => by rw [e k h1 (by omega), e k' (by omega) h4]; exact h.low k k' h1 h2 h3 h4⟩

/-- all together -/
theorem sym_close {kf : Nat → Int} {a m b s e c : Nat} {d d1 d2 : Nat → Nat} (h : TwoRuns kf a m b d) (hs : a ≤ s ∧ s ≤ m) (he : m ≤ e ∧ e ≤ b) (hc : c = s + (e - m))
    (h1 : a < s → e < b → kf (d (s - 1)) ≤ kf (d e)) (h2 : s < m → m < e → kf (d (e - 1)) < kf (d s))
    (p1 : PermOn a c (rotF d s m e) d1) (s1 : SortedOn kf a c d1) (p2 : PermOn c b d1 d2) (s2 : SortedOn kf c b d2) : PermOn a b d d2 ∧ SortedOn kf a b d2 := by
  subst hc
  have hcut := h.cut hs he h1 h2
  have hj := sorted_join (by omega) (by omega) p1 s1 p2 s2 (fun k k' g1 g2 g3 g4 => by
    have L : ∃ x, rotF d s m e k = d x ∧ (a ≤ x ∧ x < s ∨ m ≤ x ∧ x < e) := by
      unfold rotF
      split
      · exact ⟨_, rfl, by omega⟩
      · split
        · omega
        · exact ⟨_, rfl, by omega⟩
    have R : ∃ x, rotF d s m e k' = d x ∧ (s ≤ x ∧ x < m ∨ e ≤ x ∧ x < b) := by
      unfold rotF
      split
      · omega
      · split
        · exact ⟨_, rfl, by omega⟩
        · exact ⟨_, rfl, by omega⟩
    obtain ⟨x, ex, hx⟩ := L
    obtain ⟨y, ey, hy⟩ := R
    rw [ex, ey]
    exact hcut x y hx hy)
  exact ⟨((PermOn.rot d hs.2 he.1).mono hs.1 he.2).trans hj.1, hj.2⟩

end Go.Proofs.YtfahlgjolihmkaaDoor
