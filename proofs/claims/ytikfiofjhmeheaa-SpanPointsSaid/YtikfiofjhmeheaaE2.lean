/- A row of flags of one's own, and the flags that the law on fewest keeps. -/
import Derived.Test.YtikfiofjhmeheaaE1
import Derived.Test.YtikfiofjhmeheaaQ0
namespace Go.Proofs.Ytikfiofjhmeheaa
open Go.RowKit Go.Sort

theorem info4 : (Try.prog.info? 4).map (fun i => (i.zero, i.size, i.bytes)) = some (some (.bool false), 1, 1) := by kernel_rfl
def Flags (W : World) (g n : Nat) (F : Nat → Bool) : Prop := ∃ vals : List Value, W.ownsRow g 4 1 (.slice (some ⟨g, 0, none⟩) n n) n vals ∧ ∀ i, i < n → vals[i]? = some (.bool (F i))
theorem made_flags (w : World) {n : Nat} (hn : n ≤ 1000000) : Flags (w.alloc (.cells (madeCells #[.bool false] n) 4)) w.heap.size n (fun _ => false) :=
  ⟨_, World.ownsRow_lit (base := w.heap.size) (e := 4) (size := 1) w (madeCells #[.bool false] n) n (Nat.le_refl _) (by unfold maxLen; omega) (by rw [size_madeCells]; omega),
    fun i hi => by simp [madeCells, hi, Nat.mod_one]⟩
theorem run_flags (W : World) {n : Nat} (hn : n ≤ 1000000) : (Instr.makeSlice 62 (.int .i64 (n : Int)) (.int .i64 (n : Int))).run Try.prog W = .ok (.slice (some ⟨W.heap.size, 0, none⟩) n n) (W.alloc (.cells (madeCells #[.bool false] n) 4)) := by
  obtain ⟨i0, hi0, hz0, hz1, hz2⟩ := info_parts info4
  have h := run_make (P := Try.prog) W 62 4 i0 (.bool false) Try.underlying62 hi0 hz0 .i64 .i64 (n : Int) (n : Int) (by omega) (by omega) (by rw [hz2]; omega) (by omega)
  rw [hz1, Int.toNat_natCast, Nat.mul_one] at h
  exact h
theorem Flags.cell {W : World} {g n : Nat} {F : Nat → Bool} (h : Flags W g n F) {i : Nat} (hi : i < n) : W.cell? ⟨g, i, none⟩ = some (.bool (F i)) := by
  obtain ⟨vals, h1, h2⟩ := h
  rw [h1.cellAt i (by omega)]
  exact h2 i hi
theorem Flags.frozen {W : World} {g n : Nat} {F : Nat → Bool} (h : Flags W g n F) (i : Nat) : W.frozen? ⟨g, i, none⟩ = false := by
  obtain ⟨vals, h1, h2⟩ := h
  exact h1.frozenAt i
theorem Flags.set {W : World} {g n : Nat} {F : Nat → Bool} (h : Flags W g n F) {i : Nat} (_ : i < n) (b : Bool) : Flags (W.setCell ⟨g, i, none⟩ (.bool b)) g n (fun j => if j = i then b else F j) := by
  obtain ⟨vals, h1, h2⟩ := h
  have hl : vals.length = n := by have := h1.1; omega
  refine ⟨vals.set i (.bool b), (h1.stored i _).1, fun j hj => ?_⟩
  by_cases e : j = i
  · subst e
    rw [List.getElem?_set_self (by omega)]
    simp
  · rw [List.getElem?_set_ne (fun h => e h.symm)]
    simp only [if_neg e]
    exact h2 j hj
theorem Flags.below {W W' : World} {g n : Nat} {F : Nat → Bool} (h : Flags W g n F) (hb : Below W.heap.size W W') : Flags W' g n F := by
  obtain ⟨vals, h1, h2⟩ := h
  exact ⟨vals, World.ownsRow.kept h1 ⟨hb.os, hb.tape, hb.output, hb.size, fun k hk _ => hb.block k hk⟩ (row := none) (.inr (by simp [Value.ownBlock])), h2⟩
theorem Flags.drewN {W : World} {g n : Nat} {F : Nat → Bool} (h : Flags W g n F) (q : Nat) : Flags (W.drewN q) g n F := h.below ((Gr.refl W).drewN q).below
theorem Flags.bools {W : World} {g n : Nat} {F : Nat → Bool} (h : Flags W g n F) (hg : g < W.heap.size) : BoolsAt W.heap.size W (some ⟨g, 0, none⟩) n ((List.range n).map F) := by
  refine ⟨by simp, .inr ⟨g, 0, rfl, hg, fun i hi => ?_⟩⟩
  rw [Nat.zero_add, h.cell hi]
  simp [bA, hi]
theorem sel_flags (F : Nat → Bool) (n i : Nat) (hi : i < n) : selL ((List.range n).map F) i = F i := by
  have : ((List.range n).map F).length = n := by simp
  unfold selL
  rw [this, show (n == 0) = false from beq_eq_false_iff_ne.2 (by omega), Bool.false_or]
  simp [bA, hi]

/-- the spans that the first k steps have taken -/
def mineF (L : List (Int × Int)) : Nat → Nat → Bool
  | 0 => fun _ => false
  | k + 1 => fun i => if i = (ixL L k).toNat then true else mineF L k i
theorem mineF_iff (L : List (Int × Int)) : ∀ k i, mineF L k i = true ↔ ∃ j, j < k ∧ i = (ixL L j).toNat
  | 0, i => by simp [mineF]
  | k + 1, i => by
    have ih := mineF_iff L k i
    unfold mineF
    by_cases h : i = (ixL L k).toNat
    · rw [if_pos h]
      exact ⟨fun _ => ⟨k, by omega, h⟩, fun _ => rfl⟩
    · rw [if_neg h, ih]
      exact ⟨fun ⟨j, h1, h2⟩ => ⟨j, by omega, h2⟩, fun ⟨j, h1, h2⟩ => ⟨j, by
        rcases Nat.lt_or_ge j k with h3 | h3
        · exact h3
        · obtain rfl : j = k := by omega
          exact absurd h2 h, h2⟩⟩
theorem mine_new {xs : List Sp} {tlo thi : Int} (h : covE xs tlo thi = 0) {k : Nat} (hk : k < (covL xs tlo thi).length) : mineF (covL xs tlo thi) k (ixL (covL xs tlo thi) k).toNat = false := by
  rw [Bool.eq_false_iff]
  intro hm
  obtain ⟨j, hj, he⟩ := (mineF_iff _ _ _).1 hm
  have h1 := step_two h hj hk
  have h2 := (step_ok h hk).1.hi
  dsimp only at h2
  rw [he] at h2
  omega
theorem mine_covers {xs : List Sp} {tlo thi : Int} (h : covE xs tlo thi = 0) {n : Nat} (hn : xs.length = n) : ∀ y, tlo ≤ y → y < thi → covd xs (selL ((List.range n).map (mineF (covL xs tlo thi) (covL xs tlo thi).length))) y := by
  intro y h1 h2
  obtain ⟨s, hs, h3, h4⟩ := (cov_facts h).2.2 y h1 h2
  obtain ⟨k, hk, rfl⟩ := List.mem_iff_getElem.1 hs
  have h5 := (cov_facts h).1 _ hs
  refine ⟨((covL xs tlo thi)[k]).2.toNat, h5.lt, ?_, by have := h5.lo; omega, h4⟩
  rw [sel_flags _ _ _ (by rw [← hn]; exact h5.lt), mineF_iff]
  exact ⟨k, hk, by simp [ixL, List.getD_eq_getElem?_getD, List.getElem?_eq_getElem hk]⟩
/-- theirs, filled up to k -/
def theirF (bs : List Bool) (k : Nat) (i : Nat) : Bool := decide (i < k) && bA bs i
theorem theirF_step (bs : List Bool) (k : Nat) : (fun i => if i = k then bA bs k else theirF bs k i) = theirF bs (k + 1) := by
  funext i
  unfold theirF
  by_cases h : i = k
  · subst h; simp
  · rw [if_neg h, show decide (i < k + 1) = decide (i < k) by simp only [decide_eq_decide]; omega]
theorem cnt_congr {f g : Nat → Bool} : ∀ k, (∀ i, i < k → f i = g i) → cntTo f k = cntTo g k
  | 0, _ => rfl
  | k + 1, h => by
    unfold cntTo
    rw [cnt_congr k (fun i hi => h i (by omega)), h k (by omega)]
theorem cnt_past (f : Nat → Bool) (k : Nat) : ∀ n, k ≤ n → (∀ i, k ≤ i → i < n → f i = false) → cntTo f n = cntTo f k
  | 0, h, _ => by obtain rfl : k = 0 := by omega
                  rfl
  | n + 1, h, hf => by
    rcases Nat.lt_or_ge k (n + 1) with h1 | h1
    · rw [show cntTo f (n + 1) = cntTo f n + (if f n = true then 1 else 0) from rfl, cnt_past f k n (by omega) (fun i h2 h3 => hf i h2 (by omega)), hf n (by omega) (by omega)]
      simp
    · obtain rfl : k = n + 1 := by omega
      rfl
theorem their_count {bs : List Bool} {k n : Nat} (hk : k ≤ n) : cntTo (selL ((List.range n).map (theirF bs k))) n = cntTo (bA bs) k := by
  rw [cnt_congr n (fun i hi => sel_flags (theirF bs k) n i hi), cnt_past (theirF bs k) k n hk (fun i h1 h2 => by simp [theirF]; omega), cnt_congr (g := bA bs) k (fun i hi => by simp [theirF, hi])]
theorem covT_at {xs : List Sp} {tlo thi : Int} (h : covE xs tlo thi = 0) (k : Nat) : iA (covT xs tlo thi) k = ixL (covL xs tlo thi) k ∧ iA (covS xs tlo thi) k = atL (covL xs tlo thi) k ∧ (covT xs tlo thi).length = (covL xs tlo thi).length ∧ (covS xs tlo thi).length = (covL xs tlo thi).length := by
  unfold covT covS
  rw [if_pos h, if_pos h]
  refine ⟨?_, ?_, by simp, by simp⟩
  · simp only [iA, ixL, List.getD_eq_getElem?_getD, List.getElem?_map]
    cases (covL xs tlo thi)[k]? <;> rfl
  · simp only [iA, atL, List.getD_eq_getElem?_getD, List.getElem?_map]
    cases (covL xs tlo thi)[k]? <;> rfl

end Go.Proofs.Ytikfiofjhmeheaa
