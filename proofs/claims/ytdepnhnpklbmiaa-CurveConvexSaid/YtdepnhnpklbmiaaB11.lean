/- Plain facts of a division: where the climbs end, who takes what is left. -/
import Derived.Test.YtdepnhnpklbmiaaB10
namespace Go.Proofs.Ytdepnhnpklbmiaa
open Go.RowKit Go.Sort

/-- the first number behind which no slope is less than p -/
def climK (c : Cu) (p : Int) : Nat := c.sl.findIdx fun s => decide (p ≤ s)
theorem clim_is {c : Cu} {p : Int} {n k : Nat} (hl : c.sl.length = n) (h : Clim c p n 0 k) : k = climK c p := by
  obtain ⟨_, h2, h3, h4⟩ := h
  have hle : climK c p ≤ c.sl.length := List.findIdx_le_length
  rcases Nat.lt_trichotomy k (climK c p) with h | h | h
  · have h5 := h4 (by omega)
    have h6 := List.not_of_lt_findIdx h
    rw [iA_get (by omega)] at h5
    have h7 := of_decide_eq_false (by simpa using h6 : decide (p ≤ c.sl[k]) = false)
    exact absurd h5 h7
  · exact h
  · have hlt : climK c p < c.sl.length := by omega
    have h5 := h3 (climK c p) (Nat.zero_le _) h
    have h6 := List.findIdx_getElem (w := hlt)
    rw [iA_get hlt] at h5
    have h7 := of_decide_eq_true h6
    have h8 : p ≤ c.sl[climK c p] := h7
    omega
theorem climK_le (c : Cu) (p : Int) : climK c p ≤ c.sl.length := List.findIdx_le_length

/-- steps that cost just p, as long as some are left -/
def giveF (c : Cu) (p : Int) : Nat → Nat → Int → Nat × Int
  | 0, k, l => (k, l)
  | f + 1, k, l => if 0 < l ∧ k < c.sl.length ∧ iA c.sl k = p then giveF c p f (k + 1) (l - 1) else (k, l)
def give (c : Cu) (p : Int) (k : Nat) (l : Int) : Nat × Int := giveF c p (c.sl.length - k) k l
theorem giveF_stop {c : Cu} {p : Int} {k : Nat} {l : Int} (h : ¬ (0 < l ∧ k < c.sl.length ∧ iA c.sl k = p)) : ∀ f, giveF c p f k l = (k, l)
  | 0 => rfl
  | f + 1 => by unfold giveF; rw [if_neg h]
theorem giveF_le {c : Cu} {p : Int} : ∀ (f k : Nat) (l : Int), k ≤ c.sl.length → (giveF c p f k l).1 ≤ c.sl.length
  | 0, k, l, h => h
  | f + 1, k, l, h => by
    unfold giveF
    split
    · rename_i h1
      exact giveF_le f (k + 1) (l - 1) (by omega)
    · exact h
theorem giveF_left {c : Cu} {p : Int} : ∀ (f k : Nat) (l : Int), l - f ≤ (giveF c p f k l).2 ∧ (giveF c p f k l).2 ≤ l
  | 0, k, l => ⟨by show l - ((0 : Nat) : Int) ≤ l; omega, Int.le_refl _⟩
  | f + 1, k, l => by
    unfold giveF
    split
    · have := giveF_left (c := c) (p := p) f (k + 1) (l - 1)
      omega
    · show l - ((f + 1 : Nat) : Int) ≤ l ∧ l ≤ l
      omega
/-- what is left when the last m curves have taken their part -/
def leftD (cs : Nat → Cu) (p : Int) (n : Nat) (l0 : Int) : Nat → Int
  | 0 => l0
  | m + 1 => (give (cs (n - 1 - m)) p (climK (cs (n - 1 - m)) p) (leftD cs p n l0 m)).2
/-- where the j-th curve ends -/
def kD (cs : Nat → Cu) (p : Int) (n : Nat) (l0 : Int) (j : Nat) : Nat := (give (cs j) p (climK (cs j) p) (leftD cs p n l0 (n - 1 - j))).1
theorem kD_le (cs : Nat → Cu) (p : Int) (n : Nat) (l0 : Int) (j : Nat) : kD cs p n l0 j ≤ (cs j).sl.length := giveF_le _ _ _ (climK_le _ _)
theorem leftD_range (cs : Nat → Cu) (p : Int) (n : Nat) (l0 : Int) (hc : ∀ j, j < n → (cs j).sl.length ≤ 64) : ∀ m, m ≤ n → l0 - 64 * m ≤ leftD cs p n l0 m ∧ leftD cs p n l0 m ≤ l0
  | 0, _ => by show l0 - 64 * ((0 : Nat) : Int) ≤ l0 ∧ l0 ≤ l0; omega
  | m + 1, hm => by
    have ih := leftD_range cs p n l0 hc m (by omega)
    have h1 := giveF_left (c := cs (n - 1 - m)) (p := p) ((cs (n - 1 - m)).sl.length - climK (cs (n - 1 - m)) p) (climK (cs (n - 1 - m)) p) (leftD cs p n l0 m)
    have h2 := hc (n - 1 - m) (by omega)
    show l0 - 64 * ((m + 1 : Nat) : Int) ≤ (giveF _ _ _ _ _).2 ∧ (giveF _ _ _ _ _).2 ≤ l0
    omega

theorem catL_length (cs : Nat → Cu) : ∀ k, ((catL cs k).length : Int) = sumTo (fun i => (cs i).fr + ((cs i).sl.length : Int)) k - sumTo (fun i => (cs i).fr) k
  | 0 => by simp [catL, sumTo]
  | k + 1 => by
    have ih := catL_length cs k
    unfold catL sumTo
    rw [List.length_append]
    omega
noncomputable def splitLo (cs : Nat → Cu) (n : Nat) : Int := sumTo (fun i => (cs i).fr) n
noncomputable def priceV (cs : Nat → Cu) (n : Nat) (total : Int) : Int := if 0 < total - splitLo cs n then iA (sortI (catL cs n)) (total - splitLo cs n - 1).toNat else -1048576
noncomputable def leftV (cs : Nat → Cu) (n : Nat) (total : Int) : Int := total - sumTo (fun j => (cs j).fr + (climK (cs j) (priceV cs n total) : Int)) n
noncomputable def kV (cs : Nat → Cu) (n : Nat) (total : Int) (j : Nat) : Nat := kD cs (priceV cs n total) n (leftV cs n total) j
noncomputable def splitX (cs : Nat → Cu) (n : Nat) (total : Int) : List Int := if splitE cs n total = 0 then (List.range n).map (fun j => (cs j).fr + (kV cs n total j : Int)) else []
noncomputable def splitC (cs : Nat → Cu) (n : Nat) (total : Int) : Int := if splitE cs n total = 0 then sumTo (fun j => valK (cs j) (kV cs n total j)) n else 0
noncomputable def splitP (cs : Nat → Cu) (n : Nat) (total : Int) : Int := if splitE cs n total = 0 then priceV cs n total else 0
def SplitPost (cs : Nat → Cu) (n : Nat) (total : Int) (w : World) (e : Ending) (w' : World) : Prop :=
  ∃ A m cap, e = .returned (.tuple #[.slice A m cap, .int .i64 (splitC cs n total), .int .i64 (splitP cs n total), .int .i64 (splitE cs n total)]) ∧ IntsAt w'.heap.size w' A m (splitX cs n total) ∧ Below w.heap.size w w'

theorem info61 : (Try.prog.info? 61).map (fun i => (i.zero, i.size, i.bytes)) = some (some (.agg #[.int .i64 0, .int .i64 0, .slice none 0 0, .int .i64 0, .int .i64 0]), 5, 56) := by kernel_rfl
theorem run_walkers (W : World) {n : Nat} (hn : n ≤ 1000) : (Instr.makeSlice 83 (.int .i64 (n : Int)) (.int .i64 (n : Int))).run Try.prog W = .ok (.slice (some ⟨W.heap.size, 0, none⟩) n n) (W.alloc (.cells (madeCells #[.int .i64 0, .int .i64 0, .slice none 0 0, .int .i64 0, .int .i64 0] (n * 5)) 61)) := by
  obtain ⟨i0, hi0, hz0, hz1, hz2⟩ := info_parts info61
  have h := run_make (P := Try.prog) W 83 61 i0 _ Try.underlying83 hi0 hz0 .i64 .i64 (n : Int) (n : Int) (by omega) (by omega) (by rw [hz2]; omega) (by omega)
  rw [hz1, Int.toNat_natCast] at h
  exact h
theorem room_new (W : World) (n : Nat) : RoomW (W.alloc (.cells (madeCells #[.int .i64 0, .int .i64 0, .slice none 0 0, .int .i64 0, .int .i64 0] (n * 5)) 61)) W.heap.size n := by
  have hh := heap_alloc_new W (.cells (madeCells #[.int .i64 0, .int .i64 0, .slice none 0 0, .int .i64 0, .int .i64 0] (n * 5)) 61)
  refine ⟨by rw [World.size_alloc]; exact Nat.lt_succ_self _, fun o ho => ⟨?_, frozen_of_heap' hh o⟩⟩
  rw [cell_of_heap' hh o, Array.getElem?_eq_getElem (by rw [size_madeCells]; exact ho)]
  exact ⟨_, rfl⟩
theorem list_of_iA {T : List Int} {n : Nat} {f : Nat → Int} (hl : T.length = n) (h : ∀ j, j < n → iA T j = f j) : T = (List.range n).map f := by
  refine List.ext_getElem (by simp [hl]) fun j h1 h2 => ?_
  have := h j (by omega)
  rw [iA_get h1] at this
  simp [this]

end Go.Proofs.Ytdepnhnpklbmiaa
