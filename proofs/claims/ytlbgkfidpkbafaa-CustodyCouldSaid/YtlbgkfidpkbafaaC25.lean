/- How many stand; a line's holders. -/
import Derived.Test.YtlbgkfidpkbafaaC24
namespace Go.Proofs.Ytlbgkfidpkbafaa
open Go.RowKit
set_option linter.unusedSimpArgs false
set_option linter.unusedVariables false
def standN (d : Int) (xs : List Int) : Nat → Nat
  | 0 => 0
  | i + 1 => standN d xs i + (if standsB d xs i = true then 1 else 0)
theorem standN_le (d : Int) (xs : List Int) : ∀ i, standN d xs i ≤ i
  | 0 => Nat.le_refl _
  | i + 1 => by
    have := standN_le d xs i
    simp only [standN]
    split <;> omega
set_option maxRecDepth 20000 in
theorem standing_c (d : Int) (n : Nat) (xs : List Int) (m : Nat) (es : List Int) (hw : Wf n xs) : CallA Try.prog 74 [.t (.a (.s (.ptr 0 0)))] (bookR false d n xs m es) (fun w H => w = .int .i64 ((standN d xs n : Nat) : Int) ∧ H = bookR false d n xs m es) := by
  refine call_of_vc TYok mixedO Try.func74 rfl rfl (Nat.le_of_ble_eq_true rfl) ?_
  have h2 := hw.few
  (repeat (first | refine aC ?_ | refine aK ?_ | refine ⟨fun _ => ?_, fun h => absurd h (by decide)⟩ | refine ⟨fun h => absurd h (by decide), fun _ => ?_⟩))
  refine loop_rule TYok mixedO (ι := Nat × Nat) (fun q => [(0, .t (.a (.s (.ptr 0 0)))), (3, .int .i64 (q.2 : Int)), (9, .int .i64 (n : Int)), (10, .int .i64 (q.1 : Int))]) (fun _ => bookR false d n xs m es) (fun q => q.1 ≤ n ∧ q.2 = standN d xs q.1) (fun q => n - q.1) (0, 0) ⟨Nat.zero_le _, rfl⟩ some (by exact wI) ?_
  rintro ⟨i, c⟩ ⟨hi, hc⟩
  dsimp only at hi hc ⊢
  have hcl := standN_le d xs i
  (repeat (first | refine aC ?_ | refine aK ?_ | refine ⟨fun _ => ?_, fun h => absurd h (by decide)⟩ | refine ⟨fun h => absurd h (by decide), fun _ => ?_⟩))
  refine ⟨fun g => ?_, fun g => ?_⟩
  · have g := of_decide_eq_true g
    have hlt : i < n := by omega
    (repeat (first | refine aC ?_ | refine aK ?_ | refine ⟨fun _ => ?_, fun h => absurd h (by decide)⟩ | refine ⟨fun h => absurd h (by decide), fun _ => ?_⟩))
    have e1 : 0 + ((i : Nat) : Int).toNat * ti50.size = i * 9 := by
      rw [siz50]
      simp
    rw [e1]
    (repeat (first | refine aC ?_ | refine aK ?_ | refine ⟨fun _ => ?_, fun h => absurd h (by decide)⟩ | refine ⟨fun h => absurd h (by decide), fun _ => ?_⟩))
    (refine call_lift (stands_c d n xs m es i hw hlt) (fun i => match i with | 0 => some 0 | 1 => some 1 | 2 => some 2 | _ => none) rfl rfl hI rfl rfl rfl ?_; rintro v H1 ⟨rfl, rfl⟩; refine ⟨⟨rfl, rfl, rfl, rfl⟩, ?_⟩; (try simp only [two]); (try simp only [AV.ren]); (try simp only [renT]); (try simp only [AT.ren]); (try simp only [A.ren]); (try (rw [ptr_ren]; rotate_left; exact rfl)); (try (rw [slc_ren]; rotate_left; exact rfl)); (try simp only [S.ren]))
    (repeat (first | refine aC ?_ | refine aK ?_ | refine ⟨fun _ => ?_, fun h => absurd h (by decide)⟩ | refine ⟨fun h => absurd h (by decide), fun _ => ?_⟩))
    refine ⟨fun g => ?_, fun g => ?_⟩
    · have g1 : standsB d xs i = true := g
      (repeat (first | refine aC ?_ | refine aK ?_ | refine ⟨fun _ => ?_, fun h => absurd h (by decide)⟩ | refine ⟨fun h => absurd h (by decide), fun _ => ?_⟩))
      refine ⟨(i + 1, c + 1), ⟨by dsimp only; omega, ?_⟩, by dsimp only; omega, some, by exact wI⟩
      dsimp only
      simp only [standN]
      rw [if_pos g1, hc]
    · have g1 : standsB d xs i = false := g
      (repeat (first | refine aC ?_ | refine aK ?_ | refine ⟨fun _ => ?_, fun h => absurd h (by decide)⟩ | refine ⟨fun h => absurd h (by decide), fun _ => ?_⟩))
      refine ⟨(i + 1, c), ⟨by dsimp only; omega, ?_⟩, by dsimp only; omega, some, by exact wI⟩
      dsimp only
      simp only [standN]
      rw [if_neg (by rw [g1]; decide), hc]
      rfl
  · have g := of_decide_eq_false g
    (repeat (first | refine aC ?_ | refine aK ?_ | refine ⟨fun _ => ?_, fun h => absurd h (by decide)⟩ | refine ⟨fun h => absurd h (by decide), fun _ => ?_⟩))
    obtain rfl : i = n := by omega
    rw [← hc]
    exact ⟨some, .int .i64 (c : Int), bookR false d i xs m es, by exact wI, rfl, rfl⟩
abbrev boxB (b : Int) : Blk := ⟨false, true, 3, 1, .cells [.s (.v (.int .i64 b))]⟩
def holdG (xs : List Int) (b : Int) (k : Nat) : Bool := fG xs k 3 == b
set_option maxRecDepth 20000 in
theorem isHolder_c (d : Int) (n : Nat) (xs : List Int) (m : Nat) (es : List Int) (b : Int) (hx : n * 9 = xs.length) (k : Nat) (hk : k < n) : CallA Try.prog 72 [.t (.a (.s (.ptr 1 (k * 9)))), .t (.a (.s (.ptr 3 0)))] (bookR false d n xs m es ++ [boxB b]) (fun w H => w = .boo (holdG xs b k) ∧ H = bookR false d n xs m es ++ [boxB b]) := by
  refine call_of_vc TYok mixedO Try.func72 rfl rfl (Nat.le_of_ble_eq_true rfl) ?_
  (repeat (first | refine aC ?_ | refine ⟨fun _ => ?_, fun h => absurd h (by decide)⟩ | refine ⟨fun h => absurd h (by decide), fun _ => ?_⟩))
  (refine Or.inr (drawn_rule TYok mixedO [] [(true, 0, []), (true, 1, []), (true, 2, []), (true, 3, []), (true, 4, []), (true, 5, []), (true, 6, [])] (by kernel_rfl) ?_))
  (repeat (first | refine aC ?_ | refine aK ?_ | refine ⟨fun _ => ?_, fun h => absurd h (by decide)⟩ | refine ⟨fun h => absurd h (by decide), fun _ => ?_⟩))
  refine And.intro (fld_t (o := 3) (by decide) rfl hk hx) ?_
  (repeat (first | refine aC ?_ | refine aK ?_ | refine ⟨fun _ => ?_, fun h => absurd h (by decide)⟩ | refine ⟨fun h => absurd h (by decide), fun _ => ?_⟩))
  exact ⟨some, .boo (holdG xs b k), bookR false d n xs m es ++ [boxB b], by exact wI, rfl, rfl⟩
set_option maxRecDepth 20000 in
theorem index_h (d : Int) (n : Nat) (xs : List Int) (m : Nat) (es : List Int) (b : Int) (l : List Nat) (hx : n * 9 = xs.length) (hl : ∀ i ∈ l, i < n) (hf : l.length ≤ 1000) : CallA Try.prog 98 [.t (.a (.s (.slc 3 0 l.length))), .t (.a (.fn (.func 72) [] [.ptr 4 0]))] (lineR d n xs m es l ++ [boxB b]) (fun w H => w = .int .i64 (idxF (holdG xs b) l 0) ∧ H = lineR d n xs m es l ++ [boxB b]) := by
  refine call_of_vc TYok mixedO Try.func98 rfl rfl (Nat.le_of_ble_eq_true rfl) ?_
  (repeat (first | refine aC ?_ | refine aK ?_ | refine ⟨fun _ => ?_, fun h => absurd h (by decide)⟩ | refine ⟨fun h => absurd h (by decide), fun _ => ?_⟩))
  refine loop_rule TYok mixedO (ι := Nat) (fun j => [(0, .t (.a (.s (.slc 3 0 l.length)))), (1, .t (.a (.fn (.func 72) [] [.ptr 4 0]))), (7, .int .i64 (l.length : Int)), (8, .int .i64 (j : Int))]) (fun _ => lineR d n xs m es l ++ [boxB b]) (fun j => j ≤ l.length ∧ idxF (holdG xs b) l 0 = idxF (holdG xs b) (l.drop j) j) (fun j => l.length - j) 0 ⟨Nat.zero_le _, rfl⟩ some (by exact wI) ?_
  rintro j ⟨hj, he⟩
  (repeat (first | refine aC ?_ | refine aK ?_ | refine ⟨fun _ => ?_, fun h => absurd h (by decide)⟩ | refine ⟨fun h => absurd h (by decide), fun _ => ?_⟩))
  refine ⟨fun g => ?_, fun g => ?_⟩
  · have g := of_decide_eq_true g
    have hjl : j < l.length := by omega
    rw [idxF_drop _ _ hjl] at he
    have hlt := getD_lt hl hjl
    (repeat (first | refine aC ?_ | refine aK ?_ | refine ⟨fun _ => ?_, fun h => absurd h (by decide)⟩ | refine ⟨fun h => absurd h (by decide), fun _ => ?_⟩))
    have e1 : 0 + ((j : Nat) : Int).toNat * ti89.size = j := by
      rw [siz89]
      simp
    rw [e1]
    refine And.intro (decide_eq_true (by rw [List.length_map]; exact hjl)) ?_
    rw [nine]
    (repeat (first | refine aC ?_ | refine aK ?_ | refine ⟨fun _ => ?_, fun h => absurd h (by decide)⟩ | refine ⟨fun h => absurd h (by decide), fun _ => ?_⟩))
    (refine call_lift (isHolder_c d n xs m es b hx (l.getD j 0) hlt) (fun i => match i with | 0 => some 0 | 1 => some 1 | 2 => some 2 | 3 => some 4 | _ => none) rfl rfl hI rfl rfl rfl ?_; rintro v H1 ⟨rfl, rfl⟩; refine ⟨⟨rfl, rfl, rfl, rfl⟩, ?_⟩; (try simp only [two]); (try simp only [AV.ren]); (try simp only [renT]); (try simp only [AT.ren]); (try simp only [A.ren]); (try (rw [ptr_ren]; rotate_left; exact rfl)); (try (rw [slc_ren]; rotate_left; exact rfl)); (try simp only [S.ren]))
    (repeat (first | refine aC ?_ | refine aK ?_ | refine ⟨fun _ => ?_, fun h => absurd h (by decide)⟩ | refine ⟨fun h => absurd h (by decide), fun _ => ?_⟩))
    refine ⟨fun g => ?_, fun g => ?_⟩
    · (repeat (first | refine aC ?_ | refine aK ?_ | refine ⟨fun _ => ?_, fun h => absurd h (by decide)⟩ | refine ⟨fun h => absurd h (by decide), fun _ => ?_⟩))
      have g0 : holdG xs b (l.getD j 0) = true := g
      rw [he, if_pos g0]
      exact ⟨some, .int .i64 (j : Int), lineR d n xs m es l ++ [boxB b], by exact wI, rfl, rfl⟩
    · (repeat (first | refine aC ?_ | refine aK ?_ | refine ⟨fun _ => ?_, fun h => absurd h (by decide)⟩ | refine ⟨fun h => absurd h (by decide), fun _ => ?_⟩))
      have g0 : holdG xs b (l.getD j 0) = false := g
      rw [g0] at he
      exact ⟨j + 1, ⟨by omega, he⟩, by omega, some, by exact wI⟩
  · have g := of_decide_eq_false g
    (repeat (first | refine aC ?_ | refine aK ?_ | refine ⟨fun _ => ?_, fun h => absurd h (by decide)⟩ | refine ⟨fun h => absurd h (by decide), fun _ => ?_⟩))
    have e : idxF (holdG xs b) l 0 = -1 := by
      rw [he, List.drop_eq_nil_of_le (by omega)]
      rfl
    rw [e]
    exact ⟨some, .int .i64 (-1), lineR d n xs m es l ++ [boxB b], by exact wI, rfl, rfl⟩
set_option maxRecDepth 20000 in
theorem contains_h (d : Int) (n : Nat) (xs : List Int) (m : Nat) (es : List Int) (b : Int) (l : List Nat) (hx : n * 9 = xs.length) (hl : ∀ i ∈ l, i < n) (hf : l.length ≤ 1000) : CallA Try.prog 71 [.t (.a (.s (.slc 3 0 l.length))), .t (.a (.fn (.func 72) [] [.ptr 4 0]))] (lineR d n xs m es l ++ [boxB b]) (fun w H => w = .boo (l.any (holdG xs b)) ∧ H = lineR d n xs m es l ++ [boxB b]) := by
  refine call_of_vc TYok mixedO Try.func71 rfl rfl (Nat.le_of_ble_eq_true rfl) ?_
  (repeat (first | refine aC ?_ | refine aK ?_ | refine ⟨fun _ => ?_, fun h => absurd h (by decide)⟩ | refine ⟨fun h => absurd h (by decide), fun _ => ?_⟩))
  (refine call_lift (index_h d n xs m es b l hx hl hf) (fun i => match i with | 0 => some 0 | 1 => some 1 | 2 => some 2 | 3 => some 3 | 4 => some 4 | _ => none) rfl rfl hI rfl rfl rfl ?_; rintro v H1 ⟨rfl, rfl⟩; refine ⟨⟨rfl, rfl, rfl, rfl⟩, ?_⟩; (try simp only [two]); (try simp only [AV.ren]); (try simp only [renT]); (try simp only [AT.ren]); (try simp only [A.ren]); (try (rw [ptr_ren]; rotate_left; exact rfl)); (try (rw [slc_ren]; rotate_left; exact rfl)); (try simp only [S.ren]))
  (repeat (first | refine aC ?_ | refine aK ?_ | refine ⟨fun _ => ?_, fun h => absurd h (by decide)⟩ | refine ⟨fun h => absurd h (by decide), fun _ => ?_⟩))
  exact ⟨some, .boo (decide (0 ≤ idxF (holdG xs b) l 0)), lineR d n xs m es l ++ [boxB b], by exact wI, by rw [idxF_any], rfl⟩
end Go.Proofs.Ytlbgkfidpkbafaa
