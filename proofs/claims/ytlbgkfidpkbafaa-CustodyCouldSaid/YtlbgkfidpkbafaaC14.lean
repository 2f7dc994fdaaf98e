/- A grant found. -/
import Derived.Test.YtlbgkfidpkbafaaC11
namespace Go.Proofs.Ytlbgkfidpkbafaa
open Go.RowKit
set_option linter.unusedSimpArgs false
set_option linter.unusedVariables false
set_option maxRecDepth 20000 in
theorem find_c (d : Int) (n : Nat) (xs : List Int) (m : Nat) (es : List Int) (hx : n * 9 = xs.length) (hn : n ≤ 128) (no : Int) (h1 : 1 ≤ no) (h2 : no ≤ n) : CallA Try.prog 65 [.t (.a (.s (.ptr 0 0))), .int .i64 no] (bookR false d n xs m es) (fun w H => w = .t (.a (.s (.ptr 1 ((no - 1).toNat * 9)))) ∧ H = bookR false d n xs m es) := by
  refine call_of_vc TYok mixedO Try.func65 rfl rfl (Nat.le_of_ble_eq_true rfl) ?_
  (repeat (first | refine aC ?_ | refine aK ?_ | refine ⟨fun _ => ?_, fun h => absurd h (by decide)⟩ | refine ⟨fun h => absurd h (by decide), fun _ => ?_⟩))
  (refine call_lift (needMade_c d n xs m es) (fun i => match i with | 0 => some 0 | 1 => some 1 | 2 => some 2 | _ => none) rfl rfl hI rfl rfl rfl ?_; rintro v H1 ⟨rfl, rfl⟩; refine ⟨⟨rfl, rfl, rfl, rfl⟩, ?_⟩; (try simp only [two]); (try simp only [AV.ren]); (try simp only [renT]); (try simp only [AT.ren]); (try simp only [A.ren]); (try (rw [ptr_ren]; rotate_left; exact rfl)); (try (rw [slc_ren]; rotate_left; exact rfl)); (try simp only [S.ren]))
  have q1 : decide (1 ≤ no) = true := decide_eq_true h1
  have q2 : decide (no ≤ (n : Int)) = true := decide_eq_true h2
  have e : 0 + (no - 1).toNat * ti50.size = (no - 1).toNat * 9 := by
    rw [siz50]
    omega
  (repeat (first | refine aC ?_ | refine aK ?_ | refine ⟨fun _ => ?_, fun h => absurd h (by decide)⟩ | refine ⟨fun h => absurd h (by decide), fun _ => ?_⟩))
  rw [q1]
  (repeat (first | refine aC ?_ | refine aK ?_ | refine ⟨fun _ => ?_, fun h => absurd h (by decide)⟩ | refine ⟨fun h => absurd h (by decide), fun _ => ?_⟩))
  rw [q2]
  (repeat (first | refine aC ?_ | refine aK ?_ | refine ⟨fun _ => ?_, fun h => absurd h (by decide)⟩ | refine ⟨fun h => absurd h (by decide), fun _ => ?_⟩))
  (refine call_lift (need_t 6) (fun i => match i with | 0 => none | _ => none) rfl rfl hI rfl rfl rfl ?_; rintro v H1 ⟨rfl, rfl⟩; refine ⟨⟨rfl, rfl, rfl, rfl⟩, ?_⟩; (try simp only [two]); (try simp only [AV.ren]); (try simp only [renT]); (try simp only [AT.ren]); (try simp only [A.ren]); (try (rw [ptr_ren]; rotate_left; exact rfl)); (try (rw [slc_ren]; rotate_left; exact rfl)); (try simp only [S.ren]))
  (repeat (first | refine aC ?_ | refine aK ?_ | refine ⟨fun _ => ?_, fun h => absurd h (by decide)⟩ | refine ⟨fun h => absurd h (by decide), fun _ => ?_⟩))
  rw [e]
  exact ⟨some, .t (.a (.s (.ptr 1 ((no - 1).toNat * 9)))), bookR false d n xs m es, by exact wI, rfl, rfl⟩
/-- a field of a grant -/
theorem fld_t {k o n : Nat} {xs : List Int} {K : RK} (ho : o < 9) (hK : kG.getD o .bool = K) (hk : k < n) (hx : n * 9 = xs.length) : (decide (kG.getD ((k * 9 + o) % kG.length) .bool = K) && decide (k * 9 + o < xs.length)) = true := by
  have e : (k * 9 + o) % kG.length = o := by
    show (k * 9 + o) % 9 = o
    omega
  rw [e]
  exact and_t (decide_eq_true hK) (decide_eq_true (by omega))
set_option maxRecDepth 20000 in
theorem isRevoked_c (d : Int) (n : Nat) (xs : List Int) (m : Nat) (es : List Int) (k : Nat) (hx : n * 9 = xs.length) (hk : k < n) : CallA Try.prog 73 [.t (.a (.s (.ptr 1 (k * 9))))] (bookR false d n xs m es) (fun w H => w = .boo (xs.getD (k * 9 + 8) 0 != 0) ∧ H = bookR false d n xs m es) := by
  refine call_of_vc TYok mixedO Try.func73 rfl rfl (Nat.le_of_ble_eq_true rfl) ?_
  (repeat (first | refine aC ?_ | refine aK ?_ | refine ⟨fun _ => ?_, fun h => absurd h (by decide)⟩ | refine ⟨fun h => absurd h (by decide), fun _ => ?_⟩))
  refine And.intro (fld_t (o := 8) (by decide) rfl hk hx) ?_
  (repeat (first | refine aC ?_ | refine aK ?_ | refine ⟨fun _ => ?_, fun h => absurd h (by decide)⟩ | refine ⟨fun h => absurd h (by decide), fun _ => ?_⟩))
  exact ⟨some, .boo (xs.getD (k * 9 + 8) 0 != 0), bookR false d n xs m es, by exact wI, rfl, rfl⟩
/- The line of a grant. -/
/-- a book's grants in order: each is beneath an earlier one, or a root -/
structure Wf (n : Nat) (xs : List Int) : Prop where
  len : n * 9 = xs.length
  few : n ≤ 128
  ge : ∀ k, k < n → 0 ≤ xs.getD (k * 9 + 1) 0
  le : ∀ k, k < n → xs.getD (k * 9 + 1) 0 ≤ k
def lineN (xs : List Int) : Nat → Nat → List Nat
  | 0, k => [k]
  | f + 1, k => if xs.getD (k * 9 + 1) 0 = 0 then [k] else k :: lineN xs f ((xs.getD (k * 9 + 1) 0 - 1).toNat)
def line (xs : List Int) (k : Nat) : List Nat := lineN xs k k
theorem lineN_more {n : Nat} {xs : List Int} (hw : Wf n xs) : ∀ {f g k : Nat}, k < n → k ≤ f → k ≤ g → lineN xs f k = lineN xs g k
  | 0, 0, k, _, _, _ => rfl
  | 0, g + 1, k, hn, hf, _ => by
    obtain rfl : k = 0 := by omega
    have h1 := hw.ge 0 hn
    have h2 := hw.le 0 hn
    simp only [lineN]
    rw [if_pos (by omega)]
  | f + 1, 0, k, hn, _, hg => by
    obtain rfl : k = 0 := by omega
    have h1 := hw.ge 0 hn
    have h2 := hw.le 0 hn
    simp only [lineN]
    rw [if_pos (by omega)]
  | f + 1, g + 1, k, hn, hf, hg => by
    have h1 := hw.ge k hn
    have h2 := hw.le k hn
    simp only [lineN]
    split
    · rfl
    · rw [lineN_more hw (f := f) (g := g) (by omega) (by omega) (by omega)]
theorem line_root_eq {n : Nat} {xs : List Int} (hw : Wf n xs) {k : Nat} (hk : k < n) (h : xs.getD (k * 9 + 1) 0 = 0) : line xs k = [k] := by
  unfold line
  cases k with
  | zero => rfl
  | succ k =>
    simp only [lineN]
    rw [if_pos h]
theorem line_up {n : Nat} {xs : List Int} (hw : Wf n xs) {k : Nat} (hk : k < n) (h : ¬ xs.getD (k * 9 + 1) 0 = 0) : line xs k = k :: line xs ((xs.getD (k * 9 + 1) 0 - 1).toNat) := by
  have h1 := hw.ge k hk
  have h2 := hw.le k hk
  unfold line
  cases k with
  | zero => omega
  | succ k =>
    rw [lineN, if_neg h]
    rw [lineN_more hw (f := k) (g := (xs.getD ((k + 1) * 9 + 1) 0 - 1).toNat) (by omega) (by omega) (by omega)]
theorem line_len {n : Nat} {xs : List Int} (hw : Wf n xs) : ∀ {k : Nat}, k < n → (line xs k).length ≤ k + 1 := by
  intro k
  induction k using Nat.strongRecOn with
  | ind k ih =>
    intro hk
    have h1 := hw.ge k hk
    have h2 := hw.le k hk
    by_cases h : xs.getD (k * 9 + 1) 0 = 0
    · rw [line_root_eq hw hk h]
      simp
    · rw [line_up hw hk h]
      have := ih ((xs.getD (k * 9 + 1) 0 - 1).toNat) (by omega) (by omega)
      simp only [List.length_cons]
      omega
theorem line_lt {n : Nat} {xs : List Int} (hw : Wf n xs) : ∀ {k : Nat}, k < n → ∀ i ∈ line xs k, i < n := by
  intro k
  induction k using Nat.strongRecOn with
  | ind k ih =>
    intro hk i hi
    have h1 := hw.ge k hk
    have h2 := hw.le k hk
    by_cases h : xs.getD (k * 9 + 1) 0 = 0
    · rw [line_root_eq hw hk h] at hi
      simp at hi
      omega
    · rw [line_up hw hk h] at hi
      rcases List.mem_cons.1 hi with rfl | hi
      · exact hk
      · exact ih _ (by omega) (by omega) i hi
abbrev lineB (d : Int) (n : Nat) (xs : List Int) (m : Nat) (es : List Int) (os : List Nat) : AH := bookR false d n xs m es ++ [⟨true, false, 89, 1, .ptrs 1 os⟩]
theorem apP_t {js jb L n xl : Nat} (hL : L = 1) (hj : js = 1) (hb : jb = 8) (h3 : n = xl) (hn : n ≤ 200) : decide (0 < L ∧ n * js = xl ∧ (n + L) * jb ≤ 140737488355328 ∧ n + L ≤ 9223372036854775807 ∧ 0 < js) = true := by
  subst hL hj hb h3
  exact decide_eq_true ⟨by omega, by omega, by omega, by omega, by omega⟩
/-- where a walk up a line stands -/
structure LineAt (n : Nat) (xs : List Int) (k : Nat) (q : List Nat × Nat × Nat × List Nat × Nat) : Prop where
  lt : q.2.1 < n
  eq : line xs k = q.1 ++ line xs q.2.1
  o : q.2.2.1 = q.2.1 * 9
  os : q.2.2.2.1 = (q.1 ++ [q.2.1]).map (· * 9)
  L : q.2.2.2.2 = q.1.length + 1
  few : q.1.length + 1 ≤ 128
set_option maxRecDepth 20000 in
theorem line_c (d : Int) (n : Nat) (xs : List Int) (m : Nat) (es : List Int) (k : Nat) (hw : Wf n xs) (hk : k < n) : CallA Try.prog 70 [.t (.a (.s (.ptr 0 0))), .t (.a (.s (.ptr 1 (k * 9))))] (bookR false d n xs m es) (fun w H => w = .t (.a (.s (.slc 3 0 (line xs k).length))) ∧ H = lineB d n xs m es ((line xs k).map (· * 9))) := by
  refine call_of_vc TYok mixedO Try.func70 rfl rfl (Nat.le_of_ble_eq_true rfl) ?_
  have h3 := hw.few
  (repeat (first | refine aC ?_ | refine aK ?_ | refine ⟨fun _ => ?_, fun h => absurd h (by decide)⟩ | refine ⟨fun h => absurd h (by decide), fun _ => ?_⟩))
  refine loop_rule TYok mixedO (ι := List Nat × Nat × Nat × List Nat × Nat) (fun q => [(0, .t (.a (.s (.ptr 0 0)))), (1, .t (.a (.s (.ptr 1 q.2.2.1)))), (5, .t (.a (.s (.slc 3 0 q.2.2.2.2))))]) (fun q => lineB d n xs m es q.2.2.2.1) (LineAt n xs k) (fun q => q.2.1) ([], k, k * 9, [k * 9], 1) ⟨hk, rfl, rfl, rfl, rfl, by simp⟩ some (by exact wI) ?_
  rintro ⟨pre, j, o, os, L⟩ ⟨hj, hl, ho, hos, hL, hf⟩
  dsimp only at hj hl ho hos hL hf ⊢
  subst ho hos hL
  (repeat (first | refine aC ?_ | refine aK ?_ | refine ⟨fun _ => ?_, fun h => absurd h (by decide)⟩ | refine ⟨fun h => absurd h (by decide), fun _ => ?_⟩))
  refine And.intro (fld_t (o := 1) (by decide) rfl hj hw.len) ?_
  (repeat (first | refine aC ?_ | refine aK ?_ | refine ⟨fun _ => ?_, fun h => absurd h (by decide)⟩ | refine ⟨fun h => absurd h (by decide), fun _ => ?_⟩))
  have h1 := hw.ge j hj
  have h2 := hw.le j hj
  have hlen := line_len hw hk
  refine ⟨fun g => ?_, fun g => ?_⟩
  · have g0 : (!(xs.getD (j * 9 + 1) 0 == (0 : Int))) = true := g
    have g : ¬ xs.getD (j * 9 + 1) 0 = 0 := by simpa using g0
    have hup := line_up hw hj g
    (repeat (first | refine aC ?_ | refine aK ?_ | refine ⟨fun _ => ?_, fun h => absurd h (by decide)⟩ | refine ⟨fun h => absurd h (by decide), fun _ => ?_⟩))
    refine And.intro (fld_t (o := 1) (by decide) rfl hj hw.len) ?_
    (repeat (first | refine aC ?_ | refine aK ?_ | refine ⟨fun _ => ?_, fun h => absurd h (by decide)⟩ | refine ⟨fun h => absurd h (by decide), fun _ => ?_⟩))
    refine And.intro (i64_of (x := xs.getD (j * 9 + 1) 0 - 1) (by omega)) ?_
    (repeat (first | refine aC ?_ | refine aK ?_ | refine ⟨fun _ => ?_, fun h => absurd h (by decide)⟩ | refine ⟨fun h => absurd h (by decide), fun _ => ?_⟩))
    refine And.intro (decide_eq_true (p := 0 ≤ xs.getD (j * 9 + 1) 0 - 1 ∧ xs.getD (j * 9 + 1) 0 - 1 < (n : Int)) (by omega)) ?_
    (repeat (first | refine aC ?_ | refine aK ?_ | refine ⟨fun _ => ?_, fun h => absurd h (by decide)⟩ | refine ⟨fun h => absurd h (by decide), fun _ => ?_⟩))
    refine And.intro ?_ ?_
    · exact and_t (and_t (and_t (and_t rfl rfl) rfl) rfl) (apP_t rfl rfl rfl (by simp) (by omega))
    (repeat (first | refine aC ?_ | refine aK ?_ | refine ⟨fun _ => ?_, fun h => absurd h (by decide)⟩ | refine ⟨fun h => absurd h (by decide), fun _ => ?_⟩))
    have e1 : 0 + (xs.getD (j * 9 + 1) 0 - 1).toNat * ti50.size = (xs.getD (j * 9 + 1) 0 - 1).toNat * 9 := by
      rw [siz50]
      omega
    refine ⟨(pre ++ [j], (xs.getD (j * 9 + 1) 0 - 1).toNat, 0 + (xs.getD (j * 9 + 1) 0 - 1).toNat * ti50.size, (pre ++ [j]).map (· * 9) ++ [0 + (xs.getD (j * 9 + 1) 0 - 1).toNat * ti50.size], pre.length + 1 + 1), ⟨by dsimp only; omega, ?_, e1, ?_, by simp, ?_⟩, by dsimp only; omega, (fun i => match i with | 0 => some 0 | 1 => some 1 | 2 => some 2 | 3 => some 5 | _ => none), ?_⟩
    · dsimp only
      rw [hl, hup, List.append_assoc]
      rfl
    · dsimp only
      rw [e1]
      simp
    · dsimp only
      rw [hl, hup] at hlen
      simp only [List.length_append, List.length_cons, List.length_nil] at hlen ⊢
      have : 0 < (line xs (xs.getD (j * 9 + 1) 0 - 1).toNat).length := by
        unfold line
        cases (xs.getD (j * 9 + 1) 0 - 1).toNat with
        | zero => exact Nat.one_pos
        | succ q =>
          simp only [lineN]
          split <;> simp
      omega
    · exact wI
  · have g0 : (!(xs.getD (j * 9 + 1) 0 == (0 : Int))) = false := g
    have g : xs.getD (j * 9 + 1) 0 = 0 := by simpa using g0
    (repeat (first | refine aC ?_ | refine aK ?_ | refine ⟨fun _ => ?_, fun h => absurd h (by decide)⟩ | refine ⟨fun h => absurd h (by decide), fun _ => ?_⟩))
    have e : line xs k = pre ++ [j] := by rw [hl, line_root_eq hw hj g]
    rw [e]
    exact ⟨some, .t (.a (.s (.slc 3 0 (pre.length + 1)))), lineB d n xs m es ((pre ++ [j]).map (· * 9)), by exact wI, by simp, rfl⟩
/- Whether a line is revoked. -/
def idxF (p : Nat → Bool) : List Nat → Nat → Int
  | [], _ => -1
  | k :: r, i => if p k then (i : Int) else idxF p r (i + 1)
theorem idxF_any (p : Nat → Bool) : ∀ (l : List Nat) (i : Nat), decide (0 ≤ idxF p l i) = l.any p
  | [], _ => rfl
  | k :: r, i => by
    have ih := idxF_any p r (i + 1)
    rw [List.any_cons, Bool.eq_iff_iff, decide_eq_true_eq, Bool.or_eq_true, ← ih, decide_eq_true_eq]
    show (0 ≤ (if p k = true then (i : Int) else idxF p r (i + 1))) ↔ _
    split
    · rename_i h
      simp [h]
    · rename_i h
      simp [h]
theorem idxF_drop (p : Nat → Bool) (l : List Nat) {i : Nat} (hi : i < l.length) : idxF p (l.drop i) i = if p (l.getD i 0) then (i : Int) else idxF p (l.drop (i + 1)) (i + 1) := by
  rw [List.drop_eq_getElem_cons hi]
  simp only [idxF]
  simp [List.getD, List.getElem?_eq_getElem hi]
theorem nine (l : List Nat) (i : Nat) : (List.map (fun x => x * 9) l).getD i 0 = l.getD i 0 * 9 := by
  simp only [List.getD_eq_getElem?_getD, List.getElem?_map]
  cases l[i]? <;> simp
/-- a line in memory, only read -/
abbrev lineR (d : Int) (n : Nat) (xs : List Int) (m : Nat) (es : List Int) (l : List Nat) : AH := bookR false d n xs m es ++ [⟨false, false, 89, 1, .ptrs 1 (l.map (· * 9))⟩]
abbrev revG (xs : List Int) (k : Nat) : Bool := xs.getD (k * 9 + 8) 0 != 0
theorem getD_lt {n : Nat} {l : List Nat} (h : ∀ i ∈ l, i < n) {i : Nat} (hi : i < l.length) : l.getD i 0 < n := by
  simp only [List.getD_eq_getElem?_getD, List.getElem?_eq_getElem hi, Option.getD_some]
  exact h _ (List.getElem_mem hi)
set_option maxRecDepth 20000 in
theorem index_rev (d : Int) (n : Nat) (xs : List Int) (m : Nat) (es : List Int) (l : List Nat) (hx : n * 9 = xs.length) (hl : ∀ i ∈ l, i < n) (hf : l.length ≤ 1000) : CallA Try.prog 98 [.t (.a (.s (.slc 3 0 l.length))), .t (.a (.fn (.func 73) [] []))] (lineR d n xs m es l) (fun w H => w = .int .i64 (idxF (revG xs) l 0) ∧ H = lineR d n xs m es l) := by
  refine call_of_vc TYok mixedO Try.func98 rfl rfl (Nat.le_of_ble_eq_true rfl) ?_
  (repeat (first | refine aC ?_ | refine aK ?_ | refine ⟨fun _ => ?_, fun h => absurd h (by decide)⟩ | refine ⟨fun h => absurd h (by decide), fun _ => ?_⟩))
  refine loop_rule TYok mixedO (ι := Nat) (fun j => [(0, .t (.a (.s (.slc 3 0 l.length)))), (1, .t (.a (.fn (.func 73) [] []))), (7, .int .i64 (l.length : Int)), (8, .int .i64 (j : Int))]) (fun _ => lineR d n xs m es l) (fun j => j ≤ l.length ∧ idxF (revG xs) l 0 = idxF (revG xs) (l.drop j) j) (fun j => l.length - j) 0 ⟨Nat.zero_le _, rfl⟩ some (by exact wI) ?_
  rintro j ⟨hj, he⟩
  (repeat (first | refine aC ?_ | refine aK ?_ | refine ⟨fun _ => ?_, fun h => absurd h (by decide)⟩ | refine ⟨fun h => absurd h (by decide), fun _ => ?_⟩))
  refine ⟨fun g => ?_, fun g => ?_⟩
  · have g := of_decide_eq_true g
    have hjl : j < l.length := by omega
    rw [idxF_drop _ _ hjl] at he
    have hlt := getD_lt hl hjl
    (repeat (first | refine aC ?_ | refine aK ?_ | refine ⟨fun _ => ?_, fun h => absurd h (by decide)⟩ | refine ⟨fun h => absurd h (by decide), fun _ => ?_⟩))
    have e1 : 0 + ((j : Nat) : Int).toNat * ti89.size = j := by
      rw [siz89]
      simp
    rw [e1]
    refine And.intro (decide_eq_true (by rw [List.length_map]; exact hjl)) ?_
    rw [nine]
    (repeat (first | refine aC ?_ | refine aK ?_ | refine ⟨fun _ => ?_, fun h => absurd h (by decide)⟩ | refine ⟨fun h => absurd h (by decide), fun _ => ?_⟩))
    (refine call_lift (isRevoked_c d n xs m es (l.getD j 0) hx hlt) (fun i => match i with | 0 => some 0 | 1 => some 1 | 2 => some 2 | _ => none) rfl rfl hI rfl rfl rfl ?_; rintro v H1 ⟨rfl, rfl⟩; refine ⟨⟨rfl, rfl, rfl, rfl⟩, ?_⟩; (try simp only [two]); (try simp only [AV.ren]); (try simp only [renT]); (try simp only [AT.ren]); (try simp only [A.ren]); (try (rw [ptr_ren]; rotate_left; exact rfl)); (try (rw [slc_ren]; rotate_left; exact rfl)); (try simp only [S.ren]))
    (repeat (first | refine aC ?_ | refine aK ?_ | refine ⟨fun _ => ?_, fun h => absurd h (by decide)⟩ | refine ⟨fun h => absurd h (by decide), fun _ => ?_⟩))
    refine ⟨fun g => ?_, fun g => ?_⟩
    · (repeat (first | refine aC ?_ | refine aK ?_ | refine ⟨fun _ => ?_, fun h => absurd h (by decide)⟩ | refine ⟨fun h => absurd h (by decide), fun _ => ?_⟩))
      have g0 : revG xs (l.getD j 0) = true := g
      rw [he, if_pos g0]
      exact ⟨some, .int .i64 (j : Int), lineR d n xs m es l, by exact wI, rfl, rfl⟩
    · (repeat (first | refine aC ?_ | refine aK ?_ | refine ⟨fun _ => ?_, fun h => absurd h (by decide)⟩ | refine ⟨fun h => absurd h (by decide), fun _ => ?_⟩))
      have g0 : revG xs (l.getD j 0) = false := g
      rw [g0] at he
      exact ⟨j + 1, ⟨by omega, he⟩, by omega, some, by exact wI⟩
  · have g := of_decide_eq_false g
    (repeat (first | refine aC ?_ | refine aK ?_ | refine ⟨fun _ => ?_, fun h => absurd h (by decide)⟩ | refine ⟨fun h => absurd h (by decide), fun _ => ?_⟩))
    have e : idxF (revG xs) l 0 = -1 := by
      rw [he, List.drop_eq_nil_of_le (by omega)]
      rfl
    rw [e]
    exact ⟨some, .int .i64 (-1), lineR d n xs m es l, by exact wI, rfl, rfl⟩
set_option maxRecDepth 20000 in
theorem contains_rev (d : Int) (n : Nat) (xs : List Int) (m : Nat) (es : List Int) (l : List Nat) (hx : n * 9 = xs.length) (hl : ∀ i ∈ l, i < n) (hf : l.length ≤ 1000) : CallA Try.prog 71 [.t (.a (.s (.slc 3 0 l.length))), .t (.a (.fn (.func 73) [] []))] (lineR d n xs m es l) (fun w H => w = .boo (l.any (revG xs)) ∧ H = lineR d n xs m es l) := by
  refine call_of_vc TYok mixedO Try.func71 rfl rfl (Nat.le_of_ble_eq_true rfl) ?_
  (repeat (first | refine aC ?_ | refine aK ?_ | refine ⟨fun _ => ?_, fun h => absurd h (by decide)⟩ | refine ⟨fun h => absurd h (by decide), fun _ => ?_⟩))
  (refine call_lift (index_rev d n xs m es l hx hl hf) (fun i => match i with | 0 => some 0 | 1 => some 1 | 2 => some 2 | 3 => some 3 | _ => none) rfl rfl hI rfl rfl rfl ?_; rintro v H1 ⟨rfl, rfl⟩; refine ⟨⟨rfl, rfl, rfl, rfl⟩, ?_⟩; (try simp only [two]); (try simp only [AV.ren]); (try simp only [renT]); (try simp only [AT.ren]); (try simp only [A.ren]); (try (rw [ptr_ren]; rotate_left; exact rfl)); (try (rw [slc_ren]; rotate_left; exact rfl)); (try simp only [S.ren]))
  (repeat (first | refine aC ?_ | refine aK ?_ | refine ⟨fun _ => ?_, fun h => absurd h (by decide)⟩ | refine ⟨fun h => absurd h (by decide), fun _ => ?_⟩))
  exact ⟨some, .boo (decide (0 ≤ idxF (revG xs) l 0)), lineR d n xs m es l, by exact wI, by rw [idxF_any], rfl⟩
set_option maxRecDepth 20000 in
theorem stands_c (d : Int) (n : Nat) (xs : List Int) (m : Nat) (es : List Int) (k : Nat) (hw : Wf n xs) (hk : k < n) : CallA Try.prog 67 [.t (.a (.s (.ptr 0 0))), .t (.a (.s (.ptr 1 (k * 9))))] (bookR false d n xs m es) (fun w H => w = .boo (decide (d ≤ xs.getD (k * 9 + 6) 0) && !(line xs k).any (revG xs)) ∧ H = bookR false d n xs m es) := by
  refine call_of_vc TYok mixedO Try.func67 rfl rfl (Nat.le_of_ble_eq_true rfl) ?_
  have h1 := line_len hw hk
  have h2 := hw.few
  (refine Or.inr (drawn_rule TYok mixedO [] [(true, 0, []), (true, 1, []), (true, 2, []), (true, 3, []), (true, 4, []), (true, 5, []), (true, 6, []), (true, 7, []), (true, 8, []), (true, 9, []), (true, 10, []), (true, 11, []), (false, 12, []), (false, 13, []), (true, 14, []), (true, 15, []), (true, 16, [])] (by kernel_rfl) ?_))
  (repeat (first | refine aC ?_ | refine aK ?_ | refine ⟨fun _ => ?_, fun h => absurd h (by decide)⟩ | refine ⟨fun h => absurd h (by decide), fun _ => ?_⟩))
  refine And.intro (fld_t (o := 6) (by decide) rfl hk hw.len) ?_
  (repeat (first | refine aC ?_ | refine aK ?_ | refine ⟨fun _ => ?_, fun h => absurd h (by decide)⟩ | refine ⟨fun h => absurd h (by decide), fun _ => ?_⟩))
  refine ⟨fun g => ?_, fun g => ?_⟩
  · have g0 : decide (d ≤ xs.getD (k * 9 + 6) 0) = true := g
    rw [g0]
    (repeat (first | refine aC ?_ | refine aK ?_ | refine ⟨fun _ => ?_, fun h => absurd h (by decide)⟩ | refine ⟨fun h => absurd h (by decide), fun _ => ?_⟩))
    (refine call_lift (line_c d n xs m es k hw hk) (fun i => match i with | 0 => some 0 | 1 => some 1 | 2 => some 2 | _ => none) rfl rfl hI rfl rfl rfl ?_; rintro v H1 ⟨rfl, rfl⟩; refine ⟨⟨rfl, rfl, rfl, rfl⟩, ?_⟩; (try simp only [two]); (try simp only [AV.ren]); (try simp only [renT]); (try simp only [AT.ren]); (try simp only [A.ren]); (try (rw [ptr_ren]; rotate_left; exact rfl)); (try (rw [slc_ren]; rotate_left; exact rfl)); (try simp only [S.ren]))
    refine And.intro ?_ ?_
    · refine bkP ?_
      rfl
    (repeat (first | refine aC ?_ | refine aK ?_ | refine ⟨fun _ => ?_, fun h => absurd h (by decide)⟩ | refine ⟨fun h => absurd h (by decide), fun _ => ?_⟩))
    (refine call_lift (contains_rev d n xs m es (line xs k) hw.len (line_lt hw hk) (by omega)) (fun i => match i with | 0 => some 0 | 1 => some 1 | 2 => some 2 | 3 => some 3 | _ => none) rfl rfl hI rfl rfl rfl ?_; rintro v H1 ⟨rfl, rfl⟩; refine ⟨⟨rfl, rfl, rfl, rfl⟩, ?_⟩; (try simp only [two]); (try simp only [AV.ren]); (try simp only [renT]); (try simp only [AT.ren]); (try simp only [A.ren]); (try (rw [ptr_ren]; rotate_left; exact rfl)); (try (rw [slc_ren]; rotate_left; exact rfl)); (try simp only [S.ren]))
    (repeat (first | refine aC ?_ | refine aK ?_ | refine ⟨fun _ => ?_, fun h => absurd h (by decide)⟩ | refine ⟨fun h => absurd h (by decide), fun _ => ?_⟩))
    exact ⟨some, .boo (!(line xs k).any (revG xs)), bookR false d n xs m es, by exact wI, by simp, rfl⟩
  · have g0 : decide (d ≤ xs.getD (k * 9 + 6) 0) = false := g
    rw [g0]
    (repeat (first | refine aC ?_ | refine aK ?_ | refine ⟨fun _ => ?_, fun h => absurd h (by decide)⟩ | refine ⟨fun h => absurd h (by decide), fun _ => ?_⟩))
    exact ⟨some, .boo false, bookR false d n xs m es, by exact wI, rfl, rfl⟩
end Go.Proofs.Ytlbgkfidpkbafaa
