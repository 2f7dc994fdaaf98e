/- Whether a line has some property; whether a grant is spent. -/
import Derived.Test.YtlbgkfidpkbafaaC17
namespace Go.Proofs.Ytlbgkfidpkbafaa
open Go.RowKit
set_option linter.unusedSimpArgs false
set_option linter.unusedVariables false
set_option maxRecDepth 20000 in
theorem index_g (d : Int) (n : Nat) (xs : List Int) (m : Nat) (es : List Int) (l : List Nat) (hl : ∀ i ∈ l, i < n) (hf : l.length ≤ 1000) (F : Nat) (p : Nat → Bool) (hc : ∀ k, k < n → CallA Try.prog F [.t (.a (.s (.ptr 1 (k * 9))))] (bookR false d n xs m es) (fun w H => w = .boo (p k) ∧ H = bookR false d n xs m es)) : CallA Try.prog 98 [.t (.a (.s (.slc 3 0 l.length))), .t (.a (.fn (.func F) [] []))] (lineR d n xs m es l) (fun w H => w = .int .i64 (idxF p l 0) ∧ H = lineR d n xs m es l) := by
  refine call_of_vc TYok mixedO Try.func98 rfl rfl (Nat.le_of_ble_eq_true rfl) ?_
  (repeat (first | refine aC ?_ | refine aK ?_ | refine ⟨fun _ => ?_, fun h => absurd h (by decide)⟩ | refine ⟨fun h => absurd h (by decide), fun _ => ?_⟩))
  refine loop_rule TYok mixedO (ι := Nat) (fun j => [(0, .t (.a (.s (.slc 3 0 l.length)))), (1, .t (.a (.fn (.func F) [] []))), (7, .int .i64 (l.length : Int)), (8, .int .i64 (j : Int))]) (fun _ => lineR d n xs m es l) (fun j => j ≤ l.length ∧ idxF p l 0 = idxF p (l.drop j) j) (fun j => l.length - j) 0 ⟨Nat.zero_le _, rfl⟩ some (by exact wI) ?_
  rintro j ⟨hj, he⟩
  (repeat (first | refine aC ?_ | refine aK ?_ | refine ⟨fun _ => ?_, fun h => absurd h (by decide)⟩ | refine ⟨fun h => absurd h (by decide), fun _ => ?_⟩))
  refine ⟨fun g => ?_, fun g => ?_⟩
  · have g := of_decide_eq_true g
    have hjl : j < l.length := by omega
    rw [idxF_drop _ _ hjl] at he
    have hlt := getD_lt hl hjl
    (repeat (first | refine aC ?_ | refine aK ?_ | refine ⟨fun _ => ?_, fun h => absurd h (by decide)⟩ | refine ⟨fun h => absurd h (by decide), fun _ => ?_⟩))
    have e1 : 0 + ((j : Nat) : Int).toNat * ti89.size = j := by
      rw [siz89]
      simp
    rw [e1]
    refine And.intro (decide_eq_true (by rw [List.length_map]; exact hjl)) ?_
    rw [nine]
    (repeat (first | refine aC ?_ | refine aK ?_ | refine ⟨fun _ => ?_, fun h => absurd h (by decide)⟩ | refine ⟨fun h => absurd h (by decide), fun _ => ?_⟩))
    (refine call_lift (hc (l.getD j 0) hlt) (fun i => match i with | 0 => some 0 | 1 => some 1 | 2 => some 2 | _ => none) rfl rfl hI rfl rfl rfl ?_; rintro v H1 ⟨rfl, rfl⟩; refine ⟨⟨rfl, rfl, rfl, rfl⟩, ?_⟩; (try simp only [two]); (try simp only [AV.ren]); (try simp only [renT]); (try simp only [AT.ren]); (try simp only [A.ren]); (try (rw [ptr_ren]; rotate_left; exact rfl)); (try (rw [slc_ren]; rotate_left; exact rfl)); (try simp only [S.ren]))
    (repeat (first | refine aC ?_ | refine aK ?_ | refine ⟨fun _ => ?_, fun h => absurd h (by decide)⟩ | refine ⟨fun h => absurd h (by decide), fun _ => ?_⟩))
    refine ⟨fun g => ?_, fun g => ?_⟩
    · (repeat (first | refine aC ?_ | refine aK ?_ | refine ⟨fun _ => ?_, fun h => absurd h (by decide)⟩ | refine ⟨fun h => absurd h (by decide), fun _ => ?_⟩))
      have g0 : p (l.getD j 0) = true := g
      rw [he, if_pos g0]
      exact ⟨some, .int .i64 (j : Int), lineR d n xs m es l, by exact wI, rfl, rfl⟩
    · (repeat (first | refine aC ?_ | refine aK ?_ | refine ⟨fun _ => ?_, fun h => absurd h (by decide)⟩ | refine ⟨fun h => absurd h (by decide), fun _ => ?_⟩))
      have g0 : p (l.getD j 0) = false := g
      rw [g0] at he
      exact ⟨j + 1, ⟨by omega, he⟩, by omega, some, by exact wI⟩
  · have g := of_decide_eq_false g
    (repeat (first | refine aC ?_ | refine aK ?_ | refine ⟨fun _ => ?_, fun h => absurd h (by decide)⟩ | refine ⟨fun h => absurd h (by decide), fun _ => ?_⟩))
    have e : idxF p l 0 = -1 := by
      rw [he, List.drop_eq_nil_of_le (by omega)]
      rfl
    rw [e]
    exact ⟨some, .int .i64 (-1), lineR d n xs m es l, by exact wI, rfl, rfl⟩
set_option maxRecDepth 20000 in
theorem contains_g (d : Int) (n : Nat) (xs : List Int) (m : Nat) (es : List Int) (l : List Nat) (hl : ∀ i ∈ l, i < n) (hf : l.length ≤ 1000) (F : Nat) (p : Nat → Bool) (hc : ∀ k, k < n → CallA Try.prog F [.t (.a (.s (.ptr 1 (k * 9))))] (bookR false d n xs m es) (fun w H => w = .boo (p k) ∧ H = bookR false d n xs m es)) : CallA Try.prog 71 [.t (.a (.s (.slc 3 0 l.length))), .t (.a (.fn (.func F) [] []))] (lineR d n xs m es l) (fun w H => w = .boo (l.any p) ∧ H = lineR d n xs m es l) := by
  refine call_of_vc TYok mixedO Try.func71 rfl rfl (Nat.le_of_ble_eq_true rfl) ?_
  (repeat (first | refine aC ?_ | refine aK ?_ | refine ⟨fun _ => ?_, fun h => absurd h (by decide)⟩ | refine ⟨fun h => absurd h (by decide), fun _ => ?_⟩))
  (refine call_lift (index_g d n xs m es l hl hf F p hc) (fun i => match i with | 0 => some 0 | 1 => some 1 | 2 => some 2 | 3 => some 3 | _ => none) rfl rfl hI rfl rfl rfl ?_; rintro v H1 ⟨rfl, rfl⟩; refine ⟨⟨rfl, rfl, rfl, rfl⟩, ?_⟩; (try simp only [two]); (try simp only [AV.ren]); (try simp only [renT]); (try simp only [AT.ren]); (try simp only [A.ren]); (try (rw [ptr_ren]; rotate_left; exact rfl)); (try (rw [slc_ren]; rotate_left; exact rfl)); (try simp only [S.ren]))
  (repeat (first | refine aC ?_ | refine aK ?_ | refine ⟨fun _ => ?_, fun h => absurd h (by decide)⟩ | refine ⟨fun h => absurd h (by decide), fun _ => ?_⟩))
  exact ⟨some, .boo (decide (0 ≤ idxF p l 0)), lineR d n xs m es l, by exact wI, by rw [idxF_any], rfl⟩
def zeroG (xs : List Int) (k : Nat) : Bool := fG xs k 7 == 0
set_option maxRecDepth 20000 in
theorem isZero_c (d : Int) (n : Nat) (xs : List Int) (m : Nat) (es : List Int) (hx : n * 9 = xs.length) (k : Nat) (hk : k < n) : CallA Try.prog 102 [.t (.a (.s (.ptr 1 (k * 9))))] (bookR false d n xs m es) (fun w H => w = .boo (zeroG xs k) ∧ H = bookR false d n xs m es) := by
  refine call_of_vc TYok mixedO Try.func102 rfl rfl (Nat.le_of_ble_eq_true rfl) ?_
  (repeat (first | refine aC ?_ | refine aK ?_ | refine ⟨fun _ => ?_, fun h => absurd h (by decide)⟩ | refine ⟨fun h => absurd h (by decide), fun _ => ?_⟩))
  refine And.intro (fld_t (o := 7) (by decide) rfl hk hx) ?_
  (repeat (first | refine aC ?_ | refine aK ?_ | refine ⟨fun _ => ?_, fun h => absurd h (by decide)⟩ | refine ⟨fun h => absurd h (by decide), fun _ => ?_⟩))
  exact ⟨some, .boo (zeroG xs k), bookR false d n xs m es, by exact wI, rfl, rfl⟩
def spentB (xs : List Int) (k : Nat) : Bool := (line xs k).any (zeroG xs)
set_option maxRecDepth 20000 in
theorem isSpent_c (d : Int) (n : Nat) (xs : List Int) (m : Nat) (es : List Int) (k : Nat) (hw : Wf n xs) (hk : k < n) : CallA Try.prog 96 [.t (.a (.s (.ptr 0 0))), .t (.a (.s (.ptr 1 (k * 9))))] (bookR false d n xs m es) (fun w H => w = .boo (spentB xs k) ∧ H = bookR false d n xs m es) := by
  refine call_of_vc TYok mixedO Try.func96 rfl rfl (Nat.le_of_ble_eq_true rfl) ?_
  have h1 := line_len hw hk
  have h2 := hw.few
  (repeat (first | refine aC ?_ | refine aK ?_ | refine ⟨fun _ => ?_, fun h => absurd h (by decide)⟩ | refine ⟨fun h => absurd h (by decide), fun _ => ?_⟩))
  (refine call_lift (line_c d n xs m es k hw hk) (fun i => match i with | 0 => some 0 | 1 => some 1 | 2 => some 2 | _ => none) rfl rfl hI rfl rfl rfl ?_; rintro v H1 ⟨rfl, rfl⟩; refine ⟨⟨rfl, rfl, rfl, rfl⟩, ?_⟩; (try simp only [two]); (try simp only [AV.ren]); (try simp only [renT]); (try simp only [AT.ren]); (try simp only [A.ren]); (try (rw [ptr_ren]; rotate_left; exact rfl)); (try (rw [slc_ren]; rotate_left; exact rfl)); (try simp only [S.ren]))
  (repeat (first | refine aC ?_ | refine aK ?_ | refine ⟨fun _ => ?_, fun h => absurd h (by decide)⟩ | refine ⟨fun h => absurd h (by decide), fun _ => ?_⟩))
  (refine call_lift (contains_g d n xs m es (line xs k) (line_lt hw hk) (by omega) 102 (zeroG xs) (fun k hk => isZero_c d n xs m es hw.len k hk)) (fun i => match i with | 0 => some 0 | 1 => some 1 | 2 => some 2 | 3 => some 3 | _ => none) rfl rfl hI rfl rfl rfl ?_; rintro v H1 ⟨rfl, rfl⟩; refine ⟨⟨rfl, rfl, rfl, rfl⟩, ?_⟩; (try simp only [two]); (try simp only [AV.ren]); (try simp only [renT]); (try simp only [AT.ren]); (try simp only [A.ren]); (try (rw [ptr_ren]; rotate_left; exact rfl)); (try (rw [slc_ren]; rotate_left; exact rfl)); (try simp only [S.ren]))
  (repeat (first | refine aC ?_ | refine aK ?_ | refine ⟨fun _ => ?_, fun h => absurd h (by decide)⟩ | refine ⟨fun h => absurd h (by decide), fun _ => ?_⟩))
  exact ⟨some, .boo (spentB xs k), bookR false d n xs m es, by exact wI, rfl, rfl⟩
/- A key: a grant by which a user can open a vault. -/
def hasOpen (r : Int) : Bool := (((r.toNat &&& 1 : Nat) : Int) != 0)
def hasV (v a : Int) : Bool := ((((v.fdiv (2 ^ a.toNat)).toNat &&& 1 : Nat) : Int) == 1)
def keyC (d : Int) (xs : List Int) (k : Nat) (a by_ : Int) : Bool := (by_ == fG xs k 3) && standsB d xs k && hasOpen (fG xs k 5) && hasV (fG xs k 4) a
theorem shr_ok {v a : Int} (h0 : 0 ≤ v) (h1 : v ≤ 65535) : natOk .i64 (v.fdiv (2 ^ a.toNat)) = true := by
  rw [natOk_i64]
  have hp : (0 : Int) < 2 ^ a.toNat := Int.pow_pos (by decide)
  rw [Int.fdiv_eq_ediv_of_nonneg _ (by omega)]
  exact ⟨Int.ediv_nonneg h0 (by omega), Int.le_trans (Int.ediv_le_self _ h0) (by omega)⟩
theorem need_tb (b : Bool) (e : Int) (h : b = true) : CallA Try.prog 53 [.boo b, .int .i64 e] [] (fun v H => v = tupOf [] ∧ H = []) := by
  subst h
  exact need_t e
theorem need_fb (b : Bool) (e : Int) (h : b = false) : CallE Try.prog 53 [.boo b, .int .i64 e] [] (fun _ _ => False) (fun pv H => pv = .iface 110 (.int .i64 e) ∧ H = []) := by
  subst h
  exact need_f e
/-- how a search for a key ends with a panic -/
def KeyPan (d : Int) (xs : List Int) (k : Nat) (a by_ : Int) (pv : Value) : Prop := (keyC d xs k a by_ = false ∧ pv = .iface 110 (.int .i64 12)) ∨ (keyC d xs k a by_ = true ∧ spentB xs k = true ∧ pv = .iface 110 (.int .i64 8))
theorem key_none (d : Int) (n : Nat) (xs : List Int) (m : Nat) (es : List Int) (a no by_ : Int) (hno : (decide (1 ≤ no) && decide (no ≤ (n : Int))) = false) : CallE Try.prog 81 [.t (.a (.s (.ptr 0 0))), .int .i64 a, .int .i64 no, .int .i64 by_] (bookR false d n xs m es) (fun _ _ => False) (fun pv H => pv = .iface 110 (.int .i64 6) ∧ H = bookR false d n xs m es) := by
  refine call_of_vcE TYok mixedO Try.func81 rfl rfl (Nat.le_of_ble_eq_true rfl) ?_
  (repeat (first | refine aC ?_ | refine aK ?_ | refine ⟨fun _ => ?_, fun h => absurd h (by decide)⟩ | refine ⟨fun h => absurd h (by decide), fun _ => ?_⟩))
  (refine call_liftE (find_f d n xs m es no hno) (fun i => match i with | 0 => some 0 | 1 => some 1 | 2 => some 2 | _ => none) rfl rfl hI rfl rfl rfl (fun _ _ h => h.elim) ?_; rintro pv H1 ⟨rfl, rfl⟩; refine ⟨⟨rfl, rfl, rfl⟩, ?_⟩)
  exact ⟨some, bookR false d n xs m es, by exact wI, rfl, rfl⟩
set_option maxRecDepth 20000 in
set_option maxHeartbeats 4000000 in
theorem key_c (d : Int) (n : Nat) (xs : List Int) (m : Nat) (es : List Int) (hw : Wf n xs) (k : Nat) (hk : k < n) (hv0 : 0 ≤ fG xs k 4) (hv1 : fG xs k 4 ≤ 65535) (hR : natOk .i64 (fG xs k 5) = true) (a by_ : Int) (ha0 : 0 ≤ a) (ha1 : a ≤ 15) : CallE Try.prog 81 [.t (.a (.s (.ptr 0 0))), .int .i64 a, .int .i64 ((k : Int) + 1), .int .i64 by_] (bookR false d n xs m es)
    (fun w H => (keyC d xs k a by_ = true ∧ spentB xs k = false) ∧ w = .t (.a (.s (.ptr 1 (k * 9)))) ∧ H = bookR false d n xs m es) (fun pv H => KeyPan d xs k a by_ pv ∧ H = bookR false d n xs m es) := by
  refine call_of_vcE TYok mixedO Try.func81 rfl rfl (Nat.le_of_ble_eq_true rfl) ?_
  (repeat (first | refine aC ?_ | refine aK ?_ | refine ⟨fun _ => ?_, fun h => absurd h (by decide)⟩ | refine ⟨fun h => absurd h (by decide), fun _ => ?_⟩))
  (refine call_lift (find_c d n xs m es hw.len hw.few ((k : Int) + 1) (by omega) (by omega)) (fun i => match i with | 0 => some 0 | 1 => some 1 | 2 => some 2 | _ => none) rfl rfl hI rfl rfl rfl ?_; rintro v H1 ⟨rfl, rfl⟩; refine ⟨⟨rfl, rfl, rfl, rfl⟩, ?_⟩; (try simp only [two]); (try simp only [AV.ren]); (try simp only [renT]); (try simp only [AT.ren]); (try simp only [A.ren]); (try (rw [ptr_ren]; rotate_left; exact rfl)); (try (rw [slc_ren]; rotate_left; exact rfl)); (try simp only [S.ren]))
  rw [succ_k]
  (repeat (first | refine aC ?_ | refine aK ?_ | refine ⟨fun _ => ?_, fun h => absurd h (by decide)⟩ | refine ⟨fun h => absurd h (by decide), fun _ => ?_⟩))
  refine And.intro (fld_t (o := 3) (by decide) rfl hk hw.len) ?_
  (repeat (first | refine aC ?_ | refine aK ?_ | refine ⟨fun _ => ?_, fun h => absurd h (by decide)⟩ | refine ⟨fun h => absurd h (by decide), fun _ => ?_⟩))
  refine ⟨fun g => ?_, fun g => ?_⟩
  · have g1 : (by_ == fG xs k 3) = true := g
    (repeat (first | refine aC ?_ | refine aK ?_ | refine ⟨fun _ => ?_, fun h => absurd h (by decide)⟩ | refine ⟨fun h => absurd h (by decide), fun _ => ?_⟩))
    (refine call_lift (stands_c d n xs m es k hw hk) (fun i => match i with | 0 => some 0 | 1 => some 1 | 2 => some 2 | _ => none) rfl rfl hI rfl rfl rfl ?_; rintro v H1 ⟨rfl, rfl⟩; refine ⟨⟨rfl, rfl, rfl, rfl⟩, ?_⟩; (try simp only [two]); (try simp only [AV.ren]); (try simp only [renT]); (try simp only [AT.ren]); (try simp only [A.ren]); (try (rw [ptr_ren]; rotate_left; exact rfl)); (try (rw [slc_ren]; rotate_left; exact rfl)); (try simp only [S.ren]))
    (repeat (first | refine aC ?_ | refine aK ?_ | refine ⟨fun _ => ?_, fun h => absurd h (by decide)⟩ | refine ⟨fun h => absurd h (by decide), fun _ => ?_⟩))
    refine ⟨fun g => ?_, fun g => ?_⟩
    · have g2 : standsB d xs k = true := g
      (repeat (first | refine aC ?_ | refine aK ?_ | refine ⟨fun _ => ?_, fun h => absurd h (by decide)⟩ | refine ⟨fun h => absurd h (by decide), fun _ => ?_⟩))
      refine And.intro (fld_t (o := 5) (by decide) rfl hk hw.len) ?_
      (repeat (first | refine aC ?_ | refine aK ?_ | refine ⟨fun _ => ?_, fun h => absurd h (by decide)⟩ | refine ⟨fun h => absurd h (by decide), fun _ => ?_⟩))
      refine And.intro (and_t hR rfl) ?_
      (repeat (first | refine aC ?_ | refine aK ?_ | refine ⟨fun _ => ?_, fun h => absurd h (by decide)⟩ | refine ⟨fun h => absurd h (by decide), fun _ => ?_⟩))
      refine ⟨fun g => ?_, fun g => ?_⟩
      · have g3 : hasOpen (fG xs k 5) = true := g
        (repeat (first | refine aC ?_ | refine aK ?_ | refine ⟨fun _ => ?_, fun h => absurd h (by decide)⟩ | refine ⟨fun h => absurd h (by decide), fun _ => ?_⟩))
        refine And.intro (fld_t (o := 4) (by decide) rfl hk hw.len) ?_
        (repeat (first | refine aC ?_ | refine aK ?_ | refine ⟨fun _ => ?_, fun h => absurd h (by decide)⟩ | refine ⟨fun h => absurd h (by decide), fun _ => ?_⟩))
        refine And.intro (decide_eq_true (p := 0 ≤ a ∧ a < (64 : Nat)) (by omega)) ?_
        (repeat (first | refine aC ?_ | refine aK ?_ | refine ⟨fun _ => ?_, fun h => absurd h (by decide)⟩ | refine ⟨fun h => absurd h (by decide), fun _ => ?_⟩))
        refine And.intro (and_t (shr_ok hv0 hv1) rfl) ?_
        by_cases g4 : hasV (fG xs k 4) a = true
        · (repeat (first | refine aC ?_ | refine aK ?_ | refine ⟨fun _ => ?_, fun h => absurd h (by decide)⟩ | refine ⟨fun h => absurd h (by decide), fun _ => ?_⟩))
          (refine call_lift (need_tb (hasV (fG xs k 4) a) 12 g4) (fun i => match i with | 0 => none | _ => none) rfl rfl hI rfl rfl rfl ?_; rintro v H1 ⟨rfl, rfl⟩; refine ⟨⟨rfl, rfl, rfl, rfl⟩, ?_⟩; (try simp only [two]); (try simp only [AV.ren]); (try simp only [renT]); (try simp only [AT.ren]); (try simp only [A.ren]); (try (rw [ptr_ren]; rotate_left; exact rfl)); (try (rw [slc_ren]; rotate_left; exact rfl)); (try simp only [S.ren]))
          (repeat (first | refine aC ?_ | refine aK ?_ | refine ⟨fun _ => ?_, fun h => absurd h (by decide)⟩ | refine ⟨fun h => absurd h (by decide), fun _ => ?_⟩))
          (refine call_lift (isSpent_c d n xs m es k hw hk) (fun i => match i with | 0 => some 0 | 1 => some 1 | 2 => some 2 | _ => none) rfl rfl hI rfl rfl rfl ?_; rintro v H1 ⟨rfl, rfl⟩; refine ⟨⟨rfl, rfl, rfl, rfl⟩, ?_⟩; (try simp only [two]); (try simp only [AV.ren]); (try simp only [renT]); (try simp only [AT.ren]); (try simp only [A.ren]); (try (rw [ptr_ren]; rotate_left; exact rfl)); (try (rw [slc_ren]; rotate_left; exact rfl)); (try simp only [S.ren]))
          (repeat (first | refine aC ?_ | refine aK ?_ | refine ⟨fun _ => ?_, fun h => absurd h (by decide)⟩ | refine ⟨fun h => absurd h (by decide), fun _ => ?_⟩))
          have hc : keyC d xs k a by_ = true := by simp only [keyC, g1, g2, g3, g4]; rfl
          by_cases g5 : spentB xs k = true
          · rw [g5]
            (refine call_liftE (need_f 8) (fun i => match i with | 0 => none | _ => none) rfl rfl hI rfl rfl rfl (fun _ _ h => h.elim) ?_; rintro pv H1 ⟨rfl, rfl⟩; refine ⟨⟨rfl, rfl, rfl⟩, ?_⟩)
            exact ⟨some, bookR false d n xs m es, by exact wI, .inr ⟨hc, g5, rfl⟩, rfl⟩
          · have g5 : spentB xs k = false := by simpa using g5
            (refine call_lift (need_tb (!spentB xs k) 8 (by rw [g5]; rfl)) (fun i => match i with | 0 => none | _ => none) rfl rfl hI rfl rfl rfl ?_; rintro v H1 ⟨rfl, rfl⟩; refine ⟨⟨rfl, rfl, rfl, rfl⟩, ?_⟩; (try simp only [two]); (try simp only [AV.ren]); (try simp only [renT]); (try simp only [AT.ren]); (try simp only [A.ren]); (try (rw [ptr_ren]; rotate_left; exact rfl)); (try (rw [slc_ren]; rotate_left; exact rfl)); (try simp only [S.ren]))
            (repeat (first | refine aC ?_ | refine aK ?_ | refine ⟨fun _ => ?_, fun h => absurd h (by decide)⟩ | refine ⟨fun h => absurd h (by decide), fun _ => ?_⟩))
            exact ⟨some, .t (.a (.s (.ptr 1 (k * 9)))), bookR false d n xs m es, by exact wI, ⟨hc, g5⟩, rfl, rfl⟩
        · have g4 : hasV (fG xs k 4) a = false := by simpa using g4
          (repeat (first | refine aC ?_ | refine aK ?_ | refine ⟨fun _ => ?_, fun h => absurd h (by decide)⟩ | refine ⟨fun h => absurd h (by decide), fun _ => ?_⟩))
          (refine call_liftE (need_fb (hasV (fG xs k 4) a) 12 g4) (fun i => match i with | 0 => none | _ => none) rfl rfl hI rfl rfl rfl (fun _ _ h => h.elim) ?_; rintro pv H1 ⟨rfl, rfl⟩; refine ⟨⟨rfl, rfl, rfl⟩, ?_⟩)
          exact ⟨some, bookR false d n xs m es, by exact wI, .inl ⟨by simp only [keyC, g1, g2, g3, g4]; rfl, rfl⟩, rfl⟩
      · have g3 : hasOpen (fG xs k 5) = false := g
        (repeat (first | refine aC ?_ | refine aK ?_ | refine ⟨fun _ => ?_, fun h => absurd h (by decide)⟩ | refine ⟨fun h => absurd h (by decide), fun _ => ?_⟩))
        (refine call_liftE (need_f 12) (fun i => match i with | 0 => none | _ => none) rfl rfl hI rfl rfl rfl (fun _ _ h => h.elim) ?_; rintro pv H1 ⟨rfl, rfl⟩; refine ⟨⟨rfl, rfl, rfl⟩, ?_⟩)
        exact ⟨some, bookR false d n xs m es, by exact wI, .inl ⟨by simp only [keyC, g1, g2, g3]; rfl, rfl⟩, rfl⟩
    · have g2 : standsB d xs k = false := g
      (repeat (first | refine aC ?_ | refine aK ?_ | refine ⟨fun _ => ?_, fun h => absurd h (by decide)⟩ | refine ⟨fun h => absurd h (by decide), fun _ => ?_⟩))
      (refine call_liftE (need_f 12) (fun i => match i with | 0 => none | _ => none) rfl rfl hI rfl rfl rfl (fun _ _ h => h.elim) ?_; rintro pv H1 ⟨rfl, rfl⟩; refine ⟨⟨rfl, rfl, rfl⟩, ?_⟩)
      exact ⟨some, bookR false d n xs m es, by exact wI, .inl ⟨by simp only [keyC, g1, g2]; rfl, rfl⟩, rfl⟩
  · have g1 : (by_ == fG xs k 3) = false := g
    (repeat (first | refine aC ?_ | refine aK ?_ | refine ⟨fun _ => ?_, fun h => absurd h (by decide)⟩ | refine ⟨fun h => absurd h (by decide), fun _ => ?_⟩))
    (refine call_liftE (need_f 12) (fun i => match i with | 0 => none | _ => none) rfl rfl hI rfl rfl rfl (fun _ _ h => h.elim) ?_; rintro pv H1 ⟨rfl, rfl⟩; refine ⟨⟨rfl, rfl, rfl⟩, ?_⟩)
    exact ⟨some, bookR false d n xs m es, by exact wI, .inl ⟨by simp only [keyC, g1]; rfl, rfl⟩, rfl⟩
/- A use taken of a line. -/
def use1 (xs : List Int) (k : Nat) : List Int := if fG xs k 7 = -1 then xs else xs.set (k * 9 + 7) (fG xs k 7 - 1)
def useL (l : List Nat) (xs : List Int) : List Int := l.foldl use1 xs
theorem use1_len (xs : List Int) (k : Nat) : (use1 xs k).length = xs.length := by
  unfold use1
  split <;> simp
theorem useL_len : ∀ (l : List Nat) (xs : List Int), (useL l xs).length = xs.length
  | [], _ => rfl
  | k :: l, xs => by
    show (useL l (use1 xs k)).length = _
    rw [useL_len l, use1_len]
/-- nothing but a use, at one place, by one -/
theorem use1_get {n : Nat} {xs : List Int} (hx : n * 9 = xs.length) {k : Nat} (hk : k < n) {i o : Nat} (ho : o < 9) : fG (use1 xs k) i o = if i = k ∧ o = 7 ∧ fG xs k 7 ≠ -1 then fG xs k 7 - 1 else fG xs i o := by
  unfold use1
  split
  · rename_i h
    rw [if_neg (fun e => e.2.2 h)]
  · rename_i h
    by_cases e : i = k ∧ o = 7
    · obtain ⟨rfl, rfl⟩ := e
      rw [if_pos ⟨rfl, rfl, h⟩]
      simp only [List.getD_eq_getElem?_getD]
      rw [List.getElem?_set_self (by omega)]
      rfl
    · rw [if_neg (fun e' => e ⟨e'.1, e'.2.1⟩)]
      simp only [List.getD_eq_getElem?_getD]
      rw [List.getElem?_set_ne (fun e' => e (by omega))]
theorem useL_get {n : Nat} : ∀ {l : List Nat} {xs : List Int}, n * 9 = xs.length → (∀ k ∈ l, k < n) → ∀ {i o : Nat}, o < 9 → o ≠ 7 → fG (useL l xs) i o = fG xs i o
  | [], _, _, _, _, _, _, _ => rfl
  | k :: l, xs, hx, hl, i, o, ho, h7 => by
    show fG (useL l (use1 xs k)) i o = _
    rw [useL_get (xs := use1 xs k) (by rw [use1_len]; exact hx) (fun q hq => hl q (List.mem_cons_of_mem _ hq)) ho h7, use1_get hx (hl k List.mem_cons_self) ho, if_neg (fun e => h7 e.2.1)]
theorem useL_out {n : Nat} : ∀ {l : List Nat} {xs : List Int}, n * 9 = xs.length → (∀ k ∈ l, k < n) → ∀ {i : Nat}, i ∉ l → fG (useL l xs) i 7 = fG xs i 7
  | [], _, _, _, _, _ => rfl
  | k :: l, xs, hx, hl, i, hi => by
    show fG (useL l (use1 xs k)) i 7 = _
    rw [useL_out (xs := use1 xs k) (by rw [use1_len]; exact hx) (fun q hq => hl q (List.mem_cons_of_mem _ hq)) (fun h => hi (List.mem_cons_of_mem _ h)), use1_get hx (hl k List.mem_cons_self) (by decide), if_neg (fun e => hi (by rw [e.1]; exact List.mem_cons_self))]
theorem useL_in {n : Nat} : ∀ {l : List Nat} {xs : List Int}, n * 9 = xs.length → (∀ k ∈ l, k < n) → l.Nodup → ∀ {i : Nat}, i ∈ l → fG (useL l xs) i 7 = if fG xs i 7 = -1 then -1 else fG xs i 7 - 1
  | k :: l, xs, hx, hl, hd, i, hi => by
    show fG (useL l (use1 xs k)) i 7 = _
    have hx' : n * 9 = (use1 xs k).length := by rw [use1_len]; exact hx
    have hl' : ∀ q ∈ l, q < n := fun q hq => hl q (List.mem_cons_of_mem _ hq)
    rw [List.nodup_cons] at hd
    rcases List.mem_cons.1 hi with rfl | hi
    · rw [useL_out hx' hl' hd.1, use1_get hx (hl i List.mem_cons_self) (by decide)]
      split
      · rename_i h
        rw [if_neg h.2.2]
      · rename_i h
        have : fG xs i 7 = -1 := by
          by_cases e : fG xs i 7 = -1
          · exact e
          · exact absurd ⟨rfl, rfl, e⟩ h
        rw [if_pos this, this]
    · have hne : i ≠ k := fun e => hd.1 (by rw [← e]; exact hi)
      have e1 : fG (use1 xs k) i 7 = fG xs i 7 := by rw [use1_get hx (hl k List.mem_cons_self) (by decide), if_neg (fun (e : i = k ∧ _) => hne e.1)]
      rw [useL_in hx' hl' hd.2 hi, e1]
theorem use_wf {n : Nat} {xs : List Int} (hw : Wf n xs) {l : List Nat} (hl : ∀ k ∈ l, k < n) : Wf n (useL l xs) := by
  refine ⟨by rw [useL_len]; exact hw.len, hw.few, fun k hk => ?_, fun k hk => ?_⟩
  · have := useL_get (l := l) hw.len hl (i := k) (o := 1) (by decide) (by decide)
    rw [show (useL l xs).getD (k * 9 + 1) 0 = xs.getD (k * 9 + 1) 0 from this]
    exact hw.ge k hk
  · have := useL_get (l := l) hw.len hl (i := k) (o := 1) (by decide) (by decide)
    rw [show (useL l xs).getD (k * 9 + 1) 0 = xs.getD (k * 9 + 1) 0 from this]
    exact hw.le k hk
theorem use1_bd {n : Nat} {xs : List Int} (hx : n * 9 = xs.length) {k : Nat} (hk : k < n) (h : ∀ i, i < n → -1 ≤ fG xs i 7 ∧ fG xs i 7 ≤ 1048576) : ∀ i, i < n → -1 ≤ fG (use1 xs k) i 7 ∧ fG (use1 xs k) i 7 ≤ 1048576 := fun i hi => by
  rw [use1_get hx hk (by decide)]
  split
  · rename_i e
    obtain ⟨rfl, _, e⟩ := e
    have := h i hi
    omega
  · exact h i hi
theorem useL_take (l : List Nat) (xs : List Int) {j : Nat} (hj : j < l.length) : useL (l.take (j + 1)) xs = use1 (useL (l.take j) xs) (l.getD j 0) := by
  unfold useL
  rw [List.take_succ_eq_append_getElem hj, List.foldl_append]
  simp [List.getD, List.getElem?_eq_getElem hj]
set_option maxRecDepth 20000 in
set_option maxHeartbeats 4000000 in
theorem use_c (d : Int) (n : Nat) (xs : List Int) (m : Nat) (es : List Int) (k : Nat) (hw : Wf n xs) (hk : k < n) (hu : ∀ i, i < n → -1 ≤ fG xs i 7 ∧ fG xs i 7 ≤ 1048576) : CallA Try.prog 82 [.t (.a (.s (.ptr 0 0))), .t (.a (.s (.ptr 1 (k * 9))))] (bookR true d n xs m es) (fun w H => w = tupOf [] ∧ H = bookR true d n (useL (line xs k) xs) m es) := by
  refine call_of_vc TYok mixedO Try.func82 rfl rfl (Nat.le_of_ble_eq_true rfl) ?_
  have h1 := line_len hw hk
  have h2 := hw.few
  (repeat (first | refine aC ?_ | refine aK ?_ | refine ⟨fun _ => ?_, fun h => absurd h (by decide)⟩ | refine ⟨fun h => absurd h (by decide), fun _ => ?_⟩))
  (refine call_lift (line_c d n xs m es k hw hk) (fun i => match i with | 0 => some 0 | 1 => some 1 | 2 => some 2 | _ => none) rfl rfl hI rfl rfl rfl ?_; rintro v H1 ⟨rfl, rfl⟩; refine ⟨⟨rfl, rfl, rfl, rfl⟩, ?_⟩; (try simp only [two]); (try simp only [AV.ren]); (try simp only [renT]); (try simp only [AT.ren]); (try simp only [A.ren]); (try (rw [ptr_ren]; rotate_left; exact rfl)); (try (rw [slc_ren]; rotate_left; exact rfl)); (try simp only [S.ren]))
  (repeat (first | refine aC ?_ | refine aK ?_ | refine ⟨fun _ => ?_, fun h => absurd h (by decide)⟩ | refine ⟨fun h => absurd h (by decide), fun _ => ?_⟩))
  refine loop_rule TYok mixedO (ι := Nat × List Int) (fun q => [(8, .t (.a (.s (.slc 3 0 (line xs k).length)))), (9, .int .i64 ((line xs k).length : Int)), (10, .int .i64 (q.1 : Int))]) (fun q => bookR true d n q.2 m es ++ [⟨true, false, 89, 1, .ptrs 1 ((line xs k).map (· * 9))⟩]) (fun q => q.1 ≤ (line xs k).length ∧ q.2 = useL ((line xs k).take q.1) xs ∧ n * 9 = q.2.length ∧ ∀ i, i < n → -1 ≤ fG q.2 i 7 ∧ fG q.2 i 7 ≤ 1048576) (fun q => (line xs k).length - q.1) (0, xs) ⟨Nat.zero_le _, rfl, hw.len, hu⟩ some (by exact wI) ?_
  rintro ⟨j, ys⟩ ⟨hj, hy, hx, hb⟩
  dsimp only at hj hy hx hb ⊢
  (repeat (first | refine aC ?_ | refine aK ?_ | refine ⟨fun _ => ?_, fun h => absurd h (by decide)⟩ | refine ⟨fun h => absurd h (by decide), fun _ => ?_⟩))
  refine ⟨fun g => ?_, fun g => ?_⟩
  · have g := of_decide_eq_true g
    have hjl : j < (line xs k).length := by omega
    have hlt := getD_lt (line_lt hw hk) hjl
    (repeat (first | refine aC ?_ | refine aK ?_ | refine ⟨fun _ => ?_, fun h => absurd h (by decide)⟩ | refine ⟨fun h => absurd h (by decide), fun _ => ?_⟩))
    have e1 : 0 + ((j : Nat) : Int).toNat * ti89.size = j := by
      rw [siz89]
      simp
    rw [e1]
    refine And.intro (decide_eq_true (by rw [List.length_map]; exact hjl)) ?_
    rw [nine]
    (repeat (first | refine aC ?_ | refine aK ?_ | refine ⟨fun _ => ?_, fun h => absurd h (by decide)⟩ | refine ⟨fun h => absurd h (by decide), fun _ => ?_⟩))
    refine And.intro (fld_t (o := 7) (by decide) rfl hlt hx) ?_
    (repeat (first | refine aC ?_ | refine aK ?_ | refine ⟨fun _ => ?_, fun h => absurd h (by decide)⟩ | refine ⟨fun h => absurd h (by decide), fun _ => ?_⟩))
    have hbd := hb _ hlt
    refine ⟨fun g => ?_, fun g => ?_⟩
    · have g0 : (fG ys ((line xs k).getD j 0) 7 != -1) = true := g
      (repeat (first | refine aC ?_ | refine aK ?_ | refine ⟨fun _ => ?_, fun h => absurd h (by decide)⟩ | refine ⟨fun h => absurd h (by decide), fun _ => ?_⟩))
      refine And.intro (fld_t (o := 7) (by decide) rfl hlt hx) ?_
      (repeat (first | refine aC ?_ | refine aK ?_ | refine ⟨fun _ => ?_, fun h => absurd h (by decide)⟩ | refine ⟨fun h => absurd h (by decide), fun _ => ?_⟩))
      refine And.intro (i64_of (x := fG ys ((line xs k).getD j 0) 7 - 1) (by omega)) ?_
      (repeat (first | refine aC ?_ | refine aK ?_ | refine ⟨fun _ => ?_, fun h => absurd h (by decide)⟩ | refine ⟨fun h => absurd h (by decide), fun _ => ?_⟩))
      refine And.intro ?_ ?_
      · exact and_t (and_t (and_t (and_t (and_t (fld_t (o := 7) (by decide) rfl hlt hx) rfl) rfl) rfl) rfl) (decide_eq_true siz3.symm)
      (repeat (first | refine aC ?_ | refine aK ?_ | refine ⟨fun _ => ?_, fun h => absurd h (by decide)⟩ | refine ⟨fun h => absurd h (by decide), fun _ => ?_⟩))
      have e2 : use1 ys ((line xs k).getD j 0) = ys.set ((line xs k).getD j 0 * 9 + 7) (fG ys ((line xs k).getD j 0) 7 - 1) := by
        unfold use1
        rw [if_neg (by simpa using g0)]
      refine ⟨(j + 1, ys.set ((line xs k).getD j 0 * 9 + 7) (fG ys ((line xs k).getD j 0) 7 - 1)), ⟨by dsimp only; omega, ?_, ?_, ?_⟩, by dsimp only; omega, some, by exact wI⟩
      · dsimp only
        rw [useL_take _ _ hjl, ← hy, e2]
      · dsimp only
        rw [List.length_set]
        exact hx
      · dsimp only
        rw [← e2]
        exact use1_bd hx hlt hb
    · have g0 : (fG ys ((line xs k).getD j 0) 7 != -1) = false := g
      (repeat (first | refine aC ?_ | refine aK ?_ | refine ⟨fun _ => ?_, fun h => absurd h (by decide)⟩ | refine ⟨fun h => absurd h (by decide), fun _ => ?_⟩))
      have e2 : use1 ys ((line xs k).getD j 0) = ys := by
        unfold use1
        rw [if_pos (by simpa using g0)]
      refine ⟨(j + 1, ys), ⟨by dsimp only; omega, ?_, hx, hb⟩, by dsimp only; omega, some, by exact wI⟩
      dsimp only
      rw [useL_take _ _ hjl, ← hy, e2]
  · have g := of_decide_eq_false g
    (repeat (first | refine aC ?_ | refine aK ?_ | refine ⟨fun _ => ?_, fun h => absurd h (by decide)⟩ | refine ⟨fun h => absurd h (by decide), fun _ => ?_⟩))
    have e : ys = useL (line xs k) xs := by rw [hy, List.take_of_length_le (by omega)]
    rw [e]
    exact ⟨some, tupOf [], bookR true d n (useL (line xs k) xs) m es, by exact wI, rfl, rfl⟩
end Go.Proofs.Ytlbgkfidpkbafaa
