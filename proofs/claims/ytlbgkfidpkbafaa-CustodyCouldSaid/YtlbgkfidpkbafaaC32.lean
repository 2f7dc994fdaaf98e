/- A book behind acts; its grants. -/
import Derived.Test.YtlbgkfidpkbafaaC30
import Derived.Test.YtlbgkfidpkbafaaC4
namespace Go.Proofs.Ytlbgkfidpkbafaa
open Go.RowKit
set_option linter.unusedSimpArgs false
set_option linter.unusedVariables false
theorem new_c : CallA Try.prog 16 [] [] (fun v H => v = .t (.a (.s (.ptr 0 0))) ∧ H = [⟨true, true, 45, 1, .cells [.s (.v (.bool true)), .s (.v (.int .i64 0)), .s (.v (.slice none 0 0)), .s (.v (.slice none 0 0))]⟩]) :=
  call_run TYok mixedO 40 20 (by kernel_rfl)
abbrev kA : List RK := [.int .u8, .int .i64, .int .i64, .int .i64, .int .i64, .int .i64, .int .i64, .int .i64, .int .i64, .int .i64, .int .i64]
def acAt (ys : List Int) (j : Nat) : Ac := ⟨ys.getD (j * 11) 0, ys.getD (j * 11 + 1) 0, ys.getD (j * 11 + 2) 0, ys.getD (j * 11 + 3) 0, ys.getD (j * 11 + 4) 0, ys.getD (j * 11 + 5) 0, ys.getD (j * 11 + 6) 0, ys.getD (j * 11 + 7) 0, ys.getD (j * 11 + 8) 0, ys.getD (j * 11 + 9) 0, ys.getD (j * 11 + 10) 0⟩
def runS (ys : List Int) : Nat → St
  | 0 => ⟨0, 0, [], 0, []⟩
  | j + 1 => (actS (runS ys j) (acAt ys j)).1
theorem runS_good (ys : List Int) : ∀ j, Good (runS ys j)
  | 0 => ⟨⟨⟨rfl, Nat.zero_le _, fun _ h => absurd h (Nat.not_lt_zero _), fun _ h => absurd h (Nat.not_lt_zero _)⟩, fun _ h => absurd h (Nat.not_lt_zero _), fun _ h => absurd h (Nat.not_lt_zero _), fun _ h => absurd h (Nat.not_lt_zero _)⟩, rfl, Nat.zero_le _, fun _ h => absurd h (Nat.not_lt_zero _), fun _ h => absurd h (Nat.not_lt_zero _), fun _ h => absurd h (Nat.not_lt_zero _), fun _ h => absurd h (Nat.not_lt_zero _), fun _ h => absurd h (Nat.not_lt_zero _), fun _ h => absurd h (Nat.not_lt_zero _), fun _ h => absurd h (Nat.not_lt_zero _)⟩
  | j + 1 => actS_good (runS_good ys j) _
/-- acts that came in -/
abbrev actsB (ys : List Int) : Blk := ⟨false, false, 35, 11, .recs kA ys⟩
/-- a book behind one block -/
abbrev heap1 (q : Bool) (s : St) : AH := [⟨q, true, 45, 1, .cells [.s (.v (.bool true)), .s (.v (.int .i64 s.d)), .s (.slc 2 0 s.n), .s (.slc 3 0 s.m)]⟩, ⟨q, false, 50, 9, .recs kG s.xs⟩, ⟨q, false, 67, 4, .rows (.int .i64) s.es⟩]
theorem rec11_t {n k xl sz pl : Nat} (hk : k < n) (hx : n * 11 = xl) (hs : sz = 11) (hp : pl = 11) : (decide ((k * 11) % pl = 0) && decide (k * 11 + sz ≤ xl) && decide (sz = pl)) = true := by
  subst hs hp
  exact and_t (and_t (decide_eq_true (by omega)) (decide_eq_true (by omega))) rfl
set_option maxRecDepth 20000 in
set_option maxHeartbeats 2000000 in
theorem book_c (N : Nat) (ys : List Int) (hy : N * 11 = ys.length) (hN : N ≤ 1000) (hk : ∀ j, j < N → 0 ≤ ys.getD (j * 11) 0) : CallA Try.prog 34 [.t (.a (.s (.slc 0 0 N)))] [actsB ys] (fun w H => w = .t (.a (.s (.ptr 1 0))) ∧ H = actsB ys :: heap1 true (runS ys N)) := by
  refine call_of_vc TYok mixedO Try.func34 rfl rfl (Nat.le_of_ble_eq_true rfl) ?_
  (repeat (first | refine aC ?_ | refine aK ?_ | refine ⟨fun _ => ?_, fun h => absurd h (by decide)⟩ | refine ⟨fun h => absurd h (by decide), fun _ => ?_⟩))
  (refine call_lift (new_c) (fun i => match i with | 0 => none | _ => none) rfl rfl hI rfl rfl rfl ?_; rintro v H1 ⟨rfl, rfl⟩; refine ⟨⟨rfl, rfl, rfl, rfl⟩, ?_⟩; (try simp only [two]); (try simp only [AV.ren]); (try simp only [renT]); (try simp only [AT.ren]); (try simp only [A.ren]); (try (rw [ptr_ren]; rotate_left; exact rfl)); (try (rw [slc_ren]; rotate_left; exact rfl)); (try simp only [S.ren]))
  (repeat (first | refine aC ?_ | refine aK ?_ | refine ⟨fun _ => ?_, fun h => absurd h (by decide)⟩ | refine ⟨fun h => absurd h (by decide), fun _ => ?_⟩))
  refine loop_rule TYok mixedO (ι := Nat) (fun j => [(0, .t (.a (.s (.slc 0 0 N)))), (3, .t (.a (.s (.ptr 1 0)))), (4, .int .i64 (j : Int))]) (fun j => actsB ys :: heap1 true (runS ys j)) (fun j => j ≤ N) (fun j => N - j) 0 (Nat.zero_le _) (fun i => match i with | 0 => some 0 | 1 => some 1 | _ => none) (by exact wI) ?_
  rintro j hj
  (repeat (first | refine aC ?_ | refine aK ?_ | refine ⟨fun _ => ?_, fun h => absurd h (by decide)⟩ | refine ⟨fun h => absurd h (by decide), fun _ => ?_⟩))
  refine ⟨fun g => ?_, fun g => ?_⟩
  · have g := of_decide_eq_true g
    have hlt : j < N := by omega
    (repeat (first | refine aC ?_ | refine aK ?_ | refine ⟨fun _ => ?_, fun h => absurd h (by decide)⟩ | refine ⟨fun h => absurd h (by decide), fun _ => ?_⟩))
    have e1 : 0 + ((j : Nat) : Int).toNat * ti35.size = j * 11 := by
      rw [siz35]
      simp
    rw [e1]
    refine And.intro (rec11_t hlt hy rfl rfl) ?_
    (repeat (first | refine aC ?_ | refine aK ?_ | refine ⟨fun _ => ?_, fun h => absurd h (by decide)⟩ | refine ⟨fun h => absurd h (by decide), fun _ => ?_⟩))
    (refine call_lift (act_c (runS ys j) (runS_good ys j) (acAt ys j) (hk j hlt)) (fun i => match i with | 0 => some 1 | 1 => some 2 | 2 => some 3 | _ => none) rfl rfl hI rfl rfl rfl ?_)
    rintro v H1 ⟨rfl, (rfl | rfl | rfl)⟩
    · refine ⟨⟨rfl, rfl, rfl, rfl⟩, ?_⟩
      ((try simp only [two]); (try simp only [AV.ren]); (try simp only [renT]); (try simp only [AT.ren]); (try simp only [A.ren]); (try (rw [ptr_ren]; rotate_left; exact rfl)); (try (rw [slc_ren]; rotate_left; exact rfl)); (try simp only [S.ren]))
      (repeat (first | refine aC ?_ | refine aK ?_ | refine ⟨fun _ => ?_, fun h => absurd h (by decide)⟩ | refine ⟨fun h => absurd h (by decide), fun _ => ?_⟩))
      exact ⟨j + 1, hlt, by omega, some, by exact wI⟩
    · refine ⟨⟨rfl, rfl, rfl, rfl⟩, ?_⟩
      ((try simp only [two]); (try simp only [AV.ren]); (try simp only [renT]); (try simp only [AT.ren]); (try simp only [A.ren]); (try (rw [ptr_ren]; rotate_left; exact rfl)); (try (rw [slc_ren]; rotate_left; exact rfl)); (try simp only [S.ren]))
      (repeat (first | refine aC ?_ | refine aK ?_ | refine ⟨fun _ => ?_, fun h => absurd h (by decide)⟩ | refine ⟨fun h => absurd h (by decide), fun _ => ?_⟩))
      exact ⟨j + 1, hlt, by omega, (fun i => match i with | 0 => some 0 | 1 => some 1 | 2 => some 4 | 3 => some 3 | _ => none), by exact wI⟩
    · refine ⟨⟨rfl, rfl, rfl, rfl⟩, ?_⟩
      ((try simp only [two]); (try simp only [AV.ren]); (try simp only [renT]); (try simp only [AT.ren]); (try simp only [A.ren]); (try (rw [ptr_ren]; rotate_left; exact rfl)); (try (rw [slc_ren]; rotate_left; exact rfl)); (try simp only [S.ren]))
      (repeat (first | refine aC ?_ | refine aK ?_ | refine ⟨fun _ => ?_, fun h => absurd h (by decide)⟩ | refine ⟨fun h => absurd h (by decide), fun _ => ?_⟩))
      exact ⟨j + 1, hlt, by omega, (fun i => match i with | 0 => some 0 | 1 => some 1 | 2 => some 2 | 3 => some 4 | _ => none), by exact wI⟩
  · have g := of_decide_eq_false g
    (repeat (first | refine aC ?_ | refine aK ?_ | refine ⟨fun _ => ?_, fun h => absurd h (by decide)⟩ | refine ⟨fun h => absurd h (by decide), fun _ => ?_⟩))
    obtain rfl : j = N := by omega
    exact ⟨some, .t (.a (.s (.ptr 1 0))), actsB ys :: heap1 true (runS ys j), by exact wI, rfl, rfl⟩
/-- the grants copied one by one -/
def recG (xs : List Int) (k : Nat) : List Int := [fG xs k 0, fG xs k 1, fG xs k 2, fG xs k 3, fG xs k 4, fG xs k 5, fG xs k 6, fG xs k 7, if revG xs k = true then 1 else 0]
def cpy (xs : List Int) : Nat → List Int
  | 0 => []
  | c + 1 => cpy xs c ++ recG xs c
theorem cpy_len (xs : List Int) : ∀ c, (cpy xs c).length = c * 9
  | 0 => rfl
  | c + 1 => by
    simp only [cpy, recG, List.length_append, cpy_len xs c, List.length_cons, List.length_nil]
    omega
theorem cpy_get (xs : List Int) : ∀ {c k o : Nat}, k < c → o < 9 → fG (cpy xs c) k o = (recG xs k).getD o 0
  | c + 1, k, o, hk, ho => by
    by_cases h : k < c
    · rw [← cpy_get xs h ho]
      exact app_old (cpy_len xs c).symm _ h ho
    · obtain rfl : k = c := by omega
      exact app_new (cpy_len xs k).symm _ o
set_option maxRecDepth 20000 in
set_option maxHeartbeats 4000000 in
theorem grants_c (d : Int) (n : Nat) (xs : List Int) (m : Nat) (es : List Int) (hw : Wf n xs) : CallA Try.prog 35 [.t (.a (.s (.ptr 0 0)))] (bookR false d n xs m es) (fun w H => w = .t (.a (.s (.slc 3 0 n))) ∧ H = bookR false d n xs m es ++ [⟨true, false, 50, 9, .recs kG (cpy xs n)⟩]) := by
  refine call_of_vc TYok mixedO Try.func35 rfl rfl (Nat.le_of_ble_eq_true rfl) ?_
  have hf := hw.few
  (repeat (first | refine aC ?_ | refine aK ?_ | refine ⟨fun _ => ?_, fun h => absurd h (by decide)⟩ | refine ⟨fun h => absurd h (by decide), fun _ => ?_⟩))
  refine loop_rule TYok mixedO (ι := Nat) (fun c => [(0, .t (.a (.s (.ptr 0 0)))), (3, .t (.a (.s (.slc 3 0 c)))), (4, .int .i64 ((c : Int) + 1))]) (fun c => bookR false d n xs m es ++ [⟨true, false, 50, 9, .recs kG (cpy xs c)⟩]) (fun c => c ≤ n) (fun c => n - c) 0 (Nat.zero_le _) (fun i => match i with | 0 => some 0 | 1 => some 1 | 2 => some 2 | _ => none) (by exact wI) ?_
  rintro c hc
  (repeat (first | refine aC ?_ | refine aK ?_ | refine ⟨fun _ => ?_, fun h => absurd h (by decide)⟩ | refine ⟨fun h => absurd h (by decide), fun _ => ?_⟩))
  refine ⟨fun g => ?_, fun g => ?_⟩
  · have g := of_decide_eq_true g
    by_cases hlt : c < n
    · (repeat (first | refine aC ?_ | refine aK ?_ | refine ⟨fun _ => ?_, fun h => absurd h (by decide)⟩ | refine ⟨fun h => absurd h (by decide), fun _ => ?_⟩))
      (refine call_lift (get_c d n xs m es hw c hlt) (fun i => match i with | 0 => some 0 | 1 => some 1 | 2 => some 2 | _ => none) rfl rfl hI rfl rfl rfl ?_; rintro v H1 ⟨rfl, rfl⟩; refine ⟨⟨rfl, rfl, rfl, rfl⟩, ?_⟩; (try simp only [two]); (try simp only [AV.ren]); (try simp only [renT]); (try simp only [AT.ren]); (try simp only [A.ren]); (try (rw [ptr_ren]; rotate_left; exact rfl)); (try (rw [slc_ren]; rotate_left; exact rfl)); (try simp only [S.ren]))
      (repeat (first | refine aC ?_ | refine aK ?_ | refine ⟨fun _ => ?_, fun h => absurd h (by decide)⟩ | refine ⟨fun h => absurd h (by decide), fun _ => ?_⟩))
      refine And.intro ?_ ?_
      · exact and_t (and_t (and_t (and_t rfl rfl) rfl) rfl) (apR_t rfl rfl rfl rfl (cpy_len xs c).symm (by omega))
      (repeat (first | refine aC ?_ | refine aK ?_ | refine ⟨fun _ => ?_, fun h => absurd h (by decide)⟩ | refine ⟨fun h => absurd h (by decide), fun _ => ?_⟩))
      exact ⟨c + 1, hlt, by omega, (fun i => match i with | 0 => some 0 | 1 => some 1 | 2 => some 2 | 3 => some 6 | _ => none), by exact wI⟩
    · obtain rfl : c = n := by omega
      (repeat (first | refine aC ?_ | refine aK ?_ | refine ⟨fun _ => ?_, fun h => absurd h (by decide)⟩ | refine ⟨fun h => absurd h (by decide), fun _ => ?_⟩))
      (refine call_lift (get_none d c xs m es ((c : Int) + 1) (by rw [Bool.and_eq_false_iff]; exact .inr (decide_eq_false (by omega)))) (fun i => match i with | 0 => some 0 | 1 => some 1 | 2 => some 2 | _ => none) rfl rfl hI rfl rfl rfl ?_; rintro v H1 ⟨rfl, rfl⟩; refine ⟨⟨rfl, rfl, rfl, rfl⟩, ?_⟩; (try simp only [two]); (try simp only [AV.ren]); (try simp only [renT]); (try simp only [AT.ren]); (try simp only [A.ren]); (try (rw [ptr_ren]; rotate_left; exact rfl)); (try (rw [slc_ren]; rotate_left; exact rfl)); (try simp only [S.ren]))
      (repeat (first | refine aC ?_ | refine aK ?_ | refine ⟨fun _ => ?_, fun h => absurd h (by decide)⟩ | refine ⟨fun h => absurd h (by decide), fun _ => ?_⟩))
      exact ⟨some, .t (.a (.s (.slc 3 0 c))), bookR false d c xs m es ++ [⟨true, false, 50, 9, .recs kG (cpy xs c)⟩], by exact wI, rfl, rfl⟩
  · have g := of_decide_eq_false g
    obtain rfl : c = n := by omega
    (repeat (first | refine aC ?_ | refine aK ?_ | refine ⟨fun _ => ?_, fun h => absurd h (by decide)⟩ | refine ⟨fun h => absurd h (by decide), fun _ => ?_⟩))
    exact ⟨some, .t (.a (.s (.slc 3 0 c))), bookR false d c xs m es ++ [⟨true, false, 50, 9, .recs kG (cpy xs c)⟩], by exact wI, rfl, rfl⟩
/- What is so of the grants that are shown. -/
theorem and_sub {v V : Nat} (hv : v < 2 ^ 64) (hV : V < 2 ^ 64) (h : v &&& (2 ^ 64 - 1 - V) = 0) : v &&& V = v := by
  apply Nat.eq_of_testBit_eq
  intro j
  rw [Nat.testBit_and]
  have h1 : (v &&& (2 ^ 64 - 1 - V)).testBit j = false := by rw [h]; exact Nat.zero_testBit j
  rw [Nat.testBit_and, show 2 ^ 64 - 1 - V = 2 ^ 64 - (V + 1) by omega, Nat.testBit_two_pow_sub_succ hV] at h1
  by_cases hj : j < 64
  · rw [decide_eq_true hj] at h1
    cases hb : v.testBit j <;> cases hB : V.testBit j <;> simp [hb, hB] at h1 ⊢
  · have : v.testBit j = false := Nat.testBit_lt_two_pow (Nat.lt_of_lt_of_le hv (Nat.pow_le_pow_right (by decide) (by omega)))
    rw [this]
    rfl
theorem subI_and {a b : Int} (ha : 0 ≤ a ∧ a ≤ 65535) (hb : 0 ≤ b ∧ b ≤ 65535) (h : subI a b = true) : ((a.toNat &&& b.toNat : Nat) : Int) = a := by
  unfold subI at h
  have h : a.toNat &&& (2 ^ 64 - 1 - b.toNat) = 0 := by
    have := beq_iff_eq.1 h
    exact_mod_cast this
  rw [and_sub (by omega) (by omega) h]
  omega
theorem stand_up {s : St} (hs : Good s) {i : Nat} (hi : i < s.n) (ha : fG s.xs i 1 ≠ 0) (h : standsB s.d s.xs i = true) : standsB s.d s.xs (fG s.xs i 1 - 1).toNat = true := by
  unfold standsB at h ⊢
  rw [line_up hs.rng.wf hi ha, List.any_cons] at h
  simp only [Bool.and_eq_true, decide_eq_true_eq, Bool.not_eq_true', Bool.or_eq_false_iff] at h ⊢
  have := (hs.up i hi ha).t
  exact ⟨by omega, h.2.2⟩
theorem stand_self {s : St} (hs : Good s) {i : Nat} (hi : i < s.n) (h : standsB s.d s.xs i = true) : revG s.xs i = false ∧ s.d ≤ fG s.xs i 6 := by
  unfold standsB at h
  simp only [Bool.and_eq_true, decide_eq_true_eq, Bool.not_eq_true'] at h
  refine ⟨?_, h.1⟩
  have hm : i ∈ line s.xs i := by
    by_cases ha : fG s.xs i 1 = 0
    · rw [line_root_eq hs.rng.wf hi ha]
      exact List.mem_singleton.2 rfl
    · rw [line_up hs.rng.wf hi ha]
      exact List.mem_cons_self
  have := List.any_eq_false.1 h.2 i hm
  simpa using this
/-- a shown grant's field, by the place at which it is read -/
theorem shown {s : St} (_hs : Good s) {k o : Nat} (hk : k < s.n) (ho : o < 8) : (cpy s.xs s.n).getD (0 + k * 9 + o) 0 = fG s.xs k o := by
  rw [Nat.zero_add]
  have := cpy_get s.xs hk (show o < 9 by omega)
  rw [show (cpy s.xs s.n).getD (k * 9 + o) 0 = fG (cpy s.xs s.n) k o from rfl, this]
  unfold recG
  match o, ho with
  | 0, _ => rfl
  | 1, _ => rfl
  | 2, _ => rfl
  | 3, _ => rfl
  | 4, _ => rfl
  | 5, _ => rfl
  | 6, _ => rfl
  | 7, _ => rfl
theorem shown_rev {s : St} (_hs : Good s) {k : Nat} (hk : k < s.n) : ((cpy s.xs s.n).getD (0 + k * 9 + 8) 0 != 0) = revG s.xs k := by
  rw [Nat.zero_add]
  have := cpy_get s.xs hk (show 8 < 9 by decide)
  rw [show (cpy s.xs s.n).getD (k * 9 + 8) 0 = fG (cpy s.xs s.n) k 8 from rfl, this]
  show ((if revG s.xs k = true then (1 : Int) else 0) != 0) = _
  cases revG s.xs k <;> rfl
theorem fld_z {k o n : Nat} {xs : List Int} {K : RK} (ho : o < 9) (hK : kG.getD o .bool = K) (hk : k < n) (hx : n * 9 = xs.length) : (decide (kG.getD ((0 + k * 9 + o) % kG.length) .bool = K) && decide (0 + k * 9 + o < xs.length)) = true := by
  rw [Nat.zero_add]
  exact fld_t ho hK hk hx
theorem rec_z {n k xl sz pl : Nat} (hk : k < n) (hx : n * 9 = xl) (hs : sz = 9) (hp : pl = 9) : (decide ((0 + k * 9) % pl = 0) && decide (0 + k * 9 + sz ≤ xl) && decide (sz = pl)) = true := by
  rw [Nat.zero_add]
  exact rec_t hk hx hs hp
theorem Stands_e (d : Int) (n : Nat) (xs : List Int) (m : Nat) (es : List Int) (hw : Wf n xs) (k : Nat) (hk : k < n) (no : Int) (hno : no = (k : Int) + 1) : CallA Try.prog 28 [.t (.a (.s (.ptr 0 0))), .int .i64 no] (bookR false d n xs m es)
    (fun w H => w = tupOf [.a (.s (.v (.bool (standsB d xs k)))), .a (.s (.v (.int .i64 0)))] ∧ H = bookR false d n xs m es) := by
  subst hno
  exact Stands_c d n xs m es hw k hk
theorem few_c (N : Nat) (ys : List Int) : CallA Try.prog 14 [.t (.a (.s (.slc 0 0 N)))] [actsB ys] (fun w H => w = .boo (decide ((N : Int) ≤ 40)) ∧ H = [actsB ys]) := by
  refine call_of_vc TYok mixedO Try.func14 rfl rfl (Nat.le_of_ble_eq_true rfl) ?_
  (repeat (first | refine aC ?_ | refine aK ?_ | refine ⟨fun _ => ?_, fun h => absurd h (by decide)⟩ | refine ⟨fun h => absurd h (by decide), fun _ => ?_⟩))
  exact ⟨some, .boo (decide ((N : Int) ≤ 40)), [actsB ys], by exact wI, rfl, rfl⟩
end Go.Proofs.Ytlbgkfidpkbafaa
