/- What lies beneath a grant. -/
import Derived.Test.YtlbgkfidpkbafaaG2
namespace Go.Proofs.Ytlbgkfidpkbafaa
open Go.RowKit
set_option linter.unusedSimpArgs false
set_option linter.unusedVariables false
set_option maxRecDepth 20000 in
theorem index_k (d : Int) (n : Nat) (xs : List Int) (m : Nat) (es : List Int) (l : List Nat) (k : Nat) (hl : ∀ i ∈ l, i < n) (hf : l.length ≤ 1000) : CallA Try.prog 99 [.t (.a (.s (.slc 3 0 l.length))), .t (.a (.s (.ptr 1 (k * 9))))] (lineR d n xs m es l) (fun w H => w = .int .i64 (idxF (fun i => k * 9 == i * 9) l 0) ∧ H = lineR d n xs m es l) := by
  refine call_of_vc TYok mixedO Try.func99 rfl rfl (Nat.le_of_ble_eq_true rfl) ?_
  (repeat (first | refine aC ?_ | refine aK ?_ | refine ⟨fun _ => ?_, fun h => absurd h (by decide)⟩ | refine ⟨fun h => absurd h (by decide), fun _ => ?_⟩))
  refine loop_rule TYok mixedO (ι := Nat) (fun j => [(0, .t (.a (.s (.slc 3 0 l.length)))), (1, .t (.a (.s (.ptr 1 (k * 9))))), (7, .int .i64 (l.length : Int)), (8, .int .i64 (j : Int))]) (fun _ => lineR d n xs m es l) (fun j => j ≤ l.length ∧ idxF (fun i => k * 9 == i * 9) l 0 = idxF (fun i => k * 9 == i * 9) (l.drop j) j) (fun j => l.length - j) 0 ⟨Nat.zero_le _, rfl⟩ some (by exact wI) ?_
  rintro j ⟨hj, he⟩
  (repeat (first | refine aC ?_ | refine aK ?_ | refine ⟨fun _ => ?_, fun h => absurd h (by decide)⟩ | refine ⟨fun h => absurd h (by decide), fun _ => ?_⟩))
  refine ⟨fun g => ?_, fun g => ?_⟩
  · have g := of_decide_eq_true g
    have hjl : j < l.length := by omega
    rw [idxF_drop _ _ hjl] at he
    have hlt := getD_lt hl hjl
    (repeat (first | refine aC ?_ | refine aK ?_ | refine ⟨fun _ => ?_, fun h => absurd h (by decide)⟩ | refine ⟨fun h => absurd h (by decide), fun _ => ?_⟩))
    have e1 : 0 + ((j : Nat) : Int).toNat * ti89.size = j := by
      rw [siz89]
      simp
    rw [e1]
    refine And.intro (decide_eq_true (by rw [List.length_map]; exact hjl)) ?_
    rw [nine]
    (repeat (first | refine aC ?_ | refine aK ?_ | refine ⟨fun _ => ?_, fun h => absurd h (by decide)⟩ | refine ⟨fun h => absurd h (by decide), fun _ => ?_⟩))
    refine ⟨fun g => ?_, fun g => ?_⟩
    · (repeat (first | refine aC ?_ | refine aK ?_ | refine ⟨fun _ => ?_, fun h => absurd h (by decide)⟩ | refine ⟨fun h => absurd h (by decide), fun _ => ?_⟩))
      have g0 : (k * 9 == l.getD j 0 * 9) = true := g
      rw [he, if_pos g0]
      exact ⟨some, .int .i64 (j : Int), lineR d n xs m es l, by exact wI, rfl, rfl⟩
    · (repeat (first | refine aC ?_ | refine aK ?_ | refine ⟨fun _ => ?_, fun h => absurd h (by decide)⟩ | refine ⟨fun h => absurd h (by decide), fun _ => ?_⟩))
      have g0 : (k * 9 == l.getD j 0 * 9) = false := g
      rw [g0] at he
      exact ⟨j + 1, ⟨by omega, he⟩, by omega, some, by exact wI⟩
  · have g := of_decide_eq_false g
    (repeat (first | refine aC ?_ | refine aK ?_ | refine ⟨fun _ => ?_, fun h => absurd h (by decide)⟩ | refine ⟨fun h => absurd h (by decide), fun _ => ?_⟩))
    have e : idxF (fun i => k * 9 == i * 9) l 0 = -1 := by
      rw [he, List.drop_eq_nil_of_le (by omega)]
      rfl
    rw [e]
    exact ⟨some, .int .i64 (-1), lineR d n xs m es l, by exact wI, rfl, rfl⟩
theorem any_k (k : Nat) (l : List Nat) : l.any (fun i => k * 9 == i * 9) = decide (k ∈ l) := by
  rw [Bool.eq_iff_iff, List.any_eq_true, decide_eq_true_eq]
  constructor
  · rintro ⟨i, hi, h⟩
    have := beq_iff_eq.1 h
    rw [show k = i by omega]
    exact hi
  · exact fun h => ⟨k, h, beq_iff_eq.2 rfl⟩
set_option maxRecDepth 20000 in
theorem contains_k (d : Int) (n : Nat) (xs : List Int) (m : Nat) (es : List Int) (l : List Nat) (k : Nat) (hl : ∀ i ∈ l, i < n) (hf : l.length ≤ 1000) : CallA Try.prog 78 [.t (.a (.s (.slc 3 0 l.length))), .t (.a (.s (.ptr 1 (k * 9))))] (lineR d n xs m es l) (fun w H => w = .boo (decide (k ∈ l)) ∧ H = lineR d n xs m es l) := by
  refine call_of_vc TYok mixedO Try.func78 rfl rfl (Nat.le_of_ble_eq_true rfl) ?_
  (repeat (first | refine aC ?_ | refine aK ?_ | refine ⟨fun _ => ?_, fun h => absurd h (by decide)⟩ | refine ⟨fun h => absurd h (by decide), fun _ => ?_⟩))
  (refine call_lift (index_k d n xs m es l k hl hf) (fun i => match i with | 0 => some 0 | 1 => some 1 | 2 => some 2 | 3 => some 3 | _ => none) rfl rfl hI rfl rfl rfl ?_; rintro v H1 ⟨rfl, rfl⟩; refine ⟨⟨rfl, rfl, rfl, rfl⟩, ?_⟩; (try simp only [two]); (try simp only [AV.ren]); (try simp only [renT]); (try simp only [AT.ren]); (try simp only [A.ren]); (try (rw [ptr_ren]; rotate_left; exact rfl)); (try (rw [slc_ren]; rotate_left; exact rfl)); (try simp only [S.ren]))
  (repeat (first | refine aC ?_ | refine aK ?_ | refine ⟨fun _ => ?_, fun h => absurd h (by decide)⟩ | refine ⟨fun h => absurd h (by decide), fun _ => ?_⟩))
  exact ⟨some, .boo (decide (0 ≤ idxF (fun i => k * 9 == i * 9) l 0)), lineR d n xs m es l, by exact wI, by rw [idxF_any, any_k], rfl⟩
/-- is one beneath another -/
def undB (xs : List Int) (k i : Nat) : Bool := !(i == k) && decide (k ∈ line xs i)
def belowS (xs : List Int) (k : Nat) : Nat → List Int
  | 0 => []
  | c + 1 => belowS xs k c ++ (if undB xs k c = true then [fG xs c 0] else [])
theorem belowS_len (xs : List Int) (k : Nat) : ∀ c, (belowS xs k c).length ≤ c
  | 0 => Nat.le_refl _
  | c + 1 => by
    have := belowS_len xs k c
    simp only [belowS, List.length_append]
    split <;> simp <;> omega
theorem nine_eq (i k : Nat) : (i * 9 == k * 9) = (i == k) := by
  rw [Bool.eq_iff_iff, beq_iff_eq, beq_iff_eq]
  omega
theorem apJ_t {js jb L n xl : Nat} (hL : L = 1) (hj : js = 1) (hb : jb = 8) (h3 : n = xl) (hn : n ≤ 100000) : decide (0 < L ∧ n * js = xl ∧ (n + L) * jb ≤ 140737488355328 ∧ n + L ≤ 9223372036854775807 ∧ 0 < js) = true := by
  subst hL hj hb h3
  exact decide_eq_true ⟨by omega, by omega, by omega, by omega, by omega⟩
set_option maxRecDepth 20000 in
set_option maxHeartbeats 4000000 in
theorem below_c (d : Int) (n : Nat) (xs : List Int) (m : Nat) (es : List Int) (hw : Wf n xs) (k : Nat) (hk : k < n) (no : Int) (hno : no = (k : Int) + 1) : CallA Try.prog 29 [.t (.a (.s (.ptr 0 0))), .int .i64 no] (bookR false d n xs m es)
    (fun w H => w = tupOf [.a (.s (.slc 3 0 (belowS xs k n).length)), .a (.s (.v (.int .i64 0)))] ∧ H = bookR false d n xs m es ++ [⟨true, false, 3, 1, .rows (.int .i64) (belowS xs k n)⟩]) := by
  subst hno
  refine call_defer TYok mixedO Try.func29 rfl rfl (Nat.le_of_ble_eq_true rfl) (df_ok 77 rfl) ?_
  have h2 := hw.few
  (repeat (first | refine aC ?_ | refine aK ?_ | refine ⟨fun _ => ?_, fun h => absurd h (by decide)⟩ | refine ⟨fun h => absurd h (by decide), fun _ => ?_⟩))
  refine And.intro ?_ ?_
  · exact ⟨rfl, rfl, rfl⟩
  (repeat (first | refine aC ?_ | refine aK ?_ | refine ⟨fun _ => ?_, fun h => absurd h (by decide)⟩ | refine ⟨fun h => absurd h (by decide), fun _ => ?_⟩))
  (refine call_lift (find_c d n xs m es hw.len hw.few ((k : Int) + 1) (by omega) (by omega)) (fun i => match i with | 0 => some 0 | 1 => some 1 | 2 => some 2 | _ => none) rfl rfl hI rfl rfl rfl ?_; rintro v H1 ⟨rfl, rfl⟩; refine ⟨⟨rfl, rfl, rfl, rfl⟩, ?_⟩; (try simp only [two]); (try simp only [AV.ren]); (try simp only [renT]); (try simp only [AT.ren]); (try simp only [A.ren]); (try (rw [ptr_ren]; rotate_left; exact rfl)); (try (rw [slc_ren]; rotate_left; exact rfl)); (try simp only [S.ren]))
  rw [succ_k]
  (repeat (first | refine aC ?_ | refine aK ?_ | refine ⟨fun _ => ?_, fun h => absurd h (by decide)⟩ | refine ⟨fun h => absurd h (by decide), fun _ => ?_⟩))
  refine loop_rule TYok mixedO (ι := Nat) (fun c => [(0, .t (.a (.s (.ptr 0 0)))), (4, .t (.a (.s (.slc 4 0 (belowS xs k c).length)))), (5, .t (.a (.s (.ptr 3 0)))), (6, .t (.a (.s (.ptr 1 (k * 9))))), (17, .int .i64 (n : Int)), (18, .int .i64 (c : Int))]) (fun c => bookR false d n xs m es ++ [⟨true, true, 39, 1, .cells [.s (.v (.int .i64 0))]⟩, ⟨true, false, 3, 1, .rows (.int .i64) (belowS xs k c)⟩]) (fun c => c ≤ n) (fun c => n - c) 0 (Nat.zero_le _) (fun i => match i with | 0 => some 0 | 1 => some 1 | 2 => some 2 | 3 => some 3 | _ => none) (by exact wI) ?_
  rintro c hc
  have hbl := belowS_len xs k c
  (repeat (first | refine aC ?_ | refine aK ?_ | refine ⟨fun _ => ?_, fun h => absurd h (by decide)⟩ | refine ⟨fun h => absurd h (by decide), fun _ => ?_⟩))
  refine ⟨fun g => ?_, fun g => ?_⟩
  · have g := of_decide_eq_true g
    have hlt : c < n := by omega
    (repeat (first | refine aC ?_ | refine aK ?_ | refine ⟨fun _ => ?_, fun h => absurd h (by decide)⟩ | refine ⟨fun h => absurd h (by decide), fun _ => ?_⟩))
    have e1 : 0 + ((c : Nat) : Int).toNat * ti50.size = c * 9 := by
      rw [siz50]
      simp
    rw [e1]
    (repeat (first | refine aC ?_ | refine aK ?_ | refine ⟨fun _ => ?_, fun h => absurd h (by decide)⟩ | refine ⟨fun h => absurd h (by decide), fun _ => ?_⟩))
    refine ⟨fun g => ?_, fun g => ?_⟩
    · have g1 : (!(c * 9 == k * 9)) = true := g
      rw [nine_eq] at g1
      (repeat (first | refine aC ?_ | refine aK ?_ | refine ⟨fun _ => ?_, fun h => absurd h (by decide)⟩ | refine ⟨fun h => absurd h (by decide), fun _ => ?_⟩))
      have ll := line_len hw hlt
      (refine call_lift (line_c d n xs m es c hw hlt) (fun i => match i with | 0 => some 0 | 1 => some 1 | 2 => some 2 | _ => none) rfl rfl hI rfl rfl rfl ?_; rintro v H1 ⟨rfl, rfl⟩; refine ⟨⟨rfl, rfl, rfl, rfl⟩, ?_⟩; (try simp only [two]); (try simp only [AV.ren]); (try simp only [renT]); (try simp only [AT.ren]); (try simp only [A.ren]); (try (rw [ptr_ren]; rotate_left; exact rfl)); (try (rw [slc_ren]; rotate_left; exact rfl)); (try simp only [S.ren]))
      (repeat (first | refine aC ?_ | refine aK ?_ | refine ⟨fun _ => ?_, fun h => absurd h (by decide)⟩ | refine ⟨fun h => absurd h (by decide), fun _ => ?_⟩))
      (refine call_lift (contains_k d n xs m es (line xs c) k (line_lt hw hlt) (by omega)) (fun i => match i with | 0 => some 0 | 1 => some 1 | 2 => some 2 | 3 => some 5 | _ => none) rfl rfl hI rfl rfl rfl ?_; rintro v H1 ⟨rfl, rfl⟩; refine ⟨⟨rfl, rfl, rfl, rfl⟩, ?_⟩; (try simp only [two]); (try simp only [AV.ren]); (try simp only [renT]); (try simp only [AT.ren]); (try simp only [A.ren]); (try (rw [ptr_ren]; rotate_left; exact rfl)); (try (rw [slc_ren]; rotate_left; exact rfl)); (try simp only [S.ren]))
      (repeat (first | refine aC ?_ | refine aK ?_ | refine ⟨fun _ => ?_, fun h => absurd h (by decide)⟩ | refine ⟨fun h => absurd h (by decide), fun _ => ?_⟩))
      refine ⟨fun g => ?_, fun g => ?_⟩
      · have g2 : decide (k ∈ line xs c) = true := g
        have gu : undB xs k c = true := by unfold undB; rw [g1, g2]; rfl
        have eb : belowS xs k (c + 1) = belowS xs k c ++ [fG xs c 0] := by simp only [belowS]; rw [gu, if_pos rfl]
        have el : (belowS xs k c ++ [fG xs c 0]).length = (belowS xs k c).length + 1 := by rw [List.length_append]; rfl
        (repeat (first | refine aC ?_ | refine aK ?_ | refine ⟨fun _ => ?_, fun h => absurd h (by decide)⟩ | refine ⟨fun h => absurd h (by decide), fun _ => ?_⟩))
        refine And.intro (fld_t (o := 0) (by decide) rfl hlt hw.len) ?_
        (repeat (first | refine aC ?_ | refine aK ?_ | refine ⟨fun _ => ?_, fun h => absurd h (by decide)⟩ | refine ⟨fun h => absurd h (by decide), fun _ => ?_⟩))
        refine And.intro ?_ ?_
        · exact and_t (and_t (and_t (and_t rfl rfl) rfl) rfl) (apJ_t rfl rfl rfl rfl (by omega))
        (repeat (first | refine aC ?_ | refine aK ?_ | refine ⟨fun _ => ?_, fun h => absurd h (by decide)⟩ | refine ⟨fun h => absurd h (by decide), fun _ => ?_⟩))

        exact ⟨c + 1, hlt, by omega, (fun i => match i with | 0 => some 0 | 1 => some 1 | 2 => some 2 | 3 => some 3 | 4 => some 7 | _ => none), by simp only [eb, el]; exact wI⟩
      · have g2 : decide (k ∈ line xs c) = false := g
        have gu : undB xs k c = false := by unfold undB; rw [g1, g2]; rfl
        have eb : belowS xs k (c + 1) = belowS xs k c := by simp only [belowS]; rw [gu, if_neg (by decide), List.append_nil]
        (repeat (first | refine aC ?_ | refine aK ?_ | refine ⟨fun _ => ?_, fun h => absurd h (by decide)⟩ | refine ⟨fun h => absurd h (by decide), fun _ => ?_⟩))
        exact ⟨c + 1, hlt, by omega, some, by rw [eb]; exact wI⟩
    · have g1 : (!(c * 9 == k * 9)) = false := g
      rw [nine_eq] at g1
      have gu : undB xs k c = false := by unfold undB; rw [g1]; rfl
      have eb : belowS xs k (c + 1) = belowS xs k c := by simp only [belowS]; rw [gu, if_neg (by decide), List.append_nil]
      (repeat (first | refine aC ?_ | refine aK ?_ | refine ⟨fun _ => ?_, fun h => absurd h (by decide)⟩ | refine ⟨fun h => absurd h (by decide), fun _ => ?_⟩))
      exact ⟨c + 1, hlt, by omega, some, by rw [eb]; exact wI⟩
  · have g := of_decide_eq_false g
    obtain rfl : c = n := by omega
    (repeat (first | refine aC ?_ | refine aK ?_ | refine ⟨fun _ => ?_, fun h => absurd h (by decide)⟩ | refine ⟨fun h => absurd h (by decide), fun _ => ?_⟩))
    exact ⟨(fun i => match i with | 0 => some 0 | 1 => some 1 | 2 => some 2 | 3 => some 4 | _ => none), tupOf [.a (.s (.slc 3 0 (belowS xs k c).length)), .a (.s (.v (.int .i64 0)))], bookR false d c xs m es ++ [⟨true, false, 3, 1, .rows (.int .i64) (belowS xs k c)⟩], by exact wI, rfl, rfl⟩
end Go.Proofs.Ytlbgkfidpkbafaa
/- What falls with a grant that is taken back. -/
namespace Go.Proofs.Ytlbgkfidpkbafaa
open Go.RowKit
set_option linter.unusedSimpArgs false
set_option linter.unusedVariables false
/-- what a revocation takes: the grant and all beneath it -/
theorem rev_any {n : Nat} {xs : List Int} (hw : Wf n xs) {k : Nat} (hk : k < n) : ∀ {l : List Nat}, (∀ i ∈ l, i < n) → l.any (revG (revX xs k)) = (l.any (revG xs) || decide (k ∈ l))
  | [], _ => rfl
  | i :: l, hl => by
    have hg : revG (revX xs k) i = (revG xs i || decide (i = k)) := by
      have := revX_get hw.len hk (i := i) (o := 8) (by decide)
      show ((revX xs k).getD (i * 9 + 8) 0 != 0) = ((xs.getD (i * 9 + 8) 0 != 0) || decide (i = k))
      rw [show (revX xs k).getD (i * 9 + 8) 0 = _ from this]
      by_cases h : i = k
      · rw [if_pos ⟨h, rfl⟩, decide_eq_true h, Bool.or_true]
        rfl
      · rw [if_neg (fun e => h e.1), decide_eq_false h, Bool.or_false]
    rw [List.any_cons, List.any_cons, rev_any hw hk (fun j hj => hl j (List.mem_cons_of_mem _ hj)), hg]
    have hm : decide (k ∈ i :: l) = (decide (i = k) || decide (k ∈ l)) := by
      rw [Bool.eq_iff_iff, Bool.or_eq_true, decide_eq_true_eq, decide_eq_true_eq, decide_eq_true_eq, List.mem_cons]
      exact ⟨fun h => h.imp (fun e => e.symm) id, fun h => h.imp (fun e => e.symm) id⟩
    rw [hm]
    cases revG xs i <;> cases decide (i = k) <;> cases l.any (revG xs) <;> rfl
theorem rev_line {n : Nat} {xs : List Int} (hR : Rng n xs) {k : Nat} (hk : k < n) {i : Nat} (hi : i < n) : line (revX xs k) i = line xs i :=
  line_congr hR.wf (revX_rng hR hk).wf (fun q _ => by rw [revX_get hR.wf.len hk (by decide), if_neg (fun e => by omega)]) hi
theorem rev_stands {n : Nat} {xs : List Int} (hR : Rng n xs) {k : Nat} (hk : k < n) (d : Int) {i : Nat} (hi : i < n) : standsB d (revX xs k) i = (standsB d xs i && !decide (k ∈ line xs i)) := by
  unfold standsB
  rw [rev_line hR hk hi, rev_any hR.wf hk (line_lt hR.wf hi), revX_get hR.wf.len hk (by decide), if_neg (fun e => by omega)]
  cases decide (d ≤ fG xs i 6) <;> cases (line xs i).any (revG xs) <;> cases decide (k ∈ line xs i) <;> rfl
def goneN (d : Int) (xs : List Int) (k : Nat) : Nat → Nat
  | 0 => 0
  | c + 1 => goneN d xs k c + (if (standsB d xs c && decide (k ∈ line xs c)) = true then 1 else 0)
theorem goneN_eq {n : Nat} {xs : List Int} (hR : Rng n xs) {k : Nat} (hk : k < n) (d : Int) : ∀ {c : Nat}, c ≤ n → standN d xs c = standN d (revX xs k) c + goneN d xs k c
  | 0, _ => rfl
  | c + 1, hc => by
    simp only [standN, goneN]
    rw [goneN_eq hR hk d (Nat.le_of_succ_le hc), rev_stands hR hk d hc]
    cases standsB d xs c <;> cases decide (k ∈ line xs c) <;> simp <;> omega
theorem goneN_le (d : Int) (xs : List Int) (k : Nat) : ∀ c, goneN d xs k c ≤ c
  | 0 => Nat.le_refl _
  | c + 1 => by
    have := goneN_le d xs k c
    simp only [goneN]
    split <;> omega
/-- acts behind a book -/
def runF (s : St) (ys : List Int) : Nat → St
  | 0 => s
  | j + 1 => (actS (runF s ys j) (acAt ys j)).1
theorem runF_good {s : St} (hs : Good s) (ys : List Int) : ∀ j, Good (runF s ys j)
  | 0 => hs
  | j + 1 => actS_good (runF_good hs ys j) _
/-- what is gone stays gone -/
structure GoneI (s0 : St) (k : Nat) (s : St) : Prop where
  lt : k < s0.n
  n : s0.n ≤ s.n
  m : s0.m ≤ s.m
  line : ∀ i, i < s0.n → line s.xs i = line s0.xs i
  rev : revG s.xs k = true
  a : ∀ e, s0.m ≤ e → e < s.m → 1 ≤ s.es.getD (e * 4 + 2) 0 ∧ (s.es.getD (e * 4 + 2) 0 ≤ (s0.n : Int) → k ∉ Go.Proofs.Ytlbgkfidpkbafaa.line s0.xs (s.es.getD (e * 4 + 2) 0 - 1).toNat)
  b : ∀ e, s0.m ≤ e → e < s.m → 1 ≤ s.es.getD (e * 4 + 3) 0 ∧ (s.es.getD (e * 4 + 3) 0 ≤ (s0.n : Int) → k ∉ Go.Proofs.Ytlbgkfidpkbafaa.line s0.xs (s.es.getD (e * 4 + 3) 0 - 1).toNat)
theorem stands_out {d : Int} {xs : List Int} {i k : Nat} (hr : revG xs k = true) (h : standsB d xs i = true) : k ∉ Go.Proofs.Ytlbgkfidpkbafaa.line xs i := fun hm => by
  unfold standsB at h
  simp only [Bool.and_eq_true, decide_eq_true_eq, Bool.not_eq_true'] at h
  have := List.any_eq_false.1 h.2 k hm
  exact this hr
theorem gone_turned {s0 s s' : St} {k : Nat} (hs : Good s) (hs' : Good s') (h : Turned s s') (hi : GoneI s0 k s) : GoneI s0 k s' := by
  have hl := turned_line hs hs' h
  have hkn : k < s.n := Nat.lt_of_lt_of_le hi.lt hi.n
  have hln : ∀ i, i < s0.n → line s'.xs i = line s0.xs i := fun i h => by rw [hl.2 i (Nat.lt_of_lt_of_le h hi.n), hi.line i h]
  have hn : s0.n ≤ s'.n := Nat.le_trans hi.n hl.1
  cases h with
  | same => exact hi
  | more ab ro h v r u us hnn hv =>
    refine ⟨hi.lt, hn, hi.m, hln, ?_, hi.a, hi.b⟩
    show ((s.xs ++ _).getD (k * 9 + 8) 0 != 0) = true
    rw [show (s.xs ++ _).getD (k * 9 + 8) 0 = fG s.xs k 8 from app_old hs.rng.wf.len _ hkn (by decide)]
    exact hi.rev
  | rev q hq =>
    refine ⟨hi.lt, hn, hi.m, hln, ?_, hi.a, hi.b⟩
    show ((revX s.xs q).getD (k * 9 + 8) 0 != 0) = true
    rw [show (revX s.xs q).getD (k * 9 + 8) 0 = _ from revX_get hs.rng.wf.len hq (i := k) (o := 8) (by decide)]
    split
    · rfl
    · exact hi.rev
  | day d hd => exact ⟨hi.lt, hn, hi.m, hln, hi.rev, hi.a, hi.b⟩
  | opn a f t f1 f2 t1 t2 sf st hr zf zt =>
    have hkf : (f - 1).toNat < s.n := by omega
    have hkt : (t - 1).toNat < s.n := by omega
    have hRf := useG_rng hs.rng hkf
    have of := stands_out hi.rev sf
    have ot := stands_out hi.rev st
    refine ⟨hi.lt, hn, Nat.le_succ_of_le hi.m, hln, ?_, fun e h1 h2 => ?_, fun e h1 h2 => ?_⟩
    · show ((useG (useG s.xs (f - 1).toNat) (t - 1).toNat).getD (k * 9 + 8) 0 != 0) = true
      rw [show (useG (useG s.xs (f - 1).toNat) (t - 1).toNat).getD (k * 9 + 8) 0 = _ from useG_keep hRf.wf hkt k (o := 8) (by decide) (by decide), useG_keep hs.rng.wf hkf k (by decide) (by decide)]
      exact hi.rev
    · show 1 ≤ (s.es ++ [s.d, a, f, t]).getD (e * 4 + 2) 0 ∧ ((s.es ++ [s.d, a, f, t]).getD (e * 4 + 2) 0 ≤ (s0.n : Int) → k ∉ Go.Proofs.Ytlbgkfidpkbafaa.line s0.xs ((s.es ++ [s.d, a, f, t]).getD (e * 4 + 2) 0 - 1).toNat)
      rcases Nat.lt_succ_iff_lt_or_eq.1 (show e < s.m + 1 from h2) with h | rfl
      · rw [es_old hs.len _ h (by decide)]
        exact hi.a e h1 h
      · rw [es_new hs.len]
        refine ⟨f1, fun h => ?_⟩
        have h : f ≤ (s0.n : Int) := h
        show k ∉ Go.Proofs.Ytlbgkfidpkbafaa.line s0.xs (f - 1).toNat
        rw [← hi.line (f - 1).toNat (by omega)]
        exact of
    · show 1 ≤ (s.es ++ [s.d, a, f, t]).getD (e * 4 + 3) 0 ∧ ((s.es ++ [s.d, a, f, t]).getD (e * 4 + 3) 0 ≤ (s0.n : Int) → k ∉ Go.Proofs.Ytlbgkfidpkbafaa.line s0.xs ((s.es ++ [s.d, a, f, t]).getD (e * 4 + 3) 0 - 1).toNat)
      rcases Nat.lt_succ_iff_lt_or_eq.1 (show e < s.m + 1 from h2) with h | rfl
      · rw [es_old hs.len _ h (by decide)]
        exact hi.b e h1 h
      · rw [es_new hs.len]
        refine ⟨t1, fun h => ?_⟩
        have h : t ≤ (s0.n : Int) := h
        show k ∉ Go.Proofs.Ytlbgkfidpkbafaa.line s0.xs (t - 1).toNat
        rw [← hi.line (t - 1).toNat (by omega)]
        exact ot
theorem runF_gone {s0 : St} {k : Nat} (hs : Good s0) (hk : k < s0.n) (hr : revG s0.xs k = true) (ys : List Int) : ∀ j, GoneI s0 k (runF s0 ys j)
  | 0 => ⟨hk, Nat.le_refl _, Nat.le_refl _, fun _ _ => rfl, hr, fun e h1 h2 => absurd h2 (Nat.not_lt.2 h1), fun e h1 h2 => absurd h2 (Nat.not_lt.2 h1)⟩
  | j + 1 => gone_turned (runF_good hs ys j) (runF_good hs ys (j + 1)) (act_turned _ _) (runF_gone hs hk hr ys j)
end Go.Proofs.Ytlbgkfidpkbafaa
