/- A book copied. -/
import Derived.Test.YtlbgkfidpkbafaaG1
import Derived.Test.YtlbgkfidpkbafaaG8
import Derived.Test.YtlbgkfidpkbafaaG3
namespace Go.Proofs.Ytlbgkfidpkbafaa
open Go.RowKit
set_option linter.unusedSimpArgs false
set_option linter.unusedVariables false
abbrev gQ (q : Bool) (xs : List Int) : Blk := ⟨q, false, 50, 9, .recs kG xs⟩
abbrev gC (q : Bool) (xs : List Int) : Blk := ⟨q, false, 50, 9, .cells (recList kG xs)⟩
theorem view_call {P : Program} {g : FuncId} {args : List AV} {V : AV} {xs : List Int} (h : CallA P g args [gC false xs] (fun w H => w = V ∧ H = [gC false xs, gC true xs])) : CallA P g args [gQ false xs] (fun w H => w = V ∧ H = [gQ false xs, gQ true xs]) :=
  ⟨h.1, fun C ρ w ra hI hra => by
    have hI1 := hI.view (b := 0) (blk := gQ false xs) rfl rfl (B := .cells (recList kG xs)) (recList_len kG xs) (fun j x hx => (recList_get kG xs j x).1 hx)
    refine (h.2 C ρ w ra hI1 hra).mono ?_
    rintro e w' ⟨u, v, H', ρ', he, ⟨hv, rfl⟩, hI2, hX, hl, hr⟩
    have hI3 := hI2.view (b := 0) (blk := gC false xs) rfl rfl (B := .recs kG xs) (recList_len kG xs).symm (fun j x hx => (recList_get kG xs j x).2 hx)
    have hI4 := hI3.view (b := 1) (blk := gC true xs) rfl rfl (B := .recs kG xs) (recList_len kG xs).symm (fun j x hx => (recList_get kG xs j x).2 hx)
    exact ⟨u, v, [gQ false xs, gQ true xs], ρ', he, ⟨hv, rfl⟩, hI4, hX, hl, hr⟩⟩
theorem ren_plain (σ : Rn) (L : Nat) : ∀ {l : List A}, (∀ x ∈ l, ∃ v, x = .s (.v v)) → renA σ l = l ∧ okA σ L l = true
  | [], _ => ⟨rfl, rfl⟩
  | x :: l, h => by
    obtain ⟨v, rfl⟩ := h x List.mem_cons_self
    obtain ⟨h1, h2⟩ := ren_plain σ L (l := l) fun y hy => h y (List.mem_cons_of_mem _ hy)
    refine ⟨?_, ?_⟩
    · show A.s (.v v) :: renA σ l = _
      rw [h1]
    · show (true && okA σ L l) = true
      rw [h2]
      rfl
theorem rec_plain (σ : Rn) (L : Nat) (xs : List Int) : renA σ (recList kG xs) = recList kG xs ∧ okA σ L (recList kG xs) = true :=
  ren_plain σ L fun x hx => by
    obtain ⟨j, _, rfl⟩ := List.mem_map.1 hx
    exact ⟨_, rfl⟩
theorem apG_t {js jb L n xl : Nat} {m : Nat} (hL : L = m) (hm : 0 < m) (hm2 : m ≤ 128) (hj : js = 9) (hb : jb = 72) (h3 : n = 0) (hx : xl = 0) : decide (0 < L ∧ n * js = xl ∧ (n + L) * jb ≤ 140737488355328 ∧ n + L ≤ 9223372036854775807 ∧ 0 < js) = true := by
  subst hL hj hb h3 hx
  exact decide_eq_true ⟨hm, by omega, by omega, by omega, by omega⟩
set_option maxRecDepth 20000 in
theorem cloneC_c (n : Nat) (xs : List Int) (hx : n * 9 = xs.length) (hn : n ≤ 128) : CallA Try.prog 59 [.t (.a (.s (.slc 0 0 n)))] [gC false xs] (fun w H => w = .t (.a (.s (.slc 1 0 n))) ∧ H = [gC false xs, gC true xs]) := by
  refine call_of_vc TYok mixedO Try.func59 rfl rfl (Nat.le_of_ble_eq_true rfl) ?_
  cases n with
  | zero =>
    have h0 : xs = [] := List.eq_nil_of_length_eq_zero (by omega)
    subst h0
    (repeat (first | refine aC ?_ | refine aK ?_ | refine ⟨fun _ => ?_, fun h => absurd h (by decide)⟩ | refine ⟨fun h => absurd h (by decide), fun _ => ?_⟩))
    intro b
    (repeat (first | refine aC ?_ | refine aK ?_ | refine ⟨fun _ => ?_, fun h => absurd h (by decide)⟩ | refine ⟨fun h => absurd h (by decide), fun _ => ?_⟩))
    refine ⟨fun _ => ?_, fun _ => ?_⟩
    · (repeat (first | refine aC ?_ | refine aK ?_ | refine ⟨fun _ => ?_, fun h => absurd h (by decide)⟩ | refine ⟨fun h => absurd h (by decide), fun _ => ?_⟩))
      exact ⟨fun i => match i with | 0 => some 0 | _ => none, .t (.a (.s (.slc 1 0 0))), [gC false [], gC true []], by exact wI, rfl, rfl⟩
    · (repeat (first | refine aC ?_ | refine aK ?_ | refine ⟨fun _ => ?_, fun h => absurd h (by decide)⟩ | refine ⟨fun h => absurd h (by decide), fun _ => ?_⟩))
      exact ⟨some, .t (.a (.s (.slc 1 0 0))), [gC false [], gC true []], by exact wI, rfl, rfl⟩
  | succ m =>
    have hl := recList_len kG xs
    have ht : List.take ((m + 1) * ti50.size) (List.drop 0 (recList kG xs)) = recList kG xs := by
      rw [siz50, List.drop_zero]
      exact List.take_of_length_le (by omega)
    (repeat (first | refine aC ?_ | refine aK ?_ | refine ⟨fun _ => ?_, fun h => absurd h (by decide)⟩ | refine ⟨fun h => absurd h (by decide), fun _ => ?_⟩))
    refine And.intro ?_ ?_
    · exact and_t (and_t (and_t (and_t (and_t (decide_eq_true (by rw [siz50]; omega)) (by rw [ht]; exact recList_one kG xs)) rfl) rfl) (decide_eq_true siz50.symm)) (apG_t rfl (Nat.succ_pos m) hn rfl rfl rfl rfl)
    · (repeat (first | refine aC ?_ | refine aK ?_ | refine ⟨fun _ => ?_, fun h => absurd h (by decide)⟩ | refine ⟨fun h => absurd h (by decide), fun _ => ?_⟩))
      have ha : repl 0 (List.map A.val ti50.zero) ++ List.take ((m + 1) * ti50.size) (List.drop 0 (recList kG xs)) = recList kG xs := by rw [ht]; rfl
      rw [ha]
      generalize hg : 0 + lenOf _ = g
      obtain rfl : g = m + 1 := by
        rw [← hg]
        exact Nat.zero_add (m + 1)
      have hp := rec_plain (fun i => match i with | 0 => some 0 | 1 => some 2 | _ => none) 2 xs
      refine ⟨(fun i => match i with | 0 => some 0 | 1 => some 2 | _ => none), .t (.a (.s (.slc 1 0 (m + 1)))), [gC false xs, gC true xs], ⟨⟨rfl, ⟨rfl, rfl⟩, Nat.le_of_ble_eq_true rfl⟩, ?_, ?_⟩, rfl, rfl⟩
      · (repeat (first | exact trivial | refine ⟨⟨rfl, .inr rfl⟩, ?_⟩ | (refine ⟨⟨rfl, .inr ?_⟩, ?_⟩; · rfl)))
      · exact ⟨⟨fun h => (by cases h), rfl, rfl, fun h => (by cases h), hp.2, congrArg Body.cells hp.1.symm⟩, ⟨fun _ => rfl, rfl, rfl, fun h => (by cases h), hp.2, congrArg Body.cells hp.1.symm⟩, trivial⟩
theorem cloneG_c (n : Nat) (xs : List Int) (hx : n * 9 = xs.length) (hn : n ≤ 128) : CallA Try.prog 59 [.t (.a (.s (.slc 0 0 n)))] [gQ false xs] (fun w H => w = .t (.a (.s (.slc 1 0 n))) ∧ H = [gQ false xs, gQ true xs]) := view_call (cloneC_c n xs hx hn)
set_option maxRecDepth 20000 in
theorem copy_c (d : Int) (n : Nat) (xs : List Int) (m : Nat) (es : List Int) (hx : n * 9 = xs.length) (hn : n ≤ 128) (he : m * 4 = es.length) (hm : m ≤ 4096) : CallA Try.prog 23 [.t (.a (.s (.ptr 0 0)))] (bookR false d n xs m es)
    (fun w H => w = .t (.a (.s (.ptr 3 0))) ∧ H = bookR false d n xs m es ++ [⟨true, true, 45, 1, .cells [.s (.v (.bool true)), .s (.v (.int .i64 d)), .s (.slc 4 0 n), .s (.slc 5 0 m)]⟩, gQ true xs, entB true es]) := by
  refine call_of_vc TYok mixedO Try.func23 rfl rfl (Nat.le_of_ble_eq_true rfl) ?_
  (repeat (first | refine aC ?_ | refine aK ?_ | refine ⟨fun _ => ?_, fun h => absurd h (by decide)⟩ | refine ⟨fun h => absurd h (by decide), fun _ => ?_⟩))
  (refine call_lift (isMade_c d n xs m es) (fun i => match i with | 0 => some 0 | 1 => some 1 | 2 => some 2 | _ => none) rfl rfl hI rfl rfl rfl ?_; rintro v H1 ⟨rfl, rfl⟩; refine ⟨⟨rfl, rfl, rfl, rfl⟩, ?_⟩; (try simp only [two]); (try simp only [AV.ren]); (try simp only [renT]); (try simp only [AT.ren]); (try simp only [A.ren]); (try (rw [ptr_ren]; rotate_left; exact rfl)); (try (rw [slc_ren]; rotate_left; exact rfl)); (try simp only [S.ren]))
  (repeat (first | refine aC ?_ | refine ⟨fun _ => ?_, fun h => absurd h (by decide)⟩ | refine ⟨fun h => absurd h (by decide), fun _ => ?_⟩))
  refine cut_rule [(0, .t (.a (.s (.ptr 0 0))))] (bookR false d n xs m es) some (by exact wI) ?_
  (refine drawn_rule TYok mixedO [] [(true, 0, []), (true, 1, []), (true, 2, []), (true, 3, []), (true, 4, []), (true, 5, []), (true, 6, []), (true, 7, []), (true, 9, []), (true, 10, []), (true, 11, []), (true, 12, []), (false, 8, []), (false, 13, []), (true, 14, []), (false, 15, []), (true, 16, [])] (by kernel_rfl) ?_)
  (repeat (first | refine aC ?_ | refine aK ?_ | refine ⟨fun _ => ?_, fun h => absurd h (by decide)⟩ | refine ⟨fun h => absurd h (by decide), fun _ => ?_⟩))
  (refine call_lift (cloneG_c n xs hx hn) (fun i => match i with | 0 => some 1 | _ => none) rfl rfl hI rfl rfl rfl ?_; rintro v H1 ⟨rfl, rfl⟩; refine ⟨⟨rfl, rfl, rfl, rfl⟩, ?_⟩; (try simp only [two]); (try simp only [AV.ren]); (try simp only [renT]); (try simp only [AT.ren]); (try simp only [A.ren]); (try (rw [ptr_ren]; rotate_left; exact rfl)); (try (rw [slc_ren]; rotate_left; exact rfl)); (try simp only [S.ren]))
  refine And.intro ?_ ?_
  · refine bkP ?_
    rfl
  (repeat (first | refine aC ?_ | refine aK ?_ | refine ⟨fun _ => ?_, fun h => absurd h (by decide)⟩ | refine ⟨fun h => absurd h (by decide), fun _ => ?_⟩))
  (refine call_lift (cloneE_c m es he hm) (fun i => match i with | 0 => some 2 | _ => none) rfl rfl hI rfl rfl rfl ?_; rintro v H1 ⟨rfl, rfl⟩; refine ⟨⟨rfl, rfl, rfl, rfl⟩, ?_⟩; (try simp only [two]); (try simp only [AV.ren]); (try simp only [renT]); (try simp only [AT.ren]); (try simp only [A.ren]); (try (rw [ptr_ren]; rotate_left; exact rfl)); (try (rw [slc_ren]; rotate_left; exact rfl)); (try simp only [S.ren]))
  refine And.intro ?_ ?_
  · refine bkP ?_
    rfl
  (repeat (first | refine aC ?_ | refine aK ?_ | refine ⟨fun _ => ?_, fun h => absurd h (by decide)⟩ | refine ⟨fun h => absurd h (by decide), fun _ => ?_⟩))
  exact ⟨(fun i => match i with | 0 => some 0 | 1 => some 1 | 2 => some 2 | 3 => some 5 | 4 => some 3 | 5 => some 4 | _ => none), .t (.a (.s (.ptr 3 0))), bookR false d n xs m es ++ [⟨true, true, 45, 1, .cells [.s (.v (.bool true)), .s (.v (.int .i64 d)), .s (.slc 4 0 n), .s (.slc 5 0 m)]⟩, gQ true xs, entB true es], by exact wI, rfl, rfl⟩
end Go.Proofs.Ytlbgkfidpkbafaa
/- A copy is as the book was, and apart from it. -/
namespace Go.Proofs.Ytlbgkfidpkbafaa
open Go.RowKit
set_option linter.unusedSimpArgs false
set_option linter.unusedVariables false
abbrev varN (X Y : Nat) (s : St) : Blk := ⟨true, true, 30, 1, .cells [.s (.slc X 0 s.n), .s (.slc Y 0 s.m), .s (.v (.int .i64 s.d))]⟩
def PlPost (ys : List Int) (N : Nat) (w : AV) (H : AH) : Prop := ∃ g, Rf (runS ys N) g ∧ w = tupOf [.a (.s (.ptr 1 0)), refN 4 5 (runS ys N).n (runS ys N).m (runS ys N).d, booA true] ∧ H = actsB ys :: heap1 true (runS ys N) ++ [gsB g, entB true (runS ys N).es]
set_option maxRecDepth 20000 in
set_option maxHeartbeats 16000000 in
theorem played_c (N : Nat) (ys : List Int) (hy : N * 11 = ys.length) (hN : N ≤ 40) (hk : ∀ j, j < N → 0 ≤ ys.getD (j * 11) 0) : CallA Try.prog 19 [.t (.a (.s (.slc 0 0 N)))] [actsB ys] (PlPost ys N) := by
  refine call_of_vc TYok mixedO Try.func19 rfl rfl (Nat.le_of_ble_eq_true rfl) ?_
  (repeat (first | refine aC ?_ | refine aK ?_ | refine ⟨fun _ => ?_, fun h => absurd h (by decide)⟩ | refine ⟨fun h => absurd h (by decide), fun _ => ?_⟩))
  (refine call_lift (new_c) (fun i => match i with | 0 => none | _ => none) rfl rfl hI rfl rfl rfl ?_; rintro v H1 ⟨rfl, rfl⟩; refine ⟨⟨rfl, rfl, rfl, rfl⟩, ?_⟩; (try simp only [two]); (try simp only [AV.ren]); (try simp only [renT]); (try simp only [AT.ren]); (try simp only [A.ren]); (try (rw [ptr_ren]; rotate_left; exact rfl)); (try (rw [slc_ren]; rotate_left; exact rfl)); (try simp only [S.ren]))
  (repeat (first | refine aC ?_ | refine aK ?_ | refine ⟨fun _ => ?_, fun h => absurd h (by decide)⟩ | refine ⟨fun h => absurd h (by decide), fun _ => ?_⟩))
  refine loop_rule TYok mixedO (ι := Nat × List Int) (fun q => [(0, .t (.a (.s (.slc 0 0 N)))), (3, .t (.a (.s (.ptr 7 0)))), (5, .t (.a (.s (.ptr 1 0)))), (6, .t (.a (.s (.ptr 4 0)))), (7, .boo true), (8, .int .i64 (q.1 : Int))]) (fun q => actsB ys :: heap1 true (runS ys q.1) ++ [varR (runS ys q.1), gsB q.2, entB true (runS ys q.1).es, boxZ]) (fun q => q.1 ≤ N ∧ Rf (runS ys q.1) q.2) (fun q => N - q.1) (0, []) ⟨Nat.zero_le _, Rf_0 ys⟩ (fun i => match i with | 0 => some 0 | 1 => some 2 | 4 => some 3 | 7 => some 1 | _ => none) (by exact wI) ?_
  rintro ⟨j, g⟩ ⟨hj, hr⟩
  dsimp only at hj hr ⊢
  (repeat (first | refine aC ?_ | refine aK ?_ | refine ⟨fun _ => ?_, fun h => absurd h (by decide)⟩ | refine ⟨fun h => absurd h (by decide), fun _ => ?_⟩))
  refine ⟨fun h => ?_, fun h => ?_⟩
  · have h := of_decide_eq_true h
    have hlt : j < N := by omega
    have h0 : 0 ≤ (acAt ys j).k := hk j hlt
    have e1 : 0 + ((j : Nat) : Int).toNat * ti35.size = j * 11 := by
      rw [siz35]
      simp
    (repeat (first | refine aC ?_ | refine ⟨fun _ => ?_, fun h => absurd h (by decide)⟩ | refine ⟨fun h => absurd h (by decide), fun _ => ?_⟩))
    refine cut_rule [(0, .t (.a (.s (.slc 0 0 N)))), (3, .t (.a (.s (.ptr 7 0)))), (5, .t (.a (.s (.ptr 1 0)))), (6, .t (.a (.s (.ptr 4 0)))), (8, .int .i64 (j : Int))] (actsB ys :: heap1 true (runS ys j) ++ [varR (runS ys j), gsB g, entB true (runS ys j).es, boxZ]) some (by exact wI) ?_
    (refine drawn_rule TYok mixedO [(1, 6), (2, 6), (3, 6), (4, 10)] [(true, 0, []), (true, 1, []), (true, 2, []), (true, 3, []), (true, 4, []), (true, 5, []), (false, 6, [1, 2, 3]), (true, 7, [1, 2, 3]), (true, 8, [1, 2, 3]), (true, 9, [1, 2, 3, 4]), (false, 10, [1, 2, 3, 4]), (true, 11, [1, 2, 3, 4])] (by kernel_rfl) ?_)
    (repeat (first | refine aC ?_ | refine aK ?_ | refine ⟨fun _ => ?_, fun h => absurd h (by decide)⟩ | refine ⟨fun h => absurd h (by decide), fun _ => ?_⟩))
    rw [e1]
    refine And.intro (rec11_t hlt hy rfl rfl) ?_
    (repeat (first | refine aC ?_ | refine aK ?_ | refine ⟨fun _ => ?_, fun h => absurd h (by decide)⟩ | refine ⟨fun h => absurd h (by decide), fun _ => ?_⟩))
    have hD := do_c (runS ys j) g hr (acAt ys j) h0
    obtain ⟨s', es'⟩ : ∃ s', (actS (runS ys j) (acAt ys j)).1 = s' := ⟨_, rfl⟩
    have hst : runS ys (j + 1) = s' := es'
    rw [es'] at hD
    clear es'
    (refine call_lift (hD) (fun i => match i with | 0 => some 1 | 1 => some 2 | 2 => some 3 | 3 => some 5 | 4 => some 6 | _ => none) rfl rfl hI rfl rfl rfl ?_)
    rintro v H1 ⟨g', hR', (⟨hs', hg', rfl, rfl⟩ | ⟨hs', hg', rfl, rfl⟩ | ⟨hs', hg', rfl, rfl⟩ | ⟨rfl, rfl⟩ | ⟨rfl, rfl⟩ | ⟨rfl, rfl⟩)⟩
    · refine ⟨⟨rfl, rfl, rfl, rfl⟩, ?_⟩
      subst hs' hg'
      ((try simp only [two]); (try simp only [AV.ren]); (try simp only [renT]); (try simp only [AT.ren]); (try simp only [A.ren]); (try (rw [ptr_ren]; rotate_left; exact rfl)); (try (rw [slc_ren]; rotate_left; exact rfl)); (try simp only [S.ren]))
      refine And.intro ?_ ?_
      · refine bkP ?_
        rfl
      (repeat (first | refine aC ?_ | refine aK ?_ | refine ⟨fun _ => ?_, fun h => absurd h (by decide)⟩ | refine ⟨fun h => absurd h (by decide), fun _ => ?_⟩))
      exact ⟨(j + 1, g'), ⟨hlt, by rw [hst]; exact hR'⟩, by show N - (j + 1) < N - j; omega, (fun i => match i with | 0 => some 0 | 1 => some 1 | 2 => some 2 | 3 => some 3 | 4 => some 4 | 5 => some 5 | 6 => some 6 | 7 => some 7 | _ => none), by dsimp only; simp only [hst]; exact wI⟩
    · refine ⟨⟨rfl, rfl, rfl, rfl⟩, ?_⟩
      subst hs' hg'
      ((try simp only [two]); (try simp only [AV.ren]); (try simp only [renT]); (try simp only [AT.ren]); (try simp only [A.ren]); (try (rw [ptr_ren]; rotate_left; exact rfl)); (try (rw [slc_ren]; rotate_left; exact rfl)); (try simp only [S.ren]))
      refine And.intro ?_ ?_
      · refine bkP ?_
        rfl
      (repeat (first | refine aC ?_ | refine aK ?_ | refine ⟨fun _ => ?_, fun h => absurd h (by decide)⟩ | refine ⟨fun h => absurd h (by decide), fun _ => ?_⟩))
      exact ⟨(j + 1, g'), ⟨hlt, by rw [hst]; exact hR'⟩, by show N - (j + 1) < N - j; omega, (fun i => match i with | 0 => some 0 | 1 => some 1 | 2 => some 8 | 3 => some 3 | 4 => some 4 | 5 => some 5 | 6 => some 6 | 7 => some 7 | _ => none), by dsimp only; simp only [hst]; exact wI⟩
    · refine ⟨⟨rfl, rfl, rfl, rfl⟩, ?_⟩
      subst hs' hg'
      ((try simp only [two]); (try simp only [AV.ren]); (try simp only [renT]); (try simp only [AT.ren]); (try simp only [A.ren]); (try (rw [ptr_ren]; rotate_left; exact rfl)); (try (rw [slc_ren]; rotate_left; exact rfl)); (try simp only [S.ren]))
      refine And.intro ?_ ?_
      · refine bkP ?_
        rfl
      (repeat (first | refine aC ?_ | refine aK ?_ | refine ⟨fun _ => ?_, fun h => absurd h (by decide)⟩ | refine ⟨fun h => absurd h (by decide), fun _ => ?_⟩))
      exact ⟨(j + 1, g'), ⟨hlt, by rw [hst]; exact hR'⟩, by show N - (j + 1) < N - j; omega, (fun i => match i with | 0 => some 0 | 1 => some 1 | 2 => some 2 | 3 => some 8 | 4 => some 4 | 5 => some 5 | 6 => some 6 | 7 => some 7 | _ => none), by dsimp only; simp only [hst]; exact wI⟩
    · refine ⟨⟨rfl, rfl, rfl, rfl⟩, ?_⟩
      ((try simp only [two]); (try simp only [AV.ren]); (try simp only [renT]); (try simp only [AT.ren]); (try simp only [A.ren]); (try (rw [ptr_ren]; rotate_left; exact rfl)); (try (rw [slc_ren]; rotate_left; exact rfl)); (try simp only [S.ren]))
      refine And.intro ?_ ?_
      · refine bkP ?_
        rfl
      (repeat (first | refine aC ?_ | refine aK ?_ | refine ⟨fun _ => ?_, fun h => absurd h (by decide)⟩ | refine ⟨fun h => absurd h (by decide), fun _ => ?_⟩))
      exact ⟨(j + 1, g'), ⟨hlt, by rw [hst]; exact hR'⟩, by show N - (j + 1) < N - j; omega, (fun i => match i with | 0 => some 0 | 1 => some 1 | 2 => some 2 | 3 => some 3 | 4 => some 4 | 5 => some 8 | 6 => some 9 | 7 => some 7 | _ => none), by dsimp only; simp only [hst]; exact wI⟩
    · refine ⟨⟨rfl, rfl, rfl, rfl⟩, ?_⟩
      ((try simp only [two]); (try simp only [AV.ren]); (try simp only [renT]); (try simp only [AT.ren]); (try simp only [A.ren]); (try (rw [ptr_ren]; rotate_left; exact rfl)); (try (rw [slc_ren]; rotate_left; exact rfl)); (try simp only [S.ren]))
      refine And.intro ?_ ?_
      · refine bkP ?_
        rfl
      (repeat (first | refine aC ?_ | refine aK ?_ | refine ⟨fun _ => ?_, fun h => absurd h (by decide)⟩ | refine ⟨fun h => absurd h (by decide), fun _ => ?_⟩))
      exact ⟨(j + 1, g'), ⟨hlt, by rw [hst]; exact hR'⟩, by show N - (j + 1) < N - j; omega, (fun i => match i with | 0 => some 0 | 1 => some 1 | 2 => some 8 | 3 => some 3 | 4 => some 4 | 5 => some 9 | 6 => some 10 | 7 => some 7 | _ => none), by dsimp only; simp only [hst]; exact wI⟩
    · refine ⟨⟨rfl, rfl, rfl, rfl⟩, ?_⟩
      ((try simp only [two]); (try simp only [AV.ren]); (try simp only [renT]); (try simp only [AT.ren]); (try simp only [A.ren]); (try (rw [ptr_ren]; rotate_left; exact rfl)); (try (rw [slc_ren]; rotate_left; exact rfl)); (try simp only [S.ren]))
      refine And.intro ?_ ?_
      · refine bkP ?_
        rfl
      (repeat (first | refine aC ?_ | refine aK ?_ | refine ⟨fun _ => ?_, fun h => absurd h (by decide)⟩ | refine ⟨fun h => absurd h (by decide), fun _ => ?_⟩))
      exact ⟨(j + 1, g'), ⟨hlt, by rw [hst]; exact hR'⟩, by show N - (j + 1) < N - j; omega, (fun i => match i with | 0 => some 0 | 1 => some 1 | 2 => some 2 | 3 => some 8 | 4 => some 4 | 5 => some 9 | 6 => some 10 | 7 => some 7 | _ => none), by dsimp only; simp only [hst]; exact wI⟩
  · have h := of_decide_eq_false h
    obtain rfl : j = N := by omega
    (repeat (first | refine aC ?_ | refine ⟨fun _ => ?_, fun h => absurd h (by decide)⟩ | refine ⟨fun h => absurd h (by decide), fun _ => ?_⟩))
    refine cut_rule [(3, .t (.a (.s (.ptr 7 0)))), (5, .t (.a (.s (.ptr 1 0)))), (6, .t (.a (.s (.ptr 4 0)))), (7, .boo true)] (actsB ys :: heap1 true (runS ys j) ++ [varR (runS ys j), gsB g, entB true (runS ys j).es, boxZ]) some (by exact wI) ?_
    (refine drawn_rule TYok mixedO [(7, 4)] [(true, 0, []), (true, 1, []), (true, 2, [7]), (true, 3, []), (false, 4, [7]), (true, 5, [7])] (by kernel_rfl) ?_)
    (repeat (first | refine aC ?_ | refine aK ?_ | refine ⟨fun _ => ?_, fun h => absurd h (by decide)⟩ | refine ⟨fun h => absurd h (by decide), fun _ => ?_⟩))
    exact ⟨(fun i => match i with | 0 => some 0 | 1 => some 1 | 2 => some 2 | 3 => some 3 | 4 => some 5 | 5 => some 6 | _ => none), tupOf [.a (.s (.ptr 1 0)), refN 4 5 (runS ys j).n (runS ys j).m (runS ys j).d, booA true], actsB ys :: heap1 true (runS ys j) ++ [gsB g, entB true (runS ys j).es], by exact wI, g, hr, rfl, rfl⟩
set_option maxRecDepth 20000 in
set_option maxHeartbeats 16000000 in
theorem law5 (N : Nat) (ys : List Int) (hy : N * 11 = ys.length) (hk : ∀ j, j < N → 0 ≤ ys.getD (j * 11) 0) (M : Nat) (zs : List Int) (hz : M * 11 = zs.length) (hkz : ∀ j, j < M → 0 ≤ zs.getD (j * 11) 0) (K : Nat) (vs : List Int) (hv : K * 11 = vs.length) (hkv : ∀ j, j < K → 0 ≤ vs.getD (j * 11) 0) :
    CallA Try.prog 5 [.t (.a (.s (.slc 0 0 N))), .t (.a (.s (.slc 1 0 M))), .t (.a (.s (.slc 2 0 K)))] [actsB ys, actsB zs, actsB vs] (fun w H => w = .boo true ∧ H = [actsB ys, actsB zs, actsB vs]) := by
  refine call_of_vc TYok mixedO Try.func5 rfl rfl (Nat.le_of_ble_eq_true rfl) ?_
  have cs : ∀ X : Nat, (X ≤ 40 ∧ (!decide ((X : Int) ≤ 40)) = false) ∨ (¬ X ≤ 40 ∧ (!decide ((X : Int) ≤ 40)) = true) := fun X => by
    by_cases h : X ≤ 40
    · exact .inl ⟨h, by rw [decide_eq_true (by omega)]; rfl⟩
    · exact .inr ⟨h, by rw [decide_eq_false (by omega)]; rfl⟩
  (repeat (first | refine aC ?_ | refine aK ?_ | refine ⟨fun _ => ?_, fun h => absurd h (by decide)⟩ | refine ⟨fun h => absurd h (by decide), fun _ => ?_⟩))
  (refine call_lift (few_c N ys) (fun i => match i with | 0 => some 0 | _ => none) rfl rfl hI rfl rfl rfl ?_; rintro v H1 ⟨rfl, rfl⟩; refine ⟨⟨rfl, rfl, rfl, rfl⟩, ?_⟩; (try simp only [two]); (try simp only [AV.ren]); (try simp only [renT]); (try simp only [AT.ren]); (try simp only [A.ren]); (try (rw [ptr_ren]; rotate_left; exact rfl)); (try (rw [slc_ren]; rotate_left; exact rfl)); (try simp only [S.ren]))
  (repeat (first | refine aC ?_ | refine aK ?_ | refine ⟨fun _ => ?_, fun h => absurd h (by decide)⟩ | refine ⟨fun h => absurd h (by decide), fun _ => ?_⟩))
  rcases cs N with ⟨hN, q1⟩ | ⟨hN, q1⟩
  · (first | refine brTT (q1) ?_ | refine brTF (q1) ?_ | refine brFT (q1) ?_ | refine brFF (q1) ?_)
    (repeat (first | refine aC ?_ | refine aK ?_ | refine ⟨fun _ => ?_, fun h => absurd h (by decide)⟩ | refine ⟨fun h => absurd h (by decide), fun _ => ?_⟩))
    (refine call_lift (few_c M zs) (fun i => match i with | 0 => some 1 | _ => none) rfl rfl hI rfl rfl rfl ?_; rintro v H1 ⟨rfl, rfl⟩; refine ⟨⟨rfl, rfl, rfl, rfl⟩, ?_⟩; (try simp only [two]); (try simp only [AV.ren]); (try simp only [renT]); (try simp only [AT.ren]); (try simp only [A.ren]); (try (rw [ptr_ren]; rotate_left; exact rfl)); (try (rw [slc_ren]; rotate_left; exact rfl)); (try simp only [S.ren]))
    (repeat (first | refine aC ?_ | refine aK ?_ | refine ⟨fun _ => ?_, fun h => absurd h (by decide)⟩ | refine ⟨fun h => absurd h (by decide), fun _ => ?_⟩))
    rcases cs M with ⟨hM, q2⟩ | ⟨hM, q2⟩
    · (first | refine brTT (q2) ?_ | refine brTF (q2) ?_ | refine brFT (q2) ?_ | refine brFF (q2) ?_)
      (repeat (first | refine aC ?_ | refine aK ?_ | refine ⟨fun _ => ?_, fun h => absurd h (by decide)⟩ | refine ⟨fun h => absurd h (by decide), fun _ => ?_⟩))
      (refine call_lift (few_c K vs) (fun i => match i with | 0 => some 2 | _ => none) rfl rfl hI rfl rfl rfl ?_; rintro v H1 ⟨rfl, rfl⟩; refine ⟨⟨rfl, rfl, rfl, rfl⟩, ?_⟩; (try simp only [two]); (try simp only [AV.ren]); (try simp only [renT]); (try simp only [AT.ren]); (try simp only [A.ren]); (try (rw [ptr_ren]; rotate_left; exact rfl)); (try (rw [slc_ren]; rotate_left; exact rfl)); (try simp only [S.ren]))
      (repeat (first | refine aC ?_ | refine aK ?_ | refine ⟨fun _ => ?_, fun h => absurd h (by decide)⟩ | refine ⟨fun h => absurd h (by decide), fun _ => ?_⟩))
      rcases cs K with ⟨hK, q3⟩ | ⟨hK, q3⟩
      · (first | refine brTT (q3) ?_ | refine brTF (q3) ?_ | refine brFT (q3) ?_ | refine brFF (q3) ?_)
        (repeat (first | refine aC ?_ | refine aK ?_ | refine ⟨fun _ => ?_, fun h => absurd h (by decide)⟩ | refine ⟨fun h => absurd h (by decide), fun _ => ?_⟩))
        (refine call_lift (played_c N ys hy hN hk) (fun i => match i with | 0 => some 0 | _ => none) rfl rfl hI rfl rfl rfl ?_)
        rintro v H1 ⟨g0, hr0, rfl, rfl⟩
        refine ⟨⟨rfl, rfl, rfl, rfl⟩, ?_⟩
        ((try simp only [two]); (try simp only [AV.ren]); (try simp only [renT]); (try simp only [AT.ren]); (try simp only [A.ren]); (try (rw [ptr_ren]; rotate_left; exact rfl)); (try (rw [slc_ren]; rotate_left; exact rfl)); (try simp only [S.ren]))
        generalize runS ys N = s at *
        have hf := hr0.good.rng.wf
        (repeat (first | refine aC ?_ | refine aK ?_ | refine ⟨fun _ => ?_, fun h => absurd h (by decide)⟩ | refine ⟨fun h => absurd h (by decide), fun _ => ?_⟩))
        (refine call_lift (copy_c s.d s.n s.xs s.m s.es hf.len hf.few hr0.good.len hr0.good.few) (fun i => match i with | 0 => some 3 | 1 => some 4 | 2 => some 5 | _ => none) rfl rfl hI rfl rfl rfl ?_; rintro v H1 ⟨rfl, rfl⟩; refine ⟨⟨rfl, rfl, rfl, rfl⟩, ?_⟩; (try simp only [two]); (try simp only [AV.ren]); (try simp only [renT]); (try simp only [AT.ren]); (try simp only [A.ren]); (try (rw [ptr_ren]; rotate_left; exact rfl)); (try (rw [slc_ren]; rotate_left; exact rfl)); (try simp only [S.ren]))
        (repeat (first | refine aC ?_ | refine aK ?_ | refine ⟨fun _ => ?_, fun h => absurd h (by decide)⟩ | refine ⟨fun h => absurd h (by decide), fun _ => ?_⟩))
        refine loop_rule TYok mixedO (ι := Nat × List Int) (fun q => [(1, .t (.a (.s (.slc 1 0 M)))), (2, .t (.a (.s (.slc 2 0 K)))), (7, .t (.a (.s (.ptr 3 0)))), (8, .t (.a (.s (.ptr 8 0)))), (9, .boo true), (10, .t (.a (.s (.ptr 9 0)))), (11, .t (.a (.s (.ptr 12 0)))), (12, .int .i64 (q.1 : Int))]) (fun q => [actsB ys, actsB zs, actsB vs, bookX 4 5 s, xsB s, entB true s.es, gsR g0, enB s.es, varN 6 7 s, bookX 10 11 (runF s zs q.1), xsB (runF s zs q.1), entB true (runF s zs q.1).es, varN 13 14 (runF s zs q.1), gsR q.2, enB (runF s zs q.1).es]) (fun q => q.1 ≤ M ∧ Rf (runF s zs q.1) q.2) (fun q => M - q.1) (0, g0) ⟨Nat.zero_le _, hr0⟩ (fun i => match i with | 0 => some 0 | 1 => some 1 | 2 => some 2 | 3 => some 3 | 4 => some 4 | 5 => some 5 | 6 => some 6 | 7 => some 7 | 8 => some 8 | 9 => some 9 | 10 => some 10 | 11 => some 11 | 12 => some 12 | 13 => some 6 | 14 => some 7 | _ => none) (by exact wI) ?_
        rintro ⟨j, g⟩ ⟨hj, hr⟩
        dsimp only at hj hr ⊢
        (repeat (first | refine aC ?_ | refine aK ?_ | refine ⟨fun _ => ?_, fun h => absurd h (by decide)⟩ | refine ⟨fun h => absurd h (by decide), fun _ => ?_⟩))
        refine ⟨fun h => ?_, fun h => ?_⟩
        · have h := of_decide_eq_true h
          have hlt : j < M := by omega
          have h0 : 0 ≤ (acAt zs j).k := hkz j hlt
          have e1 : 0 + ((j : Nat) : Int).toNat * ti35.size = j * 11 := by
            rw [siz35]
            simp
          (repeat (first | refine aC ?_ | refine ⟨fun _ => ?_, fun h => absurd h (by decide)⟩ | refine ⟨fun h => absurd h (by decide), fun _ => ?_⟩))
          refine cut_rule [(1, .t (.a (.s (.slc 1 0 M)))), (2, .t (.a (.s (.slc 2 0 K)))), (7, .t (.a (.s (.ptr 3 0)))), (8, .t (.a (.s (.ptr 8 0)))), (10, .t (.a (.s (.ptr 9 0)))), (11, .t (.a (.s (.ptr 12 0)))), (12, .int .i64 (j : Int))] [actsB ys, actsB zs, actsB vs, bookX 4 5 s, xsB s, entB true s.es, gsR g0, enB s.es, varN 6 7 s, bookX 10 11 (runF s zs j), xsB (runF s zs j), entB true (runF s zs j).es, varN 13 14 (runF s zs j), gsR g, enB (runF s zs j).es] some (by exact wI) ?_
          (refine drawn_rule TYok mixedO [(9, 6), (10, 6), (11, 6), (12, 10)] [(true, 0, []), (true, 1, []), (true, 2, []), (true, 3, []), (true, 4, []), (true, 5, []), (false, 6, [9, 10, 11]), (true, 7, [9, 10, 11]), (true, 8, [9, 10, 11]), (true, 9, [9, 10, 11, 12]), (false, 10, [9, 10, 11, 12]), (true, 11, [9, 10, 11, 12])] (by kernel_rfl) ?_)
          (repeat (first | refine aC ?_ | refine aK ?_ | refine ⟨fun _ => ?_, fun h => absurd h (by decide)⟩ | refine ⟨fun h => absurd h (by decide), fun _ => ?_⟩))
          rw [e1]
          refine And.intro (rec11_t hlt hz rfl rfl) ?_
          (repeat (first | refine aC ?_ | refine aK ?_ | refine ⟨fun _ => ?_, fun h => absurd h (by decide)⟩ | refine ⟨fun h => absurd h (by decide), fun _ => ?_⟩))
          have hD := do_c (runF s zs j) g hr (acAt zs j) h0
          obtain ⟨s', es'⟩ : ∃ s', (actS (runF s zs j) (acAt zs j)).1 = s' := ⟨_, rfl⟩
          have hst : runF s zs (j + 1) = s' := es'
          rw [es'] at hD
          clear es'
          (refine call_lift (hD) (fun i => match i with | 0 => some 9 | 1 => some 10 | 2 => some 11 | 3 => some 13 | 4 => some 14 | _ => none) rfl rfl hI rfl rfl rfl ?_)
          rintro v H1 ⟨g', hR', (⟨hs', hg', rfl, rfl⟩ | ⟨hs', hg', rfl, rfl⟩ | ⟨hs', hg', rfl, rfl⟩ | ⟨rfl, rfl⟩ | ⟨rfl, rfl⟩ | ⟨rfl, rfl⟩)⟩
          · refine ⟨⟨rfl, rfl, rfl, rfl⟩, ?_⟩
            subst hs' hg'
            ((try simp only [two]); (try simp only [AV.ren]); (try simp only [renT]); (try simp only [AT.ren]); (try simp only [A.ren]); (try (rw [ptr_ren]; rotate_left; exact rfl)); (try (rw [slc_ren]; rotate_left; exact rfl)); (try simp only [S.ren]))
            refine And.intro ?_ ?_
            · refine bkP ?_
              rfl
            (repeat (first | refine aC ?_ | refine aK ?_ | refine ⟨fun _ => ?_, fun h => absurd h (by decide)⟩ | refine ⟨fun h => absurd h (by decide), fun _ => ?_⟩))
            exact ⟨(j + 1, g'), ⟨hlt, by rw [hst]; exact hR'⟩, by show M - (j + 1) < M - j; omega, (fun i => match i with | 0 => some 0 | 1 => some 1 | 2 => some 2 | 3 => some 3 | 4 => some 4 | 5 => some 5 | 6 => some 6 | 7 => some 7 | 8 => some 8 | 9 => some 9 | 10 => some 10 | 11 => some 11 | 12 => some 12 | 13 => some 13 | 14 => some 14 | _ => none), by dsimp only; simp only [hst]; exact wI⟩
          · refine ⟨⟨rfl, rfl, rfl, rfl⟩, ?_⟩
            subst hs' hg'
            ((try simp only [two]); (try simp only [AV.ren]); (try simp only [renT]); (try simp only [AT.ren]); (try simp only [A.ren]); (try (rw [ptr_ren]; rotate_left; exact rfl)); (try (rw [slc_ren]; rotate_left; exact rfl)); (try simp only [S.ren]))
            refine And.intro ?_ ?_
            · refine bkP ?_
              rfl
            (repeat (first | refine aC ?_ | refine aK ?_ | refine ⟨fun _ => ?_, fun h => absurd h (by decide)⟩ | refine ⟨fun h => absurd h (by decide), fun _ => ?_⟩))
            exact ⟨(j + 1, g'), ⟨hlt, by rw [hst]; exact hR'⟩, by show M - (j + 1) < M - j; omega, (fun i => match i with | 0 => some 0 | 1 => some 1 | 2 => some 2 | 3 => some 3 | 4 => some 4 | 5 => some 5 | 6 => some 6 | 7 => some 7 | 8 => some 8 | 9 => some 9 | 10 => some 15 | 11 => some 11 | 12 => some 12 | 13 => some 13 | 14 => some 14 | _ => none), by dsimp only; simp only [hst]; exact wI⟩
          · refine ⟨⟨rfl, rfl, rfl, rfl⟩, ?_⟩
            subst hs' hg'
            ((try simp only [two]); (try simp only [AV.ren]); (try simp only [renT]); (try simp only [AT.ren]); (try simp only [A.ren]); (try (rw [ptr_ren]; rotate_left; exact rfl)); (try (rw [slc_ren]; rotate_left; exact rfl)); (try simp only [S.ren]))
            refine And.intro ?_ ?_
            · refine bkP ?_
              rfl
            (repeat (first | refine aC ?_ | refine aK ?_ | refine ⟨fun _ => ?_, fun h => absurd h (by decide)⟩ | refine ⟨fun h => absurd h (by decide), fun _ => ?_⟩))
            exact ⟨(j + 1, g'), ⟨hlt, by rw [hst]; exact hR'⟩, by show M - (j + 1) < M - j; omega, (fun i => match i with | 0 => some 0 | 1 => some 1 | 2 => some 2 | 3 => some 3 | 4 => some 4 | 5 => some 5 | 6 => some 6 | 7 => some 7 | 8 => some 8 | 9 => some 9 | 10 => some 10 | 11 => some 15 | 12 => some 12 | 13 => some 13 | 14 => some 14 | _ => none), by dsimp only; simp only [hst]; exact wI⟩
          · refine ⟨⟨rfl, rfl, rfl, rfl⟩, ?_⟩
            ((try simp only [two]); (try simp only [AV.ren]); (try simp only [renT]); (try simp only [AT.ren]); (try simp only [A.ren]); (try (rw [ptr_ren]; rotate_left; exact rfl)); (try (rw [slc_ren]; rotate_left; exact rfl)); (try simp only [S.ren]))
            refine And.intro ?_ ?_
            · refine bkP ?_
              rfl
            (repeat (first | refine aC ?_ | refine aK ?_ | refine ⟨fun _ => ?_, fun h => absurd h (by decide)⟩ | refine ⟨fun h => absurd h (by decide), fun _ => ?_⟩))
            exact ⟨(j + 1, g'), ⟨hlt, by rw [hst]; exact hR'⟩, by show M - (j + 1) < M - j; omega, (fun i => match i with | 0 => some 0 | 1 => some 1 | 2 => some 2 | 3 => some 3 | 4 => some 4 | 5 => some 5 | 6 => some 6 | 7 => some 7 | 8 => some 8 | 9 => some 9 | 10 => some 10 | 11 => some 11 | 12 => some 12 | 13 => some 15 | 14 => some 16 | _ => none), by dsimp only; simp only [hst]; exact wI⟩
          · refine ⟨⟨rfl, rfl, rfl, rfl⟩, ?_⟩
            ((try simp only [two]); (try simp only [AV.ren]); (try simp only [renT]); (try simp only [AT.ren]); (try simp only [A.ren]); (try (rw [ptr_ren]; rotate_left; exact rfl)); (try (rw [slc_ren]; rotate_left; exact rfl)); (try simp only [S.ren]))
            refine And.intro ?_ ?_
            · refine bkP ?_
              rfl
            (repeat (first | refine aC ?_ | refine aK ?_ | refine ⟨fun _ => ?_, fun h => absurd h (by decide)⟩ | refine ⟨fun h => absurd h (by decide), fun _ => ?_⟩))
            exact ⟨(j + 1, g'), ⟨hlt, by rw [hst]; exact hR'⟩, by show M - (j + 1) < M - j; omega, (fun i => match i with | 0 => some 0 | 1 => some 1 | 2 => some 2 | 3 => some 3 | 4 => some 4 | 5 => some 5 | 6 => some 6 | 7 => some 7 | 8 => some 8 | 9 => some 9 | 10 => some 15 | 11 => some 11 | 12 => some 12 | 13 => some 16 | 14 => some 17 | _ => none), by dsimp only; simp only [hst]; exact wI⟩
          · refine ⟨⟨rfl, rfl, rfl, rfl⟩, ?_⟩
            ((try simp only [two]); (try simp only [AV.ren]); (try simp only [renT]); (try simp only [AT.ren]); (try simp only [A.ren]); (try (rw [ptr_ren]; rotate_left; exact rfl)); (try (rw [slc_ren]; rotate_left; exact rfl)); (try simp only [S.ren]))
            refine And.intro ?_ ?_
            · refine bkP ?_
              rfl
            (repeat (first | refine aC ?_ | refine aK ?_ | refine ⟨fun _ => ?_, fun h => absurd h (by decide)⟩ | refine ⟨fun h => absurd h (by decide), fun _ => ?_⟩))
            exact ⟨(j + 1, g'), ⟨hlt, by rw [hst]; exact hR'⟩, by show M - (j + 1) < M - j; omega, (fun i => match i with | 0 => some 0 | 1 => some 1 | 2 => some 2 | 3 => some 3 | 4 => some 4 | 5 => some 5 | 6 => some 6 | 7 => some 7 | 8 => some 8 | 9 => some 9 | 10 => some 10 | 11 => some 15 | 12 => some 12 | 13 => some 16 | 14 => some 17 | _ => none), by dsimp only; simp only [hst]; exact wI⟩
        · have h := of_decide_eq_false h
          obtain rfl : j = M := by omega
          generalize runF s zs j = c at *
          (repeat (first | refine aC ?_ | refine aK ?_ | refine ⟨fun _ => ?_, fun h => absurd h (by decide)⟩ | refine ⟨fun h => absurd h (by decide), fun _ => ?_⟩))
          refine loop_rule TYok mixedO (ι := Nat × List Int) (fun q => [(2, .t (.a (.s (.slc 2 0 K)))), (7, .t (.a (.s (.ptr 3 0)))), (8, .t (.a (.s (.ptr 8 0)))), (9, .boo true), (10, .t (.a (.s (.ptr 9 0)))), (11, .t (.a (.s (.ptr 12 0)))), (13, .int .i64 (q.1 : Int))]) (fun q => [actsB ys, actsB zs, actsB vs, bookX 4 5 (runF s vs q.1), xsB (runF s vs q.1), entB true (runF s vs q.1).es, gsR q.2, enB (runF s vs q.1).es, varN 6 7 (runF s vs q.1), bookX 10 11 c, xsB c, entB true c.es, varN 13 14 c, gsR g, enB c.es]) (fun q => q.1 ≤ K ∧ Rf (runF s vs q.1) q.2) (fun q => K - q.1) (0, g0) ⟨Nat.zero_le _, hr0⟩ some (by exact wI) ?_
          rintro ⟨i, g2⟩ ⟨hi, hr2⟩
          dsimp only at hi hr2 ⊢
          (repeat (first | refine aC ?_ | refine aK ?_ | refine ⟨fun _ => ?_, fun h => absurd h (by decide)⟩ | refine ⟨fun h => absurd h (by decide), fun _ => ?_⟩))
          refine ⟨fun h => ?_, fun h => ?_⟩
          · have h := of_decide_eq_true h
            have hlt : i < K := by omega
            have h0 : 0 ≤ (acAt vs i).k := hkv i hlt
            have e1 : 0 + ((i : Nat) : Int).toNat * ti35.size = i * 11 := by
              rw [siz35]
              simp
            (repeat (first | refine aC ?_ | refine ⟨fun _ => ?_, fun h => absurd h (by decide)⟩ | refine ⟨fun h => absurd h (by decide), fun _ => ?_⟩))
            refine cut_rule [(2, .t (.a (.s (.slc 2 0 K)))), (7, .t (.a (.s (.ptr 3 0)))), (8, .t (.a (.s (.ptr 8 0)))), (10, .t (.a (.s (.ptr 9 0)))), (11, .t (.a (.s (.ptr 12 0)))), (13, .int .i64 (i : Int))] [actsB ys, actsB zs, actsB vs, bookX 4 5 (runF s vs i), xsB (runF s vs i), entB true (runF s vs i).es, gsR g2, enB (runF s vs i).es, varN 6 7 (runF s vs i), bookX 10 11 c, xsB c, entB true c.es, varN 13 14 c, gsR g, enB c.es] some (by exact wI) ?_
            (refine drawn_rule TYok mixedO [(3, 6), (4, 6), (5, 6), (8, 10)] [(true, 0, []), (true, 1, []), (true, 2, []), (true, 3, []), (true, 4, []), (true, 5, []), (false, 6, [3, 4, 5]), (true, 7, [3, 4, 5]), (true, 8, [3, 4, 5]), (true, 9, [3, 4, 5, 8]), (false, 10, [3, 4, 5, 8]), (true, 11, [3, 4, 5, 8])] (by kernel_rfl) ?_)
            (repeat (first | refine aC ?_ | refine aK ?_ | refine ⟨fun _ => ?_, fun h => absurd h (by decide)⟩ | refine ⟨fun h => absurd h (by decide), fun _ => ?_⟩))
            rw [e1]
            refine And.intro (rec11_t hlt hv rfl rfl) ?_
            (repeat (first | refine aC ?_ | refine aK ?_ | refine ⟨fun _ => ?_, fun h => absurd h (by decide)⟩ | refine ⟨fun h => absurd h (by decide), fun _ => ?_⟩))
            have hD := do_c (runF s vs i) g2 hr2 (acAt vs i) h0
            obtain ⟨s', es'⟩ : ∃ s', (actS (runF s vs i) (acAt vs i)).1 = s' := ⟨_, rfl⟩
            have hst : runF s vs (i + 1) = s' := es'
            rw [es'] at hD
            clear es'
            (refine call_lift (hD) (fun i => match i with | 0 => some 3 | 1 => some 4 | 2 => some 5 | 3 => some 6 | 4 => some 7 | _ => none) rfl rfl hI rfl rfl rfl ?_)
            rintro v H1 ⟨g', hR', (⟨hs', hg', rfl, rfl⟩ | ⟨hs', hg', rfl, rfl⟩ | ⟨hs', hg', rfl, rfl⟩ | ⟨rfl, rfl⟩ | ⟨rfl, rfl⟩ | ⟨rfl, rfl⟩)⟩
            · refine ⟨⟨rfl, rfl, rfl, rfl⟩, ?_⟩
              subst hs' hg'
              ((try simp only [two]); (try simp only [AV.ren]); (try simp only [renT]); (try simp only [AT.ren]); (try simp only [A.ren]); (try (rw [ptr_ren]; rotate_left; exact rfl)); (try (rw [slc_ren]; rotate_left; exact rfl)); (try simp only [S.ren]))
              refine And.intro ?_ ?_
              · refine bkP ?_
                rfl
              (repeat (first | refine aC ?_ | refine aK ?_ | refine ⟨fun _ => ?_, fun h => absurd h (by decide)⟩ | refine ⟨fun h => absurd h (by decide), fun _ => ?_⟩))
              exact ⟨(i + 1, g'), ⟨hlt, by rw [hst]; exact hR'⟩, by show K - (i + 1) < K - i; omega, (fun i => match i with | 0 => some 0 | 1 => some 1 | 2 => some 2 | 3 => some 3 | 4 => some 4 | 5 => some 5 | 6 => some 6 | 7 => some 7 | 8 => some 8 | 9 => some 9 | 10 => some 10 | 11 => some 11 | 12 => some 12 | 13 => some 13 | 14 => some 14 | _ => none), by dsimp only; simp only [hst]; exact wI⟩
            · refine ⟨⟨rfl, rfl, rfl, rfl⟩, ?_⟩
              subst hs' hg'
              ((try simp only [two]); (try simp only [AV.ren]); (try simp only [renT]); (try simp only [AT.ren]); (try simp only [A.ren]); (try (rw [ptr_ren]; rotate_left; exact rfl)); (try (rw [slc_ren]; rotate_left; exact rfl)); (try simp only [S.ren]))
              refine And.intro ?_ ?_
              · refine bkP ?_
                rfl
              (repeat (first | refine aC ?_ | refine aK ?_ | refine ⟨fun _ => ?_, fun h => absurd h (by decide)⟩ | refine ⟨fun h => absurd h (by decide), fun _ => ?_⟩))
              exact ⟨(i + 1, g'), ⟨hlt, by rw [hst]; exact hR'⟩, by show K - (i + 1) < K - i; omega, (fun i => match i with | 0 => some 0 | 1 => some 1 | 2 => some 2 | 3 => some 3 | 4 => some 15 | 5 => some 5 | 6 => some 6 | 7 => some 7 | 8 => some 8 | 9 => some 9 | 10 => some 10 | 11 => some 11 | 12 => some 12 | 13 => some 13 | 14 => some 14 | _ => none), by dsimp only; simp only [hst]; exact wI⟩
            · refine ⟨⟨rfl, rfl, rfl, rfl⟩, ?_⟩
              subst hs' hg'
              ((try simp only [two]); (try simp only [AV.ren]); (try simp only [renT]); (try simp only [AT.ren]); (try simp only [A.ren]); (try (rw [ptr_ren]; rotate_left; exact rfl)); (try (rw [slc_ren]; rotate_left; exact rfl)); (try simp only [S.ren]))
              refine And.intro ?_ ?_
              · refine bkP ?_
                rfl
              (repeat (first | refine aC ?_ | refine aK ?_ | refine ⟨fun _ => ?_, fun h => absurd h (by decide)⟩ | refine ⟨fun h => absurd h (by decide), fun _ => ?_⟩))
              exact ⟨(i + 1, g'), ⟨hlt, by rw [hst]; exact hR'⟩, by show K - (i + 1) < K - i; omega, (fun i => match i with | 0 => some 0 | 1 => some 1 | 2 => some 2 | 3 => some 3 | 4 => some 4 | 5 => some 15 | 6 => some 6 | 7 => some 7 | 8 => some 8 | 9 => some 9 | 10 => some 10 | 11 => some 11 | 12 => some 12 | 13 => some 13 | 14 => some 14 | _ => none), by dsimp only; simp only [hst]; exact wI⟩
            · refine ⟨⟨rfl, rfl, rfl, rfl⟩, ?_⟩
              ((try simp only [two]); (try simp only [AV.ren]); (try simp only [renT]); (try simp only [AT.ren]); (try simp only [A.ren]); (try (rw [ptr_ren]; rotate_left; exact rfl)); (try (rw [slc_ren]; rotate_left; exact rfl)); (try simp only [S.ren]))
              refine And.intro ?_ ?_
              · refine bkP ?_
                rfl
              (repeat (first | refine aC ?_ | refine aK ?_ | refine ⟨fun _ => ?_, fun h => absurd h (by decide)⟩ | refine ⟨fun h => absurd h (by decide), fun _ => ?_⟩))
              exact ⟨(i + 1, g'), ⟨hlt, by rw [hst]; exact hR'⟩, by show K - (i + 1) < K - i; omega, (fun i => match i with | 0 => some 0 | 1 => some 1 | 2 => some 2 | 3 => some 3 | 4 => some 4 | 5 => some 5 | 6 => some 15 | 7 => some 16 | 8 => some 8 | 9 => some 9 | 10 => some 10 | 11 => some 11 | 12 => some 12 | 13 => some 13 | 14 => some 14 | _ => none), by dsimp only; simp only [hst]; exact wI⟩
            · refine ⟨⟨rfl, rfl, rfl, rfl⟩, ?_⟩
              ((try simp only [two]); (try simp only [AV.ren]); (try simp only [renT]); (try simp only [AT.ren]); (try simp only [A.ren]); (try (rw [ptr_ren]; rotate_left; exact rfl)); (try (rw [slc_ren]; rotate_left; exact rfl)); (try simp only [S.ren]))
              refine And.intro ?_ ?_
              · refine bkP ?_
                rfl
              (repeat (first | refine aC ?_ | refine aK ?_ | refine ⟨fun _ => ?_, fun h => absurd h (by decide)⟩ | refine ⟨fun h => absurd h (by decide), fun _ => ?_⟩))
              exact ⟨(i + 1, g'), ⟨hlt, by rw [hst]; exact hR'⟩, by show K - (i + 1) < K - i; omega, (fun i => match i with | 0 => some 0 | 1 => some 1 | 2 => some 2 | 3 => some 3 | 4 => some 15 | 5 => some 5 | 6 => some 16 | 7 => some 17 | 8 => some 8 | 9 => some 9 | 10 => some 10 | 11 => some 11 | 12 => some 12 | 13 => some 13 | 14 => some 14 | _ => none), by dsimp only; simp only [hst]; exact wI⟩
            · refine ⟨⟨rfl, rfl, rfl, rfl⟩, ?_⟩
              ((try simp only [two]); (try simp only [AV.ren]); (try simp only [renT]); (try simp only [AT.ren]); (try simp only [A.ren]); (try (rw [ptr_ren]; rotate_left; exact rfl)); (try (rw [slc_ren]; rotate_left; exact rfl)); (try simp only [S.ren]))
              refine And.intro ?_ ?_
              · refine bkP ?_
                rfl
              (repeat (first | refine aC ?_ | refine aK ?_ | refine ⟨fun _ => ?_, fun h => absurd h (by decide)⟩ | refine ⟨fun h => absurd h (by decide), fun _ => ?_⟩))
              exact ⟨(i + 1, g'), ⟨hlt, by rw [hst]; exact hR'⟩, by show K - (i + 1) < K - i; omega, (fun i => match i with | 0 => some 0 | 1 => some 1 | 2 => some 2 | 3 => some 3 | 4 => some 4 | 5 => some 15 | 6 => some 16 | 7 => some 17 | 8 => some 8 | 9 => some 9 | 10 => some 10 | 11 => some 11 | 12 => some 12 | 13 => some 13 | 14 => some 14 | _ => none), by dsimp only; simp only [hst]; exact wI⟩
          · have h := of_decide_eq_false h
            obtain rfl : i = K := by omega
            generalize runF s vs i = b at *
            (repeat (first | refine aC ?_ | refine aK ?_ | refine ⟨fun _ => ?_, fun h => absurd h (by decide)⟩ | refine ⟨fun h => absurd h (by decide), fun _ => ?_⟩))
            (refine call_lift (shows_c c g hr) (fun i => match i with | 0 => some 9 | 1 => some 10 | 2 => some 11 | 3 => some 13 | 4 => some 14 | _ => none) rfl rfl hI rfl rfl rfl ?_; rintro v H1 ⟨rfl, rfl⟩; refine ⟨⟨rfl, rfl, rfl, rfl⟩, ?_⟩; (try simp only [two]); (try simp only [AV.ren]); (try simp only [renT]); (try simp only [AT.ren]); (try simp only [A.ren]); (try (rw [ptr_ren]; rotate_left; exact rfl)); (try (rw [slc_ren]; rotate_left; exact rfl)); (try simp only [S.ren]))
            (repeat (first | refine aC ?_ | refine aK ?_ | refine ⟨fun _ => ?_, fun h => absurd h (by decide)⟩ | refine ⟨fun h => absurd h (by decide), fun _ => ?_⟩))
            (refine call_lift (shows_c b g2 hr2) (fun i => match i with | 0 => some 3 | 1 => some 4 | 2 => some 5 | 3 => some 6 | 4 => some 7 | _ => none) rfl rfl hI rfl rfl rfl ?_; rintro v H1 ⟨rfl, rfl⟩; refine ⟨⟨rfl, rfl, rfl, rfl⟩, ?_⟩; (try simp only [two]); (try simp only [AV.ren]); (try simp only [renT]); (try simp only [AT.ren]); (try simp only [A.ren]); (try (rw [ptr_ren]; rotate_left; exact rfl)); (try (rw [slc_ren]; rotate_left; exact rfl)); (try simp only [S.ren]))
            (repeat (first | refine aC ?_ | refine aK ?_ | refine ⟨fun _ => ?_, fun h => absurd h (by decide)⟩ | refine ⟨fun h => absurd h (by decide), fun _ => ?_⟩))
            (refine call_lift (alive_c) (fun i => match i with | 0 => none | _ => none) rfl rfl hI rfl rfl rfl ?_; rintro v H1 ⟨rfl, rfl⟩; refine ⟨⟨rfl, rfl, rfl, rfl⟩, ?_⟩; (try simp only [two]); (try simp only [AV.ren]); (try simp only [renT]); (try simp only [AT.ren]); (try simp only [A.ren]); (try (rw [ptr_ren]; rotate_left; exact rfl)); (try (rw [slc_ren]; rotate_left; exact rfl)); (try simp only [S.ren]))
            (repeat (first | refine aC ?_ | refine aK ?_ | refine ⟨fun _ => ?_, fun h => absurd h (by decide)⟩ | refine ⟨fun h => absurd h (by decide), fun _ => ?_⟩))
            exact ⟨(fun i => match i with | 0 => some 0 | 1 => some 1 | 2 => some 2 | _ => none), .boo true, [actsB ys, actsB zs, actsB vs], by exact wI, rfl, rfl⟩
      · (first | refine brTT (q3) ?_ | refine brTF (q3) ?_ | refine brFT (q3) ?_ | refine brFF (q3) ?_)
        (repeat (first | refine aC ?_ | refine aK ?_ | refine ⟨fun _ => ?_, fun h => absurd h (by decide)⟩ | refine ⟨fun h => absurd h (by decide), fun _ => ?_⟩))
        (refine call_lift (alive_c) (fun i => match i with | 0 => none | _ => none) rfl rfl hI rfl rfl rfl ?_; rintro v H1 ⟨rfl, rfl⟩; refine ⟨⟨rfl, rfl, rfl, rfl⟩, ?_⟩; (try simp only [two]); (try simp only [AV.ren]); (try simp only [renT]); (try simp only [AT.ren]); (try simp only [A.ren]); (try (rw [ptr_ren]; rotate_left; exact rfl)); (try (rw [slc_ren]; rotate_left; exact rfl)); (try simp only [S.ren]))
        (repeat (first | refine aC ?_ | refine aK ?_ | refine ⟨fun _ => ?_, fun h => absurd h (by decide)⟩ | refine ⟨fun h => absurd h (by decide), fun _ => ?_⟩))
        exact ⟨(fun i => match i with | 0 => some 0 | 1 => some 1 | 2 => some 2 | _ => none), .boo true, [actsB ys, actsB zs, actsB vs], by exact wI, rfl, rfl⟩
    · (first | refine brTT (q2) ?_ | refine brTF (q2) ?_ | refine brFT (q2) ?_ | refine brFF (q2) ?_)
      (repeat (first | refine aC ?_ | refine aK ?_ | refine ⟨fun _ => ?_, fun h => absurd h (by decide)⟩ | refine ⟨fun h => absurd h (by decide), fun _ => ?_⟩))
      (refine call_lift (alive_c) (fun i => match i with | 0 => none | _ => none) rfl rfl hI rfl rfl rfl ?_; rintro v H1 ⟨rfl, rfl⟩; refine ⟨⟨rfl, rfl, rfl, rfl⟩, ?_⟩; (try simp only [two]); (try simp only [AV.ren]); (try simp only [renT]); (try simp only [AT.ren]); (try simp only [A.ren]); (try (rw [ptr_ren]; rotate_left; exact rfl)); (try (rw [slc_ren]; rotate_left; exact rfl)); (try simp only [S.ren]))
      (repeat (first | refine aC ?_ | refine aK ?_ | refine ⟨fun _ => ?_, fun h => absurd h (by decide)⟩ | refine ⟨fun h => absurd h (by decide), fun _ => ?_⟩))
      exact ⟨(fun i => match i with | 0 => some 0 | 1 => some 1 | 2 => some 2 | _ => none), .boo true, [actsB ys, actsB zs, actsB vs], by exact wI, rfl, rfl⟩
  · (first | refine brTT (q1) ?_ | refine brTF (q1) ?_ | refine brFT (q1) ?_ | refine brFF (q1) ?_)
    (repeat (first | refine aC ?_ | refine aK ?_ | refine ⟨fun _ => ?_, fun h => absurd h (by decide)⟩ | refine ⟨fun h => absurd h (by decide), fun _ => ?_⟩))
    (refine call_lift (alive_c) (fun i => match i with | 0 => none | _ => none) rfl rfl hI rfl rfl rfl ?_; rintro v H1 ⟨rfl, rfl⟩; refine ⟨⟨rfl, rfl, rfl, rfl⟩, ?_⟩; (try simp only [two]); (try simp only [AV.ren]); (try simp only [renT]); (try simp only [AT.ren]); (try simp only [A.ren]); (try (rw [ptr_ren]; rotate_left; exact rfl)); (try (rw [slc_ren]; rotate_left; exact rfl)); (try simp only [S.ren]))
    (repeat (first | refine aC ?_ | refine aK ?_ | refine ⟨fun _ => ?_, fun h => absurd h (by decide)⟩ | refine ⟨fun h => absurd h (by decide), fun _ => ?_⟩))
    exact ⟨(fun i => match i with | 0 => some 0 | 1 => some 1 | 2 => some 2 | _ => none), .boo true, [actsB ys, actsB zs, actsB vs], by exact wI, rfl, rfl⟩
end Go.Proofs.Ytlbgkfidpkbafaa
