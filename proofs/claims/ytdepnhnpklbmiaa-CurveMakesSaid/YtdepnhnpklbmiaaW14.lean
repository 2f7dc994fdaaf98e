/- The law of made curves. -/
import Derived.Test.YtdepnhnpklbmiaaE21
import Derived.Test.YtdepnhnpklbmiaaW13
import Derived.Test.YtdepnhnpklbmiaaE22
namespace Go.Proofs.Ytdepnhnpklbmiaa
open Go.RowKit
set_option linter.unusedSimpArgs false
set_option linter.unusedVariables false
theorem Flip_c (f v : Int) (n : Nat) (xs : List Int) (hl : xs.length = n) (hn : n ≤ 9223372036854775807) : CallA Try.prog 30 [cuA f v 0 n] [rowB true xs] (CuK 1 [rowB true xs] (flipV ⟨f, v, xs⟩)) :=
  callA_cu (enters_of Try.func30 rfl rfl) fun C ρ w ra hI hra => by
    obtain ⟨a, rfl, ha⟩ := args1 hra
    obtain ⟨a3, rfl, h3⟩ := cu_arg ha
    obtain ⟨ad, c, rfl, h1, hc⟩ := cu_at (f := f) (v := v) hI (blk := rowB true xs) rfl rfl rfl hl h3
    exact Flip_any ⟨f, v, xs⟩ ad n c w hc hn
theorem Tilt_c (f v p : Int) (n : Nat) (xs : List Int) (hl : xs.length = n) (hn : n ≤ 9223372036854775807) : CallA Try.prog 32 [cuA f v 0 n, .int .i64 p] [rowB true xs] (CuK 1 [rowB true xs] (tiltV ⟨f, v, xs⟩ p)) :=
  callA_cu (enters_of Try.func32 rfl rfl) fun C ρ w ra hI hra => by
    obtain ⟨a, b, rfl, ha, hb⟩ := args2 hra
    obtain ⟨a3, rfl, h3⟩ := cu_arg ha
    obtain rfl := int_arg hb
    obtain ⟨ad, c, rfl, h1, hc⟩ := cu_at (f := f) (v := v) hI (blk := rowB true xs) rfl rfl rfl hl h3
    exact Tilt_any ⟨f, v, xs⟩ ad n c p w hc hn
theorem Move_c (f v p y : Int) (n : Nat) (xs : List Int) (hl : xs.length = n) (hn : n ≤ 9223372036854775807) : CallA Try.prog 34 [cuA f v 0 n, .int .i64 p, .int .i64 y] [rowB true xs] (CuK 1 [rowB true xs] (moveV ⟨f, v, xs⟩ p y)) :=
  callA_cu (enters_of Try.func34 rfl rfl) fun C ρ w ra hI hra => by
    obtain ⟨a, b, d, rfl, ha, hb, hd⟩ := args3 hra
    obtain ⟨a3, rfl, h3⟩ := cu_arg ha
    obtain rfl := int_arg hb
    obtain rfl := int_arg hd
    obtain ⟨ad, c, rfl, h1, hc⟩ := cu_at (f := f) (v := v) hI (blk := rowB true xs) rfl rfl rfl hl h3
    exact Move_any ⟨f, v, xs⟩ ad n c p y w hc hn
theorem Part_c (f v p y : Int) (n : Nat) (xs : List Int) (hl : xs.length = n) (hn : n ≤ 9223372036854775807) : CallA Try.prog 36 [cuA f v 0 n, .int .i64 p, .int .i64 y] [rowB true xs] (CuK 1 [rowB true xs] (partV ⟨f, v, xs⟩ p y)) :=
  callA_cu (enters_of Try.func36 rfl rfl) fun C ρ w ra hI hra => by
    obtain ⟨a, b, d, rfl, ha, hb, hd⟩ := args3 hra
    obtain ⟨a3, rfl, h3⟩ := cu_arg ha
    obtain rfl := int_arg hb
    obtain rfl := int_arg hd
    obtain ⟨ad, c, rfl, h1, hc⟩ := cu_at (f := f) (v := v) hI (blk := rowB true xs) rfl rfl rfl hl h3
    exact Part_any ⟨f, v, xs⟩ ad n c p y w hc hn h1
theorem Add_c (f v : Int) (n : Nat) (xs : List Int) (hl : xs.length = n) (hn : n ≤ 9223372036854775807) (g' u : Int) (m : Nat) (ys : List Int) (hl2 : ys.length = m) (hm : m ≤ 9223372036854775807) : CallA Try.prog 26 [cuA f v 0 n, cuA g' u 1 m] [rowB true xs, rowB true ys] (CuK 2 [rowB true xs, rowB true ys] (addV ⟨f, v, xs⟩ ⟨g', u, ys⟩)) :=
  callA_cu (enters_of Try.func26 rfl rfl) fun C ρ w ra hI hra => by
    obtain ⟨a, b, rfl, ha, hb⟩ := args2 hra
    obtain ⟨a3, rfl, h3⟩ := cu_arg ha
    obtain ⟨b3, rfl, h4⟩ := cu_arg hb
    obtain ⟨ad, c, rfl, h1, hc⟩ := cu_at (f := f) (v := v) hI (blk := rowB true xs) rfl rfl rfl hl h3
    obtain ⟨bd, d, rfl, h2, hd⟩ := cu_at (f := g') (v := u) hI (blk := rowB true ys) rfl rfl rfl hl2 h4
    exact Add_any ⟨f, v, xs⟩ ⟨g', u, ys⟩ ad n c bd m d w hc hd hn hm
theorem Join_c (f v : Int) (n : Nat) (xs : List Int) (hl : xs.length = n) (hn : n ≤ 9223372036854775807) (g' u : Int) (m : Nat) (ys : List Int) (hl2 : ys.length = m) (hm : m ≤ 9223372036854775807) : CallA Try.prog 28 [cuA f v 0 n, cuA g' u 1 m] [rowB true xs, rowB true ys] (CuK 2 [rowB true xs, rowB true ys] (joinV ⟨f, v, xs⟩ ⟨g', u, ys⟩)) :=
  callA_cu (enters_of Try.func28 rfl rfl) fun C ρ w ra hI hra => by
    obtain ⟨a, b, rfl, ha, hb⟩ := args2 hra
    obtain ⟨a3, rfl, h3⟩ := cu_arg ha
    obtain ⟨b3, rfl, h4⟩ := cu_arg hb
    obtain ⟨ad, c, rfl, h1, hc⟩ := cu_at (f := f) (v := v) hI (blk := rowB true xs) rfl rfl rfl hl h3
    obtain ⟨bd, d, rfl, h2, hd⟩ := cu_at (f := g') (v := u) hI (blk := rowB true ys) rfl rfl rfl hl2 h4
    exact Join_any ⟨f, v, xs⟩ ⟨g', u, ys⟩ ad n c bd m d w hc hd hn hm
theorem addV_len (a b : Cu) : (addV a b).1.sl.length ≤ 64 := by
  unfold addV
  split
  · split
    · exact res2_len _
    · exact Nat.zero_le _
  · exact Nat.zero_le _
theorem flipV_len (a : Cu) : (flipV a).1.sl.length ≤ 64 := by
  unfold flipV
  split
  · exact res2_len _
  · exact Nat.zero_le _
theorem tiltV_len (a : Cu) (p : Int) : (tiltV a p).1.sl.length ≤ 64 := by
  unfold tiltV
  split
  · exact res2_len _
  · exact Nat.zero_le _
theorem moveV_len (a : Cu) (p q : Int) : (moveV a p q).1.sl.length ≤ 64 := by
  unfold moveV
  split
  · exact res2_len _
  · exact Nat.zero_le _
theorem partV_len (a : Cu) (p q : Int) : (partV a p q).1.sl.length ≤ 64 := by
  unfold partV
  split
  · split
    · exact Nat.zero_le _
    · exact res2_len _
  · exact Nat.zero_le _
set_option maxRecDepth 20000 in
set_option maxHeartbeats 16000000 in
theorem law4 (f v : Int) (n : Nat) (xs : List Int) (hl : xs.length = n) (hn : n ≤ 9223372036854775807) (g' u : Int) (m : Nat) (ys : List Int) (hl2 : ys.length = m) (hm : m ≤ 9223372036854775807) (p x y : Int) :
    CallA Try.prog 4 [cuA f v 0 n, cuA g' u 1 m, .int .i64 p, .int .i64 x, .int .i64 y] [rowB false xs, rowB false ys] (fun w H => w = .boo true ∧ H = [rowB false xs, rowB false ys]) := by
  refine call_of_sem TYok Try.func4 rfl rfl (Nat.le_of_ble_eq_true rfl) ?_
  by_cases h01 : n ≤ 100 ∧ m ≤ 100
  rotate_left 1
  · refine vc_ok TYok mixedO _ _ _ _ ?_
    (repeat (first | refine aC ?_ | refine aK ?_ | refine ⟨fun _ => ?_, fun h => absurd h (by decide)⟩ | refine ⟨fun h => absurd h (by decide), fun _ => ?_⟩))
    (refine call_lift (few_c f v n xs hl) (fun i => match i with | 0 => some 0 | _ => none) rfl rfl hI rfl rfl rfl ?_; rintro v H1 ⟨rfl, rfl⟩; refine ⟨⟨rfl, rfl, rfl, rfl⟩, ?_⟩; (try simp only [two]); (try simp only [AV.ren]); (try simp only [renT]); (try simp only [AT.ren]); (try simp only [A.ren]); (try (rw [ptr_ren]; rotate_left; exact rfl)); (try (rw [slc_ren]; rotate_left; exact rfl)); (try simp only [S.ren]))
    (repeat (first | refine aC ?_ | refine aK ?_ | refine ⟨fun _ => ?_, fun h => absurd h (by decide)⟩ | refine ⟨fun h => absurd h (by decide), fun _ => ?_⟩))
    by_cases h0 : n ≤ 100
    · have q : (!decide (n ≤ 100)) = false := by rw [decide_eq_true h0]; rfl
      (first | refine brTT (q) ?_ | refine brTF (q) ?_ | refine brFT (q) ?_ | refine brFF (q) ?_)
      (repeat (first | refine aC ?_ | refine aK ?_ | refine ⟨fun _ => ?_, fun h => absurd h (by decide)⟩ | refine ⟨fun h => absurd h (by decide), fun _ => ?_⟩))
      (refine call_lift (few_c g' u m ys hl2) (fun i => match i with | 0 => some 1 | _ => none) rfl rfl hI rfl rfl rfl ?_; rintro v H1 ⟨rfl, rfl⟩; refine ⟨⟨rfl, rfl, rfl, rfl⟩, ?_⟩; (try simp only [two]); (try simp only [AV.ren]); (try simp only [renT]); (try simp only [AT.ren]); (try simp only [A.ren]); (try (rw [ptr_ren]; rotate_left; exact rfl)); (try (rw [slc_ren]; rotate_left; exact rfl)); (try simp only [S.ren]))
      (repeat (first | refine aC ?_ | refine aK ?_ | refine ⟨fun _ => ?_, fun h => absurd h (by decide)⟩ | refine ⟨fun h => absurd h (by decide), fun _ => ?_⟩))
      have h1 : ¬ m ≤ 100 := fun h => h01 ⟨h0, h⟩
      have q' : (!decide (m ≤ 100)) = true := by rw [decide_eq_false h1]; rfl
      (first | refine brTT (q') ?_ | refine brTF (q') ?_ | refine brFT (q') ?_ | refine brFF (q') ?_)
      (repeat (first | refine aC ?_ | refine aK ?_ | refine ⟨fun _ => ?_, fun h => absurd h (by decide)⟩ | refine ⟨fun h => absurd h (by decide), fun _ => ?_⟩))
      (refine call_lift (alive_c) (fun i => match i with | 0 => none | _ => none) rfl rfl hI rfl rfl rfl ?_; rintro v H1 ⟨rfl, rfl⟩; refine ⟨⟨rfl, rfl, rfl, rfl⟩, ?_⟩; (try simp only [two]); (try simp only [AV.ren]); (try simp only [renT]); (try simp only [AT.ren]); (try simp only [A.ren]); (try (rw [ptr_ren]; rotate_left; exact rfl)); (try (rw [slc_ren]; rotate_left; exact rfl)); (try simp only [S.ren]))
      (repeat (first | refine aC ?_ | refine aK ?_ | refine ⟨fun _ => ?_, fun h => absurd h (by decide)⟩ | refine ⟨fun h => absurd h (by decide), fun _ => ?_⟩))
      exact ⟨(fun i => match i with | 0 => some 0 | 1 => some 1 | _ => none), .boo true, [rowB false xs, rowB false ys], by exact wI, rfl, rfl⟩
    · have q : (!decide (n ≤ 100)) = true := by rw [decide_eq_false h0]; rfl
      (first | refine brTT (q) ?_ | refine brTF (q) ?_ | refine brFT (q) ?_ | refine brFF (q) ?_)
      (repeat (first | refine aC ?_ | refine aK ?_ | refine ⟨fun _ => ?_, fun h => absurd h (by decide)⟩ | refine ⟨fun h => absurd h (by decide), fun _ => ?_⟩))
      (refine call_lift (alive_c) (fun i => match i with | 0 => none | _ => none) rfl rfl hI rfl rfl rfl ?_; rintro v H1 ⟨rfl, rfl⟩; refine ⟨⟨rfl, rfl, rfl, rfl⟩, ?_⟩; (try simp only [two]); (try simp only [AV.ren]); (try simp only [renT]); (try simp only [AT.ren]); (try simp only [A.ren]); (try (rw [ptr_ren]; rotate_left; exact rfl)); (try (rw [slc_ren]; rotate_left; exact rfl)); (try simp only [S.ren]))
      (repeat (first | refine aC ?_ | refine aK ?_ | refine ⟨fun _ => ?_, fun h => absurd h (by decide)⟩ | refine ⟨fun h => absurd h (by decide), fun _ => ?_⟩))
      exact ⟨(fun i => match i with | 0 => some 0 | 1 => some 1 | _ => none), .boo true, [rowB false xs, rowB false ys], by exact wI, rfl, rfl⟩
  obtain ⟨h0, h1⟩ := h01
  refine sem_seq TYok mixedO [(2, .int .i64 p), (3, .int .i64 x), (4, .int .i64 y), (5, .t (.a (.s (.ptr 2 0)))), (6, .t (.a (.s (.ptr 3 0))))] [rowB false xs, rowB false ys, cB f v 0 n, cB g' u 1 m] ?_ ?_
  · (repeat (first | refine aC ?_ | refine aK ?_ | refine ⟨fun _ => ?_, fun h => absurd h (by decide)⟩ | refine ⟨fun h => absurd h (by decide), fun _ => ?_⟩))
    exact ⟨some, by exact wI⟩
  refine sem_seq TYok mixedO [(2, .int .i64 p), (3, .int .i64 x), (4, .int .i64 y), (5, .t (.a (.s (.ptr 2 0)))), (6, .t (.a (.s (.ptr 3 0))))] [rowB false xs, rowB false ys, cB f v 0 n, cB g' u 1 m] ?_ ?_
  · have q : (!decide (n ≤ 100)) = false := by rw [decide_eq_true h0]; rfl
    have q' : (!decide (m ≤ 100)) = false := by rw [decide_eq_true h1]; rfl
    (repeat (first | refine aC ?_ | refine aK ?_ | refine ⟨fun _ => ?_, fun h => absurd h (by decide)⟩ | refine ⟨fun h => absurd h (by decide), fun _ => ?_⟩))
    (refine call_lift (few_c f v n xs hl) (fun i => match i with | 0 => some 0 | _ => none) rfl rfl hI rfl rfl rfl ?_; rintro v H1 ⟨rfl, rfl⟩; refine ⟨⟨rfl, rfl, rfl, rfl⟩, ?_⟩; (try simp only [two]); (try simp only [AV.ren]); (try simp only [renT]); (try simp only [AT.ren]); (try simp only [A.ren]); (try (rw [ptr_ren]; rotate_left; exact rfl)); (try (rw [slc_ren]; rotate_left; exact rfl)); (try simp only [S.ren]))
    (repeat (first | refine aC ?_ | refine aK ?_ | refine ⟨fun _ => ?_, fun h => absurd h (by decide)⟩ | refine ⟨fun h => absurd h (by decide), fun _ => ?_⟩))
    (first | refine brTT (q) ?_ | refine brTF (q) ?_ | refine brFT (q) ?_ | refine brFF (q) ?_)
    (repeat (first | refine aC ?_ | refine aK ?_ | refine ⟨fun _ => ?_, fun h => absurd h (by decide)⟩ | refine ⟨fun h => absurd h (by decide), fun _ => ?_⟩))
    (refine call_lift (few_c g' u m ys hl2) (fun i => match i with | 0 => some 1 | _ => none) rfl rfl hI rfl rfl rfl ?_; rintro v H1 ⟨rfl, rfl⟩; refine ⟨⟨rfl, rfl, rfl, rfl⟩, ?_⟩; (try simp only [two]); (try simp only [AV.ren]); (try simp only [renT]); (try simp only [AT.ren]); (try simp only [A.ren]); (try (rw [ptr_ren]; rotate_left; exact rfl)); (try (rw [slc_ren]; rotate_left; exact rfl)); (try simp only [S.ren]))
    (repeat (first | refine aC ?_ | refine aK ?_ | refine ⟨fun _ => ?_, fun h => absurd h (by decide)⟩ | refine ⟨fun h => absurd h (by decide), fun _ => ?_⟩))
    (first | refine brTT (q') ?_ | refine brTF (q') ?_ | refine brFT (q') ?_ | refine brFF (q') ?_)
    exact ⟨some, by exact wI⟩
  refine sem_seq TYok mixedO [(2, .int .i64 p), (3, .int .i64 x), (4, .int .i64 y), (5, .t (.a (.s (.ptr 2 0)))), (6, .t (.a (.s (.ptr 3 0)))), (11, .t (.a (.s (.ptr 6 0)))), (12, .t (.a (.s (.ptr 7 0))))] [rowB false xs, rowB false ys, cB f v 0 n, cB g' u 1 m, rowB true xs, rowB true ys, cB f v 4 n, cB g' u 5 m] ?_ ?_
  · (refine drawn_ruleS TYok mixedO [] (.quiet 0 [] (.quiet 2 [] (.three 1 4 5 [] [] [] (.three 3 4 5 [] [] [] (.two 4 5 [] [] (.make 5 [] (.make 6 [] (.make 7 [] .done))) (.make 4 [] (.make 6 [] (.make 7 [] .done)))) (.two 3 5 [] [] (.make 5 [] (.make 6 [] (.make 7 [] .done))) (.make 3 [] (.make 6 [] (.make 7 [] .done)))) (.two 3 4 [] [] (.make 4 [] (.make 6 [] (.make 7 [] .done))) (.make 3 [] (.make 6 [] (.make 7 [] .done))))) (.two 1 5 [] [] (.two 3 5 [] [] (.make 5 [] (.make 6 [] (.make 7 [] .done))) (.make 3 [] (.make 6 [] (.make 7 [] .done)))) (.make 1 [] (.make 3 [] (.make 6 [] (.make 7 [] .done))))) (.two 1 4 [] [] (.two 3 4 [] [] (.make 4 [] (.make 6 [] (.make 7 [] .done))) (.make 3 [] (.make 6 [] (.make 7 [] .done)))) (.make 1 [] (.make 3 [] (.make 6 [] (.make 7 [] .done)))))))) (by kernel_rfl) ?_)
    (repeat (first | refine aC ?_ | refine aK ?_ | refine ⟨fun _ => ?_, fun h => absurd h (by decide)⟩ | refine ⟨fun h => absurd h (by decide), fun _ => ?_⟩))
    refine And.intro ?_ (And.intro ?_ ?_)
    focus
      skip
      (repeat (first | refine aC ?_ | refine aK ?_ | refine ⟨fun _ => ?_, fun h => absurd h (by decide)⟩ | refine ⟨fun h => absurd h (by decide), fun _ => ?_⟩))
      (refine call_lift (own_c f v n xs hl (by omega)) (fun i => match i with | 0 => some 0 | _ => none) rfl rfl hI rfl rfl rfl ?_; rintro v H1 ⟨rfl, rfl⟩; refine ⟨⟨rfl, rfl, rfl, rfl⟩, ?_⟩; (try simp only [two]); (try simp only [AV.ren]); (try simp only [renT]); (try simp only [AT.ren]); (try simp only [A.ren]); (try (rw [ptr_ren]; rotate_left; exact rfl)); (try (rw [slc_ren]; rotate_left; exact rfl)); (try simp only [S.ren]))
      (repeat (first | refine aC ?_ | refine aK ?_ | refine ⟨fun _ => ?_, fun h => absurd h (by decide)⟩ | refine ⟨fun h => absurd h (by decide), fun _ => ?_⟩))
      refine And.intro ?_ (And.intro ?_ ?_)
      focus
        skip
        (repeat (first | refine aC ?_ | refine aK ?_ | refine ⟨fun _ => ?_, fun h => absurd h (by decide)⟩ | refine ⟨fun h => absurd h (by decide), fun _ => ?_⟩))
        (refine call_lift (own_c g' u m ys hl2 (by omega)) (fun i => match i with | 0 => some 1 | _ => none) rfl rfl hI rfl rfl rfl ?_; rintro v H1 ⟨rfl, rfl⟩; refine ⟨⟨rfl, rfl, rfl, rfl⟩, ?_⟩; (try simp only [two]); (try simp only [AV.ren]); (try simp only [renT]); (try simp only [AT.ren]); (try simp only [A.ren]); (try (rw [ptr_ren]; rotate_left; exact rfl)); (try (rw [slc_ren]; rotate_left; exact rfl)); (try simp only [S.ren]))
        (repeat (first | refine aC ?_ | refine aK ?_ | refine ⟨fun _ => ?_, fun h => absurd h (by decide)⟩ | refine ⟨fun h => absurd h (by decide), fun _ => ?_⟩))
        refine And.intro ?_ ?_
        focus
          skip
          (repeat (first | refine aC ?_ | refine aK ?_ | refine ⟨fun _ => ?_, fun h => absurd h (by decide)⟩ | refine ⟨fun h => absurd h (by decide), fun _ => ?_⟩))
          exact ⟨(fun i => match i with | 0 => some 0 | 1 => some 1 | 2 => some 2 | 3 => some 3 | 4 => some 4 | 5 => some 5 | 6 => some 6 | 7 => some 7 | _ => none), by exact wI⟩
        focus
          skip
          (repeat (first | refine aC ?_ | refine aK ?_ | refine ⟨fun _ => ?_, fun h => absurd h (by decide)⟩ | refine ⟨fun h => absurd h (by decide), fun _ => ?_⟩))
          exact ⟨(fun i => match i with | 0 => some 0 | 1 => some 1 | 2 => some 2 | 3 => some 3 | 4 => some 4 | 5 => some 5 | 6 => some 7 | 7 => some 6 | _ => none), by exact wI⟩
      focus
        skip
        (repeat (first | refine aC ?_ | refine aK ?_ | refine ⟨fun _ => ?_, fun h => absurd h (by decide)⟩ | refine ⟨fun h => absurd h (by decide), fun _ => ?_⟩))
        refine And.intro ?_ ?_
        focus
          skip
          (repeat (first | refine aC ?_ | refine aK ?_ | refine ⟨fun _ => ?_, fun h => absurd h (by decide)⟩ | refine ⟨fun h => absurd h (by decide), fun _ => ?_⟩))
          (refine call_lift (own_c g' u m ys hl2 (by omega)) (fun i => match i with | 0 => some 1 | _ => none) rfl rfl hI rfl rfl rfl ?_; rintro v H1 ⟨rfl, rfl⟩; refine ⟨⟨rfl, rfl, rfl, rfl⟩, ?_⟩; (try simp only [two]); (try simp only [AV.ren]); (try simp only [renT]); (try simp only [AT.ren]); (try simp only [A.ren]); (try (rw [ptr_ren]; rotate_left; exact rfl)); (try (rw [slc_ren]; rotate_left; exact rfl)); (try simp only [S.ren]))
          (repeat (first | refine aC ?_ | refine aK ?_ | refine ⟨fun _ => ?_, fun h => absurd h (by decide)⟩ | refine ⟨fun h => absurd h (by decide), fun _ => ?_⟩))
          exact ⟨(fun i => match i with | 0 => some 0 | 1 => some 1 | 2 => some 2 | 3 => some 3 | 4 => some 4 | 5 => some 6 | 6 => some 5 | 7 => some 7 | _ => none), by exact wI⟩
        focus
          skip
          (repeat (first | refine aC ?_ | refine aK ?_ | refine ⟨fun _ => ?_, fun h => absurd h (by decide)⟩ | refine ⟨fun h => absurd h (by decide), fun _ => ?_⟩))
          (refine call_lift (own_c g' u m ys hl2 (by omega)) (fun i => match i with | 0 => some 1 | _ => none) rfl rfl hI rfl rfl rfl ?_; rintro v H1 ⟨rfl, rfl⟩; refine ⟨⟨rfl, rfl, rfl, rfl⟩, ?_⟩; (try simp only [two]); (try simp only [AV.ren]); (try simp only [renT]); (try simp only [AT.ren]); (try simp only [A.ren]); (try (rw [ptr_ren]; rotate_left; exact rfl)); (try (rw [slc_ren]; rotate_left; exact rfl)); (try simp only [S.ren]))
          (repeat (first | refine aC ?_ | refine aK ?_ | refine ⟨fun _ => ?_, fun h => absurd h (by decide)⟩ | refine ⟨fun h => absurd h (by decide), fun _ => ?_⟩))
          exact ⟨(fun i => match i with | 0 => some 0 | 1 => some 1 | 2 => some 2 | 3 => some 3 | 4 => some 4 | 5 => some 7 | 6 => some 5 | 7 => some 6 | _ => none), by exact wI⟩
      focus
        skip
        (repeat (first | refine aC ?_ | refine aK ?_ | refine ⟨fun _ => ?_, fun h => absurd h (by decide)⟩ | refine ⟨fun h => absurd h (by decide), fun _ => ?_⟩))
        refine And.intro ?_ ?_
        focus
          skip
          (repeat (first | refine aC ?_ | refine aK ?_ | refine ⟨fun _ => ?_, fun h => absurd h (by decide)⟩ | refine ⟨fun h => absurd h (by decide), fun _ => ?_⟩))
          (refine call_lift (own_c g' u m ys hl2 (by omega)) (fun i => match i with | 0 => some 1 | _ => none) rfl rfl hI rfl rfl rfl ?_; rintro v H1 ⟨rfl, rfl⟩; refine ⟨⟨rfl, rfl, rfl, rfl⟩, ?_⟩; (try simp only [two]); (try simp only [AV.ren]); (try simp only [renT]); (try simp only [AT.ren]); (try simp only [A.ren]); (try (rw [ptr_ren]; rotate_left; exact rfl)); (try (rw [slc_ren]; rotate_left; exact rfl)); (try simp only [S.ren]))
          (repeat (first | refine aC ?_ | refine aK ?_ | refine ⟨fun _ => ?_, fun h => absurd h (by decide)⟩ | refine ⟨fun h => absurd h (by decide), fun _ => ?_⟩))
          exact ⟨(fun i => match i with | 0 => some 0 | 1 => some 1 | 2 => some 2 | 3 => some 3 | 4 => some 4 | 5 => some 6 | 6 => some 7 | 7 => some 5 | _ => none), by exact wI⟩
        focus
          skip
          (repeat (first | refine aC ?_ | refine aK ?_ | refine ⟨fun _ => ?_, fun h => absurd h (by decide)⟩ | refine ⟨fun h => absurd h (by decide), fun _ => ?_⟩))
          (refine call_lift (own_c g' u m ys hl2 (by omega)) (fun i => match i with | 0 => some 1 | _ => none) rfl rfl hI rfl rfl rfl ?_; rintro v H1 ⟨rfl, rfl⟩; refine ⟨⟨rfl, rfl, rfl, rfl⟩, ?_⟩; (try simp only [two]); (try simp only [AV.ren]); (try simp only [renT]); (try simp only [AT.ren]); (try simp only [A.ren]); (try (rw [ptr_ren]; rotate_left; exact rfl)); (try (rw [slc_ren]; rotate_left; exact rfl)); (try simp only [S.ren]))
          (repeat (first | refine aC ?_ | refine aK ?_ | refine ⟨fun _ => ?_, fun h => absurd h (by decide)⟩ | refine ⟨fun h => absurd h (by decide), fun _ => ?_⟩))
          exact ⟨(fun i => match i with | 0 => some 0 | 1 => some 1 | 2 => some 2 | 3 => some 3 | 4 => some 4 | 5 => some 7 | 6 => some 6 | 7 => some 5 | _ => none), by exact wI⟩
    focus
      skip
      (repeat (first | refine aC ?_ | refine aK ?_ | refine ⟨fun _ => ?_, fun h => absurd h (by decide)⟩ | refine ⟨fun h => absurd h (by decide), fun _ => ?_⟩))
      refine And.intro ?_ ?_
      focus
        skip
        (repeat (first | refine aC ?_ | refine aK ?_ | refine ⟨fun _ => ?_, fun h => absurd h (by decide)⟩ | refine ⟨fun h => absurd h (by decide), fun _ => ?_⟩))
        (refine call_lift (own_c f v n xs hl (by omega)) (fun i => match i with | 0 => some 0 | _ => none) rfl rfl hI rfl rfl rfl ?_; rintro v H1 ⟨rfl, rfl⟩; refine ⟨⟨rfl, rfl, rfl, rfl⟩, ?_⟩; (try simp only [two]); (try simp only [AV.ren]); (try simp only [renT]); (try simp only [AT.ren]); (try simp only [A.ren]); (try (rw [ptr_ren]; rotate_left; exact rfl)); (try (rw [slc_ren]; rotate_left; exact rfl)); (try simp only [S.ren]))
        (repeat (first | refine aC ?_ | refine aK ?_ | refine ⟨fun _ => ?_, fun h => absurd h (by decide)⟩ | refine ⟨fun h => absurd h (by decide), fun _ => ?_⟩))
        refine And.intro ?_ ?_
        focus
          skip
          (repeat (first | refine aC ?_ | refine aK ?_ | refine ⟨fun _ => ?_, fun h => absurd h (by decide)⟩ | refine ⟨fun h => absurd h (by decide), fun _ => ?_⟩))
          (refine call_lift (own_c g' u m ys hl2 (by omega)) (fun i => match i with | 0 => some 1 | _ => none) rfl rfl hI rfl rfl rfl ?_; rintro v H1 ⟨rfl, rfl⟩; refine ⟨⟨rfl, rfl, rfl, rfl⟩, ?_⟩; (try simp only [two]); (try simp only [AV.ren]); (try simp only [renT]); (try simp only [AT.ren]); (try simp only [A.ren]); (try (rw [ptr_ren]; rotate_left; exact rfl)); (try (rw [slc_ren]; rotate_left; exact rfl)); (try simp only [S.ren]))
          (repeat (first | refine aC ?_ | refine aK ?_ | refine ⟨fun _ => ?_, fun h => absurd h (by decide)⟩ | refine ⟨fun h => absurd h (by decide), fun _ => ?_⟩))
          exact ⟨(fun i => match i with | 0 => some 0 | 1 => some 1 | 2 => some 2 | 3 => some 3 | 4 => some 5 | 5 => some 6 | 6 => some 4 | 7 => some 7 | _ => none), by exact wI⟩
        focus
          skip
          (repeat (first | refine aC ?_ | refine aK ?_ | refine ⟨fun _ => ?_, fun h => absurd h (by decide)⟩ | refine ⟨fun h => absurd h (by decide), fun _ => ?_⟩))
          (refine call_lift (own_c g' u m ys hl2 (by omega)) (fun i => match i with | 0 => some 1 | _ => none) rfl rfl hI rfl rfl rfl ?_; rintro v H1 ⟨rfl, rfl⟩; refine ⟨⟨rfl, rfl, rfl, rfl⟩, ?_⟩; (try simp only [two]); (try simp only [AV.ren]); (try simp only [renT]); (try simp only [AT.ren]); (try simp only [A.ren]); (try (rw [ptr_ren]; rotate_left; exact rfl)); (try (rw [slc_ren]; rotate_left; exact rfl)); (try simp only [S.ren]))
          (repeat (first | refine aC ?_ | refine aK ?_ | refine ⟨fun _ => ?_, fun h => absurd h (by decide)⟩ | refine ⟨fun h => absurd h (by decide), fun _ => ?_⟩))
          exact ⟨(fun i => match i with | 0 => some 0 | 1 => some 1 | 2 => some 2 | 3 => some 3 | 4 => some 5 | 5 => some 7 | 6 => some 4 | 7 => some 6 | _ => none), by exact wI⟩
      focus
        skip
        (repeat (first | refine aC ?_ | refine aK ?_ | refine ⟨fun _ => ?_, fun h => absurd h (by decide)⟩ | refine ⟨fun h => absurd h (by decide), fun _ => ?_⟩))
        (refine call_lift (own_c f v n xs hl (by omega)) (fun i => match i with | 0 => some 0 | _ => none) rfl rfl hI rfl rfl rfl ?_; rintro v H1 ⟨rfl, rfl⟩; refine ⟨⟨rfl, rfl, rfl, rfl⟩, ?_⟩; (try simp only [two]); (try simp only [AV.ren]); (try simp only [renT]); (try simp only [AT.ren]); (try simp only [A.ren]); (try (rw [ptr_ren]; rotate_left; exact rfl)); (try (rw [slc_ren]; rotate_left; exact rfl)); (try simp only [S.ren]))
        (repeat (first | refine aC ?_ | refine aK ?_ | refine ⟨fun _ => ?_, fun h => absurd h (by decide)⟩ | refine ⟨fun h => absurd h (by decide), fun _ => ?_⟩))
        (refine call_lift (own_c g' u m ys hl2 (by omega)) (fun i => match i with | 0 => some 1 | _ => none) rfl rfl hI rfl rfl rfl ?_; rintro v H1 ⟨rfl, rfl⟩; refine ⟨⟨rfl, rfl, rfl, rfl⟩, ?_⟩; (try simp only [two]); (try simp only [AV.ren]); (try simp only [renT]); (try simp only [AT.ren]); (try simp only [A.ren]); (try (rw [ptr_ren]; rotate_left; exact rfl)); (try (rw [slc_ren]; rotate_left; exact rfl)); (try simp only [S.ren]))
        (repeat (first | refine aC ?_ | refine aK ?_ | refine ⟨fun _ => ?_, fun h => absurd h (by decide)⟩ | refine ⟨fun h => absurd h (by decide), fun _ => ?_⟩))
        exact ⟨(fun i => match i with | 0 => some 0 | 1 => some 1 | 2 => some 2 | 3 => some 3 | 4 => some 6 | 5 => some 7 | 6 => some 4 | 7 => some 5 | _ => none), by exact wI⟩
    focus
      skip
      (repeat (first | refine aC ?_ | refine aK ?_ | refine ⟨fun _ => ?_, fun h => absurd h (by decide)⟩ | refine ⟨fun h => absurd h (by decide), fun _ => ?_⟩))
      refine And.intro ?_ ?_
      focus
        skip
        (repeat (first | refine aC ?_ | refine aK ?_ | refine ⟨fun _ => ?_, fun h => absurd h (by decide)⟩ | refine ⟨fun h => absurd h (by decide), fun _ => ?_⟩))
        (refine call_lift (own_c f v n xs hl (by omega)) (fun i => match i with | 0 => some 0 | _ => none) rfl rfl hI rfl rfl rfl ?_; rintro v H1 ⟨rfl, rfl⟩; refine ⟨⟨rfl, rfl, rfl, rfl⟩, ?_⟩; (try simp only [two]); (try simp only [AV.ren]); (try simp only [renT]); (try simp only [AT.ren]); (try simp only [A.ren]); (try (rw [ptr_ren]; rotate_left; exact rfl)); (try (rw [slc_ren]; rotate_left; exact rfl)); (try simp only [S.ren]))
        (repeat (first | refine aC ?_ | refine aK ?_ | refine ⟨fun _ => ?_, fun h => absurd h (by decide)⟩ | refine ⟨fun h => absurd h (by decide), fun _ => ?_⟩))
        refine And.intro ?_ ?_
        focus
          skip
          (repeat (first | refine aC ?_ | refine aK ?_ | refine ⟨fun _ => ?_, fun h => absurd h (by decide)⟩ | refine ⟨fun h => absurd h (by decide), fun _ => ?_⟩))
          (refine call_lift (own_c g' u m ys hl2 (by omega)) (fun i => match i with | 0 => some 1 | _ => none) rfl rfl hI rfl rfl rfl ?_; rintro v H1 ⟨rfl, rfl⟩; refine ⟨⟨rfl, rfl, rfl, rfl⟩, ?_⟩; (try simp only [two]); (try simp only [AV.ren]); (try simp only [renT]); (try simp only [AT.ren]); (try simp only [A.ren]); (try (rw [ptr_ren]; rotate_left; exact rfl)); (try (rw [slc_ren]; rotate_left; exact rfl)); (try simp only [S.ren]))
          (repeat (first | refine aC ?_ | refine aK ?_ | refine ⟨fun _ => ?_, fun h => absurd h (by decide)⟩ | refine ⟨fun h => absurd h (by decide), fun _ => ?_⟩))
          exact ⟨(fun i => match i with | 0 => some 0 | 1 => some 1 | 2 => some 2 | 3 => some 3 | 4 => some 5 | 5 => some 6 | 6 => some 7 | 7 => some 4 | _ => none), by exact wI⟩
        focus
          skip
          (repeat (first | refine aC ?_ | refine aK ?_ | refine ⟨fun _ => ?_, fun h => absurd h (by decide)⟩ | refine ⟨fun h => absurd h (by decide), fun _ => ?_⟩))
          (refine call_lift (own_c g' u m ys hl2 (by omega)) (fun i => match i with | 0 => some 1 | _ => none) rfl rfl hI rfl rfl rfl ?_; rintro v H1 ⟨rfl, rfl⟩; refine ⟨⟨rfl, rfl, rfl, rfl⟩, ?_⟩; (try simp only [two]); (try simp only [AV.ren]); (try simp only [renT]); (try simp only [AT.ren]); (try simp only [A.ren]); (try (rw [ptr_ren]; rotate_left; exact rfl)); (try (rw [slc_ren]; rotate_left; exact rfl)); (try simp only [S.ren]))
          (repeat (first | refine aC ?_ | refine aK ?_ | refine ⟨fun _ => ?_, fun h => absurd h (by decide)⟩ | refine ⟨fun h => absurd h (by decide), fun _ => ?_⟩))
          exact ⟨(fun i => match i with | 0 => some 0 | 1 => some 1 | 2 => some 2 | 3 => some 3 | 4 => some 5 | 5 => some 7 | 6 => some 6 | 7 => some 4 | _ => none), by exact wI⟩
      focus
        skip
        (repeat (first | refine aC ?_ | refine aK ?_ | refine ⟨fun _ => ?_, fun h => absurd h (by decide)⟩ | refine ⟨fun h => absurd h (by decide), fun _ => ?_⟩))
        (refine call_lift (own_c f v n xs hl (by omega)) (fun i => match i with | 0 => some 0 | _ => none) rfl rfl hI rfl rfl rfl ?_; rintro v H1 ⟨rfl, rfl⟩; refine ⟨⟨rfl, rfl, rfl, rfl⟩, ?_⟩; (try simp only [two]); (try simp only [AV.ren]); (try simp only [renT]); (try simp only [AT.ren]); (try simp only [A.ren]); (try (rw [ptr_ren]; rotate_left; exact rfl)); (try (rw [slc_ren]; rotate_left; exact rfl)); (try simp only [S.ren]))
        (repeat (first | refine aC ?_ | refine aK ?_ | refine ⟨fun _ => ?_, fun h => absurd h (by decide)⟩ | refine ⟨fun h => absurd h (by decide), fun _ => ?_⟩))
        (refine call_lift (own_c g' u m ys hl2 (by omega)) (fun i => match i with | 0 => some 1 | _ => none) rfl rfl hI rfl rfl rfl ?_; rintro v H1 ⟨rfl, rfl⟩; refine ⟨⟨rfl, rfl, rfl, rfl⟩, ?_⟩; (try simp only [two]); (try simp only [AV.ren]); (try simp only [renT]); (try simp only [AT.ren]); (try simp only [A.ren]); (try (rw [ptr_ren]; rotate_left; exact rfl)); (try (rw [slc_ren]; rotate_left; exact rfl)); (try simp only [S.ren]))
        (repeat (first | refine aC ?_ | refine aK ?_ | refine ⟨fun _ => ?_, fun h => absurd h (by decide)⟩ | refine ⟨fun h => absurd h (by decide), fun _ => ?_⟩))
        exact ⟨(fun i => match i with | 0 => some 0 | 1 => some 1 | 2 => some 2 | 3 => some 3 | 4 => some 6 | 5 => some 7 | 6 => some 5 | 7 => some 4 | _ => none), by exact wI⟩

  refine vc_ok TYok mixedO _ _ _ _ ?_
  have q2 : likeB ⟨f, v, xs⟩ ⟨f, v, xs⟩ = true := likeB_refl _
  have q3 : likeB ⟨g', u, ys⟩ ⟨g', u, ys⟩ = true := likeB_refl _
  (repeat (first | refine aC ?_ | refine aK ?_ | refine ⟨fun _ => ?_, fun h => absurd h (by decide)⟩ | refine ⟨fun h => absurd h (by decide), fun _ => ?_⟩))
  (refine call_lift (Add_c f v n xs hl (by omega) g' u m ys hl2 (by omega)) (fun i => match i with | 0 => some 4 | 1 => some 5 | _ => none) rfl rfl hI rfl rfl rfl ?_; rintro v H1 ⟨rfl, rfl⟩; refine ⟨⟨rfl, rfl, rfl, rfl⟩, ?_⟩; (try simp only [two]); (try simp only [AV.ren]); (try simp only [renT]); (try simp only [AT.ren]); (try simp only [A.ren]); (try (rw [ptr_ren]; rotate_left; exact rfl)); (try (rw [slc_ren]; rotate_left; exact rfl)); (try simp only [S.ren]))
  (repeat (first | refine aC ?_ | refine aK ?_ | refine ⟨fun _ => ?_, fun h => absurd h (by decide)⟩ | refine ⟨fun h => absurd h (by decide), fun _ => ?_⟩))
  (refine call_lift (refAdd_c f v n xs hl (by omega) g' u m ys hl2 (by omega)) (fun i => match i with | 0 => some 0 | 1 => some 1 | _ => none) rfl rfl hI rfl rfl rfl ?_; rintro v H1 ⟨rfl, rfl⟩; refine ⟨⟨rfl, rfl, rfl, rfl⟩, ?_⟩; (try simp only [two]); (try simp only [AV.ren]); (try simp only [renT]); (try simp only [AT.ren]); (try simp only [A.ren]); (try (rw [ptr_ren]; rotate_left; exact rfl)); (try (rw [slc_ren]; rotate_left; exact rfl)); (try simp only [S.ren]))
  have hc_add : (addV ⟨f, v, xs⟩ ⟨g', u, ys⟩).1.sl.length ≤ 64 := addV_len _ _
  generalize addV ⟨f, v, xs⟩ ⟨g', u, ys⟩ = cv at *
  obtain ⟨⟨cf, cw, cs⟩, ce⟩ := cv
  dsimp only at hc_add ⊢
  (repeat (first | refine aC ?_ | refine aK ?_ | refine ⟨fun _ => ?_, fun h => absurd h (by decide)⟩ | refine ⟨fun h => absurd h (by decide), fun _ => ?_⟩))
  (refine call_lift (told_c cf cw cf cw ce ce cs.length cs.length cs cs rfl rfl (by omega) (by omega)) (fun i => match i with | 0 => some 8 | 1 => some 10 | _ => none) rfl rfl hI rfl rfl rfl ?_)
  rintro w H1 ⟨rfl, zs, hzs, rfl⟩
  refine ⟨⟨rfl, rfl, rfl, rfl⟩, ?_⟩
  ((try simp only [two]); (try simp only [AV.ren]); (try simp only [renT]); (try simp only [AT.ren]); (try simp only [A.ren]); (try (rw [ptr_ren]; rotate_left; exact rfl)); (try (rw [slc_ren]; rotate_left; exact rfl)); (try simp only [S.ren]))
  have qt : (!(likeB ⟨cf, cw, cs⟩ ⟨cf, cw, cs⟩ && (ce == ce))) = false := by rw [likeB_refl]; simp
  (repeat (first | refine aC ?_ | refine aK ?_ | refine ⟨fun _ => ?_, fun h => absurd h (by decide)⟩ | refine ⟨fun h => absurd h (by decide), fun _ => ?_⟩))
  (first | refine brTT (qt) ?_ | refine brTF (qt) ?_ | refine brFT (qt) ?_ | refine brFF (qt) ?_)
  clear qt hc_add
  (repeat (first | refine aC ?_ | refine aK ?_ | refine ⟨fun _ => ?_, fun h => absurd h (by decide)⟩ | refine ⟨fun h => absurd h (by decide), fun _ => ?_⟩))
  (refine call_lift (Join_c f v n xs hl (by omega) g' u m ys hl2 (by omega)) (fun i => match i with | 0 => some 4 | 1 => some 5 | _ => none) rfl rfl hI rfl rfl rfl ?_; rintro v H1 ⟨rfl, rfl⟩; refine ⟨⟨rfl, rfl, rfl, rfl⟩, ?_⟩; (try simp only [two]); (try simp only [AV.ren]); (try simp only [renT]); (try simp only [AT.ren]); (try simp only [A.ren]); (try (rw [ptr_ren]; rotate_left; exact rfl)); (try (rw [slc_ren]; rotate_left; exact rfl)); (try simp only [S.ren]))
  (repeat (first | refine aC ?_ | refine aK ?_ | refine ⟨fun _ => ?_, fun h => absurd h (by decide)⟩ | refine ⟨fun h => absurd h (by decide), fun _ => ?_⟩))
  (refine call_lift (refJoin_c f v n xs hl (by omega) g' u m ys hl2 (by omega)) (fun i => match i with | 0 => some 0 | 1 => some 1 | _ => none) rfl rfl hI rfl rfl rfl ?_; rintro v H1 ⟨rfl, rfl⟩; refine ⟨⟨rfl, rfl, rfl, rfl⟩, ?_⟩; (try simp only [two]); (try simp only [AV.ren]); (try simp only [renT]); (try simp only [AT.ren]); (try simp only [A.ren]); (try (rw [ptr_ren]; rotate_left; exact rfl)); (try (rw [slc_ren]; rotate_left; exact rfl)); (try simp only [S.ren]))
  have hc_join : (joinV ⟨f, v, xs⟩ ⟨g', u, ys⟩).1.sl.length ≤ 64 := joinV_len _ _
  generalize joinV ⟨f, v, xs⟩ ⟨g', u, ys⟩ = cv at *
  obtain ⟨⟨cf, cw, cs⟩, ce⟩ := cv
  dsimp only at hc_join ⊢
  (repeat (first | refine aC ?_ | refine aK ?_ | refine ⟨fun _ => ?_, fun h => absurd h (by decide)⟩ | refine ⟨fun h => absurd h (by decide), fun _ => ?_⟩))
  (refine call_lift (told_c cf cw cf cw ce ce cs.length cs.length cs cs rfl rfl (by omega) (by omega)) (fun i => match i with | 0 => some 12 | 1 => some 13 | _ => none) rfl rfl hI rfl rfl rfl ?_)
  rintro w H1 ⟨rfl, zs, hzs, rfl⟩
  refine ⟨⟨rfl, rfl, rfl, rfl⟩, ?_⟩
  ((try simp only [two]); (try simp only [AV.ren]); (try simp only [renT]); (try simp only [AT.ren]); (try simp only [A.ren]); (try (rw [ptr_ren]; rotate_left; exact rfl)); (try (rw [slc_ren]; rotate_left; exact rfl)); (try simp only [S.ren]))
  have qt : (!(likeB ⟨cf, cw, cs⟩ ⟨cf, cw, cs⟩ && (ce == ce))) = false := by rw [likeB_refl]; simp
  (repeat (first | refine aC ?_ | refine aK ?_ | refine ⟨fun _ => ?_, fun h => absurd h (by decide)⟩ | refine ⟨fun h => absurd h (by decide), fun _ => ?_⟩))
  (first | refine brTT (qt) ?_ | refine brTF (qt) ?_ | refine brFT (qt) ?_ | refine brFF (qt) ?_)
  clear qt hc_join
  (repeat (first | refine aC ?_ | refine aK ?_ | refine ⟨fun _ => ?_, fun h => absurd h (by decide)⟩ | refine ⟨fun h => absurd h (by decide), fun _ => ?_⟩))
  (refine call_lift (Flip_c f v n xs hl (by omega)) (fun i => match i with | 0 => some 4 | _ => none) rfl rfl hI rfl rfl rfl ?_; rintro v H1 ⟨rfl, rfl⟩; refine ⟨⟨rfl, rfl, rfl, rfl⟩, ?_⟩; (try simp only [two]); (try simp only [AV.ren]); (try simp only [renT]); (try simp only [AT.ren]); (try simp only [A.ren]); (try (rw [ptr_ren]; rotate_left; exact rfl)); (try (rw [slc_ren]; rotate_left; exact rfl)); (try simp only [S.ren]))
  (repeat (first | refine aC ?_ | refine aK ?_ | refine ⟨fun _ => ?_, fun h => absurd h (by decide)⟩ | refine ⟨fun h => absurd h (by decide), fun _ => ?_⟩))
  (refine call_lift (refFlip_c f v n xs hl (by omega)) (fun i => match i with | 0 => some 0 | _ => none) rfl rfl hI rfl rfl rfl ?_; rintro v H1 ⟨rfl, rfl⟩; refine ⟨⟨rfl, rfl, rfl, rfl⟩, ?_⟩; (try simp only [two]); (try simp only [AV.ren]); (try simp only [renT]); (try simp only [AT.ren]); (try simp only [A.ren]); (try (rw [ptr_ren]; rotate_left; exact rfl)); (try (rw [slc_ren]; rotate_left; exact rfl)); (try simp only [S.ren]))
  have hc_flip : (flipV ⟨f, v, xs⟩).1.sl.length ≤ 64 := flipV_len _
  generalize flipV ⟨f, v, xs⟩ = cv at *
  obtain ⟨⟨cf, cw, cs⟩, ce⟩ := cv
  dsimp only at hc_flip ⊢
  (repeat (first | refine aC ?_ | refine aK ?_ | refine ⟨fun _ => ?_, fun h => absurd h (by decide)⟩ | refine ⟨fun h => absurd h (by decide), fun _ => ?_⟩))
  (refine call_lift (told_c cf cw cf cw ce ce cs.length cs.length cs cs rfl rfl (by omega) (by omega)) (fun i => match i with | 0 => some 14 | 1 => some 15 | _ => none) rfl rfl hI rfl rfl rfl ?_)
  rintro w H1 ⟨rfl, zs, hzs, rfl⟩
  refine ⟨⟨rfl, rfl, rfl, rfl⟩, ?_⟩
  ((try simp only [two]); (try simp only [AV.ren]); (try simp only [renT]); (try simp only [AT.ren]); (try simp only [A.ren]); (try (rw [ptr_ren]; rotate_left; exact rfl)); (try (rw [slc_ren]; rotate_left; exact rfl)); (try simp only [S.ren]))
  have qt : (!(likeB ⟨cf, cw, cs⟩ ⟨cf, cw, cs⟩ && (ce == ce))) = false := by rw [likeB_refl]; simp
  (repeat (first | refine aC ?_ | refine aK ?_ | refine ⟨fun _ => ?_, fun h => absurd h (by decide)⟩ | refine ⟨fun h => absurd h (by decide), fun _ => ?_⟩))
  (first | refine brTT (qt) ?_ | refine brTF (qt) ?_ | refine brFT (qt) ?_ | refine brFF (qt) ?_)
  clear qt hc_flip
  (repeat (first | refine aC ?_ | refine aK ?_ | refine ⟨fun _ => ?_, fun h => absurd h (by decide)⟩ | refine ⟨fun h => absurd h (by decide), fun _ => ?_⟩))
  (refine call_lift (Tilt_c f v p n xs hl (by omega)) (fun i => match i with | 0 => some 4 | _ => none) rfl rfl hI rfl rfl rfl ?_; rintro v H1 ⟨rfl, rfl⟩; refine ⟨⟨rfl, rfl, rfl, rfl⟩, ?_⟩; (try simp only [two]); (try simp only [AV.ren]); (try simp only [renT]); (try simp only [AT.ren]); (try simp only [A.ren]); (try (rw [ptr_ren]; rotate_left; exact rfl)); (try (rw [slc_ren]; rotate_left; exact rfl)); (try simp only [S.ren]))
  (repeat (first | refine aC ?_ | refine aK ?_ | refine ⟨fun _ => ?_, fun h => absurd h (by decide)⟩ | refine ⟨fun h => absurd h (by decide), fun _ => ?_⟩))
  (refine call_lift (refTilt_c f v p n xs hl (by omega)) (fun i => match i with | 0 => some 0 | _ => none) rfl rfl hI rfl rfl rfl ?_; rintro v H1 ⟨rfl, rfl⟩; refine ⟨⟨rfl, rfl, rfl, rfl⟩, ?_⟩; (try simp only [two]); (try simp only [AV.ren]); (try simp only [renT]); (try simp only [AT.ren]); (try simp only [A.ren]); (try (rw [ptr_ren]; rotate_left; exact rfl)); (try (rw [slc_ren]; rotate_left; exact rfl)); (try simp only [S.ren]))
  have hc_tilt : (tiltV ⟨f, v, xs⟩ p).1.sl.length ≤ 64 := tiltV_len _ _
  generalize tiltV ⟨f, v, xs⟩ p = cv at *
  obtain ⟨⟨cf, cw, cs⟩, ce⟩ := cv
  dsimp only at hc_tilt ⊢
  (repeat (first | refine aC ?_ | refine aK ?_ | refine ⟨fun _ => ?_, fun h => absurd h (by decide)⟩ | refine ⟨fun h => absurd h (by decide), fun _ => ?_⟩))
  (refine call_lift (told_c cf cw cf cw ce ce cs.length cs.length cs cs rfl rfl (by omega) (by omega)) (fun i => match i with | 0 => some 16 | 1 => some 17 | _ => none) rfl rfl hI rfl rfl rfl ?_)
  rintro w H1 ⟨rfl, zs, hzs, rfl⟩
  refine ⟨⟨rfl, rfl, rfl, rfl⟩, ?_⟩
  ((try simp only [two]); (try simp only [AV.ren]); (try simp only [renT]); (try simp only [AT.ren]); (try simp only [A.ren]); (try (rw [ptr_ren]; rotate_left; exact rfl)); (try (rw [slc_ren]; rotate_left; exact rfl)); (try simp only [S.ren]))
  have qt : (!(likeB ⟨cf, cw, cs⟩ ⟨cf, cw, cs⟩ && (ce == ce))) = false := by rw [likeB_refl]; simp
  (repeat (first | refine aC ?_ | refine aK ?_ | refine ⟨fun _ => ?_, fun h => absurd h (by decide)⟩ | refine ⟨fun h => absurd h (by decide), fun _ => ?_⟩))
  (first | refine brTT (qt) ?_ | refine brTF (qt) ?_ | refine brFT (qt) ?_ | refine brFF (qt) ?_)
  clear qt hc_tilt
  (repeat (first | refine aC ?_ | refine aK ?_ | refine ⟨fun _ => ?_, fun h => absurd h (by decide)⟩ | refine ⟨fun h => absurd h (by decide), fun _ => ?_⟩))
  (refine call_lift (Move_c f v x y n xs hl (by omega)) (fun i => match i with | 0 => some 4 | _ => none) rfl rfl hI rfl rfl rfl ?_; rintro v H1 ⟨rfl, rfl⟩; refine ⟨⟨rfl, rfl, rfl, rfl⟩, ?_⟩; (try simp only [two]); (try simp only [AV.ren]); (try simp only [renT]); (try simp only [AT.ren]); (try simp only [A.ren]); (try (rw [ptr_ren]; rotate_left; exact rfl)); (try (rw [slc_ren]; rotate_left; exact rfl)); (try simp only [S.ren]))
  (repeat (first | refine aC ?_ | refine aK ?_ | refine ⟨fun _ => ?_, fun h => absurd h (by decide)⟩ | refine ⟨fun h => absurd h (by decide), fun _ => ?_⟩))
  (refine call_lift (refMove_c f v x y n xs hl (by omega)) (fun i => match i with | 0 => some 0 | _ => none) rfl rfl hI rfl rfl rfl ?_; rintro v H1 ⟨rfl, rfl⟩; refine ⟨⟨rfl, rfl, rfl, rfl⟩, ?_⟩; (try simp only [two]); (try simp only [AV.ren]); (try simp only [renT]); (try simp only [AT.ren]); (try simp only [A.ren]); (try (rw [ptr_ren]; rotate_left; exact rfl)); (try (rw [slc_ren]; rotate_left; exact rfl)); (try simp only [S.ren]))
  have hc_move : (moveV ⟨f, v, xs⟩ x y).1.sl.length ≤ 64 := moveV_len _ _ _
  generalize moveV ⟨f, v, xs⟩ x y = cv at *
  obtain ⟨⟨cf, cw, cs⟩, ce⟩ := cv
  dsimp only at hc_move ⊢
  (repeat (first | refine aC ?_ | refine aK ?_ | refine ⟨fun _ => ?_, fun h => absurd h (by decide)⟩ | refine ⟨fun h => absurd h (by decide), fun _ => ?_⟩))
  (refine call_lift (told_c cf cw cf cw ce ce cs.length cs.length cs cs rfl rfl (by omega) (by omega)) (fun i => match i with | 0 => some 18 | 1 => some 19 | _ => none) rfl rfl hI rfl rfl rfl ?_)
  rintro w H1 ⟨rfl, zs, hzs, rfl⟩
  refine ⟨⟨rfl, rfl, rfl, rfl⟩, ?_⟩
  ((try simp only [two]); (try simp only [AV.ren]); (try simp only [renT]); (try simp only [AT.ren]); (try simp only [A.ren]); (try (rw [ptr_ren]; rotate_left; exact rfl)); (try (rw [slc_ren]; rotate_left; exact rfl)); (try simp only [S.ren]))
  have qt : (!(likeB ⟨cf, cw, cs⟩ ⟨cf, cw, cs⟩ && (ce == ce))) = false := by rw [likeB_refl]; simp
  (repeat (first | refine aC ?_ | refine aK ?_ | refine ⟨fun _ => ?_, fun h => absurd h (by decide)⟩ | refine ⟨fun h => absurd h (by decide), fun _ => ?_⟩))
  (first | refine brTT (qt) ?_ | refine brTF (qt) ?_ | refine brFT (qt) ?_ | refine brFF (qt) ?_)
  clear qt hc_move
  (repeat (first | refine aC ?_ | refine aK ?_ | refine ⟨fun _ => ?_, fun h => absurd h (by decide)⟩ | refine ⟨fun h => absurd h (by decide), fun _ => ?_⟩))
  (refine call_lift (Part_c f v x y n xs hl (by omega)) (fun i => match i with | 0 => some 4 | _ => none) rfl rfl hI rfl rfl rfl ?_; rintro v H1 ⟨rfl, rfl⟩; refine ⟨⟨rfl, rfl, rfl, rfl⟩, ?_⟩; (try simp only [two]); (try simp only [AV.ren]); (try simp only [renT]); (try simp only [AT.ren]); (try simp only [A.ren]); (try (rw [ptr_ren]; rotate_left; exact rfl)); (try (rw [slc_ren]; rotate_left; exact rfl)); (try simp only [S.ren]))
  (repeat (first | refine aC ?_ | refine aK ?_ | refine ⟨fun _ => ?_, fun h => absurd h (by decide)⟩ | refine ⟨fun h => absurd h (by decide), fun _ => ?_⟩))
  (refine call_lift (refPart_c f v x y n xs hl (by omega)) (fun i => match i with | 0 => some 0 | _ => none) rfl rfl hI rfl rfl rfl ?_; rintro v H1 ⟨rfl, rfl⟩; refine ⟨⟨rfl, rfl, rfl, rfl⟩, ?_⟩; (try simp only [two]); (try simp only [AV.ren]); (try simp only [renT]); (try simp only [AT.ren]); (try simp only [A.ren]); (try (rw [ptr_ren]; rotate_left; exact rfl)); (try (rw [slc_ren]; rotate_left; exact rfl)); (try simp only [S.ren]))
  have hc_part : (partV ⟨f, v, xs⟩ x y).1.sl.length ≤ 64 := partV_len _ _ _
  generalize partV ⟨f, v, xs⟩ x y = cv at *
  obtain ⟨⟨cf, cw, cs⟩, ce⟩ := cv
  dsimp only at hc_part ⊢
  (repeat (first | refine aC ?_ | refine aK ?_ | refine ⟨fun _ => ?_, fun h => absurd h (by decide)⟩ | refine ⟨fun h => absurd h (by decide), fun _ => ?_⟩))
  (refine call_lift (told_c cf cw cf cw ce ce cs.length cs.length cs cs rfl rfl (by omega) (by omega)) (fun i => match i with | 0 => some 20 | 1 => some 21 | _ => none) rfl rfl hI rfl rfl rfl ?_)
  rintro w H1 ⟨rfl, zs, hzs, rfl⟩
  refine ⟨⟨rfl, rfl, rfl, rfl⟩, ?_⟩
  ((try simp only [two]); (try simp only [AV.ren]); (try simp only [renT]); (try simp only [AT.ren]); (try simp only [A.ren]); (try (rw [ptr_ren]; rotate_left; exact rfl)); (try (rw [slc_ren]; rotate_left; exact rfl)); (try simp only [S.ren]))
  have qt : (likeB ⟨cf, cw, cs⟩ ⟨cf, cw, cs⟩ && (ce == ce)) = true := by rw [likeB_refl]; simp
  (repeat (first | refine aC ?_ | refine aK ?_ | refine ⟨fun _ => ?_, fun h => absurd h (by decide)⟩ | refine ⟨fun h => absurd h (by decide), fun _ => ?_⟩))
  (first | refine brTT (qt) ?_ | refine brTF (qt) ?_ | refine brFT (qt) ?_ | refine brFF (qt) ?_)
  clear qt hc_part
  (repeat (first | refine aC ?_ | refine aK ?_ | refine ⟨fun _ => ?_, fun h => absurd h (by decide)⟩ | refine ⟨fun h => absurd h (by decide), fun _ => ?_⟩))
  (refine call_lift (alike_c f v f v n n xs xs hl hl (by omega) (by omega)) (fun i => match i with | 0 => some 0 | 1 => some 4 | _ => none) rfl rfl hI rfl rfl rfl ?_; rintro v H1 ⟨rfl, rfl⟩; refine ⟨⟨rfl, rfl, rfl, rfl⟩, ?_⟩; (try simp only [two]); (try simp only [AV.ren]); (try simp only [renT]); (try simp only [AT.ren]); (try simp only [A.ren]); (try (rw [ptr_ren]; rotate_left; exact rfl)); (try (rw [slc_ren]; rotate_left; exact rfl)); (try simp only [S.ren]))
  (repeat (first | refine aC ?_ | refine aK ?_ | refine ⟨fun _ => ?_, fun h => absurd h (by decide)⟩ | refine ⟨fun h => absurd h (by decide), fun _ => ?_⟩))
  (first | refine brTT (q2) ?_ | refine brTF (q2) ?_ | refine brFT (q2) ?_ | refine brFF (q2) ?_)
  (repeat (first | refine aC ?_ | refine aK ?_ | refine ⟨fun _ => ?_, fun h => absurd h (by decide)⟩ | refine ⟨fun h => absurd h (by decide), fun _ => ?_⟩))
  (refine call_lift (alike_c g' u g' u m m ys ys hl2 hl2 (by omega) (by omega)) (fun i => match i with | 0 => some 1 | 1 => some 5 | _ => none) rfl rfl hI rfl rfl rfl ?_; rintro v H1 ⟨rfl, rfl⟩; refine ⟨⟨rfl, rfl, rfl, rfl⟩, ?_⟩; (try simp only [two]); (try simp only [AV.ren]); (try simp only [renT]); (try simp only [AT.ren]); (try simp only [A.ren]); (try (rw [ptr_ren]; rotate_left; exact rfl)); (try (rw [slc_ren]; rotate_left; exact rfl)); (try simp only [S.ren]))
  (repeat (first | refine aC ?_ | refine aK ?_ | refine ⟨fun _ => ?_, fun h => absurd h (by decide)⟩ | refine ⟨fun h => absurd h (by decide), fun _ => ?_⟩))
  (first | refine brTT (q3) ?_ | refine brTF (q3) ?_ | refine brFT (q3) ?_ | refine brFF (q3) ?_)
  (repeat (first | refine aC ?_ | refine aK ?_ | refine ⟨fun _ => ?_, fun h => absurd h (by decide)⟩ | refine ⟨fun h => absurd h (by decide), fun _ => ?_⟩))
  (refine call_lift (alive_c) (fun i => match i with | 0 => none | _ => none) rfl rfl hI rfl rfl rfl ?_; rintro v H1 ⟨rfl, rfl⟩; refine ⟨⟨rfl, rfl, rfl, rfl⟩, ?_⟩; (try simp only [two]); (try simp only [AV.ren]); (try simp only [renT]); (try simp only [AT.ren]); (try simp only [A.ren]); (try (rw [ptr_ren]; rotate_left; exact rfl)); (try (rw [slc_ren]; rotate_left; exact rfl)); (try simp only [S.ren]))
  (repeat (first | refine aC ?_ | refine aK ?_ | refine ⟨fun _ => ?_, fun h => absurd h (by decide)⟩ | refine ⟨fun h => absurd h (by decide), fun _ => ?_⟩))
  exact ⟨(fun i => match i with | 0 => some 0 | 1 => some 1 | _ => none), .boo true, [rowB false xs, rowB false ys], by exact wI, rfl, rfl⟩

end Go.Proofs.Ytdepnhnpklbmiaa
