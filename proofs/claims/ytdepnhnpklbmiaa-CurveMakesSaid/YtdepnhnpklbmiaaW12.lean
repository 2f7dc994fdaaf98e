/- The specification's sum of curves. -/
import Derived.Test.YtdepnhnpklbmiaaE21
import Derived.Test.YtdepnhnpklbmiaaW11
import Derived.Test.YtdepnhnpklbmiaaE20
import Derived.Test.YtdepnhnpklbmiaaA6
namespace Go.Proofs.Ytdepnhnpklbmiaa
open Go.RowKit
set_option linter.unusedSimpArgs false
set_option linter.unusedVariables false
theorem and_okC {a b : Cu} (h : okC a = true) (k : okC b = true) : okC a = true ∧ okC b = true := ⟨h, k⟩
set_option maxRecDepth 20000 in
set_option maxHeartbeats 8000000 in
theorem refAdd_c (f v : Int) (n : Nat) (xs : List Int) (hl : xs.length = n) (hn : n ≤ 9223372036854775807) (g' u : Int) (m : Nat) (ys : List Int) (hl2 : ys.length = m) (hm : m ≤ 9223372036854775807) :
    CallA Try.prog 27 [cuA f v 0 n, cuA g' u 1 m] [rowB false xs, rowB false ys] (CuK 2 [rowB false xs, rowB false ys] (addV ⟨f, v, xs⟩ ⟨g', u, ys⟩)) := by
  refine call_of_vc TYok mixedO Try.func27 rfl rfl (Nat.le_of_ble_eq_true rfl) ?_
  (repeat (first | refine aC ?_ | refine aK ?_ | refine ⟨fun _ => ?_, fun h => absurd h (by decide)⟩ | refine ⟨fun h => absurd h (by decide), fun _ => ?_⟩))
  (refine call_lift (refValid_c f v n xs hl hn) (fun i => match i with | 0 => some 0 | _ => none) rfl rfl hI rfl rfl rfl ?_; rintro v H1 ⟨rfl, rfl⟩; refine ⟨⟨rfl, rfl, rfl, rfl⟩, ?_⟩; (try simp only [two]); (try simp only [AV.ren]); (try simp only [renT]); (try simp only [AT.ren]); (try simp only [A.ren]); (try (rw [ptr_ren]; rotate_left; exact rfl)); (try (rw [slc_ren]; rotate_left; exact rfl)); (try simp only [S.ren]))
  (repeat (first | refine aC ?_ | refine aK ?_ | refine ⟨fun _ => ?_, fun h => absurd h (by decide)⟩ | refine ⟨fun h => absurd h (by decide), fun _ => ?_⟩))
  by_cases hc1 : okC ⟨f, v, xs⟩ = true
  · have q : (!okC ⟨f, v, xs⟩) = false := by rw [hc1]; rfl
    (first | refine brTT (q) ?_ | refine brTF (q) ?_ | refine brFT (q) ?_ | refine brFF (q) ?_)
    (repeat (first | refine aC ?_ | refine aK ?_ | refine ⟨fun _ => ?_, fun h => absurd h (by decide)⟩ | refine ⟨fun h => absurd h (by decide), fun _ => ?_⟩))
    (refine call_lift (refValid_c g' u m ys hl2 hm) (fun i => match i with | 0 => some 1 | _ => none) rfl rfl hI rfl rfl rfl ?_; rintro v H1 ⟨rfl, rfl⟩; refine ⟨⟨rfl, rfl, rfl, rfl⟩, ?_⟩; (try simp only [two]); (try simp only [AV.ren]); (try simp only [renT]); (try simp only [AT.ren]); (try simp only [A.ren]); (try (rw [ptr_ren]; rotate_left; exact rfl)); (try (rw [slc_ren]; rotate_left; exact rfl)); (try simp only [S.ren]))
    (repeat (first | refine aC ?_ | refine aK ?_ | refine ⟨fun _ => ?_, fun h => absurd h (by decide)⟩ | refine ⟨fun h => absurd h (by decide), fun _ => ?_⟩))
    by_cases hc2 : okC ⟨g', u, ys⟩ = true
    · have q' : (!okC ⟨g', u, ys⟩) = false := by rw [hc2]; rfl
      (first | refine brTT (q') ?_ | refine brTF (q') ?_ | refine brFT (q') ?_ | refine brFF (q') ?_)
      have hn4 : n ≤ 64 := by have := (okC_true hc1).2.2.1; show n ≤ 64; rw [← hl]; exact this
      have hm4 : m ≤ 64 := by have := (okC_true hc2).2.2.1; show m ≤ 64; rw [← hl2]; exact this
      have hf := okC_fr hc1
      have hg := okC_fr hc2
      dsimp only at hf hg
      have hvl : (vals ⟨f, v, xs⟩ (n + 1)).length = n + 1 := vals_len _ _
      have hvl2 : (vals ⟨g', u, ys⟩ (m + 1)).length = m + 1 := vals_len _ _
      (repeat (first | refine aC ?_ | refine ⟨fun _ => ?_, fun h => absurd h (by decide)⟩ | refine ⟨fun h => absurd h (by decide), fun _ => ?_⟩))
      (repeat (rename_i hx_; clear hx_))
      refine cut_rule [(2, .t (.a (.s (.ptr 2 0)))), (3, .t (.a (.s (.ptr 3 0)))), (4, .t (.a (.s (.ptr 4 0))))] [rowB false xs, rowB false ys, cB f v 0 n, cB g' u 1 m, zB] some (by exact wI) ?_
      (refine drawn_ruleS TYok mixedO [] (.quiet 0 [] (.quiet 2 [] (.three 1 4 5 [] [] [] (.three 3 4 5 [] [] [] (.two 4 5 [] [] (.make 5 [] (.make 6 [] (.make 7 [] .done))) (.make 4 [] (.make 6 [] (.make 7 [] .done)))) (.two 3 5 [] [] (.make 5 [] (.make 6 [] (.make 7 [] .done))) (.make 3 [] (.make 6 [] (.make 7 [] .done)))) (.two 3 4 [] [] (.make 4 [] (.make 6 [] (.make 7 [] .done))) (.make 3 [] (.make 6 [] (.make 7 [] .done))))) (.two 1 5 [] [] (.two 3 5 [] [] (.make 5 [] (.make 6 [] (.make 7 [] .done))) (.make 3 [] (.make 6 [] (.make 7 [] .done)))) (.make 1 [] (.make 3 [] (.make 6 [] (.make 7 [] .done))))) (.two 1 4 [] [] (.two 3 4 [] [] (.make 4 [] (.make 6 [] (.make 7 [] .done))) (.make 3 [] (.make 6 [] (.make 7 [] .done)))) (.make 1 [] (.make 3 [] (.make 6 [] (.make 7 [] .done)))))))) (by kernel_rfl) ?_)
      (repeat (first | refine aC ?_ | refine aK ?_ | refine ⟨fun _ => ?_, fun h => absurd h (by decide)⟩ | refine ⟨fun h => absurd h (by decide), fun _ => ?_⟩))
      refine And.intro ?_ (And.intro ?_ ?_)
      focus
        skip
        (repeat (first | refine aC ?_ | refine aK ?_ | refine ⟨fun _ => ?_, fun h => absurd h (by decide)⟩ | refine ⟨fun h => absurd h (by decide), fun _ => ?_⟩))
        (refine call_lift (Out_c f v n xs hl hc1) (fun i => match i with | 0 => some 0 | _ => none) rfl rfl hI rfl rfl rfl ?_; rintro v H1 ⟨rfl, rfl⟩; refine ⟨⟨rfl, rfl, rfl, rfl⟩, ?_⟩; (try simp only [two]); (try simp only [AV.ren]); (try simp only [renT]); (try simp only [AT.ren]); (try simp only [A.ren]); (try (rw [ptr_ren]; rotate_left; exact rfl)); (try (rw [slc_ren]; rotate_left; exact rfl)); (try simp only [S.ren]))
        (repeat (first | refine aC ?_ | refine aK ?_ | refine ⟨fun _ => ?_, fun h => absurd h (by decide)⟩ | refine ⟨fun h => absurd h (by decide), fun _ => ?_⟩))
        refine And.intro ?_ (And.intro ?_ ?_)
        focus
          skip
          (repeat (first | refine aC ?_ | refine aK ?_ | refine ⟨fun _ => ?_, fun h => absurd h (by decide)⟩ | refine ⟨fun h => absurd h (by decide), fun _ => ?_⟩))
          (refine call_lift (Out_c g' u m ys hl2 hc2) (fun i => match i with | 0 => some 1 | _ => none) rfl rfl hI rfl rfl rfl ?_; rintro v H1 ⟨rfl, rfl⟩; refine ⟨⟨rfl, rfl, rfl, rfl⟩, ?_⟩; (try simp only [two]); (try simp only [AV.ren]); (try simp only [renT]); (try simp only [AT.ren]); (try simp only [A.ren]); (try (rw [ptr_ren]; rotate_left; exact rfl)); (try (rw [slc_ren]; rotate_left; exact rfl)); (try simp only [S.ren]))
          (repeat (first | refine aC ?_ | refine aK ?_ | refine ⟨fun _ => ?_, fun h => absurd h (by decide)⟩ | refine ⟨fun h => absurd h (by decide), fun _ => ?_⟩))
          refine And.intro ?_ ?_
          focus
            skip
            (repeat (first | refine aC ?_ | refine ⟨fun _ => ?_, fun h => absurd h (by decide)⟩ | refine ⟨fun h => absurd h (by decide), fun _ => ?_⟩))
            (repeat (rename_i hx_; clear hx_))
            refine Or.inr (cut_rule [(4, .t (.a (.s (.ptr 2 0)))), (6, .t (.a (.s (.ptr 5 0)))), (7, .t (.a (.s (.ptr 6 0))))] [rowB false xs, rowB false ys, zB, rowB true (vals ⟨f, v, xs⟩ (n + 1)), rowB true (vals ⟨g', u, ys⟩ (m + 1)), qB f 3 (n + 1), qB g' 4 (m + 1)] (fun i => match i with | 0 => some 0 | 1 => some 1 | 2 => some 4 | 3 => some 5 | 4 => some 6 | 5 => some 7 | 6 => some 8 | _ => none) (by exact wI) ?rest)
          rotate_left 1
          focus
            skip
            (repeat (first | refine aC ?_ | refine ⟨fun _ => ?_, fun h => absurd h (by decide)⟩ | refine ⟨fun h => absurd h (by decide), fun _ => ?_⟩))
            (repeat (rename_i hx_; clear hx_))
            refine Or.inr (cut_rule [(4, .t (.a (.s (.ptr 2 0)))), (6, .t (.a (.s (.ptr 5 0)))), (7, .t (.a (.s (.ptr 6 0))))] [rowB false xs, rowB false ys, zB, rowB true (vals ⟨f, v, xs⟩ (n + 1)), rowB true (vals ⟨g', u, ys⟩ (m + 1)), qB f 3 (n + 1), qB g' 4 (m + 1)] (fun i => match i with | 0 => some 0 | 1 => some 1 | 2 => some 4 | 3 => some 5 | 4 => some 6 | 5 => some 8 | 6 => some 7 | _ => none) (by exact wI) ?rest)
        rotate_left 1
        focus
          skip
          (repeat (first | refine aC ?_ | refine aK ?_ | refine ⟨fun _ => ?_, fun h => absurd h (by decide)⟩ | refine ⟨fun h => absurd h (by decide), fun _ => ?_⟩))
          refine And.intro ?_ ?_
          focus
            skip
            (repeat (first | refine aC ?_ | refine aK ?_ | refine ⟨fun _ => ?_, fun h => absurd h (by decide)⟩ | refine ⟨fun h => absurd h (by decide), fun _ => ?_⟩))
            (refine call_lift (Out_c g' u m ys hl2 hc2) (fun i => match i with | 0 => some 1 | _ => none) rfl rfl hI rfl rfl rfl ?_; rintro v H1 ⟨rfl, rfl⟩; refine ⟨⟨rfl, rfl, rfl, rfl⟩, ?_⟩; (try simp only [two]); (try simp only [AV.ren]); (try simp only [renT]); (try simp only [AT.ren]); (try simp only [A.ren]); (try (rw [ptr_ren]; rotate_left; exact rfl)); (try (rw [slc_ren]; rotate_left; exact rfl)); (try simp only [S.ren]))
            (repeat (first | refine aC ?_ | refine ⟨fun _ => ?_, fun h => absurd h (by decide)⟩ | refine ⟨fun h => absurd h (by decide), fun _ => ?_⟩))
            (repeat (rename_i hx_; clear hx_))
            refine Or.inr (cut_rule [(4, .t (.a (.s (.ptr 2 0)))), (6, .t (.a (.s (.ptr 5 0)))), (7, .t (.a (.s (.ptr 6 0))))] [rowB false xs, rowB false ys, zB, rowB true (vals ⟨f, v, xs⟩ (n + 1)), rowB true (vals ⟨g', u, ys⟩ (m + 1)), qB f 3 (n + 1), qB g' 4 (m + 1)] (fun i => match i with | 0 => some 0 | 1 => some 1 | 2 => some 4 | 3 => some 5 | 4 => some 7 | 5 => some 6 | 6 => some 8 | _ => none) (by exact wI) ?rest)
          focus
            skip
            (repeat (first | refine aC ?_ | refine aK ?_ | refine ⟨fun _ => ?_, fun h => absurd h (by decide)⟩ | refine ⟨fun h => absurd h (by decide), fun _ => ?_⟩))
            (refine call_lift (Out_c g' u m ys hl2 hc2) (fun i => match i with | 0 => some 1 | _ => none) rfl rfl hI rfl rfl rfl ?_; rintro v H1 ⟨rfl, rfl⟩; refine ⟨⟨rfl, rfl, rfl, rfl⟩, ?_⟩; (try simp only [two]); (try simp only [AV.ren]); (try simp only [renT]); (try simp only [AT.ren]); (try simp only [A.ren]); (try (rw [ptr_ren]; rotate_left; exact rfl)); (try (rw [slc_ren]; rotate_left; exact rfl)); (try simp only [S.ren]))
            (repeat (first | refine aC ?_ | refine ⟨fun _ => ?_, fun h => absurd h (by decide)⟩ | refine ⟨fun h => absurd h (by decide), fun _ => ?_⟩))
            (repeat (rename_i hx_; clear hx_))
            refine Or.inr (cut_rule [(4, .t (.a (.s (.ptr 2 0)))), (6, .t (.a (.s (.ptr 5 0)))), (7, .t (.a (.s (.ptr 6 0))))] [rowB false xs, rowB false ys, zB, rowB true (vals ⟨f, v, xs⟩ (n + 1)), rowB true (vals ⟨g', u, ys⟩ (m + 1)), qB f 3 (n + 1), qB g' 4 (m + 1)] (fun i => match i with | 0 => some 0 | 1 => some 1 | 2 => some 4 | 3 => some 5 | 4 => some 8 | 5 => some 6 | 6 => some 7 | _ => none) (by exact wI) ?rest)
        focus
          skip
          (repeat (first | refine aC ?_ | refine aK ?_ | refine ⟨fun _ => ?_, fun h => absurd h (by decide)⟩ | refine ⟨fun h => absurd h (by decide), fun _ => ?_⟩))
          refine And.intro ?_ ?_
          focus
            skip
            (repeat (first | refine aC ?_ | refine aK ?_ | refine ⟨fun _ => ?_, fun h => absurd h (by decide)⟩ | refine ⟨fun h => absurd h (by decide), fun _ => ?_⟩))
            (refine call_lift (Out_c g' u m ys hl2 hc2) (fun i => match i with | 0 => some 1 | _ => none) rfl rfl hI rfl rfl rfl ?_; rintro v H1 ⟨rfl, rfl⟩; refine ⟨⟨rfl, rfl, rfl, rfl⟩, ?_⟩; (try simp only [two]); (try simp only [AV.ren]); (try simp only [renT]); (try simp only [AT.ren]); (try simp only [A.ren]); (try (rw [ptr_ren]; rotate_left; exact rfl)); (try (rw [slc_ren]; rotate_left; exact rfl)); (try simp only [S.ren]))
            (repeat (first | refine aC ?_ | refine ⟨fun _ => ?_, fun h => absurd h (by decide)⟩ | refine ⟨fun h => absurd h (by decide), fun _ => ?_⟩))
            (repeat (rename_i hx_; clear hx_))
            refine Or.inr (cut_rule [(4, .t (.a (.s (.ptr 2 0)))), (6, .t (.a (.s (.ptr 5 0)))), (7, .t (.a (.s (.ptr 6 0))))] [rowB false xs, rowB false ys, zB, rowB true (vals ⟨f, v, xs⟩ (n + 1)), rowB true (vals ⟨g', u, ys⟩ (m + 1)), qB f 3 (n + 1), qB g' 4 (m + 1)] (fun i => match i with | 0 => some 0 | 1 => some 1 | 2 => some 4 | 3 => some 5 | 4 => some 7 | 5 => some 8 | 6 => some 6 | _ => none) (by exact wI) ?rest)
          focus
            skip
            (repeat (first | refine aC ?_ | refine aK ?_ | refine ⟨fun _ => ?_, fun h => absurd h (by decide)⟩ | refine ⟨fun h => absurd h (by decide), fun _ => ?_⟩))
            (refine call_lift (Out_c g' u m ys hl2 hc2) (fun i => match i with | 0 => some 1 | _ => none) rfl rfl hI rfl rfl rfl ?_; rintro v H1 ⟨rfl, rfl⟩; refine ⟨⟨rfl, rfl, rfl, rfl⟩, ?_⟩; (try simp only [two]); (try simp only [AV.ren]); (try simp only [renT]); (try simp only [AT.ren]); (try simp only [A.ren]); (try (rw [ptr_ren]; rotate_left; exact rfl)); (try (rw [slc_ren]; rotate_left; exact rfl)); (try simp only [S.ren]))
            (repeat (first | refine aC ?_ | refine ⟨fun _ => ?_, fun h => absurd h (by decide)⟩ | refine ⟨fun h => absurd h (by decide), fun _ => ?_⟩))
            (repeat (rename_i hx_; clear hx_))
            refine Or.inr (cut_rule [(4, .t (.a (.s (.ptr 2 0)))), (6, .t (.a (.s (.ptr 5 0)))), (7, .t (.a (.s (.ptr 6 0))))] [rowB false xs, rowB false ys, zB, rowB true (vals ⟨f, v, xs⟩ (n + 1)), rowB true (vals ⟨g', u, ys⟩ (m + 1)), qB f 3 (n + 1), qB g' 4 (m + 1)] (fun i => match i with | 0 => some 0 | 1 => some 1 | 2 => some 4 | 3 => some 5 | 4 => some 8 | 5 => some 7 | 6 => some 6 | _ => none) (by exact wI) ?rest)
      rotate_left 1
      focus
        skip
        (repeat (first | refine aC ?_ | refine aK ?_ | refine ⟨fun _ => ?_, fun h => absurd h (by decide)⟩ | refine ⟨fun h => absurd h (by decide), fun _ => ?_⟩))
        refine And.intro ?_ ?_
        focus
          skip
          (repeat (first | refine aC ?_ | refine aK ?_ | refine ⟨fun _ => ?_, fun h => absurd h (by decide)⟩ | refine ⟨fun h => absurd h (by decide), fun _ => ?_⟩))
          (refine call_lift (Out_c f v n xs hl hc1) (fun i => match i with | 0 => some 0 | _ => none) rfl rfl hI rfl rfl rfl ?_; rintro v H1 ⟨rfl, rfl⟩; refine ⟨⟨rfl, rfl, rfl, rfl⟩, ?_⟩; (try simp only [two]); (try simp only [AV.ren]); (try simp only [renT]); (try simp only [AT.ren]); (try simp only [A.ren]); (try (rw [ptr_ren]; rotate_left; exact rfl)); (try (rw [slc_ren]; rotate_left; exact rfl)); (try simp only [S.ren]))
          (repeat (first | refine aC ?_ | refine aK ?_ | refine ⟨fun _ => ?_, fun h => absurd h (by decide)⟩ | refine ⟨fun h => absurd h (by decide), fun _ => ?_⟩))
          refine And.intro ?_ ?_
          focus
            skip
            (repeat (first | refine aC ?_ | refine aK ?_ | refine ⟨fun _ => ?_, fun h => absurd h (by decide)⟩ | refine ⟨fun h => absurd h (by decide), fun _ => ?_⟩))
            (refine call_lift (Out_c g' u m ys hl2 hc2) (fun i => match i with | 0 => some 1 | _ => none) rfl rfl hI rfl rfl rfl ?_; rintro v H1 ⟨rfl, rfl⟩; refine ⟨⟨rfl, rfl, rfl, rfl⟩, ?_⟩; (try simp only [two]); (try simp only [AV.ren]); (try simp only [renT]); (try simp only [AT.ren]); (try simp only [A.ren]); (try (rw [ptr_ren]; rotate_left; exact rfl)); (try (rw [slc_ren]; rotate_left; exact rfl)); (try simp only [S.ren]))
            (repeat (first | refine aC ?_ | refine ⟨fun _ => ?_, fun h => absurd h (by decide)⟩ | refine ⟨fun h => absurd h (by decide), fun _ => ?_⟩))
            (repeat (rename_i hx_; clear hx_))
            refine Or.inr (cut_rule [(4, .t (.a (.s (.ptr 2 0)))), (6, .t (.a (.s (.ptr 5 0)))), (7, .t (.a (.s (.ptr 6 0))))] [rowB false xs, rowB false ys, zB, rowB true (vals ⟨f, v, xs⟩ (n + 1)), rowB true (vals ⟨g', u, ys⟩ (m + 1)), qB f 3 (n + 1), qB g' 4 (m + 1)] (fun i => match i with | 0 => some 0 | 1 => some 1 | 2 => some 4 | 3 => some 6 | 4 => some 7 | 5 => some 5 | 6 => some 8 | _ => none) (by exact wI) ?rest)
          focus
            skip
            (repeat (first | refine aC ?_ | refine aK ?_ | refine ⟨fun _ => ?_, fun h => absurd h (by decide)⟩ | refine ⟨fun h => absurd h (by decide), fun _ => ?_⟩))
            (refine call_lift (Out_c g' u m ys hl2 hc2) (fun i => match i with | 0 => some 1 | _ => none) rfl rfl hI rfl rfl rfl ?_; rintro v H1 ⟨rfl, rfl⟩; refine ⟨⟨rfl, rfl, rfl, rfl⟩, ?_⟩; (try simp only [two]); (try simp only [AV.ren]); (try simp only [renT]); (try simp only [AT.ren]); (try simp only [A.ren]); (try (rw [ptr_ren]; rotate_left; exact rfl)); (try (rw [slc_ren]; rotate_left; exact rfl)); (try simp only [S.ren]))
            (repeat (first | refine aC ?_ | refine ⟨fun _ => ?_, fun h => absurd h (by decide)⟩ | refine ⟨fun h => absurd h (by decide), fun _ => ?_⟩))
            (repeat (rename_i hx_; clear hx_))
            refine Or.inr (cut_rule [(4, .t (.a (.s (.ptr 2 0)))), (6, .t (.a (.s (.ptr 5 0)))), (7, .t (.a (.s (.ptr 6 0))))] [rowB false xs, rowB false ys, zB, rowB true (vals ⟨f, v, xs⟩ (n + 1)), rowB true (vals ⟨g', u, ys⟩ (m + 1)), qB f 3 (n + 1), qB g' 4 (m + 1)] (fun i => match i with | 0 => some 0 | 1 => some 1 | 2 => some 4 | 3 => some 6 | 4 => some 8 | 5 => some 5 | 6 => some 7 | _ => none) (by exact wI) ?rest)
        focus
          skip
          (repeat (first | refine aC ?_ | refine aK ?_ | refine ⟨fun _ => ?_, fun h => absurd h (by decide)⟩ | refine ⟨fun h => absurd h (by decide), fun _ => ?_⟩))
          (refine call_lift (Out_c f v n xs hl hc1) (fun i => match i with | 0 => some 0 | _ => none) rfl rfl hI rfl rfl rfl ?_; rintro v H1 ⟨rfl, rfl⟩; refine ⟨⟨rfl, rfl, rfl, rfl⟩, ?_⟩; (try simp only [two]); (try simp only [AV.ren]); (try simp only [renT]); (try simp only [AT.ren]); (try simp only [A.ren]); (try (rw [ptr_ren]; rotate_left; exact rfl)); (try (rw [slc_ren]; rotate_left; exact rfl)); (try simp only [S.ren]))
          (repeat (first | refine aC ?_ | refine aK ?_ | refine ⟨fun _ => ?_, fun h => absurd h (by decide)⟩ | refine ⟨fun h => absurd h (by decide), fun _ => ?_⟩))
          (refine call_lift (Out_c g' u m ys hl2 hc2) (fun i => match i with | 0 => some 1 | _ => none) rfl rfl hI rfl rfl rfl ?_; rintro v H1 ⟨rfl, rfl⟩; refine ⟨⟨rfl, rfl, rfl, rfl⟩, ?_⟩; (try simp only [two]); (try simp only [AV.ren]); (try simp only [renT]); (try simp only [AT.ren]); (try simp only [A.ren]); (try (rw [ptr_ren]; rotate_left; exact rfl)); (try (rw [slc_ren]; rotate_left; exact rfl)); (try simp only [S.ren]))
          (repeat (first | refine aC ?_ | refine ⟨fun _ => ?_, fun h => absurd h (by decide)⟩ | refine ⟨fun h => absurd h (by decide), fun _ => ?_⟩))
          (repeat (rename_i hx_; clear hx_))
          refine Or.inr (cut_rule [(4, .t (.a (.s (.ptr 2 0)))), (6, .t (.a (.s (.ptr 5 0)))), (7, .t (.a (.s (.ptr 6 0))))] [rowB false xs, rowB false ys, zB, rowB true (vals ⟨f, v, xs⟩ (n + 1)), rowB true (vals ⟨g', u, ys⟩ (m + 1)), qB f 3 (n + 1), qB g' 4 (m + 1)] (fun i => match i with | 0 => some 0 | 1 => some 1 | 2 => some 4 | 3 => some 7 | 4 => some 8 | 5 => some 5 | 6 => some 6 | _ => none) (by exact wI) ?rest)
      focus
        skip
        (repeat (first | refine aC ?_ | refine aK ?_ | refine ⟨fun _ => ?_, fun h => absurd h (by decide)⟩ | refine ⟨fun h => absurd h (by decide), fun _ => ?_⟩))
        refine And.intro ?_ ?_
        focus
          skip
          (repeat (first | refine aC ?_ | refine aK ?_ | refine ⟨fun _ => ?_, fun h => absurd h (by decide)⟩ | refine ⟨fun h => absurd h (by decide), fun _ => ?_⟩))
          (refine call_lift (Out_c f v n xs hl hc1) (fun i => match i with | 0 => some 0 | _ => none) rfl rfl hI rfl rfl rfl ?_; rintro v H1 ⟨rfl, rfl⟩; refine ⟨⟨rfl, rfl, rfl, rfl⟩, ?_⟩; (try simp only [two]); (try simp only [AV.ren]); (try simp only [renT]); (try simp only [AT.ren]); (try simp only [A.ren]); (try (rw [ptr_ren]; rotate_left; exact rfl)); (try (rw [slc_ren]; rotate_left; exact rfl)); (try simp only [S.ren]))
          (repeat (first | refine aC ?_ | refine aK ?_ | refine ⟨fun _ => ?_, fun h => absurd h (by decide)⟩ | refine ⟨fun h => absurd h (by decide), fun _ => ?_⟩))
          refine And.intro ?_ ?_
          focus
            skip
            (repeat (first | refine aC ?_ | refine aK ?_ | refine ⟨fun _ => ?_, fun h => absurd h (by decide)⟩ | refine ⟨fun h => absurd h (by decide), fun _ => ?_⟩))
            (refine call_lift (Out_c g' u m ys hl2 hc2) (fun i => match i with | 0 => some 1 | _ => none) rfl rfl hI rfl rfl rfl ?_; rintro v H1 ⟨rfl, rfl⟩; refine ⟨⟨rfl, rfl, rfl, rfl⟩, ?_⟩; (try simp only [two]); (try simp only [AV.ren]); (try simp only [renT]); (try simp only [AT.ren]); (try simp only [A.ren]); (try (rw [ptr_ren]; rotate_left; exact rfl)); (try (rw [slc_ren]; rotate_left; exact rfl)); (try simp only [S.ren]))
            (repeat (first | refine aC ?_ | refine ⟨fun _ => ?_, fun h => absurd h (by decide)⟩ | refine ⟨fun h => absurd h (by decide), fun _ => ?_⟩))
            (repeat (rename_i hx_; clear hx_))
            refine Or.inr (cut_rule [(4, .t (.a (.s (.ptr 2 0)))), (6, .t (.a (.s (.ptr 5 0)))), (7, .t (.a (.s (.ptr 6 0))))] [rowB false xs, rowB false ys, zB, rowB true (vals ⟨f, v, xs⟩ (n + 1)), rowB true (vals ⟨g', u, ys⟩ (m + 1)), qB f 3 (n + 1), qB g' 4 (m + 1)] (fun i => match i with | 0 => some 0 | 1 => some 1 | 2 => some 4 | 3 => some 6 | 4 => some 7 | 5 => some 8 | 6 => some 5 | _ => none) (by exact wI) ?rest)
          focus
            skip
            (repeat (first | refine aC ?_ | refine aK ?_ | refine ⟨fun _ => ?_, fun h => absurd h (by decide)⟩ | refine ⟨fun h => absurd h (by decide), fun _ => ?_⟩))
            (refine call_lift (Out_c g' u m ys hl2 hc2) (fun i => match i with | 0 => some 1 | _ => none) rfl rfl hI rfl rfl rfl ?_; rintro v H1 ⟨rfl, rfl⟩; refine ⟨⟨rfl, rfl, rfl, rfl⟩, ?_⟩; (try simp only [two]); (try simp only [AV.ren]); (try simp only [renT]); (try simp only [AT.ren]); (try simp only [A.ren]); (try (rw [ptr_ren]; rotate_left; exact rfl)); (try (rw [slc_ren]; rotate_left; exact rfl)); (try simp only [S.ren]))
            (repeat (first | refine aC ?_ | refine ⟨fun _ => ?_, fun h => absurd h (by decide)⟩ | refine ⟨fun h => absurd h (by decide), fun _ => ?_⟩))
            (repeat (rename_i hx_; clear hx_))
            refine Or.inr (cut_rule [(4, .t (.a (.s (.ptr 2 0)))), (6, .t (.a (.s (.ptr 5 0)))), (7, .t (.a (.s (.ptr 6 0))))] [rowB false xs, rowB false ys, zB, rowB true (vals ⟨f, v, xs⟩ (n + 1)), rowB true (vals ⟨g', u, ys⟩ (m + 1)), qB f 3 (n + 1), qB g' 4 (m + 1)] (fun i => match i with | 0 => some 0 | 1 => some 1 | 2 => some 4 | 3 => some 6 | 4 => some 8 | 5 => some 7 | 6 => some 5 | _ => none) (by exact wI) ?rest)
        focus
          skip
          (repeat (first | refine aC ?_ | refine aK ?_ | refine ⟨fun _ => ?_, fun h => absurd h (by decide)⟩ | refine ⟨fun h => absurd h (by decide), fun _ => ?_⟩))
          (refine call_lift (Out_c f v n xs hl hc1) (fun i => match i with | 0 => some 0 | _ => none) rfl rfl hI rfl rfl rfl ?_; rintro v H1 ⟨rfl, rfl⟩; refine ⟨⟨rfl, rfl, rfl, rfl⟩, ?_⟩; (try simp only [two]); (try simp only [AV.ren]); (try simp only [renT]); (try simp only [AT.ren]); (try simp only [A.ren]); (try (rw [ptr_ren]; rotate_left; exact rfl)); (try (rw [slc_ren]; rotate_left; exact rfl)); (try simp only [S.ren]))
          (repeat (first | refine aC ?_ | refine aK ?_ | refine ⟨fun _ => ?_, fun h => absurd h (by decide)⟩ | refine ⟨fun h => absurd h (by decide), fun _ => ?_⟩))
          (refine call_lift (Out_c g' u m ys hl2 hc2) (fun i => match i with | 0 => some 1 | _ => none) rfl rfl hI rfl rfl rfl ?_; rintro v H1 ⟨rfl, rfl⟩; refine ⟨⟨rfl, rfl, rfl, rfl⟩, ?_⟩; (try simp only [two]); (try simp only [AV.ren]); (try simp only [renT]); (try simp only [AT.ren]); (try simp only [A.ren]); (try (rw [ptr_ren]; rotate_left; exact rfl)); (try (rw [slc_ren]; rotate_left; exact rfl)); (try simp only [S.ren]))
          (repeat (first | refine aC ?_ | refine ⟨fun _ => ?_, fun h => absurd h (by decide)⟩ | refine ⟨fun h => absurd h (by decide), fun _ => ?_⟩))
          (repeat (rename_i hx_; clear hx_))
          refine Or.inr (cut_rule [(4, .t (.a (.s (.ptr 2 0)))), (6, .t (.a (.s (.ptr 5 0)))), (7, .t (.a (.s (.ptr 6 0))))] [rowB false xs, rowB false ys, zB, rowB true (vals ⟨f, v, xs⟩ (n + 1)), rowB true (vals ⟨g', u, ys⟩ (m + 1)), qB f 3 (n + 1), qB g' 4 (m + 1)] (fun i => match i with | 0 => some 0 | 1 => some 1 | 2 => some 4 | 3 => some 7 | 4 => some 8 | 5 => some 6 | 6 => some 5 | _ => none) (by exact wI) ?rest)
      case rest =>
        (refine drawn_rule TYok mixedO [] [(true, 0, []), (true, 1, []), (true, 2, []), (true, 3, []), (true, 4, []), (true, 5, []), (true, 7, []), (false, 6, []), (false, 8, []), (true, 9, []), (true, 10, []), (true, 11, [])] (by kernel_rfl) ?_)
        (repeat (first | refine aC ?_ | refine aK ?_ | refine ⟨fun _ => ?_, fun h => absurd h (by decide)⟩ | refine ⟨fun h => absurd h (by decide), fun _ => ?_⟩))
        (refine call_lift (To_c f (n + 1) (vals ⟨f, v, xs⟩ (n + 1)) (by omega) (by omega)) (fun i => match i with | 0 => some 3 | _ => none) rfl rfl hI rfl rfl rfl ?_; rintro v H1 ⟨rfl, rfl⟩; refine ⟨⟨rfl, rfl, rfl, rfl⟩, ?_⟩; (try simp only [two]); (try simp only [AV.ren]); (try simp only [renT]); (try simp only [AT.ren]); (try simp only [A.ren]); (try (rw [ptr_ren]; rotate_left; exact rfl)); (try (rw [slc_ren]; rotate_left; exact rfl)); (try simp only [S.ren]))
        (repeat (first | refine aC ?_ | refine aK ?_ | refine ⟨fun _ => ?_, fun h => absurd h (by decide)⟩ | refine ⟨fun h => absurd h (by decide), fun _ => ?_⟩))
        (refine call_lift (To_c g' (m + 1) (vals ⟨g', u, ys⟩ (m + 1)) (by omega) (by omega)) (fun i => match i with | 0 => some 4 | _ => none) rfl rfl hI rfl rfl rfl ?_; rintro v H1 ⟨rfl, rfl⟩; refine ⟨⟨rfl, rfl, rfl, rfl⟩, ?_⟩; (try simp only [two]); (try simp only [AV.ren]); (try simp only [renT]); (try simp only [AT.ren]); (try simp only [A.ren]); (try (rw [ptr_ren]; rotate_left; exact rfl)); (try (rw [slc_ren]; rotate_left; exact rfl)); (try simp only [S.ren]))
        (repeat (first | refine aC ?_ | refine aK ?_ | refine ⟨fun _ => ?_, fun h => absurd h (by decide)⟩ | refine ⟨fun h => absurd h (by decide), fun _ => ?_⟩))
        have hcn : (⟨f, v, xs⟩ : Cu).sl.length = n := hl
        have hcm : (⟨g', u, ys⟩ : Cu).sl.length = m := hl2
        have hav : addV ⟨f, v, xs⟩ ⟨g', u, ys⟩ = if max f g' ≤ min (f + (n : Int)) (g' + (m : Int)) then res2 (addC ⟨f, v, xs⟩ ⟨g', u, ys⟩) else (Cu.zero, 6) := by
          unfold addV
          rw [if_pos ⟨hc1, hc2⟩, hcn, hcm]
        have hal := addC_len ⟨f, v, xs⟩ ⟨g', u, ys⟩
        have haf : (addC ⟨f, v, xs⟩ ⟨g', u, ys⟩).fr = max f g' := rfl
        have hac := addC_val ⟨f, v, xs⟩ ⟨g', u, ys⟩
        rw [hcn, hcm] at hal
        rw [hal] at hac
        dsimp only at hal hac
        have ehi : min (f + ((n + 1 : Nat) : Int) - 1) (g' + ((m + 1 : Nat) : Int) - 1) = min (f + (n : Int)) (g' + (m : Int)) := by omega
        rw [ehi]
        have b1 : max f g' = f ∨ max f g' = g' := by omega
        have b2 : f ≤ max f g' ∧ g' ≤ max f g' := by omega
        have b3 : min (f + (n : Int)) (g' + (m : Int)) ≤ f + n ∧ min (f + (n : Int)) (g' + (m : Int)) ≤ g' + m := by omega
        generalize min (f + (n : Int)) (g' + (m : Int)) = hi at *
        generalize max f g' = lo at *
        by_cases hE : lo ≤ hi
        · have q1 : decide (lo > hi) = false := decide_eq_false (by omega)
          rw [hav, if_pos hE]
          (first | refine brTT (q1) ?_ | refine brTF (q1) ?_ | refine brFT (q1) ?_ | refine brFF (q1) ?_)
          have hJ : ((lo - f).toNat : Int) = lo - f := by omega
          have hJ : ((lo - g').toNat : Int) = lo - g' := by omega
          have hL : ((hi - lo).toNat : Int) = hi - lo := by omega
          generalize (lo - f).toNat = I at *
          generalize (lo - g').toNat = J at *
          generalize (hi - lo).toNat = L at *
          generalize addC ⟨f, v, xs⟩ ⟨g', u, ys⟩ = dC at *
          have hA := fun k (hk : k ≤ n) => val_in hc1 (k := k) (by rw [hcn]; exact hk)
          have hB := fun k (hk : k ≤ m) => val_in hc2 (k := k) (by rw [hcm]; exact hk)
          have hR := ranged_vals dC L hal (by omega) (fun i hi => by
            have a := hA (I + i) (by omega)
            have b := hB (J + i) (by omega)
            rw [hac i hi]
            omega)
          rw [haf] at hR
          (repeat (first | refine aC ?_ | refine aK ?_ | refine ⟨fun _ => ?_, fun h => absurd h (by decide)⟩ | refine ⟨fun h => absurd h (by decide), fun _ => ?_⟩))
          refine loop_rule TYok mixedO (ι := Nat × Int) (fun q => [(4, .t (.a (.s (.ptr 2 0)))), (6, .t (.a (.s (.ptr 5 0)))), (7, .t (.a (.s (.ptr 6 0)))), (9, .int .i64 hi), (10, .t (.a (.s (.ptr 7 0)))), (11, .int .i64 q.2)]) (fun q => [rowB false xs, rowB false ys, zB, rowB true (vals ⟨f, v, xs⟩ (n + 1)), rowB true (vals ⟨g', u, ys⟩ (m + 1)), qB f 3 (n + 1), qB g' 4 (m + 1), qB lo 8 q.1, rowB true (vals dC q.1)]) (fun q => q.1 ≤ L + 1 ∧ q.2 = lo + q.1) (fun q => L + 1 - q.1) (0, lo) ⟨Nat.zero_le _, by simp⟩ (fun i => match i with | 0 => some 0 | 1 => some 1 | 2 => some 2 | 3 => some 3 | 4 => some 4 | 5 => some 5 | 6 => some 6 | 7 => some 7 | _ => none) (by exact wI) ?_
          rintro ⟨j, x⟩ ⟨hj, hx⟩
          dsimp only at hj hx ⊢
          (repeat (first | refine aC ?_ | refine aK ?_ | refine ⟨fun _ => ?_, fun h => absurd h (by decide)⟩ | refine ⟨fun h => absurd h (by decide), fun _ => ?_⟩))
          refine ⟨fun g => ?_, fun g => ?_⟩
          · have g := of_decide_eq_true g
            have hlt : j ≤ L := by omega
            have v1 := hac j hlt
            have a1 := hA (I + j) (by omega)
            have a2 := hB (J + j) (by omega)
            have hgl : (vals dC j).length = j := vals_len _ _
            have ev1 : iA (vals ⟨f, v, xs⟩ (n + 1)) (I + j) = valK ⟨f, v, xs⟩ (I + j) := vals_at (by omega)
            have ev2 : iA (vals ⟨g', u, ys⟩ (m + 1)) (J + j) = valK ⟨g', u, ys⟩ (J + j) := vals_at (by omega)
            have ok2 : i64ok (iA (vals ⟨f, v, xs⟩ (n + 1)) (I + j) + iA (vals ⟨g', u, ys⟩ (m + 1)) (J + j)) = true := by rw [ev1, ev2]; exact i64_of (by omega)
            have hnew : vals dC j ++ [iA (vals ⟨f, v, xs⟩ (n + 1)) (I + j) + iA (vals ⟨g', u, ys⟩ (m + 1)) (J + j)] = vals dC (j + 1) := by rw [ev1, ev2, ← v1]; exact (vals_succ _ _).symm
            (repeat (first | refine aC ?_ | refine ⟨fun _ => ?_, fun h => absurd h (by decide)⟩ | refine ⟨fun h => absurd h (by decide), fun _ => ?_⟩))
            refine cut_rule [(4, .t (.a (.s (.ptr 2 0)))), (6, .t (.a (.s (.ptr 5 0)))), (7, .t (.a (.s (.ptr 6 0)))), (9, .int .i64 hi), (10, .t (.a (.s (.ptr 7 0)))), (11, .int .i64 x)] [rowB false xs, rowB false ys, zB, rowB true (vals ⟨f, v, xs⟩ (n + 1)), rowB true (vals ⟨g', u, ys⟩ (m + 1)), qB f 3 (n + 1), qB g' 4 (m + 1), qB lo 8 j, rowB true (vals dC j)] some (by exact wI) ?_
            (refine drawn_rule TYok mixedO [(8, 10), (7, 12)] [(true, 0, []), (true, 1, []), (true, 2, []), (true, 3, []), (true, 5, []), (true, 6, []), (false, 4, []), (false, 7, []), (true, 8, []), (false, 9, []), (false, 10, [8]), (true, 11, [8]), (false, 12, [7, 8])] (by kernel_rfl) ?_)
            (repeat (first | refine aC ?_ | refine aK ?_ | refine ⟨fun _ => ?_, fun h => absurd h (by decide)⟩ | refine ⟨fun h => absurd h (by decide), fun _ => ?_⟩))
            (refine call_lift (Value_c f x (n + 1) (I + j) (vals ⟨f, v, xs⟩ (n + 1)) hvl (by omega) (by omega) (by omega) (by omega)) (fun i => match i with | 0 => some 3 | _ => none) rfl rfl hI rfl rfl rfl ?_; rintro v H1 ⟨rfl, rfl⟩; refine ⟨⟨rfl, rfl, rfl, rfl⟩, ?_⟩; (try simp only [two]); (try simp only [AV.ren]); (try simp only [renT]); (try simp only [AT.ren]); (try simp only [A.ren]); (try (rw [ptr_ren]; rotate_left; exact rfl)); (try (rw [slc_ren]; rotate_left; exact rfl)); (try simp only [S.ren]))
            (repeat (first | refine aC ?_ | refine aK ?_ | refine ⟨fun _ => ?_, fun h => absurd h (by decide)⟩ | refine ⟨fun h => absurd h (by decide), fun _ => ?_⟩))
            (refine call_lift (Value_c g' x (m + 1) (J + j) (vals ⟨g', u, ys⟩ (m + 1)) hvl2 (by omega) (by omega) (by omega) (by omega)) (fun i => match i with | 0 => some 4 | _ => none) rfl rfl hI rfl rfl rfl ?_; rintro v H1 ⟨rfl, rfl⟩; refine ⟨⟨rfl, rfl, rfl, rfl⟩, ?_⟩; (try simp only [two]); (try simp only [AV.ren]); (try simp only [renT]); (try simp only [AT.ren]); (try simp only [A.ren]); (try (rw [ptr_ren]; rotate_left; exact rfl)); (try (rw [slc_ren]; rotate_left; exact rfl)); (try simp only [S.ren]))
            (repeat (first | refine aC ?_ | refine aK ?_ | refine ⟨fun _ => ?_, fun h => absurd h (by decide)⟩ | refine ⟨fun h => absurd h (by decide), fun _ => ?_⟩))
            refine And.intro (ap_one hgl (by omega)) ?_
            (repeat (first | refine aC ?_ | refine aK ?_ | refine ⟨fun _ => ?_, fun h => absurd h (by decide)⟩ | refine ⟨fun h => absurd h (by decide), fun _ => ?_⟩))
            exact ⟨(j + 1, x + 1), ⟨by dsimp only; omega, by dsimp only; omega⟩, by dsimp only; omega, (fun i => match i with | 0 => some 0 | 1 => some 1 | 2 => some 2 | 3 => some 3 | 4 => some 4 | 5 => some 5 | 6 => some 6 | 7 => some 7 | 8 => some 10 | _ => none), by dsimp only; rw [← hnew]; exact wI⟩
          · have g := of_decide_eq_false g
            obtain rfl : j = L + 1 := by omega
            generalize res2 dC = cv at *
            (repeat (first | refine aC ?_ | refine aK ?_ | refine ⟨fun _ => ?_, fun h => absurd h (by decide)⟩ | refine ⟨fun h => absurd h (by decide), fun _ => ?_⟩))
            (refine call_lift (hR) (fun i => match i with | 0 => some 8 | _ => none) rfl rfl hI rfl rfl rfl ?_; rintro v H1 ⟨rfl, rfl⟩; refine ⟨⟨rfl, rfl, rfl, rfl⟩, ?_⟩; (try simp only [two]); (try simp only [AV.ren]); (try simp only [renT]); (try simp only [AT.ren]); (try simp only [A.ren]); (try (rw [ptr_ren]; rotate_left; exact rfl)); (try (rw [slc_ren]; rotate_left; exact rfl)); (try simp only [S.ren]))
            (repeat (first | refine aC ?_ | refine aK ?_ | refine ⟨fun _ => ?_, fun h => absurd h (by decide)⟩ | refine ⟨fun h => absurd h (by decide), fun _ => ?_⟩))
            exact ⟨(fun i => match i with | 0 => some 0 | 1 => some 1 | 2 => some 9 | _ => none), tupOf [cuT cv.1.fr cv.1.fst 2 cv.1.sl.length, intT cv.2], [rowB false xs, rowB false ys, rowB true cv.1.sl], by exact wI, rfl, rfl⟩
        · have q1 : decide (lo > hi) = true := decide_eq_true (by omega)
          rw [hav, if_neg hE]
          (first | refine brTT (q1) ?_ | refine brTF (q1) ?_ | refine brFT (q1) ?_ | refine brFF (q1) ?_)
          (repeat (first | refine aC ?_ | refine aK ?_ | refine ⟨fun _ => ?_, fun h => absurd h (by decide)⟩ | refine ⟨fun h => absurd h (by decide), fun _ => ?_⟩))
          exact ⟨(fun i => match i with | 0 => some 0 | 1 => some 1 | _ => none), tupOf [cuT 0 0 2 0, intT 6], [rowB false xs, rowB false ys, rowB true []], by exact wI, rfl, rfl⟩
    · have hz : addV ⟨f, v, xs⟩ ⟨g', u, ys⟩ = (Cu.zero, 2) := if_neg fun h => hc2 h.2
      rw [hz]
      have q' : (!okC ⟨g', u, ys⟩) = true := by simpa using hc2
      (first | refine brTT (q') ?_ | refine brTF (q') ?_ | refine brFT (q') ?_ | refine brFF (q') ?_)
      (repeat (first | refine aC ?_ | refine aK ?_ | refine ⟨fun _ => ?_, fun h => absurd h (by decide)⟩ | refine ⟨fun h => absurd h (by decide), fun _ => ?_⟩))
      exact ⟨(fun i => match i with | 0 => some 0 | 1 => some 1 | _ => none), tupOf [cuT 0 0 2 0, intT 2], [rowB false xs, rowB false ys, rowB true []], by exact wI, rfl, rfl⟩
  · have hz : addV ⟨f, v, xs⟩ ⟨g', u, ys⟩ = (Cu.zero, 2) := if_neg fun h => hc1 h.1
    rw [hz]
    have q : (!okC ⟨f, v, xs⟩) = true := by simpa using hc1
    (first | refine brTT (q) ?_ | refine brTF (q) ?_ | refine brFT (q) ?_ | refine brFF (q) ?_)
    (repeat (first | refine aC ?_ | refine aK ?_ | refine ⟨fun _ => ?_, fun h => absurd h (by decide)⟩ | refine ⟨fun h => absurd h (by decide), fun _ => ?_⟩))
    exact ⟨(fun i => match i with | 0 => some 0 | 1 => some 1 | _ => none), tupOf [cuT 0 0 2 0, intT 2], [rowB false xs, rowB false ys, rowB true []], by exact wI, rfl, rfl⟩
end Go.Proofs.Ytdepnhnpklbmiaa
