/- Where two curves meet: the program and the specification. -/
import Derived.Test.YtdepnhnpklbmiaaA9
import Derived.Test.YtdepnhnpklbmiaaWX
import Derived.Test.YtdepnhnpklbmiaaBM
namespace Go.Proofs.Ytdepnhnpklbmiaa
open Go.RowKit
set_option linter.unusedSimpArgs false
set_option linter.unusedVariables false
/-- what a meeting of two curves answers -/
def MeetR (a b : Cu) (w : AV) : Prop :=
  (∃ c : Int, MeetE a b c ∧ w = tupOf [intT 0, intT 0, intT 0, intT c]) ∨ ∃ i j, MeetOk a b i j ∧ w = tupOf [intT (valK a i + valK b j), intT (a.fr + i), intT (max (befV a i) (-(aftV b j))), intT 0]
/-- it is one answer -/
theorem meet_one {a b : Cu} {w w' : AV} (h : MeetR a b w) (k : MeetR a b w') : w = w' := by
  have asc : ∀ {c : Cu}, okC c = true → ∀ d i, i + d < c.sl.length → iA c.sl i ≤ iA c.sl (i + d) := by
    intro c hc d
    induction d with
    | zero => intro i hi; exact Int.le_refl _
    | succ d ih =>
      intro i hi
      have h1 := ih i (by omega)
      have h2 := okC_asc1 hc (k := i + (d + 1)) hi (by omega)
      rw [show i + (d + 1) - 1 = i + d by omega] at h2
      omega
  have uni : ∀ {i j i' j'}, MeetOk a b i j → MeetOk a b i' j' → i ≤ i' → i = i' := by
    intro i j i' j' h k hle
    rcases Nat.lt_or_ge i i' with hlt | hge
    · exfalso
      have h3 := h.at_; have h4 := k.at_; have h5 := k.la; have h6 := k.lb
      have s1 := asc h.oa (i' - 1 - i) i (by omega)
      have s2 := asc h.ob (j' - 1 - j) j (by omega)
      rw [show i + (i' - 1 - i) = i' - 1 by omega] at s1
      rw [show j + (j' - 1 - j) = j' - 1 by omega] at s2
      rcases h.high with e | e | e
      · omega
      · omega
      · rcases k.low with e' | e' | e'
        · omega
        · omega
        · omega
    · omega
  rcases h with ⟨c, hc, rfl⟩ | ⟨i, j, h1, rfl⟩
  · rcases k with ⟨c', hc', rfl⟩ | ⟨i, j, k1, rfl⟩
    · have e : c = c' := by
        rcases hc with ⟨hc, rfl⟩ | ⟨h1, h2, h3, rfl⟩
        · rcases hc' with ⟨hc', rfl⟩ | ⟨h1, h2, h3, rfl⟩
          · rfl
          · rcases hc with e | e
            · rw [h1] at e; cases e
            · rw [h2] at e; cases e
        · rcases hc' with ⟨hc', rfl⟩ | ⟨h1', h2', h3', rfl⟩
          · rcases hc' with e | e
            · rw [h1] at e; cases e
            · rw [h2] at e; cases e
          · rfl
      rw [e]
    · exfalso
      rcases hc with ⟨hc, rfl⟩ | ⟨h1, h2, h3, rfl⟩
      · rcases hc with e | e
        · rw [k1.oa] at e; cases e
        · rw [k1.ob] at e; cases e
      · have := k1.at_; have := k1.la; have := k1.lb
        omega
  · rcases k with ⟨c', hc', rfl⟩ | ⟨i', j', k1, rfl⟩
    · exfalso
      rcases hc' with ⟨hc, rfl⟩ | ⟨h1', h2, h3, rfl⟩
      · rcases hc with e | e
        · rw [h1.oa] at e; cases e
        · rw [h1.ob] at e; cases e
      · have := h1.at_; have := h1.la; have := h1.lb
        omega
    · have e : i = i' := by
        rcases Nat.le_total i i' with g | g
        · exact uni h1 k1 g
        · exact (uni k1 h1 g).symm
      have e2 : j = j' := by have := h1.at_; have := k1.at_; omega
      rw [e, e2]
theorem Meet_c (f v : Int) (n : Nat) (xs : List Int) (hl : xs.length = n) (hn : n ≤ 9223372036854775807) (g' u : Int) (m : Nat) (ys : List Int) (hl2 : ys.length = m) (hm : m ≤ 9223372036854775807) : CallA Try.prog 44 [cuA f v 0 n, cuA g' u 1 m] [rowB true xs, rowB true ys] (fun w H => MeetR ⟨f, v, xs⟩ ⟨g', u, ys⟩ w ∧ H = [rowB true xs, rowB true ys]) :=
  callA_below (enters_of Try.func44 rfl rfl) fun C ρ w ra hI hra => by
    obtain ⟨a, b, rfl, ha, hb⟩ := args2 hra
    obtain ⟨a3, rfl, h3⟩ := cu_arg ha
    obtain ⟨b3, rfl, h4⟩ := cu_arg hb
    obtain ⟨ad, c, rfl, h1, hc⟩ := cu_at (f := f) (v := v) hI (blk := rowB true xs) rfl rfl rfl hl h3
    obtain ⟨bd, d, rfl, h2, hd⟩ := cu_at (f := g') (v := u) hI (blk := rowB true ys) rfl rfl rfl hl2 h4
    refine (Meet_any ⟨f, v, xs⟩ ⟨g', u, ys⟩ ad n c bd m d w hc hd hn hm).mono fun e w' ⟨he, hg⟩ => ?_
    rcases he with ⟨q, hq, rfl⟩ | ⟨i, j, hq, rfl⟩
    · exact ⟨_, _, rfl, ⟨.inl ⟨q, hq, rfl⟩, rfl⟩, hg, ⟨_, rfl, rfl, rfl, rfl, rfl, trivial⟩⟩
    · exact ⟨_, _, rfl, ⟨.inr ⟨i, j, hq, rfl⟩, rfl⟩, hg, ⟨_, rfl, rfl, rfl, rfl, rfl, trivial⟩⟩
set_option maxRecDepth 20000 in
set_option maxHeartbeats 8000000 in
theorem refMeet_c (f v : Int) (n : Nat) (xs : List Int) (hl : xs.length = n) (hn : n ≤ 9223372036854775807) (g' u : Int) (m : Nat) (ys : List Int) (hl2 : ys.length = m) (hm : m ≤ 9223372036854775807) :
    CallA Try.prog 45 [cuA f v 0 n, cuA g' u 1 m] [rowB false xs, rowB false ys] (fun w H => MeetR ⟨f, v, xs⟩ ⟨g', u, ys⟩ w ∧ H = [rowB false xs, rowB false ys]) := by
  refine call_of_sem TYok Try.func45 rfl rfl (Nat.le_of_ble_eq_true rfl) ?_
  refine sem_seq TYok mixedO [(2, .t (.a (.s (.ptr 2 0)))), (3, .t (.a (.s (.ptr 3 0))))] [rowB false xs, rowB false ys, cB f v 0 n, cB g' u 1 m] ?_ ?_
  · (repeat (first | refine aC ?_ | refine aK ?_ | refine ⟨fun _ => ?_, fun h => absurd h (by decide)⟩ | refine ⟨fun h => absurd h (by decide), fun _ => ?_⟩))
    exact ⟨some, by exact wI⟩
  by_cases hc : okC (⟨f, v, xs⟩ : Cu) = true ∧ okC (⟨g', u, ys⟩ : Cu) = true
  rotate_left 1
  · refine vc_ok TYok mixedO _ _ _ _ ?_
    (repeat (first | refine aC ?_ | refine aK ?_ | refine ⟨fun _ => ?_, fun h => absurd h (by decide)⟩ | refine ⟨fun h => absurd h (by decide), fun _ => ?_⟩))
    (refine call_lift (refValid_c f v n xs hl hn) (fun i => match i with | 0 => some 0 | _ => none) rfl rfl hI rfl rfl rfl ?_; rintro v H1 ⟨rfl, rfl⟩; refine ⟨⟨rfl, rfl, rfl, rfl⟩, ?_⟩; (try simp only [two]); (try simp only [AV.ren]); (try simp only [renT]); (try simp only [AT.ren]); (try simp only [A.ren]); (try (rw [ptr_ren]; rotate_left; exact rfl)); (try (rw [slc_ren]; rotate_left; exact rfl)); (try simp only [S.ren]))
    (repeat (first | refine aC ?_ | refine aK ?_ | refine ⟨fun _ => ?_, fun h => absurd h (by decide)⟩ | refine ⟨fun h => absurd h (by decide), fun _ => ?_⟩))
    by_cases hc1 : okC (⟨f, v, xs⟩ : Cu) = true
    · have q : (!okC (⟨f, v, xs⟩ : Cu)) = false := by rw [hc1]; rfl
      (first | refine brTT (q) ?_ | refine brTF (q) ?_ | refine brFT (q) ?_ | refine brFF (q) ?_)
      (repeat (first | refine aC ?_ | refine aK ?_ | refine ⟨fun _ => ?_, fun h => absurd h (by decide)⟩ | refine ⟨fun h => absurd h (by decide), fun _ => ?_⟩))
      (refine call_lift (refValid_c g' u m ys hl2 hm) (fun i => match i with | 0 => some 1 | _ => none) rfl rfl hI rfl rfl rfl ?_; rintro v H1 ⟨rfl, rfl⟩; refine ⟨⟨rfl, rfl, rfl, rfl⟩, ?_⟩; (try simp only [two]); (try simp only [AV.ren]); (try simp only [renT]); (try simp only [AT.ren]); (try simp only [A.ren]); (try (rw [ptr_ren]; rotate_left; exact rfl)); (try (rw [slc_ren]; rotate_left; exact rfl)); (try simp only [S.ren]))
      (repeat (first | refine aC ?_ | refine aK ?_ | refine ⟨fun _ => ?_, fun h => absurd h (by decide)⟩ | refine ⟨fun h => absurd h (by decide), fun _ => ?_⟩))
      have hc2 : okC (⟨g', u, ys⟩ : Cu) = false := by
        cases e : okC (⟨g', u, ys⟩ : Cu)
        · rfl
        · exact absurd ⟨hc1, e⟩ hc
      have q' : (!okC (⟨g', u, ys⟩ : Cu)) = true := by rw [hc2]; rfl
      (first | refine brTT (q') ?_ | refine brTF (q') ?_ | refine brFT (q') ?_ | refine brFF (q') ?_)
      (repeat (first | refine aC ?_ | refine aK ?_ | refine ⟨fun _ => ?_, fun h => absurd h (by decide)⟩ | refine ⟨fun h => absurd h (by decide), fun _ => ?_⟩))
      exact ⟨(fun i => match i with | 0 => some 0 | 1 => some 1 | _ => none), tupOf [intT 0, intT 0, intT 0, intT 2], [rowB false xs, rowB false ys], by exact wI, .inl ⟨2, .inl ⟨.inr hc2, rfl⟩, rfl⟩, rfl⟩
    · have hc1 : okC (⟨f, v, xs⟩ : Cu) = false := by simpa using hc1
      have q : (!okC (⟨f, v, xs⟩ : Cu)) = true := by rw [hc1]; rfl
      (first | refine brTT (q) ?_ | refine brTF (q) ?_ | refine brFT (q) ?_ | refine brFF (q) ?_)
      (repeat (first | refine aC ?_ | refine aK ?_ | refine ⟨fun _ => ?_, fun h => absurd h (by decide)⟩ | refine ⟨fun h => absurd h (by decide), fun _ => ?_⟩))
      exact ⟨(fun i => match i with | 0 => some 0 | 1 => some 1 | _ => none), tupOf [intT 0, intT 0, intT 0, intT 2], [rowB false xs, rowB false ys], by exact wI, .inl ⟨2, .inl ⟨.inl hc1, rfl⟩, rfl⟩, rfl⟩
  obtain ⟨hc1, hc2⟩ := hc
  have hn4 : n ≤ 64 := by have := (okC_true hc1).2.2.1; show n ≤ 64; rw [← hl]; exact this
  have hm4 : m ≤ 64 := by have := (okC_true hc2).2.2.1; show m ≤ 64; rw [← hl2]; exact this
  have hf := okC_fr hc1
  have hg := okC_fr hc2
  dsimp only at hf hg
  have hvl : (vals ⟨f, v, xs⟩ (n + 1)).length = n + 1 := vals_len _ _
  have hvl2 : (vals ⟨g', u, ys⟩ (m + 1)).length = m + 1 := vals_len _ _
  refine sem_seq TYok mixedO [(2, .t (.a (.s (.ptr 2 0)))), (3, .t (.a (.s (.ptr 3 0))))] [rowB false xs, rowB false ys, cB f v 0 n, cB g' u 1 m] ?_ ?_
  · have q : (!okC (⟨f, v, xs⟩ : Cu)) = false := by rw [hc1]; rfl
    have q' : (!okC (⟨g', u, ys⟩ : Cu)) = false := by rw [hc2]; rfl
    (repeat (first | refine aC ?_ | refine aK ?_ | refine ⟨fun _ => ?_, fun h => absurd h (by decide)⟩ | refine ⟨fun h => absurd h (by decide), fun _ => ?_⟩))
    (refine call_lift (refValid_c f v n xs hl hn) (fun i => match i with | 0 => some 0 | _ => none) rfl rfl hI rfl rfl rfl ?_; rintro v H1 ⟨rfl, rfl⟩; refine ⟨⟨rfl, rfl, rfl, rfl⟩, ?_⟩; (try simp only [two]); (try simp only [AV.ren]); (try simp only [renT]); (try simp only [AT.ren]); (try simp only [A.ren]); (try (rw [ptr_ren]; rotate_left; exact rfl)); (try (rw [slc_ren]; rotate_left; exact rfl)); (try simp only [S.ren]))
    (repeat (first | refine aC ?_ | refine aK ?_ | refine ⟨fun _ => ?_, fun h => absurd h (by decide)⟩ | refine ⟨fun h => absurd h (by decide), fun _ => ?_⟩))
    (first | refine brTT (q) ?_ | refine brTF (q) ?_ | refine brFT (q) ?_ | refine brFF (q) ?_)
    (repeat (first | refine aC ?_ | refine aK ?_ | refine ⟨fun _ => ?_, fun h => absurd h (by decide)⟩ | refine ⟨fun h => absurd h (by decide), fun _ => ?_⟩))
    (refine call_lift (refValid_c g' u m ys hl2 hm) (fun i => match i with | 0 => some 1 | _ => none) rfl rfl hI rfl rfl rfl ?_; rintro v H1 ⟨rfl, rfl⟩; refine ⟨⟨rfl, rfl, rfl, rfl⟩, ?_⟩; (try simp only [two]); (try simp only [AV.ren]); (try simp only [renT]); (try simp only [AT.ren]); (try simp only [A.ren]); (try (rw [ptr_ren]; rotate_left; exact rfl)); (try (rw [slc_ren]; rotate_left; exact rfl)); (try simp only [S.ren]))
    (repeat (first | refine aC ?_ | refine aK ?_ | refine ⟨fun _ => ?_, fun h => absurd h (by decide)⟩ | refine ⟨fun h => absurd h (by decide), fun _ => ?_⟩))
    (first | refine brTT (q') ?_ | refine brTF (q') ?_ | refine brFT (q') ?_ | refine brFF (q') ?_)
    exact ⟨some, by exact wI⟩
  refine sem_seq TYok mixedO [(8, .t (.a (.s (.ptr 4 0)))), (9, .t (.a (.s (.ptr 5 0))))] [rowB false xs, rowB false ys, rowB true (vals ⟨f, v, xs⟩ (n + 1)), rowB true (vals ⟨g', u, ys⟩ (m + 1)), qB f 2 (n + 1), qB g' 3 (m + 1)] ?_ ?_
  · (refine drawn_ruleS TYok mixedO [] (.quiet 0 [] (.quiet 2 [] (.three 1 4 5 [] [] [] (.three 3 4 5 [] [] [] (.two 4 5 [] [] (.make 5 [] (.make 6 [] (.make 7 [] .done))) (.make 4 [] (.make 6 [] (.make 7 [] .done)))) (.two 3 5 [] [] (.make 5 [] (.make 6 [] (.make 7 [] .done))) (.make 3 [] (.make 6 [] (.make 7 [] .done)))) (.two 3 4 [] [] (.make 4 [] (.make 6 [] (.make 7 [] .done))) (.make 3 [] (.make 6 [] (.make 7 [] .done))))) (.two 1 5 [] [] (.two 3 5 [] [] (.make 5 [] (.make 6 [] (.make 7 [] .done))) (.make 3 [] (.make 6 [] (.make 7 [] .done)))) (.make 1 [] (.make 3 [] (.make 6 [] (.make 7 [] .done))))) (.two 1 4 [] [] (.two 3 4 [] [] (.make 4 [] (.make 6 [] (.make 7 [] .done))) (.make 3 [] (.make 6 [] (.make 7 [] .done)))) (.make 1 [] (.make 3 [] (.make 6 [] (.make 7 [] .done)))))))) (by kernel_rfl) ?_)
    (repeat (first | refine aC ?_ | refine aK ?_ | refine ⟨fun _ => ?_, fun h => absurd h (by decide)⟩ | refine ⟨fun h => absurd h (by decide), fun _ => ?_⟩))
    refine And.intro ?_ (And.intro ?_ ?_)
    focus
      skip
      (repeat (first | refine aC ?_ | refine aK ?_ | refine ⟨fun _ => ?_, fun h => absurd h (by decide)⟩ | refine ⟨fun h => absurd h (by decide), fun _ => ?_⟩))
      (refine call_lift (Out_c f v n xs hl hc1) (fun i => match i with | 0 => some 0 | _ => none) rfl rfl hI rfl rfl rfl ?_; rintro v H1 ⟨rfl, rfl⟩; refine ⟨⟨rfl, rfl, rfl, rfl⟩, ?_⟩; (try simp only [two]); (try simp only [AV.ren]); (try simp only [renT]); (try simp only [AT.ren]); (try simp only [A.ren]); (try (rw [ptr_ren]; rotate_left; exact rfl)); (try (rw [slc_ren]; rotate_left; exact rfl)); (try simp only [S.ren]))
      (repeat (first | refine aC ?_ | refine aK ?_ | refine ⟨fun _ => ?_, fun h => absurd h (by decide)⟩ | refine ⟨fun h => absurd h (by decide), fun _ => ?_⟩))
      refine And.intro ?_ (And.intro ?_ ?_)
      focus
        skip
        (repeat (first | refine aC ?_ | refine aK ?_ | refine ⟨fun _ => ?_, fun h => absurd h (by decide)⟩ | refine ⟨fun h => absurd h (by decide), fun _ => ?_⟩))
        (refine call_lift (Out_c g' u m ys hl2 hc2) (fun i => match i with | 0 => some 1 | _ => none) rfl rfl hI rfl rfl rfl ?_; rintro v H1 ⟨rfl, rfl⟩; refine ⟨⟨rfl, rfl, rfl, rfl⟩, ?_⟩; (try simp only [two]); (try simp only [AV.ren]); (try simp only [renT]); (try simp only [AT.ren]); (try simp only [A.ren]); (try (rw [ptr_ren]; rotate_left; exact rfl)); (try (rw [slc_ren]; rotate_left; exact rfl)); (try simp only [S.ren]))
        (repeat (first | refine aC ?_ | refine aK ?_ | refine ⟨fun _ => ?_, fun h => absurd h (by decide)⟩ | refine ⟨fun h => absurd h (by decide), fun _ => ?_⟩))
        refine And.intro ?_ ?_
        focus
          skip
          (repeat (first | refine aC ?_ | refine aK ?_ | refine ⟨fun _ => ?_, fun h => absurd h (by decide)⟩ | refine ⟨fun h => absurd h (by decide), fun _ => ?_⟩))
          exact ⟨(fun i => match i with | 0 => some 0 | 1 => some 1 | 2 => some 4 | 3 => some 5 | 4 => some 6 | 5 => some 7 | _ => none), by exact wI⟩
        focus
          skip
          (repeat (first | refine aC ?_ | refine aK ?_ | refine ⟨fun _ => ?_, fun h => absurd h (by decide)⟩ | refine ⟨fun h => absurd h (by decide), fun _ => ?_⟩))
          exact ⟨(fun i => match i with | 0 => some 0 | 1 => some 1 | 2 => some 4 | 3 => some 5 | 4 => some 7 | 5 => some 6 | _ => none), by exact wI⟩
      focus
        skip
        (repeat (first | refine aC ?_ | refine aK ?_ | refine ⟨fun _ => ?_, fun h => absurd h (by decide)⟩ | refine ⟨fun h => absurd h (by decide), fun _ => ?_⟩))
        refine And.intro ?_ ?_
        focus
          skip
          (repeat (first | refine aC ?_ | refine aK ?_ | refine ⟨fun _ => ?_, fun h => absurd h (by decide)⟩ | refine ⟨fun h => absurd h (by decide), fun _ => ?_⟩))
          (refine call_lift (Out_c g' u m ys hl2 hc2) (fun i => match i with | 0 => some 1 | _ => none) rfl rfl hI rfl rfl rfl ?_; rintro v H1 ⟨rfl, rfl⟩; refine ⟨⟨rfl, rfl, rfl, rfl⟩, ?_⟩; (try simp only [two]); (try simp only [AV.ren]); (try simp only [renT]); (try simp only [AT.ren]); (try simp only [A.ren]); (try (rw [ptr_ren]; rotate_left; exact rfl)); (try (rw [slc_ren]; rotate_left; exact rfl)); (try simp only [S.ren]))
          (repeat (first | refine aC ?_ | refine aK ?_ | refine ⟨fun _ => ?_, fun h => absurd h (by decide)⟩ | refine ⟨fun h => absurd h (by decide), fun _ => ?_⟩))
          exact ⟨(fun i => match i with | 0 => some 0 | 1 => some 1 | 2 => some 4 | 3 => some 6 | 4 => some 5 | 5 => some 7 | _ => none), by exact wI⟩
        focus
          skip
          (repeat (first | refine aC ?_ | refine aK ?_ | refine ⟨fun _ => ?_, fun h => absurd h (by decide)⟩ | refine ⟨fun h => absurd h (by decide), fun _ => ?_⟩))
          (refine call_lift (Out_c g' u m ys hl2 hc2) (fun i => match i with | 0 => some 1 | _ => none) rfl rfl hI rfl rfl rfl ?_; rintro v H1 ⟨rfl, rfl⟩; refine ⟨⟨rfl, rfl, rfl, rfl⟩, ?_⟩; (try simp only [two]); (try simp only [AV.ren]); (try simp only [renT]); (try simp only [AT.ren]); (try simp only [A.ren]); (try (rw [ptr_ren]; rotate_left; exact rfl)); (try (rw [slc_ren]; rotate_left; exact rfl)); (try simp only [S.ren]))
          (repeat (first | refine aC ?_ | refine aK ?_ | refine ⟨fun _ => ?_, fun h => absurd h (by decide)⟩ | refine ⟨fun h => absurd h (by decide), fun _ => ?_⟩))
          exact ⟨(fun i => match i with | 0 => some 0 | 1 => some 1 | 2 => some 4 | 3 => some 7 | 4 => some 5 | 5 => some 6 | _ => none), by exact wI⟩
      focus
        skip
        (repeat (first | refine aC ?_ | refine aK ?_ | refine ⟨fun _ => ?_, fun h => absurd h (by decide)⟩ | refine ⟨fun h => absurd h (by decide), fun _ => ?_⟩))
        refine And.intro ?_ ?_
        focus
          skip
          (repeat (first | refine aC ?_ | refine aK ?_ | refine ⟨fun _ => ?_, fun h => absurd h (by decide)⟩ | refine ⟨fun h => absurd h (by decide), fun _ => ?_⟩))
          (refine call_lift (Out_c g' u m ys hl2 hc2) (fun i => match i with | 0 => some 1 | _ => none) rfl rfl hI rfl rfl rfl ?_; rintro v H1 ⟨rfl, rfl⟩; refine ⟨⟨rfl, rfl, rfl, rfl⟩, ?_⟩; (try simp only [two]); (try simp only [AV.ren]); (try simp only [renT]); (try simp only [AT.ren]); (try simp only [A.ren]); (try (rw [ptr_ren]; rotate_left; exact rfl)); (try (rw [slc_ren]; rotate_left; exact rfl)); (try simp only [S.ren]))
          (repeat (first | refine aC ?_ | refine aK ?_ | refine ⟨fun _ => ?_, fun h => absurd h (by decide)⟩ | refine ⟨fun h => absurd h (by decide), fun _ => ?_⟩))
          exact ⟨(fun i => match i with | 0 => some 0 | 1 => some 1 | 2 => some 4 | 3 => some 6 | 4 => some 7 | 5 => some 5 | _ => none), by exact wI⟩
        focus
          skip
          (repeat (first | refine aC ?_ | refine aK ?_ | refine ⟨fun _ => ?_, fun h => absurd h (by decide)⟩ | refine ⟨fun h => absurd h (by decide), fun _ => ?_⟩))
          (refine call_lift (Out_c g' u m ys hl2 hc2) (fun i => match i with | 0 => some 1 | _ => none) rfl rfl hI rfl rfl rfl ?_; rintro v H1 ⟨rfl, rfl⟩; refine ⟨⟨rfl, rfl, rfl, rfl⟩, ?_⟩; (try simp only [two]); (try simp only [AV.ren]); (try simp only [renT]); (try simp only [AT.ren]); (try simp only [A.ren]); (try (rw [ptr_ren]; rotate_left; exact rfl)); (try (rw [slc_ren]; rotate_left; exact rfl)); (try simp only [S.ren]))
          (repeat (first | refine aC ?_ | refine aK ?_ | refine ⟨fun _ => ?_, fun h => absurd h (by decide)⟩ | refine ⟨fun h => absurd h (by decide), fun _ => ?_⟩))
          exact ⟨(fun i => match i with | 0 => some 0 | 1 => some 1 | 2 => some 4 | 3 => some 7 | 4 => some 6 | 5 => some 5 | _ => none), by exact wI⟩
    focus
      skip
      (repeat (first | refine aC ?_ | refine aK ?_ | refine ⟨fun _ => ?_, fun h => absurd h (by decide)⟩ | refine ⟨fun h => absurd h (by decide), fun _ => ?_⟩))
      refine And.intro ?_ ?_
      focus
        skip
        (repeat (first | refine aC ?_ | refine aK ?_ | refine ⟨fun _ => ?_, fun h => absurd h (by decide)⟩ | refine ⟨fun h => absurd h (by decide), fun _ => ?_⟩))
        (refine call_lift (Out_c f v n xs hl hc1) (fun i => match i with | 0 => some 0 | _ => none) rfl rfl hI rfl rfl rfl ?_; rintro v H1 ⟨rfl, rfl⟩; refine ⟨⟨rfl, rfl, rfl, rfl⟩, ?_⟩; (try simp only [two]); (try simp only [AV.ren]); (try simp only [renT]); (try simp only [AT.ren]); (try simp only [A.ren]); (try (rw [ptr_ren]; rotate_left; exact rfl)); (try (rw [slc_ren]; rotate_left; exact rfl)); (try simp only [S.ren]))
        (repeat (first | refine aC ?_ | refine aK ?_ | refine ⟨fun _ => ?_, fun h => absurd h (by decide)⟩ | refine ⟨fun h => absurd h (by decide), fun _ => ?_⟩))
        refine And.intro ?_ ?_
        focus
          skip
          (repeat (first | refine aC ?_ | refine aK ?_ | refine ⟨fun _ => ?_, fun h => absurd h (by decide)⟩ | refine ⟨fun h => absurd h (by decide), fun _ => ?_⟩))
          (refine call_lift (Out_c g' u m ys hl2 hc2) (fun i => match i with | 0 => some 1 | _ => none) rfl rfl hI rfl rfl rfl ?_; rintro v H1 ⟨rfl, rfl⟩; refine ⟨⟨rfl, rfl, rfl, rfl⟩, ?_⟩; (try simp only [two]); (try simp only [AV.ren]); (try simp only [renT]); (try simp only [AT.ren]); (try simp only [A.ren]); (try (rw [ptr_ren]; rotate_left; exact rfl)); (try (rw [slc_ren]; rotate_left; exact rfl)); (try simp only [S.ren]))
          (repeat (first | refine aC ?_ | refine aK ?_ | refine ⟨fun _ => ?_, fun h => absurd h (by decide)⟩ | refine ⟨fun h => absurd h (by decide), fun _ => ?_⟩))
          exact ⟨(fun i => match i with | 0 => some 0 | 1 => some 1 | 2 => some 5 | 3 => some 6 | 4 => some 4 | 5 => some 7 | _ => none), by exact wI⟩
        focus
          skip
          (repeat (first | refine aC ?_ | refine aK ?_ | refine ⟨fun _ => ?_, fun h => absurd h (by decide)⟩ | refine ⟨fun h => absurd h (by decide), fun _ => ?_⟩))
          (refine call_lift (Out_c g' u m ys hl2 hc2) (fun i => match i with | 0 => some 1 | _ => none) rfl rfl hI rfl rfl rfl ?_; rintro v H1 ⟨rfl, rfl⟩; refine ⟨⟨rfl, rfl, rfl, rfl⟩, ?_⟩; (try simp only [two]); (try simp only [AV.ren]); (try simp only [renT]); (try simp only [AT.ren]); (try simp only [A.ren]); (try (rw [ptr_ren]; rotate_left; exact rfl)); (try (rw [slc_ren]; rotate_left; exact rfl)); (try simp only [S.ren]))
          (repeat (first | refine aC ?_ | refine aK ?_ | refine ⟨fun _ => ?_, fun h => absurd h (by decide)⟩ | refine ⟨fun h => absurd h (by decide), fun _ => ?_⟩))
          exact ⟨(fun i => match i with | 0 => some 0 | 1 => some 1 | 2 => some 5 | 3 => some 7 | 4 => some 4 | 5 => some 6 | _ => none), by exact wI⟩
      focus
        skip
        (repeat (first | refine aC ?_ | refine aK ?_ | refine ⟨fun _ => ?_, fun h => absurd h (by decide)⟩ | refine ⟨fun h => absurd h (by decide), fun _ => ?_⟩))
        (refine call_lift (Out_c f v n xs hl hc1) (fun i => match i with | 0 => some 0 | _ => none) rfl rfl hI rfl rfl rfl ?_; rintro v H1 ⟨rfl, rfl⟩; refine ⟨⟨rfl, rfl, rfl, rfl⟩, ?_⟩; (try simp only [two]); (try simp only [AV.ren]); (try simp only [renT]); (try simp only [AT.ren]); (try simp only [A.ren]); (try (rw [ptr_ren]; rotate_left; exact rfl)); (try (rw [slc_ren]; rotate_left; exact rfl)); (try simp only [S.ren]))
        (repeat (first | refine aC ?_ | refine aK ?_ | refine ⟨fun _ => ?_, fun h => absurd h (by decide)⟩ | refine ⟨fun h => absurd h (by decide), fun _ => ?_⟩))
        (refine call_lift (Out_c g' u m ys hl2 hc2) (fun i => match i with | 0 => some 1 | _ => none) rfl rfl hI rfl rfl rfl ?_; rintro v H1 ⟨rfl, rfl⟩; refine ⟨⟨rfl, rfl, rfl, rfl⟩, ?_⟩; (try simp only [two]); (try simp only [AV.ren]); (try simp only [renT]); (try simp only [AT.ren]); (try simp only [A.ren]); (try (rw [ptr_ren]; rotate_left; exact rfl)); (try (rw [slc_ren]; rotate_left; exact rfl)); (try simp only [S.ren]))
        (repeat (first | refine aC ?_ | refine aK ?_ | refine ⟨fun _ => ?_, fun h => absurd h (by decide)⟩ | refine ⟨fun h => absurd h (by decide), fun _ => ?_⟩))
        exact ⟨(fun i => match i with | 0 => some 0 | 1 => some 1 | 2 => some 6 | 3 => some 7 | 4 => some 4 | 5 => some 5 | _ => none), by exact wI⟩
    focus
      skip
      (repeat (first | refine aC ?_ | refine aK ?_ | refine ⟨fun _ => ?_, fun h => absurd h (by decide)⟩ | refine ⟨fun h => absurd h (by decide), fun _ => ?_⟩))
      refine And.intro ?_ ?_
      focus
        skip
        (repeat (first | refine aC ?_ | refine aK ?_ | refine ⟨fun _ => ?_, fun h => absurd h (by decide)⟩ | refine ⟨fun h => absurd h (by decide), fun _ => ?_⟩))
        (refine call_lift (Out_c f v n xs hl hc1) (fun i => match i with | 0 => some 0 | _ => none) rfl rfl hI rfl rfl rfl ?_; rintro v H1 ⟨rfl, rfl⟩; refine ⟨⟨rfl, rfl, rfl, rfl⟩, ?_⟩; (try simp only [two]); (try simp only [AV.ren]); (try simp only [renT]); (try simp only [AT.ren]); (try simp only [A.ren]); (try (rw [ptr_ren]; rotate_left; exact rfl)); (try (rw [slc_ren]; rotate_left; exact rfl)); (try simp only [S.ren]))
        (repeat (first | refine aC ?_ | refine aK ?_ | refine ⟨fun _ => ?_, fun h => absurd h (by decide)⟩ | refine ⟨fun h => absurd h (by decide), fun _ => ?_⟩))
        refine And.intro ?_ ?_
        focus
          skip
          (repeat (first | refine aC ?_ | refine aK ?_ | refine ⟨fun _ => ?_, fun h => absurd h (by decide)⟩ | refine ⟨fun h => absurd h (by decide), fun _ => ?_⟩))
          (refine call_lift (Out_c g' u m ys hl2 hc2) (fun i => match i with | 0 => some 1 | _ => none) rfl rfl hI rfl rfl rfl ?_; rintro v H1 ⟨rfl, rfl⟩; refine ⟨⟨rfl, rfl, rfl, rfl⟩, ?_⟩; (try simp only [two]); (try simp only [AV.ren]); (try simp only [renT]); (try simp only [AT.ren]); (try simp only [A.ren]); (try (rw [ptr_ren]; rotate_left; exact rfl)); (try (rw [slc_ren]; rotate_left; exact rfl)); (try simp only [S.ren]))
          (repeat (first | refine aC ?_ | refine aK ?_ | refine ⟨fun _ => ?_, fun h => absurd h (by decide)⟩ | refine ⟨fun h => absurd h (by decide), fun _ => ?_⟩))
          exact ⟨(fun i => match i with | 0 => some 0 | 1 => some 1 | 2 => some 5 | 3 => some 6 | 4 => some 7 | 5 => some 4 | _ => none), by exact wI⟩
        focus
          skip
          (repeat (first | refine aC ?_ | refine aK ?_ | refine ⟨fun _ => ?_, fun h => absurd h (by decide)⟩ | refine ⟨fun h => absurd h (by decide), fun _ => ?_⟩))
          (refine call_lift (Out_c g' u m ys hl2 hc2) (fun i => match i with | 0 => some 1 | _ => none) rfl rfl hI rfl rfl rfl ?_; rintro v H1 ⟨rfl, rfl⟩; refine ⟨⟨rfl, rfl, rfl, rfl⟩, ?_⟩; (try simp only [two]); (try simp only [AV.ren]); (try simp only [renT]); (try simp only [AT.ren]); (try simp only [A.ren]); (try (rw [ptr_ren]; rotate_left; exact rfl)); (try (rw [slc_ren]; rotate_left; exact rfl)); (try simp only [S.ren]))
          (repeat (first | refine aC ?_ | refine aK ?_ | refine ⟨fun _ => ?_, fun h => absurd h (by decide)⟩ | refine ⟨fun h => absurd h (by decide), fun _ => ?_⟩))
          exact ⟨(fun i => match i with | 0 => some 0 | 1 => some 1 | 2 => some 5 | 3 => some 7 | 4 => some 6 | 5 => some 4 | _ => none), by exact wI⟩
      focus
        skip
        (repeat (first | refine aC ?_ | refine aK ?_ | refine ⟨fun _ => ?_, fun h => absurd h (by decide)⟩ | refine ⟨fun h => absurd h (by decide), fun _ => ?_⟩))
        (refine call_lift (Out_c f v n xs hl hc1) (fun i => match i with | 0 => some 0 | _ => none) rfl rfl hI rfl rfl rfl ?_; rintro v H1 ⟨rfl, rfl⟩; refine ⟨⟨rfl, rfl, rfl, rfl⟩, ?_⟩; (try simp only [two]); (try simp only [AV.ren]); (try simp only [renT]); (try simp only [AT.ren]); (try simp only [A.ren]); (try (rw [ptr_ren]; rotate_left; exact rfl)); (try (rw [slc_ren]; rotate_left; exact rfl)); (try simp only [S.ren]))
        (repeat (first | refine aC ?_ | refine aK ?_ | refine ⟨fun _ => ?_, fun h => absurd h (by decide)⟩ | refine ⟨fun h => absurd h (by decide), fun _ => ?_⟩))
        (refine call_lift (Out_c g' u m ys hl2 hc2) (fun i => match i with | 0 => some 1 | _ => none) rfl rfl hI rfl rfl rfl ?_; rintro v H1 ⟨rfl, rfl⟩; refine ⟨⟨rfl, rfl, rfl, rfl⟩, ?_⟩; (try simp only [two]); (try simp only [AV.ren]); (try simp only [renT]); (try simp only [AT.ren]); (try simp only [A.ren]); (try (rw [ptr_ren]; rotate_left; exact rfl)); (try (rw [slc_ren]; rotate_left; exact rfl)); (try simp only [S.ren]))
        (repeat (first | refine aC ?_ | refine aK ?_ | refine ⟨fun _ => ?_, fun h => absurd h (by decide)⟩ | refine ⟨fun h => absurd h (by decide), fun _ => ?_⟩))
        exact ⟨(fun i => match i with | 0 => some 0 | 1 => some 1 | 2 => some 6 | 3 => some 7 | 4 => some 5 | 5 => some 4 | _ => none), by exact wI⟩

  have hcn : (⟨f, v, xs⟩ : Cu).sl.length = n := hl
  have hcm : (⟨g', u, ys⟩ : Cu).sl.length = m := hl2
  refine sem_seq TYok mixedO [(8, .t (.a (.s (.ptr 4 0)))), (9, .t (.a (.s (.ptr 5 0)))), (10, .int .i64 (max f g')), (11, .int .i64 (min (f + (n : Int)) (g' + (m : Int))))] [rowB false xs, rowB false ys, rowB true (vals ⟨f, v, xs⟩ (n + 1)), rowB true (vals ⟨g', u, ys⟩ (m + 1)), qB f 2 (n + 1), qB g' 3 (m + 1)] ?_ ?_
  · (refine Or.inr (drawn_rule TYok mixedO [] [(true, 0, []), (true, 1, []), (true, 2, []), (true, 3, []), (true, 4, []), (true, 5, []), (true, 7, []), (false, 6, []), (false, 8, []), (true, 9, []), (true, 10, []), (true, 11, [])] (by kernel_rfl) ?_))
    (repeat (first | refine aC ?_ | refine aK ?_ | refine ⟨fun _ => ?_, fun h => absurd h (by decide)⟩ | refine ⟨fun h => absurd h (by decide), fun _ => ?_⟩))
    (refine call_lift (To_c f (n + 1) (vals ⟨f, v, xs⟩ (n + 1)) (by omega) (by omega)) (fun i => match i with | 0 => some 2 | _ => none) rfl rfl hI rfl rfl rfl ?_; rintro v H1 ⟨rfl, rfl⟩; refine ⟨⟨rfl, rfl, rfl, rfl⟩, ?_⟩; (try simp only [two]); (try simp only [AV.ren]); (try simp only [renT]); (try simp only [AT.ren]); (try simp only [A.ren]); (try (rw [ptr_ren]; rotate_left; exact rfl)); (try (rw [slc_ren]; rotate_left; exact rfl)); (try simp only [S.ren]))
    (repeat (first | refine aC ?_ | refine aK ?_ | refine ⟨fun _ => ?_, fun h => absurd h (by decide)⟩ | refine ⟨fun h => absurd h (by decide), fun _ => ?_⟩))
    (refine call_lift (To_c g' (m + 1) (vals ⟨g', u, ys⟩ (m + 1)) (by omega) (by omega)) (fun i => match i with | 0 => some 3 | _ => none) rfl rfl hI rfl rfl rfl ?_; rintro v H1 ⟨rfl, rfl⟩; refine ⟨⟨rfl, rfl, rfl, rfl⟩, ?_⟩; (try simp only [two]); (try simp only [AV.ren]); (try simp only [renT]); (try simp only [AT.ren]); (try simp only [A.ren]); (try (rw [ptr_ren]; rotate_left; exact rfl)); (try (rw [slc_ren]; rotate_left; exact rfl)); (try simp only [S.ren]))
    (repeat (first | refine aC ?_ | refine aK ?_ | refine ⟨fun _ => ?_, fun h => absurd h (by decide)⟩ | refine ⟨fun h => absurd h (by decide), fun _ => ?_⟩))
    have ehi : min (f + ((n + 1 : Nat) : Int) - 1) (g' + ((m + 1 : Nat) : Int) - 1) = min (f + (n : Int)) (g' + (m : Int)) := by omega
    rw [ehi]
    exact ⟨some, by exact wI⟩
  have b1 : max f g' = f ∨ max f g' = g' := by omega
  have b2 : f ≤ max f g' ∧ g' ≤ max f g' := by omega
  have b3 : min (f + (n : Int)) (g' + (m : Int)) ≤ f + n ∧ min (f + (n : Int)) (g' + (m : Int)) ≤ g' + m := by omega
  have b4 : min (f + (n : Int)) (g' + (m : Int)) = f + n ∨ min (f + (n : Int)) (g' + (m : Int)) = g' + m := by omega
  have hE6 : min (f + (n : Int)) (g' + (m : Int)) < max f g' → MeetE (⟨f, v, xs⟩ : Cu) (⟨g', u, ys⟩ : Cu) 6 := fun h => .inr ⟨hc1, hc2, by rw [hcn, hcm]; exact h, rfl⟩
  generalize min (f + (n : Int)) (g' + (m : Int)) = hi at *
  generalize max f g' = lo at *
  by_cases hE : hi < lo
  · refine vc_ok TYok mixedO _ _ _ _ ?_
    have q1 : decide (lo > hi) = true := decide_eq_true (by omega)
    (repeat (first | refine aC ?_ | refine aK ?_ | refine ⟨fun _ => ?_, fun h => absurd h (by decide)⟩ | refine ⟨fun h => absurd h (by decide), fun _ => ?_⟩))
    (first | refine brTT (q1) ?_ | refine brTF (q1) ?_ | refine brFT (q1) ?_ | refine brFF (q1) ?_)
    (repeat (first | refine aC ?_ | refine aK ?_ | refine ⟨fun _ => ?_, fun h => absurd h (by decide)⟩ | refine ⟨fun h => absurd h (by decide), fun _ => ?_⟩))
    exact ⟨(fun i => match i with | 0 => some 0 | 1 => some 1 | _ => none), tupOf [intT 0, intT 0, intT 0, intT 6], [rowB false xs, rowB false ys], by exact wI, .inl ⟨6, hE6 hE, rfl⟩, rfl⟩
  have q1 : decide (lo > hi) = false := decide_eq_false (by omega)
  refine sem_seq TYok mixedO [(8, .t (.a (.s (.ptr 4 0)))), (9, .t (.a (.s (.ptr 5 0)))), (10, .int .i64 lo), (11, .int .i64 hi)] [rowB false xs, rowB false ys, rowB true (vals ⟨f, v, xs⟩ (n + 1)), rowB true (vals ⟨g', u, ys⟩ (m + 1)), qB f 2 (n + 1), qB g' 3 (m + 1)] ?_ ?_
  · (repeat (first | refine aC ?_ | refine aK ?_ | refine ⟨fun _ => ?_, fun h => absurd h (by decide)⟩ | refine ⟨fun h => absurd h (by decide), fun _ => ?_⟩))
    (first | refine brTT (q1) ?_ | refine brTF (q1) ?_ | refine brFT (q1) ?_ | refine brFF (q1) ?_)
    exact ⟨some, by exact wI⟩
  have hIe : ((lo - f).toNat : Int) = lo - f := by omega
  have hJ : ((lo - g').toNat : Int) = lo - g' := by omega
  have hL : ((hi - lo).toNat : Int) = hi - lo := by omega
  generalize (lo - f).toNat = I at *
  generalize (lo - g').toNat = J at *
  generalize (hi - lo).toNat = L at *
  have hIL : I + L ≤ n := by omega
  have hJL : J + L ≤ m := by omega
  have hA := fun k (hk : k ≤ n) => val_in hc1 (k := k) (by rw [hcn]; exact hk)
  have hB := fun k (hk : k ≤ m) => val_in hc2 (k := k) (by rw [hcm]; exact hk)
  have eA : ∀ k, k ≤ n → iA (vals ⟨f, v, xs⟩ (n + 1)) k = valK (⟨f, v, xs⟩ : Cu) k := fun k hk => vals_at (by omega)
  have eB : ∀ k, k ≤ m → iA (vals ⟨g', u, ys⟩ (m + 1)) k = valK (⟨g', u, ys⟩ : Cu) k := fun k hk => vals_at (by omega)
  obtain ⟨S, hS⟩ : ∃ S : Nat → Int, ∀ k, S k = valK (⟨f, v, xs⟩ : Cu) (I + k) + valK (⟨g', u, ys⟩ : Cu) (J + k) := ⟨fun k => valK (⟨f, v, xs⟩ : Cu) (I + k) + valK (⟨g', u, ys⟩ : Cu) (J + k), fun _ => rfl⟩
  have hSk : ∀ k, k ≤ L → iA (vals ⟨f, v, xs⟩ (n + 1)) (I + k) + iA (vals ⟨g', u, ys⟩ (m + 1)) (J + k) = S k := fun k hk => by rw [eA (I + k) (by omega), eB (J + k) (by omega), hS]
  have hSb : ∀ k, k ≤ L → i64ok (iA (vals ⟨f, v, xs⟩ (n + 1)) (I + k) + iA (vals ⟨g', u, ys⟩ (m + 1)) (J + k)) = true := fun k hk => by
    have h1 := hA (I + k) (by omega)
    have h2 := hB (J + k) (by omega)
    rw [eA (I + k) (by omega), eB (J + k) (by omega)]
    exact i64_of (by omega)
  refine sem_seq TYok mixedO [(8, .t (.a (.s (.ptr 4 0)))), (9, .t (.a (.s (.ptr 5 0)))), (10, .int .i64 lo), (11, .int .i64 hi), (12, .int .i64 lo)] [rowB false xs, rowB false ys, rowB true (vals ⟨f, v, xs⟩ (n + 1)), rowB true (vals ⟨g', u, ys⟩ (m + 1)), qB f 2 (n + 1), qB g' 3 (m + 1)] ?_ ?_
  · (repeat (first | refine aC ?_ | refine aK ?_ | refine ⟨fun _ => ?_, fun h => absurd h (by decide)⟩ | refine ⟨fun h => absurd h (by decide), fun _ => ?_⟩))
    exact ⟨some, by exact wI⟩
  refine sem_seqE TYok mixedO (ι := Nat) (fun p => [(8, .t (.a (.s (.ptr 4 0)))), (9, .t (.a (.s (.ptr 5 0)))), (12, .int .i64 (lo + p))]) (fun _ => [rowB false xs, rowB false ys, rowB true (vals ⟨f, v, xs⟩ (n + 1)), rowB true (vals ⟨g', u, ys⟩ (m + 1)), qB f 2 (n + 1), qB g' 3 (m + 1)]) (fun p => p ≤ L ∧ (∀ r, r ≤ L → S p ≤ S r) ∧ (∀ r, r < p → S p < S r)) ?_ ?_
  · (repeat (first | refine aC ?_ | refine aK ?_ | refine ⟨fun _ => ?_, fun h => absurd h (by decide)⟩ | refine ⟨fun h => absurd h (by decide), fun _ => ?_⟩))
    refine loop_rule TYok mixedO (ι := Nat × Nat × Int × Int) (fun q => [(8, .t (.a (.s (.ptr 4 0)))), (9, .t (.a (.s (.ptr 5 0)))), (11, .int .i64 hi), (12, .int .i64 q.2.2.2), (13, .int .i64 q.2.2.1)]) (fun _ => [rowB false xs, rowB false ys, rowB true (vals ⟨f, v, xs⟩ (n + 1)), rowB true (vals ⟨g', u, ys⟩ (m + 1)), qB f 2 (n + 1), qB g' 3 (m + 1)]) (fun q => q.1 ≤ L + 1 ∧ q.2.1 ≤ L ∧ (∀ r, r < q.1 → S q.2.1 ≤ S r) ∧ (∀ r, r < q.2.1 → S q.2.1 < S r) ∧ q.2.2.1 = lo + q.1 ∧ q.2.2.2 = lo + q.2.1) (fun q => L + 1 - q.1) (0, 0, lo, lo) ⟨Nat.zero_le _, Nat.zero_le _, fun r hr => absurd hr (Nat.not_lt_zero r), fun r hr => absurd hr (Nat.not_lt_zero r), by simp, by simp⟩ some (by exact wI) ?_
    rintro ⟨k, p, y, x⟩ ⟨hk, hp, hmin, hfst, hy, hx⟩
    dsimp only at hk hp hmin hfst hy hx ⊢
    (repeat (first | refine aC ?_ | refine aK ?_ | refine ⟨fun _ => ?_, fun h => absurd h (by decide)⟩ | refine ⟨fun h => absurd h (by decide), fun _ => ?_⟩))
    refine ⟨fun g => ?_, fun g => ?_⟩
    · have g := of_decide_eq_true g
      have hlt : k ≤ L := by omega
      have ok1 := hSb k hlt
      have ok2 := hSb p hp
      (repeat (first | refine aC ?_ | refine ⟨fun _ => ?_, fun h => absurd h (by decide)⟩ | refine ⟨fun h => absurd h (by decide), fun _ => ?_⟩))
      refine Or.inr (cut_rule [(8, .t (.a (.s (.ptr 4 0)))), (9, .t (.a (.s (.ptr 5 0)))), (11, .int .i64 hi), (12, .int .i64 x), (13, .int .i64 y)] [rowB false xs, rowB false ys, rowB true (vals ⟨f, v, xs⟩ (n + 1)), rowB true (vals ⟨g', u, ys⟩ (m + 1)), qB f 2 (n + 1), qB g' 3 (m + 1)] some (by exact wI) ?_)
      (refine drawn_rule TYok mixedO [] [(true, 0, []), (true, 1, []), (true, 3, []), (true, 4, []), (true, 7, []), (true, 8, []), (true, 10, []), (true, 11, []), (false, 2, []), (false, 5, []), (true, 6, []), (false, 9, []), (false, 12, []), (true, 13, []), (true, 14, [])] (by kernel_rfl) ?_)
      (repeat (first | refine aC ?_ | refine aK ?_ | refine ⟨fun _ => ?_, fun h => absurd h (by decide)⟩ | refine ⟨fun h => absurd h (by decide), fun _ => ?_⟩))
      (refine call_lift (Value_c f y (n + 1) (I + k) (vals ⟨f, v, xs⟩ (n + 1)) hvl (by omega) (by omega) (by omega) (by omega)) (fun i => match i with | 0 => some 2 | _ => none) rfl rfl hI rfl rfl rfl ?_; rintro v H1 ⟨rfl, rfl⟩; refine ⟨⟨rfl, rfl, rfl, rfl⟩, ?_⟩; (try simp only [two]); (try simp only [AV.ren]); (try simp only [renT]); (try simp only [AT.ren]); (try simp only [A.ren]); (try (rw [ptr_ren]; rotate_left; exact rfl)); (try (rw [slc_ren]; rotate_left; exact rfl)); (try simp only [S.ren]))
      (repeat (first | refine aC ?_ | refine aK ?_ | refine ⟨fun _ => ?_, fun h => absurd h (by decide)⟩ | refine ⟨fun h => absurd h (by decide), fun _ => ?_⟩))
      (refine call_lift (Value_c g' y (m + 1) (J + k) (vals ⟨g', u, ys⟩ (m + 1)) hvl2 (by omega) (by omega) (by omega) (by omega)) (fun i => match i with | 0 => some 3 | _ => none) rfl rfl hI rfl rfl rfl ?_; rintro v H1 ⟨rfl, rfl⟩; refine ⟨⟨rfl, rfl, rfl, rfl⟩, ?_⟩; (try simp only [two]); (try simp only [AV.ren]); (try simp only [renT]); (try simp only [AT.ren]); (try simp only [A.ren]); (try (rw [ptr_ren]; rotate_left; exact rfl)); (try (rw [slc_ren]; rotate_left; exact rfl)); (try simp only [S.ren]))
      (repeat (first | refine aC ?_ | refine aK ?_ | refine ⟨fun _ => ?_, fun h => absurd h (by decide)⟩ | refine ⟨fun h => absurd h (by decide), fun _ => ?_⟩))
      (refine call_lift (Value_c f x (n + 1) (I + p) (vals ⟨f, v, xs⟩ (n + 1)) hvl (by omega) (by omega) (by omega) (by omega)) (fun i => match i with | 0 => some 2 | _ => none) rfl rfl hI rfl rfl rfl ?_; rintro v H1 ⟨rfl, rfl⟩; refine ⟨⟨rfl, rfl, rfl, rfl⟩, ?_⟩; (try simp only [two]); (try simp only [AV.ren]); (try simp only [renT]); (try simp only [AT.ren]); (try simp only [A.ren]); (try (rw [ptr_ren]; rotate_left; exact rfl)); (try (rw [slc_ren]; rotate_left; exact rfl)); (try simp only [S.ren]))
      (repeat (first | refine aC ?_ | refine aK ?_ | refine ⟨fun _ => ?_, fun h => absurd h (by decide)⟩ | refine ⟨fun h => absurd h (by decide), fun _ => ?_⟩))
      (refine call_lift (Value_c g' x (m + 1) (J + p) (vals ⟨g', u, ys⟩ (m + 1)) hvl2 (by omega) (by omega) (by omega) (by omega)) (fun i => match i with | 0 => some 3 | _ => none) rfl rfl hI rfl rfl rfl ?_; rintro v H1 ⟨rfl, rfl⟩; refine ⟨⟨rfl, rfl, rfl, rfl⟩, ?_⟩; (try simp only [two]); (try simp only [AV.ren]); (try simp only [renT]); (try simp only [AT.ren]); (try simp only [A.ren]); (try (rw [ptr_ren]; rotate_left; exact rfl)); (try (rw [slc_ren]; rotate_left; exact rfl)); (try simp only [S.ren]))
      (repeat (first | refine aC ?_ | refine aK ?_ | refine ⟨fun _ => ?_, fun h => absurd h (by decide)⟩ | refine ⟨fun h => absurd h (by decide), fun _ => ?_⟩))
      by_cases k1 : S k < S p
      · have q2 : decide (iA (vals ⟨f, v, xs⟩ (n + 1)) (I + k) + iA (vals ⟨g', u, ys⟩ (m + 1)) (J + k) < iA (vals ⟨f, v, xs⟩ (n + 1)) (I + p) + iA (vals ⟨g', u, ys⟩ (m + 1)) (J + p)) = true := by rw [hSk k hlt, hSk p hp]; exact decide_eq_true k1
        (first | refine brTT (q2) ?_ | refine brTF (q2) ?_ | refine brFT (q2) ?_ | refine brFF (q2) ?_)
        (repeat (first | refine aC ?_ | refine aK ?_ | refine ⟨fun _ => ?_, fun h => absurd h (by decide)⟩ | refine ⟨fun h => absurd h (by decide), fun _ => ?_⟩))
        exact ⟨(k + 1, k, y + 1, y), ⟨by dsimp only; omega, hlt, fun r hr => (by
          dsimp only at hr ⊢
          rcases Nat.lt_or_ge r k with h | h
          · exact Int.le_of_lt (Int.lt_of_lt_of_le k1 (hmin r h))
          · rw [show r = k by omega]; exact Int.le_refl _), fun r hr => Int.lt_of_lt_of_le k1 (hmin r hr), by dsimp only; omega, by dsimp only; omega⟩, by dsimp only; omega, some, by exact wI⟩
      · have q2 : decide (iA (vals ⟨f, v, xs⟩ (n + 1)) (I + k) + iA (vals ⟨g', u, ys⟩ (m + 1)) (J + k) < iA (vals ⟨f, v, xs⟩ (n + 1)) (I + p) + iA (vals ⟨g', u, ys⟩ (m + 1)) (J + p)) = false := by rw [hSk k hlt, hSk p hp]; exact decide_eq_false k1
        (first | refine brTT (q2) ?_ | refine brTF (q2) ?_ | refine brFT (q2) ?_ | refine brFF (q2) ?_)
        (repeat (first | refine aC ?_ | refine aK ?_ | refine ⟨fun _ => ?_, fun h => absurd h (by decide)⟩ | refine ⟨fun h => absurd h (by decide), fun _ => ?_⟩))
        exact ⟨(k + 1, p, y + 1, x), ⟨by dsimp only; omega, hp, fun r hr => (by
          dsimp only at hr ⊢
          rcases Nat.lt_or_ge r k with h | h
          · exact hmin r h
          · rw [show r = k by omega]; exact Int.not_lt.1 k1), hfst, by dsimp only; omega, hx⟩, by dsimp only; omega, some, by exact wI⟩
    · have g := of_decide_eq_false g
      have hkL : k = L + 1 := by omega
      subst hx
      (repeat (first | refine aC ?_ | refine aK ?_ | refine ⟨fun _ => ?_, fun h => absurd h (by decide)⟩ | refine ⟨fun h => absurd h (by decide), fun _ => ?_⟩))
      exact ⟨p, ⟨hp, fun r hr => hmin r (by omega), hfst⟩, some, by exact wI⟩
  rintro p ⟨hp, hmin, hfst⟩
  have hbx : lo + (p : Int) = f + ((I + p : Nat) : Int) := by omega
  have hby : lo + (p : Int) = g' + ((J + p : Nat) : Int) := by omega
  have hok : MeetOk (⟨f, v, xs⟩ : Cu) (⟨g', u, ys⟩ : Cu) (I + p) (J + p) := by
    refine ⟨hc1, hc2, by rw [hcn]; omega, by rw [hcm]; omega, by show f + _ = g' + _; omega, ?_, ?_⟩
    · rcases Nat.eq_zero_or_pos p with e | e
      · omega
      · refine .inr (.inr ?_)
        have h1 := hfst (p - 1) (by omega)
        rw [hS, hS] at h1
        obtain ⟨p', rfl⟩ : ∃ p', p = p' + 1 := ⟨p - 1, by omega⟩
        rw [show I + (p' + 1) = (I + p') + 1 by omega, show J + (p' + 1) = (J + p') + 1 by omega, valK_succ, valK_succ, show p' + 1 - 1 = p' by omega] at h1
        rw [show I + (p' + 1) - 1 = I + p' by omega, show J + (p' + 1) - 1 = J + p' by omega]
        omega
    · rw [hcn, hcm]
      rcases Nat.lt_or_ge p L with e | e
      · refine .inr (.inr ?_)
        have h1 := hmin (p + 1) (by omega)
        rw [hS, hS, show I + (p + 1) = (I + p) + 1 by omega, show J + (p + 1) = (J + p) + 1 by omega, valK_succ, valK_succ] at h1
        omega
      · omega
  have hbef : -1048576 ≤ befV (⟨f, v, xs⟩ : Cu) (I + p) := by
    unfold befV
    split
    · exact Int.le_refl _
    · exact (okC_sl1 hc1 (k := I + p - 1) (by rw [hcn]; omega)).1
  have hbe1 : ∀ (_ : I + p ≠ 0), max (-1048576) (iA (vals ⟨f, v, xs⟩ (n + 1)) (I + p) - iA (vals ⟨f, v, xs⟩ (n + 1)) (I + p - 1)) = befV (⟨f, v, xs⟩ : Cu) (I + p) := fun k0 => by
    rw [eA (I + p) (by omega), eA (I + p - 1) (by omega)]
    have e : befV (⟨f, v, xs⟩ : Cu) (I + p) = iA xs (I + p - 1) := if_neg k0
    rw [e] at hbef ⊢
    obtain ⟨q, hq⟩ : ∃ q, I + p = q + 1 := ⟨I + p - 1, by omega⟩
    rw [hq, valK_succ, show q + 1 - 1 = q by omega]
    rw [hq, show q + 1 - 1 = q by omega] at hbef
    show max (-1048576) (valK (⟨f, v, xs⟩ : Cu) q + iA xs q - valK (⟨f, v, xs⟩ : Cu) q) = iA xs q
    omega
  have haf1 : J + p ≠ m → max (befV (⟨f, v, xs⟩ : Cu) (I + p)) (iA (vals ⟨g', u, ys⟩ (m + 1)) (J + p) - iA (vals ⟨g', u, ys⟩ (m + 1)) (J + p + 1)) = max (befV (⟨f, v, xs⟩ : Cu) (I + p)) (-(aftV (⟨g', u, ys⟩ : Cu) (J + p))) := fun k0 => by
    rw [eB (J + p) (by omega), eB (J + p + 1) (by omega), valK_succ]
    have e : aftV (⟨g', u, ys⟩ : Cu) (J + p) = iA ys (J + p) := if_neg (by rw [hcm]; exact k0)
    rw [e]
    show max _ (valK (⟨g', u, ys⟩ : Cu) (J + p) - (valK (⟨g', u, ys⟩ : Cu) (J + p) + iA ys (J + p))) = _
    congr 1
    omega
  have haf0 : J + p = m → max (befV (⟨f, v, xs⟩ : Cu) (I + p)) (-(aftV (⟨g', u, ys⟩ : Cu) (J + p))) = befV (⟨f, v, xs⟩ : Cu) (I + p) := fun k0 => by
    have e : aftV (⟨g', u, ys⟩ : Cu) (J + p) = 1048576 := if_pos (by rw [hcm]; exact k0)
    rw [e]
    omega
  have bA := hA (I + p) (by omega)
  have bB := hB (J + p) (by omega)
  have okp := hSb p hp
  have eAp := eA (I + p) (by omega)
  have eBp := eB (J + p) (by omega)
  generalize hbv : befV (⟨f, v, xs⟩ : Cu) (I + p) = bv at *
  generalize hav : max bv (-(aftV (⟨g', u, ys⟩ : Cu) (J + p))) = av at *
  refine sem_seq TYok mixedO [(8, .t (.a (.s (.ptr 4 0)))), (9, .t (.a (.s (.ptr 5 0)))), (12, .int .i64 (lo + p)), (14, .int .i64 (-1048576))] [rowB false xs, rowB false ys, rowB true (vals ⟨f, v, xs⟩ (n + 1)), rowB true (vals ⟨g', u, ys⟩ (m + 1)), qB f 2 (n + 1), qB g' 3 (m + 1)] ?_ ?_
  · (repeat (first | refine aC ?_ | refine aK ?_ | refine ⟨fun _ => ?_, fun h => absurd h (by decide)⟩ | refine ⟨fun h => absurd h (by decide), fun _ => ?_⟩))
    exact ⟨some, by exact wI⟩
  refine sem_seq TYok mixedO [(8, .t (.a (.s (.ptr 4 0)))), (9, .t (.a (.s (.ptr 5 0)))), (12, .int .i64 (lo + p)), (14, .int .i64 bv)] [rowB false xs, rowB false ys, rowB true (vals ⟨f, v, xs⟩ (n + 1)), rowB true (vals ⟨g', u, ys⟩ (m + 1)), qB f 2 (n + 1), qB g' 3 (m + 1)] ?_ ?_
  · (repeat (first | refine aC ?_ | refine aK ?_ | refine ⟨fun _ => ?_, fun h => absurd h (by decide)⟩ | refine ⟨fun h => absurd h (by decide), fun _ => ?_⟩))
    by_cases k0 : I + p = 0
    · have q : decide (lo + (p : Int) > f) = false := decide_eq_false (by omega)
      have e : bv = -1048576 := by rw [← hbv]; exact if_pos k0
      rw [e]
      (first | refine brTT (q) ?_ | refine brTF (q) ?_ | refine brFT (q) ?_ | refine brFF (q) ?_)
      exact ⟨some, by exact wI⟩
    · have q : decide (lo + (p : Int) > f) = true := decide_eq_true (by omega)
      have hbe := hbe1 k0
      have bA1 := hA (I + p - 1) (by omega)
      have okd : i64ok (iA (vals ⟨f, v, xs⟩ (n + 1)) (I + p) - iA (vals ⟨f, v, xs⟩ (n + 1)) (I + p - 1)) = true := by
        rw [eAp, eA (I + p - 1) (by omega)]
        exact i64_of (by omega)
      (first | refine brTT (q) ?_ | refine brTF (q) ?_ | refine brFT (q) ?_ | refine brFF (q) ?_)
      (repeat (first | refine aC ?_ | refine ⟨fun _ => ?_, fun h => absurd h (by decide)⟩ | refine ⟨fun h => absurd h (by decide), fun _ => ?_⟩))
      refine Or.inr (cut_rule [(8, .t (.a (.s (.ptr 4 0)))), (9, .t (.a (.s (.ptr 5 0)))), (12, .int .i64 (lo + p)), (14, .int .i64 (-1048576))] [rowB false xs, rowB false ys, rowB true (vals ⟨f, v, xs⟩ (n + 1)), rowB true (vals ⟨g', u, ys⟩ (m + 1)), qB f 2 (n + 1), qB g' 3 (m + 1)] some (by exact wI) ?_)
      (refine drawn_rule TYok mixedO [] [(true, 0, []), (true, 1, []), (true, 2, []), (true, 4, []), (true, 5, []), (true, 6, []), (false, 3, []), (false, 7, []), (true, 8, []), (true, 9, []), (true, 10, [])] (by kernel_rfl) ?_)
      (repeat (first | refine aC ?_ | refine aK ?_ | refine ⟨fun _ => ?_, fun h => absurd h (by decide)⟩ | refine ⟨fun h => absurd h (by decide), fun _ => ?_⟩))
      (refine call_lift (Value_c f (lo + p) (n + 1) (I + p) (vals ⟨f, v, xs⟩ (n + 1)) hvl (by omega) (by omega) (by omega) (by omega)) (fun i => match i with | 0 => some 2 | _ => none) rfl rfl hI rfl rfl rfl ?_; rintro v H1 ⟨rfl, rfl⟩; refine ⟨⟨rfl, rfl, rfl, rfl⟩, ?_⟩; (try simp only [two]); (try simp only [AV.ren]); (try simp only [renT]); (try simp only [AT.ren]); (try simp only [A.ren]); (try (rw [ptr_ren]; rotate_left; exact rfl)); (try (rw [slc_ren]; rotate_left; exact rfl)); (try simp only [S.ren]))
      (repeat (first | refine aC ?_ | refine aK ?_ | refine ⟨fun _ => ?_, fun h => absurd h (by decide)⟩ | refine ⟨fun h => absurd h (by decide), fun _ => ?_⟩))
      (refine call_lift (Value_c f (lo + p - 1) (n + 1) (I + p - 1) (vals ⟨f, v, xs⟩ (n + 1)) hvl (by omega) (by omega) (by omega) (by omega)) (fun i => match i with | 0 => some 2 | _ => none) rfl rfl hI rfl rfl rfl ?_; rintro v H1 ⟨rfl, rfl⟩; refine ⟨⟨rfl, rfl, rfl, rfl⟩, ?_⟩; (try simp only [two]); (try simp only [AV.ren]); (try simp only [renT]); (try simp only [AT.ren]); (try simp only [A.ren]); (try (rw [ptr_ren]; rotate_left; exact rfl)); (try (rw [slc_ren]; rotate_left; exact rfl)); (try simp only [S.ren]))
      (repeat (first | refine aC ?_ | refine aK ?_ | refine ⟨fun _ => ?_, fun h => absurd h (by decide)⟩ | refine ⟨fun h => absurd h (by decide), fun _ => ?_⟩))
      rw [hbe]
      exact ⟨some, by exact wI⟩
  refine sem_seq TYok mixedO [(8, .t (.a (.s (.ptr 4 0)))), (9, .t (.a (.s (.ptr 5 0)))), (12, .int .i64 (lo + p)), (14, .int .i64 av)] [rowB false xs, rowB false ys, rowB true (vals ⟨f, v, xs⟩ (n + 1)), rowB true (vals ⟨g', u, ys⟩ (m + 1)), qB f 2 (n + 1), qB g' 3 (m + 1)] ?_ ?_
  · (repeat (first | refine aC ?_ | refine aK ?_ | refine ⟨fun _ => ?_, fun h => absurd h (by decide)⟩ | refine ⟨fun h => absurd h (by decide), fun _ => ?_⟩))
    (refine call_lift (To_c g' (m + 1) (vals ⟨g', u, ys⟩ (m + 1)) (by omega) (by omega)) (fun i => match i with | 0 => some 3 | _ => none) rfl rfl hI rfl rfl rfl ?_; rintro v H1 ⟨rfl, rfl⟩; refine ⟨⟨rfl, rfl, rfl, rfl⟩, ?_⟩; (try simp only [two]); (try simp only [AV.ren]); (try simp only [renT]); (try simp only [AT.ren]); (try simp only [A.ren]); (try (rw [ptr_ren]; rotate_left; exact rfl)); (try (rw [slc_ren]; rotate_left; exact rfl)); (try simp only [S.ren]))
    (repeat (first | refine aC ?_ | refine aK ?_ | refine ⟨fun _ => ?_, fun h => absurd h (by decide)⟩ | refine ⟨fun h => absurd h (by decide), fun _ => ?_⟩))
    by_cases k0 : J + p = m
    · have q : decide (lo + (p : Int) < g' + ((m + 1 : Nat) : Int) - 1) = false := decide_eq_false (by omega)
      rw [haf0 k0]
      (first | refine brTT (q) ?_ | refine brTF (q) ?_ | refine brFT (q) ?_ | refine brFF (q) ?_)
      exact ⟨some, by exact wI⟩
    · have q : decide (lo + (p : Int) < g' + ((m + 1 : Nat) : Int) - 1) = true := decide_eq_true (by omega)
      have haf := haf1 k0
      have bB1 := hB (J + p + 1) (by omega)
      have okd : i64ok (iA (vals ⟨g', u, ys⟩ (m + 1)) (J + p) - iA (vals ⟨g', u, ys⟩ (m + 1)) (J + p + 1)) = true := by
        rw [eBp, eB (J + p + 1) (by omega)]
        exact i64_of (by omega)
      (first | refine brTT (q) ?_ | refine brTF (q) ?_ | refine brFT (q) ?_ | refine brFF (q) ?_)
      (repeat (first | refine aC ?_ | refine ⟨fun _ => ?_, fun h => absurd h (by decide)⟩ | refine ⟨fun h => absurd h (by decide), fun _ => ?_⟩))
      refine Or.inr (cut_rule [(8, .t (.a (.s (.ptr 4 0)))), (9, .t (.a (.s (.ptr 5 0)))), (12, .int .i64 (lo + p)), (14, .int .i64 bv)] [rowB false xs, rowB false ys, rowB true (vals ⟨f, v, xs⟩ (n + 1)), rowB true (vals ⟨g', u, ys⟩ (m + 1)), qB f 2 (n + 1), qB g' 3 (m + 1)] some (by exact wI) ?_)
      (refine drawn_rule TYok mixedO [] [(true, 0, []), (true, 1, []), (true, 2, []), (true, 4, []), (true, 5, []), (true, 6, []), (false, 3, []), (false, 7, []), (true, 8, []), (true, 9, []), (true, 10, [])] (by kernel_rfl) ?_)
      (repeat (first | refine aC ?_ | refine aK ?_ | refine ⟨fun _ => ?_, fun h => absurd h (by decide)⟩ | refine ⟨fun h => absurd h (by decide), fun _ => ?_⟩))
      (refine call_lift (Value_c g' (lo + p) (m + 1) (J + p) (vals ⟨g', u, ys⟩ (m + 1)) hvl2 (by omega) (by omega) (by omega) (by omega)) (fun i => match i with | 0 => some 3 | _ => none) rfl rfl hI rfl rfl rfl ?_; rintro v H1 ⟨rfl, rfl⟩; refine ⟨⟨rfl, rfl, rfl, rfl⟩, ?_⟩; (try simp only [two]); (try simp only [AV.ren]); (try simp only [renT]); (try simp only [AT.ren]); (try simp only [A.ren]); (try (rw [ptr_ren]; rotate_left; exact rfl)); (try (rw [slc_ren]; rotate_left; exact rfl)); (try simp only [S.ren]))
      (repeat (first | refine aC ?_ | refine aK ?_ | refine ⟨fun _ => ?_, fun h => absurd h (by decide)⟩ | refine ⟨fun h => absurd h (by decide), fun _ => ?_⟩))
      (refine call_lift (Value_c g' (lo + p + 1) (m + 1) (J + p + 1) (vals ⟨g', u, ys⟩ (m + 1)) hvl2 (by omega) (by omega) (by omega) (by omega)) (fun i => match i with | 0 => some 3 | _ => none) rfl rfl hI rfl rfl rfl ?_; rintro v H1 ⟨rfl, rfl⟩; refine ⟨⟨rfl, rfl, rfl, rfl⟩, ?_⟩; (try simp only [two]); (try simp only [AV.ren]); (try simp only [renT]); (try simp only [AT.ren]); (try simp only [A.ren]); (try (rw [ptr_ren]; rotate_left; exact rfl)); (try (rw [slc_ren]; rotate_left; exact rfl)); (try simp only [S.ren]))
      (repeat (first | refine aC ?_ | refine aK ?_ | refine ⟨fun _ => ?_, fun h => absurd h (by decide)⟩ | refine ⟨fun h => absurd h (by decide), fun _ => ?_⟩))
      rw [haf]
      exact ⟨some, by exact wI⟩
  refine vc_ok TYok mixedO _ _ _ _ ?_
  (repeat (first | refine aC ?_ | refine ⟨fun _ => ?_, fun h => absurd h (by decide)⟩ | refine ⟨fun h => absurd h (by decide), fun _ => ?_⟩))
  refine Or.inr (cut_rule [(8, .t (.a (.s (.ptr 4 0)))), (9, .t (.a (.s (.ptr 5 0)))), (12, .int .i64 (lo + p)), (14, .int .i64 av)] [rowB false xs, rowB false ys, rowB true (vals ⟨f, v, xs⟩ (n + 1)), rowB true (vals ⟨g', u, ys⟩ (m + 1)), qB f 2 (n + 1), qB g' 3 (m + 1)] some (by exact wI) ?_)
  (refine drawn_rule TYok mixedO [] [(true, 0, []), (true, 1, []), (true, 3, []), (true, 4, []), (true, 7, []), (true, 8, []), (false, 2, []), (false, 5, []), (true, 6, []), (true, 9, []), (true, 10, []), (true, 11, []), (true, 12, [])] (by kernel_rfl) ?_)
  (repeat (first | refine aC ?_ | refine aK ?_ | refine ⟨fun _ => ?_, fun h => absurd h (by decide)⟩ | refine ⟨fun h => absurd h (by decide), fun _ => ?_⟩))
  (refine call_lift (Value_c f (lo + p) (n + 1) (I + p) (vals ⟨f, v, xs⟩ (n + 1)) hvl (by omega) (by omega) (by omega) (by omega)) (fun i => match i with | 0 => some 2 | _ => none) rfl rfl hI rfl rfl rfl ?_; rintro v H1 ⟨rfl, rfl⟩; refine ⟨⟨rfl, rfl, rfl, rfl⟩, ?_⟩; (try simp only [two]); (try simp only [AV.ren]); (try simp only [renT]); (try simp only [AT.ren]); (try simp only [A.ren]); (try (rw [ptr_ren]; rotate_left; exact rfl)); (try (rw [slc_ren]; rotate_left; exact rfl)); (try simp only [S.ren]))
  (repeat (first | refine aC ?_ | refine aK ?_ | refine ⟨fun _ => ?_, fun h => absurd h (by decide)⟩ | refine ⟨fun h => absurd h (by decide), fun _ => ?_⟩))
  (refine call_lift (Value_c g' (lo + p) (m + 1) (J + p) (vals ⟨g', u, ys⟩ (m + 1)) hvl2 (by omega) (by omega) (by omega) (by omega)) (fun i => match i with | 0 => some 3 | _ => none) rfl rfl hI rfl rfl rfl ?_; rintro v H1 ⟨rfl, rfl⟩; refine ⟨⟨rfl, rfl, rfl, rfl⟩, ?_⟩; (try simp only [two]); (try simp only [AV.ren]); (try simp only [renT]); (try simp only [AT.ren]); (try simp only [A.ren]); (try (rw [ptr_ren]; rotate_left; exact rfl)); (try (rw [slc_ren]; rotate_left; exact rfl)); (try simp only [S.ren]))
  (repeat (first | refine aC ?_ | refine aK ?_ | refine ⟨fun _ => ?_, fun h => absurd h (by decide)⟩ | refine ⟨fun h => absurd h (by decide), fun _ => ?_⟩))
  exact ⟨(fun i => match i with | 0 => some 0 | 1 => some 1 | _ => none), tupOf [intT (iA (vals ⟨f, v, xs⟩ (n + 1)) (I + p) + iA (vals ⟨g', u, ys⟩ (m + 1)) (J + p)), intT (lo + p), intT av, intT 0], [rowB false xs, rowB false ys], by exact wI, .inr ⟨I + p, J + p, hok, by rw [eAp, eBp, hbx, hbv, hav]⟩, rfl⟩
end Go.Proofs.Ytdepnhnpklbmiaa
