/- A grant taken back. -/
import Derived.Test.YtlbgkfidpkbafaaC25
namespace Go.Proofs.Ytlbgkfidpkbafaa
open Go.RowKit
set_option linter.unusedSimpArgs false
set_option linter.unusedVariables false
def revX (xs : List Int) (k : Nat) : List Int := xs.set (k * 9 + 8) 1
theorem revX_len (xs : List Int) (k : Nat) : (revX xs k).length = xs.length := by simp [revX]
theorem revX_get {n : Nat} {xs : List Int} (hx : n * 9 = xs.length) {k : Nat} (hk : k < n) {i o : Nat} (ho : o < 9) : fG (revX xs k) i o = if i = k ∧ o = 8 then 1 else fG xs i o := by
  unfold revX
  by_cases e : i = k ∧ o = 8
  · obtain ⟨rfl, rfl⟩ := e
    rw [if_pos ⟨rfl, rfl⟩]
    simp only [List.getD_eq_getElem?_getD]
    rw [List.getElem?_set_self (by omega)]
    rfl
  · rw [if_neg e]
    simp only [List.getD_eq_getElem?_getD]
    rw [List.getElem?_set_ne (fun e' => e (by omega))]
theorem revX_rng {n : Nat} {xs : List Int} (hR : Rng n xs) {k : Nat} (hk : k < n) : Rng n (revX xs k) := by
  have hx := hR.wf.len
  have g : ∀ i o, o < 8 → fG (revX xs k) i o = fG xs i o := fun i o ho => by
    rw [revX_get hx hk (by omega), if_neg (fun e => by omega)]
  refine ⟨⟨by rw [revX_len]; exact hx, hR.wf.few, fun i hi => ?_, fun i hi => ?_⟩, fun i hi => ?_, fun i hi => ?_, fun i hi => ?_⟩
  · rw [show (revX xs k).getD (i * 9 + 1) 0 = xs.getD (i * 9 + 1) 0 from g i 1 (by decide)]
    exact hR.wf.ge i hi
  · rw [show (revX xs k).getD (i * 9 + 1) 0 = xs.getD (i * 9 + 1) 0 from g i 1 (by decide)]
    exact hR.wf.le i hi
  · rw [g i 4 (by decide)]
    exact hR.v i hi
  · rw [g i 5 (by decide)]
    exact hR.r i hi
  · rw [g i 7 (by decide)]
    exact hR.u i hi
def revE (xs : List Int) (k : Nat) (b : Int) : Int := if isPer b = false then 2 else if (line xs k).any (holdG xs b) = false then 12 else if (line xs k).any (revG xs) = true then 9 else 0
def RevPost (d : Int) (n : Nat) (xs : List Int) (m : Nat) (es : List Int) (k : Nat) (b : Int) (w : AV) (H : AH) : Prop :=
  (revE xs k b ≠ 0 ∧ w = tupOf [.a (.s (.v (.int .i64 0))), .a (.s (.v (.int .i64 (revE xs k b))))] ∧ H = bookR true d n xs m es) ∨
  (revE xs k b = 0 ∧ w = tupOf [.a (.s (.v (.int .i64 ((standN d xs n : Nat) - (standN d (revX xs k) n : Nat) : Int)))), .a (.s (.v (.int .i64 0)))] ∧ H = bookR true d n (revX xs k) m es)
theorem revoke_none (d : Int) (n : Nat) (xs : List Int) (m : Nat) (es : List Int) (no b : Int) (hno : (decide (1 ≤ no) && decide (no ≤ (n : Int))) = false) : CallA Try.prog 26 [.t (.a (.s (.ptr 0 0))), .int .i64 no, .int .i64 b] (bookR true d n xs m es)
    (fun w H => w = tupOf [.a (.s (.v (.int .i64 0))), .a (.s (.v (.int .i64 6)))] ∧ H = bookR true d n xs m es) := by
  refine call_defer TYok mixedO Try.func26 rfl rfl (Nat.le_of_ble_eq_true rfl) (df_ok 69 rfl) ?_
  (repeat (first | refine aC ?_ | refine aK ?_ | refine ⟨fun _ => ?_, fun h => absurd h (by decide)⟩ | refine ⟨fun h => absurd h (by decide), fun _ => ?_⟩))
  refine And.intro ?_ ?_
  · exact ⟨rfl, rfl, rfl⟩
  (repeat (first | refine aC ?_ | refine aK ?_ | refine ⟨fun _ => ?_, fun h => absurd h (by decide)⟩ | refine ⟨fun h => absurd h (by decide), fun _ => ?_⟩))
  (refine call_liftE (find_f d n xs m es no hno) (fun i => match i with | 0 => some 0 | 1 => some 1 | 2 => some 2 | _ => none) rfl rfl hI rfl rfl rfl (fun _ _ h => h.elim) ?_; rintro pv H1 ⟨rfl, rfl⟩; refine ⟨⟨rfl, rfl, rfl⟩, ?_⟩)
  refine And.intro rfl (And.intro rfl (And.intro rfl ?_))
  exact ⟨some, tupOf [.a (.s (.v (.int .i64 0))), .a (.s (.v (.int .i64 6)))], bookR true d n xs m es, by exact wI, rfl, rfl⟩
set_option maxRecDepth 20000 in
set_option maxHeartbeats 4000000 in
theorem revoke_c (d : Int) (n : Nat) (xs : List Int) (m : Nat) (es : List Int) (hR : Rng n xs) (k : Nat) (hk : k < n) (b : Int) : CallA Try.prog 26 [.t (.a (.s (.ptr 0 0))), .int .i64 ((k : Int) + 1), .int .i64 b] (bookR true d n xs m es)
    (RevPost d n xs m es k b) := by
  refine call_defer TYok mixedO Try.func26 rfl rfl (Nat.le_of_ble_eq_true rfl) (df_ok 69 rfl) ?_
  have hw := hR.wf
  have h1 := line_len hw hk
  have h2 := hw.few
  (repeat (first | refine aC ?_ | refine aK ?_ | refine ⟨fun _ => ?_, fun h => absurd h (by decide)⟩ | refine ⟨fun h => absurd h (by decide), fun _ => ?_⟩))
  refine And.intro ?_ ?_
  · exact ⟨rfl, rfl, rfl⟩
  (repeat (first | refine aC ?_ | refine aK ?_ | refine ⟨fun _ => ?_, fun h => absurd h (by decide)⟩ | refine ⟨fun h => absurd h (by decide), fun _ => ?_⟩))
  (refine call_lift (find_c d n xs m es hw.len hw.few ((k : Int) + 1) (by omega) (by omega)) (fun i => match i with | 0 => some 0 | 1 => some 1 | 2 => some 2 | _ => none) rfl rfl hI rfl rfl rfl ?_; rintro v H1 ⟨rfl, rfl⟩; refine ⟨⟨rfl, rfl, rfl, rfl⟩, ?_⟩; (try simp only [two]); (try simp only [AV.ren]); (try simp only [renT]); (try simp only [AT.ren]); (try simp only [A.ren]); (try (rw [ptr_ren]; rotate_left; exact rfl)); (try (rw [slc_ren]; rotate_left; exact rfl)); (try simp only [S.ren]))
  rw [succ_k]
  (repeat (first | refine aC ?_ | refine aK ?_ | refine ⟨fun _ => ?_, fun h => absurd h (by decide)⟩ | refine ⟨fun h => absurd h (by decide), fun _ => ?_⟩))
  (refine call_lift (line_c d n xs m es k hw hk) (fun i => match i with | 0 => some 0 | 1 => some 1 | 2 => some 2 | _ => none) rfl rfl hI rfl rfl rfl ?_; rintro v H1 ⟨rfl, rfl⟩; refine ⟨⟨rfl, rfl, rfl, rfl⟩, ?_⟩; (try simp only [two]); (try simp only [AV.ren]); (try simp only [renT]); (try simp only [AT.ren]); (try simp only [A.ren]); (try (rw [ptr_ren]; rotate_left; exact rfl)); (try (rw [slc_ren]; rotate_left; exact rfl)); (try simp only [S.ren]))
  (repeat (first | refine aC ?_ | refine aK ?_ | refine ⟨fun _ => ?_, fun h => absurd h (by decide)⟩ | refine ⟨fun h => absurd h (by decide), fun _ => ?_⟩))
  (refine call_lift (isPerson_c b) (fun i => match i with | 0 => none | _ => none) rfl rfl hI rfl rfl rfl ?_; rintro v H1 ⟨rfl, rfl⟩; refine ⟨⟨rfl, rfl, rfl, rfl⟩, ?_⟩; (try simp only [two]); (try simp only [AV.ren]); (try simp only [renT]); (try simp only [AT.ren]); (try simp only [A.ren]); (try (rw [ptr_ren]; rotate_left; exact rfl)); (try (rw [slc_ren]; rotate_left; exact rfl)); (try simp only [S.ren]))
  by_cases g0 : isPer b = true
  · (refine call_lift (need_tb (isPer b) 2 g0) (fun i => match i with | 0 => none | _ => none) rfl rfl hI rfl rfl rfl ?_; rintro v H1 ⟨rfl, rfl⟩; refine ⟨⟨rfl, rfl, rfl, rfl⟩, ?_⟩; (try simp only [two]); (try simp only [AV.ren]); (try simp only [renT]); (try simp only [AT.ren]); (try simp only [A.ren]); (try (rw [ptr_ren]; rotate_left; exact rfl)); (try (rw [slc_ren]; rotate_left; exact rfl)); (try simp only [S.ren]))
    (repeat (first | refine aC ?_ | refine aK ?_ | refine ⟨fun _ => ?_, fun h => absurd h (by decide)⟩ | refine ⟨fun h => absurd h (by decide), fun _ => ?_⟩))
    (refine call_lift (contains_h d n xs m es b (line xs k) hw.len (line_lt hw hk) (by omega)) (fun i => match i with | 0 => some 0 | 1 => some 1 | 2 => some 2 | 3 => some 5 | 4 => some 3 | _ => none) rfl rfl hI rfl rfl rfl ?_; rintro v H1 ⟨rfl, rfl⟩; refine ⟨⟨rfl, rfl, rfl, rfl⟩, ?_⟩; (try simp only [two]); (try simp only [AV.ren]); (try simp only [renT]); (try simp only [AT.ren]); (try simp only [A.ren]); (try (rw [ptr_ren]; rotate_left; exact rfl)); (try (rw [slc_ren]; rotate_left; exact rfl)); (try simp only [S.ren]))
    by_cases g1 : (line xs k).any (holdG xs b) = true
    · (refine call_lift (need_tb ((line xs k).any (holdG xs b)) 12 g1) (fun i => match i with | 0 => none | _ => none) rfl rfl hI rfl rfl rfl ?_; rintro v H1 ⟨rfl, rfl⟩; refine ⟨⟨rfl, rfl, rfl, rfl⟩, ?_⟩; (try simp only [two]); (try simp only [AV.ren]); (try simp only [renT]); (try simp only [AT.ren]); (try simp only [A.ren]); (try (rw [ptr_ren]; rotate_left; exact rfl)); (try (rw [slc_ren]; rotate_left; exact rfl)); (try simp only [S.ren]))
      (repeat (first | refine aC ?_ | refine aK ?_ | refine ⟨fun _ => ?_, fun h => absurd h (by decide)⟩ | refine ⟨fun h => absurd h (by decide), fun _ => ?_⟩))
      (refine call_lift (contains_rev d n xs m es (line xs k) hw.len (line_lt hw hk) (by omega)) (fun i => match i with | 0 => some 0 | 1 => some 1 | 2 => some 2 | 3 => some 5 | _ => none) rfl rfl hI rfl rfl rfl ?_; rintro v H1 ⟨rfl, rfl⟩; refine ⟨⟨rfl, rfl, rfl, rfl⟩, ?_⟩; (try simp only [two]); (try simp only [AV.ren]); (try simp only [renT]); (try simp only [AT.ren]); (try simp only [A.ren]); (try (rw [ptr_ren]; rotate_left; exact rfl)); (try (rw [slc_ren]; rotate_left; exact rfl)); (try simp only [S.ren]))
      (repeat (first | refine aC ?_ | refine aK ?_ | refine ⟨fun _ => ?_, fun h => absurd h (by decide)⟩ | refine ⟨fun h => absurd h (by decide), fun _ => ?_⟩))
      by_cases g2 : (line xs k).any (revG xs) = true
      · have e : revE xs k b = 9 := by unfold revE; rw [if_neg (by rw [g0]; decide), if_neg (by rw [g1]; decide), if_pos g2]
        (refine call_liftE (need_fb (!(line xs k).any (revG xs)) 9 (by rw [g2]; rfl)) (fun i => match i with | 0 => none | _ => none) rfl rfl hI rfl rfl rfl (fun _ _ h => h.elim) ?_; rintro pv H1 ⟨rfl, rfl⟩; refine ⟨⟨rfl, rfl, rfl⟩, ?_⟩)
        refine And.intro rfl (And.intro rfl (And.intro rfl ?_))
        exact ⟨some, tupOf [.a (.s (.v (.int .i64 0))), .a (.s (.v (.int .i64 9)))], bookR true d n xs m es, by exact wI, .inl ⟨by rw [e]; decide, by rw [e], rfl⟩⟩
      · have g2 : (line xs k).any (revG xs) = false := by simpa using g2
        have e : revE xs k b = 0 := by unfold revE; rw [if_neg (by rw [g0]; decide), if_neg (by rw [g1]; decide), if_neg (by rw [g2]; decide)]
        (refine call_lift (need_tb (!(line xs k).any (revG xs)) 9 (by rw [g2]; rfl)) (fun i => match i with | 0 => none | _ => none) rfl rfl hI rfl rfl rfl ?_; rintro v H1 ⟨rfl, rfl⟩; refine ⟨⟨rfl, rfl, rfl, rfl⟩, ?_⟩; (try simp only [two]); (try simp only [AV.ren]); (try simp only [renT]); (try simp only [AT.ren]); (try simp only [A.ren]); (try (rw [ptr_ren]; rotate_left; exact rfl)); (try (rw [slc_ren]; rotate_left; exact rfl)); (try simp only [S.ren]))
        (repeat (first | refine aC ?_ | refine aK ?_ | refine ⟨fun _ => ?_, fun h => absurd h (by decide)⟩ | refine ⟨fun h => absurd h (by decide), fun _ => ?_⟩))
        (refine call_lift (standing_c d n xs m es hw) (fun i => match i with | 0 => some 0 | 1 => some 1 | 2 => some 2 | _ => none) rfl rfl hI rfl rfl rfl ?_; rintro v H1 ⟨rfl, rfl⟩; refine ⟨⟨rfl, rfl, rfl, rfl⟩, ?_⟩; (try simp only [two]); (try simp only [AV.ren]); (try simp only [renT]); (try simp only [AT.ren]); (try simp only [A.ren]); (try (rw [ptr_ren]; rotate_left; exact rfl)); (try (rw [slc_ren]; rotate_left; exact rfl)); (try simp only [S.ren]))
        (repeat (first | refine aC ?_ | refine aK ?_ | refine ⟨fun _ => ?_, fun h => absurd h (by decide)⟩ | refine ⟨fun h => absurd h (by decide), fun _ => ?_⟩))
        refine And.intro ?_ ?_
        · exact and_t (and_t (and_t (and_t (and_t (fld_t (o := 8) (by decide) rfl hk hw.len) rfl) rfl) rfl) rfl) (decide_eq_true siz4.symm)
        (repeat (first | refine aC ?_ | refine aK ?_ | refine ⟨fun _ => ?_, fun h => absurd h (by decide)⟩ | refine ⟨fun h => absurd h (by decide), fun _ => ?_⟩))
        (refine call_lift (standing_c d n (revX xs k) m es (revX_rng hR hk).wf) (fun i => match i with | 0 => some 0 | 1 => some 1 | 2 => some 2 | _ => none) rfl rfl hI rfl rfl rfl ?_; rintro v H1 ⟨rfl, rfl⟩; refine ⟨⟨rfl, rfl, rfl, rfl⟩, ?_⟩; (try simp only [two]); (try simp only [AV.ren]); (try simp only [renT]); (try simp only [AT.ren]); (try simp only [A.ren]); (try (rw [ptr_ren]; rotate_left; exact rfl)); (try (rw [slc_ren]; rotate_left; exact rfl)); (try simp only [S.ren]))
        have b1 := standN_le d xs n
        have b2 := standN_le d (revX xs k) n
        (repeat (first | refine aC ?_ | refine aK ?_ | refine ⟨fun _ => ?_, fun h => absurd h (by decide)⟩ | refine ⟨fun h => absurd h (by decide), fun _ => ?_⟩))
        exact ⟨some, tupOf [.a (.s (.v (.int .i64 ((standN d xs n : Nat) - (standN d (revX xs k) n : Nat) : Int)))), .a (.s (.v (.int .i64 0)))], bookR true d n (revX xs k) m es, by exact wI, .inr ⟨e, rfl, rfl⟩⟩
    · have g1 : (line xs k).any (holdG xs b) = false := by simpa using g1
      have e : revE xs k b = 12 := by unfold revE; rw [if_neg (by rw [g0]; decide), if_pos g1]
      (refine call_liftE (need_fb ((line xs k).any (holdG xs b)) 12 g1) (fun i => match i with | 0 => none | _ => none) rfl rfl hI rfl rfl rfl (fun _ _ h => h.elim) ?_; rintro pv H1 ⟨rfl, rfl⟩; refine ⟨⟨rfl, rfl, rfl⟩, ?_⟩)
      refine And.intro rfl (And.intro rfl (And.intro rfl ?_))
      exact ⟨some, tupOf [.a (.s (.v (.int .i64 0))), .a (.s (.v (.int .i64 12)))], bookR true d n xs m es, by exact wI, .inl ⟨by rw [e]; decide, by rw [e], rfl⟩⟩
  · have g0 : isPer b = false := by simpa using g0
    have e : revE xs k b = 2 := by unfold revE; rw [if_pos g0]
    (refine call_liftE (need_fb (isPer b) 2 g0) (fun i => match i with | 0 => none | _ => none) rfl rfl hI rfl rfl rfl (fun _ _ h => h.elim) ?_; rintro pv H1 ⟨rfl, rfl⟩; refine ⟨⟨rfl, rfl, rfl⟩, ?_⟩)
    refine And.intro rfl (And.intro rfl (And.intro rfl ?_))
    exact ⟨some, tupOf [.a (.s (.v (.int .i64 0))), .a (.s (.v (.int .i64 2)))], bookR true d n xs m es, by exact wI, .inl ⟨by rw [e]; decide, by rw [e], rfl⟩⟩
end Go.Proofs.Ytlbgkfidpkbafaa
