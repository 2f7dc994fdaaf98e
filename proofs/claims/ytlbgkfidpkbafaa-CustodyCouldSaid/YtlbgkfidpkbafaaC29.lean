/- What each call makes of a book. -/
import Derived.Test.YtlbgkfidpkbafaaC26
namespace Go.Proofs.Ytlbgkfidpkbafaa
open Go.RowKit
set_option linter.unusedSimpArgs false
set_option linter.unusedVariables false
/-- a book: the day, how many grants, the grants, how many entries, the entries -/
structure St where
  d : Int
  n : Nat
  xs : List Int
  m : Nat
  es : List Int
/-- its memory; where the grants have moved; where the entries have -/
abbrev heap0 (q : Bool) (s : St) : AH := bookR q s.d s.n s.xs s.m s.es
abbrev heapA (s : St) : AH := [⟨true, true, 45, 1, .cells [.s (.v (.bool true)), .s (.v (.int .i64 s.d)), .s (.slc 3 0 s.n), .s (.slc 2 0 s.m)]⟩, ⟨true, false, 50, 9, .dead⟩, ⟨true, false, 67, 4, .rows (.int .i64) s.es⟩, ⟨true, false, 50, 9, .recs kG s.xs⟩]
abbrev heapO (s : St) : AH := [⟨true, true, 45, 1, .cells [.s (.v (.bool true)), .s (.v (.int .i64 s.d)), .s (.slc 1 0 s.n), .s (.slc 3 0 s.m)]⟩, ⟨true, false, 50, 9, .recs kG s.xs⟩, ⟨true, false, 67, 4, .dead⟩, ⟨true, false, 67, 4, .rows (.int .i64) s.es⟩]
/-- a grant beneath another -/
structure Up (xs : List Int) (k p : Nat) : Prop where
  root : fG xs k 2 = fG xs p 2
  v : subI (fG xs k 4) (fG xs p 4) = true
  r : subI (fG xs k 5) (fG xs p 5) = true
  t : fG xs k 6 ≤ fG xs p 6
  pass : hasPass (fG xs p 5) = true
  u : fG xs p 7 ≠ -1 → fG xs k 7 ≠ -1
structure Good (s : St) : Prop where
  rng : Rng s.n s.xs
  len : s.m * 4 = s.es.length
  few : s.m ≤ 4096
  no : ∀ k, k < s.n → fG s.xs k 0 = (k : Int) + 1
  h : ∀ k, k < s.n → 0 ≤ fG s.xs k 3 ∧ fG s.xs k 3 ≤ 15
  v1 : ∀ k, k < s.n → 1 ≤ fG s.xs k 4
  r1 : ∀ k, k < s.n → 1 ≤ fG s.xs k 5
  t : ∀ k, k < s.n → 0 ≤ fG s.xs k 6 ∧ fG s.xs k 6 ≤ 1073741824
  root : ∀ k, k < s.n → fG s.xs k 1 = 0 → fG s.xs k 2 = (k : Int) + 1
  up : ∀ k, k < s.n → fG s.xs k 1 ≠ 0 → Up s.xs k (fG s.xs k 1 - 1).toNat
def inB (s : St) (no : Int) : Bool := decide (1 ≤ no) && decide (no ≤ (s.n : Int))
def grantS (s : St) (h v r u us : Int) : St × Int × Int :=
  if validG h v r u us = false then (s, 0, 2) else if 128 ≤ s.n then (s, 0, 8) else (⟨s.d, s.n + 1, s.xs ++ [(s.n : Int) + 1, 0, (s.n : Int) + 1, h, v, r, u, us, 0], s.m, s.es⟩, (s.n : Int) + 1, 0)
def passS (s : St) (no b h v r u us : Int) : St × Int × Int :=
  if inB s no = false then (s, 0, 6) else if (validG h v r u us && isPer b) = false then (s, 0, 2) else if passB s.d s.xs (no - 1).toNat b v r u us = false then (s, 0, 12) else if 128 ≤ s.n then (s, 0, 8)
  else (⟨s.d, s.n + 1, s.xs ++ [(s.n : Int) + 1, fG s.xs (no - 1).toNat 0, if fG s.xs (no - 1).toNat 0 = 0 then (s.n : Int) + 1 else fG s.xs (no - 1).toNat 2, h, v, r, u, us, 0], s.m, s.es⟩, (s.n : Int) + 1, 0)
def revokeS (s : St) (no b : Int) : St × Int × Int :=
  if inB s no = false then (s, 0, 6) else if revE s.xs (no - 1).toNat b ≠ 0 then (s, 0, revE s.xs (no - 1).toNat b)
  else (⟨s.d, s.n, revX s.xs (no - 1).toNat, s.m, s.es⟩, ((standN s.d s.xs s.n : Nat) - (standN s.d (revX s.xs (no - 1).toNat) s.n : Nat) : Int), 0)
def nextS (s : St) (e : Int) : St × Int := (⟨if nextE s.d e = 0 then e else s.d, s.n, s.xs, s.m, s.es⟩, nextE s.d e)
def openS (s : St) (a f fb t tb : Int) : St × Int :=
  if openE s.d s.n s.xs s.m a f fb t tb ≠ 0 then (s, openE s.d s.n s.xs s.m a f fb t tb) else (⟨s.d, s.n, useG (useG s.xs (f - 1).toNat) (t - 1).toNat, s.m + 1, s.es ++ [s.d, a, f, t]⟩, 0)
theorem validG_bd {h v r u s : Int} (hv : validG h v r u s = true) : (0 ≤ h ∧ h ≤ 15) ∧ (1 ≤ v ∧ v ≤ 65535) ∧ (1 ≤ r ∧ r ≤ 3) ∧ (0 ≤ u ∧ u ≤ 1073741824) ∧ (-1 ≤ s ∧ s ≤ 1048576 ∧ s ≠ 0) := by
  unfold validG at hv
  simp only [Bool.and_eq_true, decide_eq_true_eq] at hv
  obtain ⟨⟨⟨⟨⟨⟨h1, h2⟩, h3⟩, h4⟩, h5⟩, h6⟩, h7⟩ := hv
  refine ⟨?_, ⟨h2, h3⟩, ⟨h4, h5⟩, ?_, ?_⟩
  · unfold isPer at h1
    split at h1
    · rename_i g
      exact ⟨of_decide_eq_true g, of_decide_eq_true h1⟩
    · cases h1
  · unfold isDy at h6
    split at h6
    · rename_i g
      exact ⟨of_decide_eq_true g, of_decide_eq_true h6⟩
    · cases h6
  · unfold isUs at h7
    split at h7
    · rename_i g
      have : s = -1 := by simpa using g
      omega
    · split at h7
      · rename_i g
        have h8 := of_decide_eq_true g
        have h9 := of_decide_eq_true h7
        omega
      · cases h7
set_option maxRecDepth 20000 in
theorem grant_arg (d : Int) (n : Nat) (xs : List Int) (m : Nat) (es : List Int) (h v r u s : Int) (hv : validG h v r u s = false) : CallA Try.prog 24 [.t (.a (.s (.ptr 0 0))), .int .i64 h, .int .i64 v, .int .i64 r, .int .i64 u, .int .i64 s] (bookR true d n xs m es)
    (fun w H => w = tupOf [.a (.s (.v (.int .i64 0))), .a (.s (.v (.int .i64 2)))] ∧ H = bookR true d n xs m es) := by
  refine call_defer TYok mixedO Try.func24 rfl rfl (Nat.le_of_ble_eq_true rfl) (df_ok 61 rfl) ?_
  (repeat (first | refine aC ?_ | refine aK ?_ | refine ⟨fun _ => ?_, fun h => absurd h (by decide)⟩ | refine ⟨fun h => absurd h (by decide), fun _ => ?_⟩))
  refine And.intro ?_ ?_
  · exact ⟨rfl, rfl, rfl⟩
  (repeat (first | refine aC ?_ | refine aK ?_ | refine ⟨fun _ => ?_, fun h => absurd h (by decide)⟩ | refine ⟨fun h => absurd h (by decide), fun _ => ?_⟩))
  (refine call_lift (needMade_c d n xs m es) (fun i => match i with | 0 => some 0 | 1 => some 1 | 2 => some 2 | _ => none) rfl rfl hI rfl rfl rfl ?_; rintro v H1 ⟨rfl, rfl⟩; refine ⟨⟨rfl, rfl, rfl, rfl⟩, ?_⟩; (try simp only [two]); (try simp only [AV.ren]); (try simp only [renT]); (try simp only [AT.ren]); (try simp only [A.ren]); (try (rw [ptr_ren]; rotate_left; exact rfl)); (try (rw [slc_ren]; rotate_left; exact rfl)); (try simp only [S.ren]))
  (repeat (first | refine aC ?_ | refine aK ?_ | refine ⟨fun _ => ?_, fun h => absurd h (by decide)⟩ | refine ⟨fun h => absurd h (by decide), fun _ => ?_⟩))
  (refine call_lift (isValid_c 0 0 0 h v r u s false) (fun i => match i with | 0 => none | _ => none) rfl rfl hI rfl rfl rfl ?_; rintro v H1 ⟨rfl, rfl⟩; refine ⟨⟨rfl, rfl, rfl, rfl⟩, ?_⟩; (try simp only [two]); (try simp only [AV.ren]); (try simp only [renT]); (try simp only [AT.ren]); (try simp only [A.ren]); (try (rw [ptr_ren]; rotate_left; exact rfl)); (try (rw [slc_ren]; rotate_left; exact rfl)); (try simp only [S.ren]))
  (refine call_liftE (need_fb (validG h v r u s) 2 hv) (fun i => match i with | 0 => none | _ => none) rfl rfl hI rfl rfl rfl (fun _ _ h => h.elim) ?_; rintro pv H1 ⟨rfl, rfl⟩; refine ⟨⟨rfl, rfl, rfl⟩, ?_⟩)
  refine And.intro rfl (And.intro rfl (And.intro rfl ?_))
  exact ⟨some, tupOf [.a (.s (.v (.int .i64 0))), .a (.s (.v (.int .i64 2)))], bookR true d n xs m es, by exact wI, rfl, rfl⟩
/-- a number and an error, and the book's memory, the grants moved or not -/
def NoErr (p : St × Int × Int) (w : AV) (H : AH) : Prop := w = tupOf [.a (.s (.v (.int .i64 p.2.1))), .a (.s (.v (.int .i64 p.2.2)))] ∧ (H = heap0 true p.1 ∨ H = heapA p.1)
theorem grant_all (s : St) (hs : Good s) (h v r u us : Int) : CallA Try.prog 24 [.t (.a (.s (.ptr 0 0))), .int .i64 h, .int .i64 v, .int .i64 r, .int .i64 u, .int .i64 us] (heap0 true s) (NoErr (grantS s h v r u us)) := by
  by_cases h0 : validG h v r u us = true
  · by_cases h1 : 128 ≤ s.n
    · have e : grantS s h v r u us = (s, 0, 8) := by unfold grantS; rw [if_neg (by rw [h0]; decide), if_pos h1]
      rw [e]
      exact (grant_full s.d s.n s.xs s.m s.es h1 h v r u us h0).mono fun _ _ ⟨a, b⟩ => ⟨a, .inl b⟩
    · have e : grantS s h v r u us = (⟨s.d, s.n + 1, s.xs ++ [(s.n : Int) + 1, 0, (s.n : Int) + 1, h, v, r, u, us, 0], s.m, s.es⟩, (s.n : Int) + 1, 0) := by unfold grantS; rw [if_neg (by rw [h0]; decide), if_neg h1]
      rw [e]
      exact (grant_c s.d s.n s.xs s.m s.es hs.rng.wf.len (by omega) h v r u us h0).mono fun _ _ ⟨a, b⟩ => ⟨a, .inr b⟩
  · have h0 : validG h v r u us = false := by simpa using h0
    have e : grantS s h v r u us = (s, 0, 2) := by unfold grantS; rw [if_pos h0]
    rw [e]
    exact (grant_arg s.d s.n s.xs s.m s.es h v r u us h0).mono fun _ _ ⟨a, b⟩ => ⟨a, .inl b⟩
theorem inB_k {s : St} {no : Int} (h : inB s no = true) : ∃ k : Nat, no = (k : Int) + 1 ∧ k < s.n := by
  unfold inB at h
  rw [Bool.and_eq_true, decide_eq_true_eq, decide_eq_true_eq] at h
  exact ⟨(no - 1).toNat, by omega, by omega⟩
theorem pass_all (s : St) (hs : Good s) (no b h v r u us : Int) : CallA Try.prog 25 [.t (.a (.s (.ptr 0 0))), .int .i64 no, .int .i64 b, .int .i64 h, .int .i64 v, .int .i64 r, .int .i64 u, .int .i64 us] (heap0 true s) (NoErr (passS s no b h v r u us)) := by
  by_cases h0 : inB s no = true
  · obtain ⟨k, rfl, hk⟩ := inB_k h0
    by_cases h1 : (validG h v r u us && isPer b) = true
    · obtain ⟨v0, v1⟩ := hs.rng.v k hk
      obtain ⟨r0, r1⟩ := hs.rng.r k hk
      have hv : validG h v r u us = true := by rw [Bool.and_eq_true] at h1; exact h1.1
      obtain ⟨_, b1, b2, _⟩ := validG_bd hv
      refine (pass_c s.d s.n s.xs s.m s.es hs.rng.wf k hk (natOk_i64.2 ⟨v0, by omega⟩) (natOk_i64.2 ⟨r0, by omega⟩) b h v r u us (natOk_i64.2 ⟨by omega, by omega⟩) (natOk_i64.2 ⟨by omega, by omega⟩) h1).mono ?_
      rintro w H (⟨g, hw, hH⟩ | ⟨g, gn, hw, hH⟩ | ⟨g, gn, hw, hH⟩)
      · have e : passS s ((k : Int) + 1) b h v r u us = (s, 0, 12) := by unfold passS; rw [succ_k, if_neg (by rw [h0]; decide), if_neg (by rw [h1]; decide), if_pos g]
        rw [e]
        exact ⟨hw, .inl hH⟩
      · have e : passS s ((k : Int) + 1) b h v r u us = (s, 0, 8) := by unfold passS; rw [succ_k, if_neg (by rw [h0]; decide), if_neg (by rw [h1]; decide), if_neg (by rw [g]; decide), if_pos gn]
        rw [e]
        exact ⟨hw, .inl hH⟩
      · have e : passS s ((k : Int) + 1) b h v r u us = (⟨s.d, s.n + 1, s.xs ++ [(s.n : Int) + 1, fG s.xs k 0, if fG s.xs k 0 = 0 then (s.n : Int) + 1 else fG s.xs k 2, h, v, r, u, us, 0], s.m, s.es⟩, (s.n : Int) + 1, 0) := by unfold passS; rw [succ_k, if_neg (by rw [h0]; decide), if_neg (by rw [h1]; decide), if_neg (by rw [g]; decide), if_neg (by omega)]
        rw [e]
        exact ⟨hw, .inr hH⟩
    · have h1 : (validG h v r u us && isPer b) = false := by simpa using h1
      have e : passS s ((k : Int) + 1) b h v r u us = (s, 0, 2) := by unfold passS; rw [if_neg (by rw [h0]; decide), if_pos h1]
      rw [e]
      exact (pass_arg s.d s.n s.xs s.m s.es hs.rng.wf k hk b h v r u us h1).mono fun _ _ ⟨a, b⟩ => ⟨a, .inl b⟩
  · have h0 : inB s no = false := by simpa using h0
    have e : passS s no b h v r u us = (s, 0, 6) := by unfold passS; rw [if_pos h0]
    rw [e]
    exact (pass_none s.d s.n s.xs s.m s.es no b h v r u us h0).mono fun _ _ ⟨a, b⟩ => ⟨a, .inl b⟩
theorem revoke_all (s : St) (hs : Good s) (no b : Int) : CallA Try.prog 26 [.t (.a (.s (.ptr 0 0))), .int .i64 no, .int .i64 b] (heap0 true s) (fun w H => w = tupOf [.a (.s (.v (.int .i64 (revokeS s no b).2.1))), .a (.s (.v (.int .i64 (revokeS s no b).2.2)))] ∧ H = heap0 true (revokeS s no b).1) := by
  by_cases h0 : inB s no = true
  · obtain ⟨k, rfl, hk⟩ := inB_k h0
    refine (revoke_c s.d s.n s.xs s.m s.es hs.rng k hk b).mono ?_
    rintro w H (⟨g, hw, hH⟩ | ⟨g, hw, hH⟩)
    · have e : revokeS s ((k : Int) + 1) b = (s, 0, revE s.xs k b) := by unfold revokeS; rw [succ_k, if_neg (by rw [h0]; decide), if_pos g]
      rw [e]
      exact ⟨hw, hH⟩
    · have e : revokeS s ((k : Int) + 1) b = (⟨s.d, s.n, revX s.xs k, s.m, s.es⟩, ((standN s.d s.xs s.n : Nat) - (standN s.d (revX s.xs k) s.n : Nat) : Int), 0) := by unfold revokeS; rw [succ_k, if_neg (by rw [h0]; decide), if_neg (by simpa using g)]
      rw [e]
      exact ⟨hw, hH⟩
  · have h0 : inB s no = false := by simpa using h0
    have e : revokeS s no b = (s, 0, 6) := by unfold revokeS; rw [if_pos h0]
    rw [e]
    exact revoke_none s.d s.n s.xs s.m s.es no b h0
theorem next_all (s : St) (e : Int) : CallA Try.prog 31 [.t (.a (.s (.ptr 0 0))), .int .i64 e] (heap0 true s) (fun w H => w = .int .i64 (nextS s e).2 ∧ H = heap0 true (nextS s e).1) := next_c s.d s.n s.xs s.m s.es e
theorem open_all (s : St) (hs : Good s) (a f fb t tb : Int) : CallA Try.prog 30 [.t (.a (.s (.ptr 0 0))), .int .i64 a, .int .i64 f, .int .i64 fb, .int .i64 t, .int .i64 tb] (heap0 true s) (fun w H => w = .int .i64 (openS s a f fb t tb).2 ∧ (H = heap0 true (openS s a f fb t tb).1 ∨ H = heapO (openS s a f fb t tb).1)) := by
  refine (open_c s.d s.n s.xs s.m s.es hs.rng hs.len hs.few a f fb t tb).mono ?_
  rintro w H ⟨hw, (⟨g, hH⟩ | ⟨g, hH⟩)⟩
  · have e : openS s a f fb t tb = (s, openE s.d s.n s.xs s.m a f fb t tb) := by unfold openS; rw [if_pos g]
    rw [e]
    exact ⟨hw, .inl hH⟩
  · have e : openS s a f fb t tb = (⟨s.d, s.n, useG (useG s.xs (f - 1).toNat) (t - 1).toNat, s.m + 1, s.es ++ [s.d, a, f, t]⟩, 0) := by unfold openS; rw [if_neg (by simpa using g)]
    rw [e]
    exact ⟨by rw [hw, g], .inr hH⟩
/- What is so of a book stays so. -/
theorem app_old {n : Nat} {xs : List Int} (hx : n * 9 = xs.length) (ys : List Int) {k o : Nat} (hk : k < n) (ho : o < 9) : fG (xs ++ ys) k o = fG xs k o := by
  simp only [List.getD_eq_getElem?_getD]
  rw [List.getElem?_append_left (by omega)]
theorem app_new {n : Nat} {xs : List Int} (hx : n * 9 = xs.length) (ys : List Int) (o : Nat) : fG (xs ++ ys) n o = ys.getD o 0 := by
  simp only [List.getD_eq_getElem?_getD]
  rw [List.getElem?_append_right (by omega)]
  rw [show n * 9 + o - xs.length = o by omega]
theorem up_congr {xs ys : List Int} {k p k' p' : Nat} (h : Up xs k p) (hk : ∀ o, o < 9 → o ≠ 7 → fG ys k' o = fG xs k o) (hp : ∀ o, o < 9 → o ≠ 7 → fG ys p' o = fG xs p o) (hu : (fG xs p 7 ≠ -1 → fG xs k 7 ≠ -1) → fG ys p' 7 ≠ -1 → fG ys k' 7 ≠ -1) : Up ys k' p' := by
  refine ⟨?_, ?_, ?_, ?_, ?_, hu h.u⟩
  · rw [hk 2 (by decide) (by decide), hp 2 (by decide) (by decide)]
    exact h.root
  · rw [hk 4 (by decide) (by decide), hp 4 (by decide) (by decide)]
    exact h.v
  · rw [hk 5 (by decide) (by decide), hp 5 (by decide) (by decide)]
    exact h.r
  · rw [hk 6 (by decide) (by decide), hp 6 (by decide) (by decide)]
    exact h.t
  · rw [hp 5 (by decide) (by decide)]
    exact h.pass
/-- one grant more -/
theorem more_good {s : St} (hs : Good s) (hn : s.n < 128) {ab ro h v r u us : Int} (hv : validG h v r u us = true) (ha0 : 0 ≤ ab) (ha1 : ab ≤ s.n) (hr : ab = 0 → ro = (s.n : Int) + 1)
    (hu : ab ≠ 0 → ro = fG s.xs (ab - 1).toNat 2 ∧ subI v (fG s.xs (ab - 1).toNat 4) = true ∧ subI r (fG s.xs (ab - 1).toNat 5) = true ∧ u ≤ fG s.xs (ab - 1).toNat 6 ∧ hasPass (fG s.xs (ab - 1).toNat 5) = true ∧ (fG s.xs (ab - 1).toNat 7 ≠ -1 → us ≠ -1)) :
    Good ⟨s.d, s.n + 1, s.xs ++ [(s.n : Int) + 1, ab, ro, h, v, r, u, us, 0], s.m, s.es⟩ := by
  have hx := hs.rng.wf.len
  obtain ⟨⟨b1, b2⟩, ⟨b3, b4⟩, ⟨b5, b6⟩, ⟨b7, b8⟩, b9, b10, b11⟩ := validG_bd hv
  have hold : ∀ {k o : Nat}, k < s.n → o < 9 → fG (s.xs ++ [(s.n : Int) + 1, ab, ro, h, v, r, u, us, 0]) k o = fG s.xs k o := fun hk ho => app_old hx _ hk ho
  have hnew : ∀ o, fG (s.xs ++ [(s.n : Int) + 1, ab, ro, h, v, r, u, us, 0]) s.n o = [(s.n : Int) + 1, ab, ro, h, v, r, u, us, 0].getD o 0 := app_new hx _
  have cs : ∀ {k : Nat}, k < s.n + 1 → k < s.n ∨ k = s.n := fun h => by omega
  refine ⟨⟨⟨?_, ?_, ?_, ?_⟩, ?_, ?_, ?_⟩, hs.len, hs.few, ?_, ?_, ?_, ?_, ?_, ?_, ?_⟩
  · simp only [List.length_append, List.length_cons, List.length_nil]
    omega
  · exact hn
  · intro k hk
    show 0 ≤ fG _ k 1
    rcases cs hk with h' | rfl
    · rw [hold h' (by decide)]
      exact hs.rng.wf.ge k h'
    · rw [hnew]
      exact ha0
  · intro k hk
    show fG _ k 1 ≤ _
    rcases cs hk with h' | rfl
    · rw [hold h' (by decide)]
      exact hs.rng.wf.le k h'
    · rw [hnew]
      exact ha1
  all_goals
    intro k hk
    rcases cs hk with h' | rfl
  · rw [hold h' (by decide)]
    exact hs.rng.v k h'
  · rw [hnew]
    exact ⟨by show (0 : Int) ≤ v; omega, b4⟩
  · rw [hold h' (by decide)]
    exact hs.rng.r k h'
  · rw [hnew]
    exact ⟨by show (0 : Int) ≤ r; omega, b6⟩
  · rw [hold h' (by decide)]
    exact hs.rng.u k h'
  · rw [hnew]
    exact ⟨b9, b10⟩
  · rw [hold h' (by decide)]
    exact hs.no k h'
  · rw [hnew]
    rfl
  · rw [hold h' (by decide)]
    exact hs.h k h'
  · rw [hnew]
    exact ⟨b1, b2⟩
  · rw [hold h' (by decide)]
    exact hs.v1 k h'
  · rw [hnew]
    exact b3
  · rw [hold h' (by decide)]
    exact hs.r1 k h'
  · rw [hnew]
    exact b5
  · rw [hold h' (by decide)]
    exact hs.t k h'
  · rw [hnew]
    exact ⟨b7, b8⟩
  · rw [hold h' (by decide), hold h' (by decide)]
    exact hs.root k h'
  · rw [hnew, hnew]
    exact hr
  · rw [hold h' (by decide)]
    intro h0
    have hge : 0 ≤ fG s.xs k 1 := hs.rng.wf.ge k h'
    have hle : fG s.xs k 1 ≤ k := hs.rng.wf.le k h'
    have hp : (fG s.xs k 1 - 1).toNat < s.n := by omega
    exact up_congr (hs.up k h' h0) (fun o ho _ => hold h' ho) (fun o ho _ => hold hp ho) (by rw [hold hp (by decide), hold h' (by decide)]; exact id)
  · rw [hnew]
    intro h0
    have h0 : ab ≠ 0 := h0
    obtain ⟨u1, u2, u3, u4, u5, u6⟩ := hu h0
    have hp : (ab - 1).toNat < s.n := by omega
    show Up _ s.n (ab - 1).toNat
    refine ⟨?_, ?_, ?_, ?_, ?_, ?_⟩
    · rw [hnew, hold hp (by decide)]
      exact u1
    · rw [hnew, hold hp (by decide)]
      exact u2
    · rw [hnew, hold hp (by decide)]
      exact u3
    · rw [hnew, hold hp (by decide)]
      exact u4
    · rw [hold hp (by decide)]
      exact u5
    · rw [hnew, hold hp (by decide)]
      exact u6
theorem grantS_good {s : St} (hs : Good s) (h v r u us : Int) : Good (grantS s h v r u us).1 := by
  unfold grantS
  split
  · exact hs
  · rename_i h0
    split
    · exact hs
    · exact more_good hs (by omega) (by simpa using h0) (Int.le_refl _) (by omega) (fun _ => rfl) (fun h => absurd rfl h)
theorem passS_good {s : St} (hs : Good s) (no b h v r u us : Int) : Good (passS s no b h v r u us).1 := by
  unfold passS
  split
  · exact hs
  · rename_i h0
    split
    · exact hs
    · rename_i h1
      split
      · exact hs
      · rename_i h2
        split
        · exact hs
        · rename_i h3
          obtain ⟨k, rfl, hk⟩ := inB_k (by simpa using h0 : inB s no = true)
          have h1 : (validG h v r u us && isPer b) = true := by simpa using h1
          rw [Bool.and_eq_true] at h1
          have h2 : passB s.d s.xs ((k : Int) + 1 - 1).toNat b v r u us = true := by simpa using h2
          rw [succ_k] at h2 ⊢
          unfold passB wthn at h2
          simp only [Bool.and_eq_true, decide_eq_true_eq] at h2
          obtain ⟨⟨⟨_, _⟩, g3⟩, ⟨⟨g4, g5⟩, g6⟩, g7⟩ := h2
          have hno := hs.no k hk
          rw [hno]
          have hne : ¬ (k : Int) + 1 = 0 := by omega
          rw [if_neg hne]
          refine more_good hs (by omega) h1.1 (by omega) (by omega) (fun h => absurd h hne) (fun _ => ?_)
          rw [succ_k]
          refine ⟨rfl, g4, g5, g6, g3, fun hb => ?_⟩
          rw [Bool.or_eq_true, Bool.and_eq_true] at g7
          rcases g7 with g7 | g7
          · exact absurd (by simpa using g7) hb
          · simpa using g7.1
theorem revokeS_good {s : St} (hs : Good s) (no b : Int) : Good (revokeS s no b).1 := by
  unfold revokeS
  split
  · exact hs
  · rename_i h0
    obtain ⟨k, rfl, hk⟩ := inB_k (by simpa using h0 : inB s no = true)
    rw [succ_k]
    split
    · exact hs
    · have hx := hs.rng.wf.len
      have g : ∀ i o, o < 8 → fG (revX s.xs k) i o = fG s.xs i o := fun i o ho => by
        rw [revX_get hx hk (by omega), if_neg (fun e => by omega)]
      have g' : ∀ i o, o < 9 → fG s.xs i o = fG s.xs i o := fun _ _ _ => rfl
      refine ⟨revX_rng hs.rng hk, hs.len, hs.few, fun i hi => ?_, fun i hi => ?_, fun i hi => ?_, fun i hi => ?_, fun i hi => ?_, fun i hi => ?_, fun i hi => ?_⟩
      · rw [g i 0 (by decide)]
        exact hs.no i hi
      · rw [g i 3 (by decide)]
        exact hs.h i hi
      · rw [g i 4 (by decide)]
        exact hs.v1 i hi
      · rw [g i 5 (by decide)]
        exact hs.r1 i hi
      · rw [g i 6 (by decide)]
        exact hs.t i hi
      · rw [g i 1 (by decide), g i 2 (by decide)]
        exact hs.root i hi
      · rw [g i 1 (by decide)]
        intro h
        have := hs.up i hi h
        exact ⟨by rw [g _ 2 (by decide), g _ 2 (by decide)]; exact this.root, by rw [g _ 4 (by decide), g _ 4 (by decide)]; exact this.v, by rw [g _ 5 (by decide), g _ 5 (by decide)]; exact this.r, by rw [g _ 6 (by decide), g _ 6 (by decide)]; exact this.t, by rw [g _ 5 (by decide)]; exact this.pass, by rw [g _ 7 (by decide), g _ 7 (by decide)]; exact this.u⟩
theorem nextS_good {s : St} (hs : Good s) (e : Int) : Good (nextS s e).1 := ⟨hs.rng, hs.len, hs.few, hs.no, hs.h, hs.v1, hs.r1, hs.t, hs.root, hs.up⟩
/- What is so of a book stays so (2). -/
theorem line_le {n : Nat} {xs : List Int} (hw : Wf n xs) : ∀ {k : Nat}, k < n → ∀ i ∈ line xs k, i ≤ k := by
  intro k
  induction k using Nat.strongRecOn with
  | ind k ih =>
    intro hk i hi
    have h1 := hw.ge k hk
    have h2 := hw.le k hk
    by_cases h : xs.getD (k * 9 + 1) 0 = 0
    · rw [line_root_eq hw hk h] at hi
      simp at hi
      omega
    · rw [line_up hw hk h] at hi
      rcases List.mem_cons.1 hi with rfl | hi
      · exact Nat.le_refl _
      · have := ih _ (by omega) (by omega) i hi
        omega
theorem line_nodup {n : Nat} {xs : List Int} (hw : Wf n xs) : ∀ {k : Nat}, k < n → (line xs k).Nodup := by
  intro k
  induction k using Nat.strongRecOn with
  | ind k ih =>
    intro hk
    have h1 := hw.ge k hk
    have h2 := hw.le k hk
    by_cases h : xs.getD (k * 9 + 1) 0 = 0
    · rw [line_root_eq hw hk h]
      simp
    · rw [line_up hw hk h, List.nodup_cons]
      refine ⟨fun hi => ?_, ih _ (by omega) (by omega)⟩
      have := line_le hw (k := (xs.getD (k * 9 + 1) 0 - 1).toNat) (by omega) k hi
      omega
theorem line_congr {n : Nat} {xs ys : List Int} (hw : Wf n xs) (hy : Wf n ys) (h : ∀ k, k < n → fG ys k 1 = fG xs k 1) : ∀ {k : Nat}, k < n → line ys k = line xs k := by
  intro k
  induction k using Nat.strongRecOn with
  | ind k ih =>
    intro hk
    have h1 := hw.ge k hk
    have h2 := hw.le k hk
    have e : ys.getD (k * 9 + 1) 0 = xs.getD (k * 9 + 1) 0 := h k hk
    by_cases h0 : xs.getD (k * 9 + 1) 0 = 0
    · rw [line_root_eq hw hk h0, line_root_eq hy hk (by rw [e]; exact h0)]
    · rw [line_up hw hk h0, line_up hy hk (by rw [e]; exact h0), e, ih _ (by omega) (by omega)]
theorem line_root_of {s : St} (hs : Good s) : ∀ {k : Nat}, k < s.n → ∀ i ∈ line s.xs k, fG s.xs i 2 = fG s.xs k 2 := by
  have hw := hs.rng.wf
  intro k
  induction k using Nat.strongRecOn with
  | ind k ih =>
    intro hk i hi
    have h1 : 0 ≤ fG s.xs k 1 := hw.ge k hk
    have h2 : fG s.xs k 1 ≤ k := hw.le k hk
    by_cases h : fG s.xs k 1 = 0
    · rw [line_root_eq hw hk h] at hi
      simp at hi
      rw [hi]
    · rw [line_up hw hk h] at hi
      rcases List.mem_cons.1 hi with rfl | hi
      · rfl
      · have h3 : (fG s.xs k 1 - 1).toNat < k := by omega
        rw [ih (fG s.xs k 1 - 1).toNat h3 (by omega) i hi]
        exact (hs.up k hk h).root.symm
/-- one use taken of a line none of which is spent -/
theorem useG_at {n : Nat} {xs : List Int} (hw : Wf n xs) {k : Nat} (hk : k < n) (i : Nat) : fG (useG xs k) i 7 = if i ∈ line xs k then (if fG xs i 7 = -1 then -1 else fG xs i 7 - 1) else fG xs i 7 := by
  split
  · rename_i h
    exact useL_in hw.len (line_lt hw hk) (line_nodup hw hk) h
  · rename_i h
    exact useL_out hw.len (line_lt hw hk) h
theorem useG_keep {n : Nat} {xs : List Int} (hw : Wf n xs) {k : Nat} (hk : k < n) (i : Nat) {o : Nat} (ho : o < 9) (h7 : o ≠ 7) : fG (useG xs k) i o = fG xs i o := useL_get hw.len (line_lt hw hk) ho h7
theorem useG_line {n : Nat} {xs : List Int} (hR : Rng n xs) {k : Nat} (hk : k < n) {i : Nat} (hi : i < n) : line (useG xs k) i = line xs i :=
  line_congr hR.wf (useG_rng hR hk).wf (fun q _ => useG_keep hR.wf hk q (by decide) (by decide)) hi
theorem not_spent {xs : List Int} {k : Nat} (h : spentB xs k = false) : ∀ i ∈ line xs k, fG xs i 7 ≠ 0 := fun i hi e => by
  unfold spentB at h
  rw [List.any_eq_false] at h
  exact h i hi (by unfold zeroG; rw [beq_iff_eq]; exact e)
/-- what is open to a bound stays so -/
theorem useG_bound {n : Nat} {xs : List Int} (hR : Rng n xs) {k : Nat} (hk : k < n) (hz : ∀ i ∈ line xs k, fG xs i 7 ≠ 0) {i : Nat} (hi : i < n) : (fG (useG xs k) i 7 = -1 ↔ fG xs i 7 = -1) := by
  rw [useG_at hR.wf hk]
  have hu := hR.u i hi
  split
  · rename_i h
    have := hz i h
    split
    · rename_i h'
      exact ⟨fun _ => h', fun _ => rfl⟩
    · constructor <;> intro h' <;> omega
  · exact Iff.rfl
theorem useG_good {s : St} (hs : Good s) {k : Nat} (hk : k < s.n) (hz : ∀ i ∈ line s.xs k, fG s.xs i 7 ≠ 0) : Good ⟨s.d, s.n, useG s.xs k, s.m, s.es⟩ := by
  have g : ∀ i o, o < 9 → o ≠ 7 → fG (useG s.xs k) i o = fG s.xs i o := fun i o ho h7 => useG_keep hs.rng.wf hk i ho h7
  refine ⟨useG_rng hs.rng hk, hs.len, hs.few, fun i hi => ?_, fun i hi => ?_, fun i hi => ?_, fun i hi => ?_, fun i hi => ?_, fun i hi => ?_, fun i hi => ?_⟩
  · rw [g i 0 (by decide) (by decide)]
    exact hs.no i hi
  · rw [g i 3 (by decide) (by decide)]
    exact hs.h i hi
  · rw [g i 4 (by decide) (by decide)]
    exact hs.v1 i hi
  · rw [g i 5 (by decide) (by decide)]
    exact hs.r1 i hi
  · rw [g i 6 (by decide) (by decide)]
    exact hs.t i hi
  · rw [g i 1 (by decide) (by decide), g i 2 (by decide) (by decide)]
    exact hs.root i hi
  · rw [g i 1 (by decide) (by decide)]
    intro h
    have hge : 0 ≤ fG s.xs i 1 := hs.rng.wf.ge i hi
    have hle : fG s.xs i 1 ≤ i := hs.rng.wf.le i hi
    have hi : i < s.n := hi
    have hp : (fG s.xs i 1 - 1).toNat < s.n := by omega
    refine up_congr (hs.up i hi h) (fun o ho h7 => g i o ho h7) (fun o ho h7 => g _ o ho h7) fun hu h' h'' => ?_
    exact hu (fun e => h' ((useG_bound hs.rng hk hz hp).2 e)) ((useG_bound hs.rng hk hz hi).1 h'')
theorem openE_0 {s : St} {a f fb t tb : Int} (h : openE s.d s.n s.xs s.m a f fb t tb = 0) : isVt a = true ∧ keyE s.d s.n s.xs a f fb = 0 ∧ keyE s.d s.n s.xs a t tb = 0 ∧ fb ≠ tb ∧ fG s.xs (f - 1).toNat 2 ≠ fG s.xs (t - 1).toNat 2 ∧ s.m < 4096 := by
  unfold openE at h
  split at h
  · cases h
  · rename_i h0
    split at h
    · rename_i h1
      exact absurd h h1
    · rename_i h1
      split at h
      · rename_i h2
        exact absurd h h2
      · rename_i h2
        split at h
        · cases h
        · rename_i h3
          split at h
          · cases h
          · rename_i h4
            have h3 : ((fb != tb) && (fG s.xs (f - 1).toNat 2 != fG s.xs (t - 1).toNat 2)) = true := by simpa using h3
            rw [Bool.and_eq_true, bne_iff_ne, bne_iff_ne] at h3
            exact ⟨by simpa using h0, by simpa using h1, by simpa using h2, h3.1, h3.2, by omega⟩
theorem openS_good {s : St} (hs : Good s) (a f fb t tb : Int) : Good (openS s a f fb t tb).1 := by
  unfold openS
  split
  · exact hs
  · rename_i h
    obtain ⟨_, h1, h2, _, h4, h5⟩ := openE_0 (by simpa using h)
    obtain ⟨⟨f1, f2⟩, _, f3⟩ := keyE_in h1
    obtain ⟨⟨t1, t2⟩, _, t3⟩ := keyE_in h2
    have hkf : (f - 1).toNat < s.n := by omega
    have hkt : (t - 1).toNat < s.n := by omega
    have hG := useG_good hs hkf (not_spent f3)
    have hz : ∀ i ∈ line (useG s.xs (f - 1).toNat) (t - 1).toNat, fG (useG s.xs (f - 1).toNat) i 7 ≠ 0 := fun i hi => by
      rw [useG_line hs.rng hkf hkt] at hi
      have hnot : i ∉ line s.xs (f - 1).toNat := fun hi' => h4 (by rw [← line_root_of hs hkf i hi', ← line_root_of hs hkt i hi])
      rw [useG_at hs.rng.wf hkf, if_neg hnot]
      exact not_spent t3 i hi
    have hG2 := useG_good (s := ⟨s.d, s.n, useG s.xs (f - 1).toNat, s.m, s.es⟩) hG hkt hz
    exact ⟨hG2.rng, by have := hs.len; show (s.m + 1) * 4 = (s.es ++ [s.d, a, f, t]).length; simp only [List.length_append, List.length_cons, List.length_nil]; omega, by show s.m + 1 ≤ 4096; omega, hG2.no, hG2.h, hG2.v1, hG2.r1, hG2.t, hG2.root, hG2.up⟩
end Go.Proofs.Ytlbgkfidpkbafaa
