/- A book copied. -/
import Derived.Test.YtlbgkfidpkbafaaG1
import Derived.Test.YtlbgkfidpkbafaaG11
import Derived.Test.YtlbgkfidpkbafaaG2
namespace Go.Proofs.Ytlbgkfidpkbafaa
open Go.RowKit
set_option linter.unusedSimpArgs false
set_option linter.unusedVariables false
abbrev gQ (q : Bool) (xs : List Int) : Blk := ⟨q, false, 50, 9, .recs kG xs⟩
abbrev gC (q : Bool) (xs : List Int) : Blk := ⟨q, false, 50, 9, .cells (recList kG xs)⟩
theorem view_call {P : Program} {g : FuncId} {args : List AV} {V : AV} {xs : List Int} (h : CallA P g args [gC false xs] (fun w H => w = V ∧ H = [gC false xs, gC true xs])) : CallA P g args [gQ false xs] (fun w H => w = V ∧ H = [gQ false xs, gQ true xs]) :=
  ⟨h.1, fun C ρ w ra hI hra => by
    have hI1 := hI.view (b := 0) (blk := gQ false xs) rfl rfl (B := .cells (recList kG xs)) (recList_len kG xs) (fun j x hx => (recList_get kG xs j x).1 hx)
    refine (h.2 C ρ w ra hI1 hra).mono ?_
    rintro e w' ⟨u, v, H', ρ', he, ⟨hv, rfl⟩, hI2, hX, hl, hr⟩
    have hI3 := hI2.view (b := 0) (blk := gC false xs) rfl rfl (B := .recs kG xs) (recList_len kG xs).symm (fun j x hx => (recList_get kG xs j x).2 hx)
    have hI4 := hI3.view (b := 1) (blk := gC true xs) rfl rfl (B := .recs kG xs) (recList_len kG xs).symm (fun j x hx => (recList_get kG xs j x).2 hx)
    exact ⟨u, v, [gQ false xs, gQ true xs], ρ', he, ⟨hv, rfl⟩, hI4, hX, hl, hr⟩⟩
theorem ren_plain (σ : Rn) (L : Nat) : ∀ {l : List A}, (∀ x ∈ l, ∃ v, x = .s (.v v)) → renA σ l = l ∧ okA σ L l = true
  | [], _ => ⟨rfl, rfl⟩
  | x :: l, h => by
    obtain ⟨v, rfl⟩ := h x List.mem_cons_self
    obtain ⟨h1, h2⟩ := ren_plain σ L (l := l) fun y hy => h y (List.mem_cons_of_mem _ hy)
    refine ⟨?_, ?_⟩
    · show A.s (.v v) :: renA σ l = _
      rw [h1]
    · show (true && okA σ L l) = true
      rw [h2]
      rfl
theorem rec_plain (σ : Rn) (L : Nat) (xs : List Int) : renA σ (recList kG xs) = recList kG xs ∧ okA σ L (recList kG xs) = true :=
  ren_plain σ L fun x hx => by
    obtain ⟨j, _, rfl⟩ := List.mem_map.1 hx
    exact ⟨_, rfl⟩
theorem apG_t {js jb L n xl : Nat} {m : Nat} (hL : L = m) (hm : 0 < m) (hm2 : m ≤ 128) (hj : js = 9) (hb : jb = 72) (h3 : n = 0) (hx : xl = 0) : decide (0 < L ∧ n * js = xl ∧ (n + L) * jb ≤ 140737488355328 ∧ n + L ≤ 9223372036854775807 ∧ 0 < js) = true := by
  subst hL hj hb h3 hx
  exact decide_eq_true ⟨hm, by omega, by omega, by omega, by omega⟩
set_option maxRecDepth 20000 in
theorem cloneC_c (n : Nat) (xs : List Int) (hx : n * 9 = xs.length) (hn : n ≤ 128) : CallA Try.prog 59 [.t (.a (.s (.slc 0 0 n)))] [gC false xs] (fun w H => w = .t (.a (.s (.slc 1 0 n))) ∧ H = [gC false xs, gC true xs]) := by
  refine call_of_vc TYok mixedO Try.func59 rfl rfl (Nat.le_of_ble_eq_true rfl) ?_
  cases n with
  | zero =>
    have h0 : xs = [] := List.eq_nil_of_length_eq_zero (by omega)
    subst h0
    (repeat (first | refine aC ?_ | refine aK ?_ | refine ⟨fun _ => ?_, fun h => absurd h (by decide)⟩ | refine ⟨fun h => absurd h (by decide), fun _ => ?_⟩))
    intro b
    (repeat (first | refine aC ?_ | refine aK ?_ | refine ⟨fun _ => ?_, fun h => absurd h (by decide)⟩ | refine ⟨fun h => absurd h (by decide), fun _ => ?_⟩))
    refine ⟨fun _ => ?_, fun _ => ?_⟩
    · (repeat (first | refine aC ?_ | refine aK ?_ | refine ⟨fun _ => ?_, fun h => absurd h (by decide)⟩ | refine ⟨fun h => absurd h (by decide), fun _ => ?_⟩))
      exact ⟨fun i => match i with | 0 => some 0 | _ => none, .t (.a (.s (.slc 1 0 0))), [gC false [], gC true []], by exact wI, rfl, rfl⟩
    · (repeat (first | refine aC ?_ | refine aK ?_ | refine ⟨fun _ => ?_, fun h => absurd h (by decide)⟩ | refine ⟨fun h => absurd h (by decide), fun _ => ?_⟩))
      exact ⟨some, .t (.a (.s (.slc 1 0 0))), [gC false [], gC true []], by exact wI, rfl, rfl⟩
  | succ m =>
    have hl := recList_len kG xs
    have ht : List.take ((m + 1) * ti50.size) (List.drop 0 (recList kG xs)) = recList kG xs := by
      rw [siz50, List.drop_zero]
      exact List.take_of_length_le (by omega)
    (repeat (first | refine aC ?_ | refine aK ?_ | refine ⟨fun _ => ?_, fun h => absurd h (by decide)⟩ | refine ⟨fun h => absurd h (by decide), fun _ => ?_⟩))
    refine And.intro ?_ ?_
    · exact and_t (and_t (and_t (and_t (and_t (decide_eq_true (by rw [siz50]; omega)) (by rw [ht]; exact recList_one kG xs)) rfl) rfl) (decide_eq_true siz50.symm)) (apG_t rfl (Nat.succ_pos m) hn rfl rfl rfl rfl)
    · (repeat (first | refine aC ?_ | refine aK ?_ | refine ⟨fun _ => ?_, fun h => absurd h (by decide)⟩ | refine ⟨fun h => absurd h (by decide), fun _ => ?_⟩))
      have ha : repl 0 (List.map A.val ti50.zero) ++ List.take ((m + 1) * ti50.size) (List.drop 0 (recList kG xs)) = recList kG xs := by rw [ht]; rfl
      rw [ha]
      generalize hg : 0 + lenOf _ = g
      obtain rfl : g = m + 1 := by
        rw [← hg]
        exact Nat.zero_add (m + 1)
      have hp := rec_plain (fun i => match i with | 0 => some 0 | 1 => some 2 | _ => none) 2 xs
      refine ⟨(fun i => match i with | 0 => some 0 | 1 => some 2 | _ => none), .t (.a (.s (.slc 1 0 (m + 1)))), [gC false xs, gC true xs], ⟨⟨rfl, ⟨rfl, rfl⟩, Nat.le_of_ble_eq_true rfl⟩, ?_, ?_⟩, rfl, rfl⟩
      · (repeat (first | exact trivial | refine ⟨⟨rfl, .inr rfl⟩, ?_⟩ | (refine ⟨⟨rfl, .inr ?_⟩, ?_⟩; · rfl)))
      · exact ⟨⟨fun h => (by cases h), rfl, rfl, fun h => (by cases h), hp.2, congrArg Body.cells hp.1.symm⟩, ⟨fun _ => rfl, rfl, rfl, fun h => (by cases h), hp.2, congrArg Body.cells hp.1.symm⟩, trivial⟩
theorem cloneG_c (n : Nat) (xs : List Int) (hx : n * 9 = xs.length) (hn : n ≤ 128) : CallA Try.prog 59 [.t (.a (.s (.slc 0 0 n)))] [gQ false xs] (fun w H => w = .t (.a (.s (.slc 1 0 n))) ∧ H = [gQ false xs, gQ true xs]) := view_call (cloneC_c n xs hx hn)
set_option maxRecDepth 20000 in
theorem copy_c (d : Int) (n : Nat) (xs : List Int) (m : Nat) (es : List Int) (hx : n * 9 = xs.length) (hn : n ≤ 128) (he : m * 4 = es.length) (hm : m ≤ 4096) : CallA Try.prog 23 [.t (.a (.s (.ptr 0 0)))] (bookR false d n xs m es)
    (fun w H => w = .t (.a (.s (.ptr 3 0))) ∧ H = bookR false d n xs m es ++ [⟨true, true, 45, 1, .cells [.s (.v (.bool true)), .s (.v (.int .i64 d)), .s (.slc 4 0 n), .s (.slc 5 0 m)]⟩, gQ true xs, entB true es]) := by
  refine call_of_vc TYok mixedO Try.func23 rfl rfl (Nat.le_of_ble_eq_true rfl) ?_
  (repeat (first | refine aC ?_ | refine aK ?_ | refine ⟨fun _ => ?_, fun h => absurd h (by decide)⟩ | refine ⟨fun h => absurd h (by decide), fun _ => ?_⟩))
  (refine call_lift (isMade_c d n xs m es) (fun i => match i with | 0 => some 0 | 1 => some 1 | 2 => some 2 | _ => none) rfl rfl hI rfl rfl rfl ?_; rintro v H1 ⟨rfl, rfl⟩; refine ⟨⟨rfl, rfl, rfl, rfl⟩, ?_⟩; (try simp only [two]); (try simp only [AV.ren]); (try simp only [renT]); (try simp only [AT.ren]); (try simp only [A.ren]); (try (rw [ptr_ren]; rotate_left; exact rfl)); (try (rw [slc_ren]; rotate_left; exact rfl)); (try simp only [S.ren]))
  (repeat (first | refine aC ?_ | refine ⟨fun _ => ?_, fun h => absurd h (by decide)⟩ | refine ⟨fun h => absurd h (by decide), fun _ => ?_⟩))
  refine cut_rule [(0, .t (.a (.s (.ptr 0 0))))] (bookR false d n xs m es) some (by exact wI) ?_
  (refine drawn_rule TYok mixedO [] [(true, 0, []), (true, 1, []), (true, 2, []), (true, 3, []), (true, 4, []), (true, 5, []), (true, 6, []), (true, 7, []), (true, 9, []), (true, 10, []), (true, 11, []), (true, 12, []), (false, 8, []), (false, 13, []), (true, 14, []), (false, 15, []), (true, 16, [])] (by kernel_rfl) ?_)
  (repeat (first | refine aC ?_ | refine aK ?_ | refine ⟨fun _ => ?_, fun h => absurd h (by decide)⟩ | refine ⟨fun h => absurd h (by decide), fun _ => ?_⟩))
  (refine call_lift (cloneG_c n xs hx hn) (fun i => match i with | 0 => some 1 | _ => none) rfl rfl hI rfl rfl rfl ?_; rintro v H1 ⟨rfl, rfl⟩; refine ⟨⟨rfl, rfl, rfl, rfl⟩, ?_⟩; (try simp only [two]); (try simp only [AV.ren]); (try simp only [renT]); (try simp only [AT.ren]); (try simp only [A.ren]); (try (rw [ptr_ren]; rotate_left; exact rfl)); (try (rw [slc_ren]; rotate_left; exact rfl)); (try simp only [S.ren]))
  refine And.intro ?_ ?_
  · refine bkP ?_
    rfl
  (repeat (first | refine aC ?_ | refine aK ?_ | refine ⟨fun _ => ?_, fun h => absurd h (by decide)⟩ | refine ⟨fun h => absurd h (by decide), fun _ => ?_⟩))
  (refine call_lift (cloneE_c m es he hm) (fun i => match i with | 0 => some 2 | _ => none) rfl rfl hI rfl rfl rfl ?_; rintro v H1 ⟨rfl, rfl⟩; refine ⟨⟨rfl, rfl, rfl, rfl⟩, ?_⟩; (try simp only [two]); (try simp only [AV.ren]); (try simp only [renT]); (try simp only [AT.ren]); (try simp only [A.ren]); (try (rw [ptr_ren]; rotate_left; exact rfl)); (try (rw [slc_ren]; rotate_left; exact rfl)); (try simp only [S.ren]))
  refine And.intro ?_ ?_
  · refine bkP ?_
    rfl
  (repeat (first | refine aC ?_ | refine aK ?_ | refine ⟨fun _ => ?_, fun h => absurd h (by decide)⟩ | refine ⟨fun h => absurd h (by decide), fun _ => ?_⟩))
  exact ⟨(fun i => match i with | 0 => some 0 | 1 => some 1 | 2 => some 2 | 3 => some 5 | 4 => some 3 | 5 => some 4 | _ => none), .t (.a (.s (.ptr 3 0))), bookR false d n xs m es ++ [⟨true, true, 45, 1, .cells [.s (.v (.bool true)), .s (.v (.int .i64 d)), .s (.slc 4 0 n), .s (.slc 5 0 m)]⟩, gQ true xs, entB true es], by exact wI, rfl, rfl⟩
end Go.Proofs.Ytlbgkfidpkbafaa
/- Nothing that a group's persons pass on among themselves lets them open more. -/
namespace Go.Proofs.Ytlbgkfidpkbafaa
open Go.RowKit
set_option linter.unusedSimpArgs false
set_option linter.unusedVariables false
theorem meet_comm (xs : List Int) (P : Int) (a b : Nat) : meetB xs P a b = meetB xs P b a := by
  unfold meetB
  have h1 : (fG xs a 2 == fG xs b 2) = (fG xs b 2 == fG xs a 2) := BEq.comm
  have h3 : (fG xs a 3 != fG xs b 3) = (fG xs b 3 != fG xs a 3) := by
    unfold bne
    rw [show (fG xs a 3 == fG xs b 3) = (fG xs b 3 == fG xs a 3) from BEq.comm]
  rw [h1, h3, Nat.or_comm]
  by_cases h : fG xs b 3 = fG xs a 3
  · rw [h]
  · have : (fG xs b 3 != fG xs a 3) = true := bne_iff_ne.2 h
    rw [this, Bool.true_or, Bool.true_or]
theorem pair_comm {s : St} {P : Int} {v a b : Nat} (h : pairB s P v a b) : pairB s P v b a := ⟨by rw [meet_comm]; exact h.1, h.2.2, h.2.1⟩
/-- a bit of what could be opened, by two grants in any order -/
theorem could_of {s : St} {P : Int} {v a b : Nat} (ha : a < s.n) (hb : b < s.n) (hne : a ≠ b) (ka : keyOk s P a = true) (kb : keyOk s P b = true) (hp : pairB s P v a b) : (couldV s P).testBit v = true := by
  rw [couldV_bit]
  rcases Nat.lt_or_gt_of_ne hne with h | h
  · exact ⟨b, a, h, hb, kb, ka, pair_comm hp⟩
  · exact ⟨a, b, h, ha, ka, kb, hp⟩
theorem sub_toNat {a b : Int} (ha : 0 ≤ a ∧ a ≤ 65535) (hb : 0 ≤ b ∧ b ≤ 65535) (h : subI a b = true) : a.toNat &&& b.toNat = a.toNat := by
  have := subI_and ha hb h
  omega
theorem hasOpen_sub {r R : Int} (h : r.toNat &&& R.toNat = r.toNat) (h1 : hasOpen r = true) : hasOpen R = true := by
  unfold hasOpen at h1 ⊢
  rw [bne_iff_ne] at h1 ⊢
  intro e
  apply h1
  rw [← h, Nat.and_assoc, show R.toNat &&& 1 = 0 by exact_mod_cast e, Nat.and_zero]
  rfl
theorem bit_sub {v V : Nat} (h : v &&& V = v) {w : Nat} (h1 : v.testBit w = true) : V.testBit w = true := by
  rw [← h, Nat.testBit_and, Bool.and_eq_true] at h1
  exact h1.2
theorem line_new {s : St} (hs : Good s) {k : Nat} (hk : k < s.n) {zs : List Int} (h0 : zs.getD 1 0 = (k : Int) + 1) (hg : Wf (s.n + 1) (s.xs ++ zs)) : line (s.xs ++ zs) s.n = s.n :: line s.xs k := by
  have hx := hs.rng.wf.len
  have e : (s.xs ++ zs).getD (s.n * 9 + 1) 0 = (k : Int) + 1 := (app_new hx zs 1).trans h0
  rw [line_up hg (Nat.lt_succ_self _) (by rw [e]; omega), e, show ((k : Int) + 1 - 1).toNat = k by omega, line_app' hs.rng.wf zs hk]
theorem pass_could {s : St} (hs : Good s) {P : Int} {k : Nat} (hk : k < s.n) {b h v r u us : Int} (hin : hasV P b = true) (hih : hasV P h = true) (hb : passB s.d s.xs k b v r u us = true) (hr : 0 ≤ r ∧ r ≤ 65535) (hv : 0 ≤ v ∧ v ≤ 65535) (hP : 0 ≤ P) (h0 : 0 ≤ h)
    (hg : Good ⟨s.d, s.n + 1, s.xs ++ [(s.n : Int) + 1, (k : Int) + 1, fG s.xs k 2, h, v, r, u, us, 0], s.m, s.es⟩) (w : Nat) (hw : (couldV ⟨s.d, s.n + 1, s.xs ++ [(s.n : Int) + 1, (k : Int) + 1, fG s.xs k 2, h, v, r, u, us, 0], s.m, s.es⟩ P).testBit w = true) : (couldV s P).testBit w = true := by
  have hx := hs.rng.wf.len
  obtain ⟨a, c, hca, ha, ka, kc, hp⟩ := (couldV_bit _ _ _).1 hw
  have ha : a < s.n + 1 := ha
  have hc : c < s.n := by omega
  have old : ∀ {i o : Nat}, i < s.n → o < 9 → fG (s.xs ++ [(s.n : Int) + 1, (k : Int) + 1, fG s.xs k 2, h, v, r, u, us, 0]) i o = fG s.xs i o := fun hi ho => app_old hx _ hi ho
  have nw : ∀ o, fG (s.xs ++ [(s.n : Int) + 1, (k : Int) + 1, fG s.xs k 2, h, v, r, u, us, 0]) s.n o = [(s.n : Int) + 1, (k : Int) + 1, fG s.xs k 2, h, v, r, u, us, 0].getD o 0 := fun o => app_new hx _ o
  rw [keyOk_app hs _ P hc] at kc
  rcases Nat.lt_succ_iff_lt_or_eq.1 ha with ha | rfl
  · rw [keyOk_app hs _ P ha] at ka
    obtain ⟨p1, p2, p3⟩ := hp
    have p1 : meetB (s.xs ++ [(s.n : Int) + 1, (k : Int) + 1, fG s.xs k 2, h, v, r, u, us, 0]) P a c = true := p1
    have p2 : (fG (s.xs ++ [(s.n : Int) + 1, (k : Int) + 1, fG s.xs k 2, h, v, r, u, us, 0]) a 4).toNat.testBit w = true := p2
    have p3 : (fG (s.xs ++ [(s.n : Int) + 1, (k : Int) + 1, fG s.xs k 2, h, v, r, u, us, 0]) c 4).toNat.testBit w = true := p3
    unfold meetB at p1
    rw [old ha (by decide), old hc (by decide), old ha (by decide), old hc (by decide), old ha (by decide), old hc (by decide)] at p1
    rw [old ha (by decide)] at p2
    rw [old hc (by decide)] at p3
    exact could_of ha hc (by omega) ka kc ⟨p1, p2, p3⟩
  · obtain ⟨p1, p2, p3⟩ := hp
    have p1 : meetB (s.xs ++ [(s.n : Int) + 1, (k : Int) + 1, fG s.xs k 2, h, v, r, u, us, 0]) P s.n c = true := p1
    have p2 : (fG (s.xs ++ [(s.n : Int) + 1, (k : Int) + 1, fG s.xs k 2, h, v, r, u, us, 0]) s.n 4).toNat.testBit w = true := p2
    have p3 : (fG (s.xs ++ [(s.n : Int) + 1, (k : Int) + 1, fG s.xs k 2, h, v, r, u, us, 0]) c 4).toNat.testBit w = true := p3
    unfold meetB at p1
    rw [nw, old hc (by decide), nw, old hc (by decide), nw, old hc (by decide)] at p1
    rw [nw] at p2
    rw [old hc (by decide)] at p3
    have p1 : (!(fG s.xs k 2 == fG s.xs c 2) && ((h != fG s.xs c 3) || (((((r.toNat ||| (fG s.xs c 5).toNat : Nat) : Int).toNat &&& 2 : Nat) : Int) != 0 && !(P == 1 * 2 ^ h.toNat)))) = true := p1
    have p2 : v.toNat.testBit w = true := p2
    unfold keyOk at ka
    unfold passB wthn at hb
    simp only [Bool.and_eq_true, beq_iff_eq] at ka hb
    obtain ⟨⟨⟨_, _⟩, ko⟩, ks⟩ := ka
    obtain ⟨⟨⟨b1, b2⟩, b3⟩, ⟨⟨b4, b5⟩, _⟩, _⟩ := hb
    have ko : hasOpen (fG (s.xs ++ [(s.n : Int) + 1, (k : Int) + 1, fG s.xs k 2, h, v, r, u, us, 0]) s.n 5) = true := ko
    rw [nw] at ko
    have ko : hasOpen r = true := ko
    have vk := hs.rng.v k hk
    have rk := hs.rng.r k hk
    have kk : hasOpen (fG s.xs k 5) = true := hasOpen_sub (sub_toNat hr ⟨rk.1, by omega⟩ b5) ko
    have ks : (!(line (s.xs ++ [(s.n : Int) + 1, (k : Int) + 1, fG s.xs k 2, h, v, r, u, us, 0]) s.n).any (zeroG (s.xs ++ [(s.n : Int) + 1, (k : Int) + 1, fG s.xs k 2, h, v, r, u, us, 0]))) = true := ks
    rw [line_new hs hk rfl hg.rng.wf, List.any_cons, Bool.not_eq_true', Bool.or_eq_false_iff] at ks
    have kz : spentB s.xs k = false := by
      unfold spentB
      rw [← ks.2]
      refine any_congr fun i hi => ?_
      unfold zeroG
      rw [old (line_lt hs.rng.wf hk i hi) (by decide)]
    have okk : keyOk s P k = true := by
      unfold keyOk
      rw [← b1, hin, b2, kk, kz]
      rfl
    rw [Bool.and_eq_true, Bool.or_eq_true] at p1
    obtain ⟨pr, ph⟩ := p1
    have hne : k ≠ c := fun e => by
      rw [e] at pr
      simp at pr
    refine could_of hk hc hne okk kc ⟨?_, bit_sub (sub_toNat hv vk b4) p2, p3⟩
    unfold meetB
    rw [Bool.and_eq_true, Bool.or_eq_true]
    refine ⟨pr, ?_⟩
    by_cases hh : fG s.xs k 3 = fG s.xs c 3
    · right
      rw [Bool.and_eq_true]
      refine ⟨?_, ?_⟩
      · rw [bne_iff_ne]
        intro e
        have e : ((fG s.xs k 5).toNat ||| (fG s.xs c 5).toNat) &&& 2 = 0 := by exact_mod_cast e
        unfold hasPass at b3
        rw [bne_iff_ne] at b3
        apply b3
        have : (fG s.xs k 5).toNat &&& 2 = 0 := by
          rw [Nat.and_or_distrib_right] at e
          exact (Nat.or_eq_zero_iff.1 e).1
        rw [this]
        rfl
      · rw [Bool.not_eq_true', beq_eq_false_iff_ne]
        intro hPe
        rcases ph with ph | ph
        · rw [bne_iff_ne] at ph
          rw [hasV_bit hP] at hih
          have hA := hs.h k hk
          have e2 : P.toNat = 2 ^ (fG s.xs k 3).toNat := by
            rw [hPe, Int.one_mul, show ((2 : Int) ^ (fG s.xs k 3).toNat) = ((2 ^ (fG s.xs k 3).toNat : Nat) : Int) by push_cast; rfl, Int.toNat_natCast]
          rw [e2, Nat.testBit_two_pow, decide_eq_true_eq] at hih
          exact ph (by omega)
        · rw [Bool.and_eq_true, Bool.not_eq_true', beq_eq_false_iff_ne] at ph
          by_cases h3 : h = fG s.xs c 3
          · exact ph.2 (by rw [h3, ← hh]; exact hPe)
          · rw [hasV_bit hP] at hih
            have hA := hs.h k hk
            have e2 : P.toNat = 2 ^ (fG s.xs k 3).toNat := by
              rw [hPe, Int.one_mul, show ((2 : Int) ^ (fG s.xs k 3).toNat) = ((2 ^ (fG s.xs k 3).toNat : Nat) : Int) by push_cast; rfl, Int.toNat_natCast]
            rw [e2, Nat.testBit_two_pow, decide_eq_true_eq] at hih
            exact h3 (by omega)
    · left
      exact bne_iff_ne.2 hh
theorem keyOk_use {s : St} (hs : Good s) {P : Int} {F T : Nat} (hF : F < s.n) (hT : T < s.n) (zf : spentB s.xs F = false) (zt : spentB s.xs T = false) {m : Nat} {es : List Int} {i : Nat} (hi : i < s.n)
    (h : keyOk ⟨s.d, s.n, useG (useG s.xs F) T, m, es⟩ P i = true) : keyOk s P i = true := by
  have hR := useG_rng hs.rng hF
  have keep : ∀ q o, o < 9 → o ≠ 7 → fG (useG (useG s.xs F) T) q o = fG s.xs q o := fun q o ho h7 => by
    rw [useG_keep hR.wf hT q ho h7, useG_keep hs.rng.wf hF q ho h7]
  have hl : ∀ q, q < s.n → line (useG (useG s.xs F) T) q = line s.xs q := fun q hq => by
    rw [useG_line hR hT hq, useG_line hs.rng hF hq]
  have h' : (hasV P (fG (useG (useG s.xs F) T) i 3) && standsB s.d (useG (useG s.xs F) T) i && hasOpen (fG (useG (useG s.xs F) T) i 5) && !spentB (useG (useG s.xs F) T) i) = true := h
  have hst : standsB s.d (useG (useG s.xs F) T) i = standsB s.d s.xs i := by
    unfold standsB
    rw [hl i hi, keep i 6 (by decide) (by decide)]
    rw [any_congr (q := revG s.xs) fun q _ => by
      show ((useG (useG s.xs F) T).getD (q * 9 + 8) 0 != 0) = (s.xs.getD (q * 9 + 8) 0 != 0)
      rw [show (useG (useG s.xs F) T).getD (q * 9 + 8) 0 = _ from keep q 8 (by decide) (by decide)]]
  have hsp : spentB (useG (useG s.xs F) T) i = false → spentB s.xs i = false := fun hz => by
    by_cases hc : spentB s.xs i = true
    · exfalso
      unfold spentB at hc hz
      rw [hl i hi] at hz
      obtain ⟨q, hq, hq0⟩ := List.any_eq_true.1 hc
      have hq7 : fG s.xs q 7 = 0 := beq_iff_eq.1 hq0
      have hqn : q < s.n := line_lt hs.rng.wf hi q hq
      have n1 : q ∉ line s.xs F := fun hm => not_spent zf q hm hq7
      have n2 : q ∉ line s.xs T := fun hm => not_spent zt q hm hq7
      have e : fG (useG (useG s.xs F) T) q 7 = 0 := by
        rw [useG_at hR.wf hT, useG_line hs.rng hF hT, if_neg n2, useG_at hs.rng.wf hF, if_neg n1, hq7]
      rw [List.any_eq_false] at hz
      exact hz q hq (by unfold zeroG; rw [e]; rfl)
    · simpa using hc
  rw [keep i 3 (by decide) (by decide), keep i 5 (by decide) (by decide), hst] at h'
  simp only [Bool.and_eq_true, Bool.not_eq_true'] at h'
  unfold keyOk
  rw [h'.1.1.1, h'.1.1.2, h'.1.2, hsp h'.2]
  rfl
theorem open_could {s : St} (hs : Good s) {P : Int} {F T : Nat} (hF : F < s.n) (hT : T < s.n) (zf : spentB s.xs F = false) (zt : spentB s.xs T = false) {m : Nat} {es : List Int} (w : Nat)
    (hw : (couldV ⟨s.d, s.n, useG (useG s.xs F) T, m, es⟩ P).testBit w = true) : (couldV s P).testBit w = true := by
  have hR := useG_rng hs.rng hF
  have keep : ∀ q o, o < 9 → o ≠ 7 → fG (useG (useG s.xs F) T) q o = fG s.xs q o := fun q o ho h7 => by
    rw [useG_keep hR.wf hT q ho h7, useG_keep hs.rng.wf hF q ho h7]
  obtain ⟨a, c, hca, ha, ka, kc, p1, p2, p3⟩ := (couldV_bit _ _ _).1 hw
  have ha : a < s.n := ha
  have hc : c < s.n := by omega
  have p1 : meetB (useG (useG s.xs F) T) P a c = true := p1
  have p2 : (fG (useG (useG s.xs F) T) a 4).toNat.testBit w = true := p2
  have p3 : (fG (useG (useG s.xs F) T) c 4).toNat.testBit w = true := p3
  unfold meetB at p1
  rw [keep a 2 (by decide) (by decide), keep c 2 (by decide) (by decide), keep a 3 (by decide) (by decide), keep c 3 (by decide) (by decide), keep a 5 (by decide) (by decide), keep c 5 (by decide) (by decide)] at p1
  rw [keep a 4 (by decide) (by decide)] at p2
  rw [keep c 4 (by decide) (by decide)] at p3
  exact could_of ha hc (by omega) (keyOk_use hs hF hT zf zt ha ka) (keyOk_use hs hF hT zf zt hc kc) ⟨p1, p2, p3⟩
/-- what is opened by two of the group's persons is a bit of what they could open -/
theorem open_bit {s : St} (hs : Good s) {P a f fb t tb : Int} (hf : hasV P fb = true) (ht : hasV P tb = true) (h : openE s.d s.n s.xs s.m a f fb t tb = 0) : (couldV s P).testBit a.toNat = true := by
  obtain ⟨_, h1, h2, hb, hroot, _⟩ := openE_0 h
  obtain ⟨⟨f1, f2⟩, kf, zf⟩ := keyE_in h1
  obtain ⟨⟨t1, t2⟩, kt, zt⟩ := keyE_in h2
  simp only [keyC, Bool.and_eq_true, beq_iff_eq] at kf kt
  have hkf : (f - 1).toNat < s.n := by omega
  have hkt : (t - 1).toNat < s.n := by omega
  have okf : keyOk s P (f - 1).toNat = true := by
    unfold keyOk
    rw [← kf.1.1.1, hf, kf.1.1.2, kf.1.2, zf]
    rfl
  have okt : keyOk s P (t - 1).toNat = true := by
    unfold keyOk
    rw [← kt.1.1.1, ht, kt.1.1.2, kt.1.2, zt]
    rfl
  refine could_of hkf hkt (fun e => hroot (by rw [e])) okf okt ⟨?_, ?_, ?_⟩
  · unfold meetB
    rw [Bool.and_eq_true, Bool.or_eq_true]
    exact ⟨by rw [Bool.not_eq_true', beq_eq_false_iff_ne]; exact hroot, .inl (bne_iff_ne.2 (by rw [← kf.1.1.1, ← kt.1.1.1]; exact hb))⟩
  · have := kf.2
    rw [hasV_bit (hs.rng.v _ hkf).1] at this
    exact this
  · have := kt.2
    rw [hasV_bit (hs.rng.v _ hkt).1] at this
    exact this
end Go.Proofs.Ytlbgkfidpkbafaa
/- What a group could open it can open. -/
namespace Go.Proofs.Ytlbgkfidpkbafaa
open Go.RowKit
set_option linter.unusedSimpArgs false
set_option linter.unusedVariables false
theorem turned_num {s s' : St} (h : Turned s s') : s.d ≤ s'.d ∧ s'.n ≤ s.n + 1 ∧ s'.m ≤ s.m + 1 := by
  cases h with
  | same => exact ⟨Int.le_refl _, Nat.le_succ _, Nat.le_succ _⟩
  | more ab ro h v r u us hn hv => exact ⟨Int.le_refl _, Nat.le_refl _, Nat.le_succ _⟩
  | rev k hk => exact ⟨Int.le_refl _, Nat.le_succ _, Nat.le_succ _⟩
  | day d hd => exact ⟨hd, Nat.le_succ _, Nat.le_succ _⟩
  | opn a f t f1 f2 t1 t2 sf st hr zf zt => exact ⟨Int.le_refl _, Nat.le_succ _, Nat.le_refl _⟩
theorem runS_num (ys : List Int) : ∀ j, 0 ≤ (runS ys j).d ∧ (runS ys j).n ≤ j ∧ (runS ys j).m ≤ j
  | 0 => ⟨Int.le_refl _, Nat.le_refl _, Nat.le_refl _⟩
  | j + 1 => by
    obtain ⟨a, b, c⟩ := runS_num ys j
    obtain ⟨x, y, z⟩ : (runS ys j).d ≤ (runS ys (j + 1)).d ∧ (runS ys (j + 1)).n ≤ (runS ys j).n + 1 ∧ (runS ys (j + 1)).m ≤ (runS ys j).m + 1 := turned_num (act_turned _ _)
    exact ⟨by omega, by omega, by omega⟩
theorem keyE_ok {s : St} {P v : Int} {i : Nat} (hi : i < s.n) (hk : keyOk s P i = true) (hb : hasV (fG s.xs i 4) v = true) : keyE s.d s.n s.xs v ((i : Int) + 1) (fG s.xs i 3) = 0 := by
  unfold keyOk at hk
  simp only [Bool.and_eq_true, Bool.not_eq_true'] at hk
  unfold keyE
  rw [if_neg (by rw [decide_eq_true (by omega), decide_eq_true (by omega)]; decide), succ_k, if_neg ?_, if_neg (by rw [hk.2]; decide)]
  unfold keyC
  rw [beq_self_eq_true, hk.1.1.2, hk.1.2, hb]
  decide
theorem openE_ok {s : St} {P v : Int} (hv : isVt v = true) {i c : Nat} (hi : i < s.n) (hc : c < s.n) (ki : keyOk s P i = true) (kc : keyOk s P c = true) (bi : hasV (fG s.xs i 4) v = true) (bc : hasV (fG s.xs c 4) v = true) (hroot : fG s.xs i 2 ≠ fG s.xs c 2) (hh : fG s.xs i 3 ≠ fG s.xs c 3) (hm : s.m < 4096) :
    openE s.d s.n s.xs s.m v ((i : Int) + 1) (fG s.xs i 3) ((c : Int) + 1) (fG s.xs c 3) = 0 := by
  unfold openE
  rw [if_neg (by rw [hv]; decide), if_neg (by rw [keyE_ok hi ki bi]; decide), if_neg (by rw [keyE_ok hc kc bc]; decide), succ_k, succ_k, if_neg ?_, if_neg (by omega)]
  rw [bne_iff_ne.2 hh, bne_iff_ne.2 hroot]
  decide
/-- a grant passed on for one use of one vault opens it -/
theorem new_key {s : St} (hs : Good s) {P v p : Int} {i : Nat} (hi : i < s.n) (ki : keyOk s P i = true) (hv : 0 ≤ v ∧ v ≤ 15) (hg : Good ⟨s.d, s.n + 1, s.xs ++ [(s.n : Int) + 1, (i : Int) + 1, fG s.xs i 2, p, 1 * 2 ^ v.toNat, 1, s.d, 1, 0], s.m, s.es⟩) :
    keyE s.d (s.n + 1) (s.xs ++ [(s.n : Int) + 1, (i : Int) + 1, fG s.xs i 2, p, 1 * 2 ^ v.toNat, 1, s.d, 1, 0]) v ((s.n : Int) + 1) p = 0 := by
  have hx := hs.rng.wf.len
  unfold keyOk at ki
  simp only [Bool.and_eq_true, Bool.not_eq_true'] at ki
  have nw : ∀ o, fG (s.xs ++ [(s.n : Int) + 1, (i : Int) + 1, fG s.xs i 2, p, 1 * 2 ^ v.toNat, 1, s.d, 1, 0]) s.n o = [(s.n : Int) + 1, (i : Int) + 1, fG s.xs i 2, p, 1 * 2 ^ v.toNat, 1, s.d, 1, 0].getD o 0 := fun o => app_new hx _ o
  have hl := line_new hs hi (zs := [(s.n : Int) + 1, (i : Int) + 1, fG s.xs i 2, p, 1 * 2 ^ v.toNat, 1, s.d, 1, 0]) rfl hg.rng.wf
  have hlt := line_lt hs.rng.wf hi
  have st := ki.1.1.2
  unfold standsB at st
  simp only [Bool.and_eq_true, Bool.not_eq_true'] at st
  have c1 : (line (s.xs ++ [(s.n : Int) + 1, (i : Int) + 1, fG s.xs i 2, p, 1 * 2 ^ v.toNat, 1, s.d, 1, 0]) s.n).any (revG (s.xs ++ [(s.n : Int) + 1, (i : Int) + 1, fG s.xs i 2, p, 1 * 2 ^ v.toNat, 1, s.d, 1, 0])) = false := by
    rw [hl, List.any_cons, Bool.or_eq_false_iff]
    refine ⟨?_, ?_⟩
    · show ((s.xs ++ _).getD (s.n * 9 + 8) 0 != 0) = false
      rw [show (s.xs ++ _).getD (s.n * 9 + 8) 0 = _ from nw 8]
      rfl
    · rw [← st.2]
      refine any_congr fun q hq => ?_
      show ((s.xs ++ _).getD (q * 9 + 8) 0 != 0) = (s.xs.getD (q * 9 + 8) 0 != 0)
      rw [show (s.xs ++ _).getD (q * 9 + 8) 0 = _ from app_old hx _ (hlt q hq) (show 8 < 9 by decide)]
  have c2 : spentB (s.xs ++ [(s.n : Int) + 1, (i : Int) + 1, fG s.xs i 2, p, 1 * 2 ^ v.toNat, 1, s.d, 1, 0]) s.n = false := by
    have z := ki.2
    unfold spentB at z ⊢
    rw [hl, List.any_cons, Bool.or_eq_false_iff]
    refine ⟨?_, ?_⟩
    · unfold zeroG
      rw [nw]
      rfl
    · rw [← z]
      refine any_congr fun q hq => ?_
      unfold zeroG
      rw [app_old hx _ (hlt q hq) (by decide)]
  have c3 : hasV (1 * 2 ^ v.toNat) v = true := by
    have h2 : (0 : Int) ≤ 1 * 2 ^ v.toNat := by rw [Int.one_mul]; exact Int.le_of_lt (Int.pow_pos (by decide))
    rw [hasV_bit h2, Int.one_mul, show ((2 : Int) ^ v.toNat) = ((2 ^ v.toNat : Nat) : Int) by push_cast; rfl, Int.toNat_natCast, Nat.testBit_two_pow, decide_eq_true_eq]
  unfold keyE
  rw [if_neg (by rw [decide_eq_true (by omega), decide_eq_true (by push_cast; omega)]; decide), succ_k, if_neg ?_, if_neg (by rw [c2]; decide)]
  unfold keyC standsB
  rw [c1, nw, nw, nw, nw]
  show ¬ (p == p && (decide (s.d ≤ s.d) && !false) && hasOpen 1 && hasV (1 * 2 ^ v.toNat) v) = false
  rw [c3, beq_self_eq_true, decide_eq_true (Int.le_refl _)]
  decide
end Go.Proofs.Ytlbgkfidpkbafaa
/- Two grants by which a group opens a vault. -/
namespace Go.Proofs.Ytlbgkfidpkbafaa
open Go.RowKit
set_option linter.unusedSimpArgs false
set_option linter.unusedVariables false
theorem in_yes {P h : Int} (hP : 0 ≤ P) (hi : inF P h = true) : hasV P h = true ∧ 0 ≤ h ∧ h ≤ 15 := by
  unfold inF at hi
  simp only [Bool.and_eq_true, decide_eq_true_eq, beq_iff_eq] at hi
  refine ⟨?_, hi.1.1, hi.1.2⟩
  unfold hasV
  have hp : (0 : Int) ≤ 2 ^ h.toNat := Int.le_of_lt (Int.pow_pos (by decide))
  have hq : 0 ≤ P.fdiv (2 ^ h.toNat) := by
    rw [Int.fdiv_eq_ediv_of_nonneg _ hp]
    exact Int.ediv_nonneg hP hp
  have h2 := hi.2
  generalize P.fdiv (2 ^ h.toNat) = q at *
  rw [Nat.and_one_is_mod, beq_iff_eq]
  omega
theorem in_of {P h : Int} (hP : 0 ≤ P) (hh : 0 ≤ h ∧ h ≤ 15) (hv : hasV P h = true) : inF P h = true := by
  cases hc : inF P h with
  | true => rfl
  | false => exact absurd (hv.symm.trans (inF_no hP hc hh.1 hh.2)) (by decide)
theorem bit_of (C : Nat) {v : Int} : (((C : Int).fdiv (2 ^ v.toNat)) % 2 == 1) = C.testBit v.toNat := by
  have hp : (0 : Int) ≤ 2 ^ v.toNat := Int.le_of_lt (Int.pow_pos (by decide))
  have e : (C : Int).fdiv (2 ^ v.toNat) = ((C / 2 ^ v.toNat : Nat) : Int) := by
    rw [Int.fdiv_eq_ediv_of_nonneg _ hp, Int.natCast_ediv, Int.natCast_pow]
    rfl
  rw [e, Nat.testBit_eq_decide_div_mod_eq]
  generalize C / 2 ^ v.toNat = q
  by_cases h : q % 2 = 1
  · rw [decide_eq_true h, beq_iff_eq]
    omega
  · rw [decide_eq_false h, beq_eq_false_iff_ne]
    omega
theorem bit_not (C : Nat) {v : Int} : (((C : Int).fdiv (2 ^ v.toNat)) % 2 == 0) = !C.testBit v.toNat := by
  rw [← bit_of C (v := v)]
  generalize (C : Int).fdiv (2 ^ v.toNat) = q
  by_cases h : q % 2 = 1
  · rw [h]
    rfl
  · have : q % 2 = 0 := by omega
    rw [this]
    rfl
theorem other {P h : Int} (hP : 0 ≤ P ∧ P ≤ 65535) (hh : 0 ≤ h ∧ h ≤ 15) (hin : hasV P h = true) (hne : (P == 1 * 2 ^ h.toNat) = false) : ∃ p : Nat, p ≤ 15 ∧ hasV P (p : Int) = true ∧ (p : Int) ≠ h := by
  apply Classical.byContradiction
  intro hn
  have e : P.toNat = 2 ^ h.toNat := by
    apply Nat.eq_of_testBit_eq
    intro i
    rw [Nat.testBit_two_pow]
    by_cases hi : h.toNat = i
    · subst hi
      rw [hasV_bit hP.1] at hin
      rw [hin, decide_eq_true rfl]
    · rw [decide_eq_false hi]
      by_cases hl : i ≤ 15
      · cases hb : P.toNat.testBit i with
        | false => rfl
        | true => exact absurd ⟨i, hl, by rw [hasV_bit hP.1, Int.toNat_natCast]; exact hb, by omega⟩ hn
      · exact Nat.testBit_lt_two_pow (Nat.lt_of_lt_of_le (show P.toNat < 2 ^ 16 by omega) (Nat.pow_le_pow_right (by decide) (by omega)))
  rw [beq_eq_false_iff_ne] at hne
  apply hne
  have h1 := Int.toNat_of_nonneg hP.1
  rw [e] at h1
  rw [← h1, Int.one_mul]
  push_cast
  rfl
structure Tgt (s : St) (P v : Int) (i k : Nat) : Prop where
  hi : i < s.n
  hk : k < s.n
  ki : keyOk s P i = true
  kk : keyOk s P k = true
  bi : hasV (fG s.xs i 4) v = true
  bk : hasV (fG s.xs k 4) v = true
  root : fG s.xs i 2 ≠ fG s.xs k 2
  way : fG s.xs i 3 ≠ fG s.xs k 3 ∨ (fG s.xs i 3 = fG s.xs k 3 ∧ hasPass (fG s.xs i 5) = true ∧ ∃ p : Nat, p ≤ 15 ∧ hasV P (p : Int) = true ∧ (p : Int) ≠ fG s.xs k 3)
theorem or_pass {x y : Int} (h : (((((x.toNat ||| y.toNat : Nat) : Int).toNat &&& 2 : Nat) : Int) != 0) = true) (hx : ¬ hasPass x = true) : hasPass y = true := by
  unfold hasPass at *
  rw [bne_iff_ne] at *
  intro e
  apply h
  have hx : ((x.toNat &&& 2 : Nat) : Int) = 0 := Classical.byContradiction hx
  have e1 : x.toNat &&& 2 = 0 := by exact_mod_cast hx
  have e2 : y.toNat &&& 2 = 0 := by exact_mod_cast e
  rw [Int.toNat_natCast, Nat.and_or_distrib_right, e1, e2]
  rfl
theorem key_in {s : St} {P : Int} {i : Nat} (h : keyOk s P i = true) : hasV P (fG s.xs i 3) = true := by
  unfold keyOk at h
  simp only [Bool.and_eq_true] at h
  exact h.1.1.1
theorem tgt_of {s : St} (hs : Good s) {P : Int} (hP : 0 ≤ P ∧ P ≤ 65535) {v : Nat} (h : (couldV s P).testBit v = true) : ∃ i k, Tgt s P (v : Int) i k := by
  obtain ⟨a, b, hba, ha, ka, kb, p1, p2, p3⟩ := (couldV_bit _ _ _).1 h
  have hb : b < s.n := by omega
  have b1 : hasV (fG s.xs a 4) (v : Int) = true := by
    rw [hasV_bit (hs.rng.v a ha).1, Int.toNat_natCast]
    exact p2
  have b2 : hasV (fG s.xs b 4) (v : Int) = true := by
    rw [hasV_bit (hs.rng.v b hb).1, Int.toNat_natCast]
    exact p3
  unfold meetB at p1
  rw [Bool.and_eq_true, Bool.or_eq_true, Bool.not_eq_true', beq_eq_false_iff_ne] at p1
  obtain ⟨hroot, hw⟩ := p1
  by_cases hh : fG s.xs a 3 = fG s.xs b 3
  · rcases hw with hw | hw
    · exact absurd hh (bne_iff_ne.1 hw)
    · rw [Bool.and_eq_true, Bool.not_eq_true'] at hw
      obtain ⟨p, hp1, hp2, hp3⟩ := other hP (hs.h a ha) (key_in ka) hw.2
      by_cases hpa : hasPass (fG s.xs a 5) = true
      · exact ⟨a, b, ha, hb, ka, kb, b1, b2, hroot, .inr ⟨hh, hpa, p, hp1, hp2, by rw [← hh]; exact hp3⟩⟩
      · exact ⟨b, a, hb, ha, kb, ka, b2, b1, hroot.symm, .inr ⟨hh.symm, or_pass hw.1 hpa, p, hp1, hp2, hp3⟩⟩
  · exact ⟨a, b, ha, hb, ka, kb, b1, b2, hroot, .inl hh⟩
theorem passS_fine {s : St} (hs : Good s) {k : Nat} {b h v r u us : Int} (hk : k < s.n) (h1 : (validG h v r u us && isPer b) = true) (hb : passB s.d s.xs k b v r u us = true) (hn : ¬ 128 ≤ s.n) : passS s ((k : Int) + 1) b h v r u us = (⟨s.d, s.n + 1, s.xs ++ [(s.n : Int) + 1, (k : Int) + 1, fG s.xs k 2, h, v, r, u, us, 0], s.m, s.es⟩, (s.n : Int) + 1, 0) := by
  have hi : inB s ((k : Int) + 1) = true := by
    unfold inB
    rw [decide_eq_true (by omega), decide_eq_true (by omega)]
    rfl
  unfold passS
  rw [if_neg (by rw [hi]; decide), if_neg (by rw [h1]; decide), succ_k, if_neg (by rw [hb]; decide), if_neg hn, hs.no k hk, if_neg (by omega)]
theorem pow_bd {v : Int} (h : 0 ≤ v ∧ v ≤ 15) : 1 ≤ 1 * (2 : Int) ^ v.toNat ∧ 1 * (2 : Int) ^ v.toNat ≤ 65535 := by
  have h3 : (2 : Int) ^ v.toNat ≤ 2 ^ 15 := by
    have := Nat.pow_le_pow_right (show 2 > 0 by decide) (show v.toNat ≤ 15 by omega)
    exact_mod_cast this
  have h4 : (0 : Int) < 2 ^ v.toNat := Int.pow_pos (by decide)
  have e : (2 : Int) ^ 15 = 32768 := by decide
  omega
theorem sub_and {v V : Nat} (hV : V < 2 ^ 64) (h : v &&& V = v) : v &&& (2 ^ 64 - 1 - V) = 0 := by
  rw [← h, Nat.and_assoc]
  have : V &&& (2 ^ 64 - 1 - V) = 0 := by
    apply Nat.eq_of_testBit_eq
    intro j
    rw [Nat.testBit_and, show 2 ^ 64 - 1 - V = 2 ^ 64 - (V + 1) by omega, Nat.testBit_two_pow_sub_succ hV, Nat.zero_testBit]
    cases V.testBit j <;> simp
  rw [this, Nat.and_zero]
theorem subI_bit {V v : Int} (hV : 0 ≤ V ∧ V ≤ 65535) (hb : hasV V v = true) : subI (1 * 2 ^ v.toNat) V = true := by
  have e : (1 * (2 : Int) ^ v.toNat).toNat = 2 ^ v.toNat := by
    rw [Int.one_mul, show ((2 : Int) ^ v.toNat) = ((2 ^ v.toNat : Nat) : Int) by push_cast; rfl, Int.toNat_natCast]
  rw [hasV_bit hV.1] at hb
  have h1 : 2 ^ v.toNat &&& V.toNat = 2 ^ v.toNat := by
    apply Nat.eq_of_testBit_eq
    intro j
    rw [Nat.testBit_and, Nat.testBit_two_pow]
    by_cases hj : v.toNat = j
    · subst hj
      rw [hb, Bool.and_true]
    · rw [decide_eq_false hj, Bool.false_and]
  unfold subI
  rw [e, sub_and (by omega) h1]
  rfl
theorem subI_one {r : Int} (hr : 0 ≤ r ∧ r ≤ 3) (ho : hasOpen r = true) : subI 1 r = true := by
  have : r = 0 ∨ r = 1 ∨ r = 2 ∨ r = 3 := by omega
  rcases this with rfl | rfl | rfl | rfl <;> revert ho <;> decide
theorem pass_fits {s : St} (hs : Good s) {P v : Int} {i : Nat} (hi : i < s.n) (ki : keyOk s P i = true) (hp : hasPass (fG s.xs i 5) = true) (hb : hasV (fG s.xs i 4) v = true) : passB s.d s.xs i (fG s.xs i 3) (1 * 2 ^ v.toNat) 1 s.d 1 = true ∧ s.d ≤ 1073741824 := by
  unfold keyOk at ki
  simp only [Bool.and_eq_true, Bool.not_eq_true'] at ki
  obtain ⟨⟨⟨_, st⟩, ho⟩, hz⟩ := ki
  have hd : s.d ≤ fG s.xs i 6 := by
    unfold standsB at st
    simp only [Bool.and_eq_true, decide_eq_true_eq] at st
    exact st.1
  have hu := hs.rng.u i hi
  have ht := hs.t i hi
  have h7 : fG s.xs i 7 ≠ 0 := not_spent hz i (line_self hs hi)
  refine ⟨?_, by omega⟩
  unfold passB wthn
  rw [beq_self_eq_true, st, hp, subI_bit (hs.rng.v i hi) hb, subI_one (hs.rng.r i hi) ho, decide_eq_true hd]
  simp only [Bool.true_and, Bool.or_eq_true, beq_iff_eq, Bool.and_eq_true, decide_eq_true_eq]
  by_cases h : fG s.xs i 7 = -1
  · exact .inl h
  · exact .inr ⟨rfl, by omega⟩
theorem isPer_of {x : Int} (h : 0 ≤ x ∧ x ≤ 15) : isPer x = true := by
  unfold isPer
  rw [if_pos (decide_eq_true h.1), decide_eq_true h.2]
theorem pass_new {s : St} (hs : Good s) {P v p : Int} {i : Nat} (hi : i < s.n) (ki : keyOk s P i = true) (hv : 0 ≤ v ∧ v ≤ 15) (hp : hasPass (fG s.xs i 5) = true) (hb : hasV (fG s.xs i 4) v = true) (h0 : 0 ≤ s.d) (hpp : 0 ≤ p ∧ p ≤ 15) (hn : s.n ≤ 100) :
    passS s ((i : Int) + 1) (fG s.xs i 3) p (1 * 2 ^ v.toNat) 1 s.d 1 = (⟨s.d, s.n + 1, s.xs ++ [(s.n : Int) + 1, (i : Int) + 1, fG s.xs i 2, p, 1 * 2 ^ v.toNat, 1, s.d, 1, 0], s.m, s.es⟩, (s.n : Int) + 1, 0) := by
  obtain ⟨hB, hd⟩ := pass_fits hs hi ki hp hb
  have hw := pow_bd hv
  refine passS_fine hs hi ?_ hB (by omega)
  have hdy : isDy s.d = true := by
    unfold isDy
    rw [if_pos (decide_eq_true h0), decide_eq_true hd]
  unfold validG
  rw [isPer_of hpp, isPer_of (hs.h i hi), hdy, decide_eq_true hw.1, decide_eq_true hw.2]
  rfl
theorem isVt_of {v : Int} (h : 0 ≤ v ∧ v ≤ 15) : isVt v = true := by
  unfold isVt
  rw [if_pos (decide_eq_true h.1), decide_eq_true h.2]
theorem open_now {s : St} {P v : Int} {i c : Nat} (t : Tgt s P v i c) (hv : 0 ≤ v ∧ v ≤ 15) (hh : fG s.xs i 3 ≠ fG s.xs c 3) (hm : s.m < 4096) : (openS s v ((i : Int) + 1) (fG s.xs i 3) ((c : Int) + 1) (fG s.xs c 3)).2 = 0 := by
  unfold openS
  rw [if_neg (by rw [openE_ok (isVt_of hv) t.hi t.hk t.ki t.kk t.bi t.bk t.root hh hm]; decide)]
theorem open_new {s : St} (hs : Good s) {P v p : Int} {i c : Nat} (t : Tgt s P v i c) (hv : 0 ≤ v ∧ v ≤ 15) (hp : p ≠ fG s.xs c 3) (hm : s.m < 4096)
    (hg : Good ⟨s.d, s.n + 1, s.xs ++ [(s.n : Int) + 1, (i : Int) + 1, fG s.xs i 2, p, 1 * 2 ^ v.toNat, 1, s.d, 1, 0], s.m, s.es⟩) :
    (openS ⟨s.d, s.n + 1, s.xs ++ [(s.n : Int) + 1, (i : Int) + 1, fG s.xs i 2, p, 1 * 2 ^ v.toNat, 1, s.d, 1, 0], s.m, s.es⟩ v ((s.n : Int) + 1) p ((c : Int) + 1) (fG s.xs c 3)).2 = 0 := by
  have hx := hs.rng.wf.len
  have k1 := new_key hs t.hi t.ki hv hg
  have hc := t.hk
  have old : ∀ o, o < 9 → fG (s.xs ++ [(s.n : Int) + 1, (i : Int) + 1, fG s.xs i 2, p, 1 * 2 ^ v.toNat, 1, s.d, 1, 0]) c o = fG s.xs c o := fun o ho => app_old hx _ hc ho
  have nw : fG (s.xs ++ [(s.n : Int) + 1, (i : Int) + 1, fG s.xs i 2, p, 1 * 2 ^ v.toNat, 1, s.d, 1, 0]) s.n 2 = fG s.xs i 2 := app_new hx _ 2
  have k2 : keyE s.d (s.n + 1) (s.xs ++ [(s.n : Int) + 1, (i : Int) + 1, fG s.xs i 2, p, 1 * 2 ^ v.toNat, 1, s.d, 1, 0]) v ((c : Int) + 1) (fG s.xs c 3) = 0 := by
    have := keyE_ok (s := ⟨s.d, s.n + 1, s.xs ++ [(s.n : Int) + 1, (i : Int) + 1, fG s.xs i 2, p, 1 * 2 ^ v.toNat, 1, s.d, 1, 0], s.m, s.es⟩) (P := P) (v := v) (i := c) (Nat.lt_succ_of_lt hc) (by rw [keyOk_app hs _ P hc]; exact t.kk) (by show hasV (fG _ c 4) v = true; rw [old 4 (by decide)]; exact t.bk)
    dsimp only at this
    rw [old 3 (by decide)] at this
    exact this
  have hE : openE s.d (s.n + 1) (s.xs ++ [(s.n : Int) + 1, (i : Int) + 1, fG s.xs i 2, p, 1 * 2 ^ v.toNat, 1, s.d, 1, 0]) s.m v ((s.n : Int) + 1) p ((c : Int) + 1) (fG s.xs c 3) = 0 := by
    unfold openE
    rw [if_neg (by rw [isVt_of hv]; decide), if_neg (by rw [k1]; decide), if_neg (by rw [k2]; decide), succ_k, succ_k, if_neg ?_, if_neg (by omega)]
    rw [nw, old 2 (by decide), bne_iff_ne.2 hp, bne_iff_ne.2 t.root]
    decide
  unfold openS
  dsimp only
  rw [if_neg (by rw [hE]; decide)]
theorem openS_bad {s : St} {a f fb t tb : Int} (h : (openS s a f fb t tb).2 ≠ 0) : (openS s a f fb t tb).1 = s := by
  unfold openS at h ⊢
  split
  · rfl
  · rename_i h0
    rw [if_neg h0] at h
    exact absurd rfl h
/- What a group's tries come to. -/
structure TryI (s : St) (P : Int) (M : Nat) (q : Nat × St) : Prop where
  c : q.1 ≤ M
  good : Good q.2
  mo : s.m ≤ q.2.m
  sub : ∀ w, (couldV q.2 P).testBit w = true → (couldV s P).testBit w = true
  ent : ∀ e, s.m ≤ e → e < q.2.m → (0 ≤ q.2.es.getD (e * 4 + 1) 0 ∧ q.2.es.getD (e * 4 + 1) 0 ≤ 15) ∧ (couldV s P).testBit (q.2.es.getD (e * 4 + 1) 0).toNat = true
theorem tryI_0 {s : St} (hs : Good s) (P : Int) (M : Nat) : TryI s P M (0, s) := ⟨Nat.zero_le _, hs, Nat.le_refl _, fun _ h => h, fun e h1 h2 => absurd h2 (by dsimp only; omega)⟩
theorem tryI_same {s : St} {P : Int} {M j : Nat} {s1 : St} (h : TryI s P M (j, s1)) (hj : j < M) : TryI s P M (j + 1, s1) := ⟨hj, h.good, h.mo, h.sub, h.ent⟩
theorem tryI_pass {s : St} {P : Int} (hP : 0 ≤ P) {M j : Nat} {s1 : St} (h : TryI s P M (j, s1)) (hj : j < M) {no b hh v r u us : Int} (hin : inF P b = true) (hih : inF P hh = true) : TryI s P M (j + 1, (passS s1 no b hh v r u us).1) := by
  have hg := passS_good h.good no b hh v r u us
  by_cases h0 : inB s1 no = true
  · obtain ⟨k, rfl, hk⟩ := inB_k h0
    by_cases h1 : (validG hh v r u us && isPer b) = true
    · by_cases h2 : passB s1.d s1.xs k b v r u us = true
      · by_cases h3 : 128 ≤ s1.n
        · have e : passS s1 ((k : Int) + 1) b hh v r u us = (s1, 0, 8) := by
            unfold passS
            rw [if_neg (by rw [h0]; decide), if_neg (by rw [h1]; decide), succ_k, if_neg (by rw [h2]; decide), if_pos h3]
          rw [e]
          exact tryI_same h hj
        · have e := passS_fine h.good hk h1 h2 h3
          rw [e] at hg ⊢
          rw [Bool.and_eq_true] at h1
          obtain ⟨hb1, hb2, hb3, _⟩ := validG_bd h1.1
          exact ⟨hj, hg, h.mo, fun w hw => h.sub w (pass_could h.good hk (in_yes hP hin).1 (in_yes hP hih).1 h2 (by omega) (by omega) hP hb1.1 hg w hw), h.ent⟩
      · have e : passS s1 ((k : Int) + 1) b hh v r u us = (s1, 0, 12) := by
          unfold passS
          rw [if_neg (by rw [h0]; decide), if_neg (by rw [h1]; decide), succ_k, if_pos (by simpa using h2)]
        rw [e]
        exact tryI_same h hj
    · have e : passS s1 ((k : Int) + 1) b hh v r u us = (s1, 0, 2) := by
        unfold passS
        rw [if_neg (by rw [h0]; decide), if_pos (by simpa using h1)]
      rw [e]
      exact tryI_same h hj
  · have e : passS s1 no b hh v r u us = (s1, 0, 6) := by
      unfold passS
      rw [if_pos (by simpa using h0)]
    rw [e]
    exact tryI_same h hj
theorem tryI_open {s : St} {P : Int} (hP : 0 ≤ P) {M j : Nat} {s1 : St} (h : TryI s P M (j, s1)) (hj : j < M) {a f fb t tb : Int} (hf : inF P fb = true) (ht : inF P tb = true) : TryI s P M (j + 1, (openS s1 a f fb t tb).1) := by
  have hg := openS_good h.good a f fb t tb
  by_cases h0 : openE s1.d s1.n s1.xs s1.m a f fb t tb = 0
  · have e : openS s1 a f fb t tb = (⟨s1.d, s1.n, useG (useG s1.xs (f - 1).toNat) (t - 1).toNat, s1.m + 1, s1.es ++ [s1.d, a, f, t]⟩, 0) := by
      unfold openS
      rw [if_neg (by rw [h0]; decide)]
    rw [e] at hg ⊢
    have hbit := open_bit h.good (in_yes hP hf).1 (in_yes hP ht).1 h0
    obtain ⟨hv, h1, h2, _, _, _⟩ := openE_0 h0
    obtain ⟨⟨f1, f2⟩, kf, zf⟩ := keyE_in h1
    obtain ⟨⟨t1, t2⟩, kt, zt⟩ := keyE_in h2
    refine ⟨hj, hg, Nat.le_succ_of_le h.mo, fun w hw => h.sub w (open_could (s := s1) h.good (show (f - 1).toNat < s1.n by omega) (show (t - 1).toNat < s1.n by omega) zf zt w hw), fun e he1 he2 => ?_⟩
    have he2 : e < s1.m + 1 := he2
    rcases Nat.lt_succ_iff_lt_or_eq.1 he2 with hlt | rfl
    · have := h.ent e he1 hlt
      dsimp only at this ⊢
      rw [es_old h.good.len _ hlt (by decide)]
      exact this
    · dsimp only
      rw [es_new h.good.len]
      exact ⟨isVt_bd hv, h.sub _ hbit⟩
  · have e : openS s1 a f fb t tb = (s1, openE s1.d s1.n s1.xs s1.m a f fb t tb) := by
      unfold openS
      rw [if_pos h0]
    rw [e]
    exact tryI_same h hj
end Go.Proofs.Ytlbgkfidpkbafaa
