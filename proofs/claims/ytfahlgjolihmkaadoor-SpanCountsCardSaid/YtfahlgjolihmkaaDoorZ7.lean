/- The library's merge in place, at every length: the step of the induction. -/
import Derived.Test.YtfahlgjolihmkaaDoorZ6
import Derived.Deep.DeepCutAuto
import Derived.Test.YtfahlgjolihmkaaDoorZ3
namespace Go.Proofs.YtfahlgjolihmkaaDoor
open Go.RowKit Go.Sort

theorem CutI.left {kf : Nat → Int} {a m b c i j h : Nat} {d : Nat → Nat} (H : CutI kf a m b c i j d) (hq : ¬ kf (d (c + m - 1 - h)) < kf (d h)) : CutI kf a m b c (h + 1) j d :=
  ⟨fun _ _ => by rw [Nat.add_sub_cancel, show c + m - (h + 1) = c + m - 1 - h by omega]; omega, H.hi⟩
theorem CutI.right {kf : Nat → Int} {a m b c i j h : Nat} {d : Nat → Nat} (H : CutI kf a m b c i j d) (hq : kf (d (c + m - 1 - h)) < kf (d h)) : CutI kf a m b c i h d :=
  ⟨H.lo, fun _ _ => by rw [show c + m - h - 1 = c + m - 1 - h by omega]; exact hq⟩

/-- what is known behind the rotation -/
structure Turned (kf : Nat → Int) (w0 : World) (blk n a m b s E c : Nat) (d : Nat → Nat) (W : World) : Prop where
  runs : TwoRuns kf a m b d
  cut : CutI kf a m b c s s d
  row : Row w0 W blk n (rotF d s m E)
  small : ∀ k, a ≤ k → k < b → rotF d s m E k < n
theorem rot_small {d : Nat → Nat} {a m b s E n : Nat} (h : ∀ k, a ≤ k → k < b → d k < n) (hs : a ≤ s ∧ s ≤ m) (hE : m ≤ E ∧ E ≤ b) : ∀ k, a ≤ k → k < b → rotF d s m E k < n :=
  fun k h1 h2 => ((PermOn.rot d hs.2 hE.1).mono hs.1 hE.2).all (Q := fun v => v < n) (fun j h3 h4 => h j h3 h4) k h1 h2

/-- behind the left half -/
structure Lefted (kf : Nat → Int) (w0 : World) (blk n a m b s E c : Nat) (d d1 : Nat → Nat) (W : World) : Prop where
  row : Row w0 W blk n d1
  perm : PermOn a c (rotF d s m E) d1
  sort : SortedOn kf a c d1
theorem left_none {kf : Nat → Int} {w0 W : World} {blk n a m b s E c : Nat} {d : Nat → Nat} (T : Turned kf w0 blk n a m b s E c d W) (hs : a ≤ s ∧ s ≤ m) (hE : m ≤ E ∧ E ≤ b) (hc : c = s + (E - m)) (h : s ≤ a ∨ c ≤ s) :
    Lefted kf w0 blk n a m b s E c d (rotF d s m E) W := by
  have hh := T.runs.half_left hs hE
  rw [← hc] at hh
  have := half_done hh h ⟨hs.1, by omega⟩
  exact ⟨T.row, this.1, this.2⟩
theorem right_runs {kf : Nat → Int} {w0 W W' : World} {blk n a m b s E c : Nat} {d d1 : Nat → Nat} (T : Turned kf w0 blk n a m b s E c d W) (L : Lefted kf w0 blk n a m b s E c d d1 W') (hs : a ≤ s ∧ s ≤ m) (hE : m ≤ E ∧ E ≤ b) (hc : c = s + (E - m)) :
    TwoRuns kf c E b d1 ∧ ∀ k, c ≤ k → k < b → d1 k < n := by
  have hh := T.runs.half_right hs hE
  rw [← hc] at hh
  have e : ∀ k, c ≤ k → k < b → d1 k = rotF d s m E k := fun k h1 h2 => L.perm.out (.inr h1)
  exact ⟨hh.congr e (by omega), fun k h1 h2 => by rw [e k h1 h2]; exact T.small k (by omega) h2⟩
theorem all_post {kf : Nat → Int} {w0 W W' W'' : World} {blk n a m b s E c : Nat} {d d1 d2 : Nat → Nat} (T : Turned kf w0 blk n a m b s E c d W) (L : Lefted kf w0 blk n a m b s E c d d1 W') (hs : a ≤ s ∧ s ≤ m) (hE : m ≤ E ∧ E ≤ b) (hc : c = s + (E - m))
    (hr : Row w0 W'' blk n d2) (p2 : PermOn c b d1 d2) (s2 : SortedOn kf c b d2) (hN : c + m - s = E) : InsPost w0 blk n kf a b d (.returned (.tuple #[])) W'' := by
  have h := sym_close T.runs hs hE hc (fun h1 h2 => by have := T.cut.lo h1 (by omega); rwa [hN] at this) (fun h1 h2 => by have := T.cut.hi h1 (by omega); rwa [hN] at this) L.perm L.sort p2 s2
  exact ⟨rfl, d2, hr, h.1, h.2⟩
theorem right_none {kf : Nat → Int} {w0 W W' : World} {blk n a m b s E c : Nat} {d d1 : Nat → Nat} (T : Turned kf w0 blk n a m b s E c d W) (L : Lefted kf w0 blk n a m b s E c d d1 W') (hs : a ≤ s ∧ s ≤ m) (hE : m ≤ E ∧ E ≤ b) (hc : c = s + (E - m)) (h : E ≤ c ∨ b ≤ E)
    (hN : c + m - s = E) : InsPost w0 blk n kf a b d (.returned (.tuple #[])) W' := by
  have := half_done (right_runs T L hs hE hc).1 h ⟨by omega, by omega⟩
  exact all_post T L hs hE hc L.row this.1 this.2 hN

set_option maxHeartbeats 8000000 in
set_option maxRecDepth 100000 in
theorem sym_step (g : Nat) (cb : Array Value) (kf : Nat → Int) (w0 : World) (blk n cap len : Nat) (eg : ∀ args w, (callFunc g args).run Tryd.prog w = .ok (.enter g args) w) (hcmp : CmpOn w0 blk n g cb kf) (hn : n ≤ 1000000)
    (ih : SymSaid g cb kf w0 blk n cap len) : SymSaid g cb kf w0 blk n cap (len + 1) := by
  intro a m b d w hlen ham hmb hbn hR hT hdn
  by_cases hm1 : m = a + 1
  · subst hm1
    exact symLeft_any g cb kf w0 w blk n cap a b d eg hcmp hR hn hmb hbn hT hdn
  by_cases hb1 : b = m + 1
  · subst hb1
    exact symRight_any g cb kf w0 w blk n cap a m d eg hcmp hR hn (by omega) hbn hT hdn
  have mixed := mixedOrders
  have HC := hide hcmp
  have HR := hide hR
  have HT := hide hT
  have HN := hide hdn
  have IH := hide ih
  clear hcmp hR hT hdn ih
  obtain ⟨c, hc, hc1, hc2⟩ : ∃ c : Nat, ((a : Int) + (b : Int)) / 2 = (c : Int) ∧ a + 2 ≤ c ∧ c + 2 ≤ b := ⟨(a + b) / 2, by omega, by omega, by omega⟩
  have HCE := hide hc
  obtain ⟨N, hN⟩ : ∃ N : Nat, N = c + m := ⟨_, rfl⟩
  obtain ⟨P, hP⟩ : ∃ P : Nat, N = P + 1 := ⟨N - 1, by omega⟩
  have e0 : (((m : Int) - (a : Int)) == 1) = false := beq_eq_false_iff_ne.2 (by omega)
  have e1 : (((b : Int) - (m : Int)) == 1) = false := beq_eq_false_iff_ne.2 (by omega)
  have e2 : (c : Int) + (m : Int) = (N : Int) := by omega
  have e3 : (N : Int) - 1 = (P : Int) := by omega
  have HNE := hide hN
  have HPE := hide hP
  clear hN hP hm1 hb1
  go_enter Tryd.func88, Tryd.ntmps88
  go_upto_if 140 with fail
  go_cut [20, 21] (fun s20 s21 wx => ∃ i j : Nat, s20 = .int .i64 i ∧ s21 = .int .i64 j ∧ a ≤ i ∧ i ≤ j ∧ j ≤ m ∧ j ≤ c ∧ N ≤ b + i ∧ Hid (CutI kf a m b c i j d) ∧ wx = w)
  case first => as_aux_lemma =>
    have hcut0 : ∀ i j, (i = a ∧ j = m ∨ i = N - b ∧ j = c) → Hid (CutI kf a m b c i j d) := fun i j hij => by
      have := HNE.out
      exact ⟨fun h1 h2 => by omega, fun h1 h2 => by omega⟩
    have HC0 := hide hcut0
    clear hcut0
    by_cases hcm : c < m
    · have e4 : (N : Int) - (b : Int) = ((N - b : Nat) : Int) := by have := HNE.out; omega
      have e5 : (c : Int) < (m : Int) := by omega
      go_wp2_with fail
      go_meet
      have hNE := HNE.out
      exact ⟨N - b, c, rfl, rfl, by omega, by omega, by omega, Nat.le_refl _, by omega, HC0.out _ _ (.inr ⟨rfl, rfl⟩), rfl⟩
    · have e5 : ¬ (c : Int) < (m : Int) := by omega
      go_wp2_with fail
      go_meet
      have hNE := HNE.out
      exact ⟨a, m, rfl, rfl, Nat.le_refl _, by omega, Nat.le_refl _, by omega, by omega, HC0.out _ _ (.inl ⟨rfl, rfl⟩), rfl⟩
  case rest => as_aux_lemma =>
    obtain ⟨i0, j0, rfl, rfl, q1, q2, q3, q4, q5, HI0, rfl⟩ := hcut
    go_wp2
    go_loopw [20, 21] (fun vi vj wr => ∃ i j : Nat, vi = .int .i64 i ∧ vj = .int .i64 j ∧ a ≤ i ∧ i ≤ j ∧ j ≤ m ∧ j ≤ c ∧ N ≤ b + i ∧ Hid (CutI kf a m b c i j d) ∧ Hid (Row w0 wr blk n d)) (fun vi vj _ => (intOf vj - intOf vi).toNat)
    case atStart => exact ⟨i0, j0, rfl, rfl, q1, q2, q3, q4, q5, HI0, HR⟩
    case round =>
      clear q1 q2 q3 q4 q5 HI0
      obtain ⟨i, j, rfl, rfl, hai, hij, hjm, hjc, hNb, HI, R1⟩ := hrel
      by_cases hlt : i < j
      · obtain ⟨h, hh1, hh2, hh⟩ : ∃ h : Nat, i ≤ h ∧ h < j ∧ h = (i + j) / 2 := ⟨(i + j) / 2, by omega, by omega, rfl⟩
        obtain ⟨q, hq⟩ : ∃ q : Nat, P = q + h := ⟨P - h, by have := HNE.out; have := HPE.out; omega⟩
        have hNE := HNE.out
        have hPE := HPE.out
        have he : ((i : Int) + (j : Int)) / 2 = ((h : Nat) : Int) := by omega
        have hqe : (P : Int) - (h : Int) = (q : Int) := by omega
        have hhn : (h : Int) < (n : Int) := by omega
        have hqn : (q : Int) < (n : Int) := by omega
        have hqE : c + m - 1 - h = q := by omega
        have l1 := fun q' os => cell_grown (n := q') (os := os) (a := ⟨blk, h, none⟩) R1.out.ltW (R1.out.cell h (by omega))
        have l2 := fun q' os => cell_grown (n := q') (os := os) (a := ⟨blk, q, none⟩) R1.out.ltW (R1.out.cell q (by omega))
        have EC : Hid (∀ (p : Nat) (os : Array Obj), Calls Tryd.prog g (#[.int .i64 (d q), .int .i64 (d h)] ++ cb) (grow (wr.drewN p) os) fun e w'' => e = .returned (.int .i64 (cmpV (kf (d q)) (kf (d h)))) ∧ ∃ p' : GrownBy, w'' = grow (wr.drewN p'.n) p'.os) := fun p os =>
          gr_call (HC.out _ (d q) (d h) (R1.out.gr (grown_gr wr p os)).grown (HN.out q (by omega) (by omega)) (HN.out h (by omega) (by omega)))
        have HQE := hide hqE
        clear hh hq hNE hPE hqE
        by_cases hlt2 : kf (d q) < kf (d h)
        · as_aux_lemma =>
          have hd2 : decide (cmpV (kf (d q)) (kf (d h)) < 0) = true := decide_eq_true (cmpV_neg.2 hlt2)
          have hI : Hid (CutI kf a m b c i h d) := HI.out.right (by rw [HQE.out]; exact hlt2)
          clear hlt2
          go_wp2_with fail
          refine wp_region_quiet_grown (by assumption) (by kernel_rfl) ?_
          repeat (first | go_big_quiet_step ((exact EC.out _ _)) | quiet_step ((exact EC.out _ _)))
          refine wpQuiet_nil ?_
          intro _ hw'
          obtain ⟨⟨nq, osq⟩, hw''⟩ := hw'
          subst hw''
          have R3 := hide (R1.out.gr (grown_gr wr nq osq))
          clear l1 l2 EC
          go_wp2
          go_roundw
          case rel => exact ⟨i, h, rfl, rfl, hai, hh1, by omega, by omega, hNb, hI, R3⟩
          case measure => simp [intOf]; omega
        · as_aux_lemma =>
          have hd2 : decide (cmpV (kf (d q)) (kf (d h)) < 0) = false := decide_eq_false (fun h => hlt2 (cmpV_neg.1 h))
          have hI : Hid (CutI kf a m b c (h + 1) j d) := HI.out.left (by rw [HQE.out]; exact hlt2)
          clear hlt2
          go_wp2_with fail
          refine wp_region_quiet_grown (by assumption) (by kernel_rfl) ?_
          repeat (first | go_big_quiet_step ((exact EC.out _ _)) | quiet_step ((exact EC.out _ _)))
          refine wpQuiet_nil ?_
          intro _ hw'
          obtain ⟨⟨nq, osq⟩, hw''⟩ := hw'
          subst hw''
          have R3 := hide (R1.out.gr (grown_gr wr nq osq))
          clear l1 l2 EC
          go_wp2
          go_roundw
          case rel => exact ⟨h + 1, j, by go_num, rfl, by omega, by omega, hjm, hjc, by omega, hI, R3⟩
          case measure => simp [intOf]; omega
      · obtain rfl : i = j := by omega
        obtain ⟨E, hE⟩ : ∃ E : Nat, N = E + i := ⟨N - i, by have := HNE.out; omega⟩
        have hNE := HNE.out
        have hEe : (N : Int) - (i : Int) = (E : Int) := by omega
        have hE1 : m ≤ E := by omega
        have hE2 : E ≤ b := by omega
        have hcE : c = i + (E - m) := by omega
        have hNi : c + m - i = E := by omega
        have HCE := hide hcE
        have HNI := hide hNi
        have HS := hide (rot_small HN.out ⟨hai, hjm⟩ ⟨hE1, hE2⟩)
        have hii : decide ((i : Int) < (i : Int)) = false := by simp
        clear hNE hE hcE hNi
        go_upto_region 39 with fail
        go_cut [24, 185] (fun s24 s185 wx => s24 = .int .i64 E ∧ (∃ β : Bool, s185 = .bool β ∧ Hid (β = true ↔ (i < m ∧ m < E))) ∧ wx = wr)
        case first => as_aux_lemma =>
          by_cases h1 : i < m
          · have h1' : decide ((i : Int) < (m : Int)) = true := decide_eq_true (by omega)
            have h1'' : (i : Int) < (m : Int) := by omega
            by_cases h2 : m < E
            · have h2' : decide ((m : Int) < (E : Int)) = true := decide_eq_true (by omega)
              have h2'' : (m : Int) < (E : Int) := by omega
              go_wp2_with fail
              go_meet
              exact ⟨rfl, ⟨true, rfl, ⟨fun _ => ⟨h1, h2⟩, fun _ => rfl⟩⟩, rfl⟩
            · have h2' : decide ((m : Int) < (E : Int)) = false := decide_eq_false (by omega)
              have h2'' : ¬ (m : Int) < (E : Int) := by omega
              go_wp2_with fail
              go_meet
              exact ⟨rfl, ⟨false, rfl, ⟨fun h => (by cases h), fun h => absurd h.2 h2⟩⟩, rfl⟩
          · have h1' : decide ((i : Int) < (m : Int)) = false := decide_eq_false (by omega)
            have h1'' : ¬ (i : Int) < (m : Int) := by omega
            go_wp2_with fail
            go_meet
            exact ⟨rfl, ⟨false, rfl, ⟨fun h => (by cases h), fun h => absurd h.1 h1⟩⟩, rfl⟩
        case rest => as_aux_lemma =>
          obtain ⟨rfl, ⟨β, rfl, HB⟩, rfl⟩ := hcut
          go_upto_if 185 with fail
          go_cut [24] (fun s24 wx => s24 = .int .i64 E ∧ Hid (Turned kf w0 blk n a m b i E c d wx))
          case first => as_aux_lemma =>
            cases β
            · have R5 : Hid (Row w0 wc blk n (rotF d i m E)) := by
                have hh := HB.out
                show Row w0 wc blk n _
                rw [rot_triv d (by simp at hh; omega) hjm hE1]
                exact R1.out
              go_wp2_with fail
              go_meet
              exact ⟨rfl, HT.out, HI.out, R5.out, HS.out⟩
            · have hh := HB.out.1 rfl
              have HRO := hide (rotate_any (.func (.func g) #[] cb) w0 wc blk n cap i m E d R1.out hn hh.1 hh.2 (by omega))
              clear hh
              go_wp2_with fail
              refine HRO.out.mono ?_
              rintro e w2 ⟨rfl, h3⟩
              have R5 := hide h3
              clear h3
              go_wp2_with fail
              go_meet
              exact ⟨rfl, HT.out, HI.out, R5.out, HS.out⟩
          case rest => as_aux_lemma =>
            obtain ⟨rfl, HT2⟩ := hcut
            clear HS R1 HI HB
            go_upto_region 41 with fail
            go_cut [24, 199] (fun s24 s199 wx => s24 = .int .i64 E ∧ (∃ β : Bool, s199 = .bool β ∧ Hid (β = true ↔ (a < i ∧ i < c))) ∧ wx = wc)
            case first => as_aux_lemma =>
              by_cases h1 : a < i
              · have h1' : decide ((a : Int) < (i : Int)) = true := decide_eq_true (by omega)
                have h1'' : (a : Int) < (i : Int) := by omega
                by_cases h2 : i < c
                · have h2' : decide ((i : Int) < (c : Int)) = true := decide_eq_true (by omega)
                  have h2'' : (i : Int) < (c : Int) := by omega
                  go_wp2_with fail
                  go_meet
                  exact ⟨rfl, ⟨true, rfl, ⟨fun _ => ⟨h1, h2⟩, fun _ => rfl⟩⟩, rfl⟩
                · have h2' : decide ((i : Int) < (c : Int)) = false := decide_eq_false (by omega)
                  have h2'' : ¬ (i : Int) < (c : Int) := by omega
                  go_wp2_with fail
                  go_meet
                  exact ⟨rfl, ⟨false, rfl, ⟨fun h => (by cases h), fun h => absurd h.2 h2⟩⟩, rfl⟩
              · have h1' : decide ((a : Int) < (i : Int)) = false := decide_eq_false (by omega)
                have h1'' : ¬ (a : Int) < (i : Int) := by omega
                go_wp2_with fail
                go_meet
                exact ⟨rfl, ⟨false, rfl, ⟨fun h => (by cases h), fun h => absurd h.1 h1⟩⟩, rfl⟩
            case rest => as_aux_lemma =>
              obtain ⟨rfl, ⟨β, rfl, HB⟩, rfl⟩ := hcut
              go_upto_if 199 with fail
              go_cut [24] (fun s24 wx => s24 = .int .i64 E ∧ Hid (∃ d1, Lefted kf w0 blk n a m b i E c d d1 wx))
              case first => as_aux_lemma =>
                cases β
                · have HL : Hid (Lefted kf w0 blk n a m b i E c d (rotF d i m E) wc) := by
                    have hh := HB.out
                    exact left_none HT2.out ⟨hai, hjm⟩ ⟨hE1, hE2⟩ HCE.out (by simp at hh; omega)
                  go_wp2_with fail
                  go_meet
                  exact ⟨rfl, _, HL.out⟩
                · have hh := HB.out.1 rfl
                  have HLC := hide (IH.out a i c (rotF d i m E) wc (by omega) hh.1 hh.2 (by omega) HT2.out.row (by have := HT2.out.runs.half_left ⟨hai, hjm⟩ ⟨hE1, hE2⟩; rwa [← HCE.out] at this) (fun k k1 k2 => HT2.out.small k k1 (by omega)))
                  clear hh
                  go_wp2_with fail
                  refine HLC.out.mono ?_
                  rintro e w2 ⟨rfl, d1, r1, r2, r3⟩
                  have HL : Hid (Lefted kf w0 blk n a m b i E c d d1 w2) := ⟨r1, r2, r3⟩
                  clear r1 r2 r3
                  go_wp2_with fail
                  go_meet
                  exact ⟨rfl, _, HL.out⟩
              case rest => as_aux_lemma =>
                obtain ⟨rfl, HL2⟩ := hcut
                clear HB
                by_cases h1 : c < E ∧ E < b
                · have h1' : decide ((c : Int) < (E : Int)) = true := decide_eq_true (by omega)
                  have h2' : decide ((E : Int) < (b : Int)) = true := decide_eq_true (by omega)
                  have h1'' : (c : Int) < (E : Int) := by omega
                  have h2'' : (E : Int) < (b : Int) := by omega
                  go_wp2_with fail
                  obtain ⟨d1, L⟩ := HL2.out
                  have hr := right_runs HT2.out L ⟨hai, hjm⟩ ⟨hE1, hE2⟩ HCE.out
                  refine (IH.out c E b d1 wc (by omega) h1.1 h1.2 (by omega) L.row hr.1 hr.2).mono ?_
                  rintro e w2 ⟨rfl, d2, r1, r2, r3⟩
                  have HF := hide (all_post HT2.out L ⟨hai, hjm⟩ ⟨hE1, hE2⟩ HCE.out r1 r2 r3 HNI.out)
                  clear r1 r2 r3 L hr
                  go_wp2
                  go_end0
                  exact HF.out
                · have HF : Hid (InsPost w0 blk n kf a b d (.returned (.tuple #[])) wc) := by
                    obtain ⟨d1, L⟩ := HL2.out
                    exact right_none HT2.out L ⟨hai, hjm⟩ ⟨hE1, hE2⟩ HCE.out (by omega) HNI.out
                  by_cases h2 : c < E
                  · have h1' : decide ((c : Int) < (E : Int)) = true := decide_eq_true (by omega)
                    have h2' : decide ((E : Int) < (b : Int)) = false := decide_eq_false (by omega)
                    have h1'' : (c : Int) < (E : Int) := by omega
                    have h2'' : ¬ (E : Int) < (b : Int) := by omega
                    go_wp2
                    go_end0
                    exact HF.out
                  · have h1' : decide ((c : Int) < (E : Int)) = false := decide_eq_false (by omega)
                    have h1'' : ¬ (c : Int) < (E : Int) := by omega
                    go_wp2
                    go_end0
                    exact HF.out

theorem sym_any (g : Nat) (cb : Array Value) (kf : Nat → Int) (w0 : World) (blk n cap : Nat) (eg : ∀ args w, (callFunc g args).run Tryd.prog w = .ok (.enter g args) w) (hcmp : CmpOn w0 blk n g cb kf) (hn : n ≤ 1000000) (len : Nat) :
    SymSaid g cb kf w0 blk n cap len := by
  induction len with
  | zero => intro a m b d w h1 h2 h3; omega
  | succ len ih => exact sym_step g cb kf w0 blk n cap len eg hcmp hn ih

end Go.Proofs.YtfahlgjolihmkaaDoor
/- The mathematics of the library's stable sort: groups, sorted within, that are merged two by two. -/
namespace Go.Proofs.YtfahlgjolihmkaaDoor
open Go.RowKit Go.Sort

/-- between k and k' begins a group -/
def Cut (B : Nat → Prop) (k k' : Nat) : Prop := ∃ c, B c ∧ k < c ∧ c ≤ k'
/-- groups, each sorted, an earlier one's indexes below a later one's -/
structure Grp (kf : Nat → Int) (B : Nat → Prop) (n : Nat) (d : Nat → Nat) : Prop where
  low : ∀ k k', k < k' → k' < n → Cut B k k' → d k < d k'
  sort : ∀ k k', k < k' → k' < n → ¬ Cut B k k' → lexL kf (d k) (d k')
  perm : PermOn 0 n (fun k => k) d

theorem Grp.merge {kf : Nat → Int} {B B' : Nat → Prop} {n a b : Nat} {d d' : Nat → Nat} (h : Grp kf B n d) (hb : b ≤ n) (hp : PermOn a b d d') (hs : SortedOn kf a b d') (ha : B' a) (hb' : B' b ∨ n ≤ b)
    (h1 : ∀ c, B' c → B c) (h2 : ∀ c, B c → ¬ (a < c ∧ c < b) → B' c) (h3 : ∀ c, B' c → ¬ (a < c ∧ c < b)) : Grp kf B' n d' := by
  obtain ⟨s, q1, q2, q3, q4⟩ := hp
  refine ⟨fun k k' hk hk' hc => ?_, fun k k' hk hk' hc => ?_, h.perm.trans (PermOn.mono ⟨s, q1, q2, q3, q4⟩ (Nat.zero_le _) hb)⟩
  · obtain ⟨c, c1, c2, c3⟩ := hc
    have c4 := h3 c c1
    have lo : ∀ j, j < c → ∃ i, i < c ∧ d' j = d i := fun j hj => by
      by_cases hin : a ≤ j ∧ j < b
      · have := q1 j hin.1 hin.2
        exact ⟨s j, by omega, q3 j hin.1 hin.2⟩
      · exact ⟨j, hj, q4 j (by omega)⟩
    have up : ∀ j, c ≤ j → j < n → ∃ i, c ≤ i ∧ i < n ∧ d' j = d i := fun j hj hj2 => by
      by_cases hin : a ≤ j ∧ j < b
      · have := q1 j hin.1 hin.2
        exact ⟨s j, by omega, by omega, q3 j hin.1 hin.2⟩
      · exact ⟨j, hj, hj2, q4 j (by omega)⟩
    obtain ⟨i, i1, i2⟩ := lo k c2
    obtain ⟨i', i3, i4, i5⟩ := up k' c3 hk'
    rw [i2, i5]
    exact h.low i i' (by omega) i4 ⟨c, h1 c c1, i1, i3⟩
  · have hka : ¬ (k < a ∧ a ≤ k') := fun hh => hc ⟨a, ha, hh.1, hh.2⟩
    have hkb : ¬ (k < b ∧ b ≤ k') := fun hh => by
      rcases hb' with e | e
      · exact hc ⟨b, e, hh.1, hh.2⟩
      · omega
    by_cases hin : a ≤ k ∧ k' < b
    · exact hs k k' hin.1 hk hin.2
    · rw [q4 k (by omega), q4 k' (by omega)]
      refine h.sort k k' hk hk' fun ⟨c, c1, c2, c3⟩ => hc ⟨c, h2 c c1 (by omega), c2, c3⟩

theorem Grp.start (kf : Nat → Int) (n : Nat) : Grp kf (fun _ => True) n (fun k => k) :=
  ⟨fun _ _ h _ _ => h, fun _ k' h _ hc => absurd ⟨k', trivial, h, Nat.le_refl _⟩ hc, PermOn.refl _ _ _⟩
theorem Grp.congr {kf : Nat → Int} {B B' : Nat → Prop} {n : Nat} {d : Nat → Nat} (h : Grp kf B n d) (e : ∀ c, 0 < c → c < n → (B c ↔ B' c)) : Grp kf B' n d := by
  have hc : ∀ k k', k' < n → (Cut B k k' ↔ Cut B' k k') := fun k k' hk => by
    constructor
    · rintro ⟨c, c1, c2, c3⟩; exact ⟨c, (e c (by omega) (by omega)).1 c1, c2, c3⟩
    · rintro ⟨c, c1, c2, c3⟩; exact ⟨c, (e c (by omega) (by omega)).2 c1, c2, c3⟩
  exact ⟨fun k k' h1 h2 h3 => h.low k k' h1 h2 ((hc k k' h2).2 h3), fun k k' h1 h2 h3 => h.sort k k' h1 h2 fun h4 => h3 ((hc k k' h2).1 h4), h.perm⟩
theorem Grp.fin {kf : Nat → Int} {B : Nat → Prop} {n : Nat} {d : Nat → Nat} (h : Grp kf B n d) (e : ∀ c, 0 < c → c < n → ¬ B c) : PermOn 0 n (fun k => k) d ∧ SortedOn kf 0 n d :=
  ⟨h.perm, fun k k' _ h2 h3 => h.sort k k' h2 h3 fun ⟨c, c1, c2, c3⟩ => e c (by omega) (by omega) c1⟩
theorem Grp.small {kf : Nat → Int} {B : Nat → Prop} {n : Nat} {d : Nat → Nat} (h : Grp kf B n d) : ∀ k, k < n → d k < n := fun k hk =>
  h.perm.all (Q := fun v => v < n) (fun _ _ hj => hj) k (Nat.zero_le _) hk
theorem Grp.runs {kf : Nat → Int} {B : Nat → Prop} {n a m b : Nat} {d : Nat → Nat} (h : Grp kf B n d) (hm : a ≤ m ∧ m ≤ b) (hb : b ≤ n) (h1 : B m) (h2 : ∀ c, B c → ¬ (a < c ∧ c < m)) (h3 : ∀ c, B c → ¬ (m < c ∧ c < b)) : TwoRuns kf a m b d :=
  ⟨fun k k' g1 g2 g3 => h.sort k k' g2 (by omega) fun ⟨c, c1, c2, c3⟩ => h2 c c1 (by omega),
   fun k k' g1 g2 g3 => h.sort k k' g2 (by omega) fun ⟨c, c1, c2, c3⟩ => h3 c c1 (by omega),
   fun k k' g1 g2 g3 g4 => h.low k k' (by omega) (by omega) ⟨m, h1, g2, g3⟩⟩
/-- where each element is a group of its own the indexes ascend -/
theorem Grp.ups {kf : Nat → Int} {B : Nat → Prop} {n a b : Nat} {d : Nat → Nat} (h : Grp kf B n d) (hb : b ≤ n) (h1 : ∀ c, a < c → c < b → B c) : ∀ k k', a ≤ k → k < k' → k' < b → d k < d k' :=
  fun k k' g1 g2 g3 => h.low k k' g2 (by omega) ⟨k', h1 k' (by omega) g3, g2, Nat.le_refl _⟩

/-- below a groups of s, from a on groups of one -/
def B1 (s a : Nat) (c : Nat) : Prop := (c ≤ a ∧ s ∣ c) ∨ a ≤ c
/-- below a groups of two s, from a on groups of s -/
def B2 (s a : Nat) (c : Nat) : Prop := (c ≤ a ∧ 2 * s ∣ c) ∨ (a ≤ c ∧ s ∣ c)

theorem b1_step {kf : Nat → Int} {s t n : Nat} {d d' : Nat → Nat} (h : Grp kf (B1 s (s * t)) n d) (hs : 0 < s) (hb : s * t + s ≤ n) (hp : PermOn (s * t) (s * t + s) d d') (hS : SortedOn kf (s * t) (s * t + s) d') : Grp kf (B1 s (s * (t + 1))) n d' := by
  have e : s * (t + 1) = s * t + s := Nat.mul_succ s t
  refine h.merge hb hp hS (.inl ⟨by omega, Nat.dvd_mul_right _ _⟩) (.inl (.inl ⟨by omega, ⟨t + 1, e.symm⟩⟩)) (fun c hc => ?_) (fun c hc h3 => ?_) (fun c hc => ?_)
  · rcases hc with ⟨c1, c2⟩ | c1
    · by_cases h4 : c ≤ s * t
      · exact .inl ⟨h4, c2⟩
      · exact .inr (by omega)
    · exact .inr (by omega)
  · rcases hc with ⟨c1, c2⟩ | c1
    · exact .inl ⟨by omega, c2⟩
    · by_cases h4 : c = s * t
      · exact .inl ⟨by omega, by rw [h4]; exact Nat.dvd_mul_right _ _⟩
      · exact .inr (by omega)
  · rintro ⟨c1, c2⟩
    rcases hc with ⟨_, q, hq⟩ | c3
    · rw [hq] at c1 c2
      have h5 : s * t < s * q := c1
      have h6 : s * q < s * (t + 1) := by omega
      have h7 := Nat.lt_of_mul_lt_mul_left h5
      have h8 := Nat.lt_of_mul_lt_mul_left h6
      omega
    · omega
theorem b1_last {kf : Nat → Int} {s t n : Nat} {d d' : Nat → Nat} (h : Grp kf (B1 s (s * t)) n d) (_ : 0 < s) (hb : n < s * t + s) (ha : s * t ≤ n) (hp : PermOn (s * t) n d d') (hS : SortedOn kf (s * t) n d') : Grp kf (fun c => s ∣ c) n d' := by
  refine (h.merge (B' := fun c => (c ≤ s * t ∧ s ∣ c) ∨ n ≤ c) (Nat.le_refl _) hp hS (.inl ⟨Nat.le_refl _, Nat.dvd_mul_right _ _⟩) (.inr (Nat.le_refl _)) (fun c hc => ?_) (fun c hc h3 => ?_) (fun c hc => ?_)).congr fun c c1 c2 => ?_
  · rcases hc with hc | hc
    · exact .inl hc
    · exact .inr (by omega)
  · rcases hc with hc | hc
    · exact .inl hc
    · by_cases h4 : c = s * t
      · exact .inl ⟨by omega, by rw [h4]; exact Nat.dvd_mul_right _ _⟩
      · exact .inr (by omega)
  · rintro ⟨c1, c2⟩
    rcases hc with ⟨h4, _⟩ | h4 <;> omega
  · constructor
    · rintro (⟨_, h4⟩ | h4)
      · exact h4
      · omega
    · intro h4
      obtain ⟨q, hq⟩ := h4
      by_cases h5 : c ≤ s * t
      · exact .inl ⟨h5, q, hq⟩
      · exfalso
        have h6 : s * t < s * q := by omega
        have h7 : s * q < s * (t + 1) := by rw [Nat.mul_succ]; omega
        have := Nat.lt_of_mul_lt_mul_left h6
        have := Nat.lt_of_mul_lt_mul_left h7
        omega
theorem b2_start {kf : Nat → Int} {s n : Nat} {d : Nat → Nat} (h : Grp kf (fun c => s ∣ c) n d) : Grp kf (B2 s 0) n d :=
  h.congr fun c c1 _ => ⟨fun h => .inr ⟨Nat.zero_le _, h⟩, fun h => by rcases h with ⟨h1, _⟩ | ⟨_, h1⟩; omega; exact h1⟩
theorem dvd_between {s q c : Nat} (h : s ∣ c) (h1 : s * q < c) (h2 : c < s * (q + 1)) : False := by
  obtain ⟨t, rfl⟩ := h
  have := Nat.lt_of_mul_lt_mul_left h1
  have := Nat.lt_of_mul_lt_mul_left h2
  omega
theorem two_dvd {s c : Nat} (h : 2 * s ∣ c) : s ∣ c := Nat.dvd_trans ⟨2, by omega⟩ h
theorem b2_runs {kf : Nat → Int} {s t n b : Nat} {d : Nat → Nat} (h : Grp kf (B2 s (2 * s * t)) n d) (hs : 0 < s) (h1 : 2 * s * t + s ≤ b) (h2 : b ≤ 2 * s * t + 2 * s) (hb : b ≤ n) : TwoRuns kf (2 * s * t) (2 * s * t + s) b d := by
  have e0 : 2 * s * t = s * (2 * t) := by rw [Nat.mul_comm 2 s, Nat.mul_assoc]
  have e1 : s * (2 * t + 1) = s * (2 * t) + s := Nat.mul_succ _ _
  have e2 : s * (2 * t + 1 + 1) = s * (2 * t + 1) + s := Nat.mul_succ _ _
  have hd : ∀ c, B2 s (2 * s * t) c → s ∣ c := fun c hc => by
    rcases hc with ⟨_, hc⟩ | ⟨_, hc⟩
    · exact two_dvd hc
    · exact hc
  refine h.runs ⟨by omega, h1⟩ hb (.inr ⟨by omega, ⟨2 * t + 1, by omega⟩⟩) (fun c hc hh => ?_) (fun c hc hh => ?_)
  · exact dvd_between (q := 2 * t) (hd c hc) (by omega) (by omega)
  · exact dvd_between (q := 2 * t + 1) (hd c hc) (by omega) (by omega)
theorem b2_step {kf : Nat → Int} {s t n : Nat} {d d' : Nat → Nat} (h : Grp kf (B2 s (2 * s * t)) n d) (hs : 0 < s) (hb : 2 * s * t + 2 * s ≤ n) (hp : PermOn (2 * s * t) (2 * s * t + 2 * s) d d') (hS : SortedOn kf (2 * s * t) (2 * s * t + 2 * s) d') : Grp kf (B2 s (2 * s * (t + 1))) n d' := by
  have e : 2 * s * (t + 1) = 2 * s * t + 2 * s := Nat.mul_succ _ _
  refine h.merge hb hp hS (.inl ⟨by omega, Nat.dvd_mul_right _ _⟩) (.inl (.inl ⟨by omega, ⟨t + 1, e.symm⟩⟩)) (fun c hc => ?_) (fun c hc h3 => ?_) (fun c hc => ?_)
  · rcases hc with ⟨c1, c2⟩ | ⟨c1, c2⟩
    · by_cases h4 : c ≤ 2 * s * t
      · exact .inl ⟨h4, c2⟩
      · exact .inr ⟨by omega, two_dvd c2⟩
    · exact .inr ⟨by omega, c2⟩
  · rcases hc with ⟨c1, c2⟩ | ⟨c1, c2⟩
    · exact .inl ⟨by omega, c2⟩
    · by_cases h4 : c = 2 * s * t
      · exact .inl ⟨by omega, by rw [h4]; exact Nat.dvd_mul_right _ _⟩
      · exact .inr ⟨by omega, c2⟩
  · rintro ⟨c1, c2⟩
    rcases hc with ⟨_, h4⟩ | ⟨h4, _⟩
    · exact dvd_between (q := t) h4 c1 (by omega)
    · omega
theorem b2_last {kf : Nat → Int} {s t n : Nat} {d d' : Nat → Nat} (h : Grp kf (B2 s (2 * s * t)) n d) (_ : 0 < s) (hb : n < 2 * s * t + 2 * s) (ha : 2 * s * t ≤ n) (hp : PermOn (2 * s * t) n d d') (hS : SortedOn kf (2 * s * t) n d') : Grp kf (fun c => 2 * s ∣ c) n d' := by
  have e : 2 * s * (t + 1) = 2 * s * t + 2 * s := Nat.mul_succ _ _
  refine (h.merge (B' := fun c => (c ≤ 2 * s * t ∧ 2 * s ∣ c) ∨ (n ≤ c ∧ s ∣ c)) (Nat.le_refl _) hp hS (.inl ⟨Nat.le_refl _, Nat.dvd_mul_right _ _⟩) (.inr (Nat.le_refl _)) (fun c hc => ?_) (fun c hc h3 => ?_) (fun c hc => ?_)).congr fun c c1 c2 => ?_
  · rcases hc with hc | ⟨hc, hc2⟩
    · exact .inl hc
    · exact .inr ⟨by omega, hc2⟩
  · rcases hc with hc | ⟨hc, hc2⟩
    · exact .inl hc
    · by_cases h4 : c = 2 * s * t
      · exact .inl ⟨by omega, by rw [h4]; exact Nat.dvd_mul_right _ _⟩
      · exact .inr ⟨by omega, hc2⟩
  · rintro ⟨c1, c2⟩
    rcases hc with ⟨h4, _⟩ | ⟨h4, _⟩ <;> omega
  · constructor
    · rintro (⟨_, h4⟩ | ⟨h4, _⟩)
      · exact h4
      · omega
    · intro h4
      by_cases h5 : c ≤ 2 * s * t
      · exact .inl ⟨h5, h4⟩
      · exact (dvd_between (q := t) h4 (by omega) (by omega)).elim
/-- nothing is left to merge: from a on there is one group -/
theorem b2_alone {kf : Nat → Int} {s t n : Nat} {d : Nat → Nat} (h : Grp kf (B2 s (2 * s * t)) n d) (_ : 0 < s) (hb : n ≤ 2 * s * t + s) (_ : 2 * s * t ≤ n) : Grp kf (fun c => 2 * s ∣ c) n d := by
  have e0 : 2 * s * t = s * (2 * t) := by rw [Nat.mul_comm 2 s, Nat.mul_assoc]
  have e1 : s * (2 * t + 1) = s * (2 * t) + s := Nat.mul_succ _ _
  have e : 2 * s * (t + 1) = 2 * s * t + 2 * s := Nat.mul_succ _ _
  refine h.congr fun c c1 c2 => ⟨fun hc => ?_, fun hc => ?_⟩
  · rcases hc with ⟨_, hc⟩ | ⟨h3, hc⟩
    · exact hc
    · by_cases h4 : c = 2 * s * t
      · rw [h4]; exact Nat.dvd_mul_right _ _
      · exact (dvd_between (q := 2 * t) hc (by omega) (by omega)).elim
  · by_cases h5 : c ≤ 2 * s * t
    · exact .inl ⟨h5, hc⟩
    · exact (dvd_between (q := t) hc (by omega) (by omega)).elim

end Go.Proofs.YtfahlgjolihmkaaDoor
/- The library's stable sort, at up to 1000000 indexes. -/
namespace Go.Proofs.YtfahlgjolihmkaaDoor
open Go.RowKit Go.Sort

theorem dvd_none {s c n : Nat} (h : s ∣ c) (h0 : 0 < c) (h1 : c < n) (h2 : n ≤ s) : False := by
  have := Nat.le_of_dvd h0 h
  omega

set_option maxHeartbeats 4000000 in
set_option maxRecDepth 100000 in
theorem stable_any (n : Nat) (hn : n ≤ 100000) : StableSaid n := by
  intro g cb kf w0 w blk cap eg hcmp hR
  have mixed := mixedOrders
  have HC := hide hcmp
  have HR := hide hR
  have HSYM := hide (sym_any g cb kf w0 blk n cap eg hcmp (by omega) n)
  clear hcmp hR
  go_enter Tryd.func65, Tryd.ntmps65
  go_wp2
  go_loopw [7, 8] (fun va vb wr => ∃ (A B t : Nat) (d : Nat → Nat), va = .int .i64 A ∧ vb = .int .i64 B ∧ A ≤ n ∧ Hid (A = 20 * t ∧ B = A + 20) ∧ Hid (Row w0 wr blk n d) ∧ Hid (Grp kf (B1 20 A) n d)) (fun va _ _ => n - (intOf va).toNat)
  case atStart => exact ⟨0, 20, 0, _, rfl, rfl, Nat.zero_le _, ⟨rfl, rfl⟩, HR, (Grp.start kf n).congr fun c _ _ => ⟨fun _ => .inr (by omega), fun _ => trivial⟩⟩
  case round =>
    obtain ⟨A, B, t, d, rfl, rfl, hAn, HE, R1, G1⟩ := hrel
    by_cases hlt : B ≤ n
    · have hE := HE.out
      have HI := hide (insertion_any g cb kf w0 wr blk n cap A B d eg HC.out R1.out (by omega) (by omega) hlt (G1.out.ups hlt fun c h1 h2 => .inr (by omega)) (fun k _ h => G1.out.small k (by omega)))
      have hlt' : (B : Int) ≤ (n : Int) := by omega
      obtain ⟨C, hC⟩ : ∃ C : Nat, C = B + 20 := ⟨_, rfl⟩
      have e1 : (B : Int) + 20 = (C : Int) := by omega
      have HCE := hide hC
      have HAB := hide (show A < B by omega)
      clear hE hC
      go_wp2_with fail
      refine HI.out.mono ?_
      rintro e w2 ⟨rfl, d', r1, r2, r3⟩
      have R2 := hide r1
      have G2 : Hid (Grp kf (B1 20 B) n d') := by
        obtain ⟨rfl, rfl⟩ := HE.out
        have := b1_step G1.out (by omega) hlt r2 r3
        rwa [Nat.mul_succ] at this
      have HE2 : Hid (B = 20 * (t + 1) ∧ C = B + 20) := ⟨by have := HE.out; omega, HCE.out⟩
      clear r1 r2 r3 HI
      go_wp2
      go_roundw
      case rel => exact ⟨B, C, t + 1, d', rfl, rfl, hlt, HE2, R2, G2⟩
      case measure => have := HAB.out; simp [intOf]; omega
    · have hlt' : ¬ (B : Int) ≤ (n : Int) := by omega
      have HI := hide (insertion_any g cb kf w0 wr blk n cap A n d eg HC.out R1.out (by omega) hAn (Nat.le_refl _) (G1.out.ups (Nat.le_refl _) fun c h1 h2 => .inr (by omega)) (fun k _ h => G1.out.small k h))
      go_wp2_with fail
      refine HI.out.mono ?_
      rintro e w2 ⟨rfl, d', r1, r2, r3⟩
      have R2 := hide r1
      have G2 : Hid (Grp kf (fun c => 20 ∣ c) n d') := by
        obtain ⟨rfl, rfl⟩ := HE.out
        exact b1_last G1.out (by omega) (by omega) hAn r2 r3
      clear r1 r2 r3 HI R1 G1 hlt hlt' HE hAn HR
      go_wp2_with fail
      go_loopw [6] (fun vs wr => ∃ (s : Nat) (d : Nat → Nat), vs = .int .i64 s ∧ 20 ≤ s ∧ s ≤ 2 * n + 20 ∧ Hid (Row w0 wr blk n d) ∧ Hid (Grp kf (fun c => s ∣ c) n d)) (fun vs _ => n - (intOf vs).toNat)
      case atStart => exact ⟨20, d', rfl, Nat.le_refl _, by omega, R2, G2⟩
      case round =>
        clear R2 G2
        obtain ⟨s, d, rfl, hs1, hs2, R1, G1⟩ := hrel
        by_cases hsn : s < n
        · have hsn' : (s : Int) < (n : Int) := by omega
          obtain ⟨T, hT⟩ : ∃ T : Nat, T = 2 * s := ⟨_, rfl⟩
          have eT : 2 * (s : Int) = (T : Int) := by omega
          have eT2 : (s : Int) * 2 = (T : Int) := by omega
          have HTE := hide hT
          have G2 : Hid (Grp kf (B2 s 0) n d) := b2_start G1.out
          clear hT G1
          obtain ⟨wo, hwo⟩ : ∃ wo : World, wo = wr := ⟨_, rfl⟩
          subst hwo
          go_wp2
          go_loopw [7, 8] (fun va vb wr => ∃ (A B t : Nat) (d : Nat → Nat), va = .int .i64 A ∧ vb = .int .i64 B ∧ A ≤ n ∧ Hid (A = 2 * s * t ∧ B = A + 2 * s) ∧ Hid (Row w0 wr blk n d) ∧ Hid (Grp kf (B2 s A) n d)) (fun va _ _ => n - (intOf va).toNat)
          case atStart => exact ⟨0, T, 0, d, rfl, rfl, Nat.zero_le _, ⟨rfl, by have := HTE.out; omega⟩, R1, G2⟩
          case round =>
            clear R1 G2
            obtain ⟨A, B, t, d, rfl, rfl, hAn, HE, R1, G1⟩ := hrel
            have hE := HE.out
            have hTE := HTE.out
            obtain ⟨M, hM⟩ : ∃ M : Nat, M = A + s := ⟨_, rfl⟩
            have eM : (A : Int) + (s : Int) = (M : Int) := by omega
            by_cases hlt : B ≤ n
            · have hlt' : (B : Int) ≤ (n : Int) := by omega
              obtain ⟨B', hB'⟩ : ∃ B' : Nat, B' = B + T := ⟨_, rfl⟩
              have eB : (B : Int) + (T : Int) = (B' : Int) := by omega
              have HRUN : Hid (TwoRuns kf A M B d) := by
                obtain ⟨rfl, rfl⟩ := HE.out
                subst hM
                exact b2_runs G1.out (by omega) (by omega) (by omega) hlt
              have HSY := hide (HSYM.out A M B d wr (by omega) (by omega) (by omega) hlt R1.out HRUN.out (fun k _ h => G1.out.small k (by omega)))
              have HAB := hide (show A < B by omega)
              have HB' := hide hB'
              clear hE hTE hM hB'
              go_wp2_with fail
              refine HSY.out.mono ?_
              rintro e w2 ⟨rfl, d', r1, r2, r3⟩
              have R2 := hide r1
              have G2 : Hid (Grp kf (B2 s B) n d') := by
                obtain ⟨rfl, rfl⟩ := HE.out
                have := b2_step G1.out (by omega) hlt r2 r3
                rwa [Nat.mul_succ] at this
              have HE2 : Hid (B = 2 * s * (t + 1) ∧ B' = B + 2 * s) := by
                refine ⟨?_, by have := HB'.out; have := HTE.out; omega⟩
                obtain ⟨rfl, rfl⟩ := HE.out
                rw [Nat.mul_succ]
              clear r1 r2 r3 HSY
              go_wp2
              go_roundw
              case rel => exact ⟨B, B', t + 1, d', rfl, rfl, hlt, HE2, R2, G2⟩
              case measure => have := HAB.out; simp [intOf]; omega
            · have hlt' : ¬ (B : Int) ≤ (n : Int) := by omega
              by_cases hMn : M < n
              · have hMn' : (M : Int) < (n : Int) := by omega
                have HRUN : Hid (TwoRuns kf A M n d) := by
                  obtain ⟨rfl, rfl⟩ := HE.out
                  subst hM
                  exact b2_runs G1.out (by omega) (by omega) (by omega) (Nat.le_refl _)
                have HSY := hide (HSYM.out A M n d wr (by omega) (by omega) hMn (Nat.le_refl _) R1.out HRUN.out (fun k _ h => G1.out.small k h))
                clear hE hTE hM
                go_wp2_with fail
                refine HSY.out.mono ?_
                rintro e w2 ⟨rfl, d', r1, r2, r3⟩
                have R2 := hide r1
                have G2 : Hid (Grp kf (fun c => T ∣ c) n d') := by
                  have h0 := HTE.out
                  subst h0
                  obtain ⟨rfl, rfl⟩ := HE.out
                  exact b2_last G1.out (by omega) (by omega) hAn r2 r3
                have HTB : Hid (20 ≤ T ∧ T ≤ 2 * n + 20 ∧ s < T) := by have := HTE.out; exact ⟨by omega, by omega, by omega⟩
                clear r1 r2 r3 HSY
                go_wp2
                go_roundw
                case rel => exact ⟨T, d', rfl, HTB.out.1, HTB.out.2.1, R2, G2⟩
                case measure => have := HTB.out.2.2; simp [intOf]; omega
              · have hMn' : ¬ (M : Int) < (n : Int) := by omega
                have G2 : Hid (Grp kf (fun c => T ∣ c) n d) := by
                  have h0 := HTE.out
                  subst h0
                  obtain ⟨rfl, rfl⟩ := HE.out
                  exact b2_alone G1.out (by omega) (by omega) hAn
                have HTB : Hid (20 ≤ T ∧ T ≤ 2 * n + 20 ∧ s < T) := by have := HTE.out; exact ⟨by omega, by omega, by omega⟩
                clear hE hTE hM
                go_wp2
                go_roundw
                case rel => exact ⟨T, d, rfl, HTB.out.1, HTB.out.2.1, R1, G2⟩
                case measure => have := HTB.out.2.2; simp [intOf]; omega
        · have hsn' : ¬ (s : Int) < (n : Int) := by omega
          have HF := hide (G1.out.fin fun c h0 h1 h2 => dvd_none h2 h0 h1 (by omega))
          go_wp2
          go_end0
          exact ⟨rfl, d, R1.out, HF.out.1, HF.out.2⟩

end Go.Proofs.YtfahlgjolihmkaaDoor
