/- The library's merge in place, at every length: the step of the induction. -/
import Derived.Test.YtikfiofjhmeheaaG5
import Derived.Deep.DeepCutAuto
namespace Go.Proofs.Ytikfiofjhmeheaa
open Go.RowKit Go.Sort

theorem CutI.left {kf : Nat → Int} {a m b c i j h : Nat} {d : Nat → Nat} (H : CutI kf a m b c i j d) (hq : ¬ kf (d (c + m - 1 - h)) < kf (d h)) : CutI kf a m b c (h + 1) j d :=
  ⟨fun _ _ => by rw [Nat.add_sub_cancel, show c + m - (h + 1) = c + m - 1 - h by omega]; omega, H.hi⟩
theorem CutI.right {kf : Nat → Int} {a m b c i j h : Nat} {d : Nat → Nat} (H : CutI kf a m b c i j d) (hq : kf (d (c + m - 1 - h)) < kf (d h)) : CutI kf a m b c i h d :=
  ⟨H.lo, fun _ _ => by rw [show c + m - h - 1 = c + m - 1 - h by omega]; exact hq⟩

/-- what is known behind the rotation -/
structure Turned (kf : Nat → Int) (w0 : World) (blk n a m b s E c : Nat) (d : Nat → Nat) (W : World) : Prop where
  runs : TwoRuns kf a m b d
  cut : CutI kf a m b c s s d
  row : Row w0 W blk n (rotF d s m E)
  small : ∀ k, a ≤ k → k < b → rotF d s m E k < n
theorem rot_small {d : Nat → Nat} {a m b s E n : Nat} (h : ∀ k, a ≤ k → k < b → d k < n) (hs : a ≤ s ∧ s ≤ m) (hE : m ≤ E ∧ E ≤ b) : ∀ k, a ≤ k → k < b → rotF d s m E k < n :=
  fun k h1 h2 => ((PermOn.rot d hs.2 hE.1).mono hs.1 hE.2).all (Q := fun v => v < n) (fun j h3 h4 => h j h3 h4) k h1 h2

/-- behind the left half -/
structure Lefted (kf : Nat → Int) (w0 : World) (blk n a m b s E c : Nat) (d d1 : Nat → Nat) (W : World) : Prop where
  row : Row w0 W blk n d1
  perm : PermOn a c (rotF d s m E) d1
  sort : SortedOn kf a c d1
theorem left_none {kf : Nat → Int} {w0 W : World} {blk n a m b s E c : Nat} {d : Nat → Nat} (T : Turned kf w0 blk n a m b s E c d W) (hs : a ≤ s ∧ s ≤ m) (hE : m ≤ E ∧ E ≤ b) (hc : c = s + (E - m)) (h : s ≤ a ∨ c ≤ s) :
    Lefted kf w0 blk n a m b s E c d (rotF d s m E) W := by
  have hh := T.runs.half_left hs hE
  rw [← hc] at hh
  have := half_done hh h ⟨hs.1, by omega⟩
  exact ⟨T.row, this.1, this.2⟩
theorem right_runs {kf : Nat → Int} {w0 W W' : World} {blk n a m b s E c : Nat} {d d1 : Nat → Nat} (T : Turned kf w0 blk n a m b s E c d W) (L : Lefted kf w0 blk n a m b s E c d d1 W') (hs : a ≤ s ∧ s ≤ m) (hE : m ≤ E ∧ E ≤ b) (hc : c = s + (E - m)) :
    TwoRuns kf c E b d1 ∧ ∀ k, c ≤ k → k < b → d1 k < n := by
  have hh := T.runs.half_right hs hE
  rw [← hc] at hh
  have e : ∀ k, c ≤ k → k < b → d1 k = rotF d s m E k := fun k h1 h2 => L.perm.out (.inr h1)
  exact ⟨hh.congr e (by omega), fun k h1 h2 => by rw [e k h1 h2]; exact T.small k (by omega) h2⟩
theorem all_post {kf : Nat → Int} {w0 W W' W'' : World} {blk n a m b s E c : Nat} {d d1 d2 : Nat → Nat} (T : Turned kf w0 blk n a m b s E c d W) (L : Lefted kf w0 blk n a m b s E c d d1 W') (hs : a ≤ s ∧ s ≤ m) (hE : m ≤ E ∧ E ≤ b) (hc : c = s + (E - m))
    (hr : Row w0 W'' blk n d2) (p2 : PermOn c b d1 d2) (s2 : SortedOn kf c b d2) (hN : c + m - s = E) : InsPost w0 blk n kf a b d (.returned (.tuple #[])) W'' := by
  have h := sym_close T.runs hs hE hc (fun h1 h2 => by have := T.cut.lo h1 (by omega); rwa [hN] at this) (fun h1 h2 => by have := T.cut.hi h1 (by omega); rwa [hN] at this) L.perm L.sort p2 s2
  exact ⟨rfl, d2, hr, h.1, h.2⟩
theorem right_none {kf : Nat → Int} {w0 W W' : World} {blk n a m b s E c : Nat} {d d1 : Nat → Nat} (T : Turned kf w0 blk n a m b s E c d W) (L : Lefted kf w0 blk n a m b s E c d d1 W') (hs : a ≤ s ∧ s ≤ m) (hE : m ≤ E ∧ E ≤ b) (hc : c = s + (E - m)) (h : E ≤ c ∨ b ≤ E)
    (hN : c + m - s = E) : InsPost w0 blk n kf a b d (.returned (.tuple #[])) W' := by
  have := half_done (right_runs T L hs hE hc).1 h ⟨by omega, by omega⟩
  exact all_post T L hs hE hc L.row this.1 this.2 hN

set_option maxHeartbeats 8000000 in
set_option maxRecDepth 100000 in
theorem sym_step (g : Nat) (cb : Array Value) (kf : Nat → Int) (w0 : World) (blk n cap len : Nat) (eg : ∀ args w, (callFunc g args).run Try.prog w = .ok (.enter g args) w) (hcmp : CmpOn w0 blk n g cb kf) (hn : n ≤ 1000000)
    (ih : SymSaid g cb kf w0 blk n cap len) : SymSaid g cb kf w0 blk n cap (len + 1) := by
  intro a m b d w hlen ham hmb hbn hR hT hdn
  by_cases hm1 : m = a + 1
  · subst hm1
    exact symLeft_any g cb kf w0 w blk n cap a b d eg hcmp hR hn hmb hbn hT hdn
  by_cases hb1 : b = m + 1
  · subst hb1
    exact symRight_any g cb kf w0 w blk n cap a m d eg hcmp hR hn (by omega) hbn hT hdn
  have mixed := mixedOrders
  have HC := hide hcmp
  have HR := hide hR
  have HT := hide hT
  have HN := hide hdn
  have IH := hide ih
  clear hcmp hR hT hdn ih
  obtain ⟨c, hc, hc1, hc2⟩ : ∃ c : Nat, ((a : Int) + (b : Int)) / 2 = (c : Int) ∧ a + 2 ≤ c ∧ c + 2 ≤ b := ⟨(a + b) / 2, by omega, by omega, by omega⟩
  have HCE := hide hc
  obtain ⟨N, hN⟩ : ∃ N : Nat, N = c + m := ⟨_, rfl⟩
  obtain ⟨P, hP⟩ : ∃ P : Nat, N = P + 1 := ⟨N - 1, by omega⟩
  have e0 : (((m : Int) - (a : Int)) == 1) = false := beq_eq_false_iff_ne.2 (by omega)
  have e1 : (((b : Int) - (m : Int)) == 1) = false := beq_eq_false_iff_ne.2 (by omega)
  have e2 : (c : Int) + (m : Int) = (N : Int) := by omega
  have e3 : (N : Int) - 1 = (P : Int) := by omega
  have HNE := hide hN
  have HPE := hide hP
  clear hN hP hm1 hb1
  go_enter Try.func114, Try.ntmps114
  go_upto_if 140 with fail
  go_cut [20, 21] (fun s20 s21 wx => ∃ i j : Nat, s20 = .int .i64 i ∧ s21 = .int .i64 j ∧ a ≤ i ∧ i ≤ j ∧ j ≤ m ∧ j ≤ c ∧ N ≤ b + i ∧ Hid (CutI kf a m b c i j d) ∧ wx = w)
  case first => as_aux_lemma =>
    have hcut0 : ∀ i j, (i = a ∧ j = m ∨ i = N - b ∧ j = c) → Hid (CutI kf a m b c i j d) := fun i j hij => by
      have := HNE.out
      exact ⟨fun h1 h2 => by omega, fun h1 h2 => by omega⟩
    have HC0 := hide hcut0
    clear hcut0
    by_cases hcm : c < m
    · have e4 : (N : Int) - (b : Int) = ((N - b : Nat) : Int) := by have := HNE.out; omega
      have e5 : (c : Int) < (m : Int) := by omega
      go_wp2_with fail
      go_meet
      have hNE := HNE.out
      exact ⟨N - b, c, rfl, rfl, by omega, by omega, by omega, Nat.le_refl _, by omega, HC0.out _ _ (.inr ⟨rfl, rfl⟩), rfl⟩
    · have e5 : ¬ (c : Int) < (m : Int) := by omega
      go_wp2_with fail
      go_meet
      have hNE := HNE.out
      exact ⟨a, m, rfl, rfl, Nat.le_refl _, by omega, Nat.le_refl _, by omega, by omega, HC0.out _ _ (.inl ⟨rfl, rfl⟩), rfl⟩
  case rest => as_aux_lemma =>
    obtain ⟨i0, j0, rfl, rfl, q1, q2, q3, q4, q5, HI0, rfl⟩ := hcut
    go_wp2
    go_loopw [20, 21] (fun vi vj wr => ∃ i j : Nat, vi = .int .i64 i ∧ vj = .int .i64 j ∧ a ≤ i ∧ i ≤ j ∧ j ≤ m ∧ j ≤ c ∧ N ≤ b + i ∧ Hid (CutI kf a m b c i j d) ∧ Hid (Row w0 wr blk n d)) (fun vi vj _ => (intOf vj - intOf vi).toNat)
    case atStart => exact ⟨i0, j0, rfl, rfl, q1, q2, q3, q4, q5, HI0, HR⟩
    case round =>
      clear q1 q2 q3 q4 q5 HI0
      obtain ⟨i, j, rfl, rfl, hai, hij, hjm, hjc, hNb, HI, R1⟩ := hrel
      by_cases hlt : i < j
      · obtain ⟨h, hh1, hh2, hh⟩ : ∃ h : Nat, i ≤ h ∧ h < j ∧ h = (i + j) / 2 := ⟨(i + j) / 2, by omega, by omega, rfl⟩
        obtain ⟨q, hq⟩ : ∃ q : Nat, P = q + h := ⟨P - h, by have := HNE.out; have := HPE.out; omega⟩
        have hNE := HNE.out
        have hPE := HPE.out
        have he : ((i : Int) + (j : Int)) / 2 = ((h : Nat) : Int) := by omega
        have hqe : (P : Int) - (h : Int) = (q : Int) := by omega
        have hhn : (h : Int) < (n : Int) := by omega
        have hqn : (q : Int) < (n : Int) := by omega
        have hqE : c + m - 1 - h = q := by omega
        have l1 := fun q' os => cell_grown (n := q') (os := os) (a := ⟨blk, h, none⟩) R1.out.ltW (R1.out.cell h (by omega))
        have l2 := fun q' os => cell_grown (n := q') (os := os) (a := ⟨blk, q, none⟩) R1.out.ltW (R1.out.cell q (by omega))
        have EC : Hid (∀ (p : Nat) (os : Array Obj), Calls Try.prog g (#[.int .i64 (d q), .int .i64 (d h)] ++ cb) (grow (wr.drewN p) os) fun e w'' => e = .returned (.int .i64 (cmpV (kf (d q)) (kf (d h)))) ∧ ∃ p' : GrownBy, w'' = grow (wr.drewN p'.n) p'.os) := fun p os =>
          gr_call (HC.out _ (d q) (d h) (R1.out.gr (grown_gr wr p os)).grown (HN.out q (by omega) (by omega)) (HN.out h (by omega) (by omega)))
        have HQE := hide hqE
        clear hh hq hNE hPE hqE
        by_cases hlt2 : kf (d q) < kf (d h)
        · as_aux_lemma =>
          have hd2 : decide (cmpV (kf (d q)) (kf (d h)) < 0) = true := decide_eq_true (cmpV_neg.2 hlt2)
          have hI : Hid (CutI kf a m b c i h d) := HI.out.right (by rw [HQE.out]; exact hlt2)
          clear hlt2
          go_wp2_with fail
          refine wp_region_quiet_grown (by assumption) (by kernel_rfl) ?_
          repeat (first | go_big_quiet_step ((exact EC.out _ _)) | quiet_step ((exact EC.out _ _)))
          refine wpQuiet_nil ?_
          intro _ hw'
          obtain ⟨⟨nq, osq⟩, hw''⟩ := hw'
          subst hw''
          have R3 := hide (R1.out.gr (grown_gr wr nq osq))
          clear l1 l2 EC
          go_wp2
          go_roundw
          case rel => exact ⟨i, h, rfl, rfl, hai, hh1, by omega, by omega, hNb, hI, R3⟩
          case measure => simp [intOf]; omega
        · as_aux_lemma =>
          have hd2 : decide (cmpV (kf (d q)) (kf (d h)) < 0) = false := decide_eq_false (fun h => hlt2 (cmpV_neg.1 h))
          have hI : Hid (CutI kf a m b c (h + 1) j d) := HI.out.left (by rw [HQE.out]; exact hlt2)
          clear hlt2
          go_wp2_with fail
          refine wp_region_quiet_grown (by assumption) (by kernel_rfl) ?_
          repeat (first | go_big_quiet_step ((exact EC.out _ _)) | quiet_step ((exact EC.out _ _)))
          refine wpQuiet_nil ?_
          intro _ hw'
          obtain ⟨⟨nq, osq⟩, hw''⟩ := hw'
          subst hw''
          have R3 := hide (R1.out.gr (grown_gr wr nq osq))
          clear l1 l2 EC
          go_wp2
          go_roundw
          case rel => exact ⟨h + 1, j, by go_num, rfl, by omega, by omega, hjm, hjc, by omega, hI, R3⟩
          case measure => simp [intOf]; omega
      · obtain rfl : i = j := by omega
        obtain ⟨E, hE⟩ : ∃ E : Nat, N = E + i := ⟨N - i, by have := HNE.out; omega⟩
        have hNE := HNE.out
        have hEe : (N : Int) - (i : Int) = (E : Int) := by omega
        have hE1 : m ≤ E := by omega
        have hE2 : E ≤ b := by omega
        have hcE : c = i + (E - m) := by omega
        have hNi : c + m - i = E := by omega
        have HCE := hide hcE
        have HNI := hide hNi
        have HS := hide (rot_small HN.out ⟨hai, hjm⟩ ⟨hE1, hE2⟩)
        have hii : decide ((i : Int) < (i : Int)) = false := by simp
        clear hNE hE hcE hNi
        go_upto_region 39 with fail
        go_cut [24, 185] (fun s24 s185 wx => s24 = .int .i64 E ∧ (∃ β : Bool, s185 = .bool β ∧ Hid (β = true ↔ (i < m ∧ m < E))) ∧ wx = wr)
        case first => as_aux_lemma =>
          by_cases h1 : i < m
          · have h1' : decide ((i : Int) < (m : Int)) = true := decide_eq_true (by omega)
            have h1'' : (i : Int) < (m : Int) := by omega
            by_cases h2 : m < E
            · have h2' : decide ((m : Int) < (E : Int)) = true := decide_eq_true (by omega)
              have h2'' : (m : Int) < (E : Int) := by omega
              go_wp2_with fail
              go_meet
              exact ⟨rfl, ⟨true, rfl, ⟨fun _ => ⟨h1, h2⟩, fun _ => rfl⟩⟩, rfl⟩
            · have h2' : decide ((m : Int) < (E : Int)) = false := decide_eq_false (by omega)
              have h2'' : ¬ (m : Int) < (E : Int) := by omega
              go_wp2_with fail
              go_meet
              exact ⟨rfl, ⟨false, rfl, ⟨fun h => (by cases h), fun h => absurd h.2 h2⟩⟩, rfl⟩
          · have h1' : decide ((i : Int) < (m : Int)) = false := decide_eq_false (by omega)
            have h1'' : ¬ (i : Int) < (m : Int) := by omega
            go_wp2_with fail
            go_meet
            exact ⟨rfl, ⟨false, rfl, ⟨fun h => (by cases h), fun h => absurd h.1 h1⟩⟩, rfl⟩
        case rest => as_aux_lemma =>
          obtain ⟨rfl, ⟨β, rfl, HB⟩, rfl⟩ := hcut
          go_upto_if 185 with fail
          go_cut [24] (fun s24 wx => s24 = .int .i64 E ∧ Hid (Turned kf w0 blk n a m b i E c d wx))
          case first => as_aux_lemma =>
            cases β
            · have R5 : Hid (Row w0 wc blk n (rotF d i m E)) := by
                have hh := HB.out
                show Row w0 wc blk n _
                rw [rot_triv d (by simp at hh; omega) hjm hE1]
                exact R1.out
              go_wp2_with fail
              go_meet
              exact ⟨rfl, HT.out, HI.out, R5.out, HS.out⟩
            · have hh := HB.out.1 rfl
              have HRO := hide (rotate_any (.func (.func g) #[] cb) w0 wc blk n cap i m E d R1.out hn hh.1 hh.2 (by omega))
              clear hh
              go_wp2_with fail
              refine HRO.out.mono ?_
              rintro e w2 ⟨rfl, h3⟩
              have R5 := hide h3
              clear h3
              go_wp2_with fail
              go_meet
              exact ⟨rfl, HT.out, HI.out, R5.out, HS.out⟩
          case rest => as_aux_lemma =>
            obtain ⟨rfl, HT2⟩ := hcut
            clear HS R1 HI HB
            go_upto_region 41 with fail
            go_cut [24, 199] (fun s24 s199 wx => s24 = .int .i64 E ∧ (∃ β : Bool, s199 = .bool β ∧ Hid (β = true ↔ (a < i ∧ i < c))) ∧ wx = wc)
            case first => as_aux_lemma =>
              by_cases h1 : a < i
              · have h1' : decide ((a : Int) < (i : Int)) = true := decide_eq_true (by omega)
                have h1'' : (a : Int) < (i : Int) := by omega
                by_cases h2 : i < c
                · have h2' : decide ((i : Int) < (c : Int)) = true := decide_eq_true (by omega)
                  have h2'' : (i : Int) < (c : Int) := by omega
                  go_wp2_with fail
                  go_meet
                  exact ⟨rfl, ⟨true, rfl, ⟨fun _ => ⟨h1, h2⟩, fun _ => rfl⟩⟩, rfl⟩
                · have h2' : decide ((i : Int) < (c : Int)) = false := decide_eq_false (by omega)
                  have h2'' : ¬ (i : Int) < (c : Int) := by omega
                  go_wp2_with fail
                  go_meet
                  exact ⟨rfl, ⟨false, rfl, ⟨fun h => (by cases h), fun h => absurd h.2 h2⟩⟩, rfl⟩
              · have h1' : decide ((a : Int) < (i : Int)) = false := decide_eq_false (by omega)
                have h1'' : ¬ (a : Int) < (i : Int) := by omega
                go_wp2_with fail
                go_meet
                exact ⟨rfl, ⟨false, rfl, ⟨fun h => (by cases h), fun h => absurd h.1 h1⟩⟩, rfl⟩
            case rest => as_aux_lemma =>
              obtain ⟨rfl, ⟨β, rfl, HB⟩, rfl⟩ := hcut
              go_upto_if 199 with fail
              go_cut [24] (fun s24 wx => s24 = .int .i64 E ∧ Hid (∃ d1, Lefted kf w0 blk n a m b i E c d d1 wx))
              case first => as_aux_lemma =>
                cases β
                · have HL : Hid (Lefted kf w0 blk n a m b i E c d (rotF d i m E) wc) := by
                    have hh := HB.out
                    exact left_none HT2.out ⟨hai, hjm⟩ ⟨hE1, hE2⟩ HCE.out (by simp at hh; omega)
                  go_wp2_with fail
                  go_meet
                  exact ⟨rfl, _, HL.out⟩
                · have hh := HB.out.1 rfl
                  have HLC := hide (IH.out a i c (rotF d i m E) wc (by omega) hh.1 hh.2 (by omega) HT2.out.row (by have := HT2.out.runs.half_left ⟨hai, hjm⟩ ⟨hE1, hE2⟩; rwa [← HCE.out] at this) (fun k k1 k2 => HT2.out.small k k1 (by omega)))
                  clear hh
                  go_wp2_with fail
                  refine HLC.out.mono ?_
                  rintro e w2 ⟨rfl, d1, r1, r2, r3⟩
                  have HL : Hid (Lefted kf w0 blk n a m b i E c d d1 w2) := ⟨r1, r2, r3⟩
                  clear r1 r2 r3
                  go_wp2_with fail
                  go_meet
                  exact ⟨rfl, _, HL.out⟩
              case rest => as_aux_lemma =>
                obtain ⟨rfl, HL2⟩ := hcut
                clear HB
                by_cases h1 : c < E ∧ E < b
                · have h1' : decide ((c : Int) < (E : Int)) = true := decide_eq_true (by omega)
                  have h2' : decide ((E : Int) < (b : Int)) = true := decide_eq_true (by omega)
                  have h1'' : (c : Int) < (E : Int) := by omega
                  have h2'' : (E : Int) < (b : Int) := by omega
                  go_wp2_with fail
                  obtain ⟨d1, L⟩ := HL2.out
                  have hr := right_runs HT2.out L ⟨hai, hjm⟩ ⟨hE1, hE2⟩ HCE.out
                  refine (IH.out c E b d1 wc (by omega) h1.1 h1.2 (by omega) L.row hr.1 hr.2).mono ?_
                  rintro e w2 ⟨rfl, d2, r1, r2, r3⟩
                  have HF := hide (all_post HT2.out L ⟨hai, hjm⟩ ⟨hE1, hE2⟩ HCE.out r1 r2 r3 HNI.out)
                  clear r1 r2 r3 L hr
                  go_wp2
                  go_end0
                  exact HF.out
                · have HF : Hid (InsPost w0 blk n kf a b d (.returned (.tuple #[])) wc) := by
                    obtain ⟨d1, L⟩ := HL2.out
                    exact right_none HT2.out L ⟨hai, hjm⟩ ⟨hE1, hE2⟩ HCE.out (by omega) HNI.out
                  by_cases h2 : c < E
                  · have h1' : decide ((c : Int) < (E : Int)) = true := decide_eq_true (by omega)
                    have h2' : decide ((E : Int) < (b : Int)) = false := decide_eq_false (by omega)
                    have h1'' : (c : Int) < (E : Int) := by omega
                    have h2'' : ¬ (E : Int) < (b : Int) := by omega
                    go_wp2
                    go_end0
                    exact HF.out
                  · have h1' : decide ((c : Int) < (E : Int)) = false := decide_eq_false (by omega)
                    have h1'' : ¬ (c : Int) < (E : Int) := by omega
                    go_wp2
                    go_end0
                    exact HF.out

theorem sym_any (g : Nat) (cb : Array Value) (kf : Nat → Int) (w0 : World) (blk n cap : Nat) (eg : ∀ args w, (callFunc g args).run Try.prog w = .ok (.enter g args) w) (hcmp : CmpOn w0 blk n g cb kf) (hn : n ≤ 1000000) (len : Nat) :
    SymSaid g cb kf w0 blk n cap len := by
  induction len with
  | zero => intro a m b d w h1 h2 h3; omega
  | succ len ih => exact sym_step g cb kf w0 blk n cap len eg hcmp hn ih

end Go.Proofs.Ytikfiofjhmeheaa
