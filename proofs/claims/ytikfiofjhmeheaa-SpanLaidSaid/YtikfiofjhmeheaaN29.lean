/- Contracts of Depth: the program's and the specification's. -/
import Derived.Test.YtikfiofjhmeheaaN26
namespace Go.Proofs.Ytikfiofjhmeheaa
open Go.RowKit Go.Sort
attribute [local go_sem] Oper.semAt_some

noncomputable def deepV (xs : List Sp) : Nat × Int := if checkE xs = 0 then depTo xs (ups xs.length xs.length) else (0, 0)
def DeepPost (xs : List Sp) (w : World) (e : Ending) (w' : World) : Prop :=
  e = .returned (.tuple #[.int .i64 ((deepV xs).1 : Nat), .int .i64 (deepV xs).2, .int .i64 (checkE xs)]) ∧ Below w.heap.size w w'
theorem deeppost_err {xs : List Sp} {w w' : World} (hr : checkE xs ≠ 0) (hb : Below w.heap.size w w') :
    DeepPost xs w (.returned (.tuple #[.int .i64 0, .int .i64 0, .int .i64 (checkE xs)])) w' := by
  refine ⟨?_, hb⟩
  unfold deepV
  rw [if_neg hr]
  rfl
theorem ok_of_check {xs : List Sp} {n : Nat} (hc : checkE xs = 0) (hn : xs.length = n) : n ≤ 128 ∧ okTo xs n := by
  unfold checkE at hc
  split at hc
  · omega
  · split at hc
    · rename_i h3
      rw [hn] at h3
      exact ⟨by omega, h3⟩
    · omega

structure DepI (w w4 : World) (A : Option Addr) (cap : Nat) (xs : List Sp) (n p : Nat) (pre : List (Fin n)) (W : World) : Prop where
  bl : Boxed W w.heap.size 22 (.slice A n cap)
  bm : Boxed W p 3 (.int .i64 ((depTo xs pre).1 : Nat))
  bw : Boxed W (p + 1) 3 (.int .i64 (depTo xs pre).2)
  below : Below w.heap.size w W
  size : w4.heap.size ≤ W.heap.size
theorem DepI.abides {w w4 : World} {A : Option Addr} {cap : Nat} {xs : List Sp} {n p : Nat} (hp : w.heap.size < p) (h4 : p + 2 ≤ w4.heap.size) : Abides w4.heap.size [p, p + 1] (DepI w w4 A cap xs n p) := fun s W W' h ht =>
  ⟨turn_old ht h.bl (by omega), turn_old ht h.bm (by omega), turn_old ht h.bw (by omega), turn_below ht h.below (by omega) (Nat.le_refl _), Nat.le_trans h.size ht.size⟩

set_option maxHeartbeats 4000000 in
set_option maxRecDepth 100000 in
theorem refDepth_any (A : Option Addr) (n cap : Nat) (xs : List Sp) (w : World) (hx : SpansAt w.heap.size w A n xs) :
    Calls Try.prog 53 #[.slice A n cap] w (DeepPost xs w) := by
  have mixed := mixedOrders
  have HX := hide hx
  have HC := hide (list_any A n cap xs w hx)
  clear hx
  by_cases hc : checkE xs = 0
  · have HCN := hide hc
    have HCC := HC.out
    rw [hc] at HCC
    have HC2 := hide HCC
    have HOK := hide (ok_of_check hc HX.out.1)
    have hn := HOK.out.1
    clear hc HC HCC
    go_enter Try.func53, Try.ntmps53
    go_wp2_with fail
    refine HC2.out.mono ?_
    rintro e w2 ⟨rfl, hG⟩
    have HG := hide hG
    clear hG HC2
    go_wp2
    go_loopw [6, 7, 8] (fun vb va vi wr => ∃ i : Nat, i ≤ n ∧ vi = .int .i64 i ∧ vb = .int .i64 ((depToS xs n i).1 : Nat) ∧ va = .int .i64 (depToS xs n i).2 ∧ Hid (Gr w wr)) (fun _ _ vi _ => n - (intOf vi).toNat)
    case atStart => exact ⟨0, Nat.zero_le _, rfl, rfl, rfl, HG⟩
    case round =>
      obtain ⟨i, hi, rfl, rfl, rfl, HG2⟩ := hrel
      by_cases hin : i < n
      · have hin' : (i : Int) < (n : Int) := by omega
        obtain ⟨b, off, rfl, hb, c0, c1⟩ := HX.out.at_ hin
        have HS := hide (show depToS xs n (i + 1) = depStepS xs n (depToS xs n i) i from rfl)
        generalize depToS xs n i = st at *
        obtain ⟨best, at'⟩ := st
        have HS : Hid (depToS xs n (i + 1) = if best < conTo xs (loA xs i) n ∨ (conTo xs (loA xs i) n = best ∧ loA xs i < at') then (conTo xs (loA xs i) n, loA xs i) else (best, at')) := HS.out
        have HCi := hide c0
        clear c0 c1
        go_wp2
        go_loopw [9, 10] (fun vn vk wr => ∃ k : Nat, k ≤ n ∧ vk = .int .i64 k ∧ vn = .int .i64 (conTo xs (loA xs i) k : Nat) ∧ Hid (Gr w wr)) (fun _ vk _ => n - (intOf vk).toNat)
        case atStart => exact ⟨0, Nat.zero_le _, rfl, rfl, HG2⟩
        case round =>
          obtain ⟨k, hk, rfl, rfl, HG3⟩ := hrel
          by_cases hkn : k < n
          · have hkn' : (k : Int) < (n : Int) := by omega
            obtain ⟨d0, d1⟩ := HX.out.at2 hkn
            have E0 : ∀ nq, (wr.drewN nq).cell? ⟨b, off + k * 2, none⟩ = some (.int .i64 (loA xs k)) := fun _ => (HG3.out.cell (p := ⟨b, off + k * 2, none⟩) hb).trans d0
            have E1 : ∀ nq, (wr.drewN nq).cell? ⟨b, off + k * 2 + 1, none⟩ = some (.int .i64 (hiA xs k)) := fun _ => (HG3.out.cell (p := ⟨b, off + k * 2 + 1, none⟩) hb).trans d1
            have E2 : ∀ nq, (wr.drewN nq).cell? ⟨b, off + i * 2, none⟩ = some (.int .i64 (loA xs i)) := fun _ => (HG3.out.cell (p := ⟨b, off + i * 2, none⟩) hb).trans HCi.out
            have hle := conTo_le xs (loA xs i) k
            have HSU := hide (conTo_succ xs (loA xs i) k)
            generalize conTo xs (loA xs i) k = t at HSU hle ⊢
            clear d0 d1
            by_cases h1 : loA xs k ≤ loA xs i
            · have hd1 : decide (loA xs k ≤ loA xs i) = true := decide_eq_true h1
              by_cases h2 : loA xs i < hiA xs k
              · have hd2 : decide (loA xs i < hiA xs k) = true := decide_eq_true h2
                have HE : Hid (conTo xs (loA xs i) (k + 1) = t + 1) := by show _ = _; rw [HSU.out, if_pos (show hasB (loA xs k) (hiA xs k) (loA xs i) = true from decide_eq_true ⟨h1, h2⟩)]
                clear h1 h2 HSU
                go_wp2_with fail
                go_quiet (fail)
                go_wp2
                go_roundw
                case rel => exact ⟨k + 1, by omega, by go_num, by rw [HE.out]; go_num, HG3.out.drewN _⟩
                case measure => simp [intOf]; omega
              · have hd2 : decide (loA xs i < hiA xs k) = false := decide_eq_false h2
                have HE : Hid (conTo xs (loA xs i) (k + 1) = t) := by show _ = _; rw [HSU.out, if_neg (fun h => h2 (of_decide_eq_true h).2)]
                clear h1 h2 HSU
                go_wp2_with fail
                go_quiet (fail)
                go_wp2
                go_roundw
                case rel => exact ⟨k + 1, by omega, by go_num, by rw [HE.out], HG3.out.drewN _⟩
                case measure => simp [intOf]; omega
            · have hd1 : decide (loA xs k ≤ loA xs i) = false := decide_eq_false h1
              have HE : Hid (conTo xs (loA xs i) (k + 1) = t) := by show _ = _; rw [HSU.out, if_neg (fun h => h1 (of_decide_eq_true h).1)]
              clear h1 HSU
              go_wp2_with fail
              go_quiet (fail)
              go_wp2
              go_roundw
              case rel => exact ⟨k + 1, by omega, by go_num, by rw [HE.out], HG3.out.drewN _⟩
              case measure => simp [intOf]; omega
          · obtain rfl : k = n := by omega
            have E2 : ∀ nq, (wr.drewN nq).cell? ⟨b, off + i * 2, none⟩ = some (.int .i64 (loA xs i)) := fun _ => (HG3.out.cell (p := ⟨b, off + i * 2, none⟩) hb).trans HCi.out
            have e2 := E2 0
            rw [World.drewN_zero] at e2
            generalize conTo xs (loA xs i) k = t at *
            generalize loA xs i = ll at *
            by_cases h1 : best < t
            · have hd1 : decide (best < t) = true := decide_eq_true h1
              have HE : Hid (depToS xs k (i + 1) = (t, ll)) := by show _ = _; rw [HS.out, if_pos (.inl h1)]
              clear h1 HS
              go_wp2_with fail
              go_quiet (fail)
              go_wp2
              go_roundw
              case rel => exact ⟨i + 1, by omega, by go_num, by rw [HE.out], by rw [HE.out], HG3.out.drewN _⟩
              case measure => simp [intOf]; omega
            · have hd1 : decide (best < t) = false := decide_eq_false h1
              by_cases h2 : t = best
              · subst h2
                by_cases h3 : ll < at'
                · have hd3 : decide (ll < at') = true := decide_eq_true h3
                  have HE : Hid (depToS xs k (i + 1) = (t, ll)) := by show _ = _; rw [HS.out, if_pos (.inr ⟨rfl, h3⟩)]
                  clear h1 h3 HS
                  go_wp2_with fail
                  go_quiet (fail)
                  go_wp2
                  go_roundw
                  case rel => exact ⟨i + 1, by omega, by go_num, by rw [HE.out], by rw [HE.out], HG3.out.drewN _⟩
                  case measure => simp [intOf]; omega
                · have hd3 : decide (ll < at') = false := decide_eq_false h3
                  have HE : Hid (depToS xs k (i + 1) = (t, at')) := by show _ = _; rw [HS.out, if_neg (fun h => h.elim h1 fun h => h3 h.2)]
                  clear h1 h3 HS
                  go_wp2
                  go_roundw
                  case rel => exact ⟨i + 1, by omega, by go_num, by rw [HE.out], by rw [HE.out], HG3⟩
                  case measure => simp [intOf]; omega
              · have hq : (t == best) = false := beq_eq_false_iff_ne.2 h2
                have hq2 : ((t : Int) == (best : Int)) = false := beq_eq_false_iff_ne.2 (by omega)
                have HE : Hid (depToS xs k (i + 1) = (best, at')) := by show _ = _; rw [HS.out, if_neg (fun h => h.elim h1 fun h => h2 h.1)]
                clear h1 h2 HS
                go_wp2
                go_roundw
                case rel => exact ⟨i + 1, by omega, by go_num, by rw [HE.out], by rw [HE.out], HG3⟩
                case measure => simp [intOf]; omega
      · obtain rfl : i = n := by omega
        go_wp2
        go_ret3
        have hV : deepV xs = depToS xs i i := by
          unfold deepV
          rw [if_pos HCN.out, HX.out.1, dep_same HOK.out.2]
        refine ⟨?_, HG2.out.below⟩
        rw [hV, HCN.out]
        rfl
  · have HCN := hide hc
    have hc1 : (checkE xs == 0) = false := beq_eq_false_iff_ne.2 hc
    have hc2 : (checkE xs != 0) = true := by rw [bne_iff_ne]; exact hc
    clear hc
    go_enter Try.func53, Try.ntmps53
    go_wp2_with fail
    refine HC.out.mono ?_
    rintro e w2 ⟨rfl, hG⟩
    have HG := hide hG
    clear hG
    go_wp2
    go_ret3
    exact deeppost_err HCN.out HG.out.below

set_option maxHeartbeats 4000000 in
set_option maxRecDepth 100000 in
theorem Depth_in (A : Option Addr) (n cap : Nat) (xs : List Sp) (w : World) (hx : SpansAt w.heap.size w A n xs) (hst : n ≤ 128 → StableSaid n) :
    CallsIn Fence.wide 10 Try.prog 52 #[.slice A n cap] w (DeepPost xs w) := by
  obtain ⟨w1, hw1⟩ : ∃ w1, w.alloc (.cells #[.slice A n cap] 22) = w1 := ⟨_, rfl⟩
  have bL : Boxed w1 w.heap.size 22 (.slice A n cap) := by rw [← hw1]; exact Boxed.new w 22 _
  have hg1 : Gr w w1 := by rw [← hw1]; exact (Gr.refl w).alloc _
  have hs1 : w1.heap.size = w.heap.size + 1 := by rw [← hw1]; simp
  have l1 := bL.cell
  have HX := hide hx
  have HC := hide (callsIn_wide (n := 9).2 (check_any A n cap xs w1 (hx.gr hg1)))
  have HST := hide hst
  clear hx hst
  refine callsIn_of_wp_marks Try.func52 rfl trivial ?_ rfl
  simp only [Try.ntmps52, List.size_toArray, List.length_cons, List.length_nil, Nat.reduceAdd, Nat.reduceSub, Array.replicate_succ, Array.replicate_zero, List.push_toArray, List.append_toArray, List.nil_append, List.cons_append]
  by_cases hc : checkE xs = 0
  · have HCN := hide hc
    have HCC := HC.out
    rw [hc] at HCC
    have HC2 := hide HCC
    have HOK := hide (ok_of_check hc HX.out.1)
    clear hc HC HCC
    gi_wp2_with fail
    refine ⟨trivial, HC2.out.mono ?_⟩
    rintro e w2 ⟨rfl, hG⟩
    have bL2 := boxed_gr bL hG
    have l2 := bL2.cell
    have hG2 := hg1.trans hG
    have hsz2 : w.heap.size + 1 ≤ w2.heap.size := by have := hG.size; omega
    have l0 : ((w2.alloc (.cells #[.int .i64 0] 3)).alloc (.cells #[.int .i64 0] 3)).cell? ⟨w.heap.size, 0, none⟩ = some (.slice A n cap) :=
      ((boxed_gr bL2 ((Gr.refl w2).alloc _)).alloc _).cell
    clear hG HC2 hw1 hg1 bL l1
    gi_wp2_with fail
    have hst2 := inOrder_any 89 A n cap ((w2.alloc (.cells #[.int .i64 0] 3)).alloc (.cells #[.int .i64 0] 3))
    simp only [World.size_alloc] at hst2
    refine ⟨trivial, (callsIn_wide (n := 9).2 hst2).mono ?_⟩
    rintro e w4 ⟨rfl, hw4⟩
    obtain ⟨p, hp⟩ : ∃ p, w2.heap.size = p := ⟨_, rfl⟩
    obtain ⟨W0, hW0⟩ : ∃ W0, (w2.alloc (.cells #[.int .i64 0] 3)).alloc (.cells #[.int .i64 0] 3) = W0 := ⟨_, rfl⟩
    have bM0 : Boxed W0 p 3 (.int .i64 0) := by rw [← hW0]; exact heap_old _ (heap_new _ hp)
    have bW0 : Boxed W0 (p + 1) 3 (.int .i64 0) := by rw [← hW0]; exact heap_new _ (size_alloc' _ hp)
    have hG0 : Gr w W0 := by rw [← hW0]; exact (hG2.alloc _).alloc _
    have bL0 := boxed_gr bL2 (show Gr w2 W0 by rw [← hW0]; exact ((Gr.refl w2).alloc _).alloc _)
    have hsz0 : W0.heap.size = p + 2 := by rw [← hW0, ← hp]; simp
    have hpw : w.heap.size < p := by omega
    rw [hW0] at hw4
    have bm : Boxed w4 p 3 (.int .i64 0) := by rw [← hw4]; exact heap_old _ (heap_old _ bM0)
    have bw : Boxed w4 (p + 1) 3 (.int .i64 0) := by rw [← hw4]; exact heap_old _ (heap_old _ bW0)
    have bl : Boxed w4 w.heap.size 22 (.slice A n cap) := by rw [← hw4]; exact heap_old _ (heap_old _ bL0)
    have bl2 : Boxed w4 (p + 1 + 1) 22 (.slice A n cap) := by rw [← hw4]; exact heap_old _ (heap_new _ hsz0)
    have bk : Boxed w4 (p + 1 + 1 + 1) 70 (.func (.func 89) #[] #[]) := by rw [← hw4]; exact heap_new _ (size_alloc' _ hsz0)
    have hG4 : Gr w w4 := by rw [← hw4]; exact (hG0.alloc _).alloc _
    have hsz4 : w4.heap.size = p + 4 := by rw [← hw4]; simp [hsz0]
    have hbw := hG4.below
    have hxs := HX.out.below hbw
    rw [hp]
    clear hw4 hG0 hG4 hst2 hp hW0 bM0 bW0 bL0 l0 hsz0 bL2 hG2 hsz2 l2
    gi_wp2_with fail
    have hnr : ∀ g, ¬ RowOf [p, p + 1] w4 g := by
      rintro g ⟨b, hb, v, hc, ho⟩
      simp at hb
      rcases hb with rfl | rfl
      · rw [bm.cell] at hc
        injection hc with hc
        subst hc
        cases ho
      · rw [bw.cell] at hc
        injection hc with hc
        subst hc
        cases ho
    have hn := HOK.out.1
    refine range_own (m := 10) (gf := 93) (lb := #[.pointer (some ⟨p + 1 + 1, 0, none⟩), .pointer (some ⟨p + 1 + 1 + 1, 0, none⟩)]) rfl (enters_of Try.func93 (by kernel_rfl) rfl)
      (inOrder_seq 9 (by omega) (p + 1 + 1) (p + 1 + 1 + 1) 89 [p, p + 1] A n cap xs (fun a _ => a) key89 (HST.out hn) hn w4 (by simp; omega) (fun g h => absurd h (hnr g)) bl2.cell ⟨by simp; omega, hnr _⟩ (by omega) bk.cell (by omega) w.heap.size (by omega) hxs (fun k hk => ⟨by simp; omega, hnr k⟩))
      (fun _ => rfl) (by simp; omega) (DepI w w4 A cap xs n p) (fun _ _ _ => False) (DepI.abides hpw (by omega)) (fun _ _ _ _ h _ => h)
      ⟨bl, bm, bw, hbw, Nat.le_refl _⟩
      (fun x a' W => ∃ Bx, w4.heap.size ≤ Bx ∧ W.heap[Bx]? = some (.cells #[.int .i64 (loA xs (ordL xs n x.1)), .int .i64 (hiA xs (ordL xs n x.1))] 42 (0, 0)) ∧
        a' = { tmps := #[.slice A n cap, .pointer (some ⟨w.heap.size, 0, none⟩), .int .i64 0, .int .i64 0, .int .i64 0, .int .i64 0, .pointer (some ⟨p, 0, none⟩), .pointer (some ⟨p + 1, 0, none⟩), undef, .pointer (some ⟨Bx, 0, none⟩), undef, .slice A n cap, .int .i64 0, .int .i64 0, .bool false, undef, .slice A n cap,
          .func (.func 93) #[] #[.pointer (some ⟨p + 1 + 1, 0, none⟩), .pointer (some ⟨p + 1 + 1 + 1, 0, none⟩)], .int .i64 (ordL xs n x.1 : Nat), .agg #[.int .i64 (loA xs (ordL xs n x.1)), .int .i64 (hiA xs (ordL xs n x.1))],
          undef, undef, undef, undef, undef, undef, undef, undef, undef, undef, undef, undef], defers := [] })
      ?hax ?assign ?body ?done ?stop
    case hax =>
      rintro x a' W l o o' ⟨Bx, h1, h2, h4⟩ hl ho hc
      exact ⟨Bx, h1, (World.putObj_heap_other (fun e => by subst e; rw [ho] at h2; injection h2 with h2; subst h2; cases hc)).trans h2, h4⟩
    case assign =>
      intro l pre x W K hI hK
      dsimp only [encO]
      gi_wp2
      exact hK _ _ ((Below.refl _ _).alloc (Nat.le_refl _) _) ⟨W.heap.size, hI.size, World.alloc_heap_new W _, rfl⟩
    case body =>
      rintro l pre x a' W hl hI ⟨Bx, h1, h2, rfl⟩ hlt
      have HI := hide hI
      have c0 := cell_of_heap h2 0
      simp at c0
      have hBx := lt_of_heap h2
      have HS := hide (depTo_snoc xs pre x)
      have cl := hI.bl.cell
      have HCON := hide (containing_any A n cap (loA xs (ordL xs n x.1)) xs W ((HX.out.below hI.below).mono hI.below.size) (by omega))
      have HSX : Hid (depTo xs (pre ++ [x]) = if (depTo xs pre).1 < conTo xs (loA xs (ordL xs n x.1)) n then (conTo xs (loA xs (ordL xs n x.1)) n, loA xs (ordL xs n x.1)) else depTo xs pre) := HS.out
      clear hI h2 HS
      generalize ordL xs n x.1 = o at c0 HCON HSX ⊢
      generalize conTo xs (loA xs o) n = t at HCON HSX
      generalize loA xs o = ll at c0 HCON HSX ⊢
      gi_wp2_with fail
      refine ⟨trivial, (CallsIn.inRound l (callsIn_wide (n := 7).2 HCON.out)).mono ?_⟩
      rintro e w5 ⟨rfl, hG5⟩
      have HI5 := hide (DepI.abides hpw (by omega) _ _ _ HI.out (Turn.of_below w4.heap.size [p, p + 1] hG5.below))
      have e0 := (hG5.cell (p := ⟨Bx, 0, none⟩) hBx).trans c0
      have em := HI5.out.bm.cell
      have fm := HI5.out.bm.frozen
      have fw := HI5.out.bw.frozen
      have ew := HI5.out.bw.cell
      have HK0 : Hid (Kept [p, p + 1] W w5) := Kept.of_below hG5.below (by intro b hb; have := HI.out.size; simp at hb; omega)
      have HO0 : Hid (KeepsOthers W w5) := KeepsOthers.of_grownBy (hG5.grownBy none) (fun j o h => by cases h)
      clear hG5 HCON cl c0 hBx
      by_cases hlt2 : (depTo xs pre).1 < t
      · have hd : decide ((depTo xs pre).1 < t) = true := decide_eq_true hlt2
        have HE : Hid (depTo xs (pre ++ [x]) = (t, ll)) := by show _ = _; rw [HSX.out, if_pos hlt2]
        clear hlt2 HSX
        gi_wp2_with fail
        gi_region
        all_goals gi_wp2
        all_goals
          have h5 := HI5.out
          have hA := HO0.out.trans ((KeepsOthers.setCell w5 ⟨p, 0, none⟩ (.int .i64 (t : Int))).trans (KeepsOthers.setCell (w5.setCell ⟨p, 0, none⟩ (.int .i64 (t : Int))) ⟨p + 1, 0, none⟩ (.int .i64 ll)))
          have hB := HK0.out.trans ((Kept.setBox [p, p + 1] w5 p (.int .i64 (t : Int)) (by simp) rfl).trans (Kept.setBox [p, p + 1] (w5.setCell ⟨p, 0, none⟩ (.int .i64 (t : Int))) (p + 1) (.int .i64 ll) (by simp) rfl))
          have hF := hA.from w4.heap.size
          refine ⟨⟨hF.size, hF.same⟩, ⟨hB.os, hB.tape, hB.output, hB.size, hB.same, hB.rows, hB.bound⟩, ⟨(h5.bl.other (by omega) _).other (by omega) _, ?_, ?_, ?_, by have := h5.size; simp [World.setCell, World.drew]; omega⟩⟩
          · rw [HE.out]; exact (h5.bm.set _).other (by omega) _
          · rw [HE.out]; exact (h5.bw.other (by omega) _).set _
          · exact ((h5.below.setCell (p := ⟨p, 0, none⟩) (by show w.heap.size ≤ p; omega) _).setCell (p := ⟨p + 1, 0, none⟩) (by show w.heap.size ≤ p + 1; omega) _).drew
      · have hd : decide ((depTo xs pre).1 < t) = false := decide_eq_false hlt2
        have HE : Hid (depTo xs (pre ++ [x]) = depTo xs pre) := by show _ = _; rw [HSX.out, if_neg hlt2]
        clear hlt2 HSX
        gi_wp2
        have h5 := HI5.out
        exact ⟨HO0.out.from _, HK0.out, ⟨h5.bl, by rw [HE.out]; exact h5.bm, by rw [HE.out]; exact h5.bw, h5.below, h5.size⟩⟩
    case done =>
      rintro D ys W hD rfl hI hK
      have em := hI.bm.cell
      have ew := hI.bw.cell
      have HI := hide hI
      have hV : deepV xs = depTo xs (ups n n) := by
        unfold deepV
        rw [if_pos HCN.out, HX.out.1]
      have HV := hide hV
      clear hI hV
      rw [← HV.out] at em ew
      gi_wp2_with fail
      gi_region
      gi_wp2
      refine ⟨by simp, .inl ⟨_, _, rfl, run_takeDeferred (ds := []) ?hD, ?_⟩⟩
      case hD => exact hK
      have hD3 : W.drew.heap[D]? = some (.deferred (some [])) := hK
      exact ⟨_, results_tmp3 (fn := Try.f52) (t := 2) (u := 3) (v := 4) rfl _ _ _, by rw [HCN.out]; rfl,
        HI.out.below.drew.trans (belowK_b (w := w) (Nat.le_refl _) _ D _ _ (by omega) hD3 rfl rfl)⟩
    case stop =>
      rintro D c pre W hD _ hX hK
      exact hX.elim
  · have HCN := hide hc
    have hc1 : (checkE xs == 0) = false := beq_eq_false_iff_ne.2 hc
    have hc2 : (checkE xs != 0) = true := by rw [bne_iff_ne]; exact hc
    clear hc
    gi_wp2_with fail
    refine ⟨trivial, HC.out.mono ?_⟩
    rintro e w2 ⟨rfl, hG⟩
    have HG := hide (hg1.trans hG)
    clear hG
    gi_wp2
    exact ⟨_, results_tmp3 (fn := Try.f52) (t := 2) (u := 3) (v := 4) rfl _ _ _, deeppost_err HCN.out HG.out.below⟩

theorem Depth_any (A : Option Addr) (n cap : Nat) (xs : List Sp) (w : World) (hx : SpansAt w.heap.size w A n xs) :
    Calls Try.prog 52 #[.slice A n cap] w (DeepPost xs w) := callsIn_wide.1 (Depth_in A n cap xs w hx (fun h => stable_any n (by omega)))

end Go.Proofs.Ytikfiofjhmeheaa
