/- Contract of stab: the points and the spans at which they are chosen. -/
import Derived.Test.YtikfiofjhmeheaaN22
import Derived.Test.YtikfiofjhmeheaaP1
import Derived.Test.YtikfiofjhmeheaaN6
namespace Go.Proofs.Ytikfiofjhmeheaa
open Go.RowKit Go.Sort
attribute [local go_sem] Oper.semAt_some

/-- the j-th span by upper end -/
noncomputable def ordH (xs : List Sp) (n j : Nat) : Nat := ordF (keyA (fun _ b => b) xs) n j
noncomputable def stabStep (xs : List Sp) (st : List Int × List Int) (o : Nat) : List Int × List Int :=
  if anyIn (loA xs o) (hiA xs o) st.1 = true then st else (st.1 ++ [hiA xs o - 1], st.2 ++ [(o : Int)])
noncomputable def stabTo (xs : List Sp) {n : Nat} (pre : List (Fin n)) : List Int × List Int := pre.foldl (fun st x => stabStep xs st (ordH xs n x.1)) ([], [])
theorem stabTo_snoc (xs : List Sp) {n : Nat} (pre : List (Fin n)) (x : Fin n) : stabTo xs (pre ++ [x]) = stabStep xs (stabTo xs pre) (ordH xs n x.1) := by
  simp [stabTo]
theorem stabTo_length (xs : List Sp) {n : Nat} (pre : List (Fin n)) : (stabTo xs pre).2.length = (stabTo xs pre).1.length ∧ (stabTo xs pre).1.length ≤ pre.length := by
  suffices h : ∀ (pre : List (Fin n)) (st : List Int × List Int), st.2.length = st.1.length → (pre.foldl (fun st x => stabStep xs st (ordH xs n x.1)) st).2.length = (pre.foldl (fun st x => stabStep xs st (ordH xs n x.1)) st).1.length ∧
      (pre.foldl (fun st x => stabStep xs st (ordH xs n x.1)) st).1.length ≤ st.1.length + pre.length by
    have := h pre ([], []) rfl
    simpa [stabTo] using this
  intro pre
  induction pre with
  | nil => intro st h; simpa using h
  | cons x pre ih =>
    intro st h
    have h1 : (stabStep xs st (ordH xs n x.1)).2.length = (stabStep xs st (ordH xs n x.1)).1.length ∧ (stabStep xs st (ordH xs n x.1)).1.length ≤ st.1.length + 1 := by
      unfold stabStep
      split
      · exact ⟨h, by omega⟩
      · simp [h]
    have h2 := ih _ h1.1
    simp only [List.foldl_cons, List.length_cons]
    exact ⟨h2.1, by omega⟩
noncomputable def stabP (xs : List Sp) : List Int := if checkE xs = 0 then (stabTo xs (ups xs.length xs.length)).1 else []
noncomputable def stabO (xs : List Sp) : List Int := if checkE xs = 0 then (stabTo xs (ups xs.length xs.length)).2 else []

def StabPost (xs : List Sp) (w : World) (e : Ending) (w' : World) : Prop :=
  ∃ (A1 A2 : Option Addr) (n1 c1 n2 c2 : Nat), e = .returned (.tuple #[.slice A1 n1 c1, .slice A2 n2 c2, .int .i64 (checkE xs)]) ∧ IntsAt w'.heap.size w' A1 n1 (stabP xs) ∧ IntsAt w'.heap.size w' A2 n2 (stabO xs) ∧ Below w.heap.size w w'
theorem stabpost_err {xs : List Sp} {w w' : World} (hr : checkE xs ≠ 0) (hb : Below w.heap.size w w') :
    StabPost xs w (.returned (.tuple #[.slice none 0 0, .slice none 0 0, .int .i64 (checkE xs)])) w' := by
  refine ⟨none, none, 0, 0, 0, 0, rfl, ?_, ?_, hb⟩
  · unfold stabP; rw [if_neg hr]; exact ints_nil _ _ _
  · unfold stabO; rw [if_neg hr]; exact ints_nil _ _ _

structure StabI (w w4 : World) (xs : List Sp) (n p : Nat) (pre : List (Fin n)) (W : World) : Prop where
  two : ∃ v u, Two w4.heap.size W p (p + 1) v u (stabTo xs pre).1.length (stabTo xs pre).1 (stabTo xs pre).2.length (stabTo xs pre).2
  below : Below w.heap.size w W
  size : w4.heap.size ≤ W.heap.size
theorem StabI.abides {w w4 : World} {xs : List Sp} {n p : Nat} (hp : w.heap.size ≤ p) (h4 : p + 4 ≤ w4.heap.size) : Abides w4.heap.size [p, p + 1] (StabI w w4 xs n p) := fun s W W' h ht => by
  obtain ⟨v, u, h2⟩ := h.two
  exact ⟨⟨v, u, turn_old ht h2.bv (by omega), turn_old ht h2.bu (by omega), turn_row ht (by simp) h2.bv h2.ov, turn_row ht (by simp) h2.bu h2.ou, h2.apart⟩, turn_below ht h.below (by omega) (Nat.le_refl _), Nat.le_trans h.size ht.size⟩

set_option maxRecDepth 100000 in
set_option maxHeartbeats 4000000 in
theorem stab_in (A : Option Addr) (n cap : Nat) (xs : List Sp) (w : World) (hx : SpansAt w.heap.size w A n xs) (hst : n ≤ 128 → StableSaid n) :
    CallsIn Fence.wide 10 Try.prog 84 #[.slice A n cap] w (StabPost xs w) := by
  have HX := hide hx
  have HC := hide (callsIn_wide (n := 9).2 (check_any A n cap xs w hx))
  have HST := hide hst
  clear hx hst
  refine callsIn_of_wp_marks Try.func84 rfl trivial ?_ rfl
  simp only [Try.ntmps84, List.size_toArray, List.length_cons, List.length_nil, Nat.reduceAdd, Nat.reduceSub, Array.replicate_succ, Array.replicate_zero, List.push_toArray, List.append_toArray, List.nil_append, List.cons_append]
  by_cases hc : checkE xs = 0
  · have HCN := hide hc
    have HCC := HC.out
    rw [hc] at HCC
    have HC2 := hide HCC
    have HOK : Hid (n ≤ 128 ∧ okTo xs n) := by
      have h1 := hc
      have h2 := HX.out.1
      unfold checkE at h1
      split at h1
      · omega
      · split at h1
        · rename_i h3
          rw [h2] at h3
          exact ⟨by omega, h3⟩
        · omega
    clear hc HC HCC
    gi_wp2_with fail
    refine ⟨trivial, HC2.out.mono ?_⟩
    rintro e w2 ⟨rfl, hG⟩
    have HG := hide hG
    clear hG HC2
    gi_wp2_with fail
    have hst2 := inOrder_any 102 A n cap ((w2.alloc (.cells #[.slice none 0 0] 43)).alloc (.cells #[.slice none 0 0] 43))
    simp only [World.size_alloc] at hst2
    refine ⟨trivial, (callsIn_wide (n := 9).2 hst2).mono ?_⟩
    rintro e w4 ⟨rfl, hw4⟩
    obtain ⟨p, hp⟩ : ∃ p, w2.heap.size = p := ⟨_, rfl⟩
    have hwp : w.heap.size ≤ p := by have := HG.out.size; omega
    have bv : Boxed w4 p 43 (.slice none 0 0) := by rw [← hw4]; exact heap_old _ (heap_old _ (heap_old _ (heap_new _ hp)))
    have bu : Boxed w4 (p + 1) 43 (.slice none 0 0) := by rw [← hw4]; exact heap_old _ (heap_old _ (heap_new _ (size_alloc' _ hp)))
    have bl : Boxed w4 (p + 1 + 1) 22 (.slice A n cap) := by rw [← hw4]; exact heap_old _ (heap_new _ (size_alloc' _ (size_alloc' _ hp)))
    have bk : Boxed w4 (p + 1 + 1 + 1) 70 (.func (.func 102) #[] #[]) := by rw [← hw4]; exact heap_new _ (size_alloc' _ (size_alloc' _ (size_alloc' _ hp)))
    have hG4 : Gr w2 w4 := by rw [← hw4]; exact ((((Gr.refl w2).alloc _).alloc _).alloc _).alloc _
    have hsz4 : w4.heap.size = p + 4 := by rw [← hw4, ← hp]; simp
    have hbw := HG.out.trans hG4
    have hxs := HX.out.below hbw.below
    rw [hp]
    clear hw4 hG4 hst2 hp
    gi_wp2_with fail
    have hnr : ∀ g, ¬ RowOf [p, p + 1] w4 g := by
      rintro g ⟨b, hb, v, hc, ho⟩
      simp at hb
      rcases hb with rfl | rfl
      · rw [bv.cell] at hc
        injection hc with hc
        subst hc
        cases ho
      · rw [bu.cell] at hc
        injection hc with hc
        subst hc
        cases ho
    have hn := HOK.out.1
    refine range_own (m := 10) (gf := 93) (lb := #[.pointer (some ⟨p + 1 + 1, 0, none⟩), .pointer (some ⟨p + 1 + 1 + 1, 0, none⟩)]) rfl (enters_of Try.func93 (by kernel_rfl) rfl)
      (inOrder_seq 9 (by omega) (p + 1 + 1) (p + 1 + 1 + 1) 102 [p, p + 1] A n cap xs (fun _ b => b) key102 (HST.out hn) hn w4 (by simp; omega) (fun g h => absurd h (hnr g)) bl.cell ⟨by simp; omega, hnr _⟩ (by omega) bk.cell (by omega) w.heap.size (by omega) hxs (fun k hk => ⟨by simp; omega, hnr k⟩))
      (fun _ => rfl) (by simp; omega) (StabI w w4 xs n p) (fun _ _ _ => False) (StabI.abides hwp (by omega)) (fun _ _ _ _ h _ => h)
      ⟨⟨_, _, bv, bu, World.ownsRow_nil _ _ _ _, World.ownsRow_nil _ _ _ _, fun g h => by cases h⟩, hbw.below, Nat.le_refl _⟩
      (fun x a' W => ∃ Bx, w4.heap.size ≤ Bx ∧ W.heap[Bx]? = some (.cells #[.int .i64 (loA xs (ordF (keyA (fun _ b => b) xs) n x.1)), .int .i64 (hiA xs (ordF (keyA (fun _ b => b) xs) n x.1))] 42 (0, 0)) ∧
        a' = { tmps := #[.slice A n cap, undef, .slice none 0 0, .slice none 0 0, .int .i64 0, .int .i64 0, .pointer (some ⟨p, 0, none⟩), .pointer (some ⟨p + 1, 0, none⟩), .int .i64 (ordF (keyA (fun _ b => b) xs) n x.1 : Nat), .pointer (some ⟨Bx, 0, none⟩), .slice A n cap, .int .i64 0, .int .i64 0, .bool false, undef, .slice A n cap,
          .func (.func 93) #[] #[.pointer (some ⟨p + 1 + 1, 0, none⟩), .pointer (some ⟨p + 1 + 1 + 1, 0, none⟩)], .int .i64 (ordF (keyA (fun _ b => b) xs) n x.1 : Nat), .agg #[.int .i64 (loA xs (ordF (keyA (fun _ b => b) xs) n x.1)), .int .i64 (hiA xs (ordF (keyA (fun _ b => b) xs) n x.1))],
          undef, undef, undef, undef, undef, undef, undef, undef, undef, undef, undef, undef, undef, undef, undef, undef], defers := [] })
      ?hax ?assign ?body ?done ?stop
    case hax =>
      rintro x a' W l o o' ⟨Bx, h1, h2, h4⟩ hl ho hc
      exact ⟨Bx, h1, (World.putObj_heap_other (fun e => by subst e; rw [ho] at h2; injection h2 with h2; subst h2; cases hc)).trans h2, h4⟩
    case assign =>
      intro l pre x W K hI hK
      dsimp only [encO]
      gi_wp2
      exact hK _ _ ((Below.refl _ _).alloc (Nat.le_refl _) _) ⟨W.heap.size, hI.size, World.alloc_heap_new W _, rfl⟩
    case body =>
      rintro l pre x a' W hl hI ⟨Bx, h1, h2, rfl⟩ hlt
      obtain ⟨i0, hi0, hz0, hz1, hz2⟩ := info_parts info3
      have HI := hide hI
      have c0 := cell_of_heap h2 0
      have c1 := cell_of_heap h2 1
      simp at c0 c1
      have hBx := lt_of_heap h2
      obtain ⟨hlen1, hlen2⟩ := stabTo_length xs pre
      have HS := hide (stabTo_snoc xs pre x)
      obtain ⟨v, u, ht2⟩ := hI.two
      obtain ⟨va, vc, rfl⟩ := own_slice ht2.ov
      obtain ⟨ua, uc, rfl⟩ := own_slice ht2.ou
      have cv := ht2.bv.cell
      have HINT := hide (ints_of_own ht2.ov)
      have hok : okB (loA xs (ordF (keyA (fun _ b => b) xs) n x.1)) (hiA xs (ordF (keyA (fun _ b => b) xs) n x.1)) = true := HOK.out.2 _ ((ordF_ord _ _).lt x.2)
      clear hI ht2
      unfold ordH at HS
      have HK := hide (containsFunc_any va (stabTo xs pre).1.length vc Bx (loA xs (ordF (keyA (fun _ b => b) xs) n x.1)) (hiA xs (ordF (keyA (fun _ b => b) xs) n x.1)) (stabTo xs pre).1 W HINT.out (by omega) c0 c1 hBx)
      obtain ⟨hb0, hb1, hb2⟩ := okB_true hok
      cases han : anyIn (loA xs (ordF (keyA (fun _ b => b) xs) n x.1)) (hiA xs (ordF (keyA (fun _ b => b) xs) n x.1)) (stabTo xs pre).1
      · rw [han] at HK
        have HE : Hid (stabTo xs (pre ++ [x]) = ((stabTo xs pre).1 ++ [hiA xs (ordF (keyA (fun _ b => b) xs) n x.1) - 1], (stabTo xs pre).2 ++ [((ordF (keyA (fun _ b => b) xs) n x.1 : Nat) : Int)])) := by
          show stabTo xs (pre ++ [x]) = _
          rw [HS.out, stabStep, if_neg (by rw [han]; decide)]
        have hbb : -1099511627776 ≤ hiA xs (ordF (keyA (fun _ b => b) xs) n x.1) ∧ hiA xs (ordF (keyA (fun _ b => b) xs) n x.1) ≤ 1099511627776 := ⟨by omega, hb2⟩
        obtain ⟨hbb1, hbb2⟩ := hbb
        clear han HS HINT hok hb0 hb1 hb2
        generalize ordF (keyA (fun _ b => b) xs) n x.1 = o at c0 c1 HE HK hbb1 hbb2 h2 ⊢
        generalize hiA xs o = hh at c0 c1 HE HK hbb1 hbb2 h2 ⊢
        generalize loA xs o = ll at c0 c1 HE HK h2 ⊢
        clear h2
        gi_wp2_with fail
        refine ⟨trivial, (CallsIn.inRound l (callsIn_wide (n := 7).2 HK.out)).mono ?_⟩
        rintro e w5 ⟨rfl, hG5⟩
        have HI5 := hide (StabI.abides hwp (by omega) _ _ _ HI.out (Turn.of_below w4.heap.size [p, p + 1] hG5.below))
        obtain ⟨v, u, h25⟩ := HI5.out.two
        obtain ⟨va, vc, rfl⟩ := own_slice h25.ov
        obtain ⟨ua, uc, rfl⟩ := own_slice h25.ou
        have e1 := (hG5.cell (p := ⟨Bx, 1, none⟩) hBx).trans c1
        have ev := h25.bv.cell
        have HG5 := hide hG5
        have hsz5 : w4.heap.size ≤ w5.heap.size := HI5.out.size
        have hb3 : w4.heap.size ≤ (w5.alloc (.cells #[.int .i64 (hh - 1)] 3)).heap.size := by simp; omega
        have hk1 : (stabTo xs pre).1.length + 1 ≤ 128 := by omega
        have hk2 : (stabTo xs pre).2.length + 1 ≤ 128 := by omega
        have HB1 : Hid ((stabTo xs pre).1.length + 1 ≤ maxLen) := hide (by unfold maxLen; omega)
        have HB2 : Hid (((stabTo xs pre).1.length + 1) * 8 ≤ 140737488355328) := hide (by omega)
        have HB3 : Hid ((stabTo xs pre).2.length + 1 ≤ maxLen) := hide (by unfold maxLen; omega)
        have HB4 : Hid (((stabTo xs pre).2.length + 1) * 8 ≤ 140737488355328) := hide (by omega)
        have H2 := hide h25
        clear h25 hG5 cv c0 c1 HK HI hlen1 hlen2
        gi_wp2_with (first | (gi_at_builtin; refine wpListIn_append_own_at _ rfl (.tmp 23) (.tmp 27) _ rfl w4.heap.size 3 i0 (.int .i64 0) 1 8 Try.underlying43 hi0 hz0 hz1 hz2 rfl (by decide) _ _ _ rfl (H2.out.ov.alloc _) ⟨w5.heap.size, 0, none⟩ 1 1 [.int .i64 (hh - 1)] rfl rfl (cell_one_new _ _ _) (by simp [Value.oneCell']) HB1.out HB2.out hb3 ?_; intro v1 w6 hown1 hgrow1 hnil1 hat1; obtain ⟨⟨a1, cc1, rfl⟩, bb1, tt1, r1⟩ := H2.out.append (by omega) HI5.out.size (by omega) (by omega) hown1 hgrow1 hat1; have ce1 := bb1.cell; have cf1 := bb1.frozen; have cu1 := tt1.bu.cell; have T1 := hide tt1; have R1 := hide r1; have hb4 : w4.heap.size ≤ ((w6.setCell ⟨p, 0, none⟩ (.slice a1 ((stabTo xs pre).1.length + 1) cc1)).alloc (.cells #[.int .i64 (o : Int)] 3)).heap.size := (by have := HI5.out.size; have := R1.out.2.2.2.2; simp only [World.size_alloc]; omega); clear hown1 hgrow1 hnil1 hat1 bb1 tt1 r1) | (gi_at_builtin; refine wpListIn_append_own_at _ rfl (.tmp 29) (.tmp 31) _ rfl w4.heap.size 3 i0 (.int .i64 0) 1 8 Try.underlying43 hi0 hz0 hz1 hz2 rfl (by decide) _ _ _ rfl (T1.out.ou.alloc _) ⟨w6.heap.size, 0, none⟩ 1 1 [.int .i64 (o : Int)] rfl rfl (cell_one_at _ _ (size_set _ _ _)) (by simp [Value.oneCell']) HB3.out HB4.out hb4 ?_; intro v2 w7 hown2 hgrow2 hnil2 hat2; obtain ⟨⟨a2, cc2, rfl⟩, bb2, tt2, r2⟩ := T1.out.swap.append (by omega) (by have := HI5.out.size; have := R1.out.2.2.2.2; omega) (by omega) (by omega) hown2 hgrow2 hat2; have ce2 := bb2.cell; have cf2 := bb2.frozen; have T2 := hide tt2; have R2 := hide r2; clear hown2 hgrow2 hnil2 hat2 bb2 tt2 r2))
        have hK0 : Kept [p, p + 1] W w5 := Kept.of_below HG5.out.below (by intro b hb; simp at hb; omega)
        have hK1 := R1.out.2.1
        have hK2 := R2.out.2.1.perm (bs' := [p, p + 1]) (by intro b; simp; omega)
        have hO0 : KeepsOthers W w5 := KeepsOthers.of_grownBy (HG5.out.grownBy none) (fun j o h => by cases h)
        exact ⟨((hO0.trans R1.out.1).trans R2.out.1).from _, (hK0.trans hK1).trans hK2, ⟨⟨_, _, by rw [HE.out]; simpa using T2.out.swap⟩,
          R2.out.2.2.2.1 _ _ (by omega) (by omega) (R1.out.2.2.2.1 _ _ (by omega) (by omega) HI5.out.below), by have := HI5.out.size; have := R1.out.2.2.2.2; have := R2.out.2.2.2.2; omega⟩⟩
      · rw [han] at HK
        have HE : Hid (stabTo xs (pre ++ [x]) = stabTo xs pre) := by
          show stabTo xs (pre ++ [x]) = _
          rw [HS.out, stabStep, if_pos han]
        clear han HS HINT hok hb0 hb1 hb2 h2
        gi_wp2_with fail
        refine ⟨trivial, (CallsIn.inRound l (callsIn_wide (n := 7).2 HK.out)).mono ?_⟩
        rintro e w5 ⟨rfl, hG5⟩
        have HI5 := hide (StabI.abides hwp (by omega) _ _ _ HI.out (Turn.of_below w4.heap.size [p, p + 1] hG5.below))
        have HG5 := hide hG5
        clear hG5 HK
        gi_wp2
        have hK0 : Kept [p, p + 1] W w5 := Kept.of_below HG5.out.below (by intro b hb; have := HI.out.size; simp at hb; omega)
        have hO0 : KeepsOthers W w5 := KeepsOthers.of_grownBy (HG5.out.grownBy none) (fun j o h => by cases h)
        obtain ⟨v, u, h25⟩ := HI5.out.two
        exact ⟨hO0.from _, hK0, ⟨⟨v, u, by rw [HE.out]; exact h25⟩, HI5.out.below, HI5.out.size⟩⟩
    case done =>
      rintro D ys W hD rfl hI hK
      obtain ⟨v, u, h2⟩ := hI.two
      obtain ⟨va, vc, rfl⟩ := own_slice h2.ov
      obtain ⟨ua, uc, rfl⟩ := own_slice h2.ou
      have hP : (stabTo xs (ups n n)).1 = stabP xs := by
        unfold stabP
        rw [if_pos HCN.out, HX.out.1]
      have hO : (stabTo xs (ups n n)).2 = stabO xs := by
        unfold stabO
        rw [if_pos HCN.out, HX.out.1]
      rw [hP, hO] at h2
      have cv := h2.bv.cell
      have cu := h2.bu.cell
      have HI := hide hI
      have H2 := hide h2
      clear hI h2 hP hO
      gi_wp2_with fail
      gi_region
      gi_wp2
      refine ⟨by simp, .inl ⟨_, _, rfl, run_takeDeferred (ds := []) ?hD, ?_⟩⟩
      case hD => exact hK
      have hD3 : W.drew.heap[D]? = some (.deferred (some [])) := hK
      have ho : ∀ {s : Value} {k : Nat} {zs : List Value}, W.ownsRow w4.heap.size 3 1 s k zs → (W.drew.putObj D (.deferred none)).ownsRow w4.heap.size 3 1 s k zs := fun h => ownsRow_putObj (W := W.drew) h _ hD3 rfl
      exact ⟨_, results_tmp3 (fn := Try.f84) (t := 2) (u := 3) (v := 4) rfl _ _ _, _, _, _, _, _, _, by rw [HCN.out]; rfl, ints_of_own (ho H2.out.ov), ints_of_own (ho H2.out.ou),
        HI.out.below.drew.trans (belowK_b (w := w) (Nat.le_refl _) _ D _ _ (by omega) hD3 rfl rfl)⟩
    case stop =>
      rintro D c pre W hD _ hX hK
      exact hX.elim
  · have HCN := hide hc
    have hc1 : (checkE xs == 0) = false := beq_eq_false_iff_ne.2 hc
    have hc2 : (checkE xs != 0) = true := by rw [bne_iff_ne]; exact hc
    clear hc
    gi_wp2_with fail
    refine ⟨trivial, HC.out.mono ?_⟩
    rintro e w2 ⟨rfl, hG⟩
    have HG := hide hG
    clear hG
    gi_wp2
    exact ⟨_, results_tmp3 (fn := Try.f84) (t := 2) (u := 3) (v := 4) rfl _ _ _, stabpost_err HCN.out HG.out.below⟩

theorem stab_any (A : Option Addr) (n cap : Nat) (xs : List Sp) (w : World) (hx : SpansAt w.heap.size w A n xs) (hst : n ≤ 128 → StableSaid n) :
    Calls Try.prog 84 #[.slice A n cap] w (StabPost xs w) := callsIn_wide.1 (stab_in A n cap xs w hx hst)

end Go.Proofs.Ytikfiofjhmeheaa
