/- Contract of Trays: the program's. -/
import Derived.Test.YtikfiofjhmeheaaN28
import Derived.Test.YtikfiofjhmeheaaN29
namespace Go.Proofs.Ytikfiofjhmeheaa
open Go.RowKit Go.Sort
attribute [local go_sem] Oper.semAt_some

set_option maxHeartbeats 400000 in
theorem has88_any (lo x : Int) (Bx : Nat) (w : World) (h0 : w.cell? ⟨Bx, 0, none⟩ = some (.int .i64 lo)) :
    Calls Try.prog 88 #[.int .i64 x, .pointer (some ⟨Bx, 0, none⟩)] w fun e w' => e = .returned (.bool (decide (x ≤ lo))) ∧ Gr w w' := by
  go_enter Try.func88, Try.ntmps88
  go_wp2
  go_ret
  exact ⟨rfl, Gr.refl _⟩

def freeR (ys : List Int) (lo : Int) (n : Nat) : Int := if freeAt ys lo < n then (freeAt ys lo : Nat) else -1
theorem freeR_hit {ys : List Int} {lo : Int} {n k : Nat} (h : freeAt ys lo = k) (hk : k < n) : (k : Int) = freeR ys lo n := by
  unfold freeR
  rw [h, if_pos hk]
theorem freeR_none {ys : List Int} {lo : Int} {n : Nat} (h : freeAt ys lo = n) : (-1 : Int) = freeR ys lo n := by
  unfold freeR
  rw [h, if_neg (Nat.lt_irrefl _)]
set_option maxHeartbeats 2000000 in
set_option maxRecDepth 100000 in
theorem index88_any (A : Option Addr) (n cap Bx : Nat) (lo : Int) (ys : List Int) (w : World) (hy : IntsAt w.heap.size w A n ys) (hn : n ≤ 1000000)
    (h0 : w.cell? ⟨Bx, 0, none⟩ = some (.int .i64 lo)) (hl : Bx < w.heap.size) :
    Calls Try.prog 87 #[.slice A n cap, .func (.func 88) #[] #[.pointer (some ⟨Bx, 0, none⟩)]] w fun e w' =>
      e = .returned (.int .i64 (freeR ys lo n)) ∧ Gr w w' := by
  have HY := hide hy
  have H0 := hide h0
  clear hy h0
  go_enter Try.func87, Try.ntmps87
  go_wp2
  go_loopw [8] (fun i wr => ∃ k : Nat, k ≤ n ∧ i = .int .i64 k ∧ Hid (∀ j, j < k → lo < iA ys j) ∧ Gr w wr) (fun i _ => n - (intOf i).toNat)
  case atStart => exact ⟨0, Nat.zero_le _, rfl, hide fun j hj => by omega, Gr.refl _⟩
  case round =>
    obtain ⟨k, hk, rfl, HA, hG⟩ := hrel
    by_cases hlt : k < n
    · obtain ⟨b, off, rfl, hb, c0⟩ := HY.out.at_ hlt
      have d0 := (hG.cell (p := ⟨b, off + k, none⟩) hb).trans c0
      have HB := hide ((hG.cell (p := ⟨Bx, 0, none⟩) hl).trans H0.out)
      have hlt' : (k : Int) < (n : Int) := by omega
      have HG := hide hG
      clear c0 hG
      have HF := hide (has88_any lo (iA ys k) Bx wr HB.out)
      by_cases hv : iA ys k ≤ lo
      · have HV : Hid (freeAt ys lo = k) := freeAt_is (by rw [HY.out.1]; omega) HA.out (fun _ => hv)
        rw [decide_eq_true hv] at HF
        clear hv
        go_wp2_with (go_at_call 88; refine HF.out.mono ?_; rintro e w' ⟨rfl, hG2⟩; have HG2 := hide hG2; clear hG2)
        go_ret
        exact ⟨ret_int (freeR_hit HV.out hlt), HG.out.trans HG2.out⟩
      · have HV : Hid (∀ j, j < k + 1 → lo < iA ys j) := fun j hj => by
          rcases Nat.lt_or_ge j k with h | h
          · exact HA.out j h
          · obtain rfl : j = k := by omega
            omega
        rw [decide_eq_false hv] at HF
        clear hv
        go_wp2_with (go_at_call 88; refine HF.out.mono ?_; rintro e w' ⟨rfl, hG2⟩; have HG2 := hide hG2; clear hG2)
        go_roundw
        case rel => exact ⟨k + 1, by omega, by go_num, HV, HG.out.trans HG2.out⟩
        case measure => simp [intOf]; omega
    · obtain rfl : k = n := by omega
      have HG := hide hG
      have HV : Hid (freeAt ys lo = k) := freeAt_is (by rw [HY.out.1]; omega) HA.out (fun h => by have := HY.out.1; omega)
      clear hG
      go_wp2
      go_ret
      exact ⟨ret_int (freeR_none HV.out), HG.out⟩

noncomputable def trayL (xs : List Sp) : List Int := if checkE xs = 0 then (layTo xs (ups xs.length xs.length)).2 else []
noncomputable def trayN (xs : List Sp) : Nat := if checkE xs = 0 then (layTo xs (ups xs.length xs.length)).1.length else 0
def TraysPost (xs : List Sp) (w : World) (e : Ending) (w' : World) : Prop :=
  ∃ (A1 : Option Addr) (n1 c1 : Nat), e = .returned (.tuple #[.slice A1 n1 c1, .int .i64 (trayN xs : Nat), .int .i64 (checkE xs)]) ∧ IntsAt w'.heap.size w' A1 n1 (trayL xs) ∧ Below w.heap.size w w'
theorem trayspost_err {xs : List Sp} {w w' : World} (hr : checkE xs ≠ 0) (hb : Below w.heap.size w w') :
    TraysPost xs w (.returned (.tuple #[.slice none 0 0, .int .i64 0, .int .i64 (checkE xs)])) w' := by
  refine ⟨none, 0, 0, ?_, ?_, hb⟩
  · unfold trayN
    rw [if_neg hr]
    rfl
  · unfold trayL
    rw [if_neg hr]
    exact ints_nil _ _ _

structure TrayI (w w4 : World) (xs : List Sp) (n p q g : Nat) (pre : List (Fin n)) (W : World) : Prop where
  st : ∃ u, TrayS w4.heap.size w.heap.size W p q g n (layTo xs pre).2 u (layTo xs pre).1.length (layTo xs pre).1
  below : Below w.heap.size w W
  size : w4.heap.size ≤ W.heap.size
theorem TrayI.abides {w w4 : World} {xs : List Sp} {n p q g : Nat} (hp : Places w4.heap.size w.heap.size p q g) : Abides w4.heap.size [p, q] (TrayI w w4 xs n p q g) := fun s W W' h ht => by
  obtain ⟨u, h2⟩ := h.st
  have h3 := hp.p0
  have h4 := hp.q0
  have h5 := hp.bp
  exact ⟨⟨u, turn_old ht h2.bt h3, turn_old ht h2.be h4, turn_row ht (by simp) h2.bt h2.ot, turn_row ht (by simp) h2.be h2.oe⟩, turn_below ht h.below (by omega) (Nat.le_refl _), Nat.le_trans h.size ht.size⟩

theorem made_ints (W : World) {base n : Nat} (hb : base ≤ W.heap.size) (hn : n ≤ 1000000) : (W.alloc (.cells (madeCells #[.int .i64 0] n) 3)).ownsRow base 3 1 (.slice (some ⟨W.heap.size, 0, none⟩) n n) n ((List.replicate n (0 : Int)).map (Value.int .i64)) := by
  have h := World.ownsRow_lit (base := base) (e := 3) (size := 1) W (madeCells #[.int .i64 0] n) n hb (by unfold maxLen; omega) (by rw [size_madeCells]; omega)
  rw [toList_madeCells_one] at h
  rw [List.map_replicate]
  exact h

theorem row_block_pos {W : World} {base : Nat} {e : TypeId} {size k c : Nat} {a : Option Addr} {zs : List Value} (h : W.ownsRow base e size (.slice a k c) k zs) (hk : 0 < k) : ∃ b, a = some ⟨b, 0, none⟩ := by
  obtain ⟨k, rfl⟩ : ∃ j, k = j + 1 := ⟨k - 1, by omega⟩
  exact row_block h
theorem not_own {W : World} {base size k Bx : Nat} {u : Value} {zs : List Value} {cs : Array Value} (h : W.ownsRow base 3 size u k zs) (hB : W.heap[Bx]? = some (.cells cs 42 (0, 0))) : u.ownBlock ≠ some Bx := by
  intro e
  rcases h.2 with ⟨hv, _⟩ | ⟨g', cap, cur, hv, _, hg, _⟩
  · rw [hv] at e
    cases e
  · rw [hv] at e
    simp only [Value.ownBlock, Option.some.injEq] at e
    subst e
    rw [hg] at hB
    injection hB with hB
    injection hB with _ hB
    cases hB
theorem own_cell {W : World} {base k c b t : Nat} {E : List Int} (h : W.ownsRow base 3 1 (.slice (some ⟨b, 0, none⟩) k c) k (E.map (Value.int .i64))) (ht : t < k) : W.cell? ⟨b, t, none⟩ = some (.int .i64 (iA E t)) ∧ W.frozen? ⟨b, t, none⟩ = false := by
  refine ⟨?_, h.frozenAt t⟩
  rw [h.cellAt t (by omega)]
  have hl := h.1
  simp at hl
  rw [List.getElem?_map, List.getElem?_eq_getElem (by omega), iA_gt (by omega)]
  rfl

set_option maxHeartbeats 4000000 in
set_option maxRecDepth 100000 in
theorem Trays_in (A : Option Addr) (n cap : Nat) (xs : List Sp) (w : World) (hx : SpansAt w.heap.size w A n xs) (hst : n ≤ 128 → StableSaid n) :
    CallsIn Fence.wide 10 Try.prog 50 #[.slice A n cap] w (TraysPost xs w) := by
  have HX := hide hx
  have HC := hide (callsIn_wide (n := 9).2 (check_any A n cap xs w hx))
  have HST := hide hst
  clear hx hst
  refine callsIn_of_wp_marks Try.func50 rfl trivial ?_ rfl
  simp only [Try.ntmps50, List.size_toArray, List.length_cons, List.length_nil, Nat.reduceAdd, Nat.reduceSub, Array.replicate_succ, Array.replicate_zero, List.push_toArray, List.append_toArray, List.nil_append, List.cons_append]
  by_cases hc : checkE xs = 0
  · have HCN := hide hc
    have HCC := HC.out
    rw [hc] at HCC
    have HC2 := hide HCC
    have HOK := hide (ok_of_check hc HX.out.1)
    have hn := HOK.out.1
    clear hc HC HCC
    gi_wp2_with fail
    refine ⟨trivial, HC2.out.mono ?_⟩
    rintro e w2 ⟨rfl, hG⟩
    have hsz2 := hG.size
    have hmk := run_make_row' (P := Try.prog) 43 3 (.int .i64 0) 8 Try.underlying43 info3' rfl .i64 .i64 n (by omega) (by omega)
    have HG := hide hG
    clear hG HC2
    gi_wp2_with fail
    have hst2 := inOrder_any 86 A n cap (((w2.alloc (.cells (madeCells #[.int .i64 0] n) 3)).alloc (.cells #[.slice (some ⟨w2.heap.size, 0, none⟩) n n] 43)).alloc (.cells #[.slice none 0 0] 43))
    simp only [World.size_alloc] at hst2
    refine ⟨trivial, (callsIn_wide (n := 9).2 hst2).mono ?_⟩
    rintro e w4 ⟨rfl, hw4⟩
    obtain ⟨g, hg⟩ : ∃ g, w2.heap.size = g := ⟨_, rfl⟩
    have ho0 : (w2.alloc (.cells (madeCells #[.int .i64 0] n) 3)).ownsRow w.heap.size 3 1 (.slice (some ⟨w2.heap.size, 0, none⟩) n n) n ((List.replicate n (0 : Int)).map (Value.int .i64)) := made_ints w2 hsz2 (by omega)
    have hot : w4.ownsRow w.heap.size 3 1 (.slice (some ⟨g, 0, none⟩) n n) n ((List.replicate n (0 : Int)).map (Value.int .i64)) := by
      rw [← hw4, ← hg]
      exact (((ho0.alloc _).alloc _).alloc _).alloc _
    have hsz4 : w4.heap.size = g + 5 := by rw [← hw4, ← hg]; simp
    have bt : Boxed w4 (g + 1) 43 (.slice (some ⟨g, 0, none⟩) n n) := by rw [← hw4, ← hg]; exact heap_old _ (heap_old _ (heap_old _ (heap_new _ (size_alloc' _ rfl))))
    have be : Boxed w4 (g + 1 + 1) 43 (.slice none 0 0) := by rw [← hw4]; exact heap_old _ (heap_old _ (heap_new _ (size_alloc' _ (size_alloc' _ hg))))
    have bl : Boxed w4 (g + 1 + 1 + 1) 22 (.slice A n cap) := by rw [← hw4]; exact heap_old _ (heap_new _ (size_alloc' _ (size_alloc' _ (size_alloc' _ hg))))
    have bk : Boxed w4 (g + 1 + 1 + 1 + 1) 70 (.func (.func 86) #[] #[]) := by rw [← hw4]; exact heap_new _ (size_alloc' _ (size_alloc' _ (size_alloc' _ (size_alloc' _ hg))))
    have hG4 : Gr w2 w4 := by rw [← hw4]; exact (((((Gr.refl w2).alloc _).alloc _).alloc _).alloc _).alloc _
    have hbw := (HG.out.trans hG4).below
    have hxs := HX.out.below hbw
    have hP : Places w4.heap.size w.heap.size (g + 1) (g + 1 + 1) g := ⟨by omega, by omega, by omega, by omega, by omega, by omega, by omega, by omega, by omega⟩
    have hwg : w.heap.size ≤ g := by omega
    rw [hg]
    clear hw4 hG4 hst2 hg ho0 hmk hsz2
    gi_wp2_with fail
    have hnr : ∀ b, RowOf [g + 1, g + 1 + 1] w4 b → b = g := by
      rintro b' ⟨b, hb, v, hc, ho⟩
      simp at hb
      rcases hb with rfl | rfl
      · rw [bt.cell] at hc
        injection hc with hc
        subst hc
        simp only [Value.ownBlock, Option.some.injEq] at ho
        exact ho.symm
      · rw [be.cell] at hc
        injection hc with hc
        subst hc
        cases ho
    refine range_own (m := 10) (gf := 93) (lb := #[.pointer (some ⟨g + 1 + 1 + 1, 0, none⟩), .pointer (some ⟨g + 1 + 1 + 1 + 1, 0, none⟩)]) rfl (enters_of Try.func93 (by kernel_rfl) rfl)
      (inOrder_seq 9 (by omega) (g + 1 + 1 + 1) (g + 1 + 1 + 1 + 1) 86 [g + 1, g + 1 + 1] A n cap xs (fun a _ => a) key86 (HST.out hn) hn w4 (by simp; omega) (fun b h => by rw [hnr b h]; omega) bl.cell ⟨by simp; omega, fun h => by have := hnr _ h; omega⟩ (by omega) bk.cell (by omega) w.heap.size (by omega) hxs (fun k hk => ⟨by simp; omega, fun h => by have := hnr _ h; omega⟩))
      (fun _ => rfl) (by simp; omega) (TrayI w w4 xs n (g + 1) (g + 1 + 1) g) (fun _ _ _ => False) (TrayI.abides hP) (fun _ _ _ _ h _ => h)
      ⟨⟨_, bt, be, hot, World.ownsRow_nil _ _ _ _⟩, hbw, Nat.le_refl _⟩
      (fun x a' W => ∃ Bx, w4.heap.size ≤ Bx ∧ W.heap[Bx]? = some (.cells #[.int .i64 (loA xs (ordL xs n x.1)), .int .i64 (hiA xs (ordL xs n x.1))] 42 (0, 0)) ∧
        a' = { tmps := #[.slice A n cap, undef, .slice none 0 0, .int .i64 0, .int .i64 0, .int .i64 0, .pointer (some ⟨g + 1, 0, none⟩), .pointer (some ⟨g + 1 + 1, 0, none⟩), .int .i64 (ordL xs n x.1 : Nat), .pointer (some ⟨Bx, 0, none⟩), undef, .slice A n cap, .int .i64 0, .int .i64 0, .bool false, undef, .slice A n cap,
          .int .i64 (n : Int), .slice (some ⟨g, 0, none⟩) n n, .slice A n cap, .func (.func 93) #[] #[.pointer (some ⟨g + 1 + 1 + 1, 0, none⟩), .pointer (some ⟨g + 1 + 1 + 1 + 1, 0, none⟩)], .int .i64 (ordL xs n x.1 : Nat), .agg #[.int .i64 (loA xs (ordL xs n x.1)), .int .i64 (hiA xs (ordL xs n x.1))],
          undef, undef, undef, undef, undef, undef, undef, undef, undef, undef, undef, undef, undef, undef, undef, undef, undef, undef, undef, undef, undef, undef], defers := [] })
      ?hax ?assign ?body ?done ?stop
    case hax =>
      rintro x a' W l o o' ⟨Bx, h1, h2, h4⟩ hl ho hc
      exact ⟨Bx, h1, (World.putObj_heap_other (fun e => by subst e; rw [ho] at h2; injection h2 with h2; subst h2; cases hc)).trans h2, h4⟩
    case assign =>
      intro l pre x W K hI hK
      dsimp only [encO]
      gi_wp2
      exact hK _ _ ((Below.refl _ _).alloc (Nat.le_refl _) _) ⟨W.heap.size, hI.size, World.alloc_heap_new W _, rfl⟩
    case body =>
      rintro l pre x a' W hl hI ⟨Bx, h1, h2, rfl⟩ hlt
      obtain ⟨i0, hi0, hz0, hz1, hz2⟩ := info_parts info3
      have HI := hide hI
      have c0 := cell_of_heap h2 0
      have c1 := cell_of_heap h2 1
      simp at c0 c1
      have hBx := lt_of_heap h2
      obtain ⟨hlen1, hlen2⟩ := layTo_length xs pre
      have HS := hide (layTo_snoc xs pre x)
      obtain ⟨u, ht2⟩ := hI.st
      obtain ⟨ua, uc, rfl⟩ := own_slice ht2.oe
      have cq := ht2.be.cell
      have HINT := hide (ints_of_own ht2.oe)
      have hon : ordL xs n x.1 < n := ordL_lt xs x.2
      clear hI ht2
      have hfl := freeAt_le (layTo xs pre).1 (loA xs (ordL xs n x.1))
      have HK := hide (index88_any ua (layTo xs pre).1.length uc Bx (loA xs (ordL xs n x.1)) (layTo xs pre).1 W HINT.out (by omega) c0 hBx)
      have HL : Hid (layTo xs (pre ++ [x]) = (layEnds (layTo xs pre).1 (loA xs (ordL xs n x.1)) (hiA xs (ordL xs n x.1)), (layTo xs pre).2.set (ordL xs n x.1) (freeAt (layTo xs pre).1 (loA xs (ordL xs n x.1)) : Nat))) := HS.out
      have HH2 := hide h2
      clear HS h2
      generalize ordL xs n x.1 = o at c0 c1 HK HL HH2 hon hfl ⊢
      have hon' : (o : Int) < (n : Int) := by omega
      by_cases hfr : freeAt (layTo xs pre).1 (loA xs o) < (layTo xs pre).1.length
      · have HR : Hid (freeR (layTo xs pre).1 (loA xs o) (layTo xs pre).1.length = (freeAt (layTo xs pre).1 (loA xs o) : Nat)) := (freeR_hit rfl hfr).symm
        have HE : Hid (layTo xs (pre ++ [x]) = ((layTo xs pre).1.set (freeAt (layTo xs pre).1 (loA xs o)) (hiA xs o), (layTo xs pre).2.set o (freeAt (layTo xs pre).1 (loA xs o) : Nat))) := by
          show _ = _
          rw [HL.out]
          unfold layEnds
          rw [if_pos hfr]
        rw [HR.out] at HK
        obtain ⟨t, ht⟩ : ∃ t, freeAt (layTo xs pre).1 (loA xs o) = t := ⟨_, rfl⟩
        rw [ht] at HK HE hfr
        have hd : decide ((t : Int) < 0) = false := decide_eq_false (by omega)
        have hfr' : (t : Int) < ((layTo xs pre).1.length : Int) := by omega
        clear HINT HL HR hfl ht
        generalize loA xs o = ll at c0 HK HH2 ⊢
        generalize hiA xs o = hh at c1 HE HH2 ⊢
        gi_wp2_with fail
        refine ⟨trivial, (CallsIn.inRound l (callsIn_wide (n := 7).2 HK.out)).mono ?_⟩
        rintro e w5 ⟨rfl, hG5⟩
        have HI5 := hide (TrayI.abides hP _ _ _ HI.out (Turn.of_below w4.heap.size [g + 1, g + 1 + 1] hG5.below))
        obtain ⟨u5, h25⟩ := HI5.out.st
        obtain ⟨ua5, uc5, rfl⟩ := own_slice h25.oe
        obtain ⟨b5, rfl⟩ := row_block_pos h25.oe (by omega)
        have e1 := (hG5.cell (p := ⟨Bx, 1, none⟩) hBx).trans c1
        have cq5 := h25.be.cell
        obtain ⟨ct, ft⟩ := own_cell h25.oe hfr
        obtain ⟨hs1, hl1⟩ := h25.storeE hP t hh
        have cp := hs1.bt.cell
        obtain ⟨co, fo⟩ := own_cell hs1.ot hon
        obtain ⟨hs2, hl2⟩ := hs1.storeT hP o (t : Int)
        have HS2 := hide hs2
        have HLL := hide (hl1.trans hl2)
        have HG5 := hide hG5
        clear hs1 hl1 hs2 hl2 hG5 h25 HK cq
        gi_wp2
        obtain ⟨k1, k2, k3, k4⟩ := HLL.out
        have hK0 : Kept [g + 1, g + 1 + 1] W w5 := Kept.of_below HG5.out.below (by intro b hb; have := HI.out.size; simp at hb; omega)
        have hO0 : KeepsOthers W w5 := KeepsOthers.of_grownBy (HG5.out.grownBy none) (fun j o h => by cases h)
        refine ⟨(hO0.trans k1).from _, hK0.trans k2, ⟨⟨_, by rw [HE.out]; simpa using HS2.out⟩, k4 _ _ (by omega) (by omega) (by omega) (by omega) HI5.out.below, by have := HI5.out.size; omega⟩⟩
      · have hfe : freeAt (layTo xs pre).1 (loA xs o) = (layTo xs pre).1.length := by omega
        have HR : Hid (freeR (layTo xs pre).1 (loA xs o) (layTo xs pre).1.length = -1) := (freeR_none hfe).symm
        have HE : Hid (layTo xs (pre ++ [x]) = (((layTo xs pre).1 ++ [0]).set (layTo xs pre).1.length (hiA xs o), (layTo xs pre).2.set o ((layTo xs pre).1.length : Nat))) := by
          show _ = _
          rw [HL.out]
          unfold layEnds
          rw [if_neg hfr, hfe]
        rw [HR.out] at HK
        clear HINT HL HR hfl hfe hfr
        generalize loA xs o = ll at c0 HK HH2 ⊢
        generalize hiA xs o = hh at c1 HE HH2 ⊢
        gi_wp2_with fail
        refine ⟨trivial, (CallsIn.inRound l (callsIn_wide (n := 7).2 HK.out)).mono ?_⟩
        rintro e w5 ⟨rfl, hG5⟩
        have HI5 := hide (TrayI.abides hP _ _ _ HI.out (Turn.of_below w4.heap.size [g + 1, g + 1 + 1] hG5.below))
        obtain ⟨u5, h25⟩ := HI5.out.st
        obtain ⟨ua5, uc5, rfl⟩ := own_slice h25.oe
        have e1 := (hG5.cell (p := ⟨Bx, 1, none⟩) hBx).trans c1
        have hH5 := (hG5.block hBx).trans HH2.out
        have hno := not_own h25.oe hH5
        have HNO := hide hno
        have HE1 := hide e1
        have hBx5 : Bx < w5.heap.size := lt_of_heap hH5
        have cq5 := h25.be.cell
        have hsz5 : w4.heap.size ≤ w5.heap.size := HI5.out.size
        have hb3 : w4.heap.size ≤ (w5.alloc (.cells #[.int .i64 0] 3)).heap.size := by simp; omega
        have HB1 : Hid ((layTo xs pre).1.length + 1 ≤ maxLen) := hide (by unfold maxLen; omega)
        have HB2 : Hid (((layTo xs pre).1.length + 1) * 8 ≤ 140737488355328) := hide (by omega)
        have hkk : ((layTo xs pre).1.length : Int) < ((layTo xs pre).1.length : Int) + 1 := by omega
        have H2 := hide h25
        have HG5 := hide hG5
        clear hG5 h25 HK cq hno hH5 e1
        gi_wp2_with (gi_at_builtin; refine wpListIn_append_own_at _ rfl (.tmp 30) (.tmp 31) _ rfl w4.heap.size 3 i0 (.int .i64 0) 1 8 Try.underlying43 hi0 hz0 hz1 hz2 rfl (by decide) _ _ _ rfl (H2.out.oe.alloc _) ⟨w5.heap.size, 0, none⟩ 1 1 [.int .i64 0] rfl rfl (cell_one_new _ _ _) (by simp [Value.oneCell']) HB1.out HB2.out hb3 ?_; intro v1 w6 hown1 hgrow1 hnil1 hat1; obtain ⟨⟨a1, cc1, rfl⟩, bb1, tt1, r1⟩ := H2.out.append hP HI5.out.size hown1 hgrow1 hat1; obtain ⟨b1, rfl⟩ := row_block tt1.oe; have ce1 := bb1.cell; have cf1 := bb1.frozen; have cq6 := tt1.be.cell; have e6 := (World.cell?_of_block (a := ⟨Bx, 1, none⟩) (r1.block Bx hBx5 (by omega) (by omega) (by omega) HNO.out)).trans HE1.out; obtain ⟨ct, ft⟩ := own_cell tt1.oe (t := (layTo xs pre).1.length) (by omega); obtain ⟨hs1, hl1⟩ := tt1.storeE hP (layTo xs pre).1.length hh; have cp := hs1.bt.cell; obtain ⟨co, fo⟩ := own_cell hs1.ot hon; obtain ⟨hs2, hl2⟩ := hs1.storeT hP o ((layTo xs pre).1.length : Int); have HS2 := hide hs2; have HLL := hide (hl1.trans hl2); have R1 := hide r1; clear hown1 hgrow1 hnil1 hat1 bb1 tt1 r1 hs1 hl1 hs2 hl2)
        obtain ⟨k1, k2, k3, k4⟩ := HLL.out
        have hK0 : Kept [g + 1, g + 1 + 1] W w5 := Kept.of_below HG5.out.below (by intro b hb; have := HI.out.size; simp at hb; omega)
        have hO0 : KeepsOthers W w5 := KeepsOthers.of_grownBy (HG5.out.grownBy none) (fun j o h => by cases h)
        refine ⟨((hO0.trans R1.out.others).trans k1).from _, (hK0.trans R1.out.kept).trans k2, ⟨⟨_, by rw [HE.out]; simpa using HS2.out⟩, k4 _ _ (by omega) (by omega) (by omega) (by omega) (R1.out.below _ _ (by omega) (by omega) (by omega) (by omega) HI5.out.below), by have := HI5.out.size; have := R1.out.size; omega⟩⟩
    case done =>
      rintro D ys W hD rfl hI hK
      obtain ⟨u, h2⟩ := hI.st
      obtain ⟨ua, uc, rfl⟩ := own_slice h2.oe
      have hP2 : (layTo xs (ups n n)).2 = trayL xs := by
        unfold trayL
        rw [if_pos HCN.out, HX.out.1]
      have hN2 : (layTo xs (ups n n)).1.length = trayN xs := by
        unfold trayN
        rw [if_pos HCN.out, HX.out.1]
      rw [hP2, hN2] at h2
      have cv := h2.bt.cell
      have cu := h2.be.cell
      have HI := hide hI
      have H2 := hide h2
      clear hI h2 hP2 hN2
      gi_wp2_with fail
      gi_region
      gi_wp2
      refine ⟨by simp, .inl ⟨_, _, rfl, run_takeDeferred (ds := []) ?hD, ?_⟩⟩
      case hD => exact hK
      have hD3 : W.drew.heap[D]? = some (.deferred (some [])) := hK
      have ho : ∀ {s : Value} {b k : Nat} {zs : List Value}, W.ownsRow b 3 1 s k zs → (W.drew.putObj D (.deferred none)).ownsRow b 3 1 s k zs := fun h => ownsRow_putObj (W := W.drew) h _ hD3 rfl
      exact ⟨_, results_tmp3 (fn := Try.f50) (t := 2) (u := 3) (v := 4) rfl _ _ _, _, _, _, by rw [HCN.out]; rfl, ints_of_own (ho H2.out.ot),
        HI.out.below.drew.trans (belowK_b (w := w) (Nat.le_refl _) _ D _ _ (by omega) hD3 rfl rfl)⟩
    case stop =>
      rintro D c pre W hD _ hX hK
      exact hX.elim
  · have HCN := hide hc
    have hc1 : (checkE xs == 0) = false := beq_eq_false_iff_ne.2 hc
    have hc2 : (checkE xs != 0) = true := by rw [bne_iff_ne]; exact hc
    clear hc
    gi_wp2_with fail
    refine ⟨trivial, HC.out.mono ?_⟩
    rintro e w2 ⟨rfl, hG⟩
    have HG := hide hG
    clear hG
    gi_wp2
    exact ⟨_, results_tmp3 (fn := Try.f50) (t := 2) (u := 3) (v := 4) rfl _ _ _, trayspost_err HCN.out HG.out.below⟩

theorem Trays_any (A : Option Addr) (n cap : Nat) (xs : List Sp) (w : World) (hx : SpansAt w.heap.size w A n xs) :
    Calls Try.prog 50 #[.slice A n cap] w (TraysPost xs w) := callsIn_wide.1 (Trays_in A n cap xs w hx (fun h => stable_any n (by omega)))

end Go.Proofs.Ytikfiofjhmeheaa
