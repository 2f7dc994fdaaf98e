/- Contracts of combine, Union, Intersect, Subtract and Not. -/
import Derived.Test.YtfahlgjolihmkaaDoorN10
import Derived.Test.YtfahlgjolihmkaaDoorZ5
namespace Go.Proofs.YtfahlgjolihmkaaDoor
open Go.RowKit Go.Sort
attribute [local go_sem] Oper.semAt_some

/-- what is asked of the rule by which a piece is kept -/
def KeepCalls (g : Nat) (keep : Bool → Bool → Bool) : Prop := (∀ args w, (callFunc g args).run Tryd.prog w = .ok (.enter g args) w) ∧ ∀ (p q : Bool) (W : World), Calls Tryd.prog g #[.bool p, .bool q] W fun e w' => e = .returned (.bool (keep p q)) ∧ Gr W w'
theorem keep71 : KeepCalls 31 (fun p q => p || q) := ⟨enters_of Tryd.func31 (by kernel_rfl) rfl, fun p q W => by
  cases p <;> cases q
  all_goals
    go_enter Tryd.func31, Tryd.ntmps31
    go_wp2
    go_ret
    exact ⟨rfl, Gr.refl _⟩⟩
theorem keep72 : KeepCalls 32 (fun p q => p && q) := ⟨enters_of Tryd.func32 (by kernel_rfl) rfl, fun p q W => by
  cases p <;> cases q
  all_goals
    go_enter Tryd.func32, Tryd.ntmps32
    go_wp2
    go_ret
    exact ⟨rfl, Gr.refl _⟩⟩
def comV (keep : Bool → Bool → Bool) (xs ys : List Sp) : List Sp := if setB xs && setB ys && decide ((combL keep xs ys).length ≤ 128) then combL keep xs ys else []
def comE (keep : Bool → Bool → Bool) (xs ys : List Sp) : Int := if setB xs && setB ys then (if (combL keep xs ys).length ≤ 128 then 0 else 8) else 2
theorem com_no {keep : Bool → Bool → Bool} {xs ys : List Sp} {w w' : World} (h : (setB xs && setB ys) = false) (hb : Below w.heap.size w w') : SetPost (comE keep xs ys) (comV keep xs ys) w (.returned (.tuple #[.slice none 0 0, .int .i64 2])) w' := by
  unfold comE comV
  rw [h]
  exact setpost_nil hb

/-- what has been kept of the first pieces -/
def outTo (keep : Bool → Bool → Bool) (xs ys : List Sp) (L : List Int) (pre : List (Fin L.length)) : List Sp := combTo keep xs ys (pre.map fun x => iA L x.1)
theorem outTo_snoc (keep : Bool → Bool → Bool) (xs ys : List Sp) (L : List Int) (pre : List (Fin L.length)) (x : Fin L.length) : outTo keep xs ys L (pre ++ [x]) = combS keep xs ys (outTo keep xs ys L pre) (iA L x.1) := by
  unfold outTo
  rw [List.map_append, List.map_singleton, combTo_snoc]
theorem outTo_length (keep : Bool → Bool → Bool) (xs ys : List Sp) (L : List Int) (pre : List (Fin L.length)) : (outTo keep xs ys L pre).length ≤ pre.length := by
  have := combTo_length keep xs ys (pre.map fun x => iA L x.1)
  unfold outTo
  simpa using this
theorem outTo_all (keep : Bool → Bool → Bool) (xs ys : List Sp) : outTo keep xs ys (pcL xs ys) (ups (pcL xs ys).length (pcL xs ys).length) = combL keep xs ys := by
  unfold outTo combL
  rw [ups_all]
  congr 1
  apply List.ext_getElem
  · simp
  · intro i h1 h2
    simp only [List.getElem_map, List.getElem_finRange, Fin.cast]
    rw [iA_get h2]

structure CombI (w w4 : World) (g q p : Nat) (keep : Bool → Bool → Bool) (xs ys : List Sp) (L : List Int) (pre : List (Fin L.length)) (W : World) : Prop where
  row : ∃ a c, Boxed W p 22 (.slice a (outTo keep xs ys L pre).length c) ∧ W.ownsRow w4.heap.size 41 2 (.slice a (outTo keep xs ys L pre).length c) (outTo keep xs ys L pre).length (flat (outTo keep xs ys L pre))
  key : Boxed W q 56 (.func (.func g) #[] #[])
  below : Below w.heap.size w W
  size : w4.heap.size ≤ W.heap.size
theorem CombI.abides {w w4 : World} {g q p : Nat} {keep : Bool → Bool → Bool} {xs ys : List Sp} {L : List Int} (hp : w.heap.size ≤ p) (h4 : p < w4.heap.size) (hq : q < w4.heap.size) : Abides w4.heap.size [p] (CombI w w4 g q p keep xs ys L) := fun s W W' h ht => by
  obtain ⟨a, c, h1, h2⟩ := h.row
  exact ⟨⟨a, c, turn_old ht h1 (by omega), turn_row ht (by simp) h1 h2⟩, turn_old ht h.key hq, turn_below ht h.below (by omega) (Nat.le_refl _), Nat.le_trans h.size ht.size⟩
theorem CombI.gr {w w4 W W' : World} {g q p : Nat} {keep : Bool → Bool → Bool} {xs ys : List Sp} {L : List Int} {pre : List (Fin L.length)} (h : CombI w w4 g q p keep xs ys L pre W) (hG : Gr W W') : CombI w w4 g q p keep xs ys L pre W' := by
  obtain ⟨a, c, h1, h2⟩ := h.row
  exact ⟨⟨a, c, boxed_gr h1 hG, h2.kept (hG.grownBy none) (by cases hv : (Value.slice a (outTo keep xs ys L pre).length c).ownBlock with | none => exact .inl rfl | some g => exact .inr (by simp))⟩, boxed_gr h.key hG, h.below.trans (hG.below.mono h.below.size), Nat.le_trans h.size hG.size⟩

theorem combine_bad (g : Nat) (keep : Bool → Bool → Bool) (A A' : Option Addr) (n cap m cap' : Nat) (xs ys : List Sp) (w : World) (hx : SpansAt w.heap.size w A n xs) (hv : setB xs = false) :
    Calls Tryd.prog 30 #[.slice A n cap, .slice A' m cap', .func (.func g) #[] #[]] w (SetPost (comE keep xs ys) (comV keep xs ys) w) := by
  have hG0 := (Gr.refl w).alloc (.cells #[.func (.func g) #[] #[]] 56)
  have HV1 := hide (Valid_any A n cap xs _ (hx.gr hG0))
  have HG0 := hide hG0
  have HP : Hid (∀ w', Below w.heap.size w w' → SetPost (comE keep xs ys) (comV keep xs ys) w (.returned (.tuple #[.slice none 0 0, .int .i64 2])) w') := fun w' hb => com_no (by rw [hv]; rfl) hb
  have HV := hide hv
  clear hx hG0 hv
  go_enter Tryd.func30, Tryd.ntmps30
  go_wp2_with fail
  refine HV1.out.mono ?_
  rintro e w2 ⟨rfl, hG⟩
  rw [HV.out]
  have HG := hide (HG0.out.trans hG)
  clear hG
  go_wp2
  go_ret2
  exact HP.out _ HG.out.below

set_option maxRecDepth 100000 in
set_option maxHeartbeats 8000000 in
theorem combine_in (g : Nat) (keep : Bool → Bool → Bool) (hkeep : KeepCalls g keep) (A A' : Option Addr) (n cap m cap' : Nat) (xs ys : List Sp) (w : World) (hx : SpansAt w.heap.size w A n xs) (hy : SpansAt w.heap.size w A' m ys) (hvx : setB xs = true) :
    CallsIn Fence.wide 10 Tryd.prog 30 #[.slice A n cap, .slice A' m cap', .func (.func g) #[] #[]] w (SetPost (comE keep xs ys) (comV keep xs ys) w) := by
  have HX := hide hx
  have HY := hide hy
  have HK := hide hkeep.2
  have eg := hkeep.1
  have hG0 := (Gr.refl w).alloc (.cells #[.func (.func g) #[] #[]] 56)
  have HV1 := hide (callsIn_wide (n := 9).2 (Valid_any A n cap xs _ (hx.gr hG0)))
  have HG0 := hide hG0
  clear hx hy hkeep hG0
  refine callsIn_of_wp_marks Tryd.func30 rfl trivial ?_ rfl
  simp only [Tryd.ntmps30, List.size_toArray, List.length_cons, List.length_nil, Nat.reduceAdd, Nat.reduceSub, Array.replicate_succ, Array.replicate_zero, List.push_toArray, List.append_toArray, List.nil_append, List.cons_append]
  cases hv : setB xs
  · exact absurd hv (by rw [hvx]; decide)
  · cases hv2 : setB ys
    · have HP : Hid (∀ w', Below w.heap.size w w' → SetPost (comE keep xs ys) (comV keep xs ys) w (.returned (.tuple #[.slice none 0 0, .int .i64 2])) w') := fun w' hb => com_no (by rw [hv, hv2]; rfl) hb
      have HV := hide hv
      have HV2 := hide hv2
      clear hv hv2
      gi_wp2_with fail
      refine ⟨trivial, HV1.out.mono ?_⟩
      rintro e w2 ⟨rfl, hG⟩
      rw [HV.out]
      have HG := hide (HG0.out.trans hG)
      clear hG
      gi_wp2_with fail
      refine ⟨trivial, (callsIn_wide (n := 9).2 (Valid_any A' m cap' ys w2 (HY.out.gr HG.out))).mono ?_⟩
      rintro e w3 ⟨rfl, hG⟩
      rw [HV2.out]
      have HG2 := hide (HG.out.trans hG)
      clear hG HG
      gi_wp2
      refine ⟨_, results_tmp2 rfl _ _ _, ?_⟩
      exact HP.out _ HG2.out.below
    · have HV := hide hv
      have HV2 := hide hv2
      clear hv hv2
      gi_wp2_with fail
      refine ⟨trivial, HV1.out.mono ?_⟩
      rintro e w2 ⟨rfl, hG⟩
      rw [HV.out]
      have HG := hide (HG0.out.trans hG)
      have HGK := hide hG
      clear hG HV1
      gi_wp2_with fail
      refine ⟨trivial, (callsIn_wide (n := 9).2 (Valid_any A' m cap' ys w2 (HY.out.gr HG.out))).mono ?_⟩
      rintro e w3 ⟨rfl, hG⟩
      rw [HV2.out]
      have HG3 := hide (HG.out.trans hG)
      have HGK3 := hide (HGK.out.trans hG)
      clear hG HG HGK
      gi_wp2_with fail
      have hpc := pieces_any A A' n cap m cap' (w3.alloc (.cells #[.slice none 0 0] 22))
      simp only [World.size_alloc] at hpc
      refine ⟨trivial, (callsIn_wide (n := 9).2 hpc).mono ?_⟩
      rintro e w4 ⟨rfl, hw4⟩
      obtain ⟨p, hp⟩ : ∃ p, w3.heap.size = p := ⟨_, rfl⟩
      have hwp : w.heap.size + 1 ≤ p := by have := HGK3.out.size; simp at this; omega
      have bv : Boxed w4 p 22 (.slice none 0 0) := by rw [← hw4]; exact heap_old _ (heap_old _ (heap_new _ hp))
      have ba : Boxed w4 (p + 1) 22 (.slice A n cap) := by rw [← hw4]; exact heap_old _ (heap_new _ (size_alloc' _ hp))
      have bb : Boxed w4 (p + 1 + 1) 22 (.slice A' m cap') := by rw [← hw4]; exact heap_new _ (size_alloc' _ (size_alloc' _ hp))
      have hG4 : Gr w3 w4 := by rw [← hw4]; exact (((Gr.refl w3).alloc _).alloc _).alloc _
      have bk : Boxed w4 w.heap.size 56 (.func (.func g) #[] #[]) := boxed_gr (World.alloc_heap_new w _) (HGK3.out.trans hG4)
      have hsz4 : w4.heap.size = p + 3 := by rw [← hw4, ← hp]; simp
      have hbw := HG3.out.trans hG4
      have hxs := HX.out.below hbw.below
      have hys := HY.out.below hbw.below
      rw [hp]
      clear hw4 hG4 hpc hp
      gi_wp2_with fail
      have hl1 : n ≤ 128 := by have := (setB_true HV.out).1; have := HX.out.1; omega
      have hl2 : m ≤ 128 := by have := (setB_true HV2.out).1; have := HY.out.1; omega
      have hnr : ∀ g, ¬ RowOf [p] w4 g := by
        rintro g ⟨b, hb, v, hc, ho⟩
        obtain rfl : b = p := by simpa using hb
        rw [bv.cell] at hc
        injection hc with hc
        subst hc
        cases ho
      obtain ⟨L, hL⟩ : ∃ L, L = pcL xs ys := ⟨_, rfl⟩
      have hLn : L.length ≤ 2000 := by have := pcL_length xs ys; rw [hL]; have := HX.out.1; have := HY.out.1; omega
      have HLL := hide hL
      clear hL
      refine range_own (m := 10) (gf := 62) (lb := #[.pointer (some ⟨p + 1, 0, none⟩), .pointer (some ⟨p + 1 + 1, 0, none⟩)]) rfl (enters_of Tryd.func62 (by kernel_rfl) rfl)
        (pieces_seq 9 (by omega) (p + 1) (p + 1 + 1) [p] A A' n cap m cap' xs ys (by rw [← HX.out.1]; exact (setB_true HV.out).2) (by rw [← HY.out.1]; exact (setB_true HV2.out).2) (by omega) (by omega) L HLL.out w4 (by simp; omega) (fun g h => absurd h (hnr g)) ba.cell ⟨by simp, hnr _⟩ (by omega) bb.cell ⟨by simp; omega, hnr _⟩ (by omega) w.heap.size (by omega) hxs hys (fun k hk => ⟨by simp; omega, hnr k⟩))
        (fun _ => rfl) (by simp; omega) (CombI w w4 g w.heap.size p keep xs ys L) (fun _ _ _ => False) (CombI.abides (by omega) (by omega) (by omega)) (fun _ _ _ _ h _ => h)
        ⟨⟨none, 0, bv, World.ownsRow_nil _ _ _ _⟩, bk, hbw.below, Nat.le_refl _⟩
        (fun x a' W => ∃ Bx, w4.heap.size ≤ Bx ∧ W.heap[Bx]? = some (.cells #[.int .i64 (iA L x.1), .int .i64 (pieceE xs ys (iA L x.1)), .bool (inB xs (iA L x.1)), .bool (inB ys (iA L x.1))] 83 (0, 0)) ∧
          a' = { tmps := #[.slice A n cap, .slice A' m cap', .func (.func g) #[] #[], undef, undef, .pointer (some ⟨w.heap.size, 0, none⟩), .slice none 0 0, .int .i64 0, .pointer (some ⟨p, 0, none⟩), .pointer (some ⟨Bx, 0, none⟩), .slice A n cap, .bool true, .bool false, .bool false, .slice A' m cap', .bool true, .bool false, .bool false, .slice A n cap, .slice A' m cap',
            .func (.func 62) #[] #[.pointer (some ⟨p + 1, 0, none⟩), .pointer (some ⟨p + 1 + 1, 0, none⟩)], .agg #[.int .i64 (iA L x.1), .int .i64 (pieceE xs ys (iA L x.1)), .bool (inB xs (iA L x.1)), .bool (inB ys (iA L x.1))], undef, undef, undef, undef, undef, undef, undef, undef, undef, undef, undef, undef, undef, undef], defers := [] })
        ?hax ?assign ?body ?done ?stop
      case hax =>
        rintro x a' W l o o' ⟨Bx, h1, h2, h4⟩ hl ho hc
        exact ⟨Bx, h1, (World.putObj_heap_other (fun e => by subst e; rw [ho] at h2; injection h2 with h2; subst h2; cases hc)).trans h2, h4⟩
      case assign =>
        intro l pre x W K hI hK
        dsimp only [encP]
        gi_wp2
        exact hK _ _ ((Below.refl _ _).alloc (Nat.le_refl _) _) ⟨W.heap.size, hI.size, World.alloc_heap_new W _, rfl⟩
      case body =>
        rintro l pre x a' W hl hI ⟨Bx, h1, h2, rfl⟩ hlt
        have HI := hide hI
        have c0 := cell_of_heap h2 0
        have c1 := cell_of_heap h2 1
        have c2 := cell_of_heap h2 2
        have c3 := cell_of_heap h2 3
        simp at c0 c1 c2 c3
        have ck := hI.key.cell
        have HS := hide (outTo_snoc keep xs ys L pre x)
        have hlen := outTo_length keep xs ys L pre
        clear hI
        obtain ⟨kb, hkb⟩ : ∃ kb, kb = keep (inB xs (iA L x.1)) (inB ys (iA L x.1)) := ⟨_, rfl⟩
        have HKB := hide hkb
        obtain ⟨u, hu⟩ : ∃ u, u = iA L x.1 := ⟨_, rfl⟩
        obtain ⟨v, hv⟩ : ∃ v, v = pieceE xs ys (iA L x.1) := ⟨_, rfl⟩
        rw [← hu] at c0
        rw [← hv] at c1
        have HU := hide hu
        have HVV := hide hv
        clear hkb hu hv
        gi_wp2_with fail
        refine ⟨trivial, (CallsIn.inRound l (callsIn_wide (n := 7).2 (HK.out _ _ W))).mono ?_⟩
        rintro e w5 ⟨rfl, hG5⟩
        rw [← HKB.out]
        have lb := lt_of_heap h2
        have d0 := (hG5.cell (p := ⟨Bx, 0, none⟩) lb).trans c0
        have d1 := (hG5.cell (p := ⟨Bx, 1, none⟩) lb).trans c1
        have hI5 := HI.out.gr hG5
        have HI5 := hide hI5
        have HKO : Hid (KeepsOthers W w5) := KeepsOthers.of_grownBy (hG5.grownBy none) (fun j o ej _ => by cases ej)
        have HKK : Hid (Kept [p] W w5) := Kept.of_below hG5.below (by simp; have := HI.out.size; omega)
        clear c0 c1 c2 c3 ck h2
        cases kb
        · have HS2 : Hid (outTo keep xs ys L (pre ++ [x]) = outTo keep xs ys L pre) := by
            show _ = _
            rw [HS.out]
            unfold combS
            rw [← HKB.out]
            rfl
          clear hG5 hI5 d0 d1
          gi_wp2
          exact ⟨HKO.out.from _, HKK.out, ⟨by rw [HS2.out]; exact HI5.out.row, HI5.out.key, HI5.out.below, HI5.out.size⟩⟩
        · have HS2 : Hid (outTo keep xs ys L (pre ++ [x]) = putL (outTo keep xs ys L pre) (u, v)) := by
            show _ = _
            rw [HS.out]
            unfold combS
            rw [← HKB.out, HU.out, HVV.out]
            rfl
          obtain ⟨a, c, hv5, ho5⟩ := hI5.row
          have hnrq : ¬ RowOf [p] w5 w.heap.size := by
            rintro ⟨b, hb, v, hc, ho⟩
            obtain rfl : b = p := by simpa using hb
            rw [hv5.cell] at hc
            injection hc with hc
            subst hc
            have := (ho5.lt _ ho).1
            omega
          have HNQ := hide hnrq
          have hs5 := hI5.size
          have cv := hv5.cell
          clear hI5 hG5 hnrq
          generalize outTo keep xs ys L pre = out at hv5 ho5 cv hlen HS2
          have HP := hide (put_any w4.heap.size a out.length c out u v w5 rfl (by omega) hs5 ho5)
          have HV5 := hide hv5
          have HO5 := hide ho5
          clear hv5 ho5
          gi_wp2_with fail
          refine ⟨trivial, (CallsIn.inRound l (callsIn_wide (n := 7).2 HP.out)).mono ?_⟩
          rintro e w6 ⟨a2, c2, rfl, ho2, hg2, hat2⟩
          obtain ⟨r1, r2, r3, r4, r5, r6, r7⟩ := one_store HV5.out HO5.out (by omega) ho2 hg2 hat2
          have e1 := r1.cell
          have f1 := r1.frozen
          have R2 := hide r2
          have R3 := hide r3
          have R4 := hide r4
          have R5 := hide r5
          have R6 := hide r6
          have R7 := hide r7
          clear r1 r2 r3 r4 r5 r6 r7 ho2 hg2 hat2 HP cv d0 d1
          generalize putL out (u, v) = out2 at HS2 R2 R3 R4 R5 R6 R7 ⊢
          gi_wp2
          refine ⟨(HKO.out.trans R4.out).from _, HKK.out.trans R5.out, ⟨⟨a2, c2, by rw [HS2.out]; exact R2.out, by rw [HS2.out]; exact R3.out⟩, ?_, R6.out _ _ (by omega) (by omega) (by have := HI5.out.size; omega) HI5.out.below, by have := R7.out; omega⟩⟩
          exact (R5.out.same _ _ HI5.out.key rfl (by simp; omega) HNQ.out).trans HI5.out.key
      case done =>
        rintro D zs W hD rfl hI hK
        obtain ⟨a, c, hv, ho⟩ := hI.row
        have hE : outTo keep xs ys L (ups L.length L.length) = combL keep xs ys := by
          have h0 := HLL.out
          subst h0
          exact outTo_all keep xs ys
        rw [hE] at hv ho
        have cv := hv.cell
        have HO := hide ho
        have HB := hide hI.below
        have hcl := outTo_length keep xs ys L (ups L.length L.length)
        rw [hE, ups_length (Nat.le_refl _)] at hcl
        obtain ⟨N, hN⟩ : ∃ N, N = (combL keep xs ys).length := ⟨_, rfl⟩
        rw [← hN] at cv hcl HO
        have HN := hide hN
        clear hI hv ho hE hN
        have hbel : Below w.heap.size w (W.putObj D (.deferred none)) := HB.out.trans (belowK_b (w := w) (Nat.le_refl _) W D _ _ (by omega) hK rfl rfl)
        have HBE := hide hbel
        clear hbel
        by_cases hs : N ≤ 128
        · have hd : decide ((N : Int) > 128) = false := decide_eq_false (by omega)
          have hd2 : ¬ (128 : Int) < (N : Int) := by omega
          have HE : Hid (comE keep xs ys = 0 ∧ comV keep xs ys = combL keep xs ys) := by
            unfold comE comV
            rw [HV.out, HV2.out, ← HN.out]
            exact ⟨by simp [hs], by simp [hs]⟩
          gi_wp2
          refine ⟨by simp, .inl ⟨_, _, rfl, run_takeDeferred hK, ?_⟩⟩
          refine ⟨_, results_tmp2 rfl _ _ _, ?_⟩
          rw [HE.out.1, HE.out.2]
          exact ⟨a, c, by rw [← HN.out]; rfl, by rw [← HN.out]; exact own_base (ownsRow_putObj HO.out _ hK rfl) (by omega), HBE.out⟩
        · have hd : decide ((N : Int) > 128) = true := decide_eq_true (by omega)
          have hd2 : (128 : Int) < (N : Int) := by omega
          have HE : Hid (comE keep xs ys = 8 ∧ comV keep xs ys = []) := by
            unfold comE comV
            rw [HV.out, HV2.out, ← HN.out]
            exact ⟨by simp [hs], by simp [hs]⟩
          gi_wp2
          refine ⟨by simp, .inl ⟨_, _, rfl, run_takeDeferred hK, ?_⟩⟩
          refine ⟨_, results_tmp2 rfl _ _ _, ?_⟩
          rw [HE.out.1, HE.out.2]
          exact setpost_nil HBE.out
      case stop =>
        rintro D c pre W hD _ hX hK
        exact hX.elim

end Go.Proofs.YtfahlgjolihmkaaDoor
