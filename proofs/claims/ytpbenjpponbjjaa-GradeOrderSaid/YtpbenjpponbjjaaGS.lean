/- highest. -/
import Derived.Test.YtpbenjpponbjjaaGR
namespace Go.Proofs.Ytpbenjpponbjjaa
open Go.RowKit Go.Sort Go.BigFrame
theorem info3 : (Try.prog.info? 3).map (fun i => (i.zero, i.size, i.bytes)) = some (some (.int .i64 0), 1, 8) := by kernel_rfl
theorem qA_prop {P : Qt → Prop} {l : List Qt} (h : ∀ q ∈ l, P q) {i : Nat} (hi : i < l.length) : P (qA l i) := h _ (qA_mem hi)
theorem mem_qA {l : List Qt} {q : Qt} (h : q ∈ l) : ∃ i, i < l.length ∧ qA l i = q := by
  obtain ⟨i, hi, rfl⟩ := List.getElem_of_mem h
  refine ⟨i, hi, ?_⟩
  unfold qA
  rw [List.getD_eq_getElem?_getD, List.getElem?_eq_getElem hi]
  rfl
/-- the first that suits, of the dearest first, is the greatest -/
theorem top_first {l l' : List Qt} (hp : l'.Perm l) {n : Nat} (hn : l'.length = n) (hl : ∀ o ∈ l, 0 ≤ o.2.1 ∧ o.2.1 ≤ 1073741824) (hs : ∀ i j, i < j → j < n → (qA l' j).2.1 ≤ (qA l' i).2.1) (f : Int → Bool) {j : Nat} (hj : j < n) (hno : ∀ i, i < j → f (qA l' i).2.1 = false) (hf : f (qA l' j).2.1 = true) : topP l f = (qA l' j).2.1 := by
  have hm : qA l' j ∈ l := hp.mem_iff.1 (qA_mem (by omega))
  refine topP_hit hm (hl _ hm).1 hf fun r hr hfr => ?_
  obtain ⟨k, hk, rfl⟩ := mem_qA (hp.mem_iff.2 hr)
  rcases Nat.lt_trichotomy k j with h | h | h
  · rw [hno k h] at hfr; cases hfr
  · subst h; exact Int.le_refl _
  · exact hs j k h (by omega)
theorem top_never {l l' : List Qt} (hp : l'.Perm l) {n : Nat} (hn : l'.length = n) (f : Int → Bool) (hno : ∀ i, i < n → f (qA l' i).2.1 = false) : topP l f = 0 := by
  refine topP_none fun q hq => ?_
  obtain ⟨k, hk, rfl⟩ := mem_qA (hp.mem_iff.2 hq)
  exact hno k (by omega)
structure HiI (w2 : World) (f n k : Nat) (F : Nat → Int) (wr : World) : Prop where
  row : wr.heap[f]? = some (.cells (fitV n (upto k F)) 3 (0, 0))
  below : Below f w2 wr
  size : f < wr.heap.size
theorem fitV_all (n : Nat) (f : Nat → Int) : fitV n (upto n f) = fitV n f := by
  unfold fitV
  congr 1
  apply List.map_congr_left
  intro i hi
  unfold upto
  rw [if_pos (List.mem_range.1 hi)]
theorem HiI.grown {w2 : World} {f n k : Nat} {F : Nat → Int} {wr w' : World} (h : HiI w2 f n k F wr) (hb : Below wr.heap.size wr w') : HiI w2 f n k F w' :=
  ⟨(hb.block f h.size).trans h.row, h.below.trans (hb.mono (Nat.le_of_lt h.size)), Nat.lt_of_lt_of_le h.size hb.size⟩
theorem HiI.cell {w2 : World} {f n k : Nat} {F : Nat → Int} {wr : World} (h : HiI w2 f n k F wr) {i : Nat} (hi : i < n) : wr.cell? ⟨f, i, none⟩ = some (.int .i64 (upto k F i)) ∧ wr.frozen? ⟨f, i, none⟩ = false := by
  have h1 := h.row
  constructor
  · simp only [World.cell?, h1]
    exact fitV_get n _ hi
  · simp [World.frozen?, h1]
theorem HiI.set {w2 : World} {f n k : Nat} {F : Nat → Int} {wr : World} (h : HiI w2 f n k F wr) : HiI w2 f n (k + 1) F (wr.setCell ⟨f, k, none⟩ (.int .i64 (F k))) := by
  have h1 := h.row
  refine ⟨?_, ?_, ?_⟩
  · rw [setCell_eq_setRow wr f k _ _ _ _ h1, setRow_heap wr f _ _ _ _ h1, fitV_set]
  · rw [setCell_eq_setRow wr f k _ _ _ _ h1]
    exact h.below.grown ⟨rfl, rfl, rfl, by simp [World.setRow], fun j hj hne => setRow_other _ _ _ _ (fun e => hne (by rw [e]))⟩ (Nat.le_of_lt h.size) (fun j e => by injection e with e; omega)
  · rw [setCell_eq_setRow wr f k _ _ _ _ h1]
    simpa [World.setRow] using h.size
theorem HiI.skip {w2 : World} {f n k : Nat} {F : Nat → Int} {wr : World} (h : HiI w2 f n k F wr) (h0 : F k = 0) : HiI w2 f n (k + 1) F wr := ⟨by rw [← fitV_skip n F k h0]; exact h.row, h.below, h.size⟩
set_option maxHeartbeats 4000000 in
theorem highest_any (fn : Nat) (x : Value) (A : Option Addr) (n c : Nat) (l : List Qt) (w : World) (hx : QtAt w.heap.size w A n l) (hn : n ≤ 1000) (hl : ∀ o ∈ l, 0 ≤ o.2.1 ∧ o.2.1 ≤ 1073741824) (S : Nat → Int → Bool) (hent : ∀ args w, (callFunc fn args).run Try.prog w = .ok (.enter fn args) w)
    (hcb : ∀ i, i < n → ∀ p w1, Below w.heap.size w w1 → Calls Try.prog fn #[.int .i64 i, .int .i64 p, x] w1 fun e w' => e = .returned (.bool (S i p)) ∧ Below w1.heap.size w1 w') :
    Calls Try.prog 66 #[.slice A n c, .func (.func fn) #[] #[x]] w fun e w' => ∃ f, e = .returned (.slice (some ⟨f, 0, none⟩) n n) ∧ w.heap.size ≤ f ∧ w'.heap[f]? = some (.cells (fitV n (fun i => topP l (S i))) 3 (0, 0)) ∧ Below w.heap.size w w' := by
  have mixed := mixedOrders
  have hmk := run_make_row' (P := Try.prog) 40 3 (.int .i64 0) 8 Try.underlying40 info3 rfl .i64 .i64 n (by omega) (by omega)
  rw [fitV_made n (fun i => topP l (S i))] at hmk
  obtain ⟨p, hp⟩ : ∃ p, w.heap.size = p := ⟨_, rfl⟩
  obtain ⟨W1, hW1⟩ : ∃ W1, w.alloc (.cells #[.slice A n c] 36) = W1 := ⟨_, rfl⟩
  have hb1 : Below w.heap.size w W1 := by rw [← hW1]; exact (Below.refl _ _).alloc (Nat.le_refl _) _
  have e1 : W1.heap[p]? = some (.cells #[.slice A n c] 36 (0, 0)) := by rw [← hW1, ← hp]; exact heap_alloc_new _ _
  have HV := hide (Values_any A n c w)
  have HSF := hide (SortedFunc_any A n c p l W1 (hx.now hb1 (Nat.le_refl _)) hn (box1 e1) (lt_of_heap e1) hl)
  have HB1 := hide hb1
  have HL := hide hl
  have HLEN := hide hx.len
  have HN := hide hn
  have HCB := hide hcb
  have HP := hide hp
  have HW1 := hide hW1
  clear hb1 e1 hx hn hl hcb hp hW1
  go_enter Try.func66, Try.ntmps66
  go_wp2_with fail
  go_step3
  go_wp2_with fail
  refine HV.out.mono ?_
  rintro e w1 ⟨rfl, rfl⟩
  rw [HW1.out, HP.out]
  go_wp2_with fail
  refine HSF.out.mono ?_
  rintro e w2 ⟨A', c', l', rfl, hx', hpm, hsd, hb2⟩
  have HX := hide hx'
  have HPM := hide hpm
  have HSD := hide hsd
  have HB2 := hide (bel_next HB1.out hb2)
  have HLP : Hid (l'.length = n) := hx'.len
  have hmk2 := hmk w2
  obtain ⟨f, hf⟩ : ∃ f, w2.heap.size = f := ⟨_, rfl⟩
  obtain ⟨W3, hW3⟩ : ∃ W3, w2.alloc (.cells (fitV n (upto 0 (fun i => topP l (S i)))) 3) = W3 := ⟨_, rfl⟩
  rw [hf, hW3] at hmk2
  have hb3 : Below w2.heap.size w2 W3 := by rw [← hW3]; exact (Below.refl _ _).alloc (Nat.le_refl _) _
  have e3 : W3.heap[f]? = some (.cells (fitV n (upto 0 (fun i => topP l (S i)))) 3 (0, 0)) := by rw [← hW3, ← hf]; exact heap_alloc_new _ _
  have HI0 : Hid (HiI w2 f n 0 (fun i => topP l (S i)) W3) := ⟨e3, by rw [← hf]; exact hb3, lt_of_heap e3⟩
  have HF : Hid (w.heap.size ≤ f) := by show _ ≤ _; rw [← hf]; exact HB2.out.size
  have HFS := hide hf
  clear hx' hpm hsd hb2 HSF HV hmk hW3 hb3 e3 hf
  go_wp2_with fail
  go_step3
  go_wp2_with fail
  go_loopg [18] n (fun g vi wr => ∃ k : Nat, k + g = n ∧ vi = .int .i64 k ∧ Hid (HiI w2 f n k (fun i => topP l (S i)) wr))
  case atStart => exact ⟨0, by omega, rfl, HI0⟩
  case round =>
    obtain ⟨k, hkg, rfl, HK⟩ := hrel
    have hnn : n ≤ 1000 := HN.out
    clear HI0 hmk2
    cases gk with
    | zero =>
      obtain rfl : k = n := by omega
      have hlt : ¬ (k : Int) < (k : Int) := by omega
      have HR : Hid (wr.heap[f]? = some (.cells (fitV k (fun i => topP l (S i))) 3 (0, 0))) := by
        show _ = _
        rw [HK.out.row, fitV_all]
      have HBF : Hid (Below w.heap.size w wr) := HB2.out.trans (HK.out.below.mono HF.out)
      go_wp2_with fail
      try rw [Exit.noGoto_ret]
      go_ret
      exact ⟨f, rfl, HF.out, HR.out, HBF.out⟩
    | succ g =>
      have hlt : (k : Int) < (n : Int) := by omega
      have HKG : Hid (k + 1 + g = n) := by show _ = _; omega
      go_wp2_with fail
      go_loopg [23] n (fun g2 vj wy => ∃ j : Nat, j + g2 = n ∧ vj = .int .i64 j ∧ Hid (∀ i, i < j → S k (qA l' i).2.1 = false) ∧ Hid (HiI w2 f n k (fun i => topP l (S i)) wy))
      case atStart => exact ⟨0, by omega, rfl, fun i hi => absurd hi (Nat.not_lt_zero _), HK⟩
      case round =>
        obtain ⟨j, hjg, rfl, HNO, HI⟩ := hrel
        cases gk with
        | zero =>
          obtain rfl : j = n := by omega
          have hjl : ¬ (j : Int) < (j : Int) := by omega
          have HT : Hid (topP l (S k) = 0) := top_never HPM.out HLP.out (S k) HNO.out
          have HI2 := hide (HI.out.skip HT.out)
          go_wp2_with fail
          go_roundg g
          case measure => omega
          case rel => exact ⟨k + 1, HKG.out, by go_num, HI2⟩
        | succ g2 =>
          have hjn : j < n := by omega
          have HJG : Hid (j + 1 + g2 = n) := by show _ = _; omega
          have hjl : (j : Int) < (n : Int) := by omega
          obtain ⟨b, off, rfl, hb, c0, c1, c2, c3, c4⟩ := HX.out.at_ hjn
          have hbf : b < f := by rw [← HFS.out]; exact hb
          have d0 := (HI.out.below.cell (p := ⟨b, off + j * 5, none⟩) hbf).trans c0
          have d1 := (HI.out.below.cell (p := ⟨b, off + j * 5 + 1, none⟩) hbf).trans c1
          have d2 := (HI.out.below.cell (p := ⟨b, off + j * 5 + 2, none⟩) hbf).trans c2
          have d3 := (HI.out.below.cell (p := ⟨b, off + j * 5 + 3, none⟩) hbf).trans c3
          have d4 := (HI.out.below.cell (p := ⟨b, off + j * 5 + 4, none⟩) hbf).trans c4
          have HHIT : Hid (S k (qA l' j).2.1 = true → topP l (S k) = (qA l' j).2.1) := fun h => top_first HPM.out HLP.out HL.out HSD.out (S k) hjn HNO.out h
          have HMISS : Hid (S k (qA l' j).2.1 = false → ∀ i, i < j + 1 → S k (qA l' i).2.1 = false) := fun h i hi => by
            rcases Nat.lt_or_ge i j with q | q
            · exact HNO.out i q
            · obtain rfl : i = j := by omega
              exact h
          generalize qA l' j = o at d0 d1 d2 d3 d4 HHIT HMISS
          obtain ⟨⟨o1, o2, o3⟩, pr, wt⟩ := o
          dsimp only at d0 d1 d2 d3 d4 HHIT HMISS
          obtain ⟨z, hz⟩ : ∃ z, wr.heap.size = z := ⟨_, rfl⟩
          obtain ⟨W4, hW4⟩ : ∃ W4, wr.alloc (.cells #[.int .i64 o1, .int .i64 o2, .int .i64 o3, .int .i64 pr, .int .i64 wt] 60) = W4 := ⟨_, rfl⟩
          have hb4 : Below wr.heap.size wr W4 := by rw [← hW4]; exact (Below.refl _ _).alloc (Nat.le_refl _) _
          have e4 : W4.heap[z]? = some (.cells #[.int .i64 o1, .int .i64 o2, .int .i64 o3, .int .i64 pr, .int .i64 wt] 60 (0, 0)) := by rw [← hW4, ← hz]; exact heap_alloc_new _ _
          have hI4 := HI.out.grown hb4
          have HC := hide (HCB.out k (by omega) pr W4 (HB2.out.trans (hI4.below.mono HF.out)))
          have HBX := hide (fun w5 (h : Below W4.heap.size W4 w5) => box5 ((h.block z (lt_of_heap e4)).trans e4))
          obtain ⟨x0, x1, x2, x3, x4⟩ := box5 e4
          obtain ⟨sv, hsv⟩ : ∃ sv, S k pr = sv := ⟨_, rfl⟩
          rw [hsv] at HC HHIT HMISS
          have HI4 := hide hI4
          clear c0 c1 c2 c3 c4 hb4 e4 hI4 hb hsv
          go_wp2_with fail
          refine HC.out.mono ?_
          rintro e w5 ⟨rfl, hb5⟩
          obtain ⟨y0, y1, y2, y3, y4⟩ := HBX.out w5 hb5
          have HI5 := hide (HI4.out.grown hb5)
          obtain ⟨f1, f2⟩ := HI5.out.cell (i := k) (by omega)
          clear x0 x1 x2 x3 x4 d0 d1 d2 d3 d4 hW4 hz hb5 HC HI4 HBX
          cases sv with
          | true =>
            have HS6 := hide HI5.out.set
            rw [HHIT.out rfl] at HS6
            have hkn : k < n := by omega
            go_wp2_with fail
            go_roundg g
            case measure => omega
            case rel => exact ⟨k + 1, HKG.out, by go_num, HS6⟩
          | false =>
            have HM := hide (HMISS.out rfl)
            go_wp2_with fail
            go_roundg g2
            case measure => omega
            case rel => exact ⟨j + 1, HJG.out, by go_num, HM, HI5⟩
end Go.Proofs.Ytpbenjpponbjjaa
