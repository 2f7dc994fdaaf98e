/- Contracts of steps and of its function: the numbers at which a span is taken, each with the index of that span. -/
import Derived.Test.YtfahlgjolihmkaaDoorD0
import Derived.Test.YtfahlgjolihmkaaDoorR
import Derived.Sort.LoopGhostIn
namespace Go.Proofs.YtfahlgjolihmkaaDoor
open Go.RowKit Go.Sort
attribute [local go_sem] Oper.semAt_some

/-- the steps from x on to thi: each number with the index that is chosen at it; the last one may be -1 -/
def runF (xs : List Sp) (thi : Int) : Nat → Int → List (Int × Int)
  | 0, _ => []
  | f + 1, x => if x < thi then (x, bestTo xs x xs.length) :: (if bestTo xs x xs.length < 0 then [] else runF xs thi f (hiA xs (bestTo xs x xs.length).toNat)) else []
theorem runF_end {xs : List Sp} {thi x : Int} (h : ¬ x < thi) (f : Nat) : runF xs thi f x = [] := by
  cases f with
  | zero => rfl
  | succ f => unfold runF; rw [if_neg h]
theorem runF_step {xs : List Sp} {thi x : Int} (h : x < thi) {f : Nat} (hf : (thi - x).toNat ≤ f) : ∃ f', f = f' + 1 ∧ runF xs thi f x = (x, bestTo xs x xs.length) :: (if bestTo xs x xs.length < 0 then [] else runF xs thi f' (hiA xs (bestTo xs x xs.length).toNat)) := by
  cases f with
  | zero => omega
  | succ f => exact ⟨f, rfl, by show (if x < thi then _ else _) = _; rw [if_pos h]⟩
theorem runF_length (xs : List Sp) (thi : Int) : ∀ f x, (runF xs thi f x).length ≤ f
  | 0, _ => by simp [runF]
  | f + 1, x => by
    unfold runF
    split
    · split
      · simp
      · have := runF_length xs thi f (hiA xs (bestTo xs x xs.length).toNat)
        simp only [List.length_cons]
        omega
    · simp

theorem drop_cons_of {α : Type} {L r : List α} {j : Nat} {a : α} (d : α) (h : L.drop j = a :: r) : j < L.length ∧ L.getD j d = a ∧ L.drop (j + 1) = r := by
  have hj : j < L.length := by
    rcases Nat.lt_or_ge j L.length with h1 | h1
    · exact h1
    · rw [List.drop_eq_nil_of_le h1] at h
      cases h
  rw [List.drop_eq_getElem_cons hj] at h
  injection h with h1 h2
  exact ⟨hj, by rw [List.getD_eq_getElem?_getD, List.getElem?_eq_getElem hj]; exact h1, h2⟩

/-- what the j-th round is handed -/
def atL (L : List (Int × Int)) (j : Nat) : Int := (L.getD j (0, 0)).1
def ixL (L : List (Int × Int)) (j : Nat) : Int := (L.getD j (0, 0)).2
def encS (L : List (Int × Int)) (x : Fin L.length) : Array Value := #[.int .i64 (atL L x.1), .int .i64 (ixL L x.1)]

set_option maxRecDepth 100000 in
set_option maxHeartbeats 4000000 in
theorem steps1_in (m : Nat) (hm : 1 ≤ m) (l Bt Bl : Nat) (bs : List Nat) (A : Option Addr) (n cap : Nat) (xs : List Sp) (tlo thi : Int) (L : List (Int × Int)) (hL : L = runF xs thi (thi - tlo).toNat tlo)
    (ht : okB tlo thi = true) (hok : okTo xs n) (hn : n ≤ 128) (J Jx : List (Fin L.length) → World → Prop) (W : World)
    (hJ : Abides W.heap.size bs J)
    (hY : ∀ pre x W1, J pre W1 → pre.length < L.length → YieldAt Fence.wide (m - 1) Tryd.prog l (encS L x) W1 fun e W' =>
      (e = .returned (.bool true) ∧ J (pre ++ [x]) W' ∧ Kept bs W1 W') ∨ (e = .returned (.bool false) ∧ Jx (pre ++ [x]) W'))
    (hbs : ∀ b, b ∈ bs → b < W.heap.size) (hrow : ∀ g, RowOf bs W g → g < W.heap.size)
    (hBt : W.cell? ⟨Bt, 0, none⟩ = some (.int .i64 tlo)) (hBt1 : W.cell? ⟨Bt, 1, none⟩ = some (.int .i64 thi)) (hBt2 : Bt ∉ bs ∧ ¬ RowOf bs W Bt)
    (hBl : W.cell? ⟨Bl, 0, none⟩ = some (.slice A n cap)) (hBl2 : Bl ∉ bs ∧ ¬ RowOf bs W Bl)
    (B : Nat) (hBW : B ≤ W.heap.size) (hx : SpansAt B W A n xs) (hB : ∀ k, k < B → k ∉ bs ∧ ¬ RowOf bs W k) (h0 : J [] W) :
    CallsIn Fence.wide m Tryd.prog 67 #[.func (.yield l) #[] #[], .pointer (some ⟨Bt, 0, none⟩), .pointer (some ⟨Bl, 0, none⟩)] W fun e W' => (∃ v, e = .returned v) ∧
      ((∃ ys, ys = ups L.length L.length ∧ J ys W') ∨ (∃ pre, (∃ k, k < L.length ∧ pre = ups L.length (k + 1)) ∧ Jx pre W')) := by
  have HX := hide hx
  have HO := hide hok
  have HB := hide hB
  have HR := hide hrow
  have HBS := hide hbs
  have HL := hide hL
  have HT := hide (okB_true ht)
  have HT0 := hide hBt
  have HT1 := hide hBt1
  have HBL := hide hBl
  obtain ⟨t1, t2, t3⟩ := okB_true ht
  have hlen := hx.1
  have HLEN := hide hlen
  clear hx hok hB hrow hbs hL ht hlen hBl hBt1
  refine callsIn_of_wp Tryd.func67 rfl trivial ?_ rfl
  simp only [Tryd.ntmps67, List.size_toArray, List.length_cons, List.length_nil, Nat.reduceAdd, Nat.reduceSub, Array.replicate_succ, Array.replicate_zero, List.push_toArray, List.append_toArray, List.nil_append, List.cons_append]
  gi_wp2
  gi_loopg [4] ((thi - tlo).toNat) (fun f p wr => ∃ (j Bx : Nat) (x : Int), p = .pointer (some ⟨Bx, 0, none⟩) ∧ j ≤ L.length ∧ Hid (L.drop j = runF xs thi f x ∧ (thi - x).toNat ≤ f) ∧ -1099511627776 ≤ x ∧ x ≤ 1099511627776 ∧
    wr.cell? ⟨Bx, 0, none⟩ = some (.int .i64 x) ∧ wr.frozen? ⟨Bx, 0, none⟩ = false ∧ W.heap.size ≤ Bx ∧ Bx < wr.heap.size ∧ J (ups L.length j) wr ∧ Kept bs W wr ∧ Hid (¬ RowOf bs wr Bx))
  case atStart =>
    have hk1 := (Kept.refl bs W).alloc HBS.out (.cells #[.int .i64 tlo] 3)
    exact ⟨0, W.heap.size, tlo, rfl, Nat.zero_le _, ⟨by rw [List.drop_zero]; exact HL.out, Nat.le_refl _⟩, t1, by omega, by simp, by simp, Nat.le_refl _, by simp, by rw [ups_zero]; exact hJ _ _ _ h0 (Turn.of_below _ _ ((Below.refl _ _).alloc (Nat.le_refl _) _)), hk1,
      fun h => by
        rcases hk1.rows _ h with h1 | h1
        · have := HR.out _ h1; omega
        · have := HR.out W.heap.size (h.congr (fun b hb => (World.cell?_alloc_lt W _ ⟨b, 0, none⟩ (HBS.out b hb)).symm ▸ rfl)); omega⟩
  case round =>
    obtain ⟨j, Bx, x, rfl, hj, HF, hx1, hx2, hcx, hfx, hBW1, hBx, hJs, hK, HNX⟩ := hrel
    have dt0 := hK.cell HT0.out hBt2.1 hBt2.2
    have dt1 := hK.cell HT1.out hBt2.1 hBt2.2
    have dl := hK.cell HBL.out hBl2.1 hBl2.2
    by_cases hlt : x < thi
    · have hd : decide (x < thi) = true := decide_eq_true hlt
      obtain ⟨f', hf', hrun⟩ := runF_step (xs := xs) hlt HF.out.2
      obtain ⟨hjl, hget, hdrop⟩ := drop_cons_of (0, 0) (HF.out.1.trans hrun)
      have hrange := bestTo_range xs x n
      have hhas := bestTo_has xs x n
      rw [HLEN.out] at hget hdrop
      have HD := hide hdrop
      have HH := hide hhas
      have hSx := HX.out.kept hK HB.out
      have HC := hide (choose_any A n cap Bx x xs wr (hSx.mono (Nat.le_trans hBW hK.size)) (by omega) hcx hBx)
      have HJ := hide hJs
      have HK := hide hK
      have HGET := hide hget
      have HFF := hide hf'
      clear hrun hdrop hhas hSx hJs hK hget hf'
      gi_wp2_with fail
      refine ⟨trivial, ?_⟩
      refine (callsIn_wide (n := m - 1).2 HC.out).mono ?_
      rintro e w1 ⟨rfl, hG⟩
      have hK1 := HK.out.trans (Kept.of_below hG.below (fun b hb => Nat.lt_of_lt_of_le (HBS.out b hb) HK.out.size))
      have hJ1 := hJ _ _ w1 HJ.out (Turn.of_below _ _ hG.below)
      have e1 := (hG.cell (p := ⟨Bx, 0, none⟩) hBx).trans hcx
      have e2 := (hG.frozen (p := ⟨Bx, 0, none⟩) hBx).trans hfx
      have e3 : Bx < w1.heap.size := Nat.lt_of_lt_of_le hBx hG.size
      have e4 := hK1.cell HBL.out hBl2.1 hBl2.2
      have hnx : ¬ RowOf bs w1 Bx := not_row (Kept.of_below hG.below (fun b hb => Nat.lt_of_lt_of_le (HBS.out b hb) HK.out.size)) hBx HNX.out
      have hnb : Bx ∉ bs := fun h => by have := HBS.out _ h; omega
      obtain ⟨fn, tmps, assign, body, hy, hR⟩ := hY _ ⟨j, hjl⟩ _ hJ1 (by rw [ups_length hj]; exact hjl)
      have he : encS L ⟨j, hjl⟩ = #[.int .i64 x, .int .i64 (bestTo xs x n)] := by simp only [encS, atL, ixL, HGET.out]
      rw [he] at hy
      have HR1 := hide hR
      have HK1 := hide hK1
      have HNX1 := hide (And.intro hnb hnx)
      clear he hR hK1 hJ1 hnx hnb dt0 dt1 dl hcx hfx hBx HC HK HJ HGET HNX
      generalize bestTo xs x n = bst at hy HD HH hrange ⊢
      by_cases hneg : bst < 0
      · have hd2 : decide (bst < 0) = true := decide_eq_true hneg
        gi_wp2
        refine HR1.out.mono ?_
        rintro e W3 (⟨rfl, hJ3, hk3⟩ | ⟨rfl, hJx3⟩)
        · have hend : j + 1 = L.length := by
            have := HD.out
            rw [if_pos hneg] at this
            have := List.drop_eq_nil_iff.1 this
            omega
          have HJ3 : Hid (J (ups L.length (j + 1)) W3) := by show J (ups L.length (j + 1)) W3; rw [ups_succ hjl]; exact hJ3
          clear hk3 hJ3
          gi_wp2
          refine bodyPost_ret (results_none rfl _ _ _) rfl ?_
          exact ⟨⟨_, rfl⟩, .inl ⟨_, by rw [← hend], HJ3.out⟩⟩
        · gi_wp2
          refine bodyPost_ret (results_none rfl _ _ _) rfl ?_
          exact ⟨⟨_, rfl⟩, .inr ⟨_, ⟨j, hjl, (ups_succ hjl).symm⟩, hJx3⟩⟩
      · have hd2 : decide (bst < 0) = false := decide_eq_false hneg
        obtain ⟨i, rfl⟩ : ∃ i : Nat, bst = (i : Int) := ⟨bst.toNat, by omega⟩
        have hin : i < n := by omega
        have hin' : (i : Int) < (n : Int) := by omega
        obtain ⟨b, off, rfl, hb, c0, c1⟩ := HX.out.at_ hin
        have g1 := HK1.out.cell c1 (HB.out b hb).1 (HB.out b hb).2
        have hnr1 := not_row HK1.out (Nat.lt_of_lt_of_le hb hBW) (HB.out b hb).2
        have hnr2 : ¬ RowOf bs w1 Bl := not_row HK1.out (by have := HBL.out; rcases Nat.lt_or_ge Bl W.heap.size with h | h; exact h; simp [World.cell?, Array.getElem?_eq_none h] at this) hBl2.2
        have hok1 := okB_true (HO.out i hin)
        have hxx := (HH.out (by omega)).2
        rw [Int.toNat_natCast] at hxx
        have HD2 : Hid (L.drop (j + 1) = runF xs thi f' (hiA xs i)) := by
          have := HD.out
          rw [if_neg hneg, Int.toNat_natCast] at this
          exact this
        have HN := hide (And.intro hnr1 hnr2)
        clear c0 c1 hnr1 hnr2 HD HH hrange hneg
        gi_wp2
        refine HR1.out.mono ?_
        rintro e W3 (⟨rfl, hJ3, hk3⟩ | ⟨rfl, hJx3⟩)
        · have f1 := hk3.cell e1 HNX1.out.1 HNX1.out.2
          have f2 := (hk3.frozen e1 HNX1.out.1 HNX1.out.2).trans e2
          have f3 := hk3.cell e4 hBl2.1 HN.out.2
          have f4 := hk3.cell g1 (HB.out b hb).1 HN.out.1
          have HJ3 : Hid (J (ups L.length (j + 1)) W3) := by show J (ups L.length (j + 1)) W3; rw [ups_succ hjl]; exact hJ3
          have HK3 := hide hk3
          clear hJ3 hk3 e1 e2 e4 g1
          gi_wp2
          gi_roundg f'
          case measure => have := HFF.out; omega
          case rel =>
            have hnr3 : ¬ RowOf bs W3 Bx := not_row HK3.out e3 HNX1.out.2
            have hT := Turn.setCell (n₀ := W.heap.size) (bs := bs) (W := W3) (k := Bx) (off := 0) (.int .i64 (hiA xs i)) hBW1 HNX1.out.1 hnr3
            have hJ4 := hJ _ _ _ HJ3.out hT
            have hK3 := HK1.out.trans HK3.out
            have hK4 := hK3.setNew 0 (.int .i64 (hiA xs i)) hBW1 HNX1.out.1
            have hK5 := hK4.alloc HBS.out (.cells #[.int .i64 (hiA xs i)] 3)
            have hsz : (W3.setCell ⟨Bx, 0, none⟩ (.int .i64 (hiA xs i))).heap.size = W3.heap.size := by simp [World.setCell]
            have hnew : ¬ RowOf bs ((W3.setCell ⟨Bx, 0, none⟩ (.int .i64 (hiA xs i))).alloc (.cells #[.int .i64 (hiA xs i)] 3)) W3.heap.size := fun h => by
              have := hK4.bound HR.out W3.heap.size (row_alloc _ (fun b hb => by have := HBS.out b hb; have := hK4.size; omega) h)
              omega
            have hcn := cell_new0 (.int .i64 (hiA xs i)) 3 hsz
            exact ⟨j + 1, W3.heap.size, hiA xs i, rfl, by omega, ⟨HD2.out, by have := HF.out.2; have := HFF.out; omega⟩, by omega, by omega, hcn.1, hcn.2.1, hK3.size, hcn.2.2, hJ _ _ _ hJ4 (Turn.of_below _ _ ((Below.refl _ _).alloc (Nat.le_refl _) _)), hK5, hnew⟩
        · gi_wp2
          refine bodyPost_ret (results_none rfl _ _ _) rfl ?_
          exact ⟨⟨_, rfl⟩, .inr ⟨_, ⟨j, hjl, (ups_succ hjl).symm⟩, hJx3⟩⟩
    · have hd : decide (x < thi) = false := decide_eq_false hlt
      have hje : j = L.length := by
        have := HF.out.1
        rw [runF_end hlt] at this
        have := List.drop_eq_nil_iff.1 this
        omega
      subst hje
      gi_wp2
      go_end0
      exact ⟨⟨_, rfl⟩, .inl hJs⟩

end Go.Proofs.YtfahlgjolihmkaaDoor
