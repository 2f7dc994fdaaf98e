/- Contract of Split. -/
import Derived.Test.YtdepnhnpklbmiaaA2
import Derived.Deep.OwnRows
namespace Go.Proofs.Ytdepnhnpklbmiaa
open Go.RowKit Go.Sort

theorem made_ints (W : World) {base n : Nat} (hb : base ≤ W.heap.size) (hn : n ≤ 1000000) : (W.alloc (.cells (madeCells #[.int .i64 0] n) 3)).ownsRow base 3 1 (.slice (some ⟨W.heap.size, 0, none⟩) n n) n ((List.replicate n (0 : Int)).map (Value.int .i64)) := by
  have h := World.ownsRow_lit (base := base) (e := 3) (size := 1) W (madeCells #[.int .i64 0] n) n hb (by unfold maxLen; omega) (by rw [size_madeCells]; omega)
  rw [toList_madeCells_one] at h
  rw [List.map_replicate]
  exact h

theorem results42 (W : World) (x0 x1 x2 x3 a b c d : Value) (rest : List Value) :
    (results Try.f42 (x0 :: x1 :: x2 :: x3 :: a :: b :: c :: d :: rest).toArray).run Try.prog W = .ok (.tuple #[a, b, c, d]) W := by
  simp [results, Try.results42, go_sem]

theorem own_cell {W : World} {base k c b t : Nat} {E : List Int} (h : W.ownsRow base 3 1 (.slice (some ⟨b, 0, none⟩) k c) k (E.map (Value.int .i64))) (ht : t < k) : W.cell? ⟨b, t, none⟩ = some (.int .i64 (iA E t)) ∧ W.frozen? ⟨b, t, none⟩ = false := by
  refine ⟨?_, h.frozenAt t⟩
  rw [h.cellAt t (by omega)]
  have hl := h.1
  simp at hl
  rw [List.getElem?_map, List.getElem?_eq_getElem (by omega), iA_get (by omega)]
  rfl
theorem iA_set (l : List Int) (t : Nat) (v : Int) (k : Nat) (ht : t < l.length) : iA (l.set t v) k = if k = t then v else iA l k := by
  unfold iA
  rw [List.getD_eq_getElem?_getD, List.getElem?_set, List.getD_eq_getElem?_getD]
  by_cases h : k = t
  · subst h
    simp [ht]
  · rw [if_neg (fun e => h e.symm), if_neg h]
theorem own_wkd {W W' : World} {g off b : Nat} {e : TypeId} {size n : Nat} {v : Value} {xs : List Value} (h : W.ownsRow b e size v n xs) (hk : Wkd g off W W') (hne : v.ownBlock ≠ some g) : W'.ownsRow b e size v n xs :=
  World.ownsRow.kept h (row := some g) ⟨hk.os, hk.tape, hk.output, hk.size, fun j hj hn => hk.block j hj (fun e => hn (by rw [e]))⟩ (.inr hne)
theorem OnWay.setCell {W : World} {g i o : Nat} {c : Cu} {A : Option Addr} {n cap k : Nat} {g2 : Nat} (h : OnWay W g o c A n cap k) (hg : g2 ≠ g) (hA : 0 < n → ∀ ad, A = some ad → ad.block ≠ g2) (v : Value) : OnWay (W.setCell ⟨g2, i, none⟩ v) g o c A n cap k := by
  have oc : ∀ q, (W.setCell ⟨g2, i, none⟩ v).cell? ⟨g, q, none⟩ = W.cell? ⟨g, q, none⟩ := fun q => World.cell?_setCell_other _ _ _ _ (by intro e; simp only [Addr.mk.injEq] at e; exact hg e.1)
  refine ⟨⟨by simpa [World.setCell] using h.wk.lt, (oc _).trans h.wk.c0, (oc _).trans h.wk.c1, (oc _).trans h.wk.c2, (oc _).trans h.wk.c3, (oc _).trans h.wk.c4, by rw [World.frozen?_setCell]; exact h.wk.f3, by rw [World.frozen?_setCell]; exact h.wk.f4⟩, ?_, h.ne, h.le⟩
  refine ⟨h.sl.1, ?_⟩
  rcases h.sl.2 with h0 | ⟨b2, off2, h1, h2, h3⟩
  · exact .inl h0
  · refine .inr ⟨b2, off2, h1, by simpa [World.setCell] using h2, fun q hq => ?_⟩
    have hne : b2 ≠ g2 := hA (by omega) _ h1
    rw [World.cell?_setCell_other _ _ _ _ (by intro e; simp only [Addr.mk.injEq] at e; exact hne e.1.symm)]
    exact h3 q hq

/-- what stands when the last m curves have taken their part -/
structure SplI (w W : World) (g g2 n : Nat) (cs : Nat → Cu) (ss : Nat → Option Addr × Nat × Nat) (P L0 : Int) (m : Nat) : Prop where
  ways : ∀ j, j < n → OnWay W g (j * 5) (cs j) (ss j).1 (ss j).2.1 (ss j).2.2 (if n - m ≤ j then kD cs P n L0 j else climK (cs j) P)
  row : ∃ T : List Int, W.ownsRow g2 3 1 (.slice (some ⟨g2, 0, none⟩) n n) n (T.map (Value.int .i64)) ∧ ∀ j, n - m ≤ j → j < n → iA T j = (cs j).fr + (kD cs P n L0 j : Int)
  below : Below w.heap.size w W

theorem spl_next {w wo wr w9 : World} {g g2 n m i : Nat} {cs : Nat → Cu} {ss : Nat → Option Addr × Nat × Nat} {P L0 : Int} (h : SplI w wo g g2 n cs ss P L0 m) (hi : (n : Int) - 1 - m = (i : Int)) (_ : m < n) (hk : Wkd g (i * 5) wo wr) (hG : Gr wr w9)
    (ho : OnWay wr g (i * 5) (cs i) (ss i).1 (ss i).2.1 (ss i).2.2 (kD cs P n L0 i)) (hg : g < g2) (hw : w.heap.size ≤ g) (hws : w.heap.size ≤ wo.heap.size) (hA : ∀ j, j < n → 0 < (ss j).2.1 → ∀ ad, (ss j).1 = some ad → ad.block ≠ g2) :
    SplI w (w9.setCell ⟨g2, i, none⟩ (.int .i64 ((cs i).fr + (kD cs P n L0 i : Int)))) g g2 n cs ss P L0 (m + 1) ∧ (∃ v, w9.cell? ⟨g2, i, none⟩ = some v) ∧ w9.frozen? ⟨g2, i, none⟩ = false := by
  obtain ⟨T, hT, hTi⟩ := h.row
  have hTl : T.length = n := by simpa using hT.1
  have hT9 : w9.ownsRow g2 3 1 (.slice (some ⟨g2, 0, none⟩) n n) n (T.map (Value.int .i64)) := own_below (own_wkd hT hk (by simp only [Value.ownBlock]; intro e; injection e; omega)) hG.below
  obtain ⟨e1, e2⟩ := own_cell hT9 (t := i) (by omega)
  have hs := (hT9.stored i (.int .i64 ((cs i).fr + (kD cs P n L0 i : Int)))).1
  rw [← List.map_set] at hs
  refine ⟨⟨fun j hj => ?_, ⟨_, hs, fun j h1 h2 => ?_⟩, ?_⟩, ⟨_, e1⟩, e2⟩
  · refine OnWay.setCell (OnWay.gr ?_ hG) (by omega) (hA j hj) _
    by_cases hji : j = i
    · subst hji
      rw [if_pos (by omega)]
      exact ho
    · have hw1 := (h.ways j hj).other hk hji
      by_cases hc : n - m ≤ j
      · rw [if_pos hc] at hw1
        rw [if_pos (by omega)]
        exact hw1
      · rw [if_neg hc] at hw1
        rw [if_neg (by omega)]
        exact hw1
  · rw [iA_set _ _ _ _ (by omega)]
    by_cases hji : j = i
    · subst hji
      rw [if_pos rfl]
    · rw [if_neg hji]
      exact hTi j (by omega) h2
  · exact ((hk.below h.below hw hws).trans (hG.below.mono (by have := hk.size; omega))).setCell (p := ⟨g2, i, none⟩) (by show _ ≤ g2; omega) _

set_option maxHeartbeats 8000000 in
set_option maxRecDepth 100000 in
theorem Split_any (A : Option Addr) (n cap : Nat) (cs : Nat → Cu) (ss : Nat → Option Addr × Nat × Nat) (total : Int) (w : World) (hx : CurvesAt w.heap.size w A n cs ss) (hcap : n ≤ cap) (hm : ∀ i, i < n → (ss i).2.1 ≤ 9223372036854775807) :
    Calls Try.prog 42 #[.slice A n cap, .int .i64 total] w (SplitPost cs n total w) := by
  have mixed := mixedOrders
  have HX := hide hx
  have HCK := hide (checkSplit_any A n cap cs ss total w hx hcap hm)
  by_cases he : splitE cs n total = 0
  · have HE := hide he
    rw [he] at HCK
    have hall : allOk cs n = true ∧ 0 < n ∧ n ≤ 8 ∧ sumTo (fun i => (cs i).fr) n ≤ total ∧ total ≤ sumTo (fun i => (cs i).fr + ((cs i).sl.length : Int)) n := by
      unfold splitE at he
      split at he
      · omega
      · split at he
        · omega
        · split at he
          · omega
          · rename_i h1 h2 h3
            split at he
            · omega
            · rename_i h4
              refine ⟨by simpa using h3, by omega, by omega, ?_, ?_⟩
              · rcases Int.lt_or_le total (sumTo (fun i => (cs i).fr) n) with h | h
                · exact absurd (.inl h) h4
                · exact h
              · rcases Int.lt_or_le (sumTo (fun i => (cs i).fr + ((cs i).sl.length : Int)) n) total with h | h
                · exact absurd (.inr h) h4
                · exact h
    obtain ⟨hal, hn0, hn8, hlo, hhi⟩ := hall
    have hok := (allOk_iff cs n).1 hal
    have HOK := hide hok
    have hlen : ∀ i, i < n → (cs i).sl.length = (ss i).2.1 := fun i hi => (hx.cu i hi).sl.1
    have HL := hide hlen
    have hl64 : ∀ i, i < n → (cs i).sl.length ≤ 64 := fun i hi => (okC_true (hok i hi)).2.2.1
    have HL64 := hide hl64
    have hrlo := sumTo_range (f := fun i => (cs i).fr) (M := 1048576) n (fun i hi => okC_fr (hok i hi))
    have hcat := catL_length cs n
    have HLO := hide (fun w2 (hg : Gr w w2) => common72_any 49 _ num49 A n cap cs ss w2 (HX.out.now hg.below (Nat.le_refl _)) hn8 hn0 hcap hok (fun i hi => by have := okC_fr (hok i hi); omega))
    have HSL : Hid (splitLo cs n = sumTo (fun i => (cs i).fr) n) := rfl
    have HPR : Hid (priceV cs n total = if 0 < total - splitLo cs n then iA (sortI (catL cs n)) (total - splitLo cs n - 1).toNat else -1048576) := rfl
    have HLV : Hid (leftV cs n total = total - sumTo (fun j => (cs j).fr + (climK (cs j) (priceV cs n total) : Int)) n) := rfl
    have HKV : Hid (kV cs n total = kD cs (priceV cs n total) n (leftV cs n total)) := rfl
    have HSX : Hid (splitX cs n total = (List.range n).map (fun j => (cs j).fr + (kV cs n total j : Int)) ∧ splitC cs n total = sumTo (fun j => valK (cs j) (kV cs n total j)) n ∧ splitP cs n total = priceV cs n total) := ⟨if_pos he, if_pos he, if_pos he⟩
    have HAS := hide (fun w2 (hg : Gr w w2) => allSlopes_any A n cap cs ss w2 (HX.out.now hg.below (Nat.le_refl _)) (by omega) hl64)
    rw [← HSL.out] at hlo hrlo hcat
    rw [show sumTo (fun i => (cs i).fr) n = splitLo cs n from rfl] at HLO
    generalize splitLo cs n = lo at *
    have hcl : ((sortI (catL cs n)).length : Int) = (catL cs n).length := by rw [sortI_length]
    have hst : total - lo ≤ ((sortI (catL cs n)).length : Int) := by omega
    obtain ⟨st, hst2⟩ : ∃ st, total - lo = st := ⟨_, rfl⟩
    rw [hst2] at hst HPR
    have hst512 : st ≤ 512 := by
      have h1 := sumTo_range (f := fun i => ((cs i).sl.length : Int)) (M := 64) n (fun i hi => by have := hl64 i hi; omega)
      have h2 : ∀ k, sumTo (fun i => (cs i).fr + ((cs i).sl.length : Int)) k = sumTo (fun i => (cs i).fr) k + sumTo (fun i => ((cs i).sl.length : Int)) k := by
        intro k
        induction k with
        | zero => rfl
        | succ k ih => unfold sumTo; omega
      have h3 := h2 n
      have h4 : sumTo (fun i => (cs i).fr) n = lo := HSL.out.symm
      omega
    have hst0 : 0 ≤ st := by omega
    have hw1 : IntKind.i64.wrap (total - lo) = st := by rw [IntKind.wrap_i64]; omega
    have htot : -9000000 ≤ total ∧ total ≤ 9000000 := by omega
    obtain ⟨htot1, htot2⟩ := htot
    clear hx hm hal hok hlen hl64 he hcat hcl
    go_enter Try.func42, Try.ntmps42
    go_wp2_with fail
    refine HCK.out.mono ?_
    rintro e w2 ⟨rfl, hG⟩
    have HG2 := hide hG
    clear hG HCK
    go_wp2_with fail
    refine (HLO.out _ HG2.out).mono ?_
    rintro e w3 ⟨rfl, hG⟩
    have HG3 := hide (HG2.out.trans hG)
    clear hG HG2 HLO
    obtain ⟨P, hP⟩ : ∃ P, priceV cs n total = P := ⟨_, rfl⟩
    have HPP := hide hP
    rw [hP] at HPR HLV HKV HSX
    by_cases hs : 0 < st
    · have hd0 : decide (0 < st) = true := decide_eq_true hs
      obtain ⟨s1, hs1⟩ : ∃ s1 : Nat, st - 1 = (s1 : Int) := ⟨(st - 1).toNat, by omega⟩
      have hw4 : IntKind.i64.wrap (st - 1) = (s1 : Int) := by rw [IntKind.wrap_i64]; omega
      have hs1l : (s1 : Int) < ((sortI (catL cs n)).length : Int) := by omega
      have HPV : Hid (iA (sortI (catL cs n)) s1 = P) := by show _ = _; rw [HPR.out, if_pos hs, hs1, Int.toNat_natCast]
      clear hs hst hP
      go_wp2_with fail
      refine (HAS.out _ HG3.out).mono ?_
      rintro e w4 ⟨a4, c4, rfl, ho4, hb4⟩
      have hi4 := ints_of_own ho4
      obtain ⟨b4, off4, rfl, hb4', e4⟩ := hi4.at_ (k := s1) (by omega)
      rw [HPV.out] at e4
      have HB4 : Hid (Below w.heap.size w w4) := HG3.out.below.trans (hb4.mono HG3.out.size)
      have hs4 : w.heap.size ≤ w4.heap.size := HB4.out.size
      clear ho4 hb4 hi4 HG3 HAS
      have hmk : ∀ W, (Instr.makeSlice 83 (.int .i64 (n : Int)) (.int .i64 (n : Int))).run Try.prog W = .ok (.slice (some ⟨W.heap.size, 0, none⟩) n n) (W.alloc (.cells (madeCells #[.int .i64 0, .int .i64 0, .slice none 0 0, .int .i64 0, .int .i64 0] (n * 5)) 61)) := fun W => run_walkers W (by omega)
      go_wp2_with fail
      obtain ⟨g, hg⟩ : ∃ g, w4.heap.size = g := ⟨_, rfl⟩
      rw [hg]
      have HRM := hide (room_new w4 n)
      have HBM : Hid (Below w.heap.size w (w4.alloc (.cells (madeCells #[.int .i64 0, .int .i64 0, .slice none 0 0, .int .i64 0, .int .i64 0] (n * 5)) 61))) := HB4.out.alloc hs4 _
      rw [hg] at HRM
      have hgw : w.heap.size ≤ g := by omega
      generalize w4.alloc (.cells (madeCells #[.int .i64 0, .int .i64 0, .slice none 0 0, .int .i64 0, .int .i64 0] (n * 5)) 61) = w5 at HRM HBM ⊢
      clear hmk hg HB4 hs4
      clear e4 hb4'
      go_loopw [11, 43] (fun vl vi wr => ∃ i : Nat, i ≤ n ∧ vi = .int .i64 i ∧ vl = .int .i64 (total - sumTo (fun j => (cs j).fr + (climK (cs j) P : Int)) i) ∧ Hid (RoomW wr g n) ∧ Hid (∀ j, j < i → OnWay wr g (j * 5) (cs j) (ss j).1 (ss j).2.1 (ss j).2.2 (climK (cs j) P)) ∧ Hid (Below w.heap.size w wr)) (fun _ vi _ => n - (intOf vi).toNat)
      case atStart => exact ⟨0, Nat.zero_le _, rfl, by simp [sumTo], HRM, hide (fun j hj => by omega), HBM⟩
      case round =>
        obtain ⟨i, hi, rfl, rfl, HR, HW, HB⟩ := hrel
        by_cases hin : i < n
        · as_aux_lemma =>
          have hin' : (i : Int) < (n : Int) := by omega
          obtain ⟨b, off, rfl, hb, c0, c1, c2⟩ := HX.out.at_ hin
          have d0 := (HB.out.cell (p := ⟨b, off + i * 3, none⟩) hb).trans c0
          have d1 := (HB.out.cell (p := ⟨b, off + i * 3 + 1, none⟩) hb).trans c1
          have d2 := (HB.out.cell (p := ⟨b, off + i * 3 + 2, none⟩) hb).trans c2
          have hok := HOK.out i hin
          have hcu := HX.out.cu i hin
          have hsz := HB.out.size
          have HAT := hide (fun w1 (hb1 : Below w.heap.size w w1) => at_any (cs i) (ss i).1 (ss i).2.1 (ss i).2.2 0 w1 hok (hcu.sl.now hb1 (Nat.le_refl _)) (fun hz ad e => by have := hcu.old hz ad e; have := hb1.size; omega) (Nat.zero_le _))
          have HCU := hide hcu
          have HOKI := hide hok
          have hrk := climK_le (cs i) P
          have hfr := okC_fr hok
          have hl6 := (okC_true hok).2.2.1
          have HSU : Hid (sumTo (fun j => (cs j).fr + (climK (cs j) P : Int)) (i + 1) = sumTo (fun j => (cs j).fr + (climK (cs j) P : Int)) i + ((cs i).fr + (climK (cs i) P : Int))) := rfl
          have hrs := sumTo_range (f := fun j => (cs j).fr + (climK (cs j) P : Int)) (M := 1048640) i (fun j hj => by have := okC_fr (HOK.out j (by omega)); have := climK_le (cs j) P; have := (okC_true (HOK.out j (by omega))).2.2.1; omega)
          have HCK2 : Hid (∀ k', Clim (cs i) P (ss i).2.1 0 k' → k' = climK (cs i) P) := fun k' h => clim_is (HL.out i hin) h
          clear c0 c1 c2 hok hcu
          generalize hci : cs i = c at d0 d1 HAT HCU HOKI hrk hfr hl6 HSU HCK2
          generalize hsi : ss i = s at d2 HAT HCU HCK2
          obtain ⟨A2, n2, k2⟩ := s
          have d2 : wr.cell? ⟨b, off + i * 3 + 2, none⟩ = some (.slice A2 n2 k2) := d2
          have HCU : Hid (CuAt w.heap.size w c A2 n2 k2) := HCU
          have HCK2 : Hid (∀ k', Clim c P n2 0 k' → k' = climK c P) := HCK2
          have HAT : Hid (∀ w1, Below w.heap.size w w1 → Calls Try.prog 51 #[.agg #[.int .i64 c.fr, .int .i64 c.fst, .slice A2 n2 k2], .int .i64 (c.fr + ((0 : Nat) : Int))] w1 fun e w' => e = .returned (.agg #[.int .i64 c.fr, .int .i64 c.fst, .slice A2 n2 k2, .int .i64 (c.fr + ((0 : Nat) : Int)), .int .i64 (valK c 0)]) ∧ Below w1.heap.size w1 w') := HAT
          have e00 : c.fr + ((0 : Nat) : Int) = c.fr := by omega
          rw [e00] at HAT
          have HCI := hide hci
          have HSI := hide hsi
          have HB1 : Hid (Below w.heap.size w (wr.alloc (.cells #[.int .i64 c.fr, .int .i64 c.fst, .slice A2 n2 k2] 24))) := HB.out.alloc hsz _
          clear hci hsi
          go_wp2_with fail
          refine (HAT.out _ HB1.out).mono ?_
          rintro e w6 ⟨rfl, hb6⟩
          have hb6' : Below wr.heap.size wr w6 := ((Below.refl wr.heap.size wr).alloc (Nat.le_refl _) _).trans (hb6.mono (by rw [World.size_alloc]; exact Nat.le_succ _))
          have HR6 := hide (HR.out.below hb6')
          have HW6 : Hid (∀ j, j < i → OnWay w6 g (j * 5) (cs j) (ss j).1 (ss j).2.1 (ss j).2.2 (climK (cs j) P)) := fun j hj => (HW.out j hj).below hb6'
          have HB6 : Hid (Below w.heap.size w w6) := HB.out.trans (hb6'.mono hsz)
          have hs6 : w.heap.size ≤ w6.heap.size := HB6.out.size
          have hA2 : 0 < n2 → ∀ ad, A2 = some ad → ad.block ≠ g := fun hz ad e => by have := HCU.out.old hz ad e; omega
          have ON := onway_new HR6.out hin (HCU.out.now HB6.out (Nat.le_refl _)) hA2 (Nat.zero_le n2)
          rw [e00] at ON
          have HCL := hide (climb_any g (i * 5) c A2 n2 k2 0 P _ HOKI.out ON)
          have HRS := hide (HR6.out.setW hin (.int .i64 c.fr) (.int .i64 c.fst) (.slice A2 n2 k2) (.int .i64 c.fr) (.int .i64 (valK c 0)))
          have HWS : Hid (∀ j, j < i → OnWay (setW w6 g (i * 5) (.int .i64 c.fr) (.int .i64 c.fst) (.slice A2 n2 k2) (.int .i64 c.fr) (.int .i64 (valK c 0))) g (j * 5) (cs j) (ss j).1 (ss j).2.1 (ss j).2.2 (climK (cs j) P)) := fun j hj => (HW6.out j hj).setW (by omega) _ _ _ _ _
          have HBS := hide (setW_below HB6.out hgw (.int .i64 c.fr) (.int .i64 c.fst) (.slice A2 n2 k2) (.int .i64 c.fr) (.int .i64 (valK c 0)) (o := i * 5))
          have hsS : w.heap.size ≤ (setW w6 g (i * 5) (.int .i64 c.fr) (.int .i64 c.fst) (.slice A2 n2 k2) (.int .i64 c.fr) (.int .i64 (valK c 0))).heap.size := HBS.out.size
          have HSS := hide hsS
          obtain ⟨⟨z0, x0⟩, y0⟩ := HR6.out.cells (i * 5) (by omega)
          obtain ⟨⟨z1, x1⟩, y1⟩ := HR6.out.cells (i * 5 + 1) (by omega)
          obtain ⟨⟨z2, x2⟩, y2⟩ := HR6.out.cells (i * 5 + 2) (by omega)
          obtain ⟨⟨z3, x3⟩, y3⟩ := HR6.out.cells (i * 5 + 3) (by omega)
          obtain ⟨⟨z4, x4⟩, y4⟩ := HR6.out.cells (i * 5 + 4) (by omega)
          clear hb6 hb6' HR HW HB HB1 HAT d0 d1 d2 ON hsS hA2 HR6 HW6 HB6 hs6
          have HCL2 := HCL.out
          generalize hWS : setW w6 g (i * 5) (.int .i64 c.fr) (.int .i64 c.fst) (.slice A2 n2 k2) (.int .i64 c.fr) (.int .i64 (valK c 0)) = WS at HCL HCL2 HRS HWS HBS HSS
          unfold setW at hWS
          clear HCL2
          generalize valK c 0 = v00 at hWS HCL ⊢
          go_wp2_with fail
          refine HCL.out.mono ?_
          rintro e w7 ⟨rfl, k', hcl, ho7, hk7⟩
          obtain rfl := HCK2.out k' hcl
          have hg7 := ho7.wk.lt
          have HR7 := hide (HRS.out.wkd hk7 ho7)
          have HB7 := hide (hk7.below HBS.out hgw HSS.out)
          have HW7 : Hid (∀ j, j < i + 1 → OnWay w7 g (j * 5) (cs j) (ss j).1 (ss j).2.1 (ss j).2.2 (climK (cs j) P)) := fun j hj => by
            rcases Nat.lt_or_ge j i with h | h
            · exact (HWS.out j h).other hk7 (by omega)
            · obtain rfl : j = i := by omega
              rw [HCI.out, HSI.out]
              exact ho7
          have x7 := ho7.wk.c3
          generalize sumTo (fun j => (cs j).fr + (climK (cs j) P : Int)) i = Si at HSU hrs ⊢
          obtain ⟨xk, hxk⟩ : ∃ xk, c.fr + (climK c P : Int) = xk := ⟨_, rfl⟩
          rw [hxk] at x7 HSU
          have hbk : -1048640 ≤ xk ∧ xk ≤ 1048640 := by omega
          obtain ⟨hbk1, hbk2⟩ := hbk
          have hSi1 : -9000000 ≤ Si := by omega
          have hSi2 : Si ≤ 9000000 := by omega
          have HFN : Hid (total - Si - xk = total - sumTo (fun j => (cs j).fr + (climK (cs j) P : Int)) (i + 1)) := by show _ = _; rw [HSU.out]; omega
          clear hcl ho7 hk7 HCL HRS HWS HBS HSS x0 x1 x2 x3 x4 y0 y1 y2 y3 y4 hWS hxk hrs
          go_wp2
          go_roundw
          case rel => exact ⟨i + 1, by omega, by go_num, by rw [← HFN.out], HR7, HW7, HB7⟩
          case measure => simp [intOf]; omega
        · obtain rfl : n = i := by omega
          have HLV2 := hide HLV.out
          obtain ⟨L0, hL0⟩ : ∃ L0, total - sumTo (fun j => (cs j).fr + (climK (cs j) P : Int)) n = L0 := ⟨_, rfl⟩
          rw [hL0] at HLV2 ⊢
          have hmk2 := run_make_row' (P := Try.prog) 22 3 (.int .i64 0) 8 Try.underlying22 info3 rfl .i64 .i64 n (by omega) (by omega)
          have hw8 : IntKind.i64.wrap ((n : Int) - 1) = (n : Int) - 1 := by rw [IntKind.wrap_i64]; omega
          have hL0r : -18000000 ≤ L0 ∧ L0 ≤ 18000000 := by
            have := sumTo_range (f := fun j => (cs j).fr + (climK (cs j) P : Int)) (M := 1048640) n (fun j hj => by have := okC_fr (HOK.out j hj); have := climK_le (cs j) P; have := (okC_true (HOK.out j hj)).2.2.1; omega)
            omega
          obtain ⟨hL01, hL02⟩ := hL0r
          clear hL0
          go_wp2_with fail
          obtain ⟨g2, hg2⟩ : ∃ g2, wr.heap.size = g2 := ⟨_, rfl⟩
          have hg12 : g < g2 := by have := HR.out.lt; omega
          have hg2w : w.heap.size ≤ g2 := by omega
          rw [hg2]
          have hno : (wr.alloc (.cells (madeCells #[.int .i64 0] n) 3)).ownsRow g2 3 1 (.slice (some ⟨g2, 0, none⟩) n n) n ((List.replicate n (0 : Int)).map (Value.int .i64)) := by rw [← hg2]; exact made_ints wr (Nat.le_refl _) (by omega)
          have HS0 : Hid (SplI w (wr.alloc (.cells (madeCells #[.int .i64 0] n) 3)) g g2 n cs ss P L0 0) := by
            refine ⟨fun j hj => ?_, ⟨_, hno, fun j h1 h2 => by omega⟩, HB.out.alloc HB.out.size _⟩
            rw [if_neg (by omega)]
            exact (HW.out j hj).gr ((Gr.refl wr).alloc _)
          generalize wr.alloc (.cells (madeCells #[.int .i64 0] n) 3) = w8 at HS0 ⊢
          clear hno hg2 HR HW HB hmk2
          go_loopw [11, 16] (fun vl vi wr => ∃ m : Nat, m ≤ n ∧ vi = .int .i64 ((n : Int) - 1 - m) ∧ vl = .int .i64 (leftD cs P n L0 m) ∧ Hid (SplI w wr g g2 n cs ss P L0 m)) (fun _ vi _ => (intOf vi + 1).toNat)
          case atStart => exact ⟨0, Nat.zero_le _, by simp, rfl, HS0⟩
          case round =>
            obtain ⟨m, hm, rfl, rfl, HSI⟩ := hrel
            by_cases hmn : m < n
            · as_aux_lemma =>
              obtain ⟨i, hi⟩ : ∃ i : Nat, (n : Int) - 1 - m = (i : Int) := ⟨n - 1 - m, by omega⟩
              have hin : i < n := by omega
              have hin' : (i : Int) < (n : Int) := by omega
              have hi2 : n - 1 - m = i := by omega
              have hW0 := HSI.out.ways i hin
              rw [if_neg (by omega)] at hW0
              have HD1 : Hid (leftD cs P n L0 (m + 1) = (give (cs i) P (climK (cs i) P) (leftD cs P n L0 m)).2) := by show (give (cs (n - 1 - m)) P (climK (cs (n - 1 - m)) P) (leftD cs P n L0 m)).2 = _; rw [hi2]
              have HD2 : Hid (kD cs P n L0 i = (give (cs i) P (climK (cs i) P) (leftD cs P n L0 m)).1) := by
                show (give (cs i) P (climK (cs i) P) (leftD cs P n L0 (n - 1 - i))).1 = _
                rw [show n - 1 - i = m by omega]
              have hlr := leftD_range cs P n L0 HL64.out m hm
              have hok := HOK.out i hin
              have hln := (okC_true hok).2.2.1
              have hfr := okC_fr hok
              have hni := HL.out i hin
              have HOKI := hide hok
              have HW0 := hide hW0
              obtain ⟨l0, hl0⟩ : ∃ l0, leftD cs P n L0 m = l0 := ⟨_, rfl⟩
              rw [hl0] at HD1 HD2 hlr ⊢
              rw [hi]
              generalize hci : cs i = c at HD1 HD2 hok hln hfr hni HOKI HW0
              have HAA : Hid (∀ j, j < n → 0 < (ss j).2.1 → ∀ ad, (ss j).1 = some ad → ad.block ≠ g2) := fun j hj hz ad e => by have := (HX.out.cu j hj).old hz ad e; omega
              obtain ⟨wo, hwo⟩ : ∃ wo : World, wo = wr := ⟨_, rfl⟩
              subst hwo
              generalize hsi : ss i = s at HW0 hni
              obtain ⟨A2, n2, k2⟩ := s
              have HW0 : Hid (OnWay wo g (i * 5) c A2 n2 k2 (climK c P)) := HW0
              have hni : c.sl.length = n2 := hni
              have HCI := hide hci
              have HSI2 := hide hsi
              have hwi : IntKind.i64.wrap ((i : Int) - 1) = (n : Int) - 1 - ((m + 1 : Nat) : Int) := by rw [IntKind.wrap_i64]; omega
              have hsub : (i : Int) - 1 = (n : Int) - 1 - ((m + 1 : Nat) : Int) := by omega
              clear hci hsi hok hW0
              go_wp2
              go_loopg [11] (n2 - climK c P) (fun f vl wr => ∃ (k : Nat) (l : Int), vl = .int .i64 l ∧ f = n2 - k ∧ Hid (giveF c P (n2 - k) k l = give c P (climK c P) l0) ∧ Hid (OnWay wr g (i * 5) c A2 n2 k2 k) ∧ Hid (Wkd g (i * 5) wo wr) ∧ -30000000 ≤ l ∧ l ≤ 30000000)
              case atStart => exact ⟨climK c P, l0, rfl, rfl, by show _ = _; unfold give; rw [hni], HW0, hide (Wkd.of_gr HW0.out.wk.lt (Gr.refl _)), by omega, by omega⟩
              case round =>
                obtain ⟨k, l, rfl, rfl, HG, HO, HK, hl1, hl2⟩ := hrel
                have hkn := HO.out.le
                have HT := hide (fun w1 => toOf_any c A2 n2 k2 w1 hfr.1 hfr.2 (by omega))
                have HF := hide (fun w1 (hg : Gr wr w1) => after_any g (i * 5) c A2 n2 k2 k (valK c k) w1 (HO.out.wk.gr hg) (HO.out.sl.gr hg) hfr.1 hfr.2 (by omega) hkn)
                obtain ⟨x, hxx⟩ : ∃ x, c.fr + (k : Int) = x := ⟨_, rfl⟩
                obtain ⟨t, ht⟩ : ∃ t, c.fr + (n2 : Int) = t := ⟨_, rfl⟩
                rw [ht] at HT
                have g3 := HO.out.wk.c3
                rw [hxx] at g3
                have hlt := HO.out.wk.lt
                have E0 := fun n os => cell_grown (a := ⟨g, i * 5, none⟩) hlt HO.out.wk.c0 n os
                have E1 := fun n os => cell_grown (a := ⟨g, i * 5 + 1, none⟩) hlt HO.out.wk.c1 n os
                have E2 := fun n os => cell_grown (a := ⟨g, i * 5 + 2, none⟩) hlt HO.out.wk.c2 n os
                have E3 := fun n os => cell_grown (a := ⟨g, i * 5 + 3, none⟩) hlt g3 n os
                have h0xx := True.intro
                clear g3
                by_cases h1 : 0 < l
                · have d1 : decide (0 < l) = true := decide_eq_true h1
                  by_cases h2 : k < n2
                  · have d2 : decide (x < t) = true := decide_eq_true (by omega)
                    have hA : aftV c k = iA c.sl k := if_neg (by omega)
                    rw [hA] at HF
                    by_cases h3 : iA c.sl k = P
                    · have d3 : (iA c.sl k == P) = true := beq_iff_eq.2 h3
                      have HG2 : Hid (giveF c P (n2 - (k + 1)) (k + 1) (l - 1) = give c P (climK c P) l0) := by
                        show _ = _
                        rw [← HG.out, show n2 - k = (n2 - (k + 1)) + 1 by omega]
                        show _ = if 0 < l ∧ k < c.sl.length ∧ iA c.sl k = P then _ else _
                        rw [if_pos ⟨h1, by omega, h3⟩]
                      have HST := hide (fun w1 (hg : Gr wr w1) => onway_step HOKI.out (HO.out.gr hg) h2)
                      clear h3 hA HG
                      generalize iA c.sl k = s at HF d3
                      go_wp2_with fail
                      go_quiet_grown (first | (go_at_call 50; refine Calls.grown_of ((HT.out _).mono fun _ _ h => ⟨h.1, h.2⟩)) | (go_at_call 63; refine Calls.grown_of ((HF.out _ ⟨_, _, rfl⟩).mono fun _ _ h => ⟨h.1, h.2⟩)))
                      have HG9 : Hid (Gr wr (grow (wr.drewN nq) osq)) := ⟨nq, osq, rfl⟩
                      have HST2 := hide (HST.out _ HG9.out)
                      generalize grow (wr.drewN nq) osq = w9 at HG9 HST2 ⊢
                      clear E0 E1 E2 E3 HT HF HST
                      go_wp2_with fail
                      refine HST2.out.mono ?_
                      rintro e wa ⟨rfl, ho, hk5⟩
                      have HOa := hide ho
                      have HKa := hide ((HK.out.trans (Wkd.of_gr hlt HG9.out)).trans hk5)
                      clear ho hk5 HST2
                      go_wp2
                      go_roundg (n2 - (k + 1))
                      case measure => omega
                      case rel => exact ⟨k + 1, l - 1, rfl, rfl, HG2, HOa, HKa, by omega, by omega⟩
                    · have d3 : (iA c.sl k == P) = false := beq_eq_false_iff_ne.2 h3
                      have HNO : Hid (¬ (0 < l ∧ k < c.sl.length ∧ iA c.sl k = P)) := fun h => h3 h.2.2
                      generalize iA c.sl k = s at HF d3
                      have HEX : Hid (give c P (climK c P) l0 = (k, l)) := by show _ = _; rw [← HG.out]; exact giveF_stop HNO.out _
                      have HNX : Hid (∀ w9, Gr wr w9 → SplI w (w9.setCell ⟨g2, i, none⟩ (.int .i64 x)) g g2 n cs ss P L0 (m + 1) ∧ (∃ v, w9.cell? ⟨g2, i, none⟩ = some v) ∧ w9.frozen? ⟨g2, i, none⟩ = false) := fun w9 hg9 => by
                        have hkk : kD cs P n L0 i = k := by rw [HD2.out, HEX.out]
                        have hh := spl_next HSI.out hi hmn HK.out hg9 (by rw [HCI.out, HSI2.out, hkk]; exact HO.out) hg12 hgw HSI.out.below.size HAA.out
                        rw [HCI.out, hkk, hxx] at hh
                        exact hh
                      have HLD : Hid (leftD cs P n L0 (m + 1) = l) := by show _ = _; rw [HD1.out, HEX.out]
                      clear HNO HEX HG HD1 HD2 h0xx HAA
                      go_wp2_with fail
                      go_quiet_grown (first | (go_at_call 50; refine Calls.grown_of ((HT.out _).mono fun _ _ h => ⟨h.1, h.2⟩)) | (go_at_call 63; refine Calls.grown_of ((HF.out _ ⟨_, _, rfl⟩).mono fun _ _ h => ⟨h.1, h.2⟩)))
                      have E3' := E3 nq osq
                      obtain ⟨HS9, ⟨v9, c9⟩, f9⟩ := HNX.out _ ⟨nq, osq, rfl⟩
                      have HS9 := hide HS9
                      generalize grow (wr.drewN nq) osq = w9 at E3' HS9 c9 f9 ⊢
                      clear E0 E1 E2 E3 HNX HT HF HO HK
                      go_wp2
                      go_roundw
                      case rel => exact ⟨m + 1, by omega, rfl, by rw [HLD.out], HS9⟩
                      case measure => simp [intOf]; omega
                  · have d2 : decide (x < t) = false := decide_eq_false (by omega)
                    have HNO : Hid (¬ (0 < l ∧ k < c.sl.length ∧ iA c.sl k = P)) := fun h => h2 (by omega)
                    have HEX : Hid (give c P (climK c P) l0 = (k, l)) := by show _ = _; rw [← HG.out]; exact giveF_stop HNO.out _
                    have HNX : Hid (∀ w9, Gr wr w9 → SplI w (w9.setCell ⟨g2, i, none⟩ (.int .i64 x)) g g2 n cs ss P L0 (m + 1) ∧ (∃ v, w9.cell? ⟨g2, i, none⟩ = some v) ∧ w9.frozen? ⟨g2, i, none⟩ = false) := fun w9 hg9 => by
                      have hkk : kD cs P n L0 i = k := by rw [HD2.out, HEX.out]
                      have hh := spl_next HSI.out hi hmn HK.out hg9 (by rw [HCI.out, HSI2.out, hkk]; exact HO.out) hg12 hgw HSI.out.below.size HAA.out
                      rw [HCI.out, hkk, hxx] at hh
                      exact hh
                    have HLD : Hid (leftD cs P n L0 (m + 1) = l) := by show _ = _; rw [HD1.out, HEX.out]
                    clear HNO HEX HG HD1 HD2 h0xx HAA
                    go_wp2_with fail
                    go_quiet_grown (first | (go_at_call 50; refine Calls.grown_of ((HT.out _).mono fun _ _ h => ⟨h.1, h.2⟩)) | (go_at_call 63; refine Calls.grown_of ((HF.out _ ⟨_, _, rfl⟩).mono fun _ _ h => ⟨h.1, h.2⟩)))
                    have E3' := E3 nq osq
                    obtain ⟨HS9, ⟨v9, c9⟩, f9⟩ := HNX.out _ ⟨nq, osq, rfl⟩
                    have HS9 := hide HS9
                    generalize grow (wr.drewN nq) osq = w9 at E3' HS9 c9 f9 ⊢
                    clear E0 E1 E2 E3 HNX HT HF HO HK
                    go_wp2
                    go_roundw
                    case rel => exact ⟨m + 1, by omega, rfl, by rw [HLD.out], HS9⟩
                    case measure => simp [intOf]; omega
                · have d1 : decide (0 < l) = false := decide_eq_false h1
                  have HNO : Hid (¬ (0 < l ∧ k < c.sl.length ∧ iA c.sl k = P)) := fun h => h1 h.1
                  have HEX : Hid (give c P (climK c P) l0 = (k, l)) := by show _ = _; rw [← HG.out]; exact giveF_stop HNO.out _
                  have HNX : Hid (∀ w9, Gr wr w9 → SplI w (w9.setCell ⟨g2, i, none⟩ (.int .i64 x)) g g2 n cs ss P L0 (m + 1) ∧ (∃ v, w9.cell? ⟨g2, i, none⟩ = some v) ∧ w9.frozen? ⟨g2, i, none⟩ = false) := fun w9 hg9 => by
                    have hkk : kD cs P n L0 i = k := by rw [HD2.out, HEX.out]
                    have hh := spl_next HSI.out hi hmn HK.out hg9 (by rw [HCI.out, HSI2.out, hkk]; exact HO.out) hg12 hgw HSI.out.below.size HAA.out
                    rw [HCI.out, hkk, hxx] at hh
                    exact hh
                  have HLD : Hid (leftD cs P n L0 (m + 1) = l) := by show _ = _; rw [HD1.out, HEX.out]
                  clear HNO HEX HG HD1 HD2 h0xx HAA
                  have g3 : wr.cell? ⟨g, i * 5 + 3, none⟩ = some (.int .i64 x) := by rw [← hxx]; exact HO.out.wk.c3
                  clear E0 E1 E2 E3 HT HF HO HK h1
                  go_wp2_with fail
                  go_quiet (fail)
                  have E3' : (wr.drewN nq).cell? ⟨g, i * 5 + 3, none⟩ = some (.int .i64 x) := g3
                  obtain ⟨HS9, ⟨v9, c9⟩, f9⟩ := HNX.out _ ((Gr.refl wr).drewN nq)
                  have HS9 := hide HS9
                  generalize wr.drewN nq = w9 at E3' HS9 c9 f9 ⊢
                  clear g3 HNX
                  go_wp2
                  go_roundw
                  case rel => exact ⟨m + 1, by omega, rfl, by rw [HLD.out], HS9⟩
                  case measure => simp [intOf]; omega
            · obtain rfl : n = m := by omega
              have hm1 : (n : Int) - 1 - (n : Int) = -1 := by omega
              rw [hm1]
              have HWY : Hid (∀ j, j < n → OnWay wr g (j * 5) (cs j) (ss j).1 (ss j).2.1 (ss j).2.2 (kD cs P n L0 j)) := fun j hj => by
                have := HSI.out.ways j hj
                rw [if_pos (by omega)] at this
                exact this
              obtain ⟨T, hT, hTi⟩ := HSI.out.row
              have hTl : T.length = n := by simpa using hT.1
              have hTT := list_of_iA (f := fun j => (cs j).fr + (kD cs P n L0 j : Int)) hTl (fun j hj => hTi j (by omega) hj)
              have HC7 := hide (common74_any g n cs ss (kD cs P n L0) wr HWY.out hn8 hn0 (fun j hj => okC_val (HOK.out j hj) (kD_le cs P n L0 j)))
              have HTO := hide hT
              have HTT := hide hTT
              have HBF := hide HSI.out.below
              clear hT hTi hTl hTT HSI
              go_wp2_with fail
              refine HC7.out.mono ?_
              rintro e wz ⟨rfl, hGz⟩
              have HGZ := hide hGz
              clear hGz HC7
              go_wp2
              refine bodyPost_ret (results42 _ _ _ _ _ _ _ _ _ _) rfl ?_
              refine ⟨some ⟨g2, 0, none⟩, n, n, ?_, ?_, HBF.out.trans (HGZ.out.below.mono HBF.out.size)⟩
              · rw [HSX.out.2.1, HSX.out.2.2, HE.out, HKV.out, HLV2.out]
              · rw [HSX.out.1, HKV.out, HLV2.out, ← HTT.out]
                exact ints_of_own (own_below HTO.out HGZ.out.below)
    · have hd0 : decide (0 < st) = false := decide_eq_false hs
      have HPV : Hid (P = -1048576) := by show _ = _; rw [HPR.out, if_neg hs]
      have HB4 : Hid (Below w.heap.size w w3) := HG3.out.below
      have hs4 : w.heap.size ≤ w3.heap.size := HB4.out.size
      clear hs hst hP HG3 HAS HPR
      obtain ⟨w4, hw4⟩ : ∃ w4 : World, w4 = w3 := ⟨_, rfl⟩
      subst hw4
      have hmk : ∀ W, (Instr.makeSlice 83 (.int .i64 (n : Int)) (.int .i64 (n : Int))).run Try.prog W = .ok (.slice (some ⟨W.heap.size, 0, none⟩) n n) (W.alloc (.cells (madeCells #[.int .i64 0, .int .i64 0, .slice none 0 0, .int .i64 0, .int .i64 0] (n * 5)) 61)) := fun W => run_walkers W (by omega)
      go_wp2_with fail
      rw [← HPV.out]
      obtain ⟨g, hg⟩ : ∃ g, w4.heap.size = g := ⟨_, rfl⟩
      rw [hg]
      have HRM := hide (room_new w4 n)
      have HBM : Hid (Below w.heap.size w (w4.alloc (.cells (madeCells #[.int .i64 0, .int .i64 0, .slice none 0 0, .int .i64 0, .int .i64 0] (n * 5)) 61))) := HB4.out.alloc hs4 _
      rw [hg] at HRM
      have hgw : w.heap.size ≤ g := by omega
      generalize w4.alloc (.cells (madeCells #[.int .i64 0, .int .i64 0, .slice none 0 0, .int .i64 0, .int .i64 0] (n * 5)) 61) = w5 at HRM HBM ⊢
      clear hmk hg HB4 hs4
      go_loopw [11, 43] (fun vl vi wr => ∃ i : Nat, i ≤ n ∧ vi = .int .i64 i ∧ vl = .int .i64 (total - sumTo (fun j => (cs j).fr + (climK (cs j) P : Int)) i) ∧ Hid (RoomW wr g n) ∧ Hid (∀ j, j < i → OnWay wr g (j * 5) (cs j) (ss j).1 (ss j).2.1 (ss j).2.2 (climK (cs j) P)) ∧ Hid (Below w.heap.size w wr)) (fun _ vi _ => n - (intOf vi).toNat)
      case atStart => exact ⟨0, Nat.zero_le _, rfl, by simp [sumTo], HRM, hide (fun j hj => by omega), HBM⟩
      case round =>
        obtain ⟨i, hi, rfl, rfl, HR, HW, HB⟩ := hrel
        by_cases hin : i < n
        · as_aux_lemma =>
          have hin' : (i : Int) < (n : Int) := by omega
          obtain ⟨b, off, rfl, hb, c0, c1, c2⟩ := HX.out.at_ hin
          have d0 := (HB.out.cell (p := ⟨b, off + i * 3, none⟩) hb).trans c0
          have d1 := (HB.out.cell (p := ⟨b, off + i * 3 + 1, none⟩) hb).trans c1
          have d2 := (HB.out.cell (p := ⟨b, off + i * 3 + 2, none⟩) hb).trans c2
          have hok := HOK.out i hin
          have hcu := HX.out.cu i hin
          have hsz := HB.out.size
          have HAT := hide (fun w1 (hb1 : Below w.heap.size w w1) => at_any (cs i) (ss i).1 (ss i).2.1 (ss i).2.2 0 w1 hok (hcu.sl.now hb1 (Nat.le_refl _)) (fun hz ad e => by have := hcu.old hz ad e; have := hb1.size; omega) (Nat.zero_le _))
          have HCU := hide hcu
          have HOKI := hide hok
          have hrk := climK_le (cs i) P
          have hfr := okC_fr hok
          have hl6 := (okC_true hok).2.2.1
          have HSU : Hid (sumTo (fun j => (cs j).fr + (climK (cs j) P : Int)) (i + 1) = sumTo (fun j => (cs j).fr + (climK (cs j) P : Int)) i + ((cs i).fr + (climK (cs i) P : Int))) := rfl
          have hrs := sumTo_range (f := fun j => (cs j).fr + (climK (cs j) P : Int)) (M := 1048640) i (fun j hj => by have := okC_fr (HOK.out j (by omega)); have := climK_le (cs j) P; have := (okC_true (HOK.out j (by omega))).2.2.1; omega)
          have HCK2 : Hid (∀ k', Clim (cs i) P (ss i).2.1 0 k' → k' = climK (cs i) P) := fun k' h => clim_is (HL.out i hin) h
          clear c0 c1 c2 hok hcu
          generalize hci : cs i = c at d0 d1 HAT HCU HOKI hrk hfr hl6 HSU HCK2
          generalize hsi : ss i = s at d2 HAT HCU HCK2
          obtain ⟨A2, n2, k2⟩ := s
          have d2 : wr.cell? ⟨b, off + i * 3 + 2, none⟩ = some (.slice A2 n2 k2) := d2
          have HCU : Hid (CuAt w.heap.size w c A2 n2 k2) := HCU
          have HCK2 : Hid (∀ k', Clim c P n2 0 k' → k' = climK c P) := HCK2
          have HAT : Hid (∀ w1, Below w.heap.size w w1 → Calls Try.prog 51 #[.agg #[.int .i64 c.fr, .int .i64 c.fst, .slice A2 n2 k2], .int .i64 (c.fr + ((0 : Nat) : Int))] w1 fun e w' => e = .returned (.agg #[.int .i64 c.fr, .int .i64 c.fst, .slice A2 n2 k2, .int .i64 (c.fr + ((0 : Nat) : Int)), .int .i64 (valK c 0)]) ∧ Below w1.heap.size w1 w') := HAT
          have e00 : c.fr + ((0 : Nat) : Int) = c.fr := by omega
          rw [e00] at HAT
          have HCI := hide hci
          have HSI := hide hsi
          have HB1 : Hid (Below w.heap.size w (wr.alloc (.cells #[.int .i64 c.fr, .int .i64 c.fst, .slice A2 n2 k2] 24))) := HB.out.alloc hsz _
          clear hci hsi
          go_wp2_with fail
          refine (HAT.out _ HB1.out).mono ?_
          rintro e w6 ⟨rfl, hb6⟩
          have hb6' : Below wr.heap.size wr w6 := ((Below.refl wr.heap.size wr).alloc (Nat.le_refl _) _).trans (hb6.mono (by rw [World.size_alloc]; exact Nat.le_succ _))
          have HR6 := hide (HR.out.below hb6')
          have HW6 : Hid (∀ j, j < i → OnWay w6 g (j * 5) (cs j) (ss j).1 (ss j).2.1 (ss j).2.2 (climK (cs j) P)) := fun j hj => (HW.out j hj).below hb6'
          have HB6 : Hid (Below w.heap.size w w6) := HB.out.trans (hb6'.mono hsz)
          have hs6 : w.heap.size ≤ w6.heap.size := HB6.out.size
          have hA2 : 0 < n2 → ∀ ad, A2 = some ad → ad.block ≠ g := fun hz ad e => by have := HCU.out.old hz ad e; omega
          have ON := onway_new HR6.out hin (HCU.out.now HB6.out (Nat.le_refl _)) hA2 (Nat.zero_le n2)
          rw [e00] at ON
          have HCL := hide (climb_any g (i * 5) c A2 n2 k2 0 P _ HOKI.out ON)
          have HRS := hide (HR6.out.setW hin (.int .i64 c.fr) (.int .i64 c.fst) (.slice A2 n2 k2) (.int .i64 c.fr) (.int .i64 (valK c 0)))
          have HWS : Hid (∀ j, j < i → OnWay (setW w6 g (i * 5) (.int .i64 c.fr) (.int .i64 c.fst) (.slice A2 n2 k2) (.int .i64 c.fr) (.int .i64 (valK c 0))) g (j * 5) (cs j) (ss j).1 (ss j).2.1 (ss j).2.2 (climK (cs j) P)) := fun j hj => (HW6.out j hj).setW (by omega) _ _ _ _ _
          have HBS := hide (setW_below HB6.out hgw (.int .i64 c.fr) (.int .i64 c.fst) (.slice A2 n2 k2) (.int .i64 c.fr) (.int .i64 (valK c 0)) (o := i * 5))
          have hsS : w.heap.size ≤ (setW w6 g (i * 5) (.int .i64 c.fr) (.int .i64 c.fst) (.slice A2 n2 k2) (.int .i64 c.fr) (.int .i64 (valK c 0))).heap.size := HBS.out.size
          have HSS := hide hsS
          obtain ⟨⟨z0, x0⟩, y0⟩ := HR6.out.cells (i * 5) (by omega)
          obtain ⟨⟨z1, x1⟩, y1⟩ := HR6.out.cells (i * 5 + 1) (by omega)
          obtain ⟨⟨z2, x2⟩, y2⟩ := HR6.out.cells (i * 5 + 2) (by omega)
          obtain ⟨⟨z3, x3⟩, y3⟩ := HR6.out.cells (i * 5 + 3) (by omega)
          obtain ⟨⟨z4, x4⟩, y4⟩ := HR6.out.cells (i * 5 + 4) (by omega)
          clear hb6 hb6' HR HW HB HB1 HAT d0 d1 d2 ON hsS hA2 HR6 HW6 HB6 hs6
          have HCL2 := HCL.out
          generalize hWS : setW w6 g (i * 5) (.int .i64 c.fr) (.int .i64 c.fst) (.slice A2 n2 k2) (.int .i64 c.fr) (.int .i64 (valK c 0)) = WS at HCL HCL2 HRS HWS HBS HSS
          unfold setW at hWS
          clear HCL2
          generalize valK c 0 = v00 at hWS HCL ⊢
          go_wp2_with fail
          refine HCL.out.mono ?_
          rintro e w7 ⟨rfl, k', hcl, ho7, hk7⟩
          obtain rfl := HCK2.out k' hcl
          have hg7 := ho7.wk.lt
          have HR7 := hide (HRS.out.wkd hk7 ho7)
          have HB7 := hide (hk7.below HBS.out hgw HSS.out)
          have HW7 : Hid (∀ j, j < i + 1 → OnWay w7 g (j * 5) (cs j) (ss j).1 (ss j).2.1 (ss j).2.2 (climK (cs j) P)) := fun j hj => by
            rcases Nat.lt_or_ge j i with h | h
            · exact (HWS.out j h).other hk7 (by omega)
            · obtain rfl : j = i := by omega
              rw [HCI.out, HSI.out]
              exact ho7
          have x7 := ho7.wk.c3
          generalize sumTo (fun j => (cs j).fr + (climK (cs j) P : Int)) i = Si at HSU hrs ⊢
          obtain ⟨xk, hxk⟩ : ∃ xk, c.fr + (climK c P : Int) = xk := ⟨_, rfl⟩
          rw [hxk] at x7 HSU
          have hbk : -1048640 ≤ xk ∧ xk ≤ 1048640 := by omega
          obtain ⟨hbk1, hbk2⟩ := hbk
          have hSi1 : -9000000 ≤ Si := by omega
          have hSi2 : Si ≤ 9000000 := by omega
          have HFN : Hid (total - Si - xk = total - sumTo (fun j => (cs j).fr + (climK (cs j) P : Int)) (i + 1)) := by show _ = _; rw [HSU.out]; omega
          clear hcl ho7 hk7 HCL HRS HWS HBS HSS x0 x1 x2 x3 x4 y0 y1 y2 y3 y4 hWS hxk hrs
          go_wp2
          go_roundw
          case rel => exact ⟨i + 1, by omega, by go_num, by rw [← HFN.out], HR7, HW7, HB7⟩
          case measure => simp [intOf]; omega
        · obtain rfl : n = i := by omega
          have HLV2 := hide HLV.out
          obtain ⟨L0, hL0⟩ : ∃ L0, total - sumTo (fun j => (cs j).fr + (climK (cs j) P : Int)) n = L0 := ⟨_, rfl⟩
          rw [hL0] at HLV2 ⊢
          have hmk2 := run_make_row' (P := Try.prog) 22 3 (.int .i64 0) 8 Try.underlying22 info3 rfl .i64 .i64 n (by omega) (by omega)
          have hw8 : IntKind.i64.wrap ((n : Int) - 1) = (n : Int) - 1 := by rw [IntKind.wrap_i64]; omega
          have hL0r : -18000000 ≤ L0 ∧ L0 ≤ 18000000 := by
            have := sumTo_range (f := fun j => (cs j).fr + (climK (cs j) P : Int)) (M := 1048640) n (fun j hj => by have := okC_fr (HOK.out j hj); have := climK_le (cs j) P; have := (okC_true (HOK.out j hj)).2.2.1; omega)
            omega
          obtain ⟨hL01, hL02⟩ := hL0r
          clear hL0
          go_wp2_with fail
          obtain ⟨g2, hg2⟩ : ∃ g2, wr.heap.size = g2 := ⟨_, rfl⟩
          have hg12 : g < g2 := by have := HR.out.lt; omega
          have hg2w : w.heap.size ≤ g2 := by omega
          rw [hg2]
          have hno : (wr.alloc (.cells (madeCells #[.int .i64 0] n) 3)).ownsRow g2 3 1 (.slice (some ⟨g2, 0, none⟩) n n) n ((List.replicate n (0 : Int)).map (Value.int .i64)) := by rw [← hg2]; exact made_ints wr (Nat.le_refl _) (by omega)
          have HS0 : Hid (SplI w (wr.alloc (.cells (madeCells #[.int .i64 0] n) 3)) g g2 n cs ss P L0 0) := by
            refine ⟨fun j hj => ?_, ⟨_, hno, fun j h1 h2 => by omega⟩, HB.out.alloc HB.out.size _⟩
            rw [if_neg (by omega)]
            exact (HW.out j hj).gr ((Gr.refl wr).alloc _)
          generalize wr.alloc (.cells (madeCells #[.int .i64 0] n) 3) = w8 at HS0 ⊢
          clear hno hg2 HR HW HB hmk2
          go_loopw [11, 16] (fun vl vi wr => ∃ m : Nat, m ≤ n ∧ vi = .int .i64 ((n : Int) - 1 - m) ∧ vl = .int .i64 (leftD cs P n L0 m) ∧ Hid (SplI w wr g g2 n cs ss P L0 m)) (fun _ vi _ => (intOf vi + 1).toNat)
          case atStart => exact ⟨0, Nat.zero_le _, by simp, rfl, HS0⟩
          case round =>
            obtain ⟨m, hm, rfl, rfl, HSI⟩ := hrel
            by_cases hmn : m < n
            · as_aux_lemma =>
              obtain ⟨i, hi⟩ : ∃ i : Nat, (n : Int) - 1 - m = (i : Int) := ⟨n - 1 - m, by omega⟩
              have hin : i < n := by omega
              have hin' : (i : Int) < (n : Int) := by omega
              have hi2 : n - 1 - m = i := by omega
              have hW0 := HSI.out.ways i hin
              rw [if_neg (by omega)] at hW0
              have HD1 : Hid (leftD cs P n L0 (m + 1) = (give (cs i) P (climK (cs i) P) (leftD cs P n L0 m)).2) := by show (give (cs (n - 1 - m)) P (climK (cs (n - 1 - m)) P) (leftD cs P n L0 m)).2 = _; rw [hi2]
              have HD2 : Hid (kD cs P n L0 i = (give (cs i) P (climK (cs i) P) (leftD cs P n L0 m)).1) := by
                show (give (cs i) P (climK (cs i) P) (leftD cs P n L0 (n - 1 - i))).1 = _
                rw [show n - 1 - i = m by omega]
              have hlr := leftD_range cs P n L0 HL64.out m hm
              have hok := HOK.out i hin
              have hln := (okC_true hok).2.2.1
              have hfr := okC_fr hok
              have hni := HL.out i hin
              have HOKI := hide hok
              have HW0 := hide hW0
              obtain ⟨l0, hl0⟩ : ∃ l0, leftD cs P n L0 m = l0 := ⟨_, rfl⟩
              rw [hl0] at HD1 HD2 hlr ⊢
              rw [hi]
              generalize hci : cs i = c at HD1 HD2 hok hln hfr hni HOKI HW0
              have HAA : Hid (∀ j, j < n → 0 < (ss j).2.1 → ∀ ad, (ss j).1 = some ad → ad.block ≠ g2) := fun j hj hz ad e => by have := (HX.out.cu j hj).old hz ad e; omega
              obtain ⟨wo, hwo⟩ : ∃ wo : World, wo = wr := ⟨_, rfl⟩
              subst hwo
              generalize hsi : ss i = s at HW0 hni
              obtain ⟨A2, n2, k2⟩ := s
              have HW0 : Hid (OnWay wo g (i * 5) c A2 n2 k2 (climK c P)) := HW0
              have hni : c.sl.length = n2 := hni
              have HCI := hide hci
              have HSI2 := hide hsi
              have hwi : IntKind.i64.wrap ((i : Int) - 1) = (n : Int) - 1 - ((m + 1 : Nat) : Int) := by rw [IntKind.wrap_i64]; omega
              have hsub : (i : Int) - 1 = (n : Int) - 1 - ((m + 1 : Nat) : Int) := by omega
              clear hci hsi hok hW0
              go_wp2
              go_loopg [11] (n2 - climK c P) (fun f vl wr => ∃ (k : Nat) (l : Int), vl = .int .i64 l ∧ f = n2 - k ∧ Hid (giveF c P (n2 - k) k l = give c P (climK c P) l0) ∧ Hid (OnWay wr g (i * 5) c A2 n2 k2 k) ∧ Hid (Wkd g (i * 5) wo wr) ∧ -30000000 ≤ l ∧ l ≤ 30000000)
              case atStart => exact ⟨climK c P, l0, rfl, rfl, by show _ = _; unfold give; rw [hni], HW0, hide (Wkd.of_gr HW0.out.wk.lt (Gr.refl _)), by omega, by omega⟩
              case round =>
                obtain ⟨k, l, rfl, rfl, HG, HO, HK, hl1, hl2⟩ := hrel
                have hkn := HO.out.le
                have HT := hide (fun w1 => toOf_any c A2 n2 k2 w1 hfr.1 hfr.2 (by omega))
                have HF := hide (fun w1 (hg : Gr wr w1) => after_any g (i * 5) c A2 n2 k2 k (valK c k) w1 (HO.out.wk.gr hg) (HO.out.sl.gr hg) hfr.1 hfr.2 (by omega) hkn)
                obtain ⟨x, hxx⟩ : ∃ x, c.fr + (k : Int) = x := ⟨_, rfl⟩
                obtain ⟨t, ht⟩ : ∃ t, c.fr + (n2 : Int) = t := ⟨_, rfl⟩
                rw [ht] at HT
                have g3 := HO.out.wk.c3
                rw [hxx] at g3
                have hlt := HO.out.wk.lt
                have E0 := fun n os => cell_grown (a := ⟨g, i * 5, none⟩) hlt HO.out.wk.c0 n os
                have E1 := fun n os => cell_grown (a := ⟨g, i * 5 + 1, none⟩) hlt HO.out.wk.c1 n os
                have E2 := fun n os => cell_grown (a := ⟨g, i * 5 + 2, none⟩) hlt HO.out.wk.c2 n os
                have E3 := fun n os => cell_grown (a := ⟨g, i * 5 + 3, none⟩) hlt g3 n os
                have h0xx := True.intro
                clear g3
                by_cases h1 : 0 < l
                · have d1 : decide (0 < l) = true := decide_eq_true h1
                  by_cases h2 : k < n2
                  · have d2 : decide (x < t) = true := decide_eq_true (by omega)
                    have hA : aftV c k = iA c.sl k := if_neg (by omega)
                    rw [hA] at HF
                    by_cases h3 : iA c.sl k = P
                    · have d3 : (iA c.sl k == P) = true := beq_iff_eq.2 h3
                      have HG2 : Hid (giveF c P (n2 - (k + 1)) (k + 1) (l - 1) = give c P (climK c P) l0) := by
                        show _ = _
                        rw [← HG.out, show n2 - k = (n2 - (k + 1)) + 1 by omega]
                        show _ = if 0 < l ∧ k < c.sl.length ∧ iA c.sl k = P then _ else _
                        rw [if_pos ⟨h1, by omega, h3⟩]
                      have HST := hide (fun w1 (hg : Gr wr w1) => onway_step HOKI.out (HO.out.gr hg) h2)
                      clear h3 hA HG
                      generalize iA c.sl k = s at HF d3
                      go_wp2_with fail
                      go_quiet_grown (first | (go_at_call 50; refine Calls.grown_of ((HT.out _).mono fun _ _ h => ⟨h.1, h.2⟩)) | (go_at_call 63; refine Calls.grown_of ((HF.out _ ⟨_, _, rfl⟩).mono fun _ _ h => ⟨h.1, h.2⟩)))
                      have HG9 : Hid (Gr wr (grow (wr.drewN nq) osq)) := ⟨nq, osq, rfl⟩
                      have HST2 := hide (HST.out _ HG9.out)
                      generalize grow (wr.drewN nq) osq = w9 at HG9 HST2 ⊢
                      clear E0 E1 E2 E3 HT HF HST
                      go_wp2_with fail
                      refine HST2.out.mono ?_
                      rintro e wa ⟨rfl, ho, hk5⟩
                      have HOa := hide ho
                      have HKa := hide ((HK.out.trans (Wkd.of_gr hlt HG9.out)).trans hk5)
                      clear ho hk5 HST2
                      go_wp2
                      go_roundg (n2 - (k + 1))
                      case measure => omega
                      case rel => exact ⟨k + 1, l - 1, rfl, rfl, HG2, HOa, HKa, by omega, by omega⟩
                    · have d3 : (iA c.sl k == P) = false := beq_eq_false_iff_ne.2 h3
                      have HNO : Hid (¬ (0 < l ∧ k < c.sl.length ∧ iA c.sl k = P)) := fun h => h3 h.2.2
                      generalize iA c.sl k = s at HF d3
                      have HEX : Hid (give c P (climK c P) l0 = (k, l)) := by show _ = _; rw [← HG.out]; exact giveF_stop HNO.out _
                      have HNX : Hid (∀ w9, Gr wr w9 → SplI w (w9.setCell ⟨g2, i, none⟩ (.int .i64 x)) g g2 n cs ss P L0 (m + 1) ∧ (∃ v, w9.cell? ⟨g2, i, none⟩ = some v) ∧ w9.frozen? ⟨g2, i, none⟩ = false) := fun w9 hg9 => by
                        have hkk : kD cs P n L0 i = k := by rw [HD2.out, HEX.out]
                        have hh := spl_next HSI.out hi hmn HK.out hg9 (by rw [HCI.out, HSI2.out, hkk]; exact HO.out) hg12 hgw HSI.out.below.size HAA.out
                        rw [HCI.out, hkk, hxx] at hh
                        exact hh
                      have HLD : Hid (leftD cs P n L0 (m + 1) = l) := by show _ = _; rw [HD1.out, HEX.out]
                      clear HNO HEX HG HD1 HD2 h0xx HAA
                      go_wp2_with fail
                      go_quiet_grown (first | (go_at_call 50; refine Calls.grown_of ((HT.out _).mono fun _ _ h => ⟨h.1, h.2⟩)) | (go_at_call 63; refine Calls.grown_of ((HF.out _ ⟨_, _, rfl⟩).mono fun _ _ h => ⟨h.1, h.2⟩)))
                      have E3' := E3 nq osq
                      obtain ⟨HS9, ⟨v9, c9⟩, f9⟩ := HNX.out _ ⟨nq, osq, rfl⟩
                      have HS9 := hide HS9
                      generalize grow (wr.drewN nq) osq = w9 at E3' HS9 c9 f9 ⊢
                      clear E0 E1 E2 E3 HNX HT HF HO HK
                      go_wp2
                      go_roundw
                      case rel => exact ⟨m + 1, by omega, rfl, by rw [HLD.out], HS9⟩
                      case measure => simp [intOf]; omega
                  · have d2 : decide (x < t) = false := decide_eq_false (by omega)
                    have HNO : Hid (¬ (0 < l ∧ k < c.sl.length ∧ iA c.sl k = P)) := fun h => h2 (by omega)
                    have HEX : Hid (give c P (climK c P) l0 = (k, l)) := by show _ = _; rw [← HG.out]; exact giveF_stop HNO.out _
                    have HNX : Hid (∀ w9, Gr wr w9 → SplI w (w9.setCell ⟨g2, i, none⟩ (.int .i64 x)) g g2 n cs ss P L0 (m + 1) ∧ (∃ v, w9.cell? ⟨g2, i, none⟩ = some v) ∧ w9.frozen? ⟨g2, i, none⟩ = false) := fun w9 hg9 => by
                      have hkk : kD cs P n L0 i = k := by rw [HD2.out, HEX.out]
                      have hh := spl_next HSI.out hi hmn HK.out hg9 (by rw [HCI.out, HSI2.out, hkk]; exact HO.out) hg12 hgw HSI.out.below.size HAA.out
                      rw [HCI.out, hkk, hxx] at hh
                      exact hh
                    have HLD : Hid (leftD cs P n L0 (m + 1) = l) := by show _ = _; rw [HD1.out, HEX.out]
                    clear HNO HEX HG HD1 HD2 h0xx HAA
                    go_wp2_with fail
                    go_quiet_grown (first | (go_at_call 50; refine Calls.grown_of ((HT.out _).mono fun _ _ h => ⟨h.1, h.2⟩)) | (go_at_call 63; refine Calls.grown_of ((HF.out _ ⟨_, _, rfl⟩).mono fun _ _ h => ⟨h.1, h.2⟩)))
                    have E3' := E3 nq osq
                    obtain ⟨HS9, ⟨v9, c9⟩, f9⟩ := HNX.out _ ⟨nq, osq, rfl⟩
                    have HS9 := hide HS9
                    generalize grow (wr.drewN nq) osq = w9 at E3' HS9 c9 f9 ⊢
                    clear E0 E1 E2 E3 HNX HT HF HO HK
                    go_wp2
                    go_roundw
                    case rel => exact ⟨m + 1, by omega, rfl, by rw [HLD.out], HS9⟩
                    case measure => simp [intOf]; omega
                · have d1 : decide (0 < l) = false := decide_eq_false h1
                  have HNO : Hid (¬ (0 < l ∧ k < c.sl.length ∧ iA c.sl k = P)) := fun h => h1 h.1
                  have HEX : Hid (give c P (climK c P) l0 = (k, l)) := by show _ = _; rw [← HG.out]; exact giveF_stop HNO.out _
                  have HNX : Hid (∀ w9, Gr wr w9 → SplI w (w9.setCell ⟨g2, i, none⟩ (.int .i64 x)) g g2 n cs ss P L0 (m + 1) ∧ (∃ v, w9.cell? ⟨g2, i, none⟩ = some v) ∧ w9.frozen? ⟨g2, i, none⟩ = false) := fun w9 hg9 => by
                    have hkk : kD cs P n L0 i = k := by rw [HD2.out, HEX.out]
                    have hh := spl_next HSI.out hi hmn HK.out hg9 (by rw [HCI.out, HSI2.out, hkk]; exact HO.out) hg12 hgw HSI.out.below.size HAA.out
                    rw [HCI.out, hkk, hxx] at hh
                    exact hh
                  have HLD : Hid (leftD cs P n L0 (m + 1) = l) := by show _ = _; rw [HD1.out, HEX.out]
                  clear HNO HEX HG HD1 HD2 h0xx HAA
                  have g3 : wr.cell? ⟨g, i * 5 + 3, none⟩ = some (.int .i64 x) := by rw [← hxx]; exact HO.out.wk.c3
                  clear E0 E1 E2 E3 HT HF HO HK h1
                  go_wp2_with fail
                  go_quiet (fail)
                  have E3' : (wr.drewN nq).cell? ⟨g, i * 5 + 3, none⟩ = some (.int .i64 x) := g3
                  obtain ⟨HS9, ⟨v9, c9⟩, f9⟩ := HNX.out _ ((Gr.refl wr).drewN nq)
                  have HS9 := hide HS9
                  generalize wr.drewN nq = w9 at E3' HS9 c9 f9 ⊢
                  clear g3 HNX
                  go_wp2
                  go_roundw
                  case rel => exact ⟨m + 1, by omega, rfl, by rw [HLD.out], HS9⟩
                  case measure => simp [intOf]; omega
            · obtain rfl : n = m := by omega
              have hm1 : (n : Int) - 1 - (n : Int) = -1 := by omega
              rw [hm1]
              have HWY : Hid (∀ j, j < n → OnWay wr g (j * 5) (cs j) (ss j).1 (ss j).2.1 (ss j).2.2 (kD cs P n L0 j)) := fun j hj => by
                have := HSI.out.ways j hj
                rw [if_pos (by omega)] at this
                exact this
              obtain ⟨T, hT, hTi⟩ := HSI.out.row
              have hTl : T.length = n := by simpa using hT.1
              have hTT := list_of_iA (f := fun j => (cs j).fr + (kD cs P n L0 j : Int)) hTl (fun j hj => hTi j (by omega) hj)
              have HC7 := hide (common74_any g n cs ss (kD cs P n L0) wr HWY.out hn8 hn0 (fun j hj => okC_val (HOK.out j hj) (kD_le cs P n L0 j)))
              have HTO := hide hT
              have HTT := hide hTT
              have HBF := hide HSI.out.below
              clear hT hTi hTl hTT HSI
              go_wp2_with fail
              refine HC7.out.mono ?_
              rintro e wz ⟨rfl, hGz⟩
              have HGZ := hide hGz
              clear hGz HC7
              go_wp2
              refine bodyPost_ret (results42 _ _ _ _ _ _ _ _ _ _) rfl ?_
              refine ⟨some ⟨g2, 0, none⟩, n, n, ?_, ?_, HBF.out.trans (HGZ.out.below.mono HBF.out.size)⟩
              · rw [HSX.out.2.1, HSX.out.2.2, HE.out, HKV.out, HLV2.out]
              · rw [HSX.out.1, HKV.out, HLV2.out, ← HTT.out]
                exact ints_of_own (own_below HTO.out HGZ.out.below)
  · have HCN := hide he
    have hc1 : (splitE cs n total == 0) = false := beq_eq_false_iff_ne.2 he
    have hc2 : (splitE cs n total != 0) = true := by rw [bne_iff_ne]; exact he
    have HSX : Hid (splitX cs n total = [] ∧ splitC cs n total = 0 ∧ splitP cs n total = 0) := ⟨if_neg he, if_neg he, if_neg he⟩
    clear he hx hm
    go_enter Try.func42, Try.ntmps42
    go_wp2_with fail
    refine HCK.out.mono ?_
    rintro e w2 ⟨rfl, hG⟩
    have HG := hide hG
    clear hG
    go_wp2
    refine bodyPost_ret (results42 _ _ _ _ _ _ _ _ _ _) rfl ?_
    refine ⟨none, 0, 0, by rw [HSX.out.2.1, HSX.out.2.2], ?_, HG.out.below⟩
    rw [HSX.out.1]
    exact ⟨rfl, .inl rfl⟩

end Go.Proofs.Ytdepnhnpklbmiaa
/- Contracts of same and of alive: alive returns true. -/
namespace Go.Proofs.Ytdepnhnpklbmiaa
open Go.RowKit Go.Sort

theorem differ_ints {xs ys : List Int} {k : Nat} (h : iA xs k ≠ iA ys k) : decide (xs = ys) = false :=
  decide_eq_false fun e => h (by rw [e])
theorem ints_ext {xs ys : List Int} (hl : xs.length = ys.length) (h : ∀ k, k < xs.length → iA xs k = iA ys k) : xs = ys := by
  refine List.ext_getElem hl fun i h1 h2 => ?_
  have := h i h1
  simpa only [iA, List.getD_eq_getElem?_getD, List.getElem?_eq_getElem h1, List.getElem?_eq_getElem h2, Option.getD_some] using this

set_option maxHeartbeats 400000 in
set_option maxRecDepth 100000 in
theorem same_any (A A' : Option Addr) (n cap m cap' : Nat) (xs ys : List Int) (w : World) (hx : IntsAt w.heap.size w A n xs) (hy : IntsAt w.heap.size w A' m ys) (hn : n ≤ 9223372036854775807) (hm : m ≤ 9223372036854775807) :
    Calls Try.prog 24 #[.slice A n cap, .slice A' m cap'] w fun e w' => e = .returned (.bool (decide (xs = ys))) ∧ ∃ q, w' = w.drewN q := by
  have mixed := mixedOrders
  by_cases hnm : n = m
  · subst hnm
    have HX := hide hx
    have HY := hide hy
    clear hx hy
    go_enter Try.func24, Try.ntmps24
    go_wp2
    go_loopw [5] (fun i wr => ∃ k : Nat, k ≤ n ∧ i = .int .i64 k ∧ Hid (∀ j, j < k → iA xs j = iA ys j) ∧ Hid (∃ q, wr = w.drewN q)) (fun i _ => n - (intOf i).toNat)
    case atStart => exact ⟨0, Nat.zero_le _, rfl, fun j hj => absurd hj (Nat.not_lt_zero _), ⟨0, rfl⟩⟩
    case round =>
      obtain ⟨k, hk, rfl, HN, HW⟩ := hrel
      by_cases hlt : k < n
      · obtain ⟨b, off, rfl, hb, c0⟩ := HX.out.at_ hlt
        obtain ⟨b', off', rfl, hb', c0'⟩ := HY.out.at_ hlt
        have hlt' : (k : Int) < (n : Int) := by omega
        have E0 : ∀ nq, (wr.drewN nq).cell? ⟨b, off + k, none⟩ = some (.int .i64 (iA xs k)) := fun nq => by obtain ⟨q, rfl⟩ := HW.out; exact c0
        have E2 : ∀ nq, (wr.drewN nq).cell? ⟨b', off' + k, none⟩ = some (.int .i64 (iA ys k)) := fun nq => by obtain ⟨q, rfl⟩ := HW.out; exact c0'
        clear c0 c0'
        by_cases h1 : iA xs k = iA ys k
        · have b1 : (iA xs k == iA ys k) = true := beq_iff_eq.2 h1
          have b2 : (iA xs k != iA ys k) = false := by rw [h1]; simp
          have HS : Hid (∀ j, j < k + 1 → iA xs j = iA ys j) := by
            intro j hj
            rcases Nat.lt_or_ge j k with h | h
            · exact HN.out j h
            · obtain rfl : j = k := by omega
              exact h1
          clear h1
          go_wp2_with fail
          go_quiet (fail)
          go_wp2
          go_roundw
          case rel => exact ⟨k + 1, by omega, by go_num, HS, by obtain ⟨q, rfl⟩ := HW.out; exact ⟨q + nq, World.drewN_drewN _ _ _⟩⟩
          case measure => simp [intOf]; omega
        · have b1 : (iA xs k == iA ys k) = false := beq_eq_false_iff_ne.2 h1
          have b2 : (iA xs k != iA ys k) = true := by rw [bne_iff_ne]; exact h1
          have HD := hide (differ_ints (xs := xs) (ys := ys) (k := k) h1)
          clear h1
          go_wp2_with fail
          go_quiet (fail)
          go_wp2
          go_ret
          exact ⟨ret_bool HD.out.symm, by obtain ⟨q, rfl⟩ := HW.out; exact ⟨q + nq, World.drewN_drewN _ _ _⟩⟩
      · have HD := hide (ints_ext (xs := xs) (ys := ys) (by rw [HX.out.1, HY.out.1]) (fun j hj => HN.out j (by have := HX.out.1; omega)))
        go_wp2
        go_ret
        exact ⟨ret_bool (decide_eq_true HD.out).symm, HW.out⟩
  · have HD : Hid (xs ≠ ys) := by
      intro e
      exact hnm (by rw [← hx.1, ← hy.1, e])
    clear hx hy
    have hb : ((n : Int) == (m : Int)) = false := beq_eq_false_iff_ne.2 (by omega)
    have hb' : ((n : Int) != (m : Int)) = true := by rw [bne_iff_ne]; omega
    go_enter Try.func24, Try.ntmps24
    go_wp2
    go_ret
    exact ⟨ret_bool (decide_eq_false HD.out).symm, 0, rfl⟩

def ca : Cu := ⟨0, 0, [1, 3]⟩
def cb : Cu := ⟨0, 0, [2, 2]⟩
theorem sort_val : sortI [1, 3, 2, 2] = [1, 2, 2, 3] := by
  have hp : (sortI [1, 3, 2, 2]).Perm [1, 2, 2, 3] := (List.mergeSort_perm _ _).trans (by decide)
  have hs : (sortI [1, 3, 2, 2]).Pairwise (fun x y => x ≤ y) := by
    have := List.pairwise_mergeSort (le := fun x y : Int => decide (x ≤ y)) (fun a b c h1 h2 => by simp at *; omega) (fun a b => by simp; omega) [1, 3, 2, 2]
    exact this.imp (fun h => by simpa using h)
  exact List.Perm.eq_of_pairwise (le := fun x y => x ≤ y) (fun a b _ _ h1 h2 => by omega) hs (by decide) hp
theorem join_val : joinV ca cb = (⟨0, 0, [1, 2, 2, 3]⟩, 0) := by
  unfold joinV
  rw [if_pos ⟨by decide, by decide⟩]
  show res2 ⟨0, 0, sortI [1, 3, 2, 2]⟩ = _
  rw [sort_val]
  unfold res2
  rw [if_pos (by decide)]
def csA (i : Nat) : Cu := if i = 0 then ca else cb
theorem cat_val : catL csA 2 = [1, 3, 2, 2] := rfl
theorem price_val : priceV csA 2 3 = 2 := by
  unfold priceV
  rw [cat_val, sort_val]
  rfl
theorem split_val : splitE csA 2 3 = 0 ∧ splitX csA 2 3 = [1, 2] ∧ splitC csA 2 3 = 5 ∧ splitP csA 2 3 = 2 := by
  have h0 : splitE csA 2 3 = 0 := by decide
  have hl : leftV csA 2 3 = 2 := by unfold leftV; rw [price_val]; rfl
  have hk : kV csA 2 3 = kD csA 2 2 2 := by unfold kV; rw [price_val, hl]
  refine ⟨h0, ?_, ?_, ?_⟩
  · unfold splitX; rw [if_pos h0, hk]; rfl
  · unfold splitC; rw [if_pos h0, hk]; rfl
  · unfold splitP; rw [if_pos h0, price_val]

theorem ints_lit {W : World} {b : Nat} {cs : Array Value} {t : TypeId} (xs : List Int) (h : W.heap[b]? = some (.cells cs t (0, 0))) (hcs : cs = (xs.map (Value.int .i64)).toArray) : IntsAt W.heap.size W (some ⟨b, 0, none⟩) xs.length xs := by
  subst hcs
  refine ⟨rfl, .inr ⟨b, 0, rfl, (Array.getElem?_eq_some_iff.1 h).1, fun i hi => ?_⟩⟩
  rw [cell_of_heap' h]
  simp [iA, List.getD_eq_getElem?_getD, hi]

set_option maxHeartbeats 4000000 in
set_option maxRecDepth 100000 in
theorem alive_any (w : World) : Calls Try.prog 15 #[] w fun e w' => e = .returned (.bool true) ∧ Below w.heap.size w w' := by
  have mixed := mixedOrders
  obtain ⟨p, hp⟩ : ∃ p, w.heap.size = p := ⟨_, rfl⟩
  obtain ⟨W1, hW1⟩ : ∃ W1, (((w.alloc (.cells #[.int .i64 1, .int .i64 3] 3)).alloc (.cells #[.int .i64 2, .int .i64 2] 3)).alloc (.cells #[.int .i64 0, .int .i64 0, .slice (some ⟨p, 0, none⟩) 2 2] 24)).alloc (.cells #[.int .i64 0, .int .i64 0, .slice (some ⟨p + 1, 0, none⟩) 2 2] 24) = W1 := ⟨_, rfl⟩
  have hG1 : Gr w W1 := by rw [← hW1]; exact ((((Gr.refl w).alloc _).alloc _).alloc _).alloc _
  have hs1 : W1.heap.size = p + 4 := by rw [← hW1, ← hp]; simp
  have ua : W1.heap[p]? = some (.cells #[.int .i64 1, .int .i64 3] 3 (0, 0)) := by
    rw [← hW1, ← hp]
    exact (Below.heap_alloc _ _ _ (by first | (simp; done) | (simp; omega))).trans ((Below.heap_alloc _ _ _ (by first | (simp; done) | (simp; omega))).trans ((Below.heap_alloc _ _ _ (by simp)).trans (heap_alloc_new w _)))
  have ub : W1.heap[p + 1]? = some (.cells #[.int .i64 2, .int .i64 2] 3 (0, 0)) := by
    rw [← hW1, ← hp]
    refine (Below.heap_alloc _ _ _ (by first | (simp; done) | (simp; omega))).trans ((Below.heap_alloc _ _ _ (by simp)).trans ?_)
    simpa using heap_alloc_new (w.alloc (.cells #[.int .i64 1, .int .i64 3] 3)) (.cells #[.int .i64 2, .int .i64 2] 3)
  have va : W1.heap[p + 1 + 1]? = some (.cells #[.int .i64 0, .int .i64 0, .slice (some ⟨p, 0, none⟩) 2 2] 24 (0, 0)) := by
    rw [← hW1, ← hp]
    refine (Below.heap_alloc _ _ _ (by simp)).trans ?_
    simpa using heap_alloc_new ((w.alloc (.cells #[.int .i64 1, .int .i64 3] 3)).alloc (.cells #[.int .i64 2, .int .i64 2] 3)) (.cells #[.int .i64 0, .int .i64 0, .slice (some ⟨w.heap.size, 0, none⟩) 2 2] 24)
  have vb : W1.heap[p + 1 + 1 + 1]? = some (.cells #[.int .i64 0, .int .i64 0, .slice (some ⟨p + 1, 0, none⟩) 2 2] 24 (0, 0)) := by
    rw [← hW1, ← hp]
    simpa using heap_alloc_new (((w.alloc (.cells #[.int .i64 1, .int .i64 3] 3)).alloc (.cells #[.int .i64 2, .int .i64 2] 3)).alloc (.cells #[.int .i64 0, .int .i64 0, .slice (some ⟨w.heap.size, 0, none⟩) 2 2] 24)) (.cells #[.int .i64 0, .int .i64 0, .slice (some ⟨w.heap.size + 1, 0, none⟩) 2 2] 24)
  have HCA : Hid (CuAt W1.heap.size W1 ca (some ⟨p, 0, none⟩) 2 2) := ⟨ints_lit [1, 3] ua rfl, fun _ ad e => by injection e with e; subst e; show p < _; omega, fun e => by cases e⟩
  have HCB : Hid (CuAt W1.heap.size W1 cb (some ⟨p + 1, 0, none⟩) 2 2) := ⟨ints_lit [2, 2] ub rfl, fun _ ad e => by injection e with e; subst e; show p + 1 < _; omega, fun e => by cases e⟩
  have HJ := hide (Join_any ca cb (some ⟨p, 0, none⟩) 2 2 (some ⟨p + 1, 0, none⟩) 2 2 W1 HCA.out HCB.out (by decide) (by decide))
  rw [join_val] at HJ
  have HJ : Hid (Calls Try.prog 28 #[.agg #[.int .i64 0, .int .i64 0, .slice (some ⟨p, 0, none⟩) 2 2], .agg #[.int .i64 0, .int .i64 0, .slice (some ⟨p + 1, 0, none⟩) 2 2]] W1 (CuPost (⟨0, 0, [1, 2, 2, 3]⟩, 0) W1)) := HJ
  have HG1 := hide hG1
  have ya := cell_of_heap' va
  have yb := cell_of_heap' vb
  have y0 := ya 0
  have y1 := ya 1
  have y2 := ya 2
  have y3 := yb 0
  have y4 := yb 1
  have y5 := yb 2
  simp at y0 y1 y2 y3 y4 y5
  have HVA := hide va
  have HVB := hide vb
  clear ua ub va vb hG1 ya yb
  go_enter Try.func15, Try.ntmps15
  go_wp2_with fail
  try rw [hW1]
  refine HJ.out.mono ?_
  rintro e w2 ⟨A, n, cap, rfl, ho2, hb2⟩
  have hn : n = 4 := by have := ho2.1; simp at this; omega
  subst hn
  have hs2 : p + 4 ≤ w2.heap.size := by have := hb2.size; omega
  have ga := cell_of_heap' ((hb2.block (p + 1 + 1) (by omega)).trans HVA.out)
  have gb := cell_of_heap' ((hb2.block (p + 1 + 1 + 1) (by omega)).trans HVB.out)
  have a0 := ga 0
  have a1 := ga 1
  have a2 := ga 2
  have b0 := gb 0
  have b1 := gb 1
  have b2 := gb 2
  simp at a0 a1 a2 b0 b1 b2
  have HO2 := hide ho2
  have HB2 := hide hb2
  have l1 : p + 1 + 1 < w2.heap.size := by omega
  have l2 : p + 1 + 1 + 1 < w2.heap.size := by omega
  clear ga gb ho2 hb2 HJ hW1 y0 y1 y2 y3 y4 y5
  obtain ⟨bj, hbj⟩ : ∃ bj, w2.heap.size = bj := ⟨_, rfl⟩
  have l3 : p + 1 + 1 < bj := by omega
  have l4 : p + 1 + 1 + 1 < bj := by omega
  have l5 : ∀ j v, w2.cell? ⟨p + 1 + 1, j, none⟩ = some v → (w2.alloc (.cells #[.int .i64 0, .int .i64 0, .slice A 4 cap] 24)).cell? ⟨p + 1 + 1, j, none⟩ = some v := fun j v h => (World.cell?_alloc_lt _ _ _ (by show p + 1 + 1 < _; omega)).trans h
  have l6 : ∀ j v, w2.cell? ⟨p + 1 + 1 + 1, j, none⟩ = some v → (w2.alloc (.cells #[.int .i64 0, .int .i64 0, .slice A 4 cap] 24)).cell? ⟨p + 1 + 1 + 1, j, none⟩ = some v := fun j v h => (World.cell?_alloc_lt _ _ _ (by show p + 1 + 1 + 1 < _; omega)).trans h
  have k0 := l5 _ _ a0
  have k1 := l5 _ _ a1
  have k2 := l5 _ _ a2
  have k3 := l6 _ _ b0
  have k4 := l6 _ _ b1
  have k5 := l6 _ _ b2
  clear l5 l6
  obtain ⟨W3, hW3⟩ : ∃ W3, (w2.alloc (.cells #[.int .i64 0, .int .i64 0, .slice A 4 cap] 24)).alloc (.cells #[.int .i64 0, .int .i64 0, .slice (some ⟨p, 0, none⟩) 2 2, .int .i64 0, .int .i64 0, .slice (some ⟨p + 1, 0, none⟩) 2 2] 24) = W3 := ⟨_, rfl⟩
  have hG3 : Gr w2 W3 := by rw [← hW3]; exact ((Gr.refl w2).alloc _).alloc _
  have hs3 : W3.heap.size = bj + 2 := by rw [← hW3, ← hbj]; simp
  have uj : W3.heap[bj]? = some (.cells #[.int .i64 0, .int .i64 0, .slice A 4 cap] 24 (0, 0)) := by
    rw [← hW3, ← hbj]
    exact (Below.heap_alloc _ _ _ (by simp)).trans (heap_alloc_new w2 _)
  have ul : W3.heap[bj + 1]? = some (.cells #[.int .i64 0, .int .i64 0, .slice (some ⟨p, 0, none⟩) 2 2, .int .i64 0, .int .i64 0, .slice (some ⟨p + 1, 0, none⟩) 2 2] 24 (0, 0)) := by
    rw [← hW3, ← hbj]
    simpa using heap_alloc_new (w2.alloc (.cells #[.int .i64 0, .int .i64 0, .slice A 4 cap] 24)) (.cells #[.int .i64 0, .int .i64 0, .slice (some ⟨p, 0, none⟩) 2 2, .int .i64 0, .int .i64 0, .slice (some ⟨p + 1, 0, none⟩) 2 2] 24)
  have hb13 : Below W1.heap.size W1 W3 := HB2.out.trans (hG3.below.mono HB2.out.size)
  have hcv : CurvesAt W3.heap.size W3 (some ⟨bj + 1, 0, none⟩) 2 csA (fun i => if i = 0 then (some ⟨p, 0, none⟩, 2, 2) else (some ⟨p + 1, 0, none⟩, 2, 2)) := by
    have z := fun i => cell_of_heap' ul i
    have z0 := z 0
    have z1 := z 1
    have z2 := z 2
    have z3 := z 3
    have z4 := z 4
    have z5 := z 5
    simp at z0 z1 z2 z3 z4 z5
    refine ⟨.inr ⟨bj + 1, 0, rfl, by omega, fun i hi => ?_⟩, fun i hi => ?_⟩
    · rcases (show i = 0 ∨ i = 1 by omega) with rfl | rfl
      · exact ⟨z0, z1, z2⟩
      · exact ⟨z3, z4, z5⟩
    · rcases (show i = 0 ∨ i = 1 by omega) with rfl | rfl
      · exact HCA.out.now hb13 (Nat.le_refl _)
      · exact HCB.out.now hb13 (Nat.le_refl _)
  have HSP := hide (Split_any (some ⟨bj + 1, 0, none⟩) 2 2 csA _ 3 W3 hcv (Nat.le_refl _) (fun i hi => by
    rcases (show i = 0 ∨ i = 1 by omega) with rfl | rfl
    · show 2 ≤ _
      decide
    · show 2 ≤ _
      decide))
  have HB13 := hide hb13
  have HUJ := hide uj
  have HIJ : Hid (IntsAt W3.heap.size W3 A 4 [1, 2, 2, 3]) := (ints_of_own HO2.out).gr hG3
  clear hcv uj ul hb13 hG3 HCA HCB HVA HVB
  go_wp2_with fail
  try rw [hW3]
  refine HSP.out.mono ?_
  rintro e w4 ⟨A4, m4, c4, rfl, hi4, hb4⟩
  rw [split_val.2.1] at hi4
  rw [split_val.1, split_val.2.2.1, split_val.2.2.2]
  have hm4 : m4 = 2 := hi4.1.symm
  subst hm4
  have HB4 : Hid (Below w.heap.size w w4) := HG1.out.below.trans ((HB13.out.trans (hb4.mono HB13.out.size)).mono HG1.out.size)
  have hj4 := cell_of_heap' ((hb4.block bj (by omega)).trans HUJ.out) 2
  simp at hj4
  have HIJ4 := hide (HIJ.out.now hb4 (Nat.le_refl _))
  have HI4 := hide hi4
  clear hb4 hi4 HSP HUJ HIJ k0 k1 k2 k3 k4 k5 a0 a1 a2 b0 b1 b2 HB13 HO2 HB2 hW3
  have HS1 := hide (fun (cs : Array Value) (hcs : cs = #[.int .i64 1, .int .i64 2, .int .i64 2, .int .i64 3]) => same_any A (some ⟨w4.heap.size, 0, none⟩) 4 cap 4 4 [1, 2, 2, 3] [1, 2, 2, 3] (w4.alloc (.cells cs 3)) (HIJ4.out.gr ((Gr.refl w4).alloc _)) (ints_lit [1, 2, 2, 3] (heap_alloc_new w4 _) (by rw [hcs]; rfl)) (by decide) (by decide))
  have HS1' := hide (HS1.out _ rfl)
  rw [decide_eq_true rfl] at HS1'
  go_wp2_with fail
  refine HS1'.out.mono ?_
  rintro e w5 ⟨rfl, q, rfl⟩
  obtain ⟨w6, hw6⟩ : ∃ w6, (w4.alloc (.cells #[.int .i64 1, .int .i64 2, .int .i64 2, .int .i64 3] 3)).drewN q = w6 := ⟨_, rfl⟩
  have hG6 : Gr w4 w6 := by rw [← hw6]; exact ((Gr.refl w4).alloc _).drewN q
  rw [hw6]
  have HS2 := hide (same_any A4 (some ⟨w6.heap.size, 0, none⟩) 2 c4 2 2 [1, 2] [1, 2] (w6.alloc (.cells #[.int .i64 1, .int .i64 2] 3)) ((HI4.out.gr hG6).gr ((Gr.refl w6).alloc _)) (ints_lit [1, 2] (heap_alloc_new w6 _) rfl) (by decide) (by decide))
  rw [decide_eq_true rfl] at HS2
  have HB6 : Hid (Below w.heap.size w w6) := HB4.out.trans (hG6.below.mono HB4.out.size)
  clear hG6 hw6 HS1 HS1' hj4
  go_wp2_with fail
  refine HS2.out.mono ?_
  rintro e w7 ⟨rfl, q2, rfl⟩
  have HB7 : Hid (Below w.heap.size w ((w6.alloc (.cells #[.int .i64 1, .int .i64 2] 3)).drewN q2)) := HB6.out.trans ((((Gr.refl w6).alloc _).drewN q2).below.mono HB6.out.size)
  clear HS2
  go_wp2
  go_ret
  exact ⟨rfl, HB7.out⟩

end Go.Proofs.Ytdepnhnpklbmiaa
/- Contract of At. -/
namespace Go.Proofs.Ytdepnhnpklbmiaa
open Go.RowKit Go.Sort

/-- what At answers -/
def atV (c : Cu) (x : Int) : Int × Int := if okC c = true then (if c.fr ≤ x ∧ x ≤ c.fr + c.sl.length then (valK c (x - c.fr).toNat, 0) else (0, 6)) else (0, 2)

set_option maxHeartbeats 2000000 in
set_option maxRecDepth 100000 in
theorem At_any (c : Cu) (A : Option Addr) (n cap : Nat) (x : Int) (w : World) (hx : CuAt w.heap.size w c A n cap) (hn : n ≤ 9223372036854775807) :
    Calls Try.prog 17 #[.agg #[.int .i64 c.fr, .int .i64 c.fst, .slice A n cap], .int .i64 x] w fun e w' => e = .returned (.tuple #[.int .i64 (atV c x).1, .int .i64 (atV c x).2]) ∧ Below w.heap.size w w' := by
  have mixed := mixedOrders
  obtain ⟨W1, hW1⟩ : ∃ W1, w.alloc (.cells #[.int .i64 c.fr, .int .i64 c.fst, .slice A n cap] 24) = W1 := ⟨_, rfl⟩
  obtain ⟨p, hp⟩ : ∃ p, w.heap.size = p := ⟨_, rfl⟩
  have hG1 : Gr w W1 := by rw [← hW1]; exact (Gr.refl w).alloc _
  have hs1 : W1.heap.size = p + 1 := by rw [← hW1, ← hp]; simp
  have ua : W1.heap[p]? = some (.cells #[.int .i64 c.fr, .int .i64 c.fst, .slice A n cap] 24 (0, 0)) := by
    rw [← hW1, ← hp]
    exact heap_alloc_new w _
  have HUA := hide ua
  have HX := hide hx
  have HX1 := hide (hx.gr hG1)
  have hl : (c.sl.length : Int) = n := by have := hx.sl.1; omega
  have HG1 := hide hG1
  have HV := hide (Valid_any c A n cap W1 HX1.out.sl hn)
  have a0 := cell_of_heap' ua 0
  have a1 := cell_of_heap' ua 1
  have a2 := cell_of_heap' ua 2
  simp at a0 a1 a2
  clear ua hx hG1
  go_enter Try.func17, Try.ntmps17
  go_wp2_with fail
  try rw [hp]
  refine HV.out.mono ?_
  rintro e w2 ⟨rfl, hG2⟩
  have HG2 := hide (HG1.out.trans hG2)
  have b2 := (hG2.block (k := p) (by omega)).trans HUA.out
  have hlt : p < w2.heap.size := by have := hG2.size; omega
  have HUA2 := hide b2
  have c0 := cell_of_heap' b2 0
  have c1 := cell_of_heap' b2 1
  have c2 := cell_of_heap' b2 2
  simp at c0 c1 c2
  clear b2 hG2 a0 a1 a2
  cases hva : okC c
  · have HJ : Hid (atV c x = (0, 2)) := if_neg (by rw [hva]; simp)
    clear hva
    go_wp2
    go_ret2
    exact ⟨by rw [HJ.out] <;> rfl, HG2.out.below⟩
  have h0 := okC_fr hva
  have hn64 : n ≤ 64 := by have := (okC_true hva).2.2.1; omega
  obtain ⟨f, hf⟩ : ∃ f, c.fr = f := ⟨_, rfl⟩
  have HF := hide (fun W => fromOf_any c A n cap W)
  have HT := hide (fun W => toOf_any c A n cap W h0.1 h0.2 (by omega))
  rw [hf] at HF HT
  have HVA := hide hva
  obtain ⟨t, ht⟩ : ∃ t, f + (n : Int) = t := ⟨_, rfl⟩
  rw [ht] at HT
  clear hva
  go_wp2_with fail
  refine (HF.out _).mono ?_
  rintro e w3 ⟨rfl, hG3⟩
  have HG3 := hide (HG2.out.trans hG3)
  have b3 := (hG3.block (k := p) hlt).trans HUA2.out
  have hlt3 : p < w3.heap.size := by have := hG3.size; omega
  have HUA3 := hide b3
  have d0 := cell_of_heap' b3 0
  have d1 := cell_of_heap' b3 1
  have d2 := cell_of_heap' b3 2
  simp at d0 d1 d2
  rw [hf] at d0
  clear b3 hG3 c0 c1 c2
  by_cases hxf : x < f
  · have hd : decide (x < f) = true := decide_eq_true hxf
    have HJ : Hid (atV c x = (0, 6)) := by
      show _ = _
      unfold atV
      rw [if_pos HVA.out, if_neg (by omega)]
    clear hxf HT
    go_wp2
    go_ret2
    exact ⟨by rw [HJ.out] <;> rfl, HG3.out.below⟩
  have hd : decide (x < f) = false := decide_eq_false hxf
  go_wp2_with fail
  refine (HT.out _).mono ?_
  rintro e w4 ⟨rfl, hG4⟩
  have HG4 := hide (HG3.out.trans hG4)
  have b4 := (hG4.block (k := p) hlt3).trans HUA3.out
  have hlt4 : p < w4.heap.size := by have := hG4.size; omega
  have e0 := cell_of_heap' b4 0
  have e1 := cell_of_heap' b4 1
  have e2 := cell_of_heap' b4 2
  simp at e0 e1 e2
  rw [hf] at e0
  clear b4 hG4 d0 d1 d2
  by_cases hxt : t < x
  · have hd2 : decide (t < x) = true := decide_eq_true hxt
    have HJ : Hid (atV c x = (0, 6)) := by
      show _ = _
      unfold atV
      rw [if_pos HVA.out, if_neg (by omega)]
    clear hxf hxt HT
    go_wp2
    go_ret2
    exact ⟨by rw [HJ.out] <;> rfl, HG4.out.below⟩
  have hd2 : decide (t < x) = false := decide_eq_false hxt
  obtain ⟨k, hk⟩ : ∃ k : Nat, (x - c.fr).toNat = k := ⟨_, rfl⟩
  have hkx : c.fr + (k : Int) = x := by omega
  have hkn : k ≤ n := by omega
  have HJ : Hid (atV c x = (valK c k, 0)) := by
    show _ = _
    unfold atV
    rw [if_pos HVA.out, if_pos (by omega), hk]
  have hX4 := HX.out.gr HG4.out
  have HAT := hide (at_any c A n cap k w4 HVA.out hX4.sl hX4.old hkn)
  rw [hkx, hf] at HAT
  obtain ⟨v, hv⟩ : ∃ v, valK c k = v := ⟨_, rfl⟩
  rw [hv] at HAT HJ
  clear hX4 hxf hxt
  go_wp2_with fail
  refine HAT.out.mono ?_
  rintro e w5 ⟨rfl, hB5⟩
  have HB5 : Hid (Below w.heap.size w w5) := HG4.out.below.trans (hB5.mono HG4.out.size)
  have hfd : ∀ W : World, (Instr.field 61 (.agg #[.int .i64 f, .int .i64 c.fst, .slice A n cap, .int .i64 x, .int .i64 v]) 2).run Try.prog W = .ok (.int .i64 v) W := fun _ => by kernel_rfl
  unfold wkV
  clear hB5
  go_wp2
  go_ret2
  exact ⟨by rw [HJ.out] <;> rfl, HB5.out⟩
end Go.Proofs.Ytdepnhnpklbmiaa
/- Contracts of the law's at, few and alike. -/
namespace Go.Proofs.Ytdepnhnpklbmiaa
open Go.RowKit Go.Sort

set_option maxHeartbeats 2000000 in
set_option maxRecDepth 100000 in
theorem lawAt_any (c : Cu) (A : Option Addr) (n cap : Nat) (x : Int) (w : World) (hx : CuAt w.heap.size w c A n cap) (hn : n ≤ 9223372036854775807) :
    Calls Try.prog 46 #[.agg #[.int .i64 c.fr, .int .i64 c.fst, .slice A n cap], .int .i64 x] w fun e w' => e = .returned (.tuple #[.int .i64 (atV c x).1, .bool ((atV c x).2 == 0)]) ∧ Below w.heap.size w w' := by
  have mixed := mixedOrders
  obtain ⟨W1, hW1⟩ : ∃ W1, w.alloc (.cells #[.int .i64 c.fr, .int .i64 c.fst, .slice A n cap] 24) = W1 := ⟨_, rfl⟩
  obtain ⟨p, hp⟩ : ∃ p, w.heap.size = p := ⟨_, rfl⟩
  have hG1 : Gr w W1 := by rw [← hW1]; exact (Gr.refl w).alloc _
  have ua : W1.heap[p]? = some (.cells #[.int .i64 c.fr, .int .i64 c.fst, .slice A n cap] 24 (0, 0)) := by
    rw [← hW1, ← hp]
    exact heap_alloc_new w _
  have HX1 := hide (hx.gr hG1)
  have HG1 := hide hG1
  have HV := hide (At_any c A n cap x W1 HX1.out hn)
  have a0 := cell_of_heap' ua 0
  have a1 := cell_of_heap' ua 1
  have a2 := cell_of_heap' ua 2
  simp at a0 a1 a2
  clear ua hx hG1
  generalize atV c x = v at HV
  obtain ⟨v, e⟩ := v
  go_enter Try.func46, Try.ntmps46
  go_wp2_with fail
  try rw [hp]
  refine HV.out.mono ?_
  rintro e w2 ⟨rfl, hB2⟩
  have HB2 : Hid (Below w.heap.size w w2) := HG1.out.below.trans (hB2.mono HG1.out.size)
  clear hB2 a0 a1 a2
  go_wp2
  go_ret2
  exact ⟨rfl, HB2.out⟩

set_option maxHeartbeats 400000 in
theorem few_any (c : Cu) (A : Option Addr) (n cap : Nat) (w : World) :
    Calls Try.prog 14 #[.agg #[.int .i64 c.fr, .int .i64 c.fst, .slice A n cap]] w fun e w' => e = .returned (.bool (decide (n ≤ 100))) ∧ Gr w w' := by
  generalize c.fr = f at *
  generalize c.fst = g
  go_enter Try.func14, Try.ntmps14
  go_wp2
  go_ret
  exact ⟨ret_bool (decide_eq_decide.2 (by omega)), (Gr.refl _).alloc _⟩

/-- the same curve -/
def likeB (a b : Cu) : Bool := a.fr == b.fr && a.fst == b.fst && decide (a.sl = b.sl)
set_option maxHeartbeats 2000000 in
set_option maxRecDepth 100000 in
theorem alike_any (a b : Cu) (A1 : Option Addr) (n1 k1 : Nat) (A2 : Option Addr) (n2 k2 : Nat) (w : World) (ha : IntsAt w.heap.size w A1 n1 a.sl) (hb : IntsAt w.heap.size w A2 n2 b.sl) (h1 : n1 ≤ 9223372036854775807) (h2 : n2 ≤ 9223372036854775807) :
    Calls Try.prog 25 #[.agg #[.int .i64 a.fr, .int .i64 a.fst, .slice A1 n1 k1], .agg #[.int .i64 b.fr, .int .i64 b.fst, .slice A2 n2 k2]] w fun e w' => e = .returned (.bool (likeB a b)) ∧ Gr w w' := by
  have mixed := mixedOrders
  have HJ : Hid (likeB a b = (a.fr == b.fr && a.fst == b.fst && decide (a.sl = b.sl))) := rfl
  have HS := hide (fun W (hg : Gr w W) => same_any A1 A2 n1 k1 n2 k2 a.sl b.sl W (ha.gr hg) (hb.gr hg) h1 h2)
  generalize decide (a.sl = b.sl) = r at HJ HS
  obtain ⟨f1, hf1⟩ : ∃ f, a.fr = f := ⟨_, rfl⟩
  obtain ⟨f2, hf2⟩ : ∃ f, b.fr = f := ⟨_, rfl⟩
  obtain ⟨g1, hg1⟩ : ∃ f, a.fst = f := ⟨_, rfl⟩
  obtain ⟨g2, hg2⟩ : ∃ f, b.fst = f := ⟨_, rfl⟩
  rw [hf1, hf2, hg1, hg2] at HJ
  rw [hf1, hf2, hg1, hg2]
  have HG := hide (((Gr.refl w).alloc (.cells #[.int .i64 f1, .int .i64 g1, .slice A1 n1 k1] 24)).alloc (.cells #[.int .i64 f2, .int .i64 g2, .slice A2 n2 k2] 24))
  cases hq1 : f1 == f2
  · rw [hq1] at HJ
    go_enter Try.func25, Try.ntmps25
    go_wp2
    go_ret
    exact ⟨ret_bool (by rw [HJ.out]; rfl), HG.out⟩
  cases hq2 : g1 == g2
  · rw [hq1, hq2] at HJ
    go_enter Try.func25, Try.ntmps25
    go_wp2
    go_ret
    exact ⟨ret_bool (by rw [HJ.out]; rfl), HG.out⟩
  rw [hq1, hq2] at HJ
  go_enter Try.func25, Try.ntmps25
  go_wp2_with fail
  refine (HS.out _ HG.out).mono ?_
  rintro e w2 ⟨rfl, q, rfl⟩
  clear HS
  go_wp2
  go_ret
  exact ⟨ret_bool (by rw [HJ.out]; cases r <;> rfl), HG.out.drewN q⟩

end Go.Proofs.Ytdepnhnpklbmiaa
