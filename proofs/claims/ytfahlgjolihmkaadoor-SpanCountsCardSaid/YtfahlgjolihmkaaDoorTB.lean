/- Text: the words of the spans, joined. -/
import Derived.Test.YtfahlgjolihmkaaDoorTA
import Derived.Deep.RegionHeld3
namespace Go.Proofs.YtfahlgjolihmkaaDoor
open Go.RowKit Go.Sort

theorem words_len : ∀ (l : List Sp), (∀ s ∈ l, (wordT s).length ≤ 44) → (txtL l).length ≤ l.length * 45
  | [], _ => by simp [txtL, Lib.join]
  | [s], h => by
    have e : txtL [s] = wordT s := Lib.join_one _ _
    have := h s (by simp)
    rw [e]; simp; omega
  | s :: t :: l, h => by
    have e : txtL (s :: t :: l) = wordT s ++ ([32] ++ txtL (t :: l)) := by
      unfold txtL
      rw [List.map_cons, Lib.join_cons, List.map_cons, Lib.join_cons]
      simp [Lib.joinTail]
    have h1 := h s (by simp)
    have h2 := words_len (t :: l) (fun x hx => h x (List.mem_cons_of_mem _ hx))
    rw [e]
    simp only [List.length_append, List.length_cons, List.length_nil] at h2 ⊢
    omega

theorem cell_lt {W : World} {b o : Nat} {v : Value} (h : W.cell? ⟨b, o, none⟩ = some v) : b < W.heap.size := by
  rcases Nat.lt_or_ge b W.heap.size with h1 | h1
  · exact h1
  · exfalso
    unfold World.cell? at h
    rw [Array.getElem?_eq_none h1] at h
    cases h

set_option maxHeartbeats 2000000 in
set_option maxRecDepth 100000 in
theorem Text_any (A : Option Addr) (n cap : Nat) (xs : List Sp) (w : World) (hx : SpansAt w.heap.size w A n xs) (he : Env w) :
    Calls Tryd.prog 7 #[.slice A n cap] w fun e w' => e = .returned (.tuple #[.string (textS xs), .int .i64 (if setB xs then 0 else 2)]) ∧ Below w.heap.size w w' := by
  have mixed := mixedOrders
  have hlen := hx.1
  have HX := hide hx
  have HE := hide he
  clear hx he
  have HV := hide (Valid_any A n cap xs w HX.out)
  cases hs : setB xs
  · go_enter Tryd.func7, Tryd.ntmps7
    go_wp2_with fail
    refine HV.out.mono ?_
    rintro e w1 ⟨rfl, hg⟩
    rw [hs]
    go_wp2_with fail
    go_ret2
    exact ⟨by simp [textS, hs], hg.below⟩
  · have HB : Hid (∀ k, k < n → -1099511627776 ≤ loA xs k ∧ loA xs k < hiA xs k ∧ hiA xs k ≤ 1099511627776) := fun k hk => set_bounds hs (by omega)
    have hn : n ≤ 128 := by have := (setB_true hs).1; omega
    have hmk := run_make_row' (P := Tryd.prog) 46 9 (.string ByteArray.empty) 16 Tryd.underlying46 info9 rfl .i64 .i64 n (by omega) (by omega)
    rcases Nat.eq_zero_or_pos n with hn0 | hn0
    · subst hn0
      have hnil : xs = [] := List.eq_nil_of_length_eq_zero hlen
      subst hnil
      go_enter Tryd.func7, Tryd.ntmps7
      go_wp2_with fail
      refine HV.out.mono ?_
      rintro e w1 ⟨rfl, hg⟩
      rw [hs]
      go_wp2_with fail
      go_ret2
      exact ⟨by simp [textS, hs, txtS], hg.below⟩
    have hz : ((n : Int) == 0) = false := beq_eq_false_iff_ne.2 (by omega)
    go_enter Tryd.func7, Tryd.ntmps7
    go_wp2_with fail
    refine HV.out.mono ?_
    rintro e w1 ⟨rfl, hg⟩
    rw [hs]
    have HR0 := hide (SRow.made w1 n)
    have HG := hide hg
    obtain ⟨g, hgs⟩ : ∃ g, w1.heap.size = g := ⟨_, rfl⟩
    have hmk1 := hmk w1
    rw [hgs] at hmk1 HR0
    clear hmk
    obtain ⟨w2, hw2⟩ : ∃ w2, w1.alloc (.cells (madeCells #[.string ByteArray.empty] n) 9) = w2 := ⟨_, rfl⟩
    rw [hw2] at hmk1 HR0
    clear hw2 hgs HV
    go_wp2_with fail
    have HG2 := hide (HG.out.below.trans (HR0.out.below.mono HG.out.size))
    go_loopw [18] (fun vi wr => ∃ i : Nat, i ≤ n ∧ vi = .int .i64 i ∧ Hid (SRow w1 wr g n (fun k => if k < i then wB xs k else ByteArray.empty))) (fun vi _ => n - (intOf vi).toNat)
    case atStart => exact ⟨0, Nat.zero_le _, rfl, HR0.out.congr (fun k _ => by simp)⟩
    case round =>
      obtain ⟨i, hi, rfl, R1⟩ := hrel
      by_cases hlt : i < n
      · have hlt' : (i : Int) < (n : Int) := by omega
        have HBW := hide (HG.out.below.trans (R1.out.below.mono HG.out.size))
        obtain ⟨b, off, rfl, hb, c0, c1⟩ := (HX.out.below HBW.out).at_ hlt
        have HW := HB.out i hlt
        obtain ⟨lo, hlo⟩ : ∃ q, loA xs i = q := ⟨_, rfl⟩
        obtain ⟨hi', hhi⟩ : ∃ q, hiA xs i = q := ⟨_, rfl⟩
        rw [hlo, hhi] at HW
        rw [hlo] at c0
        rw [hhi] at c1
        obtain ⟨sl, hsl⟩ : ∃ q, bstr (Lib.itoa lo) = q := ⟨_, rfl⟩
        obtain ⟨sh, hsh⟩ : ∃ q, bstr (Lib.itoa hi') = q := ⟨_, rfl⟩
        obtain ⟨sd, hsd⟩ : ∃ q, sl ++ ⟨#[46, 46]⟩ = q := ⟨_, rfl⟩
        obtain ⟨sw, hsw⟩ : ∃ q, sd ++ sh = q := ⟨_, rfl⟩
        have HWB : Hid (wB xs i = sw) := by
          show wB xs i = sw
          rw [← hsw, ← hsd, ← hsl, ← hsh]
          show wB xs i = bstr (Lib.itoa lo) ++ bstr [46, 46] ++ bstr (Lib.itoa hi')
          rw [bstr_append, bstr_append, ← hlo, ← hhi]
          unfold wB wordT loA hiA
          rw [List.append_assoc]
        have z1 : sl.size ≤ 21 := by rw [← hsl, bstr_size]; exact Lib.itoa_length_le lo (by omega) (by omega)
        have z2 : sh.size ≤ 21 := by rw [← hsh, bstr_size]; exact Lib.itoa_length_le hi' (by omega) (by omega)
        have z3 : sd.size = sl.size + 2 := by rw [← hsd, ByteArray.size_append']; rfl
        have hadd1 := fun w => run_string_add_sum (P := Tryd.prog) w sl ⟨#[46, 46]⟩ (by have : (⟨#[46, 46]⟩ : ByteArray).size = 2 := rfl; omega)
        have hadd2 := fun w => run_string_add_sum (P := Tryd.prog) w sd sh (by omega)
        rw [hsd] at hadd1
        rw [hsw] at hadd2
        have hno1 : ¬ (sl.size + 2 > 9223372036854775807) := by omega
        have hno2 : ¬ (sd.size + sh.size > 9223372036854775807) := by omega
        have HSL := hide hsl
        have HSH := hide hsh
        clear hsl hsh hsw z1 z2 z3
        have s0 : (wr.alloc (.cells #[.int .i64 lo, .int .i64 hi'] 41)).cell? ⟨wr.heap.size, 0, none⟩ = some (.int .i64 lo) := by simp
        have s1 : (wr.alloc (.cells #[.int .i64 lo, .int .i64 hi'] 41)).cell? ⟨wr.heap.size, 1, none⟩ = some (.int .i64 hi') := by simp
        have s4 : wr.heap.size < (wr.alloc (.cells #[.int .i64 lo, .int .i64 hi'] 41)).heap.size := by simp
        have R2 := hide (R1.out.on ((Below.refl _ wr).alloc (Nat.le_refl _) (.cells #[.int .i64 lo, .int .i64 hi'] 41)))
        go_wp2_with fail
        obtain ⟨w3, hw3⟩ : ∃ w3, wr.alloc (.cells #[.int .i64 lo, .int .i64 hi'] 41) = w3 := ⟨_, rfl⟩
        obtain ⟨p, hp⟩ : ∃ p, wr.heap.size = p := ⟨_, rfl⟩
        rw [hw3] at s0 s1 s4 R2 ⊢
        rw [hp] at s0 s1 s4 ⊢
        have hgp : g < p := by rw [← hp]; exact R1.out.lt
        have KC : Hid (∀ W W', (W.cell? ⟨p, 0, none⟩ = some (.int .i64 lo) ∧ W.cell? ⟨p, 1, none⟩ = some (.int .i64 hi') ∧ (∃ v, W.cell? ⟨g, i, none⟩ = some v) ∧ W.frozen? ⟨g, i, none⟩ = false ∧ (∃ j, (j = i ∨ j = i + 1) ∧ SRow w1 W g n (fun k => if k < j then wB xs k else ByteArray.empty))) → Below W.heap.size W W' → (W'.cell? ⟨p, 0, none⟩ = some (.int .i64 lo) ∧ W'.cell? ⟨p, 1, none⟩ = some (.int .i64 hi') ∧ (∃ v, W'.cell? ⟨g, i, none⟩ = some v) ∧ W'.frozen? ⟨g, i, none⟩ = false ∧ (∃ j, (j = i ∨ j = i + 1) ∧ SRow w1 W' g n (fun k => if k < j then wB xs k else ByteArray.empty)))) := fun W W' h hb => by
          obtain ⟨h0, h1, ⟨v, h2⟩, h3, j, hj, hr⟩ := h
          exact ⟨(hb.cell (p := ⟨p, 0, none⟩) (cell_lt h0)).trans h0, (hb.cell (p := ⟨p, 1, none⟩) (cell_lt h0)).trans h1, ⟨v, (hb.cell (p := ⟨g, i, none⟩) hr.lt).trans h2⟩, (hb.frozen (p := ⟨g, i, none⟩) hr.lt).trans h3, j, hj, hr.on hb⟩
        have KS : Hid (∀ W, (W.cell? ⟨p, 0, none⟩ = some (.int .i64 lo) ∧ W.cell? ⟨p, 1, none⟩ = some (.int .i64 hi') ∧ (∃ v, W.cell? ⟨g, i, none⟩ = some v) ∧ W.frozen? ⟨g, i, none⟩ = false ∧ (∃ j, (j = i ∨ j = i + 1) ∧ SRow w1 W g n (fun k => if k < j then wB xs k else ByteArray.empty))) → ((W.setCell ⟨g, i, none⟩ (.string sw)).cell? ⟨p, 0, none⟩ = some (.int .i64 lo) ∧ (W.setCell ⟨g, i, none⟩ (.string sw)).cell? ⟨p, 1, none⟩ = some (.int .i64 hi') ∧ (∃ v, (W.setCell ⟨g, i, none⟩ (.string sw)).cell? ⟨g, i, none⟩ = some v) ∧ (W.setCell ⟨g, i, none⟩ (.string sw)).frozen? ⟨g, i, none⟩ = false ∧ (∃ j, (j = i ∨ j = i + 1) ∧ SRow w1 (W.setCell ⟨g, i, none⟩ (.string sw)) g n (fun k => if k < j then wB xs k else ByteArray.empty)))) := fun W h => by
          obtain ⟨h0, h1, ⟨v, h2⟩, h3, j, hj, hr⟩ := h
          have ho : ∀ o, (W.setCell ⟨g, i, none⟩ (.string sw)).cell? ⟨p, o, none⟩ = W.cell? ⟨p, o, none⟩ := fun o => World.cell?_setCell_other _ _ _ _ (by intro e'; simp only [Addr.mk.injEq] at e'; omega)
          have hr2 := (hr.store (i := i) (s := sw) hlt).congr (e := fun k => if k < i + 1 then wB xs k else ByteArray.empty) fun k _ => by
            by_cases e : k = i
            · subst e
              rw [if_pos rfl, if_pos (by omega), HWB.out]
            · rw [if_neg e]
              rcases hj with rfl | rfl
              · by_cases h2 : k < j
                · rw [if_pos h2, if_pos (by omega)]
                · rw [if_neg h2, if_neg (by omega)]
              · rfl
          exact ⟨(ho 0).trans h0, (ho 1).trans h1, ⟨_, hr2.cell i hlt⟩, hr2.free i, i + 1, .inr rfl, hr2⟩
        have LF : Hid (∀ W, (W.cell? ⟨p, 0, none⟩ = some (.int .i64 lo) ∧ W.cell? ⟨p, 1, none⟩ = some (.int .i64 hi') ∧ (∃ v, W.cell? ⟨g, i, none⟩ = some v) ∧ W.frozen? ⟨g, i, none⟩ = false ∧ (∃ j, (j = i ∨ j = i + 1) ∧ SRow w1 W g n (fun k => if k < j then wB xs k else ByteArray.empty))) → SRow w1 (W.setCell ⟨g, i, none⟩ (.string sw)) g n (fun k => if k < i + 1 then wB xs k else ByteArray.empty)) := fun W h => by
          obtain ⟨h0, h1, ⟨v, h2⟩, h3, j, hj, hr⟩ := h
          refine (hr.store (i := i) (s := sw) hlt).congr fun k _ => ?_
          by_cases e : k = i
          · subst e
            rw [if_pos rfl, if_pos (by omega), HWB.out]
          · rw [if_neg e]
            rcases hj with rfl | rfl
            · by_cases h2 : k < j
              · rw [if_pos h2, if_pos (by omega)]
              · rw [if_neg h2, if_neg (by omega)]
            · rfl
        have HIT : Hid (∀ W x, -1099511627776 ≤ x → x ≤ 1099511627776 → Below w1.heap.size w1 W → Calls Tryd.prog 23 #[.int .i64 x] W fun e w' => e = .returned (.string (bstr (Lib.itoa x))) ∧ Below W.heap.size W w') := fun W x h0 h1 hW =>
          (Tryd.strconv_Itoa x (by omega) (by omega) W ((HE.out.on (HG.out.below.trans (hW.mono HG.out.size))).here.tab)).mono fun e w' ⟨he, k, os, hg⟩ => ⟨he, by rw [hg]; exact ((Gr.refl W).grow k os).below⟩
        have HLO : Hid (∀ W, (W.cell? ⟨p, 0, none⟩ = some (.int .i64 lo) ∧ W.cell? ⟨p, 1, none⟩ = some (.int .i64 hi') ∧ (∃ v, W.cell? ⟨g, i, none⟩ = some v) ∧ W.frozen? ⟨g, i, none⟩ = false ∧ (∃ j, (j = i ∨ j = i + 1) ∧ SRow w1 W g n (fun k => if k < j then wB xs k else ByteArray.empty))) → Calls Tryd.prog 23 #[.int .i64 lo] W fun e w' => e = .returned (.string sl) ∧ Below W.heap.size W w') := fun W h => by
          rw [← HSL.out]
          obtain ⟨_, _, _, _, j, _, hr⟩ := h
          exact HIT.out W lo (by omega) (by omega) hr.below
        have HHI : Hid (∀ W, (W.cell? ⟨p, 0, none⟩ = some (.int .i64 lo) ∧ W.cell? ⟨p, 1, none⟩ = some (.int .i64 hi') ∧ (∃ v, W.cell? ⟨g, i, none⟩ = some v) ∧ W.frozen? ⟨g, i, none⟩ = false ∧ (∃ j, (j = i ∨ j = i + 1) ∧ SRow w1 W g n (fun k => if k < j then wB xs k else ByteArray.empty))) → Calls Tryd.prog 23 #[.int .i64 hi'] W fun e w' => e = .returned (.string sh) ∧ Below W.heap.size W w') := fun W h => by
          rw [← HSH.out]
          obtain ⟨_, _, _, _, j, _, hr⟩ := h
          exact HIT.out W hi' (by omega) (by omega) hr.below
        have S0 : (w3.cell? ⟨p, 0, none⟩ = some (.int .i64 lo) ∧ w3.cell? ⟨p, 1, none⟩ = some (.int .i64 hi') ∧ (∃ v, w3.cell? ⟨g, i, none⟩ = some v) ∧ w3.frozen? ⟨g, i, none⟩ = false ∧ (∃ j, (j = i ∨ j = i + 1) ∧ SRow w1 w3 g n (fun k => if k < j then wB xs k else ByteArray.empty))) := ⟨s0, s1, ⟨_, R2.out.cell i hlt⟩, R2.out.free i, i, .inl rfl, R2.out⟩
        have K0 := hide (KC.out w3 w3.drew S0 ((Below.refl _ w3).drew))
        obtain ⟨q0, q1, ⟨qv, q2⟩, q3, -⟩ := id S0
        clear HIT HW hlo hhi c0 c1 s0 s1 s4 hw3 hp S0 hgp
        go_region_held3 (fun w' => w'.cell? ⟨p, 0, none⟩ = some (.int .i64 lo) ∧ w'.cell? ⟨p, 1, none⟩ = some (.int .i64 hi') ∧ (∃ v, w'.cell? ⟨g, i, none⟩ = some v) ∧ w'.frozen? ⟨g, i, none⟩ = false ∧ (∃ j, (j = i ∨ j = i + 1) ∧ SRow w1 w' g n (fun k => if k < j then wB xs k else ByteArray.empty)))
          (first | with_reducible exact K0.out | with_reducible exact hS1 | with_reducible exact hS2 | with_reducible exact (KS.out _ hS1) | with_reducible exact (KS.out _ hS2) | exact K0.out | go_keep)
          (first | (go_at_call 23; (with_reducible refine (HLO.out _ (by assumption)).mono ?_); rintro e w4 ⟨rfl, hb4⟩; have hS1 := KC.out _ _ (by assumption) hb4; obtain ⟨m0, m1, ⟨mv, m2⟩, m3, -⟩ := id hS1) | (go_at_call 23; (with_reducible refine (HHI.out _ (by assumption)).mono ?_); rintro e w5 ⟨rfl, hb5⟩; have hS2 := KC.out _ _ (by assumption) hb5; obtain ⟨l0, l1, ⟨lv, l2⟩, l3, -⟩ := id hS2))
        all_goals
          go_wp2
          go_roundw
          case rel => exact ⟨i + 1, by omega, by go_num, hide (by first | exact LF.out _ hS2 | exact LF.out _ hS1 | exact (LF.out _ hS2).on ((Below.refl _ _).drew) | exact (LF.out _ hS1).on ((Below.refl _ _).drew))⟩
          case measure => simp [intOf]; omega
      · obtain rfl : i = n := by omega
        have R2 := hide (R1.out.congr (e := fun k => wB xs k) fun k hk => if_pos hk)
        have HL : Hid ((xs.map wordT).map bstr = (List.range i).map (fun k => wB xs k)) := by
          show (xs.map wordT).map bstr = (List.range i).map (fun k => wB xs k)
          apply List.ext_getElem
          · simp [hlen]
          · intro k h1 h2
            simp only [List.length_map] at h1
            simp [wB, List.getD_eq_getElem?_getD, List.getElem?_eq_getElem h1]
        have HJ := hide (fun W (hW : SRow w1 W g i (fun k => wB xs k)) => Tryd.strings_Join g 0 i ((xs.map wordT).map bstr) (bstr [32]) W (fun j x hj => by
          rw [HL.out] at hj
          have hji : j < i := by
            rcases Nat.lt_or_ge j i with h | h
            · exact h
            · rw [List.getElem?_eq_none (by simpa using h)] at hj; cases hj
          simp only [List.getElem?_map, List.getElem?_range hji, Option.map_some, Option.some.injEq] at hj
          rw [Nat.zero_add, hW.cell j hji, hj]) hW.lt (by simp; omega) (by simp; omega) (by
          have e1 : ((xs.map wordT).map bstr).map (·.data.toList) = xs.map wordT := by simp
          rw [e1, bstr_list]
          have := words_len xs (fun s hs' => by
            obtain ⟨k, hk, rfl⟩ := List.getElem_of_mem hs'
            have := HB.out k (by omega)
            simp only [loA, hiA, List.getD_eq_getElem?_getD, List.getElem?_eq_getElem hk, Option.getD_some] at this
            exact word_len (by omega) (by omega) (by omega) (by omega))
          show (txtL xs).length ≤ _
          omega))
        go_wp2_with fail
        have hj := HJ.out wr R2.out
        have e1 : ((xs.map wordT).map bstr).map (·.data.toList) = xs.map wordT := by simp
        rw [e1] at hj
        have e2 : ((xs.map wordT).map bstr).length = i := by simp [hlen]
        rw [e2] at hj
        refine hj.mono ?_
        rintro e w3 ⟨rfl, hb3⟩
        go_wp2
        go_ret2
        have hne : xs ≠ [] := by intro e; subst e; simp at hlen; omega
        refine ⟨by simp [textS, hs, txtS, hne]; rfl, ?_⟩
        have hbw := HG.out.below.trans (R2.out.below.mono HG.out.size)
        exact hbw.trans (hb3.mono hbw.size)
end Go.Proofs.YtfahlgjolihmkaaDoor
