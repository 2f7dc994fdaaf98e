/- The specification's Text. -/
import Derived.Test.YtfahlgjolihmkaaDoorTB
import Derived.Test.YtfahlgjolihmkaaDoorTF
import Derived.Deep.RegionHeld3
namespace Go.Proofs.YtfahlgjolihmkaaDoor
open Go.RowKit Go.Sort
attribute [local go_sem] Oper.semAt_some

theorem txt_cons (s t : Sp) (l : List Sp) : txtL (s :: t :: l) = wordT s ++ ([32] ++ txtL (t :: l)) := by
  unfold txtL
  rw [List.map_cons, Lib.join_cons, List.map_cons, Lib.join_cons]
  simp [Lib.joinTail]
theorem txt_one (s : Sp) : txtL [s] = wordT s := Lib.join_one _ _
theorem txt_snoc : ∀ (l : List Sp) (s : Sp), l ≠ [] → txtL (l ++ [s]) = txtL l ++ ([32] ++ wordT s)
  | [], _, h => absurd rfl h
  | [t], s, _ => by rw [txt_one]; show txtL (t :: s :: []) = _; rw [txt_cons, txt_one]
  | t :: u :: l, s, _ => by
    have := txt_snoc (u :: l) s (by simp)
    show txtL (t :: u :: (l ++ [s])) = _
    rw [txt_cons, txt_cons]
    rw [show u :: (l ++ [s]) = (u :: l) ++ [s] from rfl, this]
    simp [List.append_assoc]
theorem word_at {xs : List Sp} {i : Nat} : wordT (xs.getD i (0, 0)) = Lib.itoa (loA xs i) ++ ([46, 46] ++ Lib.itoa (hiA xs i)) := rfl
theorem take_snoc {xs : List Sp} {i : Nat} (h : i < xs.length) : xs.take (i + 1) = xs.take i ++ [xs.getD i (0, 0)] := by
  rw [List.take_add_one]; simp [List.getD_eq_getElem?_getD, List.getElem?_eq_getElem h]

set_option maxHeartbeats 4000000 in
set_option maxRecDepth 100000 in
theorem refText_any (A : Option Addr) (n cap : Nat) (xs : List Sp) (w : World) (hx : SpansAt w.heap.size w A n xs) :
    Calls Tryd.prog 8 #[.slice A n cap] w fun e w' => e = .returned (.tuple #[.string (textS xs), .int .i64 (if setB xs then 0 else 2)]) ∧ Gr w w' := by
  have mixed := mixedOrders
  have hlen := hx.1
  have HX := hide hx
  clear hx
  have HV := hide (refValid_any A n cap xs w HX.out)
  cases hs : setB xs
  · go_enter Tryd.func8, Tryd.ntmps8
    go_wp2_with fail
    refine HV.out.mono ?_
    rintro e w1 ⟨rfl, hg⟩
    rw [hs]
    go_wp2_with fail
    go_ret2
    exact ⟨by simp [textS, hs], hg⟩
  · have HB : Hid (∀ k, k < n → -1099511627776 ≤ loA xs k ∧ loA xs k < hiA xs k ∧ hiA xs k ≤ 1099511627776) := fun k hk => set_bounds hs (by omega)
    have hn : n ≤ 128 := by have := (setB_true hs).1; omega
    rcases Nat.eq_zero_or_pos n with hn0 | hn0
    · subst hn0
      have hnil : xs = [] := List.eq_nil_of_length_eq_zero hlen
      subst hnil
      go_enter Tryd.func8, Tryd.ntmps8
      go_wp2_with fail
      refine HV.out.mono ?_
      rintro e w1 ⟨rfl, hg⟩
      rw [hs]
      go_wp2_with fail
      go_ret2
      exact ⟨by simp [textS, hs, txtS], hg⟩
    have hz : ((n : Int) == 0) = false := beq_eq_false_iff_ne.2 (by omega)
    have HLEN : Hid (∀ i, i ≤ n → (txtL (xs.take i)).length ≤ i * 45) := fun i hi => by
      have := words_len (xs.take i) (fun s hs' => by
        obtain ⟨k, hk, rfl⟩ := List.getElem_of_mem (List.mem_of_mem_take hs')
        have := HB.out k (by omega)
        simp only [loA, hiA, List.getD_eq_getElem?_getD, List.getElem?_eq_getElem hk, Option.getD_some] at this
        exact word_len (by omega) (by omega) (by omega) (by omega))
      simpa [hlen, Nat.min_eq_left hi] using this
    go_enter Tryd.func8, Tryd.ntmps8
    go_wp2_with fail
    refine HV.out.mono ?_
    rintro e w1 ⟨rfl, hg⟩
    rw [hs]
    have HG := hide hg
    go_wp2_with fail
    go_loopw [4, 5] (fun vo vi wr => ∃ i : Nat, i ≤ n ∧ vi = .int .i64 i ∧ vo = .string (bstr (txtL (xs.take i))) ∧ Gr w wr) (fun _ vi _ => n - (intOf vi).toNat)
    case atStart => exact ⟨0, Nat.zero_le _, rfl, rfl, HG.out⟩
    case round =>
      obtain ⟨i, hi, rfl, rfl, hGr⟩ := hrel
      by_cases hlt : i < n
      · have hlt' : (i : Int) < (n : Int) := by omega
        obtain ⟨b, off, rfl, hb, c0, c1⟩ := (HX.out.gr hGr).at_ hlt
        have HW := hide (HB.out i hlt)
        have hl := HLEN.out i hi
        obtain ⟨lo, hlo⟩ : ∃ q, loA xs i = q := ⟨_, rfl⟩
        obtain ⟨hi', hhi⟩ : ∃ q, hiA xs i = q := ⟨_, rfl⟩
        rw [hlo, hhi] at HW
        rw [hlo] at c0
        rw [hhi] at c1
        obtain ⟨sl, hsl⟩ : ∃ q, bstr (Lib.itoa lo) = q := ⟨_, rfl⟩
        obtain ⟨sh, hsh⟩ : ∃ q, bstr (Lib.itoa hi') = q := ⟨_, rfl⟩
        -- what stands before the word
        obtain ⟨pre, hpre⟩ : ∃ q, bstr (if i = 0 then [] else txtL (xs.take i) ++ [32]) = q := ⟨_, rfl⟩
        obtain ⟨s1, hs1⟩ : ∃ q, pre ++ sl = q := ⟨_, rfl⟩
        obtain ⟨s2, hs2⟩ : ∃ q, s1 ++ ⟨#[46, 46]⟩ = q := ⟨_, rfl⟩
        obtain ⟨s3, hs3⟩ : ∃ q, s2 ++ sh = q := ⟨_, rfl⟩
        have HS3 : Hid (bstr (txtL (xs.take (i + 1))) = s3) := by
          show _ = s3
          rw [← hs3, ← hs2, ← hs1, ← hpre, ← hsl, ← hsh]
          show _ = bstr _ ++ bstr _ ++ bstr [46, 46] ++ bstr _
          rw [bstr_append, bstr_append, bstr_append, take_snoc (by omega)]
          by_cases h0 : i = 0
          · subst h0
            rw [if_pos rfl, List.take_zero, List.nil_append, List.nil_append, txt_one, word_at, hlo, hhi, List.append_assoc]
          · rw [if_neg h0, txt_snoc _ _ (by intro e; have e2 := congrArg List.length e; rw [List.length_take, List.length_nil] at e2; omega), word_at, hlo, hhi]
            simp [List.append_assoc]
        have z1 : sl.size ≤ 21 := by rw [← hsl, bstr_size]; have := HW.out; exact Lib.itoa_length_le lo (by omega) (by omega)
        have z2 : sh.size ≤ 21 := by rw [← hsh, bstr_size]; have := HW.out; exact Lib.itoa_length_le hi' (by omega) (by omega)
        have z0 : pre.size ≤ 10000 := by
          rw [← hpre, bstr_size]
          split
          · simp
          · simp only [List.length_append, List.length_cons, List.length_nil]; omega
        have y1 : s1.size = pre.size + sl.size := by rw [← hs1, ByteArray.size_append']
        have y2 : s2.size = s1.size + 2 := by rw [← hs2, ByteArray.size_append']; rfl
        have a1 := fun w => run_string_add_sum (P := Tryd.prog) w pre sl (by omega)
        have a2 := fun w => run_string_add_sum (P := Tryd.prog) w s1 ⟨#[46, 46]⟩ (by rw [show (⟨#[46, 46]⟩ : ByteArray).size = 2 from rfl]; omega)
        have a3 := fun w => run_string_add_sum (P := Tryd.prog) w s2 sh (by omega)
        rw [hs1] at a1
        rw [hs2] at a2
        rw [hs3] at a3
        have n1 : ¬ 9223372036854775807 < pre.size + sl.size := by omega
        have n2 : ¬ 9223372036854775807 < s1.size + 2 := by omega
        have n3 : ¬ 9223372036854775807 < s2.size + sh.size := by omega
        have HD1 : Hid (∀ W, Calls Tryd.prog 26 #[.int .i64 lo] W fun e w' => e = .returned (.string sl) ∧ w' = W) := fun W => by rw [← hsl]; have := HW.out; exact (Digits_any lo (by omega) (by omega) W).mono fun _ _ h => ⟨h.1, h.2.symm⟩
        have HD2 : Hid (∀ W, Calls Tryd.prog 26 #[.int .i64 hi'] W fun e w' => e = .returned (.string sh) ∧ w' = W) := fun W => by rw [← hsh]; have := HW.out; exact (Digits_any hi' (by omega) (by omega) W).mono fun _ _ h => ⟨h.1, h.2.symm⟩
        have n0 : ¬ 9223372036854775807 < (txtL (xs.take i)).length + 1 := by omega
        have HPRE := hide hpre
        clear z0 z1 z2 y1 y2 hsl hsh hs1 hs2 hs3 hlo hhi hl hpre
        by_cases h0 : i = 0
        · have hp0 : bstr (txtL (xs.take i)) = pre := by rw [← HPRE.out, if_pos h0, h0]; rfl
          have hnp : ¬ (0 : Int) < (i : Int) := by omega
          have H0 := hide h0
          clear h0
          rw [hp0]
          go_wp2_with fail
          go_region_held3 (fun w' => w'.cell? ⟨b, off + i * 2, none⟩ = some (.int .i64 lo) ∧ w'.cell? ⟨b, off + i * 2 + 1, none⟩ = some (.int .i64 hi'))
            (first | go_keep | exact ⟨c0, c1⟩)
            (first | (go_at_call 26; (with_reducible refine (HD1.out _).mono ?_); rintro e w4 ⟨rfl, rfl⟩) | (go_at_call 26; (with_reducible refine (HD2.out _).mono ?_); rintro e w5 ⟨rfl, rfl⟩))
          all_goals
            clear a1 a2 a3 n0 n1 n2 n3 HD1 HD2 c0 c1
            go_wp2
            go_roundw
            case rel => exact ⟨i + 1, by omega, by go_num, by rw [← HS3.out], by first | exact hGr.drew | exact hGr.drewN _ | exact hGr⟩
            case measure => simp [intOf]; omega
        · have hpos : (0 : Int) < (i : Int) := by omega
          have hp1 : bstr (txtL (xs.take i)) ++ ⟨#[32]⟩ = pre := by
            rw [← HPRE.out, if_neg h0]
            exact bstr_append _ _
          have a0 := fun w => run_string_add_sum (P := Tryd.prog) w (bstr (txtL (xs.take i))) ⟨#[32]⟩ (by rw [bstr_size (txtL (xs.take i)), show (⟨#[32]⟩ : ByteArray).size = 1 from rfl]; omega)
          rw [hp1] at a0
          go_wp2_with fail
          go_region_held3 (fun w' => w'.cell? ⟨b, off + i * 2, none⟩ = some (.int .i64 lo) ∧ w'.cell? ⟨b, off + i * 2 + 1, none⟩ = some (.int .i64 hi'))
            (first | go_keep | exact ⟨c0, c1⟩)
            (first | (go_at_call 26; (with_reducible refine (HD1.out _).mono ?_); rintro e w4 ⟨rfl, rfl⟩) | (go_at_call 26; (with_reducible refine (HD2.out _).mono ?_); rintro e w5 ⟨rfl, rfl⟩))
          all_goals
            clear a1 a2 a3 n0 n1 n2 n3 HD1 HD2 c0 c1
            go_wp2
            go_roundw
            case rel => exact ⟨i + 1, by omega, by go_num, by rw [← HS3.out], by first | exact hGr.drew | exact hGr.drewN _ | exact hGr⟩
            case measure => simp [intOf]; omega
      · obtain rfl : i = n := by omega
        go_wp2_with fail
        go_ret2
        refine ⟨?_, hGr⟩
        have hne : xs ≠ [] := by intro e; subst e; simp at hlen; omega
        simp [textS, hs, txtS, hne, List.take_of_length_le (Nat.le_of_eq hlen)]
end Go.Proofs.YtfahlgjolihmkaaDoor
