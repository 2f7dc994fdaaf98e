/- sides; steps and their rows. -/
import Derived.Test.YtbinmkigolkhcaaDoorPG
namespace Go.Proofs.YtbinmkigolkhcaaDoor
open Go.RowKit Go.Sort
attribute [local go_sem] Oper.semAt_some

theorem info4 : (Tryd.prog.info? 4).map (fun i => (i.zero, i.size, i.bytes)) = some (some (.bool false), 1, 1) := by kernel_rfl
def sidesF : Nat → Nat → Nat → List Bool
  | 0, _, _ => []
  | f + 1, i, n => if n ≤ 1 then [] else if i < halfN n then sidesF f i (halfN n) ++ [false] else sidesF f (i - halfN n) (n - halfN n) ++ [true]
def sidesV (i n : Nat) : List Bool := sidesF n i n
theorem sidesF_ok : ∀ (f g i n : Nat), n ≤ f → n ≤ g → sidesF f i n = sidesF g i n
  | 0, 0, _, _, _, _ => rfl
  | 0, g + 1, i, n, h, _ => by
    simp only [sidesF]
    rw [if_pos (by omega)]
  | f + 1, 0, i, n, _, h => by
    simp only [sidesF]
    rw [if_pos (by omega)]
  | f + 1, g + 1, i, n, h, k => by
    simp only [sidesF]
    split
    · rfl
    · have hh := halfN_lt (n := n) (by omega)
      rw [sidesF_ok f g i (halfN n) (by omega) (by omega), sidesF_ok f g (i - halfN n) (n - halfN n) (by omega) (by omega)]
theorem sides_1 (i : Nat) : sidesV i 1 = [] := rfl
theorem sides_lo {i n : Nat} (h : 2 ≤ n) (hi : i < halfN n) : sidesV i n = sidesV i (halfN n) ++ [false] := by
  have hh := halfN_lt h
  obtain ⟨f, rfl⟩ : ∃ f, n = f + 1 := ⟨n - 1, by omega⟩
  unfold sidesV
  simp only [sidesF]
  rw [if_neg (by omega), if_pos hi, sidesF_ok f _ i (halfN (f + 1)) (by omega) (Nat.le_refl _)]
theorem sides_hi {i n : Nat} (h : 2 ≤ n) (hi : halfN n ≤ i) : sidesV i n = sidesV (i - halfN n) (n - halfN n) ++ [true] := by
  have hh := halfN_lt h
  obtain ⟨f, rfl⟩ : ∃ f, n = f + 1 := ⟨n - 1, by omega⟩
  unfold sidesV
  simp only [sidesF]
  rw [if_neg (by omega), if_neg (by omega), sidesF_ok f _ (i - halfN (f + 1)) (f + 1 - halfN (f + 1)) (by omega) (Nat.le_refl _)]
theorem sidesF_len : ∀ (f i n : Nat), (sidesF f i n).length ≤ f
  | 0, _, _ => Nat.le_refl _
  | f + 1, i, n => by
    simp only [sidesF]
    split
    · exact Nat.zero_le _
    · split
      · have := sidesF_len f i (halfN n)
        rw [List.length_append, List.length_singleton]
        omega
      · have := sidesF_len f (i - halfN n) (n - halfN n)
        rw [List.length_append, List.length_singleton]
        omega
theorem sides_len (i n : Nat) : (sidesV i n).length ≤ n := sidesF_len n i n
def cellsL (l : List Bool) : List Value := l.map .bool
theorem cellsL_snoc (l : List Bool) (b : Bool) : cellsL (l ++ [b]) = cellsL l ++ [.bool b] := by unfold cellsL; rw [List.map_append]; rfl
def SidesPost (i n : Nat) (w : World) (e : Ending) (w' : World) : Prop :=
  ∃ a c, e = .returned (.slice a (sidesV i n).length c) ∧ w'.ownsRow w.heap.size 4 1 (.slice a (sidesV i n).length c) (sidesV i n).length (cellsL (sidesV i n)) ∧ Below w.heap.size w w'

set_option maxHeartbeats 2000000 in
set_option maxRecDepth 100000 in
theorem sides_any : ∀ (N n i : Nat) (w : World), n ≤ N → 1 ≤ n → i < n → n ≤ 1000000 → Calls Tryd.prog 93 #[.int .i64 i, .int .i64 n] w (SidesPost i n w) := by
  have mixed := mixedOrders
  obtain ⟨i0, hi0, hz0, hz1, hz2⟩ := info_parts info4
  intro N
  induction N with
  | zero => intro n i w hN h1; omega
  | succ N ih =>
    intro n i w hN h1 hi hm
    rcases Nat.lt_or_ge n 2 with hs | hs
    · obtain rfl : n = 1 := by omega
      go_enter Tryd.func93, Tryd.ntmps93
      go_wp2
      go_ret
      exact ⟨none, 0, rfl, World.ownsRow_nil _ _ _ _, Below.refl _ _⟩
    · have HH := hide (half_any n hs (by omega) w)
      obtain ⟨p1, p2⟩ := halfN_lt hs
      have z1 : ((n : Int) == 1) = false := beq_eq_false_iff_ne.2 (by omega)
      rcases Nat.lt_or_ge i (halfN n) with hi2 | hi2
      · have HE := hide (sides_lo hs hi2)
        have HL := hide (sides_len i (halfN n))
        obtain ⟨m, hmm⟩ : ∃ m, halfN n = m := ⟨_, rfl⟩
        rw [hmm] at p1 p2 HH HE hi2 HL
        have IH := hide (ih m i w (by omega) p2 hi2 (by omega))
        have q1 : (i : Int) < (m : Int) := by omega
        have HB := hide (show m ≤ 1000000 by omega)
        clear ih hN h1 hi hm hs p1 p2 hi2 hmm
        unfold SidesPost at IH ⊢
        obtain ⟨L, hL⟩ : ∃ L, sidesV i m = L := ⟨_, rfl⟩
        rw [hL] at IH HE HL
        rw [HE.out]
        have hk := HL.out
        have hk2 := HB.out
        clear HE HL HB hL
        go_enter Tryd.func93, Tryd.ntmps93
        go_wp2_with fail
        refine HH.out.mono ?_
        rintro e w1 ⟨rfl, rfl⟩
        go_wp2_with fail
        refine IH.out.mono ?_
        rintro e w2 ⟨a, c, rfl, ho, hb⟩
        have hb4 : w.heap.size ≤ (w2.alloc (.cells #[.bool false] 4)).heap.size := by have := hb.size; simp; omega
        have hbb1 : L.length + 1 ≤ maxLen := by unfold maxLen; omega
        have hbb2 : (L.length + 1) * 1 ≤ 140737488355328 := by omega
        have HO := hide ho
        have HB := hide hb
        clear ho hb IH HH hk hk2
        go_wp2_with (at_builtin; refine wpList_append_own_at _ rfl (.tmp 15) (.tmp 16) _ rfl w.heap.size 4 i0 (.bool false) 1 1 Tryd.underlying116 hi0 hz0 hz1 hz2 rfl (by decide) _ _ _ rfl (HO.out.alloc _) ⟨w2.heap.size, 0, none⟩ 1 1 [.bool false] rfl rfl (cell_one_at _ _ rfl) (by simp [Value.oneCell']) hbb1 hbb2 hb4 ?_; intro v1 w5 hown1 hgrow1 hnil1 hat1)
        obtain ⟨a2, c2, rfl⟩ := own_slice hown1
        go_ret
        refine ⟨a2, c2, by rw [List.length_append]; rfl, ?_, ?_⟩
        · rw [List.length_append, cellsL_snoc]
          exact hown1
        · have h1 := HB.out.alloc HB.out.size (.cells #[.bool false] 4)
          refine h1.trans ⟨hgrow1.os, hgrow1.tape, hgrow1.output, hgrow1.size, fun k hk => hgrow1.block k (Nat.lt_of_lt_of_le hk h1.size) fun e => ?_⟩
          have := (own_lt HO.out k e.symm).1
          omega
      · have HE := hide (sides_hi hs hi2)
        have HL := hide (sides_len (i - halfN n) (n - halfN n))
        obtain ⟨m, hmm⟩ : ∃ m, halfN n = m := ⟨_, rfl⟩
        rw [hmm] at p1 p2 HH HE hi2 HL
        have IH := hide (ih (n - m) (i - m) w (by omega) (by omega) (by omega) (by omega))
        have q1 : ¬ (i : Int) < (m : Int) := by omega
        have s1 : wrap64 ((i : Int) - (m : Int)) = ((i - m : Nat) : Int) := by rw [IntWalk.wrap64_in _ (by omega)]; omega
        have s2 : wrap64 ((n : Int) - (m : Int)) = ((n - m : Nat) : Int) := by rw [IntWalk.wrap64_in _ (by omega)]; omega
        have HB := hide (show n - m ≤ 1000000 by omega)
        obtain ⟨n2, hn2⟩ : ∃ n2, n - m = n2 := ⟨_, rfl⟩
        obtain ⟨i2, hi3⟩ : ∃ i2, i - m = i2 := ⟨_, rfl⟩
        rw [hn2] at IH s2 HB HE HL
        rw [hi3] at IH s1 HE HL
        clear ih hN h1 hi hm hs p1 p2 hi2 hmm hn2 hi3
        unfold SidesPost at IH ⊢
        obtain ⟨L, hL⟩ : ∃ L, sidesV i2 n2 = L := ⟨_, rfl⟩
        rw [hL] at IH HE HL
        rw [HE.out]
        have hk := HL.out
        have hk2 := HB.out
        clear HE HL HB hL
        go_enter Tryd.func93, Tryd.ntmps93
        go_wp2_with fail
        refine HH.out.mono ?_
        rintro e w1 ⟨rfl, rfl⟩
        go_wp2_with fail
        refine IH.out.mono ?_
        rintro e w2 ⟨a, c, rfl, ho, hb⟩
        have hb4 : w.heap.size ≤ (w2.alloc (.cells #[.bool true] 4)).heap.size := by have := hb.size; simp; omega
        have hbb1 : L.length + 1 ≤ maxLen := by unfold maxLen; omega
        have hbb2 : (L.length + 1) * 1 ≤ 140737488355328 := by omega
        have HO := hide ho
        have HB := hide hb
        clear ho hb IH HH hk hk2
        go_wp2_with (at_builtin; refine wpList_append_own_at _ rfl (.tmp 24) (.tmp 25) _ rfl w.heap.size 4 i0 (.bool false) 1 1 Tryd.underlying116 hi0 hz0 hz1 hz2 rfl (by decide) _ _ _ rfl (HO.out.alloc _) ⟨w2.heap.size, 0, none⟩ 1 1 [.bool true] rfl rfl (cell_one_at _ _ rfl) (by simp [Value.oneCell']) hbb1 hbb2 hb4 ?_; intro v1 w5 hown1 hgrow1 hnil1 hat1)
        obtain ⟨a2, c2, rfl⟩ := own_slice hown1
        go_ret
        refine ⟨a2, c2, by rw [List.length_append]; rfl, ?_, ?_⟩
        · rw [List.length_append, cellsL_snoc]
          exact hown1
        · have h1 := HB.out.alloc HB.out.size (.cells #[.bool true] 4)
          refine h1.trans ⟨hgrow1.os, hgrow1.tape, hgrow1.output, hgrow1.size, fun k hk => hgrow1.block k (Nat.lt_of_lt_of_le hk h1.size) fun e => ?_⟩
          have := (own_lt HO.out k e.symm).1
          omega
end Go.Proofs.YtbinmkigolkhcaaDoor
