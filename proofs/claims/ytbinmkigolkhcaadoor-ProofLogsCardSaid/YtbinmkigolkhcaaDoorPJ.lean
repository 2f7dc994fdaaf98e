/- stepsOf. -/
import Derived.Test.YtbinmkigolkhcaaDoorPI
namespace Go.Proofs.YtbinmkigolkhcaaDoor
open Go.RowKit Go.Sort
attribute [local go_sem] Oper.semAt_some

theorem info41 : (Tryd.prog.info? 41).map (fun i => (i.zero, i.size, i.bytes)) = some (some (.agg #[.int .u64 0, .bool false]), 2, 16) := by kernel_rfl
def cellsS : List St → List Value
  | [] => []
  | s :: ss => .int .u64 (s.1 : Nat) :: .bool s.2 :: cellsS ss
theorem cellsS_snoc : ∀ (ss : List St) (h : Nat) (b : Bool), cellsS (ss ++ [(h, b)]) = cellsS ss ++ [.int .u64 h, .bool b]
  | [], _, _ => rfl
  | s :: ss, h, b => by
    show _ :: _ :: cellsS (ss ++ [(h, b)]) = _ :: _ :: (cellsS ss ++ _)
    rw [cellsS_snoc ss h b]
theorem cellsS_length : ∀ ss : List St, (cellsS ss).length = ss.length * 2
  | [] => rfl
  | s :: ss => by
    show (cellsS ss).length + 1 + 1 = _
    rw [cellsS_length ss, List.length_cons]
    omega
theorem cellsS_at : ∀ (ss : List St) (i : Nat), i < ss.length → (cellsS ss)[i * 2]? = some (.int .u64 (stH ss i : Nat)) ∧ (cellsS ss)[i * 2 + 1]? = some (.bool (stL ss i))
  | [], i, h => by simp at h
  | s :: ss, 0, h => ⟨rfl, rfl⟩
  | s :: ss, i + 1, h => by
    obtain ⟨a, b⟩ := cellsS_at ss i (by simpa using h)
    have e : (i + 1) * 2 = i * 2 + 1 + 1 := by omega
    refine ⟨?_, ?_⟩
    · rw [e]
      exact a
    · rw [e]
      exact b
def StBound (ss : List St) : Prop := ∀ s ∈ ss, s.1 < 18446744073709551616
theorem StBound.snoc {ss : List St} {h : Nat} {b : Bool} (k : StBound ss) (hh : h < 18446744073709551616) : StBound (ss ++ [(h, b)]) := by
  intro s hs
  rcases List.mem_append.1 hs with h1 | h1
  · exact k s h1
  · rw [List.mem_singleton] at h1
    subst h1
    exact hh
theorem steps_of_own {W : World} {base k c : Nat} {a : Option Addr} {ss : List St} (h : W.ownsRow base 41 2 (.slice a k c) k (cellsS ss)) (hb : StBound ss) : StepsAt W.heap.size W a k ss := by
  have hl : ss.length = k := by have := h.1; rw [cellsS_length] at this; omega
  refine ⟨hl, ?_⟩
  rcases h.2 with ⟨_, h0⟩ | ⟨g, cap, cur, hv, hbb, hg, hr⟩
  · exact .inl h0
  · injection hv with h1 h2 h3
    subst h1
    refine .inr ⟨g, 0, rfl, (Array.getElem?_eq_some_iff.1 hg).1, fun i hi => ?_⟩
    obtain ⟨e1, e2⟩ := cellsS_at ss i (by omega)
    have ad : ∀ j, (⟨g, 0, none⟩ : Addr).add j = ⟨g, j, none⟩ := by
      intro j
      by_cases h0 : j = 0
      · subst h0; rfl
      · simp [Addr.add, h0]
    have c0 := h.cells (g := g) rfl (i * 2) _ e1
    have c1 := h.cells (g := g) rfl (i * 2 + 1) _ e2
    rw [ad] at c0 c1
    rw [Nat.zero_add]
    refine ⟨c0, c1, ?_⟩
    unfold stH
    rw [List.getD_eq_getElem?_getD, List.getElem?_eq_getElem (by omega)]
    exact hb _ (List.getElem_mem _)
def stepsF : Nat → List (List UInt8) → Nat → List St
  | 0, _, _ => []
  | f + 1, l, i => if l.length ≤ 1 then [] else if i < halfN l.length then stepsF f (l.take (halfN l.length)) i ++ [(rootV (l.drop (halfN l.length)), false)] else stepsF f (l.drop (halfN l.length)) (i - halfN l.length) ++ [(rootV (l.take (halfN l.length)), true)]
def stepsV (l : List (List UInt8)) (i : Nat) : List St := stepsF l.length l i
theorem stepsF_ok : ∀ (f g : Nat) (l : List (List UInt8)) (i : Nat), l.length ≤ f → l.length ≤ g → stepsF f l i = stepsF g l i
  | 0, 0, _, _, _, _ => rfl
  | 0, g + 1, l, i, h, _ => by
    simp only [stepsF]
    rw [if_pos (by omega)]
  | f + 1, 0, l, i, _, h => by
    simp only [stepsF]
    rw [if_pos (by omega)]
  | f + 1, g + 1, l, i, h, k => by
    simp only [stepsF]
    split
    · rfl
    · have hh := halfN_lt (n := l.length) (by omega)
      rw [stepsF_ok f g (l.take (halfN l.length)) i (by rw [List.length_take]; omega) (by rw [List.length_take]; omega), stepsF_ok f g (l.drop (halfN l.length)) (i - halfN l.length) (by rw [List.length_drop]; omega) (by rw [List.length_drop]; omega)]
theorem steps_1 {l : List (List UInt8)} (h : l.length = 1) (i : Nat) : stepsV l i = [] := by
  unfold stepsV
  rw [h]
  simp only [stepsF]
  rw [if_pos (by omega)]
theorem steps_lo {l : List (List UInt8)} {i : Nat} (h : 2 ≤ l.length) (hi : i < halfN l.length) : stepsV l i = stepsV (l.take (halfN l.length)) i ++ [(rootV (l.drop (halfN l.length)), false)] := by
  have hh := halfN_lt h
  obtain ⟨f, hf⟩ : ∃ f, l.length = f + 1 := ⟨l.length - 1, by omega⟩
  unfold stepsV
  rw [hf]
  simp only [stepsF]
  rw [if_neg (by omega), if_pos (by omega), ← hf]
  rw [stepsF_ok f _ (l.take (halfN l.length)) i (by rw [List.length_take]; omega) (Nat.le_refl _)]
theorem steps_hi {l : List (List UInt8)} {i : Nat} (h : 2 ≤ l.length) (hi : halfN l.length ≤ i) : stepsV l i = stepsV (l.drop (halfN l.length)) (i - halfN l.length) ++ [(rootV (l.take (halfN l.length)), true)] := by
  have hh := halfN_lt h
  obtain ⟨f, hf⟩ : ∃ f, l.length = f + 1 := ⟨l.length - 1, by omega⟩
  unfold stepsV
  rw [hf]
  simp only [stepsF]
  rw [if_neg (by omega), if_neg (by omega), ← hf]
  rw [stepsF_ok f _ (l.drop (halfN l.length)) (i - halfN l.length) (by rw [List.length_drop]; omega) (Nat.le_refl _)]
theorem stepsF_len : ∀ (f : Nat) (l : List (List UInt8)) (i : Nat), (stepsF f l i).length ≤ f ∧ StBound (stepsF f l i)
  | 0, _, _ => ⟨Nat.le_refl _, fun s h => by simp [stepsF] at h⟩
  | f + 1, l, i => by
    simp only [stepsF]
    split
    · exact ⟨Nat.zero_le _, fun s h => by simp at h⟩
    · split
      · have := stepsF_len f (l.take (halfN l.length)) i
        rw [List.length_append, List.length_singleton]
        exact ⟨by omega, this.2.snoc (rootV_lt _)⟩
      · have := stepsF_len f (l.drop (halfN l.length)) (i - halfN l.length)
        rw [List.length_append, List.length_singleton]
        exact ⟨by omega, this.2.snoc (rootV_lt _)⟩
theorem steps_len (l : List (List UInt8)) (i : Nat) : (stepsV l i).length ≤ l.length := (stepsF_len _ l i).1
theorem steps_bound (l : List (List UInt8)) (i : Nat) : StBound (stepsV l i) := (stepsF_len _ l i).2
theorem own_keep {w w' : World} {base b2 : Nat} {e : TypeId} {size n : Nat} {v : Value} {xs : List Value} (h : w.ownsRow base e size v n xs) (hb : Below w.heap.size w w') (h2 : b2 ≤ base) : w'.ownsRow b2 e size v n xs := by
  refine ⟨h.1, ?_⟩
  rcases h.2 with h | ⟨g, cap, cur, e, hbg, hg, rest⟩
  · exact .inl h
  · exact .inr ⟨g, cap, cur, e, Nat.le_trans h2 hbg, (hb.block g (Array.getElem?_eq_some_iff.1 hg).1).trans hg, rest⟩
def StepsPost (ss : List St) (w : World) (e : Ending) (w' : World) : Prop :=
  ∃ a c, e = .returned (.slice a ss.length c) ∧ w'.ownsRow w.heap.size 41 2 (.slice a ss.length c) ss.length (cellsS ss) ∧ Below w.heap.size w w'

set_option maxHeartbeats 2000000 in
set_option maxRecDepth 100000 in
theorem stepsOf_any : ∀ (N n i : Nat) (A : Option Addr) (c : Nat) (ls : List (List UInt8)) (w : World), n ≤ N → 1 ≤ n → i < n → n ≤ 1000000 → ListsAt w.heap.size w A n ls → n ≤ c →
    Calls Tryd.prog 64 #[.slice A n c, .int .i64 i] w (StepsPost (stepsV ls i) w) := by
  have mixed := mixedOrders
  obtain ⟨i0, hi0, hz0, hz1, hz2⟩ := info_parts info41
  intro N
  induction N with
  | zero => intro n i A c ls w hN h1; omega
  | succ N ih =>
    intro n i A c ls w hN h1 hi hm hx hc
    rcases Nat.lt_or_ge n 2 with hs | hs
    · obtain rfl : n = 1 := by omega
      rw [steps_1 hx.1]
      go_enter Tryd.func64, Tryd.ntmps64
      go_wp2
      go_ret
      exact ⟨none, 0, rfl, World.ownsRow_nil _ _ _ _, Below.refl _ _⟩
    · obtain ⟨b, off, -, -, -, rfl, hb, -, -, -⟩ := hx.at_ (i := 0) (by omega)
      have HH := hide (halves_any b off n c hs hc hm w)
      obtain ⟨p1, p2⟩ := halfN_lt hs
      have z1 : ((n : Int) == 1) = false := beq_eq_false_iff_ne.2 (by omega)
      have hlen := hx.1
      rcases Nat.lt_or_ge i (halfN n) with hi2 | hi2
      · have HE := hide (steps_lo (l := ls) (i := i) (by omega) (by rw [hlen]; exact hi2))
        have HL := hide (steps_len (ls.take (halfN n)) i)
        rw [hlen] at HE
        obtain ⟨m, hmm⟩ : ∃ m, halfN n = m := ⟨_, rfl⟩
        rw [hmm] at p1 p2 HH HE hi2 HL
        have HT := hide (hx.take (k := m) (by omega))
        have HD := hide (hx.drop (k := m) (by omega))
        have IH : Hid (∀ w1, ListsAt w1.heap.size w1 (some ⟨b, off, none⟩) m (ls.take m) → _) := fun w1 h => ih m i (some ⟨b, off, none⟩) m (ls.take m) w1 (by omega) p2 hi2 (by omega) h (Nat.le_refl _)
        have RO : Hid (∀ w1, ListsAt w1.heap.size w1 (some ⟨b, off + m, none⟩) (n - m) (ls.drop m) → _) := fun w1 h => rootOf_any (n - m) (n - m) (some ⟨b, off + m, none⟩) (c - m) (ls.drop m) w1 (Nat.le_refl _) h (by omega) (by omega)
        have q1 : (i : Int) < (m : Int) := by omega
        have HB : Hid ((ls.take m).length ≤ 1000000) := by show _ ≤ _; rw [List.length_take]; omega
        clear ih hN h1 hi hm hs p1 p2 hi2 hmm hx hc hlen hb
        unfold StepsPost at IH ⊢
        obtain ⟨L, hL⟩ : ∃ L, stepsV (ls.take m) i = L := ⟨_, rfl⟩
        rw [hL] at HE HL
        have IH : Hid (∀ w1, ListsAt w1.heap.size w1 (some ⟨b, off, none⟩) m (ls.take m) → Calls Tryd.prog 64 #[.slice (some ⟨b, off, none⟩) m m, .int .i64 i] w1 (StepsPost L w1)) := by
          intro w1 h
          rw [← hL]
          exact IH.out w1 h
        obtain ⟨r, hr⟩ : ∃ r, rootV (ls.drop m) = r := ⟨_, rfl⟩
        rw [HE.out, hr]
        have RO : Hid (∀ w1, ListsAt w1.heap.size w1 (some ⟨b, off + m, none⟩) (n - m) (ls.drop m) → Calls Tryd.prog 55 #[.slice (some ⟨b, off + m, none⟩) (n - m) (c - m)] w1 fun e w' => e = .returned (.int .u64 (r : Nat)) ∧ Below w1.heap.size w1 w') := by
          intro w1 h
          rw [← hr]
          exact RO.out w1 h
        have hk := HL.out
        have hk2 := HB.out
        have hbb1 : L.length + 1 ≤ maxLen := by unfold maxLen; omega
        have hbb2 : (L.length + 1) * 16 ≤ 140737488355328 := by omega
        have HBB := hide hbb1
        have HBC := hide hbb2
        clear HE HL HB hL hr hk hk2 hbb1 hbb2
        go_enter Tryd.func64, Tryd.ntmps64
        go_wp2_with fail
        refine HH.out.mono ?_
        rintro e w1 ⟨rfl, k, rfl⟩
        have hb1 := ((Gr.refl w).drewN k).below
        obtain ⟨w1, hw1⟩ : ∃ w1, w.drewN k = w1 := ⟨_, rfl⟩
        rw [hw1] at hb1 ⊢
        have HB1 := hide hb1
        have C1 := hide (IH.out w1 (HT.out.now hb1 (Nat.le_refl _)))
        clear hb1 hw1 HH IH
        go_wp2_with fail
        refine C1.out.mono ?_
        rintro e w2 ⟨a, c2, rfl, ho, hb⟩
        have HB2 := hide (HB1.out.trans (hb.mono HB1.out.size))
        have HSZ := hide HB1.out.size
        have HO := hide ho
        have C2 := hide (RO.out w2 (HD.out.now HB2.out (Nat.le_refl _)))
        clear ho hb C1 RO
        go_wp2_with fail
        refine C2.out.mono ?_
        rintro e w3 ⟨rfl, hb3⟩
        have HB3 := hide (HB2.out.trans (hb3.mono HB2.out.size))
        have HO3 : Hid (w3.ownsRow w.heap.size 41 2 (.slice a L.length c2) L.length (cellsS L)) := own_keep HO.out hb3 HSZ.out
        have hb4 : w.heap.size ≤ (w3.alloc (.cells #[.int .u64 r, .bool false] 41)).heap.size := by have := HB3.out.size; simp; omega
        clear hb3 C2 HO
        go_wp2_with (at_builtin; refine wpList_append_own_at _ rfl (.tmp 21) (.tmp 25) _ rfl w.heap.size 41 i0 (.agg #[.int .u64 0, .bool false]) 2 16 Tryd.underlying33 hi0 hz0 hz1 hz2 rfl (by decide) _ _ _ rfl (HO3.out.alloc _) ⟨w3.heap.size, 0, none⟩ 1 1 [.int .u64 r, .bool false] rfl rfl (cell_two_new _ _ _ _) (by simp [Value.oneCell']) HBB.out HBC.out hb4 ?_; intro v1 w5 hown1 hgrow1 hnil1 hat1)
        obtain ⟨a2, c3, rfl⟩ := own_slice hown1
        go_ret
        refine ⟨a2, c3, by rw [List.length_append]; rfl, ?_, ?_⟩
        · rw [List.length_append, cellsS_snoc]
          exact hown1
        · have h1 := HB3.out.alloc HB3.out.size (.cells #[.int .u64 r, .bool false] 41)
          refine h1.trans ⟨hgrow1.os, hgrow1.tape, hgrow1.output, hgrow1.size, fun k hk => hgrow1.block k (Nat.lt_of_lt_of_le hk h1.size) fun e => ?_⟩
          have := (own_lt HO3.out k e.symm).1
          omega
      · have HE := hide (steps_hi (l := ls) (i := i) (by omega) (by rw [hlen]; exact hi2))
        have HL := hide (steps_len (ls.drop (halfN n)) (i - halfN n))
        rw [hlen] at HE
        obtain ⟨m, hmm⟩ : ∃ m, halfN n = m := ⟨_, rfl⟩
        rw [hmm] at p1 p2 HH HE hi2 HL
        have HT := hide (hx.take (k := m) (by omega))
        have HD := hide (hx.drop (k := m) (by omega))
        have IH : Hid (∀ w1, ListsAt w1.heap.size w1 (some ⟨b, off + m, none⟩) (n - m) (ls.drop m) → _) := fun w1 h => ih (n - m) (i - m) (some ⟨b, off + m, none⟩) (c - m) (ls.drop m) w1 (by omega) (by omega) (by omega) (by omega) h (by omega)
        have RO : Hid (∀ w1, ListsAt w1.heap.size w1 (some ⟨b, off, none⟩) m (ls.take m) → _) := fun w1 h => rootOf_any m m (some ⟨b, off, none⟩) m (ls.take m) w1 (Nat.le_refl _) h (Nat.le_refl _) (by omega)
        have q1 : ¬ (i : Int) < (m : Int) := by omega
        have s1 : wrap64 ((i : Int) - (m : Int)) = ((i - m : Nat) : Int) := by rw [IntWalk.wrap64_in _ (by omega)]; omega
        have HB : Hid ((ls.drop m).length ≤ 1000000) := by show _ ≤ _; rw [List.length_drop]; omega
        clear ih hN h1 hi hm hs p1 p2 hi2 hmm hx hc hlen hb
        unfold StepsPost at IH ⊢
        obtain ⟨i2, hi3⟩ : ∃ i2, i - m = i2 := ⟨_, rfl⟩
        rw [hi3] at IH s1 HE HL
        obtain ⟨L, hL⟩ : ∃ L, stepsV (ls.drop m) i2 = L := ⟨_, rfl⟩
        rw [hL] at HE HL
        have IH : Hid (∀ w1, ListsAt w1.heap.size w1 (some ⟨b, off + m, none⟩) (n - m) (ls.drop m) → Calls Tryd.prog 64 #[.slice (some ⟨b, off + m, none⟩) (n - m) (c - m), .int .i64 i2] w1 (StepsPost L w1)) := by
          intro w1 h
          rw [← hL]
          exact IH.out w1 h
        obtain ⟨r, hr⟩ : ∃ r, rootV (ls.take m) = r := ⟨_, rfl⟩
        rw [HE.out, hr]
        have RO : Hid (∀ w1, ListsAt w1.heap.size w1 (some ⟨b, off, none⟩) m (ls.take m) → Calls Tryd.prog 55 #[.slice (some ⟨b, off, none⟩) m m] w1 fun e w' => e = .returned (.int .u64 (r : Nat)) ∧ Below w1.heap.size w1 w') := by
          intro w1 h
          rw [← hr]
          exact RO.out w1 h
        have hk := HL.out
        have hk2 := HB.out
        have hbb1 : L.length + 1 ≤ maxLen := by unfold maxLen; omega
        have hbb2 : (L.length + 1) * 16 ≤ 140737488355328 := by omega
        have HBB := hide hbb1
        have HBC := hide hbb2
        clear HE HL HB hL hr hi3 hk hk2 hbb1 hbb2
        go_enter Tryd.func64, Tryd.ntmps64
        go_wp2_with fail
        refine HH.out.mono ?_
        rintro e w1 ⟨rfl, k, rfl⟩
        have hb1 := ((Gr.refl w).drewN k).below
        obtain ⟨w1, hw1⟩ : ∃ w1, w.drewN k = w1 := ⟨_, rfl⟩
        rw [hw1] at hb1 ⊢
        have HB1 := hide hb1
        have C1 := hide (IH.out w1 (HD.out.now hb1 (Nat.le_refl _)))
        clear hb1 hw1 HH IH
        go_wp2_with fail
        refine C1.out.mono ?_
        rintro e w2 ⟨a, c2, rfl, ho, hb⟩
        have HB2 := hide (HB1.out.trans (hb.mono HB1.out.size))
        have HSZ := hide HB1.out.size
        have HO := hide ho
        have C2 := hide (RO.out w2 (HT.out.now HB2.out (Nat.le_refl _)))
        clear ho hb C1 RO
        go_wp2_with fail
        refine C2.out.mono ?_
        rintro e w3 ⟨rfl, hb3⟩
        have HB3 := hide (HB2.out.trans (hb3.mono HB2.out.size))
        have HO3 : Hid (w3.ownsRow w.heap.size 41 2 (.slice a L.length c2) L.length (cellsS L)) := own_keep HO.out hb3 HSZ.out
        have hb4 : w.heap.size ≤ (w3.alloc (.cells #[.int .u64 r, .bool true] 41)).heap.size := by have := HB3.out.size; simp; omega
        clear hb3 C2 HO
        go_wp2_with (at_builtin; refine wpList_append_own_at _ rfl (.tmp 32) (.tmp 36) _ rfl w.heap.size 41 i0 (.agg #[.int .u64 0, .bool false]) 2 16 Tryd.underlying33 hi0 hz0 hz1 hz2 rfl (by decide) _ _ _ rfl (HO3.out.alloc _) ⟨w3.heap.size, 0, none⟩ 1 1 [.int .u64 r, .bool true] rfl rfl (cell_two_new _ _ _ _) (by simp [Value.oneCell']) HBB.out HBC.out hb4 ?_; intro v1 w5 hown1 hgrow1 hnil1 hat1)
        obtain ⟨a2, c3, rfl⟩ := own_slice hown1
        go_ret
        refine ⟨a2, c3, by rw [List.length_append]; rfl, ?_, ?_⟩
        · rw [List.length_append, cellsS_snoc]
          exact hown1
        · have h1 := HB3.out.alloc HB3.out.size (.cells #[.int .u64 r, .bool true] 41)
          refine h1.trans ⟨hgrow1.os, hgrow1.tape, hgrow1.output, hgrow1.size, fun k hk => hgrow1.block k (Nat.lt_of_lt_of_le hk h1.size) fun e => ?_⟩
          have := (own_lt HO3.out k e.symm).1
          omega
end Go.Proofs.YtbinmkigolkhcaaDoor
