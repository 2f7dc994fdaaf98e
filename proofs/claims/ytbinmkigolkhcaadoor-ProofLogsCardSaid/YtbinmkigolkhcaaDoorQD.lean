/- The specification's Add. -/
import Derived.Test.YtbinmkigolkhcaaDoorQC
set_option linter.unusedSimpArgs false
set_option linter.unusedVariables false
namespace Go.Proofs.YtbinmkigolkhcaaDoor
open Go.RowKit Go.Sort
attribute [local go_sem] Oper.semAt_some

def RAddP (C : Nat → Prop) (x : (Nat × Int) × List (List UInt8)) (w : World) (e : Ending) (w' : World) : Prop :=
  ∃ A q c, e = .returned (.tuple #[.agg #[.slice A q c], .int .i64 (x.1.1 : Nat), .int .i64 x.1.2]) ∧ Below w.heap.size w w' ∧ ListsC (fun k => C k ∨ (w.heap.size ≤ k ∧ k < w'.heap.size)) w' A q x.2 ∧ Adr A q c
theorem src_lists {C : Nat → Prop} {w : World} {A : Option Addr} {q c : Nat} {ls : List (List UInt8)} (h : ListsC C w A q ls) (hA : Adr A q c) :
    ∃ vs, vs.length = q ∧ Src w A q vs ∧ (∀ u ∈ vs, u.oneCell' = true) ∧ ∀ j, j < q → ∃ Ai ni ci, vs[j]? = some (.slice Ai ni ci) ∧ BytesC C w Ai ni (ls.getD j []) ∧ ni ≤ 1000000 := by
  rcases hA.2 with ⟨rfl, h3, h4⟩ | ⟨g, off, rfl⟩
  · subst h3
    exact ⟨[], rfl, .inl ⟨rfl, rfl, rfl⟩, fun u hu => by simp at hu, fun j hj => by omega⟩
  · obtain ⟨vs, hR, hvs⟩ := h.lists.row
    have hl := h.1
    refine ⟨vs, by rw [hR.1, hl], .inr ⟨_, rfl, fun j u hu => (hvs j u hu).1⟩, fun u hu => ?_, fun j hj => ?_⟩
    · obtain ⟨j, hj, rfl⟩ := List.getElem_of_mem hu
      exact (hvs j _ (List.getElem?_eq_getElem hj)).2
    · obtain ⟨b, off2, Ai, ni, ci, e, -, -, k1, k2, k3⟩ := h.at_ hj
      injection e with e
      injection e with e1 e2
      subst e1; subst e2
      obtain ⟨A2, n2, c2, e3, -, -⟩ := hR.2 j (by omega)
      have := (hvs j _ e3).1
      rw [add_none, k1] at this
      injection this with this
      rw [← this] at e3
      exact ⟨Ai, ni, ci, e3, k2, k3⟩
theorem cellsB_one (l : List UInt8) : ∀ u ∈ cellsB l, u.oneCell' = true := fun u hu => by
  unfold cellsB at hu
  obtain ⟨x, -, rfl⟩ := List.mem_map.1 hu
  rfl
/-- a box of one cell -/
def Box1 (W : World) (g : Nat) (x : Value) : Prop := W.heap[g]? = some (.cells #[x] 59 (0, 0))
theorem Box1.lt {W : World} {g : Nat} {x : Value} (h : Box1 W g x) : g < W.heap.size := (Array.getElem?_eq_some_iff.1 h).1
theorem Box1.below {W W' : World} {g : Nat} {x : Value} (h : Box1 W g x) (hb : Below W.heap.size W W') : Box1 W' g x := (hb.block g h.lt).trans h
theorem Box1.facts {W : World} {g : Nat} {x : Value} (h : Box1 W g x) : W.cell? ⟨g, 0, none⟩ = some x ∧ W.frozen? ⟨g, 0, none⟩ = false := ⟨by unfold World.cell?; rw [h]; rfl, by unfold World.frozen?; rw [h]; rfl⟩
theorem Box1.set {W : World} {g : Nat} {x : Value} (h : Box1 W g x) (u : Value) : Box1 (W.setCell ⟨g, 0, none⟩ u) g u := by
  have := heap_setCell_same W g 0 _ _ u h
  simpa [Box1] using this
theorem Box1.far {W : World} {g g2 : Nat} {x : Value} (h : Box1 W g x) (hne : g ≠ g2) (u : Value) : Box1 (W.setCell ⟨g2, 0, none⟩ u) g x := (Below.heap_setCell _ _ _ _ fun e => hne e).trans h
theorem Box1.same {W W' : World} {g : Nat} {x : Value} (h : Box1 W g x) (hs : W'.heap[g]? = W.heap[g]?) : Box1 W' g x := hs.trans h

set_option maxHeartbeats 4000000 in
set_option maxRecDepth 100000 in
theorem rAdd_any (C : Nat → Prop) (A : Option Addr) (q c : Nat) (ls : List (List UInt8)) (B : Option Addr) (n d : Nat) (l : List UInt8) (w : World) (hx : ListsC C w A q ls) (hA : Adr A q c) (hq : q ≤ 4096) (hy : BytesAt w.heap.size w B n l) (hB : B = none → n = 0) (hn : n ≤ 1000000) :
    Calls Tryd.prog 77 #[.agg #[.slice A q c], .slice B n d] w (RAddP C (addV ls l) w) := by
  have mixed := mixedOrders
  have hlen := hx.1
  have hll := hy.1
  obtain ⟨p, hp⟩ : ∃ p, w.heap.size = p := ⟨_, rfl⟩
  have hb1 : Below w.heap.size w (w.alloc (.cells #[.slice A q c] 59)) := (Below.refl _ w).alloc (Nat.le_refl _) _
  have hc1 : Box1 (w.alloc (.cells #[.slice A q c] 59)) p (.slice A q c) := by rw [← hp]; exact heap_alloc_new w _
  obtain ⟨W, hW⟩ : ∃ W, w.alloc (.cells #[.slice A q c] 59) = W := ⟨_, rfl⟩
  have hs1 : W.heap.size = p + 1 := by rw [← hW, ← hp]; simp
  rw [hW] at hb1 hc1
  have hb2 : Below W.heap.size W (W.alloc (.cells #[.slice none 0 0] 59)) := (Below.refl _ W).alloc (Nat.le_refl _) _
  have hc2 : Box1 (W.alloc (.cells #[.slice none 0 0] 59)) (p + 1) (.slice none 0 0) := by rw [← hs1]; exact heap_alloc_new W _
  have hc1' := hc1.below hb2
  have hbt := hb1.trans (hb2.mono hb1.size)
  obtain ⟨W2, hW2⟩ : ∃ W2, W.alloc (.cells #[.slice none 0 0] 59) = W2 := ⟨_, rfl⟩
  have hs2 : W2.heap.size = p + 2 := by rw [← hW2]; simp [hs1]
  rw [hW2] at hb2 hc2 hc1' hbt
  have HBT := hide hbt
  have HS2 := hide hs2
  have HC1 := hide hc1'
  have HC2 := hide hc2
  have HP := hide hp
  have finE : ∀ (i : Nat) (E : Int) (v : Value), v = .tuple #[.agg #[.slice A q c], .int .i64 (i : Nat), .int .i64 E] → RAddP C ((i, E), ls) w (.returned v) (W2.setCell ⟨p + 1, 0, none⟩ (.slice A q c)) := by
    rintro i E v rfl
    have hb3 : Below w.heap.size w (W2.setCell ⟨p + 1, 0, none⟩ (.slice A q c)) := hbt.setCell (p := ⟨p + 1, 0, none⟩) (by show w.heap.size ≤ p + 1; omega) _
    exact ⟨A, q, c, rfl, hb3, (hx.now hb3).wider fun k hk => .inl hk, hA⟩
  have HFE := hide finE
  unfold addV
  rcases Nat.lt_or_ge 256 n with h1 | h1
  · rw [if_pos (by omega)]
    have g1 : (256 : Int) < (n : Int) := by omega
    obtain ⟨u0, u1⟩ := hc1'.facts
    obtain ⟨u2, u3⟩ := hc2.facts
    have hF := HFE.out 0 3
    have HF3 := hide hF
    clear hlen hll hx hA hq hy hB hn hb1 hc1 hb2 hc2 hbt hc1' hs2 finE HFE hF h1
    go_enter Tryd.func77, Tryd.ntmps77
    go_upto_region 1 with (fail)
    clear hW hs1 hW2 hp
    go_wp2_with fail
    refine bodyPost_ret (v := .tuple #[.agg #[.slice A q c], .int .i64 0, .int .i64 3]) (by simp [results, Tryd.results77, go_sem, u2]) rfl ?_
    exact HF3.out _ rfl
  · rw [if_neg (by omega)]
    by_cases h2 : ls.length = 4096
    · rw [if_pos h2]
      have g1 : ¬ (256 : Int) < (n : Int) := by omega
      have g2 : (4096 : Int) ≤ (q : Int) := by omega
      obtain ⟨u0, u1⟩ := hc1'.facts
      obtain ⟨u2, u3⟩ := hc2.facts
      have hF := HFE.out 0 8
      have HF3 := hide hF
      clear hlen hll hx hA hq hy hB hn hb1 hc1 hb2 hc2 hbt hc1' hs2 finE HFE hF h1 h2
      go_enter Tryd.func77, Tryd.ntmps77
      go_upto_region 1 with (fail)
      clear hW hs1 hW2 hp
      go_wp2_with fail
      refine bodyPost_ret (v := .tuple #[.agg #[.slice A q c], .int .i64 0, .int .i64 8]) (by simp [results, Tryd.results77, go_sem, u2]) rfl ?_
      exact HF3.out _ rfl
    · rw [if_neg h2]
      have g1 : ¬ (256 : Int) < (n : Int) := by omega
      have g2 : ¬ (4096 : Int) ≤ (q : Int) := by omega
      obtain ⟨u0, u1⟩ := hc1'.facts
      obtain ⟨vs, hvl, hsrc, hone, hvs⟩ := src_lists hx hA
      have hsrc2 : Src W2 A q vs := by
        rcases hsrc with h | ⟨ad, e, hc⟩
        · exact .inl h
        · refine .inr ⟨ad, e, fun j u hu => ?_⟩
          have hb := World.block_lt_of_cell? _ _ (hc j u hu)
          exact (hbt.cell hb).trans (hc j u hu)
      have HSY := hide (src_bytes hy)
      have HSY2 : Hid (∀ w', Below w.heap.size w w' → Src w' B n (cellsB l)) := fun w' hb => src_bytes (hy.now hb (Nat.le_refl _))
      obtain ⟨i0, hi0, hz0, hz1, hz2⟩ := info_parts info23
      obtain ⟨j0, hj0, jz0, jz1, jz2⟩ := info_parts info5
      have HVS := hide hvs
      have HVL := hide hvl
      have HX := hide hx
      have HN := hide (And.intro hq (And.intro h1 (And.intro hlen (And.intro hll h2))))
      have hvl1 : vs.length = q * 1 := by omega
      have hcl1 : (cellsB l).length = n * 1 := by unfold cellsB; rw [List.length_map]; omega
      have hbb1 : 0 + q ≤ maxLen := by unfold maxLen; omega
      have hbb2 : (0 + q) * 24 ≤ 140737488355328 := by omega
      have hbb3 : 0 + n ≤ maxLen := by unfold maxLen; omega
      have hbb4 : (0 + n) * 1 ≤ 140737488355328 := by omega
      have hbb5 : q + 1 ≤ maxLen := by unfold maxLen; omega
      have hbb6 : (q + 1) * 24 ≤ 140737488355328 := by omega
      have hb4 : p + 2 ≤ W2.heap.size := by omega
      clear hlen hll hx hA hq hy hB hn hb1 hc1 hb2 hc2 hbt hc1' hs2 finE HFE h1 h2 hsrc hvs
      go_enter Tryd.func77, Tryd.ntmps77
      go_upto_region 1 with (fail)
      clear hW hs1 hW2 hp
      go_wp2_with (at_builtin; refine wpList_append_src rfl (.tmp 18) (.tmp 20) _ rfl (p + 2) 23 i0 (.slice none 0 0) 1 24 Tryd.underlying22 hi0 hz0 hz1 hz2 rfl (by decide) _ _ _ rfl (World.ownsRow_nil _ _ _ _) A q c vs rfl hvl1 hsrc2 hone hbb1 hbb2 hb4 ?_; intro v1 w5 hown1 hgrow1 hat1; refine Hid.out ?_)
      refine Lib.hid ?_
      rw [List.nil_append, Nat.zero_add] at hown1
      obtain ⟨a1, c1, rfl⟩ := own_slice hown1
      have hB5 : Below (p + 2) W2 w5 := Below.of_grown hgrow1 hb4
      have HO5 := hide hown1
      have HB5 := hide hB5
      have hsrc5 := HSY2.out w5 (HBT.out.trans (hB5.mono (by rw [HP.out]; omega)))
      have hb5 : p + 2 ≤ w5.heap.size := Nat.le_trans hb4 hB5.size
      clear hown1 hgrow1 hat1 hB5 hsrc2 hone hvl1 hbb1 hbb2 u0 u1 g1 g2 hb4
      go_upto_region 8 with (fail)
      go_wp2_with (at_builtin; refine wpList_append_src rfl (.tmp 22) (.tmp 23) _ rfl (p + 2) 5 j0 (.int .u8 0) 1 1 Tryd.underlying23 hj0 jz0 jz1 jz2 rfl (by decide) _ _ _ rfl (World.ownsRow_nil _ _ _ _) B n d (cellsB l) rfl hcl1 hsrc5 (cellsB_one l) hbb3 hbb4 hb5 ?_; intro v2 w6 hown2 hgrow2 hat2; refine Hid.out ?_)
      refine Lib.hid ?_
      rw [List.nil_append, Nat.zero_add] at hown2
      obtain ⟨a2, c2, rfl⟩ := own_slice hown2
      have hB6 : Below w5.heap.size w5 w6 := Below.of_grown hgrow2 (Nat.le_refl _)
      have HO6 := hide (own_keep HO5.out hB6 (Nat.le_refl _))
      have HY6 := hide hown2
      have HB6 := hide (HB5.out.trans (hB6.mono hb5))
      have hb6 : p + 2 ≤ (w6.alloc (.cells #[.slice a2 n c2] 23)).heap.size := by have := hB6.size; simp; omega
      clear hown2 hgrow2 hat2 hB6 hsrc5 hcl1 hbb3 hbb4 HO5 hb5
      go_upto_region 9 with (fail)
      obtain ⟨u0, u1⟩ := (HC1.out.same (HB6.out.block p (by omega))).facts
      go_wp2_with (at_builtin; refine wpList_append_src rfl (.tmp 25) (.tmp 27) _ rfl (p + 2) 23 i0 (.slice none 0 0) 1 24 Tryd.underlying22 hi0 hz0 hz1 hz2 rfl (by decide) _ _ _ rfl (HO6.out.alloc _) (some ⟨w6.heap.size, 0, none⟩) 1 1 [.slice a2 n c2] rfl rfl (.inr ⟨_, rfl, cell_one_at _ _ rfl⟩) (by simp [Value.oneCell']) hbb5 hbb6 hb6 ?_; intro v3 w7 hown3 hgrow3 hat3; refine Hid.out ?_)
      refine Lib.hid ?_
      obtain ⟨a3, c3, rfl⟩ := own_slice hown3
      have hBa : Below w6.heap.size w6 (w6.alloc (.cells #[.slice a2 n c2] 23)) := (Below.refl _ w6).alloc (Nat.le_refl _) _
      have hs6 : p + 2 ≤ w6.heap.size := by have := HB6.out.size; have := HS2.out; omega
      have hB7 : Below (p + 2) w6 w7 := (hBa.mono hs6).trans (below_own (HO6.out.alloc _) hgrow3 (Nat.le_refl _) hb6)
      have HB7 := hide (HB6.out.trans hB7)
      have HR7 := hide hown3
      have HY7 : Hid (w7.ownsRow (p + 2) 5 1 (.slice a2 n c2) n (cellsB l)) := by
        have h1 := own_keep HY6.out hBa (Nat.le_refl _)
        refine own_same h1 fun k hk => ?_
        obtain ⟨cur, hc⟩ := own_block h1 hk
        rw [hc]
        exact grown_keeps (HO6.out.alloc _) hgrow3 k cur 5 hc (by decide)
      have HZ1 := hide (HC1.out.same (HB7.out.block p (by omega)))
      have HZ2 := hide (HC2.out.same (HB7.out.block (p + 1) (by omega)))
      obtain ⟨u0, u1⟩ := HZ1.out.facts
      clear hown3 hgrow3 hat3 hBa hs6 hB7 hb6 HO6 HY6 HB6 hbb5 hbb6 hi0 hz0 hz1 hz2 hj0 jz0 jz1 jz2
      go_upto_region 10 with (fail)
      have hW8 := HZ1.out.set (.slice a3 (q + 1) c3)
      have hW9 := HZ2.out.far (by omega : p + 1 ≠ p) (.slice a3 (q + 1) c3)
      have hB8 : Below p W2 (w7.setCell ⟨p, 0, none⟩ (.slice a3 (q + 1) c3)) := (HB7.out.mono (show p ≤ p + 2 by omega)).setCell (p := ⟨p, 0, none⟩) (Nat.le_refl _) _
      have hR8 : (w7.setCell ⟨p, 0, none⟩ (.slice a3 (q + 1) c3)).ownsRow (p + 2) 23 1 (.slice a3 (q + 1) c3) (q + 1) (vs ++ [.slice a2 n c2]) :=
        own_same HR7.out fun k hk => Below.heap_setCell _ _ _ _ fun e => by have := (own_lt HR7.out k hk).1; have e : k = p := e; omega
      have hY8 : (w7.setCell ⟨p, 0, none⟩ (.slice a3 (q + 1) c3)).ownsRow (p + 2) 5 1 (.slice a2 n c2) n (cellsB l) :=
        own_same HY7.out fun k hk => Below.heap_setCell _ _ _ _ fun e => by have := (own_lt HY7.out k hk).1; have e : k = p := e; omega
      obtain ⟨X, hX⟩ : ∃ X, w7.setCell ⟨p, 0, none⟩ (.slice a3 (q + 1) c3) = X := ⟨_, rfl⟩
      rw [hX] at hW8 hW9 hB8 hR8 hY8 ⊢
      have HFIN : Hid (∀ Y, Below (p + 1) X Y → (∀ k, k ≠ p + 1 → k < X.heap.size → Y.heap[k]? = X.heap[k]?) → RAddP C ((ls.length, 0), ls ++ [l]) w (.returned (.tuple #[.agg #[.slice a3 (q + 1) c3], .int .i64 (ls.length : Nat), .int .i64 0])) Y) := by
        intro Y hY hsame
        have hP := HP.out
        have hS2 := HS2.out
        have hbl : Below w.heap.size w Y := HBT.out.trans ((hB8.trans (hY.mono (by omega))).mono (by omega))
        have hlR := own_lt hR8
        have hlY := own_lt hY8
        have hRY := own_same hR8 fun k hk => hsame k (by have := (hlR k hk).1; omega) (hlR k hk).2
        have hYY := own_same hY8 fun k hk => hsame k (by have := (hlY k hk).1; omega) (hlY k hk).2
        have hlR2 := own_lt hRY
        have hlY2 := own_lt hYY
        obtain ⟨hq, hn, hlen, hll, h2⟩ := HN.out
        refine ⟨a3, q + 1, c3, rfl, hbl, ⟨by rw [List.length_append, hlen]; rfl, .inr ?_⟩, (own_addr hRY).1, ?_⟩
        · rcases hRY.2 with ⟨_, h0⟩ | ⟨g, cap, cur, hv, hb, hg, _⟩
          · omega
          · injection hv with e1 e2 e3
            subst e1
            have hgl := (Array.getElem?_eq_some_iff.1 hg).1
            refine ⟨g, 0, rfl, .inr ⟨by omega, hgl⟩, hgl, fun i hi => ?_⟩
            have hcell : ∀ v, (vs ++ [Value.slice a2 n c2])[i]? = some v → Y.cell? ⟨g, 0 + i, none⟩ = some v := fun v hv => by
              have := hRY.cells (g := g) rfl i v hv
              rw [add_none] at this
              exact this
            rcases Nat.lt_or_ge i q with hiq | hiq
            · obtain ⟨Ai, ni, ci, k1, k2, k3⟩ := HVS.out i hiq
              refine ⟨Ai, ni, ci, hcell _ (by rw [List.getElem?_append_left (by have := HVL.out; omega)]; exact k1), ?_, k3⟩
              have e : (ls ++ [l]).getD i [] = ls.getD i [] := by
                rw [List.getD_eq_getElem?_getD, List.getElem?_append_left (by omega), ← List.getD_eq_getElem?_getD]
              rw [e]
              exact (k2.mods (Mods.of_below (fun _ => False) hbl) (fun _ _ h => h)).wider fun k hk => .inl hk
            · obtain rfl : i = q := by omega
              refine ⟨a2, n, c2, hcell _ (by rw [List.getElem?_append_right (by have := HVL.out; omega), HVL.out, Nat.sub_self]; rfl), ?_, by omega⟩
              have e : (ls ++ [l]).getD i [] = l := by
                rw [List.getD_eq_getElem?_getD, List.getElem?_append_right (by omega), hlen, Nat.sub_self]
                rfl
              rw [e]
              refine ⟨bytes_of_own hYY, fun h0 a ha => .inr ?_⟩
              subst ha
              have := hlY2 a.block rfl
              omega
        · rcases hRY.2 with ⟨_, h0⟩ | ⟨g, cap, cur, hv, _⟩
          · omega
          · injection hv with e1 e2 e3
            exact .inr ⟨g, 0, e1⟩
      obtain ⟨u0, u1⟩ := hW8.facts
      obtain ⟨u2, u3⟩ := hW9.facts
      clear hW8 hW9 hB8 hR8 hY8 hX HZ1 HZ2 HR7 HY7 HB7
      have hq4 : (q : Int) ≤ 4096 := by have := HN.out.1; omega
      go_region
      all_goals go_wp2_with fail
      all_goals refine bodyPost_ret (v := .tuple #[.agg #[.slice a3 (q + 1) c3], .int .i64 q, .int .i64 0]) (by simp [results, Tryd.results77, go_sem, u2]) rfl ?_
      all_goals
        have := HFIN.out (X.setCell ⟨p + 1, 0, none⟩ (.slice a3 (q + 1) c3)).drew (((Below.refl _ X).setCell (p := ⟨p + 1, 0, none⟩) (Nat.le_refl _) _).trans (((Gr.refl _).drew).below.mono (by have := (World.block_lt_of_cell? _ _ u2); simp [World.setCell]; simp at this; omega))) (fun k hk _ => Below.heap_setCell _ _ _ _ fun e => hk e)
        rw [HN.out.2.2.1] at this
        rw [HN.out.2.2.1]
        exact this
end Go.Proofs.YtbinmkigolkhcaaDoor
