/- SortedFunc at quotes. -/
import Derived.Test.YtpbenjpponbjjaaGN
import Derived.Test.YtpbenjpponbjjaaSL
import Derived.Shelf.SlSortCmp.WholeK
namespace Go.Proofs.Ytpbenjpponbjjaa
open Go.RowKit Go.Lib Go.Sort Go.Shelf
/-- a quote whose price is one -/
abbrev Qb := { q : Qt // 0 ≤ q.2.1 ∧ q.2.1 ≤ 1073741824 }
instance qbInh : Inhabited Qb := ⟨⟨((0, 0, 0), 0, 0), by decide⟩⟩
def encB (x : Qb) : List Value := qC x.1
def cfB (x y : Qb) : Int := y.1.2.1 - x.1.2.1
theorem ltB (x y : Qb) : ltOf cfB x y = decide (y.1.2.1 < x.1.2.1) := by
  unfold ltOf cfB
  rw [decide_eq_decide]
  omega
theorem swoB : SWO (ltOf cfB) where
  irrefl x := by rw [ltB]; simp
  trans x y z h1 h2 := by rw [ltB] at *; simp at *; omega
  ntrans x y z h1 h2 := by rw [ltB] at *; simp at *; omega
theorem dearer_any (x y : Qb) (W : World) : Calls Try.prog 92 #[.agg (encB x).toArray, .agg (encB y).toArray] W fun e w' => e = .returned (.int .i64 (cfB x y)) ∧ Gr W w' := by
  obtain ⟨⟨⟨a0, a1, a2⟩, ap, aw⟩, hx⟩ := x
  obtain ⟨⟨⟨b0, b1, b2⟩, bp, bw⟩, hy⟩ := y
  dsimp only at hx hy
  show Calls Try.prog 92 #[.agg #[.int .i64 a0, .int .i64 a1, .int .i64 a2, .int .i64 ap, .int .i64 aw], .agg #[.int .i64 b0, .int .i64 b1, .int .i64 b2, .int .i64 bp, .int .i64 bw]] W fun e w' => e = .returned (.int .i64 (bp - ap)) ∧ Gr W w'
  obtain ⟨p, hp⟩ : ∃ p, W.heap.size = p := ⟨_, rfl⟩
  obtain ⟨W1, hW1⟩ : ∃ W1, W.alloc (.cells #[.int .i64 a0, .int .i64 a1, .int .i64 a2, .int .i64 ap, .int .i64 aw] 60) = W1 := ⟨_, rfl⟩
  obtain ⟨q, hq⟩ : ∃ q, W1.heap.size = q := ⟨_, rfl⟩
  obtain ⟨W2, hW2⟩ : ∃ W2, W1.alloc (.cells #[.int .i64 b0, .int .i64 b1, .int .i64 b2, .int .i64 bp, .int .i64 bw] 60) = W2 := ⟨_, rfl⟩
  have g1 : Gr W W1 := by rw [← hW1]; exact (Gr.refl W).alloc _
  have g2 : Gr W1 W2 := by rw [← hW2]; exact (Gr.refl W1).alloc _
  have h1 : W1.heap[p]? = some (.cells #[.int .i64 a0, .int .i64 a1, .int .i64 a2, .int .i64 ap, .int .i64 aw] 60 (0, 0)) := by rw [← hW1, ← hp]; exact heap_alloc_new _ _
  have h2 : W2.heap[q]? = some (.cells #[.int .i64 b0, .int .i64 b1, .int .i64 b2, .int .i64 bp, .int .i64 bw] 60 (0, 0)) := by rw [← hW2, ← hq]; exact heap_alloc_new _ _
  have h12 := (g2.block (lt_of_heap h1)).trans h1
  obtain ⟨x0, x1, x2, x3, x4⟩ := box5 h12
  obtain ⟨y0, y1, y2, y3, y4⟩ := box5 h2
  have hw : wrap64 (bp - ap) = bp - ap := IntWalk.wrap64_in _ ⟨by omega, by omega⟩
  have HG := hide (g1.trans g2)
  clear hx hy g1 g2 h1 h2 h12
  obtain ⟨d, hd⟩ : ∃ d, bp - ap = d := ⟨_, rfl⟩
  rw [hd] at hw ⊢
  go_enter Try.func92, Try.ntmps92
  go_wp2_with fail
  go_ret
  exact ⟨ret_int hw, HG.out⟩
def toB (q : Qt) : Qb := if h : 0 ≤ q.2.1 ∧ q.2.1 ≤ 1073741824 then ⟨q, h⟩ else default
theorem toB_val {q : Qt} (h : 0 ≤ q.2.1 ∧ q.2.1 ≤ 1073741824) : (toB q).1 = q := by unfold toB; rw [dif_pos h]
theorem cellsQ_at : ∀ (l : List Qt) (i : Nat) (q : Qt), l[i]? = some q → ∀ t, t < 5 → (cellsQ l)[i * 5 + t]? = (qC q)[t]?
  | [], i, q, h, _, _ => by simp at h
  | o :: l, 0, q, h, t, ht => by
    simp at h
    subst h
    show (qC o ++ cellsQ l)[0 * 5 + t]? = _
    rw [Nat.zero_mul, Nat.zero_add, List.getElem?_append_left (by exact ht)]
  | o :: l, i + 1, q, h, t, ht => by
    show (qC o ++ cellsQ l)[(i + 1) * 5 + t]? = _
    rw [List.getElem?_append_right (by show 5 ≤ _; omega), show (i + 1) * 5 + t - (qC o).length = i * 5 + t by show (i + 1) * 5 + t - 5 = _; omega]
    exact cellsQ_at l i q (by simpa using h) t ht
theorem sortWorldK_grownBy {α : Type} [Inhabited α] (enc : α → List Value) (k : Nat) (w : World) (blk off m : Nat) (dk : Array α) (os : Array Obj) : w.grownBy (sortWorldK enc k w blk off m dk os) (some blk) := by
  refine ⟨rfl, rfl, rfl, size_sortWorldK_c enc k w blk off m dk os, fun j hj hne => ?_⟩
  unfold sortWorldK
  rw [heap_grow_old _ _ (by rw [size_putRowK]; exact hj)]
  have hne : blk ≠ j := fun e => hne (by rw [e])
  show ((Sort.ahead w m).heap.modify blk _)[j]? = _
  rw [Array.getElem?_modify, if_neg hne]
  rfl
theorem qA_map (D : Array Qb) (i : Nat) (hi : i < D.size) : qA (D.toList.map (·.1)) i = D[i]!.1 := by
  unfold qA
  rw [List.getD_eq_getElem?_getD, List.getElem?_map, List.getElem?_eq_getElem (by simpa using hi)]
  simp [hi]
theorem qt_of_holds {w : World} {g n : Nat} {D : Array Qb} (hn : D.size = n) (hg : g < w.heap.size) (h : HoldsK encB 5 w g 0 D) : QtAt w.heap.size w (some ⟨g, 0, none⟩) n (D.toList.map (·.1)) := by
  refine ⟨by simp [hn], ?_⟩
  rcases Nat.eq_zero_or_pos n with h0 | h0
  · exact .inl h0
  · refine .inr ⟨g, 0, rfl, hg, fun i hi => ?_⟩
    have key : ∀ r, r < 5 → w.cell? ⟨g, 0 + (i * 5 + r), none⟩ = some ((encB D[i]!)[r]!) := fun r hr => by
      have hs : i * 5 + r < (flatK encB 5 D).size := by rw [size_flatK]; omega
      have := (h (i * 5 + r) hs).1
      rw [get_flatK _ _ _ _ (by simpa using hs)] at this
      rw [this, show (i * 5 + r) / 5 = i by omega, show (i * 5 + r) % 5 = r by omega]
      rfl
    rw [qA_map D i (by omega)]
    have k0 := key 0 (by decide)
    have k1 := key 1 (by decide)
    have k2 := key 2 (by decide)
    have k3 := key 3 (by decide)
    have k4 := key 4 (by decide)
    rw [← Nat.add_assoc] at k0 k1 k2 k3 k4
    exact ⟨k0, k1, k2, k3, k4⟩
theorem holds_of_row {w : World} {p g n c : Nat} {l : List Qt} (h : w.ownsRow p 60 5 (.slice (some ⟨g, 0, none⟩) n c) n (cellsQ l)) (hl : ∀ o ∈ l, 0 ≤ o.2.1 ∧ o.2.1 ≤ 1073741824) : HoldsK encB 5 w g 0 (l.map toB).toArray := by
  intro j hj
  rw [size_flatK] at hj
  have hj3 : j < l.length * 5 := by simpa using hj
  have hq : j / 5 < l.length := by omega
  have hc := h.cells (g := g) rfl j
  rcases h.2 with ⟨h0, _⟩ | ⟨g', cap, cur, e, _, hh, _⟩
  · cases h0
  · injection e with e1 _ _
    injection e1 with e1
    injection e1 with e1
    subst e1
    refine ⟨?_, by simp [World.frozen?, hh]⟩
    rw [get_flatK _ _ _ _ (by simpa using hj3)]
    have ho : l[j / 5]? = some (qA l (j / 5)) := by unfold qA; rw [List.getD_eq_getElem?_getD, List.getElem?_eq_getElem hq]; rfl
    have hd : ((l.map toB).toArray)[j / 5]! = toB (qA l (j / 5)) := by
      rw [getElem!_pos _ _ (by simpa using hq)]
      simp [qA, List.getD_eq_getElem?_getD, List.getElem?_eq_getElem hq]
    have hm : qA l (j / 5) ∈ l := List.mem_of_getElem? ho
    rw [hd]
    unfold encB
    rw [toB_val (hl _ hm)]
    have e0 := cellsQ_at l (j / 5) _ ho (j % 5) (by omega)
    rw [show j / 5 * 5 + j % 5 = j by omega] at e0
    rw [Nat.zero_add, ← Nat.zero_add j, ← addr_add, Nat.zero_add]
    refine hc _ ?_
    rw [e0]
    have hr : j % 5 = 0 ∨ j % 5 = 1 ∨ j % 5 = 2 ∨ j % 5 = 3 ∨ j % 5 = 4 := by omega
    rcases hr with hr | hr | hr | hr | hr <;> rw [hr] <;> rfl
theorem ent92 : ∀ args w, (callFunc 92 args).run Try.prog w = .ok (.enter 92 args) w := enters_of Try.func92 (by kernel_rfl) rfl
set_option maxHeartbeats 1000000 in
theorem sortQ_any (p g n c : Nat) (l : List Qt) (hl : ∀ o ∈ l, 0 ≤ o.2.1 ∧ o.2.1 ≤ 1073741824) (w : World) (h : w.ownsRow p 60 5 (.slice (some ⟨g, 0, none⟩) n c) n (cellsQ l)) (hn : n ≤ 1000) :
    Calls Try.prog 109 #[.slice (some ⟨g, 0, none⟩) n c, .func (.func 92) #[] #[]] w fun e w' => e = .returned (.tuple #[]) ∧ ∃ l', l'.Perm l ∧ (∀ i j, i < j → j < n → (qA l' j).2.1 ≤ (qA l' i).2.1) ∧ QtAt w'.heap.size w' (some ⟨g, 0, none⟩) n l' ∧ w.grownBy w' (some g) := by
  have hlen : l.length = n := by
    have := h.1
    rw [cellsQ_len] at this
    omega
  have hg := (h.lt g rfl).2
  have hs : ((l.map toB).toArray).size = n := by simp [hlen]
  have hH := holds_of_row h hl
  have hcmp : CmpLays Try.prog 92 #[] encB 5 cfB g 0 (l.map toB).toArray.size w := fun m os dk hd x y => by
    refine (dearer_any x y _).mono ?_
    rintro e w' ⟨rfl, q, os', rfl⟩
    exact ⟨rfl, q, os', rfl⟩
  have hI := AnyQ.slices_SortFunc Try.laysSort 5 Try.isAgg60 Try.sizeOf60 encB (fun _ => rfl) (fun x => by
    intro v hv
    simp [encB, qC] at hv
    rcases hv with rfl | rfl | rfl | rfl | rfl <;> rfl) cfB swoB 92 #[] g 0 c (l.map toB).toArray w ent92 hcmp hH hg (by omega)
  rw [hs] at hI
  refine Calls.mono hI ?_
  rintro e w' ⟨rfl, D, m, os, hp, hsd, rfl⟩
  have hz : D.size = n := hp.1.trans hs
  refine ⟨rfl, D.toList.map (·.1), ?_, fun i j hij hj => ?_, ?_, sortWorldK_grownBy ..⟩
  · have h1 := hp.2.2
    have h2 : D.extract 0 n = D := by rw [← hz]; simp
    have h3 : (l.map toB).toArray.extract 0 n = (l.map toB).toArray := by rw [← hs, Array.extract_size]
    rw [h2, h3] at h1
    have h4 := h1.map (·.1)
    refine h4.trans ?_
    have h5 : ((l.map toB).toArray.toList).map (·.1) = l := by
      rw [List.map_map]
      conv => rhs; rw [← List.map_id l]
      apply List.map_congr_left
      intro q hq
      exact toB_val (hl q hq)
    rw [h5]
  · have h1 := hsd i j (Nat.zero_le _) hij hj
    rw [ltB] at h1
    have h2 := of_decide_eq_false h1
    rw [qA_map D i (by omega), qA_map D j (by omega)]
    omega
  · exact qt_of_holds hz (Nat.lt_of_lt_of_le hg (size_sortWorldK_c encB 5 w g 0 m _ os)) (holdsK_sortWorldK_c encB 5 w g 0 (l.map toB).toArray _ m os hH hg (by omega))
end Go.Proofs.Ytpbenjpponbjjaa
