/- AppendSeq, Collect at quotes. -/
import Derived.Test.YtpbenjpponbjjaaGM
import Derived.Maps.OwnIn
set_option linter.unusedSimpArgs false
set_option linter.unusedVariables false
namespace Go.Proofs.Ytpbenjpponbjjaa
open Go.RowKit Go.Sort Go.Shelf Go.BigFrame
attribute [local go_sem] Oper.semAt_some
theorem info60 : ∃ i, Try.prog.info? 60 = some i ∧ i.zero = some (.agg #[.int .i64 0, .int .i64 0, .int .i64 0, .int .i64 0, .int .i64 0]) ∧ i.size = 5 ∧ i.bytes = 40 := info_parts (by kernel_rfl)
def cellsQ (l : List Qt) : List Value := l.flatMap qC
theorem cellsQ_len : ∀ l : List Qt, (cellsQ l).length = l.length * 5
  | [] => rfl
  | o :: l => by
    show (qC o ++ cellsQ l).length = _
    rw [List.length_append, cellsQ_len l, List.length_cons]
    show 5 + _ = _
    omega
theorem cellsQ_append (l m : List Qt) : cellsQ (l ++ m) = cellsQ l ++ cellsQ m := List.flatMap_append
theorem lt_of_heap {W : World} {k : Nat} {o : Obj} (h : W.heap[k]? = some o) : k < W.heap.size := (Array.getElem?_eq_some_iff.1 h).1
/-- a block of cells stays where only objects that are no cells turn -/
theorem cells_own {B : Nat} {W W' : World} {row : Option Nat} {k : Nat} {o : Obj} (h : W.heap[k]? = some o) (ho : o.isCells = true) (hg : W.grownBy W' row) (hr : ∀ r, row = some r → B ≤ r ∧ ∃ o : Obj, W.heap[r]? = some o ∧ o.isCells = false) : W'.heap[k]? = some o := by
  refine (hg.block k (lt_of_heap h) fun e => ?_).trans h
  obtain ⟨_, o', h1, h2⟩ := hr k e.symm
  rw [h] at h1
  injection h1 with h1
  subst h1
  rw [ho] at h2
  cases h2
theorem own_kept {B : Nat} {W W' : World} {row : Option Nat} {b e k n : Nat} {v : Value} {xs : List Value} (h : W.ownsRow b e k v n xs) (hg : W.grownBy W' row) (hr : ∀ r, row = some r → B ≤ r ∧ ∃ o : Obj, W.heap[r]? = some o ∧ o.isCells = false) : W'.ownsRow b e k v n xs := by
  refine ⟨h.1, h.2.imp id ?_⟩
  rintro ⟨g, cap, cur, h1, h2, h3, h4⟩
  exact ⟨g, cap, cur, h1, h2, cells_own h3 rfl hg hr, h4⟩
/-- .. and where a block turns that is not its own -/
theorem own_other {W W' : World} {row : Option Nat} {b e k n : Nat} {v : Value} {xs : List Value} (h : W.ownsRow b e k v n xs) (hg : W.grownBy W' row) (hr : ∀ r, row = some r → r < b) : W'.ownsRow b e k v n xs := by
  refine ⟨h.1, h.2.imp id ?_⟩
  rintro ⟨g, cap, cur, h1, h2, h3, h4⟩
  exact ⟨g, cap, cur, h1, h2, (hg.block g (lt_of_heap h3) (fun e => by have := hr g e.symm; omega)).trans h3, h4⟩
theorem own_cells {W : World} {b e k n : Nat} {v : Value} {xs : List Value} (h : W.ownsRow b e k v n xs) : ∀ (j : Nat) (o : Obj), v.ownBlock = some j → W.heap[j]? = some o → o.isCells = true := by
  intro j o hj ho
  rcases h.2 with ⟨rfl, _⟩ | ⟨g, cap, cur, rfl, _, h3, _⟩
  · cases hj
  · injection hj with hj
    subst hj
    rw [h3] at ho
    injection ho with ho
    subst ho
    rfl
structure SqI (p : Nat) (w2 : World) (l : List Qt) (pre : List Nat) (W : World) : Prop where
  st : ∃ v, W.heap[p]? = some (.cells #[v] 36 (0, 0)) ∧ W.ownsRow (p + 1) 60 5 v pre.length (cellsQ (pre.map (qA l)))
  below : Below p w2 W
  size : p + 1 ≤ W.heap.size
theorem SqI.own (p : Nat) (w2 : World) (l : List Qt) (B : Nat) (hB : p ≤ B) (h2 : p ≤ w2.heap.size) : OwnFrom B (SqI p w2 l) := fun s W W' row hs hg hr => by
  obtain ⟨v, h1, h3⟩ := hs.st
  exact ⟨⟨v, cells_own h1 rfl hg hr, own_kept h3 hg hr⟩, hs.below.grown hg (Nat.le_trans h2 hs.below.size) (fun k e => Nat.le_trans hB (hr k e).1), Nat.le_trans hs.size hg.size⟩
theorem boxSet {w : World} {p : Nat} {v u : Value} {ty : TypeId} (h : w.heap[p]? = some (.cells #[v] ty (0, 0))) :
    (w.setCell ⟨p, 0, none⟩ u).heap[p]? = some (.cells #[u] ty (0, 0)) ∧ w.grownBy (w.setCell ⟨p, 0, none⟩ u) (some p) := by
  rw [setCell_eq_setRow w p 0 _ _ _ u h]
  refine ⟨?_, ⟨rfl, rfl, rfl, by simp [World.setRow], fun k hk hne => setRow_other _ _ _ _ (fun e => hne (by rw [e]))⟩⟩
  rw [setRow_heap w p _ _ _ _ h]
  rfl
set_option maxRecDepth 100000 in
set_option maxHeartbeats 2000000 in
theorem AppendSeq_any (A : Option Addr) (n c Bs : Nat) (l : List Qt) (w : World) (hx : QtAt w.heap.size w A n l) (hn : n ≤ 1000) (hBs : w.cell? ⟨Bs, 0, none⟩ = some (.slice A n c)) (hlt : Bs < w.heap.size) :
    Calls Try.prog 118 #[.slice none 0 0, .func (.func 110) #[] #[.pointer (some ⟨Bs, 0, none⟩)]] w fun e w' => ∃ v, e = .returned v ∧ w'.ownsRow (w.heap.size + 1) 60 5 v n (cellsQ l) ∧ Below w.heap.size w w' := by
  have mixed := mixedOrders
  have HX := hide hx
  clear hx
  refine (callsIn_wide (n := 10)).1 ?_
  refine callsIn_of_wp_marks Try.func118 rfl trivial ?_ rfl
  simp only [Try.ntmps118, List.size_toArray, List.length_cons, List.length_nil, Nat.reduceAdd, Nat.reduceSub, Array.replicate_succ, Array.replicate_zero, List.push_toArray, List.append_toArray, List.nil_append, List.cons_append]
  gi_wp2
  obtain ⟨p, hp⟩ : ∃ p, w.heap.size = p := ⟨_, rfl⟩
  obtain ⟨w2, hw2⟩ : ∃ w2, w.alloc (.cells #[.slice none 0 0] 36) = w2 := ⟨_, rfl⟩
  have hs2 : w2.heap.size = p + 1 := by rw [← hw2, ← hp]; simp
  have hb2 : Below p w w2 := by rw [← hw2, ← hp]; exact (Below.refl _ _).alloc (Nat.le_refl _) _
  have h2 : w2.heap[p]? = some (.cells #[.slice none 0 0] 36 (0, 0)) := by rw [← hw2, ← hp]; exact heap_alloc_new _ _
  rw [hp] at HX hlt ⊢
  rw [hw2]
  refine wpIn_rangeFunc_ownH rfl (by decide) (gf := 110) (lb := #[.pointer (some ⟨Bs, 0, none⟩)]) rfl trivial (enters_of Try.func110 (by kernel_rfl) rfl)
    (encs := fun x : Nat => #[qV (qA l x)]) (Kp := KpG p p) (S := fun ys => ys = List.range n) (Sp := fun _ => True) (N := n) (w0 := w2)
    (fun l' J Jx W hW hJ _ hY h0 => values_in 9 (by decide) l' Bs p p A n c l (by omega) hlt (by omega) J Jx W hJ hY (by have := hW.size; omega) ((hW.cell (p := ⟨Bs, 0, none⟩) (by show Bs < _; omega)).trans ((hb2.cell (p := ⟨Bs, 0, none⟩) hlt).trans hBs))
      ⟨HX.out.len, HX.out.row.imp id fun ⟨b, off, e, h1, h2⟩ => ⟨b, off, e, h1, fun i hi => by
        have hc : ∀ o, W.cell? ⟨b, o, none⟩ = w.cell? ⟨b, o, none⟩ := fun o => (hW.cell (p := ⟨b, o, none⟩) (by show b < _; omega)).trans (hb2.cell (p := ⟨b, o, none⟩) h1)
        simp only [hc]
        exact h2 i hi⟩⟩
      (fun hn0 b off e => by
        rcases HX.out.row with h0 | ⟨b', off', e', h1, _⟩
        · omega
        · rw [e] at e'; injection e' with e'; injection e' with e1 e2; omega) h0)
    (fun h k => h.t k) (fun W l o o' hl ho _ _ => ⟨by simp, fun k hk hkg => World.putObj_heap_other (by omega)⟩) (Below.refl _ _) (fun _ => rfl)
    (SqI p w2 l) (fun _ _ _ => False) (SqI.own p w2 l _ (by omega) (by omega)) (fun _ => fun _ _ _ _ hs _ _ => hs)
    ⟨⟨_, h2, World.ownsRow_nil _ _ _ _⟩, Below.refl _ _, by omega⟩
    (fun x a' W => ∃ Bx, p + 1 ≤ Bx ∧ W.heap[Bx]? = some (.cells #[.int .i64 (qA l x).1.1, .int .i64 (qA l x).1.2.1, .int .i64 (qA l x).1.2.2, .int .i64 (qA l x).2.1, .int .i64 (qA l x).2.2] 60 (0, 0)) ∧
        a' = { tmps := #[.slice none 0 0, .func (.func 110) #[] #[.pointer (some ⟨Bs, 0, none⟩)], .pointer (some ⟨p, 0, none⟩), undef, .slice none 0 0, .pointer (some ⟨Bx, 0, none⟩), .func (.func 110) #[] #[.pointer (some ⟨Bs, 0, none⟩)], qV (qA l x), undef, undef, undef, undef, undef], defers := [] })
    (fun x a' s W W' row hs hg hr => by
      obtain ⟨Bx, h1, h2, h3⟩ := hs
      exact ⟨Bx, h1, cells_own h2 rfl hg hr, h3⟩)
    ?assign ?body ?done ?stop
  case assign =>
    rintro l' pre x W K hI hK
    gi_wp2
    exact hK _ _ ((KeepsOthers.alloc _ _).from _) ⟨by simp, fun k hk _ => Below.heap_alloc _ _ _ (by have := hI.size; omega)⟩ ((SqI.own p w2 l p (Nat.le_refl _) (by omega)).alloc _ hI) ⟨W.heap.size, hI.size, World.alloc_heap_new W _, rfl⟩
  case body =>
    rintro l' pre x a' W hl ⟨r, hr⟩ hI ⟨Bx, hBx, hbx, rfl⟩ hltn
    obtain ⟨i0, hi0, hz0, hz1, hz2⟩ := info60
    obtain ⟨v, hv, hown⟩ := hI.st
    obtain ⟨c0, c1, c2, c3, c4⟩ := box5 hbx
    obtain ⟨va, vc, rfl⟩ := own_slice hown
    have cp : W.cell? ⟨p, 0, none⟩ = some (.slice va pre.length vc) := by simp [World.cell?, hv]
    obtain ⟨o, ho⟩ : ∃ o, qA l x = o := ⟨_, rfl⟩
    have HE : Hid (cellsQ ((pre ++ [x]).map (qA l)) = cellsQ (pre.map (qA l)) ++ qC o) := by show _ = _; rw [List.map_append, cellsQ_append, ← ho]; simp [cellsQ]
    have HLN : Hid ((pre ++ [x]).length = pre.length + 1) := hide (by simp)
    rw [ho] at c0 c1 c2 c3 c4 ⊢
    obtain ⟨z, hz⟩ : ∃ z, W.heap.size = z := ⟨_, rfl⟩
    obtain ⟨W1, hW1⟩ : ∃ W1, W.alloc (.cells #[.int .i64 o.1.1, .int .i64 o.1.2.1, .int .i64 o.1.2.2, .int .i64 o.2.1, .int .i64 o.2.2] 60) = W1 := ⟨_, rfl⟩
    have hb1 : Below W.heap.size W W1 := by rw [← hW1]; exact (Below.refl _ _).alloc (Nat.le_refl _) _
    have h1 : W1.heap[z]? = some (.cells #[.int .i64 o.1.1, .int .i64 o.1.2.1, .int .i64 o.1.2.2, .int .i64 o.2.1, .int .i64 o.2.2] 60 (0, 0)) := by rw [← hW1, ← hz]; exact heap_alloc_new _ _
    have ho1 := own_grown hown hb1
    have hcz : ∀ j u, (qC o)[j]? = some u → W1.cell? ((⟨z, 0, none⟩ : Addr).add j) = some u := fun j u hu => by
      rw [addr_add, Nat.zero_add]
      simp only [World.cell?, h1]
      simpa [qC] using hu
    have hone : ∀ u ∈ qC o, u.oneCell' = true := by intro u hu; simp [qC] at hu; rcases hu with rfl | rfl | rfl | rfl | rfl <;> rfl
    have hm1 : pre.length + 1 ≤ maxLen := by unfold maxLen; omega
    have hm2 : (pre.length + 1) * 40 ≤ 140737488355328 := by omega
    have hB1 : p + 1 ≤ W1.heap.size := by have := hb1.size; have := hI.size; omega
    have hp1 : W1.heap[p]? = some (.cells #[.slice va pre.length vc] 36 (0, 0)) := (hb1.block p (lt_of_heap hv)).trans hv
    have HI := hide hI
    have HP1 := hide hp1
    have HB1 := hide hb1
    have HO1 := hide ho1
    clear hI hown hbx hv hb1 h1 hp1 ho hr
    gi_wp2_with (gi_at_builtin; refine wpListIn_append_own_at _ rfl (.tmp 8) (.tmp 10) _ rfl (p + 1) 60 i0 (.agg #[.int .i64 0, .int .i64 0, .int .i64 0, .int .i64 0, .int .i64 0]) 5 40 Try.underlying36 hi0 hz0 hz1 hz2 rfl (by decide) _ _ _ rfl ho1 ⟨z, 0, none⟩ 1 1 (qC o) rfl rfl hcz hone hm1 hm2 hB1 ?_; intro v1 w6 hown1 hgrow1 hnil1 hat1; obtain ⟨va1, vc1, rfl⟩ := own_slice hown1; have hp6 : w6.heap[p]? = some (.cells #[.slice va pre.length vc] 36 (0, 0)) := (hgrow1.block p (lt_of_heap HP1.out) (fun e => by have := (HO1.out.lt p e.symm).1; omega)).trans HP1.out; have cp6 : w6.cell? ⟨p, 0, none⟩ = some (.slice va pre.length vc) := (by simp [World.cell?, hp6]); have cf6 : w6.frozen? ⟨p, 0, none⟩ = false := (by simp [World.frozen?, hp6]))
    obtain ⟨k1, k2⟩ := boxSet (u := .slice va1 (pre.length + 1) vc1) hp6
    have hrow : ∀ r, (Value.slice va pre.length vc).ownBlock = some r → p ≤ r := fun r e => by have := (HO1.out.lt r e).1; omega
    have hpz : p ≤ W.heap.size := by have := HI.out.size; omega
    have hp1z : p ≤ W1.heap.size := by have := HB1.out.size; omega
    have hB6 : Below p W w6 := (HB1.out.mono hpz).grown hgrow1 hp1z hrow
    have hB7 : Below p W (w6.setCell ⟨p, 0, none⟩ (.slice va1 (pre.length + 1) vc1)) := hB6.grown k2 (by have := hB6.size; omega) (fun r e => by injection e with e; omega)
    have hKO : KeepsOthers W (w6.setCell ⟨p, 0, none⟩ (.slice va1 (pre.length + 1) vc1)) := by
      have h0 : KeepsOthers W W1 := by rw [← hW1]; exact KeepsOthers.alloc _ _
      exact (h0.trans (KeepsOthers.of_grownBy hgrow1 (own_cells HO1.out))).trans (KeepsOthers.setCell _ _ _)
    refine ⟨hKO.from _, ⟨hB7.size, fun k hk _ => hB7.block k hk⟩, ⟨⟨_, k1, ?_⟩, HI.out.below.trans hB7, by have h1 := hB7.size; have h2 := HI.out.size; omega⟩⟩
    rw [HE.out, HLN.out]
    exact own_other hown1 k2 (fun r e => by injection e with e; omega)
  case done =>
    rintro D ys W hD rfl hI hK
    obtain ⟨v, hv, hown⟩ := hI.st
    have cp : W.cell? ⟨p, 0, none⟩ = some v := by simp [World.cell?, hv]
    have HM : Hid ((List.range n).map (qA l) = l) := by
      show _ = _
      have hl := HX.out.len
      apply List.ext_getElem?
      intro i
      rw [List.getElem?_map]
      rcases Nat.lt_or_ge i n with q | q
      · rw [List.getElem?_range q, List.getElem?_eq_getElem (by omega)]
        unfold qA
        simp [List.getD_eq_getElem?_getD, List.getElem?_eq_getElem (show i < l.length by omega)]
      · rw [List.getElem?_eq_none (by simpa using q), List.getElem?_eq_none (by omega)]; rfl
    rw [HM.out, List.length_range] at hown
    gi_wp2
    refine ⟨by simp, .inl ⟨_, _, rfl, run_takeDeferred hK, ?_⟩⟩
    refine ⟨_, results_tmp rfl _ _ _, _, rfl, by rw [hp]; exact ownsRow_putObj hown _ hK rfl, ?_⟩
    rw [hp]
    exact (hb2.trans hI.below).trans (belowK_b (w := w2) (by omega) W D _ _ hD hK rfl rfl)
  case stop =>
    rintro D c pre W _ _ h _
    exact h.elim
end Go.Proofs.Ytpbenjpponbjjaa
