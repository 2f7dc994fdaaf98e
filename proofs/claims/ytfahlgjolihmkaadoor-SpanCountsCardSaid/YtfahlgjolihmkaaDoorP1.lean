/- Contract of Of: the row of spans that put makes of the spans in their order. -/
import Derived.Test.YtfahlgjolihmkaaDoorP0
import Derived.Test.YtfahlgjolihmkaaDoorO1
namespace Go.Proofs.YtfahlgjolihmkaaDoor
open Go.RowKit Go.Sort
attribute [local go_sem] Oper.semAt_some

/-- behind a call that may have turned the row in box b, and the store of what came back -/
theorem kept_store {bs : List Nat} {W w1 : World} {b : Nat} {t : TypeId} {v v' : Value} (hb : b ∈ bs) (hv : Boxed W b t v) (hbs : ∀ b, b ∈ bs → b < W.heap.size)
    (hgrow : W.grownBy w1 v.ownBlock) (hat : v'.ownBlock = v.ownBlock ∨ ∃ g, v'.ownBlock = some g ∧ W.heap.size ≤ g) (hnb : ∀ b', b' ∈ bs → v.ownBlock ≠ some b') (hlt : ∀ g, v'.ownBlock = some g → g < w1.heap.size) :
    Kept bs W (w1.setCell ⟨b, 0, none⟩ v') := by
  have hoth : ∀ k, k < W.heap.size → some k ≠ v.ownBlock → k ≠ b → (w1.setCell ⟨b, 0, none⟩ v').heap[k]? = W.heap[k]? := fun k hk h1 h2 =>
    (Below.heap_setCell _ _ _ _ h2).trans (hgrow.block k hk h1)
  have hcell : ∀ b', b' ∈ bs → b' ≠ b → (w1.setCell ⟨b, 0, none⟩ v').cell? ⟨b', 0, none⟩ = W.cell? ⟨b', 0, none⟩ := fun b' h1 h2 =>
    World.cell?_of_block (hoth b' (hbs b' h1) (fun e => hnb b' h1 e.symm) h2)
  have hvb : w1.cell? ⟨b, 0, none⟩ = some v := (World.cell?_of_block (hgrow.block b (hbs b hb) (fun e => hnb b hb e.symm))).trans hv.cell
  have hnew : (w1.setCell ⟨b, 0, none⟩ v').cell? ⟨b, 0, none⟩ = some v' := World.cell?_setCell_same _ _ _ hvb
  have hrow : ∀ g, RowOf bs (w1.setCell ⟨b, 0, none⟩ v') g → RowOf bs W g ∨ v'.ownBlock = some g := by
    rintro g ⟨b', h1, u, h2, h3⟩
    by_cases e : b' = b
    · subst e
      rw [hnew] at h2
      injection h2 with h2
      subst h2
      exact .inr h3
    · rw [hcell b' h1 e] at h2
      exact .inl ⟨b', h1, u, h2, h3⟩
  refine ⟨hgrow.os, hgrow.tape, hgrow.output, by simpa [World.setCell] using hgrow.size, fun k o hk _ h1 h2 => hoth k (lt_of_heap hk) (fun e => h2 ⟨b, hb, v, hv.cell, e.symm⟩) (fun e => h1 (e ▸ hb)), fun g hg => ?_, fun hA g hg => ?_⟩
  · rcases hrow g hg with h | h
    · exact .inl h
    · rcases hat with e | ⟨g', e, hle⟩
      · exact .inl ⟨b, hb, v, hv.cell, e.symm.trans h⟩
      · rw [e] at h
        injection h with h
        exact .inr (by omega)
  · rcases hrow g hg with h | h
    · have := hA g h
      have := hgrow.size
      simp [World.setCell]
      omega
    · have := hlt g h
      simpa [World.setCell] using this

/-- the set that put makes of the spans in their order -/
noncomputable def ofTo (xs : List Sp) {n : Nat} (pre : List (Fin n)) : List Sp := pre.foldl (fun out x => putL out (loA xs (ordF (keyA (fun a _ => a) xs) n x.1), hiA xs (ordF (keyA (fun a _ => a) xs) n x.1))) []
theorem ofTo_snoc (xs : List Sp) {n : Nat} (pre : List (Fin n)) (x : Fin n) : ofTo xs (pre ++ [x]) = putL (ofTo xs pre) (loA xs (ordF (keyA (fun a _ => a) xs) n x.1), hiA xs (ordF (keyA (fun a _ => a) xs) n x.1)) := by
  simp [ofTo]
noncomputable def ofL (xs : List Sp) : List Sp := ofTo xs (ups xs.length xs.length)
theorem putL_length (xs : List Sp) (s : Sp) : (putL xs s).length ≤ xs.length + 1 := by
  unfold putL
  split <;> simp
theorem ofTo_length (xs : List Sp) {n : Nat} (pre : List (Fin n)) : (ofTo xs pre).length ≤ pre.length := by
  suffices h : ∀ (pre : List (Fin n)) (out : List Sp), (pre.foldl (fun out x => putL out (loA xs (ordF (keyA (fun a _ => a) xs) n x.1), hiA xs (ordF (keyA (fun a _ => a) xs) n x.1))) out).length ≤ out.length + pre.length by
    simpa [ofTo] using h pre []
  intro pre
  induction pre with
  | nil => intro out; simp
  | cons x pre ih =>
    intro out
    have h1 := ih (putL out (loA xs (ordF (keyA (fun a _ => a) xs) n x.1), hiA xs (ordF (keyA (fun a _ => a) xs) n x.1)))
    have h2 := putL_length out (loA xs (ordF (keyA (fun a _ => a) xs) n x.1), hiA xs (ordF (keyA (fun a _ => a) xs) n x.1))
    simp only [List.foldl_cons, List.length_cons]
    omega

noncomputable def ofV (xs : List Sp) : List Sp := if checkE xs = 0 then ofL xs else []

/-- behind the call that has turned the row in box p, and the store -/
theorem one_store {n₀ : Nat} {W w5 : World} {p k : Nat} {v v' : Value} {xs : List Value} (hv : Boxed W p 22 v) (ho : W.ownsRow n₀ 41 2 v k xs) (hp : p < n₀) {k' : Nat} {ys : List Value} (ho' : w5.ownsRow n₀ 41 2 v' k' ys)
    (hgrow : W.grownBy w5 v.ownBlock) (hat : v'.ownBlock = v.ownBlock ∨ ∃ g, v'.ownBlock = some g ∧ W.heap.size ≤ g) :
    Boxed w5 p 22 v ∧ Boxed (w5.setCell ⟨p, 0, none⟩ v') p 22 v' ∧ (w5.setCell ⟨p, 0, none⟩ v').ownsRow n₀ 41 2 v' k' ys ∧ KeepsOthers W (w5.setCell ⟨p, 0, none⟩ v') ∧ Kept [p] W (w5.setCell ⟨p, 0, none⟩ v') ∧
      (∀ n w, n ≤ n₀ → n ≤ p → n ≤ W.heap.size → Below n w W → Below n w (w5.setCell ⟨p, 0, none⟩ v')) ∧ W.heap.size ≤ (w5.setCell ⟨p, 0, none⟩ v').heap.size := by
  have hlv := ho.lt
  have hl1 := ho'.lt
  have hne : some p ≠ v.ownBlock := fun e => by have := (hlv p e.symm).1; omega
  have hb5 : Boxed w5 p 22 v := hv.kept hgrow hne
  refine ⟨hb5, hb5.set v', ho'.kept (grownBy_setCell' w5 p v') (.inr fun e => by have := (hl1 p e).1; omega), ?_, ?_, ?_, by simpa [World.setCell] using hgrow.size⟩
  · refine (KeepsOthers.of_grownBy hgrow fun j o ej hj => ?_).trans (KeepsOthers.setCell _ _ _)
    rcases ho.2 with ⟨hv', _⟩ | ⟨g, cap, cur, hv', _, hgb, _⟩
    · rw [hv'] at ej
      cases ej
    · rw [hv'] at ej
      injection ej with ej
      have ej : g = j := ej
      subst ej
      rw [hgb] at hj
      injection hj with hj
      rw [← hj]
      rfl
  · exact kept_store (by simp) hv (fun b hb => by simp at hb; rw [hb]; exact hv.lt) hgrow hat (fun b hb e => by have := (hlv b e).1; simp at hb; omega) (fun g e => (hl1 g e).2)
  · intro n w hn hnp hW hb
    refine (hb.grown hgrow hW fun j ej => ?_).setCell (p := ⟨p, 0, none⟩) hnp v'
    have := (hlv j ej).1
    omega

/-- the caller's invariant -/
structure OfI (w w4 : World) (xs : List Sp) (n p : Nat) (pre : List (Fin n)) (W : World) : Prop where
  row : ∃ a c, Boxed W p 22 (.slice a (ofTo xs pre).length c) ∧ W.ownsRow w4.heap.size 41 2 (.slice a (ofTo xs pre).length c) (ofTo xs pre).length (flat (ofTo xs pre))
  below : Below w.heap.size w W
  size : w4.heap.size ≤ W.heap.size
theorem OfI.abides {w w4 : World} {xs : List Sp} {n p : Nat} (hp : w.heap.size ≤ p) (h4 : p < w4.heap.size) : Abides w4.heap.size [p] (OfI w w4 xs n p) := fun s W W' h ht => by
  obtain ⟨a, c, h1, h2⟩ := h.row
  exact ⟨⟨a, c, turn_old ht h1 (by omega), turn_row ht (by simp) h1 h2⟩, turn_below ht h.below (by omega) (Nat.le_refl _), Nat.le_trans h.size ht.size⟩

/-- what Of leaves -/
def SetPost (r : Int) (ys : List Sp) (w : World) (e : Ending) (w' : World) : Prop :=
  ∃ (a : Option Addr) (c : Nat), e = .returned (.tuple #[.slice a ys.length c, .int .i64 r]) ∧ w'.ownsRow w.heap.size 41 2 (.slice a ys.length c) ys.length (flat ys) ∧ Below w.heap.size w w'
theorem setpost_nil {r : Int} {w w' : World} (hb : Below w.heap.size w w') : SetPost r [] w (.returned (.tuple #[.slice none 0 0, .int .i64 r])) w' :=
  ⟨none, 0, rfl, World.ownsRow_nil _ _ _ _, hb⟩
theorem own_base {w : World} {base base' : Nat} {e : TypeId} {size n : Nat} {v : Value} {xs : List Value} (h : w.ownsRow base e size v n xs) (hb : base' ≤ base) : w.ownsRow base' e size v n xs := by
  refine ⟨h.1, ?_⟩
  rcases h.2 with h0 | ⟨g, cap, cur, hv, hg, r⟩
  · exact .inl h0
  · exact .inr ⟨g, cap, cur, hv, by omega, r⟩

set_option maxRecDepth 100000 in
set_option maxHeartbeats 4000000 in
theorem Of_in (A : Option Addr) (n cap : Nat) (xs : List Sp) (w : World) (hx : SpansAt w.heap.size w A n xs) (hst : n ≤ 128 → StableSaid n) :
    CallsIn Fence.wide 10 Tryd.prog 19 #[.slice A n cap] w (SetPost (checkE xs) (ofV xs) w) := by
  have HX := hide hx
  have HC := hide (callsIn_wide (n := 9).2 (check_any A n cap xs w hx))
  have HST := hide hst
  clear hx hst
  refine callsIn_of_wp_marks Tryd.func19 rfl trivial ?_ rfl
  simp only [Tryd.ntmps19, List.size_toArray, List.length_cons, List.length_nil, Nat.reduceAdd, Nat.reduceSub, Array.replicate_succ, Array.replicate_zero, List.push_toArray, List.append_toArray, List.nil_append, List.cons_append]
  by_cases hc : checkE xs = 0
  · have HCN := hide hc
    have HCC := HC.out
    rw [hc] at HCC
    have HC2 := hide HCC
    clear hc HC HCC
    gi_wp2_with fail
    refine ⟨trivial, HC2.out.mono ?_⟩
    rintro e w2 ⟨rfl, hG⟩
    have HG := hide hG
    clear hG HC2
    gi_wp2_with fail
    have hst2 := inOrder_any 37 A n cap (w2.alloc (.cells #[.slice none 0 0] 22))
    simp only [World.size_alloc] at hst2
    refine ⟨trivial, (callsIn_wide (n := 9).2 hst2).mono ?_⟩
    rintro e w4 ⟨rfl, hw4⟩
    obtain ⟨p, hp⟩ : ∃ p, w2.heap.size = p := ⟨_, rfl⟩
    have hwp : w.heap.size ≤ p := by have := HG.out.size; omega
    have bv : Boxed w4 p 22 (.slice none 0 0) := by rw [← hw4]; exact heap_old _ (heap_old _ (heap_new _ hp))
    have bl : Boxed w4 (p + 1) 22 (.slice A n cap) := by rw [← hw4]; exact heap_old _ (heap_new _ (size_alloc' _ hp))
    have bk : Boxed w4 (p + 1 + 1) 64 (.func (.func 37) #[] #[]) := by rw [← hw4]; exact heap_new _ (size_alloc' _ (size_alloc' _ hp))
    have hG4 : Gr w2 w4 := by rw [← hw4]; exact (((Gr.refl w2).alloc _).alloc _).alloc _
    have hsz4 : w4.heap.size = p + 3 := by rw [← hw4, ← hp]; simp
    have hbw := HG.out.trans hG4
    have hxs := HX.out.below hbw.below
    rw [hp]
    clear hw4 hG4 hst2 hp
    gi_wp2_with fail
    have hnr : ∀ g, ¬ RowOf [p] w4 g := by
      rintro g ⟨b, hb, v, hc, ho⟩
      obtain rfl : b = p := by simpa using hb
      rw [bv.cell] at hc
      injection hc with hc
      subst hc
      cases ho
    have hn : n ≤ 128 := by
      have h1 := HCN.out
      have h2 := HX.out.1
      unfold checkE at h1
      split at h1
      · omega
      · omega
    refine range_own (m := 10) (gf := 51) (lb := #[.pointer (some ⟨p + 1, 0, none⟩), .pointer (some ⟨p + 1 + 1, 0, none⟩)]) rfl (enters_of Tryd.func51 (by kernel_rfl) rfl)
      (inOrder_seq 9 (by omega) (p + 1) (p + 1 + 1) 37 [p] A n cap xs (fun a _ => a) key66 (HST.out hn) hn w4 (by simp; omega) (fun g h => absurd h (hnr g)) bl.cell ⟨by simp, hnr _⟩ (by omega) bk.cell (by omega) w.heap.size (by omega) hxs (fun k hk => ⟨by simp; omega, hnr k⟩))
      (fun _ => rfl) (by simp; omega) (OfI w w4 xs n p) (fun _ _ _ => False) (OfI.abides hwp (by omega)) (fun _ _ _ _ h _ => h)
      ⟨⟨none, 0, bv, World.ownsRow_nil _ _ _ _⟩, hbw.below, Nat.le_refl _⟩
      (fun x a' W => ∃ Bx, w4.heap.size ≤ Bx ∧ W.heap[Bx]? = some (.cells #[.int .i64 (loA xs (ordF (keyA (fun a _ => a) xs) n x.1)), .int .i64 (hiA xs (ordF (keyA (fun a _ => a) xs) n x.1))] 41 (0, 0)) ∧
        a' = { tmps := #[.slice A n cap, undef, .slice none 0 0, .int .i64 0, .int .i64 0, .pointer (some ⟨p, 0, none⟩), undef, .pointer (some ⟨Bx, 0, none⟩), .slice A n cap, .int .i64 0, .int .i64 0, .bool false, undef, .slice A n cap,
          .func (.func 51) #[] #[.pointer (some ⟨p + 1, 0, none⟩), .pointer (some ⟨p + 1 + 1, 0, none⟩)], .int .i64 (ordF (keyA (fun a _ => a) xs) n x.1 : Nat), .agg #[.int .i64 (loA xs (ordF (keyA (fun a _ => a) xs) n x.1)), .int .i64 (hiA xs (ordF (keyA (fun a _ => a) xs) n x.1))], undef, undef, undef, undef], defers := [] })
      ?hax ?assign ?body ?done ?stop
    case hax =>
      rintro x a' W l o o' ⟨Bx, h1, h2, h4⟩ hl ho hc
      exact ⟨Bx, h1, (World.putObj_heap_other (fun e => by subst e; rw [ho] at h2; injection h2 with h2; subst h2; cases hc)).trans h2, h4⟩
    case assign =>
      intro l pre x W K hI hK
      dsimp only [encO]
      gi_wp2
      exact hK _ _ ((Below.refl _ _).alloc (Nat.le_refl _) _) ⟨W.heap.size, hI.size, World.alloc_heap_new W _, rfl⟩
    case body =>
      rintro l pre x a' W hl hI ⟨Bx, h1, h2, rfl⟩ hlt
      obtain ⟨a, c, hv, ho⟩ := hI.row
      have HI := hide hI
      have c0 := cell_of_heap h2 0
      have c1 := cell_of_heap h2 1
      simp at c0 c1
      have cv := hv.cell
      have hlen := ofTo_length xs pre
      have HS := hide (ofTo_snoc xs pre x)
      clear hI
      generalize ofTo xs pre = out at hv ho cv hlen HS
      generalize ordF (keyA (fun a _ => a) xs) n x.1 = o at c0 c1 HS h2 ⊢
      have HP := hide (put_any w4.heap.size a out.length c out (loA xs o) (hiA xs o) W rfl (by omega) HI.out.size ho)
      have HV := hide hv
      have HO := hide ho
      clear hv ho h2
      gi_wp2_with fail
      refine ⟨trivial, (CallsIn.inRound l (callsIn_wide (n := 7).2 HP.out)).mono ?_⟩
      rintro e w5 ⟨a2, c2, rfl, ho2, hg2, hat2⟩
      obtain ⟨r1, r2, r3, r4, r5, r6, r7⟩ := one_store HV.out HO.out (by omega) ho2 hg2 hat2
      have e1 := r1.cell
      have f1 := r1.frozen
      have R2 := hide r2
      have R3 := hide r3
      have R4 := hide r4
      have R5 := hide r5
      have R6 := hide r6
      have R7 := hide r7
      clear r1 r2 r3 r4 r5 r6 r7 ho2 hg2 hat2 HP
      generalize putL out (loA xs o, hiA xs o) = out2 at HS R2 R3 R4 R5 R6 R7 ⊢
      gi_wp2
      exact ⟨R4.out.from _, R5.out, ⟨⟨a2, c2, by rw [HS.out]; exact R2.out, by rw [HS.out]; exact R3.out⟩, R6.out _ _ (by omega) (by omega) (by have := HI.out.size; omega) HI.out.below, by have := HI.out.size; have := R7.out; omega⟩⟩
    case done =>
      rintro D ys W hD rfl hI hK
      obtain ⟨a, c, hv, ho⟩ := hI.row
      have hE : ofTo xs (ups n n) = ofV xs := by
        unfold ofV ofL
        rw [if_pos HCN.out, HX.out.1]
      rw [hE] at hv ho
      have cv := hv.cell
      have HO := hide ho
      have HB := hide hI.below
      clear hI hv ho hE
      gi_wp2
      refine ⟨by simp, .inl ⟨_, _, rfl, run_takeDeferred hK, ?_⟩⟩
      exact ⟨_, results_tmp2 rfl _ _ _, a, c, by rw [HCN.out]; rfl, own_base (ownsRow_putObj HO.out _ hK rfl) (by omega), HB.out.trans (belowK_b (w := w) (Nat.le_refl _) W D _ _ (by omega) hK rfl rfl)⟩
    case stop =>
      rintro D c pre W hD _ hX hK
      exact hX.elim
  · have HCN := hide hc
    have hc1 : (checkE xs == 0) = false := beq_eq_false_iff_ne.2 hc
    have hc2 : (checkE xs != 0) = true := by rw [bne_iff_ne]; exact hc
    clear hc
    gi_wp2_with fail
    refine ⟨trivial, HC.out.mono ?_⟩
    rintro e w2 ⟨rfl, hG⟩
    have HG := hide hG
    clear hG
    gi_wp2
    exact ⟨_, results_tmp2 rfl _ _ _, by rw [show ofV xs = [] from if_neg HCN.out]; exact setpost_nil HG.out.below⟩


theorem Of_any (A : Option Addr) (n cap : Nat) (xs : List Sp) (w : World) (hx : SpansAt w.heap.size w A n xs) (hst : n ≤ 128 → StableSaid n) :
    Calls Tryd.prog 19 #[.slice A n cap] w (SetPost (checkE xs) (ofV xs) w) := callsIn_wide.1 (Of_in A n cap xs w hx hst)

end Go.Proofs.YtfahlgjolihmkaaDoor
