/- A loop over a function whose iterator keeps a state of its own in cells: the caller's invariant abides what the iterator turns in blocks of its own. -/
import Derived.Test.YtfahlgjolihmkaaDoorZ2
namespace Go.Proofs.YtfahlgjolihmkaaDoor
open Go.RowKit Go.Sort

/-- from n₀ on, objects that are no cells may turn, and blocks of cells that are neither the boxes bs nor a row of theirs -/
structure Turn (n₀ : Nat) (bs : List Nat) (W W' : World) : Prop where
  os : W'.os = W.os
  tape : W'.tape = W.tape
  output : W'.output = W.output
  size : W.heap.size ≤ W'.heap.size
  same : ∀ (k : Nat) (o : Obj), W.heap[k]? = some o → W'.heap[k]? = some o ∨ (n₀ ≤ k ∧ (o.isCells = false ∨ (k ∉ bs ∧ ¬ RowOf bs W k)))

def Abides {β : Type} (n₀ : Nat) (bs : List Nat) (J : β → World → Prop) : Prop := ∀ s W W', J s W → Turn n₀ bs W W' → J s W'

theorem heap_some {W : World} {k : Nat} (h : k < W.heap.size) : ∃ o, W.heap[k]? = some o := ⟨_, Array.getElem?_eq_getElem h⟩
theorem Turn.of_below (n₀ : Nat) (bs : List Nat) {W W' : World} (h : Below W.heap.size W W') : Turn n₀ bs W W' :=
  ⟨h.os, h.tape, h.output, h.size, fun k _ hk => .inl ((h.block k (lt_of_heap hk)).trans hk)⟩
theorem Turn.putObj {n₀ : Nat} {bs : List Nat} {W : World} {l : Nat} {o : Obj} (o' : Obj) (hl : n₀ ≤ l) (h : W.heap[l]? = some o) (hc : o.isCells = false) : Turn n₀ bs W (W.putObj l o') :=
  ⟨rfl, rfl, rfl, by simp, fun k u hk => by
    by_cases e : k = l
    · subst e
      rw [h] at hk
      injection hk with hk
      subst hk
      exact .inr ⟨hl, .inl hc⟩
    · exact .inl ((World.putObj_heap_other e).trans hk)⟩
theorem Turn.setCell {n₀ : Nat} {bs : List Nat} {W : World} {k off : Nat} (v : Value) (hl : n₀ ≤ k) (hb : k ∉ bs) (hr : ¬ RowOf bs W k) : Turn n₀ bs W (W.setCell ⟨k, off, none⟩ v) :=
  ⟨rfl, rfl, rfl, by simp [World.setCell], fun j u hj => by
    by_cases e : j = k
    · subst e
      exact .inr ⟨hl, .inr ⟨hb, hr⟩⟩
    · exact .inl ((Below.heap_setCell _ _ _ _ e).trans hj)⟩

/-- a store into a block that is new since W and none of the boxes -/
theorem Kept.setNew {bs : List Nat} {W A : World} (h : Kept bs W A) {k : Nat} (off : Nat) (v : Value) (hk : W.heap.size ≤ k) (hb : k ∉ bs) : Kept bs W (A.setCell ⟨k, off, none⟩ v) := by
  have hc : ∀ b, b ∈ bs → (A.setCell ⟨k, off, none⟩ v).cell? ⟨b, 0, none⟩ = A.cell? ⟨b, 0, none⟩ := fun b hb' =>
    World.cell?_setCell_other _ _ _ _ (by intro e; simp only [Addr.mk.injEq] at e; exact hb (by rw [e.1]; exact hb'))
  refine ⟨h.os, h.tape, h.output, by simpa [World.setCell] using h.size, fun j o hj ho hnb hr => ?_, fun g hg => h.rows g (hg.congr hc), fun hA g hg => ?_⟩
  · have hlt := lt_of_heap hj
    exact (Below.heap_setCell _ _ _ _ (by show j ≠ k; omega)).trans (h.same j o hj ho hnb hr)
  · have := h.bound hA g (hg.congr hc)
    simpa [World.setCell] using this

theorem heap_old {W : World} {k : Nat} {o : Obj} (o' : Obj) (h : W.heap[k]? = some o) : (W.alloc o').heap[k]? = some o := (Below.heap_alloc W o' k (lt_of_heap h)).trans h
theorem heap_new {W : World} {n : Nat} (o : Obj) (h : W.heap.size = n) : (W.alloc o).heap[n]? = some o := by
  subst h
  exact World.alloc_heap_new W o
theorem heap_gr {W W' : World} {k : Nat} {o : Obj} (h : W.heap[k]? = some o) (hG : Gr W W') : W'.heap[k]? = some o := (hG.block (lt_of_heap h)).trans h
theorem boxed_gr {W W' : World} {b : Nat} {t : TypeId} {v : Value} (h : Boxed W b t v) (hG : Gr W W') : Boxed W' b t v := (hG.block h.lt).trans h
theorem size_alloc' {W : World} {n : Nat} (o : Obj) (h : W.heap.size = n) : (W.alloc o).heap.size = n + 1 := by rw [World.size_alloc, h]
theorem cell_new0 {W : World} {n : Nat} (v : Value) (t : TypeId) (h : W.heap.size = n) : (W.alloc (.cells #[v] t)).cell? ⟨n, 0, none⟩ = some v ∧ (W.alloc (.cells #[v] t)).frozen? ⟨n, 0, none⟩ = false ∧ n < (W.alloc (.cells #[v] t)).heap.size := by
  subst h
  exact ⟨by simp, by simp, by simp⟩
theorem row_alloc {bs : List Nat} {W : World} (o : Obj) (hbs : ∀ b, b ∈ bs → b < W.heap.size) {g : Nat} (h : RowOf bs (W.alloc o) g) : RowOf bs W g :=
  h.congr fun b hb => World.cell?_alloc_lt W o ⟨b, 0, none⟩ (hbs b hb)

theorem turn_old {n₀ : Nat} {bs : List Nat} {W W' : World} (h : Turn n₀ bs W W') {k : Nat} {o : Obj} (hk : W.heap[k]? = some o) (hlt : k < n₀) : W'.heap[k]? = some o := by
  rcases h.same k o hk with h1 | h1
  · exact h1
  · omega
theorem turn_row {n₀ : Nat} {bs : List Nat} {W W' : World} (h : Turn n₀ bs W W') {b : Nat} {t e : TypeId} {v : Value} (hb : b ∈ bs) (hv : Boxed W b t v) {base size k : Nat} {xs : List Value} (ho : W.ownsRow base e size v k xs) : W'.ownsRow base e size v k xs := by
  refine ⟨ho.1, ?_⟩
  rcases ho.2 with h0 | ⟨g, cap, cur, hv', hb', hg, hr⟩
  · exact .inl h0
  · refine .inr ⟨g, cap, cur, hv', hb', ?_, hr⟩
    rcases h.same g _ hg with h1 | ⟨_, h1 | ⟨_, h1⟩⟩
    · exact h1
    · cases h1
    · exact absurd ⟨b, hb, v, hv.cell, by rw [hv']; rfl⟩ h1
theorem turn_below {n₀ n : Nat} {bs : List Nat} {w W W' : World} (h : Turn n₀ bs W W') (hb : Below n w W) (hn : n ≤ n₀) (hw : n ≤ w.heap.size) : Below n w W' :=
  ⟨h.os.trans hb.os, h.tape.trans hb.tape, h.output.trans hb.output, Nat.le_trans hb.size h.size, fun k hk => by
    obtain ⟨o, ho⟩ := heap_some (W := w) (k := k) (by omega)
    have h1 := (hb.block k hk).trans ho
    rw [turn_old h h1 (by omega), ho]⟩

/-- what a caller of a loop over the function gf may lean on -/
def SeqX {α : Type} (m gf : Nat) (lb : Array Value) (encs : α → Array Value) (bs : List Nat) (S Sp : List α → Prop) (N : Nat) (w : World) : Prop :=
  ∀ (l : Nat) (J Jx : List α → World → Prop) (W : World), Below w.heap.size w W → Abides W.heap.size bs J → Abides W.heap.size bs Jx →
    (∀ pre x W1, J pre W1 → pre.length < N → YieldAt Fence.wide (m - 1) Tryd.prog l (encs x) W1 fun e W' =>
      (e = .returned (.bool true) ∧ J (pre ++ [x]) W' ∧ Kept bs W1 W') ∨ (e = .returned (.bool false) ∧ Jx (pre ++ [x]) W')) →
    J [] W →
    CallsIn Fence.wide m Tryd.prog gf (#[.func (.yield l) #[] #[]] ++ lb) W fun e W' => (∃ v, e = .returned v) ∧ ((∃ xs, S xs ∧ J xs W') ∨ (∃ pre, Sp pre ∧ Jx pre W'))

set_option maxHeartbeats 1000000 in
theorem range_own {α : Type} {g : Operand} {ps : Array Tmp} {assign body : Code} {Q : Exit → Act → World → Prop} {a : Act} {w : World} {m : Nat}
    {gf : Nat} {lb : Array Value} (hg : a.eval g = .func (.func gf) #[] lb) (eg : ∀ args w, (callFunc gf args).run Tryd.prog w = .ok (.enter gf args) w)
    {encs : α → Array Value} {bs : List Nat} {S Sp : List α → Prop} {N : Nat} (hseq : SeqX (m - 1) gf lb encs bs S Sp N w) (hps : ∀ x, (encs x).size = ps.size) (hbs : ∀ b, b ∈ bs → b < w.heap.size)
    (I : List α → World → Prop) (Ix : Code → List α → World → Prop) (hI : Abides w.heap.size bs I) (hIx : ∀ c, Abides w.heap.size bs (Ix c)) (h0 : I [] w)
    (Ax : α → Act → World → Prop) (hAx : ∀ (x : α) (a' : Act) (W : World) (l : Nat) (o o' : Obj), Ax x a' W → w.heap.size ≤ l → W.heap[l]? = some o → o.isCells = false → Ax x a' (W.putObj l o'))
    (hassign : ∀ (l : Nat) (pre : List α) (x : α) (W : World) (K : Act → World → Prop), I pre W → (∀ a' W', Below W.heap.size W W' → Ax x a' W' → K a' W') →
      assign.wpIn (Fence.wide.inRound l) (m - 1 - 1) Tryd.prog (Exit.then K (fun _ _ _ => False)) { tmps := (ps.zip (encs x)).foldl (fun t (p, v) => t.setIfInBounds p v) a.tmps, defers := [] } W)
    (hbody : ∀ (l : Nat) (pre : List α) (x : α) (a' : Act) (W : World), w.heap.size ≤ l → I pre W → Ax x a' W → pre.length < N → body.wpIn (Fence.wide.inRound l) (m - 1 - 1) Tryd.prog (ownPostG w.heap.size (Kept bs) I Ix (pre ++ [x]) W) a' W)
    (hdone : ∀ (D : Nat) (xs : List α) (W : World), w.heap.size ≤ D → S xs → I xs W → W.heap[D]? = some (.deferred (some [])) → Q .normal { a with defers := { target := .collected D, args := #[] } :: a.defers } W)
    (hstop : ∀ (D : Nat) (c : Code) (pre : List α) (W : World), w.heap.size ≤ D → Sp pre → Ix c pre W → W.heap[D]? = some (.deferred (some [])) → c.wpIn Fence.wide m Tryd.prog Q { a with defers := { target := .collected D, args := #[] } :: a.defers } W) :
    (Code.rangeFunc g ps assign body).wpIn Fence.wide m Tryd.prog Q a w := by
  refine wpIn_rangeFunc fun fn hfn => ?_
  -- the loop's record, in each of its states
  obtain ⟨rec, hrec⟩ : ∃ rec : LoopState → Option Code → Loop, rec = fun st pe => { state := st, pending := pe, fn, tmps := a.tmps, params := ps, assign, body, defers := w.heap.size } := ⟨_, rfl⟩
  obtain ⟨V, hV⟩ : ∃ V, (w.alloc (.deferred (some []))).alloc (.loop (rec .ready none)) = V := ⟨_, rfl⟩
  have hbV : Below w.heap.size w V := by rw [← hV]; exact ((Below.refl _ w).alloc (Nat.le_refl _) _).alloc (by simp) _
  have hsV : V.heap.size = w.heap.size + 2 := by rw [← hV]; simp
  have hVl : V.heap[w.heap.size + 1]? = some (.loop (rec .ready none)) := by rw [← hV]; simpa using World.alloc_heap_new (w.alloc (.deferred (some []))) (.loop (rec .ready none))
  have hVd : V.heap[w.heap.size]? = some (.deferred (some [])) := by rw [← hV]; exact (Below.heap_alloc _ _ _ (by simp)).trans (World.alloc_heap_new w _)
  refine ⟨w.heap.size + 1, [{ target := .collected w.heap.size, args := #[] }], V, { target := .fn (.func gf) lb, args := #[.func (.yield (w.heap.size + 1)) #[] #[]] }, V, gf, #[.func (.yield (w.heap.size + 1)) #[] #[]] ++ lb, V, ?_, ?_, fun _ _ => trivial, ?_, fun h => (by cases h), ?_⟩
  · rw [← hV, hrec]; exact run_enterLoop_outer _ _ _ _ _
  · simp only [resolve, hg]; simp [go_sem]
  · simp [invoke, go_sem, eg]
  -- what stands beside the invariant: the record in state st, the list of deferred calls
  have mono : ∀ {β : Type} {J : β → World → Prop}, Abides w.heap.size bs J → Abides V.heap.size bs J := fun hJ s A B hs ht =>
    hJ s A B hs ⟨ht.os, ht.tape, ht.output, ht.size, fun k o hk => (ht.same k o hk).imp id fun h => ⟨by omega, h.2⟩⟩
  have keep : ∀ {A B : World} {k : Nat} {o : Obj}, Turn V.heap.size bs A B → k < V.heap.size → A.heap[k]? = some o → B.heap[k]? = some o := fun ht hk ho => by
    rcases ht.same _ _ ho with h | h
    · exact h
    · have := h.1; omega
  refine (hseq (w.heap.size + 1)
    (fun pre W => I pre W ∧ W.heap[w.heap.size + 1]? = some (.loop (rec .ready none)) ∧ W.heap[w.heap.size]? = some (.deferred (some [])))
    (fun pre W => ∃ c, Ix c pre W ∧ W.heap[w.heap.size + 1]? = some (.loop (rec .done (some c))) ∧ W.heap[w.heap.size]? = some (.deferred (some [])))
    V hbV
    (fun s A B hs ht => ⟨mono hI s A B hs.1 ht, keep ht (by omega) hs.2.1, keep ht (by omega) hs.2.2⟩)
    (fun s A B hs ht => by
      obtain ⟨c, h1, h2, h3⟩ := hs
      exact ⟨c, mono (hIx c) s A B h1 ht, keep ht (by omega) h2, keep ht (by omega) h3⟩)
    ?_ ⟨hI [] w V h0 (Turn.of_below _ _ hbV), hVl, hVd⟩).mono ?_
  · rintro pre x W ⟨hi, hl, hd⟩ hlen
    have hy := run_yield (P := Tryd.prog) (args := encs x) hl (by rw [hrec]; exact hps x)
    rw [hrec] at hy
    refine ⟨fn, _, assign, body, hy, roundIn_of_wpIn hfn (hassign _ pre x W _ hi fun a' A hA hax => ?_)⟩
    have hAl := (hA.block _ (lt_of_heap hl)).trans hl
    have hAd := (hA.block _ (lt_of_heap hd)).trans hd
    have hAi := hI pre W A hi (Turn.of_below _ _ hA)
    have hAk : Kept bs W A := Kept.of_below hA fun b hb => by have := hbs b hb; have := lt_of_heap hl; omega
    refine ⟨_, run_beginRound hAl (by rw [hrec]), ?_⟩
    obtain ⟨C, hC⟩ : ∃ C, A.putObj (w.heap.size + 1) (.loop { rec .ready none with state := .busy }) = C := ⟨_, rfl⟩
    have hTC : Turn w.heap.size bs A C := by rw [← hC]; exact Turn.putObj _ (by omega) hAl rfl
    have hCl : C.heap[w.heap.size + 1]? = some (.loop { rec .ready none with state := .busy }) := by rw [← hC]; exact World.putObj_heap_same (lt_of_heap hAl)
    have hCd : C.heap[w.heap.size]? = some (.deferred (some [])) := by rw [← hC]; exact (World.putObj_heap_other (by omega)).trans hAd
    have hCk : Kept bs W C := hAk.trans (by rw [← hC]; exact Kept.putObj bs A _ _ _ (fun h => by have := hbs _ h; omega) hAl rfl)
    rw [hC]
    refine wpIn_mono (hbody _ pre x a' C (by omega) (hI pre A C hAi hTC) (by rw [← hC]; exact hAx x a' A _ _ _ hax (by omega) hAl rfl) hlen) ?_
    -- the round's end
    have fin : ∀ (jump : Option Code) (E : World), KeepsFrom w.heap.size C E → ∃ E', (Instr.endRound (w.heap.size + 1) jump).run Tryd.prog E = .ok (.bool jump.isNone) E' ∧ Turn w.heap.size bs E E' ∧ Kept bs E E' ∧
        E'.heap[w.heap.size + 1]? = some (.loop (rec (if jump.isNone then .ready else .done) jump)) ∧ E'.heap[w.heap.size]? = some (.deferred (some [])) := fun jump E hE => by
      have hEl := hE.same _ _ (by omega) hCl rfl
      have hEd := hE.same _ _ (Nat.le_refl _) hCd rfl
      refine ⟨_, run_endRound (P := Tryd.prog) jump hEl, Turn.putObj _ (by omega) hEl rfl, Kept.putObj bs E _ _ _ (fun h => by have := hbs _ h; omega) hEl rfl, ?_, (World.putObj_heap_other (by omega)).trans hEd⟩
      rw [World.putObj_heap_same (lt_of_heap hEl), hrec]
    rintro e a3 E hp
    cases e with
    | normal =>
      obtain ⟨E', h1, h2, h3, h4, h5⟩ := fin none E hp.1
      exact ⟨_, E', h1, .inl ⟨rfl, ⟨hI _ E E' hp.2.2 h2, h4, h5⟩, hCk.trans (hp.2.1.trans h3)⟩⟩
    | ret =>
      obtain ⟨E', h1, h2, h3, h4, h5⟩ := fin (some .ret) E hp.1
      exact ⟨_, E', h1, .inr ⟨rfl, .ret, hIx _ _ E E' hp.2 h2, h4, h5⟩⟩
    | exit id =>
      obtain ⟨E', h1, h2, h3, h4, h5⟩ := fin (some (.exit id)) E hp.1
      exact ⟨_, E', h1, .inr ⟨rfl, .exit id, hIx _ _ E E' hp.2 h2, h4, h5⟩⟩
    | goto t =>
      obtain ⟨E', h1, h2, h3, h4, h5⟩ := fin (some (.goto t)) E hp.1
      exact ⟨_, E', h1, .inr ⟨rfl, .goto t, hIx _ _ E E' hp.2 h2, h4, h5⟩⟩
    | panic ch => exact hp.elim
    | outgrown => exact hp.elim
  · rintro e E ⟨⟨v, rfl⟩, (⟨xs, hS, hi, hl, hd⟩ | ⟨pre, hSp, c, hi, hl, hd⟩)⟩
    · refine ⟨none, _, (by have := run_endLoop (P := Tryd.prog) hl (by rw [hrec]; simp); rw [hrec] at this; exact this), ?_⟩
      exact hdone _ xs _ (Nat.le_refl _) hS (hI _ E _ hi (Turn.putObj _ (by omega) hl rfl)) ((World.putObj_heap_other (by omega)).trans hd)
    · refine ⟨some c, _, (by have := run_endLoop (P := Tryd.prog) hl (by rw [hrec]; simp); rw [hrec] at this; exact this), ?_⟩
      exact hstop _ c pre _ (Nat.le_refl _) hSp (hIx c _ E _ hi (Turn.putObj _ (by omega) hl rfl)) ((World.putObj_heap_other (by omega)).trans hd)

end Go.Proofs.YtfahlgjolihmkaaDoor
