/- Contract of walk: the spans that are taken and the numbers at which they are. -/
import Derived.Test.YtfahlgjolihmkaaDoorD1
import Derived.Maps.OwnIn
namespace Go.Proofs.YtfahlgjolihmkaaDoor
open Go.RowKit Go.Sort
attribute [local go_sem] Oper.semAt_some

theorem steps_any (tlo thi : Int) (A : Option Addr) (n cap : Nat) (w : World) :
    Calls Tryd.prog 55 #[.agg #[.int .i64 tlo, .int .i64 thi], .slice A n cap] w fun e w' => e = .returned (.func (.func 67) #[] #[.pointer (some ⟨w.heap.size, 0, none⟩), .pointer (some ⟨w.heap.size + 1, 0, none⟩)]) ∧
      (w.alloc (.cells #[.int .i64 tlo, .int .i64 thi] 41)).alloc (.cells #[.slice A n cap] 22) = w' := by
  go_enter Tryd.func55, Tryd.ntmps55
  go_wp2
  go_ret
  exact ⟨rfl, rfl⟩

theorem steps_seq (m : Nat) (hm : 1 ≤ m) (Bt Bl : Nat) (bs : List Nat) (A : Option Addr) (n cap : Nat) (xs : List Sp) (tlo thi : Int) (L : List (Int × Int)) (hL : L = runF xs thi (thi - tlo).toNat tlo)
    (ht : okB tlo thi = true) (hok : okTo xs n) (hn : n ≤ 128) (w : World)
    (hbs : ∀ b, b ∈ bs → b < w.heap.size) (hrow : ∀ g, RowOf bs w g → g < w.heap.size)
    (hBt : w.cell? ⟨Bt, 0, none⟩ = some (.int .i64 tlo)) (hBt1 : w.cell? ⟨Bt, 1, none⟩ = some (.int .i64 thi)) (hBt2 : Bt ∉ bs ∧ ¬ RowOf bs w Bt) (hBtl : Bt < w.heap.size)
    (hBl : w.cell? ⟨Bl, 0, none⟩ = some (.slice A n cap)) (hBl2 : Bl ∉ bs ∧ ¬ RowOf bs w Bl) (hBll : Bl < w.heap.size)
    (B : Nat) (hBW : B ≤ w.heap.size) (hx : SpansAt B w A n xs) (hB : ∀ k, k < B → k ∉ bs ∧ ¬ RowOf bs w k) :
    SeqX m 67 #[.pointer (some ⟨Bt, 0, none⟩), .pointer (some ⟨Bl, 0, none⟩)] (encS L) bs (fun ys => ys = ups L.length L.length) (fun pre => ∃ k, k < L.length ∧ pre = ups L.length (k + 1)) L.length w := fun l J Jx W hW hJ _ hY h0 => by
  have hbox : ∀ b, b ∈ bs → W.cell? ⟨b, 0, none⟩ = w.cell? ⟨b, 0, none⟩ := fun b hb => hW.cell (p := ⟨b, 0, none⟩) (hbs b hb)
  have hr : ∀ {g}, RowOf bs W g → RowOf bs w g := fun h => h.congr hbox
  exact steps1_in m hm l Bt Bl bs A n cap xs tlo thi L hL ht hok hn J Jx W hJ hY (fun b hb => Nat.lt_of_lt_of_le (hbs b hb) hW.size) (fun g hg => Nat.lt_of_lt_of_le (hrow g (hr hg)) hW.size)
    ((hW.cell (p := ⟨Bt, 0, none⟩) hBtl).trans hBt) ((hW.cell (p := ⟨Bt, 1, none⟩) hBtl).trans hBt1) ⟨hBt2.1, fun h => hBt2.2 (hr h)⟩
    ((hW.cell (p := ⟨Bl, 0, none⟩) hBll).trans hBl) ⟨hBl2.1, fun h => hBl2.2 (hr h)⟩ B (Nat.le_trans hBW hW.size) (hx.below (hW.mono hBW)) (fun k hk => ⟨(hB k hk).1, fun h => (hB k hk).2 (hr h)⟩) h0

/-- behind an append to the slice in box b, and the store of what came back -/
theorem kept_append {bs : List Nat} {W w1 : World} {b : Nat} {t : TypeId} {v v' : Value} {tmp : Obj} (hb : b ∈ bs) (hv : Boxed W b t v) (hbs : ∀ b, b ∈ bs → b < W.heap.size)
    (hgrow : (W.alloc tmp).grownBy w1 v.ownBlock) (hat : v'.ownBlock = v.ownBlock ∨ v'.ownBlock = some (W.alloc tmp).heap.size) (hnb : ∀ b', b' ∈ bs → v.ownBlock ≠ some b') (hlt : ∀ g, v'.ownBlock = some g → g < w1.heap.size) :
    Kept bs W (w1.setCell ⟨b, 0, none⟩ v') := by
  have hsz : W.heap.size ≤ w1.heap.size := by have := hgrow.size; simp at this; omega
  have hoth : ∀ k, k < W.heap.size → some k ≠ v.ownBlock → k ≠ b → (w1.setCell ⟨b, 0, none⟩ v').heap[k]? = W.heap[k]? := fun k hk h1 h2 =>
    (Below.heap_setCell _ _ _ _ h2).trans ((hgrow.block k (by simp; omega) h1).trans (Below.heap_alloc _ _ _ hk))
  have hcell : ∀ b', b' ∈ bs → b' ≠ b → (w1.setCell ⟨b, 0, none⟩ v').cell? ⟨b', 0, none⟩ = W.cell? ⟨b', 0, none⟩ := fun b' h1 h2 =>
    World.cell?_of_block (hoth b' (hbs b' h1) (fun e => hnb b' h1 e.symm) h2)
  have hvb : w1.cell? ⟨b, 0, none⟩ = some v := by
    have : w1.heap[b]? = W.heap[b]? := (hgrow.block b (by have := hbs b hb; simp; omega) (fun e => hnb b hb e.symm)).trans (Below.heap_alloc _ _ _ (hbs b hb))
    exact (World.cell?_of_block this).trans hv.cell
  have hnew : (w1.setCell ⟨b, 0, none⟩ v').cell? ⟨b, 0, none⟩ = some v' := World.cell?_setCell_same _ _ _ hvb
  have hrow : ∀ g, RowOf bs (w1.setCell ⟨b, 0, none⟩ v') g → RowOf bs W g ∨ v'.ownBlock = some g := by
    rintro g ⟨b', h1, u, h2, h3⟩
    by_cases e : b' = b
    · subst e
      rw [hnew] at h2
      injection h2 with h2
      subst h2
      exact .inr h3
    · rw [hcell b' h1 e] at h2
      exact .inl ⟨b', h1, u, h2, h3⟩
  refine ⟨hgrow.os, hgrow.tape, hgrow.output, by simpa [World.setCell] using hsz, fun k o hk _ h1 h2 => hoth k (lt_of_heap hk) (fun e => h2 ⟨b, hb, v, hv.cell, e.symm⟩) (fun e => h1 (e ▸ hb)), fun g hg => ?_, fun hA g hg => ?_⟩
  · rcases hrow g hg with h | h
    · exact .inl h
    · rcases hat with e | e
      · exact .inl ⟨b, hb, v, hv.cell, e.symm.trans h⟩
      · rw [e] at h
        injection h with h
        simp at h
        exact .inr (by omega)
  · rcases hrow g hg with h | h
    · have := hA g h
      simp [World.setCell]
      omega
    · have := hlt g h
      simpa [World.setCell] using this

theorem own_slice {w : World} {base : Nat} {e : TypeId} {size n : Nat} {v : Value} {xs : List Value} (h : w.ownsRow base e size v n xs) : ∃ a c, v = .slice a n c := by
  rcases h.2 with ⟨rfl, rfl⟩ | ⟨g, cap, cur, rfl, _⟩
  · exact ⟨_, _, rfl⟩
  · exact ⟨_, _, rfl⟩

theorem RowOf.perm {bs bs' : List Nat} (h : ∀ b, b ∈ bs ↔ b ∈ bs') {W : World} {g : Nat} : RowOf bs W g ↔ RowOf bs' W g :=
  ⟨fun ⟨b, hb, r⟩ => ⟨b, (h b).1 hb, r⟩, fun ⟨b, hb, r⟩ => ⟨b, (h b).2 hb, r⟩⟩
theorem Kept.perm {bs bs' : List Nat} (h : ∀ b, b ∈ bs ↔ b ∈ bs') {A B : World} (k : Kept bs A B) : Kept bs' A B :=
  ⟨k.os, k.tape, k.output, k.size, fun j o hj ho hb hr => k.same j o hj ho (fun hh => hb ((h j).1 hh)) (fun hh => hr ((RowOf.perm h).1 hh)),
    fun g hg => (k.rows g ((RowOf.perm h).2 hg)).imp (RowOf.perm h).1 id, fun hA g hg => k.bound (fun g' hg' => hA g' ((RowOf.perm h).1 hg')) g ((RowOf.perm h).2 hg)⟩

/-- two boxes, each with a slice of ints of its own -/
structure Two (n₀ : Nat) (W : World) (p q : Nat) (v u : Value) (k : Nat) (xs : List Int) (j : Nat) (ys : List Int) : Prop where
  bv : Boxed W p 42 v
  bu : Boxed W q 42 u
  ov : W.ownsRow n₀ 3 1 v k (xs.map (Value.int .i64))
  ou : W.ownsRow n₀ 3 1 u j (ys.map (Value.int .i64))
  apart : ∀ g, v.ownBlock = some g → u.ownBlock ≠ some g
theorem Two.swap {n₀ : Nat} {W : World} {p q k j : Nat} {v u : Value} {xs ys : List Int} (h : Two n₀ W p q v u k xs j ys) : Two n₀ W q p u v j ys k xs :=
  ⟨h.bu, h.bv, h.ou, h.ov, fun g h1 h2 => h.apart g h2 h1⟩
/-- behind an append to the first slice: what the store of the new one asks and leaves -/
theorem Two.append {n₀ : Nat} {W w5 : World} {p q k j : Nat} {v u v1 : Value} {xs ys : List Int} {x : Int} {tmp : Obj} (h : Two n₀ W p q v u k xs j ys) (hpq : p ≠ q) (hW : n₀ ≤ W.heap.size) (hp : p < n₀) (hq : q < n₀)
    (hown : w5.ownsRow n₀ 3 1 v1 (k + 1) (xs.map (Value.int .i64) ++ [.int .i64 x])) (hgrow : (W.alloc tmp).grownBy w5 v.ownBlock) (hat : v1.ownBlock = v.ownBlock ∨ v1.ownBlock = some (W.alloc tmp).heap.size) :
    (∃ a c, v1 = .slice a (k + 1) c) ∧ Boxed w5 p 42 v ∧ Two n₀ (w5.setCell ⟨p, 0, none⟩ v1) p q v1 u (k + 1) (xs ++ [x]) j ys ∧ KeepsOthers W (w5.setCell ⟨p, 0, none⟩ v1) ∧ Kept [p, q] W (w5.setCell ⟨p, 0, none⟩ v1) ∧
      (∀ b t s, b < n₀ → b ≠ p → Boxed W b t s → Boxed (w5.setCell ⟨p, 0, none⟩ v1) b t s) ∧ (∀ n w, n ≤ n₀ → n ≤ p → Below n w W → Below n w (w5.setCell ⟨p, 0, none⟩ v1)) ∧ W.heap.size ≤ (w5.setCell ⟨p, 0, none⟩ v1).heap.size := by
  have hlv := h.ov.lt
  have hlu := h.ou.lt
  have hl1 := hown.lt
  have hne : ∀ b, b < n₀ → some b ≠ v.ownBlock := fun b hb e => by have := (hlv b e.symm).1; omega
  have hold : ∀ b t s, b < n₀ → Boxed W b t s → Boxed w5 b t s := fun b t s hb hs => (hs.alloc tmp).kept hgrow (hne b hb)
  have hsz : W.heap.size ≤ w5.heap.size := by have := hgrow.size; simp at this; omega
  have hpl : p < W.heap.size := h.bv.lt
  have hql : q < W.heap.size := h.bu.lt
  have hbs : ∀ b, b ∈ [p, q] → b < W.heap.size := by
    intro b hb
    simp at hb
    omega
  have hou : w5.ownsRow n₀ 3 1 u j (ys.map (Value.int .i64)) := (h.ou.alloc tmp).kept hgrow (by
    cases hu : u.ownBlock with
    | none => exact .inl rfl
    | some g => exact .inr fun e => h.apart g e.symm hu)
  have hkept : ∀ {s : Value} {k : Nat} {zs : List Value}, w5.ownsRow n₀ 3 1 s k zs → (w5.setCell ⟨p, 0, none⟩ v1).ownsRow n₀ 3 1 s k zs := fun hs => hs.kept (grownBy_setCell' w5 p v1) (.inr fun e => by
    have := (hs.lt p e).1
    omega)
  refine ⟨own_slice hown, hold p _ _ hp h.bv, ⟨(hold p _ _ hp h.bv).set v1, (hold q _ _ hq h.bu).other (Ne.symm hpq) v1, ?_, hkept hou, ?_⟩, ?_, ?_, ?_, ?_, ?_⟩
  · have := hkept hown
    simpa using this
  · intro g h1 h2
    rcases hat with e | e
    · exact h.apart g (e.symm.trans h1) h2
    · rw [e] at h1
      injection h1 with h1
      have := (hlu g h2).2
      simp at h1
      omega
  · refine ((KeepsOthers.alloc W tmp).trans (KeepsOthers.of_grownBy hgrow fun j o ej hj => ?_)).trans (KeepsOthers.setCell _ _ _)
    rcases (h.ov.alloc tmp).2 with ⟨hv, _⟩ | ⟨g, cap, cur, hv, _, hgb, _⟩
    · rw [hv] at ej
      cases ej
    · rw [hv] at ej
      injection ej with ej
      have ej : g = j := ej
      subst ej
      rw [hgb] at hj
      injection hj with hj
      rw [← hj]
      rfl
  · exact kept_append (by simp) h.bv hbs hgrow hat (fun b hb e => by have := (hlv b e).1; simp at hb; omega) (fun g e => (hl1 g e).2)
  · intro b t s hb hbp hs
    exact (hold b t s hb hs).other hbp v1
  · intro n w hn hnp hb
    refine ((hb.alloc (by omega) tmp).grown hgrow (by simp; omega) fun j ej => ?_).setCell (p := ⟨p, 0, none⟩) hnp v1
    have := (hlv j ej).1
    omega
  · simpa [World.setCell] using hsz

/-- the steps of the cover, the error, the indexes, the numbers -/
def covL (xs : List Sp) (tlo thi : Int) : List (Int × Int) := runF xs thi (thi - tlo).toNat tlo
def covE (xs : List Sp) (tlo thi : Int) : Int := if okB tlo thi = false then 2 else if checkE xs ≠ 0 then checkE xs else if (covL xs tlo thi).any (fun s => decide (s.2 < 0)) then 10 else 0
def covT (xs : List Sp) (tlo thi : Int) : List Int := if covE xs tlo thi = 0 then (covL xs tlo thi).map (·.2) else []
def covS (xs : List Sp) (tlo thi : Int) : List Int := if covE xs tlo thi = 0 then (covL xs tlo thi).map (·.1) else []
def WalkPost (xs : List Sp) (tlo thi : Int) (w : World) (e : Ending) (w' : World) : Prop :=
  ∃ (A1 A2 : Option Addr) (n1 c1 n2 c2 : Nat), e = .returned (.tuple #[.slice A1 n1 c1, .slice A2 n2 c2, .int .i64 (covE xs tlo thi)]) ∧ IntsAt w'.heap.size w' A1 n1 (covT xs tlo thi) ∧ IntsAt w'.heap.size w' A2 n2 (covS xs tlo thi) ∧ Below w.heap.size w w'

theorem ints_nil (B : Nat) (w : World) (A : Option Addr) : IntsAt B w A 0 [] := ⟨rfl, .inl rfl⟩

theorem walkpost_err {xs : List Sp} {tlo thi : Int} {w w' : World} {r : Int} (hr : covE xs tlo thi = r) (h0 : r ≠ 0) (hb : Below w.heap.size w w') :
    WalkPost xs tlo thi w (.returned (.tuple #[.slice none 0 0, .slice none 0 0, .int .i64 r])) w' := by
  refine ⟨none, none, 0, 0, 0, 0, by rw [hr], ?_, ?_, hb⟩
  · unfold covT; rw [if_neg (by omega)]; exact ints_nil _ _ _
  · unfold covS; rw [if_neg (by omega)]; exact ints_nil _ _ _

theorem results83 (W : World) (x0 x1 x2 x3 : Value) (rest : List Value) (p q r : Nat) (v u x : Value) (h4 : W.cell? ⟨p, 0, none⟩ = some v) (h5 : W.cell? ⟨q, 0, none⟩ = some u) (h6 : W.cell? ⟨r, 0, none⟩ = some x) :
    (results Tryd.f39 (x0 :: x1 :: x2 :: x3 :: .pointer (some ⟨p, 0, none⟩) :: .pointer (some ⟨q, 0, none⟩) :: .pointer (some ⟨r, 0, none⟩) :: rest).toArray).run Tryd.prog W = .ok (.tuple #[v, u, x]) W := by
  simp [results, Tryd.results39, go_sem, h4, h5, h6]
/-- three stores into three boxes -/
theorem three_set {W : World} {p q r : Nat} {t t' t'' : TypeId} {v u x : Value} (h4 : Boxed W p t v) (h5 : Boxed W q t' u) (h6 : Boxed W r t'' x) (hpq : p ≠ q) (hpr : p ≠ r) (hqr : q ≠ r) (v' u' x' : Value) :
    Boxed (((W.setCell ⟨p, 0, none⟩ v').setCell ⟨q, 0, none⟩ u').setCell ⟨r, 0, none⟩ x') p t v' ∧ Boxed (((W.setCell ⟨p, 0, none⟩ v').setCell ⟨q, 0, none⟩ u').setCell ⟨r, 0, none⟩ x') q t' u' ∧ Boxed (((W.setCell ⟨p, 0, none⟩ v').setCell ⟨q, 0, none⟩ u').setCell ⟨r, 0, none⟩ x') r t'' x' :=
  ⟨((h4.set v').other hpq u').other hpr x', (((h5.other (Ne.symm hpq) v').set u')).other hqr x', ((h6.other (Ne.symm hpr) v').other (Ne.symm hqr) u').set x'⟩

theorem cell_one_at {W : World} {n : Nat} (x : Value) (t : TypeId) (h : W.heap.size = n) : ∀ j u, [x][j]? = some u → (W.alloc (.cells #[x] t)).cell? ((⟨n, 0, none⟩ : Addr).add j) = some u := by
  subst h
  exact cell_one_new _ _ _
theorem size_set (W : World) (a : Addr) (v : Value) : (W.setCell a v).heap.size = W.heap.size := by simp [World.setCell]
theorem info3 : (Tryd.prog.info? 3).map (fun i => (i.zero, i.size, i.bytes)) = some (some (.int .i64 0), 1, 8) := by kernel_rfl
theorem own_lt {w : World} {base : Nat} {e : TypeId} {size n : Nat} {v : Value} {xs : List Value} (h : w.ownsRow base e size v n xs) : ∀ g, v.ownBlock = some g → base ≤ g ∧ g < w.heap.size := h.lt

theorem boxed_put {W : World} {b D : Nat} {t : TypeId} {v : Value} {o : Obj} (h : Boxed W b t v) (o' : Obj) (hD : W.heap[D]? = some o) (ho : o.isCells = false) : Boxed (W.putObj D o') b t v :=
  (World.putObj_heap_other (fun e => by
    subst e
    rw [show W.heap[b]? = _ from h] at hD
    injection hD with hD
    subst hD
    cases ho)).trans h
theorem ints_of_own {W : World} {base k c : Nat} {a : Option Addr} {xs : List Int} (h : W.ownsRow base 3 1 (.slice a k c) k (xs.map (Value.int .i64))) : IntsAt W.heap.size W a k xs := by
  have hl : xs.length = k := by have := h.1; simpa using this
  refine ⟨hl, ?_⟩
  rcases h.2 with ⟨_, h0⟩ | ⟨g, cap, cur, hv, hb, hg, hr⟩
  · exact .inl h0
  · injection hv with h1 h2 h3
    subst h1
    refine .inr ⟨g, 0, rfl, lt_of_heap hg, fun i hi => ?_⟩
    have := h.cells (g := g) rfl i (.int .i64 (iA xs i)) (by
      simp only [iA, List.getElem?_map, List.getD_eq_getElem?_getD]
      rw [List.getElem?_eq_getElem (by omega)]
      simp)
    by_cases h0 : i = 0
    · subst h0; simpa [Addr.add] using this
    · simpa [Addr.add, h0] using this
theorem map_ups {n : Nat} (f : Nat → Int) : (ups n n).map (fun x => f x.1) = (List.range n).map f := by
  rw [ups_all]
  refine List.ext_getElem (by simp) fun i h1 h2 => ?_
  simp
theorem map_range_ix (L : List (Int × Int)) : (List.range L.length).map (ixL L) = L.map (·.2) ∧ (List.range L.length).map (atL L) = L.map (·.1) := by
  constructor
  · refine List.ext_getElem (by simp) fun i h1 h2 => ?_
    simp at h1
    simp [ixL, h1]
  · refine List.ext_getElem (by simp) fun i h1 h2 => ?_
    simp at h1
    simp [atL, h1]
theorem ix_mem {L : List (Int × Int)} {j : Nat} (h : j < L.length) : L.getD j (0, 0) ∈ L := by
  simp [List.getD_eq_getElem?_getD, List.getElem?_eq_getElem h]
theorem cov_10 {xs : List Sp} {tlo thi : Int} (ht : okB tlo thi = true) (hc : checkE xs = 0) {j : Nat} (hj : j < (covL xs tlo thi).length) (hn : ixL (covL xs tlo thi) j < 0) : covE xs tlo thi = 10 := by
  unfold covE
  rw [if_neg (by rw [ht]; decide), if_neg (by omega), if_pos (List.any_eq_true.2 ⟨_, ix_mem hj, decide_eq_true hn⟩)]
theorem cov_0 {xs : List Sp} {tlo thi : Int} (ht : okB tlo thi = true) (hc : checkE xs = 0) (hn : ∀ j, j < (covL xs tlo thi).length → 0 ≤ ixL (covL xs tlo thi) j) : covE xs tlo thi = 0 := by
  unfold covE
  rw [if_neg (by rw [ht]; decide), if_neg (by omega), if_neg]
  intro h
  obtain ⟨s, hs, hd⟩ := List.any_eq_true.1 h
  obtain ⟨k, hk, rfl⟩ := List.mem_iff_getElem.1 hs
  have h1 := hn k hk
  have h2 := of_decide_eq_true hd
  simp only [ixL, List.getD_eq_getElem?_getD, List.getElem?_eq_getElem hk, Option.getD_some] at h1
  omega

/-- the caller's invariant -/
structure WalkI (w w4 : World) (L : List (Int × Int)) (p : Nat) (pre : List (Fin L.length)) (W : World) : Prop where
  two : ∃ v u, Two w4.heap.size W p (p + 1) v u pre.length (pre.map fun x => ixL L x.1) pre.length (pre.map fun x => atL L x.1)
  pos : ∀ x, x ∈ pre → 0 ≤ ixL L x.1
  b4 : Boxed W (w.heap.size + 1) 42 (.slice none 0 0)
  b5 : Boxed W (w.heap.size + 1 + 1) 42 (.slice none 0 0)
  b6 : Boxed W (w.heap.size + 1 + 1 + 1) 25 (.int .i64 0)
  below : Below w.heap.size w W
  size : w4.heap.size ≤ W.heap.size
structure WalkX (w : World) (L : List (Int × Int)) (c : Code) (pre : List (Fin L.length)) (W : World) : Prop where
  ret : c = .ret
  neg : ∃ x, x ∈ pre ∧ ixL L x.1 < 0
  b4 : Boxed W (w.heap.size + 1) 42 (.slice none 0 0)
  b5 : Boxed W (w.heap.size + 1 + 1) 42 (.slice none 0 0)
  b6 : Boxed W (w.heap.size + 1 + 1 + 1) 25 (.int .i64 10)
  below : Below w.heap.size w W
theorem WalkI.abides {w w4 : World} {L : List (Int × Int)} {p : Nat} (hp : w.heap.size + 4 ≤ p) (h4 : p + 4 ≤ w4.heap.size) : Abides w4.heap.size [p, p + 1] (WalkI w w4 L p) := fun s W W' h ht => by
  obtain ⟨v, u, h2⟩ := h.two
  exact ⟨⟨v, u, turn_old ht h2.bv (by omega), turn_old ht h2.bu (by omega), turn_row ht (by simp) h2.bv h2.ov, turn_row ht (by simp) h2.bu h2.ou, h2.apart⟩, h.pos,
    turn_old ht h.b4 (by omega), turn_old ht h.b5 (by omega), turn_old ht h.b6 (by omega), turn_below ht h.below (by omega) (Nat.le_refl _), Nat.le_trans h.size ht.size⟩
theorem WalkX.abides {w w4 : World} {L : List (Int × Int)} {p : Nat} (hp : w.heap.size + 4 ≤ p) (h4 : p + 4 ≤ w4.heap.size) (c : Code) : Abides w4.heap.size [p, p + 1] (WalkX w L c) := fun s W W' h ht =>
  ⟨h.ret, h.neg, turn_old ht h.b4 (by omega), turn_old ht h.b5 (by omega), turn_old ht h.b6 (by omega), turn_below ht h.below (by omega) (Nat.le_refl _)⟩

set_option maxRecDepth 100000 in
set_option maxHeartbeats 4000000 in
theorem walk_in (tlo thi : Int) (A : Option Addr) (n cap : Nat) (xs : List Sp) (w : World) (hx : SpansAt w.heap.size w A n xs) :
    CallsIn Fence.wide 10 Tryd.prog 39 #[.agg #[.int .i64 tlo, .int .i64 thi], .slice A n cap] w (WalkPost xs tlo thi w) := by
  have HX := hide hx
  clear hx
  refine callsIn_of_wp_marks Tryd.func39 rfl trivial ?_ rfl
  simp only [Tryd.ntmps39, List.size_toArray, List.length_cons, List.length_nil, Nat.reduceAdd, Nat.reduceSub, Array.replicate_succ, Array.replicate_zero, List.push_toArray, List.append_toArray, List.nil_append, List.cons_append]
  gi_wp2_with fail
  -- the four blocks
  have hG0 := ((((Gr.refl w).alloc (.cells #[.int .i64 tlo, .int .i64 thi] 41)).alloc (.cells #[.slice none 0 0] 42)).alloc (.cells #[.slice none 0 0] 42)).alloc (.cells #[.int .i64 0] 25)
  obtain ⟨w1, hw1⟩ : ∃ w1, (((w.alloc (.cells #[.int .i64 tlo, .int .i64 thi] 41)).alloc (.cells #[.slice none 0 0] 42)).alloc (.cells #[.slice none 0 0] 42)).alloc (.cells #[.int .i64 0] 25) = w1 := ⟨_, rfl⟩
  have bt : w1.heap[w.heap.size]? = some (.cells #[.int .i64 tlo, .int .i64 thi] 41 (0, 0)) := by rw [← hw1]; exact heap_old _ (heap_old _ (heap_old _ (heap_new _ rfl)))
  have b4 : Boxed w1 (w.heap.size + 1) 42 (.slice none 0 0) := by rw [← hw1]; exact heap_old _ (heap_old _ (heap_new _ (size_alloc' _ rfl)))
  have b5 : Boxed w1 (w.heap.size + 1 + 1) 42 (.slice none 0 0) := by rw [← hw1]; exact heap_old _ (heap_new _ (size_alloc' _ (size_alloc' _ rfl)))
  have b6 : Boxed w1 (w.heap.size + 1 + 1 + 1) 25 (.int .i64 0) := by rw [← hw1]; exact heap_new _ (size_alloc' _ (size_alloc' _ (size_alloc' _ rfl)))
  have hsz1 : w1.heap.size = w.heap.size + 4 := by rw [← hw1]; simp
  rw [hw1] at hG0 ⊢
  clear hw1
  refine ⟨trivial, (callsIn_wide (n := 9).2 (valid_any _ _ _)).mono ?_⟩
  rintro e w2 ⟨rfl, hw2⟩
  have hG2 : Gr w1 w2 := by rw [← hw2]; exact (Gr.refl _).alloc _
  clear hw2
  cases ht : okB tlo thi
  · have c4 := (boxed_gr b4 hG2).cell
    have c5 := (boxed_gr b5 hG2).cell
    have c6 := (boxed_gr b6 hG2).cell
    have f4 := (boxed_gr b4 hG2).frozen
    have f5 := (boxed_gr b5 hG2).frozen
    have f6 := (boxed_gr b6 hG2).frozen
    have HE : Hid (covE xs tlo thi = 2) := by show covE xs tlo thi = 2; unfold covE; rw [if_pos ht]
    have HB := hide ((hG0.trans hG2).below)
    have h3 := three_set (boxed_gr b4 hG2) (boxed_gr b5 hG2) (boxed_gr b6 hG2) (by omega) (by omega) (by omega) (.slice none 0 0) (.slice none 0 0) (.int .i64 2)
    clear hG0 hG2 bt b4 b5 b6
    gi_wp2
    exact ⟨_, results83 _ _ _ _ _ _ _ _ _ _ _ _ h3.1.cell h3.2.1.cell h3.2.2.cell, walkpost_err HE.out (by decide) (((HB.out.setCell (by dsimp only; omega) _).setCell (by dsimp only; omega) _).setCell (by dsimp only; omega) _)⟩
  · by_cases hc : checkE xs = 0
    · have hcall := check_any A n cap xs w2 (HX.out.gr (hG0.trans hG2))
      rw [hc] at hcall
      have HC := hide (callsIn_wide (n := 9).2 hcall)
      have HCN := hide hc
      have HT := hide ht
      have HB := hide (hG0.trans hG2)
      have BT := hide (heap_gr bt hG2)
      have B4 := hide (boxed_gr b4 hG2)
      have B5 := hide (boxed_gr b5 hG2)
      have B6 := hide (boxed_gr b6 hG2)
      have t0 := cell_of_heap (heap_gr bt hG2) 0
      have t1 := cell_of_heap (heap_gr bt hG2) 1
      simp at t0 t1
      clear hcall hc bt b4 b5 b6
      gi_wp2_with fail
      refine ⟨trivial, HC.out.mono ?_⟩
      rintro e w3 ⟨rfl, hG3⟩
      have hle3 : w.heap.size + 4 ≤ w3.heap.size := by have := hG2.size; have := hG3.size; omega
      have T0 := (hG3.cell (p := ⟨w.heap.size, 0, none⟩) (by have := hG2.size; show w.heap.size < w2.heap.size; omega)).trans t0
      have T1 := (hG3.cell (p := ⟨w.heap.size, 1, none⟩) (by have := hG2.size; show w.heap.size < w2.heap.size; omega)).trans t1
      have HB3 := hide (HB.out.trans hG3)
      have D4 := hide (boxed_gr B4.out hG3)
      have D5 := hide (boxed_gr B5.out hG3)
      have D6 := hide (boxed_gr B6.out hG3)
      clear t0 t1 hG0 hG2 hG3 B4 B5 B6 BT HB HC
      have u0 : ((w3.alloc (.cells #[.slice none 0 0] 42)).alloc (.cells #[.slice none 0 0] 42)).cell? ⟨w.heap.size, 0, none⟩ = some (.int .i64 tlo) := (World.cell?_alloc_lt _ _ _ (by simp; omega)).trans ((World.cell?_alloc_lt _ _ _ (by dsimp only; omega)).trans T0)
      have u1 : ((w3.alloc (.cells #[.slice none 0 0] 42)).alloc (.cells #[.slice none 0 0] 42)).cell? ⟨w.heap.size, 1, none⟩ = some (.int .i64 thi) := (World.cell?_alloc_lt _ _ _ (by simp; omega)).trans ((World.cell?_alloc_lt _ _ _ (by dsimp only; omega)).trans T1)
      gi_wp2_with fail
      have hst := steps_any tlo thi A n cap ((w3.alloc (.cells #[.slice none 0 0] 42)).alloc (.cells #[.slice none 0 0] 42))
      simp only [World.size_alloc] at hst
      refine ⟨trivial, (callsIn_wide (n := 9).2 hst).mono ?_⟩
      rintro e w4 ⟨rfl, hw4⟩
      obtain ⟨p, hp⟩ : ∃ p, w3.heap.size = p := ⟨_, rfl⟩
      have hp4 : w.heap.size + 4 ≤ p := by omega
      have bv : Boxed w4 p 42 (.slice none 0 0) := by rw [← hw4]; exact heap_old _ (heap_old _ (heap_old _ (heap_new _ hp)))
      have bu : Boxed w4 (p + 1) 42 (.slice none 0 0) := by rw [← hw4]; exact heap_old _ (heap_old _ (heap_new _ (size_alloc' _ hp)))
      have bt : w4.heap[p + 1 + 1]? = some (.cells #[.int .i64 tlo, .int .i64 thi] 41 (0, 0)) := by rw [← hw4]; exact heap_old _ (heap_new _ (size_alloc' _ (size_alloc' _ hp)))
      have bl : Boxed w4 (p + 1 + 1 + 1) 22 (.slice A n cap) := by rw [← hw4]; exact heap_new _ (size_alloc' _ (size_alloc' _ (size_alloc' _ hp)))
      have hG4 : Gr w3 w4 := by rw [← hw4]; exact ((((Gr.refl w3).alloc _).alloc _).alloc _).alloc _
      have hsz4 : w4.heap.size = p + 4 := by rw [← hw4, ← hp]; simp
      have b4 := boxed_gr D4.out hG4
      have b5 := boxed_gr D5.out hG4
      have b6 := boxed_gr D6.out hG4
      have hbw := HB3.out.trans hG4
      have hxs := HX.out.below hbw.below
      rw [hp]
      clear hw4 u0 u1 T0 T1 D4 D5 D6 HB3 hG4 hst hp hle3
      gi_wp2_with fail
      have hnr : ∀ g, ¬ RowOf [p, p + 1] w4 g := by
        rintro g ⟨b, hb, v, hc, ho⟩
        have : v = .slice none 0 0 := by
          simp at hb
          rcases hb with rfl | rfl
          · rw [bv.cell] at hc; injection hc with hc; exact hc.symm
          · rw [bu.cell] at hc; injection hc with hc; exact hc.symm
        subst this
        cases ho
      obtain ⟨L, hL⟩ : ∃ L, L = runF xs thi (thi - tlo).toNat tlo := ⟨_, rfl⟩
      have HL := hide hL
      clear hL
      have c0 := cell_of_heap bt 0
      have c1 := cell_of_heap bt 1
      simp at c0 c1
      have hok : okTo xs n ∧ n ≤ 128 := by
        have h1 := HCN.out
        have h2 := HX.out.1
        unfold checkE at h1
        split at h1
        · omega
        · split at h1
          · exact ⟨by rw [← h2]; assumption, by omega⟩
          · omega
      refine range_own (m := 10) (gf := 67) (lb := #[.pointer (some ⟨p + 1 + 1, 0, none⟩), .pointer (some ⟨p + 1 + 1 + 1, 0, none⟩)]) rfl (enters_of Tryd.func67 (by kernel_rfl) rfl)
        (steps_seq 9 (by omega) (p + 1 + 1) (p + 1 + 1 + 1) [p, p + 1] A n cap xs tlo thi L HL.out HT.out hok.1 hok.2 w4 (by simp; omega) (fun g h => absurd h (hnr g)) c0 c1 ⟨by simp; omega, hnr _⟩ (by omega) bl.cell ⟨by simp; omega, hnr _⟩ (by omega) w.heap.size (by omega) hxs (fun k hk => ⟨by simp; omega, hnr k⟩))
        (fun _ => rfl) (by simp; omega) (WalkI w w4 L p) (WalkX w L) (WalkI.abides hp4 (by omega)) (WalkX.abides hp4 (by omega))
        ⟨⟨_, _, bv, bu, World.ownsRow_nil _ _ _ _, World.ownsRow_nil _ _ _ _, fun g h => by cases h⟩, (fun x hx => by simp at hx), b4, b5, b6, hbw.below, Nat.le_refl _⟩
        (fun x a' _ => a' = { tmps := #[.agg #[.int .i64 tlo, .int .i64 thi], .slice A n cap, .pointer (some ⟨w.heap.size, 0, none⟩), undef, .pointer (some ⟨w.heap.size + 1, 0, none⟩), .pointer (some ⟨w.heap.size + 1 + 1, 0, none⟩), .pointer (some ⟨w.heap.size + 1 + 1 + 1, 0, none⟩), .int .i64 0,
          .pointer (some ⟨p, 0, none⟩), .pointer (some ⟨p + 1, 0, none⟩), .int .i64 (atL L x.1), .int .i64 (ixL L x.1), .agg #[.int .i64 tlo, .int .i64 thi], .bool true, .bool false, .slice A n cap, .int .i64 0, .int .i64 0, .bool false, undef, .agg #[.int .i64 tlo, .int .i64 thi], .slice A n cap,
          .func (.func 67) #[] #[.pointer (some ⟨p + 1 + 1, 0, none⟩), .pointer (some ⟨p + 1 + 1 + 1, 0, none⟩)], .int .i64 (atL L x.1), .int .i64 (ixL L x.1), undef, undef, undef, undef, undef, undef, undef, undef, undef, undef, undef, undef], defers := [] })
        (fun _ _ _ _ _ _ h _ _ _ => h) ?assign ?body ?done ?stop
      case assign =>
        intro l pre x W K hI hK
        dsimp only [encS]
        gi_wp2
        exact hK _ _ (Below.refl _ _) rfl
      case body =>
        rintro l pre x a' W hl hI rfl hlt
        obtain ⟨i0, hi0, hz0, hz1, hz2⟩ := info_parts info3
        obtain ⟨v, u, h2⟩ := hI.two
        obtain ⟨va, vc, rfl⟩ := own_slice h2.ov
        obtain ⟨ua, uc, rfl⟩ := own_slice h2.ou
        have hLn : L.length ≤ 2199023255552 := by
          have h1 := runF_length xs thi (thi - tlo).toNat tlo
          have h3 := okB_true HT.out
          rw [← HL.out] at h1
          omega
        by_cases hneg : ixL L x.1 < 0
        · have hd : decide (ixL L x.1 < 0) = true := decide_eq_true hneg
          have c4 := hI.b4.cell
          have c5 := hI.b5.cell
          have c6 := hI.b6.cell
          have f4 := hI.b4.frozen
          have f5 := hI.b5.frozen
          have f6 := hI.b6.frozen
          have h3 := three_set hI.b4 hI.b5 hI.b6 (by omega) (by omega) (by omega) (.slice none 0 0) (.slice none 0 0) (.int .i64 10)
          have HB := hide hI.below
          have HN := hide hneg
          clear h2 hI
          gi_wp2
          exact ⟨(((KeepsOthers.setCell _ _ _).trans (KeepsOthers.setCell _ _ _)).trans (KeepsOthers.setCell _ _ _)).from _, rfl, ⟨x, by simp, HN.out⟩, h3.1, h3.2.1, h3.2.2,
            ((HB.out.setCell (by dsimp only; omega) _).setCell (by dsimp only; omega) _).setCell (by dsimp only; omega) _⟩
        · have hd : decide (ixL L x.1 < 0) = false := decide_eq_false hneg
          have hd' : ¬ ixL L x.1 < 0 := hneg
          have cv := h2.bv.cell
          have hszW := hI.size
          have hb1 : pre.length + 1 ≤ maxLen := by unfold maxLen; omega
          have hb2 : (pre.length + 1) * 8 ≤ 140737488355328 := by omega
          have hb3 : w4.heap.size ≤ (W.alloc (.cells #[.int .i64 (ixL L x.1)] 3)).heap.size := by simp; omega
          have H2 := hide h2
          have HI := hide hI
          have HB1 := hide hb1
          have HB2 := hide hb2
          clear h2 hI hb1 hb2
          gi_wp2_with (first | (gi_at_builtin; refine wpListIn_append_own_at _ rfl (.tmp 27) (.tmp 29) _ rfl w4.heap.size 3 i0 (.int .i64 0) 1 8 Tryd.underlying42 hi0 hz0 hz1 hz2 rfl (by decide) _ _ _ rfl (H2.out.ov.alloc _) ⟨W.heap.size, 0, none⟩ 1 1 [.int .i64 (ixL L x.1)] rfl rfl (cell_one_new _ _ _) (by simp [Value.oneCell']) HB1.out HB2.out hb3 ?_; intro v1 w5 hown1 hgrow1 hnil1 hat1; obtain ⟨⟨a1, cc1, rfl⟩, bb1, tt1, r1⟩ := H2.out.append (by omega) HI.out.size (by omega) (by omega) hown1 hgrow1 hat1; have ce1 := bb1.cell; have cf1 := bb1.frozen; have cu1 := tt1.bu.cell; have T1 := hide tt1; have R1 := hide r1; have hb4 : w4.heap.size ≤ ((w5.setCell ⟨p, 0, none⟩ (.slice a1 (pre.length + 1) cc1)).alloc (.cells #[.int .i64 (atL L x.1)] 3)).heap.size := (by have := HI.out.size; have := R1.out.2.2.2.2; simp only [World.size_alloc]; omega); clear hown1 hgrow1 hnil1 hat1 bb1 tt1 r1) | (gi_at_builtin; refine wpListIn_append_own_at _ rfl (.tmp 31) (.tmp 33) _ rfl w4.heap.size 3 i0 (.int .i64 0) 1 8 Tryd.underlying42 hi0 hz0 hz1 hz2 rfl (by decide) _ _ _ rfl (T1.out.ou.alloc _) ⟨w5.heap.size, 0, none⟩ 1 1 [.int .i64 (atL L x.1)] rfl rfl (cell_one_at _ _ (size_set _ _ _)) (by simp [Value.oneCell']) HB1.out HB2.out hb4 ?_; intro v2 w6 hown2 hgrow2 hnil2 hat2; obtain ⟨⟨a2, cc2, rfl⟩, bb2, tt2, r2⟩ := T1.out.swap.append (by omega) (by have := HI.out.size; have := R1.out.2.2.2.2; omega) (by omega) (by omega) hown2 hgrow2 hat2; have ce2 := bb2.cell; have cf2 := bb2.frozen; have T2 := hide tt2; have R2 := hide r2; clear hown2 hgrow2 hnil2 hat2 bb2 tt2 r2))
          have hK1 := R1.out.2.1
          have hK2 := R2.out.2.1.perm (bs' := [p, p + 1]) (by intro b; simp; omega)
          exact ⟨(R1.out.1.trans R2.out.1).from _, hK1.trans hK2, ⟨⟨_, _, by simpa using T2.out.swap⟩, fun y hy => by
              rw [List.mem_append] at hy
              rcases hy with hy | hy
              · exact HI.out.pos y hy
              · obtain rfl : y = x := by simpa using hy
                exact hneg,
            R2.out.2.2.1 _ _ _ (by omega) (by omega) (R1.out.2.2.1 _ _ _ (by omega) (by omega) HI.out.b4), R2.out.2.2.1 _ _ _ (by omega) (by omega) (R1.out.2.2.1 _ _ _ (by omega) (by omega) HI.out.b5), R2.out.2.2.1 _ _ _ (by omega) (by omega) (R1.out.2.2.1 _ _ _ (by omega) (by omega) HI.out.b6),
            R2.out.2.2.2.1 _ _ (by omega) (by omega) (R1.out.2.2.2.1 _ _ (by omega) (by omega) HI.out.below), by have := HI.out.size; have := R1.out.2.2.2.2; have := R2.out.2.2.2.2; omega⟩⟩
      case done =>
        rintro D ys W hD rfl hI hK
        obtain ⟨v, u, h2⟩ := hI.two
        obtain ⟨va, vc, rfl⟩ := own_slice h2.ov
        obtain ⟨ua, uc, rfl⟩ := own_slice h2.ou
        have cv := h2.bv.cell
        have cu := h2.bu.cell
        have c4 := hI.b4.cell
        have c5 := hI.b5.cell
        have c6 := hI.b6.cell
        have f4 := hI.b4.frozen
        have f5 := hI.b5.frozen
        have f6 := hI.b6.frozen
        have HI := hide hI
        have H2 := hide h2
        clear hI h2
        gi_wp2_with fail
        gi_region
        gi_wp2
        refine ⟨by simp, .inl ⟨_, _, rfl, run_takeDeferred (ds := []) ?hD, ?_⟩⟩
        case hD => exact (Below.heap_setCell _ _ _ _ (by dsimp only; omega)).trans ((Below.heap_setCell _ _ _ _ (by dsimp only; omega)).trans ((Below.heap_setCell _ _ _ _ (by dsimp only; omega)).trans hK))
        have hD3 : ((((W.setCell ⟨w.heap.size + 1, 0, none⟩ (.slice va (ups L.length L.length).length vc)).setCell ⟨w.heap.size + 1 + 1, 0, none⟩ (.slice ua (ups L.length L.length).length uc)).setCell ⟨w.heap.size + 1 + 1 + 1, 0, none⟩ (.int .i64 0)).drew).heap[D]? = some (.deferred (some [])) :=
          (Below.heap_setCell _ _ _ _ (by dsimp only; omega)).trans ((Below.heap_setCell _ _ _ _ (by dsimp only; omega)).trans ((Below.heap_setCell _ _ _ _ (by dsimp only; omega)).trans hK))
        have h3 := three_set HI.out.b4 HI.out.b5 HI.out.b6 (by omega) (by omega) (by omega) (.slice va (ups L.length L.length).length vc) (.slice ua (ups L.length L.length).length uc) (.int .i64 0)
        have k4 := boxed_put (W := ((((W.setCell ⟨w.heap.size + 1, 0, none⟩ (.slice va (ups L.length L.length).length vc)).setCell ⟨w.heap.size + 1 + 1, 0, none⟩ (.slice ua (ups L.length L.length).length uc)).setCell ⟨w.heap.size + 1 + 1 + 1, 0, none⟩ (.int .i64 0)).drew)) h3.1 (.deferred none) hD3 rfl
        have k5 := boxed_put (W := ((((W.setCell ⟨w.heap.size + 1, 0, none⟩ (.slice va (ups L.length L.length).length vc)).setCell ⟨w.heap.size + 1 + 1, 0, none⟩ (.slice ua (ups L.length L.length).length uc)).setCell ⟨w.heap.size + 1 + 1 + 1, 0, none⟩ (.int .i64 0)).drew)) h3.2.1 (.deferred none) hD3 rfl
        have k6 := boxed_put (W := ((((W.setCell ⟨w.heap.size + 1, 0, none⟩ (.slice va (ups L.length L.length).length vc)).setCell ⟨w.heap.size + 1 + 1, 0, none⟩ (.slice ua (ups L.length L.length).length uc)).setCell ⟨w.heap.size + 1 + 1 + 1, 0, none⟩ (.int .i64 0)).drew)) h3.2.2 (.deferred none) hD3 rfl
        have ho : ∀ {s : Value} {k : Nat} {zs : List Value}, W.ownsRow w4.heap.size 3 1 s k zs → (((((W.setCell ⟨w.heap.size + 1, 0, none⟩ (.slice va (ups L.length L.length).length vc)).setCell ⟨w.heap.size + 1 + 1, 0, none⟩ (.slice ua (ups L.length L.length).length uc)).setCell ⟨w.heap.size + 1 + 1 + 1, 0, none⟩ (.int .i64 0)).drew).putObj D (.deferred none)).ownsRow w4.heap.size 3 1 s k zs := fun h =>
          ownsRow_putObj (W := ((((W.setCell ⟨w.heap.size + 1, 0, none⟩ (.slice va (ups L.length L.length).length vc)).setCell ⟨w.heap.size + 1 + 1, 0, none⟩ (.slice ua (ups L.length L.length).length uc)).setCell ⟨w.heap.size + 1 + 1 + 1, 0, none⟩ (.int .i64 0)).drew)) (ownsRow_setCell_below (ownsRow_setCell_below (ownsRow_setCell_below h (by dsimp only; omega) _) (by dsimp only; omega) _) (by dsimp only; omega) _) _ hD3 rfl
        have hE : covE xs tlo thi = 0 := cov_0 HT.out HCN.out (by
          unfold covL
          rw [← HL.out]
          intro j hj
          exact HI.out.pos ⟨j, hj⟩ (by rw [ups_all]; simp))
        have hT : covT xs tlo thi = (ups L.length L.length).map (fun x => ixL L x.1) := by
          rw [map_ups (ixL L), (map_range_ix L).1]; unfold covT covL; rw [if_pos hE, ← HL.out]
        have hS : covS xs tlo thi = (ups L.length L.length).map (fun x => atL L x.1) := by
          rw [map_ups (atL L), (map_range_ix L).2]; unfold covS covL; rw [if_pos hE, ← HL.out]
        exact ⟨_, results83 _ _ _ _ _ _ _ _ _ _ _ _ k4.cell k5.cell k6.cell, _, _, _, _, _, _, by rw [hE], by rw [hT]; exact ints_of_own (ho H2.out.ov), by rw [hS]; exact ints_of_own (ho H2.out.ou),
          ((((HI.out.below.setCell (by dsimp only; omega) _).setCell (by dsimp only; omega) _).setCell (by dsimp only; omega) _).drew).trans (belowK_b (w := w) (Nat.le_refl _) _ D _ _ (by omega) hD3 rfl rfl)⟩
      case stop =>
        rintro D c pre W hD _ hX hK
        obtain rfl := hX.ret
        gi_wp2
        refine ⟨by simp, .inl ⟨_, _, rfl, run_takeDeferred hK, ?_⟩⟩
        obtain ⟨x, _, hneg⟩ := hX.neg
        have k4 := boxed_put hX.b4 (.deferred none) hK rfl
        have k5 := boxed_put hX.b5 (.deferred none) hK rfl
        have k6 := boxed_put hX.b6 (.deferred none) hK rfl
        have hE : covE xs tlo thi = 10 := cov_10 (j := x.1) HT.out HCN.out (by unfold covL; rw [← HL.out]; exact x.2) (by unfold covL; rw [← HL.out]; exact hneg)
        exact ⟨_, results83 _ _ _ _ _ _ _ _ _ _ _ _ k4.cell k5.cell k6.cell, walkpost_err hE (by decide) (hX.below.trans (belowK_b (w := w) (Nat.le_refl _) W D _ _ (by omega) hK rfl rfl))⟩
    · have HC := hide (callsIn_wide (n := 9).2 (check_any A n cap xs w2 (HX.out.gr (hG0.trans hG2))))
      have HE : Hid (covE xs tlo thi = checkE xs) := by show covE xs tlo thi = checkE xs; unfold covE; rw [if_neg (by rw [ht]; decide), if_pos hc]
      have HB := hide (hG0.trans hG2)
      have B4 := hide (boxed_gr b4 hG2)
      have B5 := hide (boxed_gr b5 hG2)
      have B6 := hide (boxed_gr b6 hG2)
      have hc1 : (checkE xs == 0) = false := beq_eq_false_iff_ne.2 hc
      have hc2 : (checkE xs != 0) = true := by rw [bne_iff_ne]; exact hc
      have HCN := hide hc
      clear hG0 hG2 bt b4 b5 b6 hc
      gi_wp2_with fail
      refine ⟨trivial, HC.out.mono ?_⟩
      rintro e w3 ⟨rfl, hG3⟩
      have c4 := (boxed_gr B4.out hG3).cell
      have c5 := (boxed_gr B5.out hG3).cell
      have c6 := (boxed_gr B6.out hG3).cell
      have f4 := (boxed_gr B4.out hG3).frozen
      have f5 := (boxed_gr B5.out hG3).frozen
      have f6 := (boxed_gr B6.out hG3).frozen
      have h3 := three_set (boxed_gr B4.out hG3) (boxed_gr B5.out hG3) (boxed_gr B6.out hG3) (by omega) (by omega) (by omega) (.slice none 0 0) (.slice none 0 0) (.int .i64 (checkE xs))
      have HB3 := hide (HB.out.trans hG3).below
      clear hG3 B4 B5 B6 HB HC
      gi_wp2
      exact ⟨_, results83 _ _ _ _ _ _ _ _ _ _ _ _ h3.1.cell h3.2.1.cell h3.2.2.cell, walkpost_err HE.out HCN.out (((HB3.out.setCell (by dsimp only; omega) _).setCell (by dsimp only; omega) _).setCell (by dsimp only; omega) _)⟩


theorem walk_any (tlo thi : Int) (A : Option Addr) (n cap : Nat) (xs : List Sp) (w : World) (hx : SpansAt w.heap.size w A n xs) :
    Calls Tryd.prog 39 #[.agg #[.int .i64 tlo, .int .i64 thi], .slice A n cap] w (WalkPost xs tlo thi w) := callsIn_wide.1 (walk_in tlo thi A n cap xs w hx)

/-- what Cover and Apart hand back -/
def ListPost (r : Int) (ys : List Int) (w : World) (e : Ending) (w' : World) : Prop :=
  ∃ (A : Option Addr) (n c : Nat), e = .returned (.tuple #[.slice A n c, .int .i64 r]) ∧ IntsAt w'.heap.size w' A n ys ∧ Below w.heap.size w w'

set_option maxHeartbeats 1000000 in
theorem Cover_any (tlo thi : Int) (A : Option Addr) (n cap : Nat) (xs : List Sp) (w : World) (hx : SpansAt w.heap.size w A n xs) :
    Calls Tryd.prog 20 #[.agg #[.int .i64 tlo, .int .i64 thi], .slice A n cap] w (ListPost (covE xs tlo thi) (covT xs tlo thi) w) := by
  have HW := hide (walk_any tlo thi A n cap xs _ (hx.gr ((Gr.refl w).alloc (.cells #[.int .i64 tlo, .int .i64 thi] 41))))
  clear hx
  go_enter Tryd.func20, Tryd.ntmps20
  go_wp2_with fail
  refine HW.out.mono ?_
  rintro e w2 ⟨A1, A2, n1, c1, n2, c2, rfl, h1, h2, hb⟩
  have H1 := hide h1
  have HB := hide hb
  clear h1 h2 hb HW
  go_wp2
  go_ret2
  exact ⟨A1, n1, c1, rfl, H1.out, ((Below.refl _ w).alloc (Nat.le_refl _) _).trans (HB.out.mono (by simp))⟩

end Go.Proofs.YtfahlgjolihmkaaDoor
