/- Slices of numbers, of records of three numbers, that came in. -/
import Derived.Test.YtpobfdhmggkbaaaF
namespace Go.Proofs.Ytpobfdhmggkbaaa
open Go.ChangeShapes Go.WideShapes Go.ChangeAt Go.RowKit Go.Joins Go.Deep

section
variable {H : Type} {enc : TypeId × Value → H} {W : World}
theorem rin_nil (ty k : Nat) (K : RK) : RIn.ok W ⟨ty, k, none, 0, 0, [], K⟩ := ⟨rfl, Nat.le_refl _, by show (0 : Nat) ≤ _; omega, fun h => absurd h (Nat.lt_irrefl 0), fun j h => absurd h (Nat.not_lt_zero j)⟩
theorem rin_some (ty : TypeId) (K : RK) {k : Nat} {a' : Addr} {n cap : Nat} (hl : n ≤ cap) (hbig : cap ≤ 9223372036854775807) (hk : 0 < k) (h : ∀ j, j < k * n → ∃ q : Int, W.cell? (a'.add j) = some (K.val q) ∧ K.fit q) : ∃ fl, RIn.ok W ⟨ty, k, some a', n, cap, fl, K⟩ := by
  obtain ⟨q, hq⟩ := choose_lt h
  refine ⟨(List.range (k * n)).map q, ?_⟩
  have hg : ∀ j, j < k * n → ((List.range (k * n)).map q).getD j 0 = q j := fun j hj => by simp [List.getD_eq_getElem?_getD, hj]
  refine ⟨by simp, hl, hbig, fun hn => ?_, fun j hj => ?_⟩
  · have hpos : 0 < k * n := Nat.mul_pos hk hn
    obtain ⟨b, off, spot⟩ := a'
    have h00 := (hq 0 hpos).1
    have hs : spot = none := by
      cases spot with
      | none => rfl
      | some s =>
        exfalso
        simp only [Addr.add, if_true, World.cell?] at h00
        split at h00 <;> simp at h00
    subst hs
    have hlt : b < W.heap.size := by
      have := World.block_lt_of_cell? _ _ h00
      simpa [addr_add] using this
    refine ⟨b, off, rfl, hlt, fun j hj => ?_⟩
    have hj : j < k * n := by simpa using hj
    have h1 := (hq j hj).1
    rw [addr_add] at h1
    show W.cell? _ = some (K.val (((List.range (k * n)).map q).getD j 0))
    rw [hg j hj]
    exact h1
  · have hj : j < k * n := by simpa using hj
    show K.fit (((List.range (k * n)).map q).getD j 0)
    rw [hg j hj]
    exact (hq j hj).2

set_option maxRecDepth 100000 in
/-- a slice of numbers -/
theorem open_row {t e : TypeId} (ht : Try.prog.underlying t = some (.slice e)) (he : Try.prog.underlying e = some (.int .i64)) (hc : Try.prog.cellsOf e = 1) {fuel : Nat} {v : Value} {x : DataW H × List MemPlace} (hf : DataW.trod enc Try.prog W 0 (fun _ => true) true fuel t [v] = some x) :
    ∃ r : RIn, v = .slice r.A r.n r.cap ∧ r.ok W ∧ r.ty = e ∧ r.sz = 1 ∧ r.k = .int .i64 := by
  rcases open_slice ht hf with ⟨h0, _⟩ | ⟨a', n, cap, m, k, D, Pl, h0, _, hl, hbig, hm, _, hx⟩
  · simp at h0
    subst h0
    exact ⟨⟨e, 1, none, 0, 0, [], .int .i64⟩, rfl, rin_nil e 1 _, rfl, rfl, rfl⟩
  · simp at h0
    subst h0
    simp only [if_true] at hm
    subst hm
    have hml : maxLen = 9223372036854775807 := by decide
    obtain ⟨fl, hfl⟩ := rin_some (W := W) e (.int .i64) (k := 1) (a' := a') hl (by omega) (by omega) (fun j hj => by
      obtain ⟨cs', h1, h2⟩ := hx j (by omega)
      rw [hc, Nat.mul_one] at h1
      obtain ⟨_, hlen, hcell⟩ := World.cells?_some h1
      obtain ⟨q, hq, _, hwf⟩ := DataW.trod_int he h2
      subst hq
      have := hcell 0 (by omega)
      exact ⟨q, by simpa [Addr.add, RK.val] using this, lit_range hwf⟩)
    exact ⟨_, rfl, hfl, rfl, rfl, rfl⟩

set_option maxRecDepth 100000 in
/-- a slice of flags -/
theorem open_rowB {t e : TypeId} (ht : Try.prog.underlying t = some (.slice e)) (he : Try.prog.underlying e = some .bool) (hc : Try.prog.cellsOf e = 1) {fuel : Nat} {v : Value} {x : DataW H × List MemPlace} (hf : DataW.trod enc Try.prog W 0 (fun _ => true) true fuel t [v] = some x) :
    ∃ r : RIn, v = .slice r.A r.n r.cap ∧ r.ok W ∧ r.ty = e ∧ r.sz = 1 ∧ r.k = .bool := by
  rcases open_slice ht hf with ⟨h0, _⟩ | ⟨a', n, cap, m, k, D, Pl, h0, _, hl, hbig, hm, _, hx⟩
  · simp at h0
    subst h0
    exact ⟨⟨e, 1, none, 0, 0, [], .bool⟩, rfl, rin_nil e 1 _, rfl, rfl, rfl⟩
  · simp at h0
    subst h0
    simp only [if_true] at hm
    subst hm
    have hml : maxLen = 9223372036854775807 := by decide
    obtain ⟨fl, hfl⟩ := rin_some (W := W) e (.bool) (k := 1) (a' := a') hl (by omega) (by omega) (fun j hj => by
      obtain ⟨cs', h1, h2⟩ := hx j (by omega)
      rw [hc, Nat.mul_one] at h1
      obtain ⟨_, hlen, hcell⟩ := World.cells?_some h1
      obtain ⟨q, hq, _⟩ := DataW.trod_bool he h2
      subst hq
      have := hcell 0 (by omega)
      exact ⟨if q then 1 else 0, by cases q <;> simpa [Addr.add, RK.val] using this, by cases q <;> simp [RK.fit]⟩)
    exact ⟨_, rfl, hfl, rfl, rfl, rfl⟩

set_option maxRecDepth 100000 in
/-- a slice of bytes -/
theorem open_rowU {t e : TypeId} (ht : Try.prog.underlying t = some (.slice e)) (he : Try.prog.underlying e = some (.int .u8)) (hc : Try.prog.cellsOf e = 1) {fuel : Nat} {v : Value} {x : DataW H × List MemPlace} (hf : DataW.trod enc Try.prog W 0 (fun _ => true) true fuel t [v] = some x) :
    ∃ r : RIn, v = .slice r.A r.n r.cap ∧ r.ok W ∧ r.ty = e ∧ r.sz = 1 ∧ r.k = .int .u8 := by
  rcases open_slice ht hf with ⟨h0, _⟩ | ⟨a', n, cap, m, k, D, Pl, h0, _, hl, hbig, hm, _, hx⟩
  · simp at h0
    subst h0
    exact ⟨⟨e, 1, none, 0, 0, [], .int .u8⟩, rfl, rin_nil e 1 _, rfl, rfl, rfl⟩
  · simp at h0
    subst h0
    simp only [if_true] at hm
    subst hm
    have hml : maxLen = 9223372036854775807 := by decide
    obtain ⟨fl, hfl⟩ := rin_some (W := W) e (.int .u8) (k := 1) (a' := a') hl (by omega) (by omega) (fun j hj => by
      obtain ⟨cs', h1, h2⟩ := hx j (by omega)
      rw [hc, Nat.mul_one] at h1
      obtain ⟨_, hlen, hcell⟩ := World.cells?_some h1
      obtain ⟨q, hq, _, hwf⟩ := DataW.trod_int he h2
      subst hq
      have := hcell 0 (by omega)
      exact ⟨q, by simpa [Addr.add, RK.val] using this, (Lit.wf_int_iff .u8 q).1 hwf⟩)
    exact ⟨_, rfl, hfl, rfl, rfl, rfl⟩

set_option maxRecDepth 100000 in
/-- a slice of records of three numbers -/
theorem open_row3 {t e b : TypeId} {f0 f1 f2 : Field} (ht : Try.prog.underlying t = some (.slice e)) (he : Try.prog.underlying e = some (.struct #[f0, f1, f2])) (h0 : f0.type = b) (h1 : f1.type = b) (h2 : f2.type = b) (hb : Try.prog.underlying b = some (.int .i64)) (hc : Try.prog.cellsOf e = 3) (hc1 : Try.prog.cellsOf b = 1) (ho : f0.offset = 0 ∧ f1.offset = 1 ∧ f2.offset = 2) {fuel : Nat} {v : Value} {x : DataW H × List MemPlace} (hf : DataW.trod enc Try.prog W 0 (fun _ => true) true fuel t [v] = some x) :
    ∃ r : RIn, v = .slice r.A r.n r.cap ∧ r.ok W ∧ r.ty = e ∧ r.sz = 3 ∧ r.k = .int .i64 := by
  rcases open_slice ht hf with ⟨h0, _⟩ | ⟨a', n, cap, m, k, D, Pl, h0', _, hl, hbig, hm, _, hx⟩
  · simp at h0
    subst h0
    exact ⟨⟨e, 3, none, 0, 0, [], .int .i64⟩, rfl, rin_nil e 3 _, rfl, rfl, rfl⟩
  · simp at h0'
    subst h0'
    simp only [if_true] at hm
    subst hm
    have hml : maxLen = 9223372036854775807 := by decide
    obtain ⟨fl, hfl⟩ := rin_some (W := W) e (.int .i64) (k := 3) (a' := a') hl (by omega) (by omega) (fun j hj => by
      obtain ⟨cs', h1', h2'⟩ := hx (j / 3) (by omega)
      rw [hc] at h1'
      obtain ⟨_, hlen, hcell⟩ := World.cells?_some h1'
      obtain ⟨y0, y1, y2, n', _, _, t0, t1, t2⟩ := trod_struct3 he h2'
      obtain ⟨o0, o1, o2⟩ := ho
      rw [h0, hc1, o0] at t0
      rw [h1, hc1, o1] at t1
      rw [h2, hc1, o2] at t2
      match cs', hlen with
      | [v0, v1, v2], _ =>
        obtain ⟨x0, e0, _, w0⟩ := DataW.trod_int hb t0
        obtain ⟨x1, e1, _, w1⟩ := DataW.trod_int hb t1
        obtain ⟨x2, e2, _, w2⟩ := DataW.trod_int hb t2
        injection e0 with e0 _
        injection e1 with e1 _
        injection e2 with e2 _
        subst e0 e1 e2
        have hj3 : j % 3 < 3 := Nat.mod_lt _ (by omega)
        have g := hcell (j % 3) (by simpa using hj3)
        have ea : (a'.add (j / 3 * 3)).add (j % 3) = a'.add j := by
          rw [add_add]
          congr 1
          omega
        rw [ea] at g
        have : j % 3 = 0 ∨ j % 3 = 1 ∨ j % 3 = 2 := by omega
        rcases this with h | h | h <;> rw [h] at g
        · exact ⟨x0, by simpa [RK.val] using g, lit_range w0⟩
        · exact ⟨x1, by simpa [RK.val] using g, lit_range w1⟩
        · exact ⟨x2, by simpa [RK.val] using g, lit_range w2⟩)
    exact ⟨_, rfl, hfl, rfl, rfl, rfl⟩
set_option maxRecDepth 100000 in
theorem open_in {t e : TypeId} (ht : Try.prog.underlying t = some (.slice e)) (he : Try.prog.underlying e = some (.int .i64)) (hc : Try.prog.cellsOf e = 1) {base : Nat} {v : Value} {d : DataW H} {p : List MemPlace} (hv : Value.okWide Try.prog W .any base t v) (h : DataW.Trod enc Try.prog W 0 (fun _ => true) true t v d p) :
    ∃ (A : Option Addr) (n cap : Nat) (fl : List Int), v = .slice A n cap ∧ RIn.ok W ⟨e, 1, A, n, cap, fl, .int .i64⟩ := by
  obtain ⟨a, n, cap, rfl⟩ := okWide_slice ht hv
  obtain ⟨fuel, hf⟩ := h
  obtain ⟨⟨ty, sz, A, m, q, fl, K⟩, h1, h2, h3, h4, h5⟩ := open_row ht he hc (by simpa [Value.cells] using hf)
  dsimp only at h1 h3 h4 h5
  subst h3 h4 h5
  exact ⟨A, m, q, fl, h1, h2⟩
set_option maxRecDepth 100000 in
theorem open_inB {t e : TypeId} (ht : Try.prog.underlying t = some (.slice e)) (he : Try.prog.underlying e = some .bool) (hc : Try.prog.cellsOf e = 1) {base : Nat} {v : Value} {d : DataW H} {p : List MemPlace} (hv : Value.okWide Try.prog W .any base t v) (h : DataW.Trod enc Try.prog W 0 (fun _ => true) true t v d p) :
    ∃ (A : Option Addr) (n cap : Nat) (fl : List Int), v = .slice A n cap ∧ RIn.ok W ⟨e, 1, A, n, cap, fl, .bool⟩ := by
  obtain ⟨a, n, cap, rfl⟩ := okWide_slice ht hv
  obtain ⟨fuel, hf⟩ := h
  obtain ⟨⟨ty, sz, A, m, q, fl, K⟩, h1, h2, h3, h4, h5⟩ := open_rowB ht he hc (by simpa [Value.cells] using hf)
  dsimp only at h1 h3 h4 h5
  subst h3 h4 h5
  exact ⟨A, m, q, fl, h1, h2⟩
set_option maxRecDepth 100000 in
theorem open_inU {t e : TypeId} (ht : Try.prog.underlying t = some (.slice e)) (he : Try.prog.underlying e = some (.int .u8)) (hc : Try.prog.cellsOf e = 1) {base : Nat} {v : Value} {d : DataW H} {p : List MemPlace} (hv : Value.okWide Try.prog W .any base t v) (h : DataW.Trod enc Try.prog W 0 (fun _ => true) true t v d p) :
    ∃ (A : Option Addr) (n cap : Nat) (fl : List Int), v = .slice A n cap ∧ RIn.ok W ⟨e, 1, A, n, cap, fl, .int .u8⟩ := by
  obtain ⟨a, n, cap, rfl⟩ := okWide_slice ht hv
  obtain ⟨fuel, hf⟩ := h
  obtain ⟨⟨ty, sz, A, m, q, fl, K⟩, h1, h2, h3, h4, h5⟩ := open_rowU ht he hc (by simpa [Value.cells] using hf)
  dsimp only at h1 h3 h4 h5
  subst h3 h4 h5
  exact ⟨A, m, q, fl, h1, h2⟩
set_option maxRecDepth 100000 in
theorem open_in3 {t e b : TypeId} {f0 f1 f2 : Field} (ht : Try.prog.underlying t = some (.slice e)) (he : Try.prog.underlying e = some (.struct #[f0, f1, f2])) (h0 : f0.type = b) (h1 : f1.type = b) (h2 : f2.type = b) (hb : Try.prog.underlying b = some (.int .i64)) (hc : Try.prog.cellsOf e = 3) (hc1 : Try.prog.cellsOf b = 1) (ho : f0.offset = 0 ∧ f1.offset = 1 ∧ f2.offset = 2) {base : Nat} {v : Value} {d : DataW H} {p : List MemPlace} (hv : Value.okWide Try.prog W .any base t v) (h : DataW.Trod enc Try.prog W 0 (fun _ => true) true t v d p) :
    ∃ (A : Option Addr) (n cap : Nat) (fl : List Int), v = .slice A n cap ∧ RIn.ok W ⟨e, 3, A, n, cap, fl, .int .i64⟩ := by
  obtain ⟨a, n, cap, rfl⟩ := okWide_slice ht hv
  obtain ⟨fuel, hf⟩ := h
  obtain ⟨⟨ty, sz, A, m, q, fl, K⟩, h1, h2, h3, h4, h5⟩ := open_row3 ht he h0 h1 h2 hb hc hc1 ho (by simpa [Value.cells] using hf)
  dsimp only at h1 h3 h4 h5
  subst h3 h4 h5
  exact ⟨A, m, q, fl, h1, h2⟩
end
end Go.Proofs.Ytpobfdhmggkbaaa
