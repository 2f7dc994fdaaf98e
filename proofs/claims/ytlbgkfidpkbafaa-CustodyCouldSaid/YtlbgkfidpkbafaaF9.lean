/- Slices of acts that came in. -/
import Derived.Test.YtlbgkfidpkbafaaF8
import Derived.Test.YtlbgkfidpkbafaaC32
namespace Go.Proofs.Ytlbgkfidpkbafaa
open Go.ChangeShapes Go.WideShapes Go.ChangeAt Go.RowKit Go.Joins Go.Deep
/-- a slice of records that came in -/
structure RIr where
  ty : TypeId
  sz : Nat
  A : Option Addr
  n : Nat
  cap : Nat
  fl : List Int
  p : List RK
def RIr.blk (r : RIr) : Blk := ⟨false, false, r.ty, r.sz, .recs r.p r.fl⟩
def RIr.base (r : RIr) : Base := ⟨true, true, if r.n = 0 then none else r.A, r.cap * r.sz, r.sz⟩
structure RIr.ok (W : World) (r : RIr) : Prop where
  len : r.fl.length = r.sz * r.n
  le : r.n ≤ r.cap
  big : r.cap ≤ 9223372036854775807
  at_ : 0 < r.n → ∃ b off, r.A = some ⟨b, off, none⟩ ∧ b < W.heap.size ∧ ∀ j, j < r.fl.length → W.cell? ⟨b, off + j, none⟩ = some ((r.p.getD (j % r.p.length) .bool).val (r.fl.getD j 0))
  fits : ∀ j, j < r.fl.length → (r.p.getD (j % r.p.length) .bool).fit (r.fl.getD j 0)
def plOfR (l : List RIr) : Pl := fun i => match l[i]? with
  | some r => r.base
  | none => ⟨false, false, none, 0, 0⟩
theorem plOfR_some {l : List RIr} {i : Nat} {r : RIr} (h : l[i]? = some r) : plOfR l i = r.base := by simp [plOfR, h]
def insOfR : List RIr → AH
  | [] => []
  | r :: l => r.blk :: insOfR l
theorem insOfR_get : ∀ {l : List RIr} {i : Nat} {b : Blk}, (insOfR l)[i]? = some b → ∃ r, l[i]? = some r ∧ b = r.blk
  | [], _, _, h => by simp [insOfR] at h
  | r :: l, 0, b, h => by
    simp [insOfR] at h
    exact ⟨r, rfl, h.symm⟩
  | r :: l, i + 1, b, h => by
    simp [insOfR] at h
    simpa using insOfR_get h
theorem insOfR_len : ∀ l : List RIr, (insOfR l).length = l.length
  | [] => rfl
  | r :: l => by simp [insOfR, insOfR_len l]
theorem insOfR_ro : ∀ l : List RIr, allRo (insOfR l) = true
  | [] => rfl
  | r :: l => by simp [insOfR, allRo, RIr.blk, insOfR_ro l]
theorem insOfR_bodies (L : Nat) : ∀ l : List RIr, okBodies L (insOfR l) = true
  | [] => rfl
  | r :: l => by simp [insOfR, okBodies, RIr.blk, Body.ok, insOfR_bodies L l]
theorem inv_ofR {W : World} {l : List RIr} (h : ∀ r ∈ l, r.ok W) : Inv (cxW W) (plOfR l) (insOfR l) W := by
  refine ⟨fun i b hb _ => ?_, fun i hi => ?_, fun i hi => ?_, fun i j bi bj _ hi hj _ _ hr => ?_, fun i b hb _ hr => ?_, rfl, rfl, rfl, Nat.le_refl _, fun _ _ _ => rfl⟩
  · obtain ⟨r, hr, rfl⟩ := insOfR_get hb
    have ho := h r (List.mem_of_getElem? hr)
    have e := plOfR_some hr
    have ha : ∀ a, r.base.addr = some a → 0 < r.n ∧ r.A = some a := by
      intro a ha
      simp only [RIr.base] at ha
      split at ha
      · cases ha
      · exact ⟨by omega, ha⟩
    refine ⟨by rw [e]; rfl, fun hw => (by cases hw), by rw [e]; rfl, ?_, ?_, fun hw => (by cases hw), fun hw => (by cases hw)⟩
    · rw [e]
      intro a hba
      obtain ⟨h1, h2⟩ := ha a hba
      obtain ⟨b, off, h3, h4, _⟩ := ho.at_ h1
      rw [h2] at h3
      injection h3 with h3
      subst h3
      exact ⟨rfl, h4⟩
    · rw [e]
      intro j x hx
      simp only [RIr.blk, Body.get] at hx
      injection hx with hx
      injection hx with h1 h2
      have h1 := of_decide_eq_true h1
      subst h2
      have hn : 0 < r.n := by
        rcases Nat.eq_zero_or_pos r.n with h0 | h0
        · have := ho.len
          rw [h0] at this
          omega
        · exact h0
      obtain ⟨b, off, h3, h4, h5⟩ := ho.at_ hn
      refine ⟨⟨b, off, none⟩, _, ?_, by rw [addr_add]; exact h5 j h1, rfl⟩
      simp only [RIr.base]
      rw [if_neg (by omega), h3]
  · rw [insOfR_len] at hi
    rw [plOfR_some (List.getElem?_eq_getElem hi)]
    rfl
  · rw [insOfR_len] at hi
    simp [plOfR, List.getElem?_eq_none hi]
  · obtain ⟨r, _, rfl⟩ := insOfR_get hi
    cases hr
  · obtain ⟨r, _, rfl⟩ := insOfR_get hb
    cases hr
theorem slc_ofR {W : World} {l : List RIr} {i : Nat} {r : RIr} (hi : l[i]? = some r) (h : r.ok W) : VRel (plOfR l) (.t (.a (.s (.slc i 0 r.n)))) (.slice r.A r.n r.cap) := by
  show (plOfR l i).on = true ∧ ∃ ad c, _
  rw [plOfR_some hi]
  have hml : maxLen = 9223372036854775807 := by decide
  refine ⟨rfl, r.A, r.cap, rfl, h.le, by rw [hml]; exact h.big, ?_⟩
  rcases Nat.eq_zero_or_pos r.n with h0 | h0
  · exact .inr ⟨h0, .inr ⟨rfl, by simp [RIr.base, h0]⟩⟩
  · obtain ⟨b, off, h1, _, _⟩ := h.at_ h0
    refine .inl ⟨⟨b, off, none⟩, by simp only [RIr.base]; rw [if_neg (by omega), h1], rfl, by rw [addr_add]; exact h1, ?_, fun _ => rfl⟩
    simp only [RIr.base]
    omega

theorem law_enterR {W : World} {g : FuncId} {l : List RIr} {args : List AV} {ra : Array Value} (h : CallA Try.prog g args (insOfR l) (fun v H => v = .boo true ∧ H = insOfR l)) (hl : ∀ r ∈ l, r.ok W) (hra : LRel (VRel (plOfR l)) args ra.toList)
    (hk : okL some l.length args = true) : Calls Try.prog g ra W (LawPost W) := by
  refine (call_pure h (insOfR_ro l) (inv_ofR hl) (by rw [renL_some]; exact hra) (by rw [insOfR_len]; exact hk) (heapW_pre _ _ _ (fun q b hb => ⟨b, by rw [Nat.zero_add]; exact hb, id, rfl, rfl, id, rfl⟩) (insOfR_bodies _ l)) (rngB_some _ (Nat.le_refl _))).mono ?_
  rintro e w' ⟨u, v, H1, ρ', rfl, ⟨rfl, _⟩, _, hv, hb⟩
  exact ⟨by rw [show u = .bool true from hv], hb⟩


section
variable {H : Type} {enc : TypeId × Value → H} {W : World}
theorem rir_nil (ty k : Nat) (p : List RK) : RIr.ok W ⟨ty, k, none, 0, 0, [], p⟩ := ⟨rfl, Nat.le_refl _, by show (0 : Nat) ≤ _; omega, fun h => absurd h (Nat.lt_irrefl 0), fun j h => absurd h (Nat.not_lt_zero j)⟩
theorem rir_some (ty : TypeId) (p : List RK) {k : Nat} {a' : Addr} {n cap : Nat} (hl : n ≤ cap) (hbig : cap ≤ 9223372036854775807) (hk : 0 < k) (h : ∀ j, j < k * n → ∃ q : Int, W.cell? (a'.add j) = some ((p.getD (j % p.length) .bool).val q) ∧ (p.getD (j % p.length) .bool).fit q) : ∃ fl, RIr.ok W ⟨ty, k, some a', n, cap, fl, p⟩ := by
  obtain ⟨q, hq⟩ := choose_lt h
  refine ⟨(List.range (k * n)).map q, ?_⟩
  have hg : ∀ j, j < k * n → ((List.range (k * n)).map q).getD j 0 = q j := fun j hj => by simp [List.getD_eq_getElem?_getD, hj]
  refine ⟨by simp, hl, hbig, fun hn => ?_, fun j hj => ?_⟩
  · have hpos : 0 < k * n := Nat.mul_pos hk hn
    obtain ⟨b, off, spot⟩ := a'
    have h00 := (hq 0 hpos).1
    have hs : spot = none := by
      cases spot with
      | none => rfl
      | some s =>
        exfalso
        simp only [Addr.add, if_true, World.cell?] at h00
        split at h00 <;> simp at h00
    subst hs
    have hlt : b < W.heap.size := by
      have := World.block_lt_of_cell? _ _ h00
      simpa [addr_add] using this
    refine ⟨b, off, rfl, hlt, fun j hj => ?_⟩
    have hj : j < k * n := by simpa using hj
    have h1 := (hq j hj).1
    rw [addr_add] at h1
    show W.cell? _ = some ((p.getD (j % p.length) .bool).val (((List.range (k * n)).map q).getD j 0))
    rw [hg j hj]
    exact h1
  · have hj : j < k * n := by simpa using hj
    show (p.getD (j % p.length) .bool).fit (((List.range (k * n)).map q).getD j 0)
    rw [hg j hj]
    exact (hq j hj).2
theorem array11l {α : Type} {l : List α} (h : l.length = 11) : ∃ c0 c1 c2 c3 c4 c5 c6 c7 c8 c9 c10, l = [c0, c1, c2, c3, c4, c5, c6, c7, c8, c9, c10] := by
  match l, h with
  | [c0, c1, c2, c3, c4, c5, c6, c7, c8, c9, c10], _ => exact ⟨c0, c1, c2, c3, c4, c5, c6, c7, c8, c9, c10, rfl⟩
set_option maxRecDepth 100000 in
set_option maxHeartbeats 1000000 in
theorem open_rowA {fuel : Nat} {v : Value} {x : DataW H × List MemPlace} (hf : DataW.trod enc Try.prog W 0 (fun _ => true) true fuel 22 [v] = some x) :
    ∃ r : RIr, v = .slice r.A r.n r.cap ∧ r.ok W ∧ r.ty = 35 ∧ r.sz = 11 ∧ r.p = kA := by
  have hC : Try.prog.cellsOf 35 = 11 := by kernel_rfl
  have c5 : Try.prog.cellsOf 5 = 1 := by kernel_rfl
  have c3 : Try.prog.cellsOf 3 = 1 := by kernel_rfl
  rcases open_slice Try.underlying22 hf with ⟨h0, _⟩ | ⟨a', n, cap, m, k, D, Pl, h0', _, hl, hbig, hm, _, hx⟩
  · simp at h0
    subst h0
    exact ⟨⟨35, 11, none, 0, 0, [], kA⟩, rfl, rir_nil 35 11 _, rfl, rfl, rfl⟩
  · simp at h0'
    subst h0'
    simp only [if_true] at hm
    subst hm
    have hml : maxLen = 9223372036854775807 := by decide
    obtain ⟨fl, hfl⟩ := rir_some (W := W) 35 kA (k := 11) (a' := a') hl (by omega) (by omega) (fun j hj => by
      obtain ⟨cs', h1', h2'⟩ := hx (j / 11) (by omega)
      rw [hC] at h1'
      obtain ⟨_, hlen, hcell⟩ := World.cells?_some h1'
      obtain ⟨v0, v1, v2, v3, v4, v5, v6, v7, v8, v9, v10, rfl⟩ := array11l hlen
      obtain ⟨xs, n, _, _, hl, hlen, hf⟩ := DataW.trod_struct Try.underlying35 h2'
      match xs, hlen with
      | [y0, y1, y2, y3, y4, y5, y6, y7, y8, y9, y10], _ =>
        have h0 : DataW.trod enc Try.prog W 0 (fun _ => true) true n 5 [v0] = some y0 := by simpa [c5] using hf 0 _ rfl
        have h1 : DataW.trod enc Try.prog W 0 (fun _ => true) true n 3 [v1] = some y1 := by simpa [c3] using hf 1 _ rfl
        have h2 : DataW.trod enc Try.prog W 0 (fun _ => true) true n 3 [v2] = some y2 := by simpa [c3] using hf 2 _ rfl
        have h3 : DataW.trod enc Try.prog W 0 (fun _ => true) true n 3 [v3] = some y3 := by simpa [c3] using hf 3 _ rfl
        have h4 : DataW.trod enc Try.prog W 0 (fun _ => true) true n 3 [v4] = some y4 := by simpa [c3] using hf 4 _ rfl
        have h5 : DataW.trod enc Try.prog W 0 (fun _ => true) true n 3 [v5] = some y5 := by simpa [c3] using hf 5 _ rfl
        have h6 : DataW.trod enc Try.prog W 0 (fun _ => true) true n 3 [v6] = some y6 := by simpa [c3] using hf 6 _ rfl
        have h7 : DataW.trod enc Try.prog W 0 (fun _ => true) true n 3 [v7] = some y7 := by simpa [c3] using hf 7 _ rfl
        have h8 : DataW.trod enc Try.prog W 0 (fun _ => true) true n 3 [v8] = some y8 := by simpa [c3] using hf 8 _ rfl
        have h9 : DataW.trod enc Try.prog W 0 (fun _ => true) true n 3 [v9] = some y9 := by simpa [c3] using hf 9 _ rfl
        have h10 : DataW.trod enc Try.prog W 0 (fun _ => true) true n 3 [v10] = some y10 := by simpa [c3] using hf 10 _ rfl
        obtain ⟨q0, e0, _, w0⟩ := DataW.trod_int Try.underlying5 h0
        obtain ⟨q1, e1, _, w1⟩ := DataW.trod_int Try.underlying3 h1
        obtain ⟨q2, e2, _, w2⟩ := DataW.trod_int Try.underlying3 h2
        obtain ⟨q3, e3, _, w3⟩ := DataW.trod_int Try.underlying3 h3
        obtain ⟨q4, e4, _, w4⟩ := DataW.trod_int Try.underlying3 h4
        obtain ⟨q5, e5, _, w5⟩ := DataW.trod_int Try.underlying3 h5
        obtain ⟨q6, e6, _, w6⟩ := DataW.trod_int Try.underlying3 h6
        obtain ⟨q7, e7, _, w7⟩ := DataW.trod_int Try.underlying3 h7
        obtain ⟨q8, e8, _, w8⟩ := DataW.trod_int Try.underlying3 h8
        obtain ⟨q9, e9, _, w9⟩ := DataW.trod_int Try.underlying3 h9
        obtain ⟨q10, e10, _, w10⟩ := DataW.trod_int Try.underlying3 h10
        injection e0 with e0 _
        injection e1 with e1 _
        injection e2 with e2 _
        injection e3 with e3 _
        injection e4 with e4 _
        injection e5 with e5 _
        injection e6 with e6 _
        injection e7 with e7 _
        injection e8 with e8 _
        injection e9 with e9 _
        injection e10 with e10 _
        subst e0 e1 e2 e3 e4 e5 e6 e7 e8 e9 e10
        have hj3 : j % 11 < 11 := Nat.mod_lt _ (by omega)
        have g := hcell (j % 11) (by simpa using hj3)
        have ea : (a'.add (j / 11 * 11)).add (j % 11) = a'.add j := by
          rw [add_add]
          congr 1
          omega
        rw [ea] at g
        have el : kA.length = 11 := rfl
        rw [el]
        have : j % 11 = 0 ∨ j % 11 = 1 ∨ j % 11 = 2 ∨ j % 11 = 3 ∨ j % 11 = 4 ∨ j % 11 = 5 ∨ j % 11 = 6 ∨ j % 11 = 7 ∨ j % 11 = 8 ∨ j % 11 = 9 ∨ j % 11 = 10 := by omega
        rcases this with h | h | h | h | h | h | h | h | h | h | h <;> rw [h] at g ⊢
        · exact ⟨q0, g, (Lit.wf_int_iff .u8 q0).1 w0⟩
        · exact ⟨q1, g, lit_range w1⟩
        · exact ⟨q2, g, lit_range w2⟩
        · exact ⟨q3, g, lit_range w3⟩
        · exact ⟨q4, g, lit_range w4⟩
        · exact ⟨q5, g, lit_range w5⟩
        · exact ⟨q6, g, lit_range w6⟩
        · exact ⟨q7, g, lit_range w7⟩
        · exact ⟨q8, g, lit_range w8⟩
        · exact ⟨q9, g, lit_range w9⟩
        · exact ⟨q10, g, lit_range w10⟩)
    exact ⟨_, rfl, hfl, rfl, rfl, rfl⟩
set_option maxRecDepth 100000 in
theorem open_acts {base : Nat} {v : Value} {d : DataW H} {p : List MemPlace} (hv : Value.okWide Try.prog W .any base 22 v) (h : DataW.Trod enc Try.prog W 0 (fun _ => true) true 22 v d p) :
    ∃ (A : Option Addr) (n cap : Nat) (fl : List Int), v = .slice A n cap ∧ RIr.ok W ⟨35, 11, A, n, cap, fl, kA⟩ := by
  obtain ⟨a, n, cap, rfl⟩ := okWide_slice Try.underlying22 hv
  obtain ⟨fuel, hf⟩ := h
  obtain ⟨⟨ty, sz, A, m, q, fl, K⟩, h1, h2, h3, h4, h5⟩ := open_rowA (by simpa [Value.cells] using hf)
  dsimp only at h1 h3 h4 h5
  subst h3 h4 h5
  exact ⟨A, m, q, fl, h1, h2⟩
set_option maxRecDepth 20000 in
theorem acts_len {A : Option Addr} {n cap : Nat} {fl : List Int} (h : RIr.ok W ⟨35, 11, A, n, cap, fl, kA⟩) : n * 11 = fl.length := by
  have := h.len
  dsimp only at this
  omega
set_option maxRecDepth 20000 in
theorem acts_kind {A : Option Addr} {n cap : Nat} {fl : List Int} (h : RIr.ok W ⟨35, 11, A, n, cap, fl, kA⟩) : ∀ j, j < n → 0 ≤ fl.getD (j * 11) 0 := fun j hj => by
  have hl := acts_len h
  have hf := h.fits (j * 11) (by dsimp only; omega)
  have e : (j * 11) % kA.length = 0 := by
    show (j * 11) % 11 = 0
    omega
  dsimp only at hf
  rw [e] at hf
  have hf : IntKind.u8.min ≤ fl.getD (j * 11) 0 ∧ fl.getD (j * 11) 0 ≤ IntKind.u8.max := hf
  have e1 : IntKind.u8.min = 0 := by decide
  rw [e1] at hf
  exact hf.1
end
end Go.Proofs.Ytlbgkfidpkbafaa
