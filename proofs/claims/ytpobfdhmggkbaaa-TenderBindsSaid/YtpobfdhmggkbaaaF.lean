/- The frame of a law: its arguments opened, and the promise shut from what a contract leaves. -/
import Derived.Test.YtpobfdhmggkbaaaRows
import Derived.Test.YtpobfdhmggkbaaaE16
import Derived.ProofKit
import Derived.Lib.SmallJoins
import Derived.DataShut
namespace Go.Proofs.Ytpobfdhmggkbaaa
open Go.ChangeShapes Go.WideShapes Go.ChangeAt Go.RowKit Go.Joins Go.Deep

theorem ownT : ownKnob Try.prog.godebug = none := by kernel_rfl
theorem laidT : laidOutB Try.prog = true := by kernel_rfl
theorem lit_range {a : Int} (h : (Lit.int .i64 a).wf = true) : -9223372036854775808 ≤ a ∧ a ≤ 9223372036854775807 := by
  obtain ⟨h3, h4⟩ := (Lit.wf_int_iff .i64 a).1 h
  have e1 : IntKind.i64.min = -9223372036854775808 := by decide
  have e2 : IntKind.i64.max = 9223372036854775807 := by decide
  rw [e1] at h3
  rw [e2] at h4
  exact ⟨h3, h4⟩
theorem lit_u64 {a : Int} (h : (Lit.int .u64 a).wf = true) : natOk .u64 a = true := by
  obtain ⟨h3, h4⟩ := (Lit.wf_int_iff .u64 a).1 h
  have e1 : IntKind.u64.min = 0 := by decide
  rw [e1] at h3
  exact decide_eq_true ⟨h3, h4⟩

theorem lit_u8 {a : Int} (h : (Lit.int .u8 a).wf = true) : 0 ≤ a ∧ a ≤ 255 := by
  obtain ⟨h3, h4⟩ := (Lit.wf_int_iff .u8 a).1 h
  have e1 : IntKind.u8.min = 0 := by decide
  have e2 : IntKind.u8.max = 255 := by decide
  rw [e1] at h3
  rw [e2] at h4
  exact ⟨h3, h4⟩
/-- a slice that came in -/
structure RIn where
  ty : TypeId
  sz : Nat
  A : Option Addr
  n : Nat
  cap : Nat
  fl : List Int
  k : RK
/-- the numbers of a kind -/
def RK.fit : RK → Int → Prop
  | .int .i64, x => -9223372036854775808 ≤ x ∧ x ≤ 9223372036854775807
  | .int k, x => k.min ≤ x ∧ x ≤ k.max
  | .bool, x => x = 0 ∨ x = 1
def RIn.blk (r : RIn) : Blk := ⟨false, false, r.ty, r.sz, .rows r.k r.fl⟩
def RIn.base (r : RIn) : Base := ⟨true, true, if r.n = 0 then none else r.A, r.cap * r.sz, r.sz⟩
structure RIn.ok (W : World) (r : RIn) : Prop where
  len : r.fl.length = r.sz * r.n
  le : r.n ≤ r.cap
  big : r.cap ≤ 9223372036854775807
  at_ : 0 < r.n → ∃ b off, r.A = some ⟨b, off, none⟩ ∧ b < W.heap.size ∧ ∀ j, j < r.fl.length → W.cell? ⟨b, off + j, none⟩ = some (r.k.val (r.fl.getD j 0))
  fits : ∀ j, j < r.fl.length → r.k.fit (r.fl.getD j 0)
def plOf (l : List RIn) : Pl := fun i => match l[i]? with
  | some r => r.base
  | none => ⟨false, false, none, 0, 0⟩
theorem plOf_some {l : List RIn} {i : Nat} {r : RIn} (h : l[i]? = some r) : plOf l i = r.base := by simp [plOf, h]
def insOf : List RIn → AH
  | [] => []
  | r :: l => r.blk :: insOf l
theorem insOf_get : ∀ {l : List RIn} {i : Nat} {b : Blk}, (insOf l)[i]? = some b → ∃ r, l[i]? = some r ∧ b = r.blk
  | [], _, _, h => by simp [insOf] at h
  | r :: l, 0, b, h => by
    simp [insOf] at h
    exact ⟨r, rfl, h.symm⟩
  | r :: l, i + 1, b, h => by
    simp [insOf] at h
    simpa using insOf_get h
theorem insOf_len : ∀ l : List RIn, (insOf l).length = l.length
  | [] => rfl
  | r :: l => by simp [insOf, insOf_len l]
theorem insOf_ro : ∀ l : List RIn, allRo (insOf l) = true
  | [] => rfl
  | r :: l => by simp [insOf, allRo, RIn.blk, insOf_ro l]
theorem insOf_bodies (L : Nat) : ∀ l : List RIn, okBodies L (insOf l) = true
  | [] => rfl
  | r :: l => by simp [insOf, okBodies, RIn.blk, Body.ok, insOf_bodies L l]
def cxW (W : World) : Cx := ⟨W, fun k => W.heap.size ≤ k, fun _ h => h⟩
theorem inv_of {W : World} {l : List RIn} (h : ∀ r ∈ l, r.ok W) : Inv (cxW W) (plOf l) (insOf l) W := by
  refine ⟨fun i b hb _ => ?_, fun i hi => ?_, fun i hi => ?_, fun i j bi bj _ hi hj _ _ hr => ?_, fun i b hb _ hr => ?_, rfl, rfl, rfl, Nat.le_refl _, fun _ _ _ => rfl⟩
  · obtain ⟨r, hr, rfl⟩ := insOf_get hb
    have ho := h r (List.mem_of_getElem? hr)
    have e := plOf_some hr
    have ha : ∀ a, r.base.addr = some a → 0 < r.n ∧ r.A = some a := by
      intro a ha
      simp only [RIn.base] at ha
      split at ha
      · cases ha
      · exact ⟨by omega, ha⟩
    refine ⟨by rw [e]; rfl, fun hw => (by cases hw), by rw [e]; rfl, ?_, ?_, fun hw => (by cases hw), fun hw => (by cases hw)⟩
    · rw [e]
      intro a hba
      obtain ⟨h1, h2⟩ := ha a hba
      obtain ⟨b, off, h3, h4, _⟩ := ho.at_ h1
      rw [h2] at h3
      injection h3 with h3
      subst h3
      exact ⟨rfl, h4⟩
    · rw [e]
      intro j x hx
      simp only [RIn.blk, Body.get] at hx
      injection hx with hx
      injection hx with h1 h2
      have h1 := of_decide_eq_true h1
      subst h2
      have hn : 0 < r.n := by
        rcases Nat.eq_zero_or_pos r.n with h0 | h0
        · have := ho.len
          rw [h0] at this
          omega
        · exact h0
      obtain ⟨b, off, h3, h4, h5⟩ := ho.at_ hn
      refine ⟨⟨b, off, none⟩, _, ?_, by rw [addr_add]; exact h5 j h1, rfl⟩
      simp only [RIn.base]
      rw [if_neg (by omega), h3]
  · rw [insOf_len] at hi
    rw [plOf_some (List.getElem?_eq_getElem hi)]
    rfl
  · rw [insOf_len] at hi
    simp [plOf, List.getElem?_eq_none hi]
  · obtain ⟨r, _, rfl⟩ := insOf_get hi
    cases hr
  · obtain ⟨r, _, rfl⟩ := insOf_get hb
    cases hr
theorem slc_of {W : World} {l : List RIn} {i : Nat} {r : RIn} (hi : l[i]? = some r) (h : r.ok W) : VRel (plOf l) (.t (.a (.s (.slc i 0 r.n)))) (.slice r.A r.n r.cap) := by
  show (plOf l i).on = true ∧ ∃ ad c, _
  rw [plOf_some hi]
  have hml : maxLen = 9223372036854775807 := by decide
  refine ⟨rfl, r.A, r.cap, rfl, h.le, by rw [hml]; exact h.big, ?_⟩
  rcases Nat.eq_zero_or_pos r.n with h0 | h0
  · exact .inr ⟨h0, .inr ⟨rfl, by simp [RIn.base, h0]⟩⟩
  · obtain ⟨b, off, h1, _, _⟩ := h.at_ h0
    refine .inl ⟨⟨b, off, none⟩, by simp only [RIn.base]; rw [if_neg (by omega), h1], rfl, by rw [addr_add]; exact h1, ?_, fun _ => rfl⟩
    simp only [RIn.base]
    omega

/-- what the walk of a law leaves -/
def LawPost (w : World) (e : Ending) (w' : World) : Prop := e = .returned (.bool true) ∧ Below w.heap.size w w'
theorem law_enter {W : World} {g : FuncId} {l : List RIn} {args : List AV} {ra : Array Value} (h : CallA Try.prog g args (insOf l) (fun v H => v = .boo true ∧ H = insOf l)) (hl : ∀ r ∈ l, r.ok W) (hra : LRel (VRel (plOf l)) args ra.toList)
    (hk : okL some l.length args = true) : Calls Try.prog g ra W (LawPost W) := by
  refine (call_pure h (insOf_ro l) (inv_of hl) (by rw [renL_some]; exact hra) (by rw [insOf_len]; exact hk) (heapW_pre _ _ _ (fun q b hb => ⟨b, by rw [Nat.zero_add]; exact hb, id, rfl, rfl, id, rfl⟩) (insOf_bodies _ l)) (rngB_some _ (Nat.le_refl _))).mono ?_
  rintro e w' ⟨u, v, H1, ρ', rfl, ⟨rfl, _⟩, _, hv, hb⟩
  exact ⟨by rw [show u = .bool true from hv], hb⟩

section
variable {H : Type} {enc : TypeId × Value → H} {W : World}

/-- arguments that read before read again where nothing old has turned -/
theorem all_stay {W' : World} (hb : Below W.heap.size W W') : ∀ (ts : List TypeId) (vs : List Value) (ds : List (DataW H)) (ps : List MemPlace), (∀ t ∈ ts, Try.prog.readableRec t = true ∧ t < Try.prog.types.size) →
    DataW.TrodAll enc Try.prog W 0 (fun _ => true) true ts vs ds ps → (∀ x ∈ ps, x.block < W.heap.size) → DataW.TrodAll enc Try.prog W' 0 (fun b => decide (b < W.heap.size)) true ts vs ds ps
  | [], [], [], _, _, h, _ => h
  | t :: ts, v :: vs, d :: ds, _, ht, ⟨p, q, h1, h2, e⟩, hl => by
    subst e
    exact ⟨p, q, Below.trod laidT (ht t (by simp)).1 (ht t (by simp)).2 h1 hb (fun x hx => hl x (by simp [hx])), all_stay hb ts vs ds q (fun t h => ht t (by simp [h])) h2 (fun x hx => hl x (by simp [hx])), rfl⟩

/-- THE PROMISE SHUT: it returned true, and nothing old has turned. -/
theorem law_shut {f : Func} {s : ChangeSpec} {apart fresh handsOn : Bool} {W' : World} {args : Array Value} {ds : List (DataW H)} {before : List MemPlace}
    (hV : s.vars = []) (hR : f.resultTypes = #[4]) (hT : ∀ t ∈ f.params.toList, Try.prog.readableRec t = true ∧ t < Try.prog.types.size)
    (hF : s.fn H (ds ++ []) = { results := [.lit (.bool true)], args := ds })
    (hW : DataW.Whole enc Try.prog f.params.toList s.vars apart W args.toList ds [] before) (hb : Below W.heap.size W W') :
    s.post enc Try.prog f apart fresh handsOn false W args (.bool true) W' := by
  have hlt : ∀ x ∈ before, x.block < W.heap.size := fun x hx => hW.lt x hx
  have hW2 := hW
  obtain ⟨p, q, hA, hv, rfl, _, _⟩ := hW2
  rw [hV] at hv
  obtain ⟨_, rfl⟩ := trodVars_none hv
  rw [List.append_nil] at hW hlt
  have hA' := all_stay hb _ _ _ _ hT hA hlt
  refine ⟨ds, [], p, [], p, [], hW, ?_, ?_, ?_, World.keptBut_mono (fun x hx => ⟨hx, .inr (.inl hx)⟩) (hb.frame (· ∈ p)), fun h => by cases h⟩
  · rw [hF, hR]
    exact trodAll_mk1 (shut_bool Try.underlying4 _)
  · rw [hF]
    exact hA'
  · rw [hF, hV]
    exact rfl
end
end Go.Proofs.Ytpobfdhmggkbaaa
