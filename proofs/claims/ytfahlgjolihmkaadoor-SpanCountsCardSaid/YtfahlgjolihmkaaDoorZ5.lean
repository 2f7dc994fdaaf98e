/- Contracts of the specification's put and keeps. -/
import Derived.Test.YtfahlgjolihmkaaDoorN6
import Derived.Test.YtfahlgjolihmkaaDoorQ0
import Derived.Deep.RegionHeld3
import Derived.Deep.AppendLies
namespace Go.Proofs.YtfahlgjolihmkaaDoor
open Go.RowKit Go.Sort

/-- a row of ints of the call's own, and nothing old has turned -/
def OwnI (w W : World) (a : Option Addr) (c : Nat) (ys : List Int) : Prop :=
  W.ownsRow w.heap.size 3 1 (.slice a ys.length c) ys.length (ys.map (Value.int .i64)) ∧ Below w.heap.size w W
theorem OwnI.nil (w : World) : OwnI w w none 0 [] := ⟨World.ownsRow_nil _ _ _ _, Below.refl _ _⟩
theorem OwnI.drewN {w W : World} {a : Option Addr} {c : Nat} {ys : List Int} (h : OwnI w W a c ys) (q : Nat) : OwnI w (W.drewN q) a c ys :=
  ⟨h.1, h.2.trans (((Gr.refl W).drewN q).below.mono h.2.size)⟩
theorem OwnI.append {w W w5 : World} {a : Option Addr} {c : Nat} {ys : List Int} {y : Int} {t : Obj} {v : Value} (h : OwnI w W a c ys)
    (ho : w5.ownsRow w.heap.size 3 1 v (ys.length + 1) ((ys.map (Value.int .i64)) ++ [.int .i64 y])) (hg : (W.alloc t).grownBy w5 (Value.slice a ys.length c).ownBlock) {zs : List Int} (hz : zs = ys ++ [y]) :
    ∃ a' c', v = .slice a' zs.length c' ∧ OwnI w w5 a' c' zs := by
  subst hz
  obtain ⟨a', c', rfl⟩ := own_slice ho
  have hl : (ys ++ [y]).length = ys.length + 1 := by simp
  refine ⟨a', c', by rw [hl], ?_, ?_⟩
  · rw [hl, List.map_append]
    exact ho
  · have hb := h.2
    exact (hb.alloc hb.size t).grown hg (by have := hb.size; simp; omega) (fun k e => (h.1.lt k e).1)
theorem OwnI.ints {w W : World} {a : Option Addr} {c : Nat} {ys : List Int} (h : OwnI w W a c ys) : IntsAt W.heap.size W a ys.length ys := ints_of_own h.1

theorem take_one {l : List Int} {k : Nat} (h : k < l.length) : l.take (k + 1) = l.take k ++ [iA l k] := by
  rw [List.take_succ_eq_append_getElem h, iA_get h]

/-- what put hands back -/
def NumsPost (w : World) (ys : List Int) (e : Ending) (w' : World) : Prop := ∃ a c, e = .returned (.slice a ys.length c) ∧ OwnI w w' a c ys

theorem len_of {x : Int} {l : List Int} {k : Nat} {ys : List Int} {d : Bool} (h : insTo x (l.take k) = (ys, d)) : ys.length ≤ k + 1 := by
  have h1 := insTo_length x (l.take k)
  rw [h] at h1
  have h3 : (l.take k).length ≤ k := List.length_take_le _ _
  dsimp only at h1
  split at h1 <;> omega

end Go.Proofs.YtfahlgjolihmkaaDoor
/- Contract of the specification's Made. -/
namespace Go.Proofs.YtfahlgjolihmkaaDoor
open Go.RowKit Go.Sort

/-- numbers in memory, nothing old has turned -/
def EndsI (w W : World) (a : Option Addr) (l : List Int) : Prop := IntsAt W.heap.size W a l.length l ∧ Below w.heap.size w W
theorem EndsI.drew {w W : World} {a : Option Addr} {l : List Int} (h : EndsI w W a l) : EndsI w W.drew a l :=
  ⟨h.1.now ((Gr.refl W).drew).below (Nat.le_refl _), h.2.trans (((Gr.refl W).drew).below.mono h.2.size)⟩
def EndsPost (w W : World) (l : List Int) (e : Ending) (w' : World) : Prop := ∃ a c, e = .returned (.slice a l.length c) ∧ EndsI w w' a l ∧ Below W.heap.size W w'
theorem take_succ_sp {xs : List Sp} {k : Nat} (h : k < xs.length) : xs.take (k + 1) = xs.take k ++ [(loA xs k, hiA xs k)] := by
  rw [List.take_succ_eq_append_getElem h, (loA_get h).1, (loA_get h).2]

/-- a row of spans of the call's own, and nothing old has turned -/
def OwnS (w W : World) (a : Option Addr) (c N : Nat) (out : List Sp) : Prop := out.length = N ∧ W.ownsRow w.heap.size 41 2 (.slice a N c) N (flat out) ∧ Below w.heap.size w W
theorem OwnS.nil (w : World) : OwnS w w none 0 0 [] := ⟨rfl, World.ownsRow_nil _ _ _ _, Below.refl _ _⟩
theorem OwnS.grown {w W W' : World} {a : Option Addr} {c N : Nat} {out : List Sp} (h : OwnS w W a c N out) (hg : Gr W W') : OwnS w W' a c N out :=
  ⟨h.1, h.2.1.kept (hg.grownBy none) (by cases hv : (Value.slice a N c).ownBlock with | none => exact .inl rfl | some g => exact .inr (by simp)), h.2.2.trans (hg.below.mono h.2.2.size)⟩
theorem OwnS.append {w W w1 : World} {a a' : Option Addr} {c c' N : Nat} {out : List Sp} {lo hi : Int} {t : Obj} (h : OwnS w W a c N out)
    (ho : w1.ownsRow w.heap.size 41 2 (.slice a' (N + 1) c') (N + 1) (flat out ++ [.int .i64 lo, .int .i64 hi])) (hg : (W.alloc t).drew.grownBy w1 (Value.slice a N c).ownBlock) :
    OwnS w w1 a' c' (N + 1) (out ++ [(lo, hi)]) := by
  refine ⟨by rw [List.length_append, h.1]; rfl, by rw [flat_append]; exact ho, ?_⟩
  have hb := h.2.2
  have hb2 := (hb.alloc hb.size t).trans ((((Gr.refl (W.alloc t)).drew).below).mono (by have := hb.size; simp; omega))
  exact hb2.grown hg (by have := hb2.size; exact this) (fun k e => (h.2.1.lt k e).1)
theorem OwnS.set {w W : World} {g c p : Nat} {out : List Sp} {v : Int} (h : OwnS w W (some ⟨g, 0, none⟩) c (p + 1) out) (hg : w.heap.size ≤ g) : OwnS w (W.setCell ⟨g, p * 2 + 1, none⟩ (.int .i64 v)) (some ⟨g, 0, none⟩) c (p + 1) (out.set p (loA out p, v)) := by
  obtain ⟨h1, h2⟩ := h.2.1.stored (p * 2 + 1) (.int .i64 v)
  refine ⟨by rw [List.length_set]; exact h.1, ?_, h.2.2.setCell (by exact hg) _⟩
  rw [flat_set out (loA out p, v) p (by rw [h.1]; omega) rfl]
  exact h1
theorem piece_nil (u v : Int) : pieceL [] u v = [] ++ [(u, v)] := by simp [pieceL]
theorem piece_set {out : List Sp} {p : Nat} {u v : Int} (h : out.length = p + 1) (hu : hiA out p = u) : pieceL out u v = out.set p (loA out p, v) := by
  have hne : out ≠ [] := fun e => by rw [e] at h; simp at h
  unfold pieceL
  rw [h, Nat.add_sub_cancel, if_pos ⟨hne, hu⟩]
theorem piece_app {out : List Sp} {p : Nat} {u v : Int} (h : out.length = p + 1) (hu : hiA out p ≠ u) : pieceL out u v = out ++ [(u, v)] := by
  unfold pieceL
  rw [h, Nat.add_sub_cancel, if_neg (fun hh => hu hh.2)]
/-- what Made leaves -/
def MadePost (w : World) (out : List Sp) (e : Ending) (w' : World) : Prop := ∃ a c, e = .returned (.slice a out.length c) ∧ OwnS w w' a c out.length out

end Go.Proofs.YtfahlgjolihmkaaDoor
/- Contracts of spoil, and of the specification's Of, Whole, Two and Not. -/
namespace Go.Proofs.YtfahlgjolihmkaaDoor
open Go.RowKit Go.Sort

theorem setpost_made {ys : List Sp} {w : World} {e : Ending} {w' : World} {a : Option Addr} {c : Nat} (h : OwnS w w' a c ys.length ys) (he : e = .returned (.tuple #[.slice a ys.length c, .int .i64 0])) : SetPost 0 ys w e w' :=
  ⟨a, c, he, h.2.1, h.2.2⟩

end Go.Proofs.YtfahlgjolihmkaaDoor
/- Contracts of resize, Grow and Shrink. -/
namespace Go.Proofs.YtfahlgjolihmkaaDoor
open Go.RowKit Go.Sort

theorem OwnS.below {w W W' : World} {a : Option Addr} {c N : Nat} {out : List Sp} (h : OwnS w W a c N out) (hb : Below W.heap.size W W') : OwnS w W' a c N out :=
  ⟨h.1, h.2.1.kept (show W.grownBy W' none from ⟨hb.os, hb.tape, hb.output, hb.size, fun k hk _ => hb.block k hk⟩) (by cases hv : (Value.slice a N c).ownBlock with | none => exact .inl rfl | some g => exact .inr (by simp)), h.2.2.trans (hb.mono h.2.2.size)⟩
theorem OwnS.put {w W W' : World} {a a' : Option Addr} {c c' N : Nat} {out ys : List Sp} (h : OwnS w W a c N out) (ho : W'.ownsRow w.heap.size 41 2 (.slice a' ys.length c') ys.length (flat ys)) (hg : W.grownBy W' (Value.slice a N c).ownBlock) : OwnS w W' a' c' ys.length ys :=
  ⟨rfl, ho, h.2.2.grown hg h.2.2.size (fun j e => (h.2.1.lt j e).1)⟩

/-- what is asked of the function that changes a span -/
def ChangeCalls (w0 : World) (g : Nat) (cb : Array Value) (f : Sp → Sp) : Prop :=
  ∀ (a b : Int) (W : World), Below w0.heap.size w0 W → okB a b = true → Calls Tryd.prog g (#[.agg #[.int .i64 a, .int .i64 b]] ++ cb) W fun e w' => e = .returned (.agg #[.int .i64 (f (a, b)).1, .int .i64 (f (a, b)).2]) ∧ Below W.heap.size W w'

/-- is the set one, and the tolerance within its limits? -/
def tolB (xs : List Sp) (r : Int) : Bool := setB xs && decide (0 ≤ r ∧ r ≤ 1099511627776)
def tolV (f : Sp → Sp) (xs : List Sp) (r : Int) : List Sp := if tolB xs r then resTo f xs else []
def tolE (xs : List Sp) (r : Int) : Int := if tolB xs r then 0 else 2
theorem tol_no {f : Sp → Sp} {xs : List Sp} {r : Int} {w w' : World} (h : tolB xs r = false) (hb : Below w.heap.size w w') : SetPost (tolE xs r) (tolV f xs r) w (.returned (.tuple #[.slice none 0 0, .int .i64 2])) w' := by
  unfold tolE tolV
  rw [h]
  exact setpost_nil hb

end Go.Proofs.YtfahlgjolihmkaaDoor

/- Contracts of Grow and Shrink. -/
namespace Go.Proofs.YtfahlgjolihmkaaDoor
open Go.RowKit Go.Sort

end Go.Proofs.YtfahlgjolihmkaaDoor
/- Contracts of the specification's Whole, Two, Not. -/
namespace Go.Proofs.YtfahlgjolihmkaaDoor
open Go.RowKit Go.Sort

def twoV (kind : Int) (xs ys : List Sp) : List Sp := if setB xs && setB ys && decide ((madeL kind xs ys).length ≤ 128) then madeL kind xs ys else []
def twoE (kind : Int) (xs ys : List Sp) : Int := if setB xs && setB ys then (if (madeL kind xs ys).length ≤ 128 then 0 else 8) else 2
theorem two_no {kind : Int} {xs ys : List Sp} {w w' : World} (h : (setB xs && setB ys) = false) (hb : Below w.heap.size w w') : SetPost (twoE kind xs ys) (twoV kind xs ys) w (.returned (.tuple #[.slice none 0 0, .int .i64 2])) w' := by
  unfold twoE twoV
  rw [h]
  exact setpost_nil hb

end Go.Proofs.YtfahlgjolihmkaaDoor

/- Contracts of the specification's grown, Grow and Shrink. -/
namespace Go.Proofs.YtfahlgjolihmkaaDoor
open Go.RowKit Go.Sort

/-- one span wider, as the specification says it -/
def wideF (r : Int) (s : Sp) : Sp := (max (-1099511627776) (s.1 - r), min 1099511627776 (s.2 + r))
theorem grownL_eq (xs : List Sp) (r : Int) : grownL xs r = madeL 0 (xs.map (wideF r)) [] := rfl

end Go.Proofs.YtfahlgjolihmkaaDoor

/- Contracts of the specification's Grow and Shrink: the same answers as Grow's and Shrink's. -/
namespace Go.Proofs.YtfahlgjolihmkaaDoor
open Go.RowKit Go.Sort

theorem tol_set {xs : List Sp} {r : Int} (h : tolB xs r = true) : SetS xs ∧ xs.length ≤ 128 ∧ 0 ≤ r ∧ r ≤ 1099511627776 := by
  unfold tolB at h
  simp only [Bool.and_eq_true, decide_eq_true_eq] at h
  have := setB_set h.1
  exact ⟨this.1, this.2, h.2⟩
theorem madeW_length (xs : List Sp) (h : xs.length ≤ 128) : (madeL 2 wholeL xs).length ≤ 258 := by
  have := (madeL_spec 2 wholeL xs).2.2
  have e : wholeL.length = 1 := rfl
  omega
theorem madeW_ok (xs : List Sp) : SetS (madeL 2 wholeL xs) := madeL_set 2 fun z hz => by
  unfold keepB at hz
  rw [whole_in] at hz
  simp at hz
  exact hz.1
theorem grownL_length (xs : List Sp) (r : Int) : (grownL xs r).length ≤ 2 * xs.length := by
  have := (madeL_spec 0 (xs.map fun s => (max (-1099511627776) (s.1 - r), min 1099511627776 (s.2 + r))) []).2.2
  unfold grownL
  simp only [List.length_map, List.length_nil] at this
  omega

end Go.Proofs.YtfahlgjolihmkaaDoor
