/- The other way of the bridge: a contract of the engine's, asked by a walk, for rows of ints that come in. -/
import Derived.Test.YtdepnhnpklbmiaaW15
import Derived.Test.YtdepnhnpklbmiaaF
import Derived.Test.YtdepnhnpklbmiaaWX
namespace Go.Proofs.Ytdepnhnpklbmiaa
open Go.RowKit
/-- a row of ints, as the frame knows it -/
theorem rin_ok {W : World} {A : Option Addr} {n cap : Nat} {xs : List Int} (h : IntsAt W.heap.size W A n xs) (hc : n ≤ cap) (hb : cap ≤ 9223372036854775807) (hf : ∀ j, j < n → -9223372036854775808 ≤ iA xs j ∧ iA xs j ≤ 9223372036854775807) :
    (RIn.mk 3 1 A n cap xs (.int .i64)).ok W := by
  have hl := h.1
  refine ⟨by show xs.length = 1 * n; omega, hc, hb, fun h0 => ?_, fun j hj => hf j (by rw [← hl]; exact hj)⟩
  have h0 : 0 < n := h0
  rcases h.2 with e | ⟨b, off, e, hlt, hx⟩
  · omega
  · exact ⟨b, off, e, hlt, fun j hj => hx j (by rw [← hl]; exact hj)⟩
/-- what a call answers that makes only its own memory -/
theorem calls_of {W : World} {g : FuncId} {l : List RIn} {args : List AV} {ra : Array Value} {K : AV → Prop} (h : CallA Try.prog g args (insOf l) (fun v H => K v ∧ H = insOf l)) (hl : ∀ r ∈ l, r.ok W) (hra : LRel (VRel (plOf l)) args ra.toList)
    (hk : okL some l.length args = true) : Calls Try.prog g ra W (fun e w' => ∃ u v ρ, e = .returned u ∧ K v ∧ VRel ρ v u ∧ Below W.heap.size W w') := by
  refine (call_pure h (insOf_ro l) (inv_of hl) (by rw [renL_some]; exact hra) (by rw [insOf_len]; exact hk) (heapW_pre _ _ _ (fun q b hb => ⟨b, by rw [Nat.zero_add]; exact hb, id, rfl, rfl, id, rfl⟩) (insOf_bodies _ l)) (rngB_some _ (Nat.le_refl _))).mono ?_
  rintro e w' ⟨u, v, H1, ρ', rfl, ⟨hv, _⟩, _, hr, hb⟩
  exact ⟨u, v, ρ', rfl, hv, hr, hb⟩
/-- the specification's Meet, as a walk asks for it -/
theorem refMeet_any (a b : Cu) (A : Option Addr) (n k : Nat) (A' : Option Addr) (n' k' : Nat) (w : World) (ha : IntsAt w.heap.size w A n a.sl) (hb : IntsAt w.heap.size w A' n' b.sl) (h1 : n ≤ k) (h2 : n' ≤ k') (h3 : k ≤ 9223372036854775807) (h4 : k' ≤ 9223372036854775807)
    (fa : ∀ j, j < n → -9223372036854775808 ≤ iA a.sl j ∧ iA a.sl j ≤ 9223372036854775807) (fb : ∀ j, j < n' → -9223372036854775808 ≤ iA b.sl j ∧ iA b.sl j ≤ 9223372036854775807) :
    Calls Try.prog 45 #[.agg #[.int .i64 a.fr, .int .i64 a.fst, .slice A n k], .agg #[.int .i64 b.fr, .int .i64 b.fst, .slice A' n' k']] w (fun e w' =>
      ((∃ c : Int, MeetE a b c ∧ e = .returned (.tuple #[.int .i64 0, .int .i64 0, .int .i64 0, .int .i64 c])) ∨ ∃ i j, MeetOk a b i j ∧ e = .returned (.tuple #[.int .i64 (valK a i + valK b j), .int .i64 (a.fr + i), .int .i64 (max (befV a i) (-(aftV b j))), .int .i64 0])) ∧ Below w.heap.size w w') := by
  have r1 := rin_ok ha h1 h3 fa
  have r2 := rin_ok hb h2 h4 fb
  have hc := refMeet_c a.fr a.fst n a.sl ha.1 (by omega) b.fr b.fst n' b.sl hb.1 (by omega)
  refine (calls_of (ra := #[.agg #[.int .i64 a.fr, .int .i64 a.fst, .slice A n k], .agg #[.int .i64 b.fr, .int .i64 b.fst, .slice A' n' k']]) (l := [⟨3, 1, A, n, k, a.sl, .int .i64⟩, ⟨3, 1, A', n', k', b.sl, .int .i64⟩]) hc (by
    intro r hr
    simp at hr
    rcases hr with rfl | rfl
    · exact r1
    · exact r2) ⟨⟨_, rfl, rfl, rfl, slc_of (i := 0) rfl r1, trivial⟩, ⟨_, rfl, rfl, rfl, slc_of (i := 1) rfl r2, trivial⟩, trivial⟩ rfl).mono ?_
  rintro e w' ⟨u, v, ρ, rfl, hv, hr, hg⟩
  refine ⟨?_, hg⟩
  have tup4 : ∀ {x y z t : Int} {u : Value}, VRel ρ (tupOf [intT x, intT y, intT z, intT t]) u → u = .tuple #[.int .i64 x, .int .i64 y, .int .i64 z, .int .i64 t] := by
    rintro x y z t u ⟨⟨l⟩, rfl, hl⟩
    match l, hl with
    | [p, q, r, s], ⟨h1, h2, h3, h4, _⟩ =>
      have h1 : p = .int .i64 x := h1
      have h2 : q = .int .i64 y := h2
      have h3 : r = .int .i64 z := h3
      have h4 : s = .int .i64 t := h4
      rw [h1, h2, h3, h4]
  rcases hv with ⟨c, hc, rfl⟩ | ⟨i, j, ho, rfl⟩
  · exact .inl ⟨c, hc, by rw [tup4 hr]⟩
  · exact .inr ⟨i, j, ho, by rw [tup4 hr]⟩
end Go.Proofs.Ytdepnhnpklbmiaa
/- The other way of the bridge, for calls that hand back a new row. -/
namespace Go.Proofs.Ytdepnhnpklbmiaa
open Go.RowKit
theorem insOf_last (l : List RIn) (b : Blk) : (insOf l ++ [b])[l.length]? = some b := by
  rw [List.getElem?_append_right (by rw [insOf_len]; exact Nat.le_refl _), insOf_len, Nat.sub_self]
  rfl
/-- a call that answers with a new row of ints behind a number -/
theorem calls_row {W : World} {g : FuncId} {l : List RIn} {args : List AV} {ra : Array Value} {f : Int} {n : Nat} {xs : List Int}
    (h : CallA Try.prog g args (insOf l) (fun v H => v = rwA f l.length n ∧ H = insOf l ++ [rowB true xs])) (hn : xs.length = n) (h0 : 0 < n) (hl : ∀ r ∈ l, r.ok W) (hra : LRel (VRel (plOf l)) args ra.toList)
    (hk : okL some l.length args = true) : Calls Try.prog g ra W (fun e w' => ∃ a c, e = .returned (.agg #[.int .i64 f, .slice (some a) n c]) ∧ n ≤ c ∧ c ≤ maxLen ∧ IntsAt w'.heap.size w' (some a) n xs ∧ W.heap.size ≤ a.block ∧ Below W.heap.size W w') := by
  refine (call_pure h (insOf_ro l) (inv_of hl) (by rw [renL_some]; exact hra) (by rw [insOf_len]; exact hk) (heapW_pre _ _ _ (fun q b hb => ⟨b, by rw [Nat.zero_add]; exact hb, id, rfl, rfl, id, rfl⟩) (insOf_bodies _ l)) (rngB_some _ (Nat.le_refl _))).mono ?_
  rintro e w' ⟨u, v, H1, ρ', rfl, ⟨rfl, rfl⟩, hI, ⟨⟨cs⟩, rfl, hr⟩, hb⟩
  match cs, hr with
  | [x, y], ⟨hx, hy, _⟩ =>
    have hx : x = .int .i64 f := hx
    subst hx
    have hy : SRel ρ' (.slc l.length 0 n) y := hy
    have hbk := insOf_last l (rowB true xs)
    obtain ⟨ad, c, rfl, h1, h2, hx, _, _⟩ := hI.ints (blk := rowB true xs) hbk rfl hn hy
    obtain ⟨_, ad', c', e', _, _, hs⟩ := hy
    injection e' with e1 e2 e3
    subst e1 e3
    rcases hs with ⟨a, ha, hsp, had, _⟩ | ⟨hz, _⟩
    · have ho := hI.own l.length (rowB true xs) hbk rfl rfl a ha
      refine ⟨a.add 0, c, by rw [had], h1, h2, by rw [← had]; exact hx, ?_, hb⟩
      obtain ⟨g, o, s⟩ := a
      have hsp : s = none := hsp
      subst hsp
      rw [addr_adde]
      exact ho
    · omega
/-- the specification's row of a curve, as a walk asks for it -/
theorem Out_w (a : Cu) (A : Option Addr) (n k : Nat) (w : World) (ha : IntsAt w.heap.size w A n a.sl) (h1 : n ≤ k) (h3 : k ≤ 9223372036854775807) (hc : okC a = true) :
    Calls Try.prog 52 #[.agg #[.int .i64 a.fr, .int .i64 a.fst, .slice A n k]] w (fun e w' => ∃ ad c, e = .returned (.agg #[.int .i64 a.fr, .slice (some ad) (n + 1) c]) ∧ n + 1 ≤ c ∧ c ≤ maxLen ∧ IntsAt w'.heap.size w' (some ad) (n + 1) (vals a (n + 1)) ∧ w.heap.size ≤ ad.block ∧ Below w.heap.size w w') := by
  have r1 := rin_ok ha h1 h3 fun j hj => by
    have := okC_sl hc (k := j) (by rw [ha.1]; exact hj)
    omega
  exact calls_row (l := [⟨3, 1, A, n, k, a.sl, .int .i64⟩]) (Out_c a.fr a.fst n a.sl ha.1 hc) (vals_len _ _) (by omega) (by
    intro r hr
    simp at hr
    subst hr
    exact r1) ⟨⟨_, rfl, rfl, rfl, slc_of (i := 0) rfl r1, trivial⟩, trivial⟩ rfl
end Go.Proofs.Ytdepnhnpklbmiaa
