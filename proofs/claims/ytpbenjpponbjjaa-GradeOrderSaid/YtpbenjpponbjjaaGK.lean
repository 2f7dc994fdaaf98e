/- Quotes in memory; checkQuotes. -/
import Derived.Test.YtpbenjpponbjjaaGJ
namespace Go.Proofs.Ytpbenjpponbjjaa
open Go.RowKit Go.Sort Go.BigFrame
/-- a quote: grade, price, weight -/
abbrev Qt := Gd × Int × Int
def qA (l : List Qt) (i : Nat) : Qt := l.getD i ((0, 0, 0), 0, 0)
def qC (q : Qt) : List Value := [.int .i64 q.1.1, .int .i64 q.1.2.1, .int .i64 q.1.2.2, .int .i64 q.2.1, .int .i64 q.2.2]
structure QtAt (B : Nat) (W : World) (A : Option Addr) (n : Nat) (l : List Qt) : Prop where
  len : l.length = n
  row : n = 0 ∨ ∃ b off, A = some ⟨b, off, none⟩ ∧ b < B ∧ ∀ i, i < n → W.cell? ⟨b, off + i * 5, none⟩ = some (.int .i64 (qA l i).1.1) ∧ W.cell? ⟨b, off + i * 5 + 1, none⟩ = some (.int .i64 (qA l i).1.2.1) ∧ W.cell? ⟨b, off + i * 5 + 2, none⟩ = some (.int .i64 (qA l i).1.2.2) ∧ W.cell? ⟨b, off + i * 5 + 3, none⟩ = some (.int .i64 (qA l i).2.1) ∧ W.cell? ⟨b, off + i * 5 + 4, none⟩ = some (.int .i64 (qA l i).2.2)
theorem QtAt.now {B : Nat} {W W' : World} {A : Option Addr} {n : Nat} {l : List Qt} (h : QtAt B W A n l) (hb : Below B W W') (hB : B ≤ W.heap.size) : QtAt W'.heap.size W' A n l :=
  ⟨h.len, h.row.imp id fun ⟨b, off, e, h1, h2⟩ => ⟨b, off, e, by have := hb.size; omega, fun i hi => ⟨(hb.cell (p := ⟨b, _, none⟩) h1).trans (h2 i hi).1, (hb.cell (p := ⟨b, _, none⟩) h1).trans (h2 i hi).2.1, (hb.cell (p := ⟨b, _, none⟩) h1).trans (h2 i hi).2.2.1, (hb.cell (p := ⟨b, _, none⟩) h1).trans (h2 i hi).2.2.2.1, (hb.cell (p := ⟨b, _, none⟩) h1).trans (h2 i hi).2.2.2.2⟩⟩⟩
theorem QtAt.at_ {B : Nat} {W : World} {A : Option Addr} {n : Nat} {l : List Qt} (h : QtAt B W A n l) {i : Nat} (hi : i < n) :
    ∃ b off, A = some ⟨b, off, none⟩ ∧ b < B ∧ W.cell? ⟨b, off + i * 5, none⟩ = some (.int .i64 (qA l i).1.1) ∧ W.cell? ⟨b, off + i * 5 + 1, none⟩ = some (.int .i64 (qA l i).1.2.1) ∧ W.cell? ⟨b, off + i * 5 + 2, none⟩ = some (.int .i64 (qA l i).1.2.2) ∧ W.cell? ⟨b, off + i * 5 + 3, none⟩ = some (.int .i64 (qA l i).2.1) ∧ W.cell? ⟨b, off + i * 5 + 4, none⟩ = some (.int .i64 (qA l i).2.2) := by
  rcases h.row with h0 | ⟨b, off, e, h1, h2⟩
  · omega
  · exact ⟨b, off, e, h1, h2 i hi⟩
theorem qA_mem {l : List Qt} {i : Nat} (hi : i < l.length) : qA l i ∈ l := by
  unfold qA
  rw [List.getD_eq_getElem?_getD, List.getElem?_eq_getElem hi]
  exact List.getElem_mem _
theorem q_all {p : Qt → Bool} {l : List Qt} (h : ∀ i, i < l.length → p (qA l i) = true) : l.all p = true := by
  rw [List.all_eq_true]
  intro x hx
  obtain ⟨i, hi, rfl⟩ := List.getElem_of_mem hx
  have := h i hi
  unfold qA at this
  rw [List.getD_eq_getElem?_getD, List.getElem?_eq_getElem hi] at this
  simpa using this
theorem q_not {p : Qt → Bool} {l : List Qt} {i : Nat} (hi : i < l.length) (h : p (qA l i) = false) : l.all p = false := by
  rw [List.all_eq_false]
  exact ⟨_, qA_mem hi, by rw [h]; decide⟩
theorem box5 {W : World} {p : Nat} {a b c d e : Value} {ty : TypeId} (h : W.heap[p]? = some (.cells #[a, b, c, d, e] ty (0, 0))) : W.cell? ⟨p, 0, none⟩ = some a ∧ W.cell? ⟨p, 1, none⟩ = some b ∧ W.cell? ⟨p, 2, none⟩ = some c ∧ W.cell? ⟨p, 3, none⟩ = some d ∧ W.cell? ⟨p, 4, none⟩ = some e := by
  refine ⟨?_, ?_, ?_, ?_, ?_⟩ <;> simp [World.cell?, h]
def okQ (q : Qt) : Bool := validG q.1 && (decide (0 ≤ q.2.1) && (decide (q.2.1 ≤ 1073741824) && (decide (1 ≤ q.2.2) && decide (q.2.2 ≤ 1048576))))
def checkQ (l : List Qt) : Int := if 24 < l.length then 3 else if l.all okQ then 0 else 2
set_option maxHeartbeats 2000000 in
theorem checkQuotes_any (A : Option Addr) (n c : Nat) (l : List Qt) (w : World) (hx : QtAt w.heap.size w A n l) (hn : n ≤ 1000000) : Calls Try.prog 63 #[.slice A n c] w fun e w' => e = .returned (.int .i64 (checkQ l)) ∧ Below w.heap.size w w' := by
  have mixed := mixedOrders
  have HX := hide hx
  have HLEN := hide hx.len
  by_cases hbig : 24 < n
  · have hbig' : (24 : Int) < (n : Int) := by omega
    have HR : Hid (checkQ l = 3) := by show _ = _; unfold checkQ; rw [HLEN.out, if_pos hbig]
    clear hx
    go_enter Try.func63, Try.ntmps63
    go_wp2_with fail
    go_ret
    exact ⟨by rw [HR.out]; rfl, Below.refl _ _⟩
  have hbig' : ¬ (24 : Int) < (n : Int) := by omega
  have HR : Hid (checkQ l = if l.all okQ then 0 else 2) := by show _ = _; unfold checkQ; rw [HLEN.out, if_neg hbig]
  have HN := hide hn
  clear hx hn
  go_enter Try.func63, Try.ntmps63
  go_wp2_with fail
  clear hbig hbig'
  go_loopw [10] (fun vi wr => ∃ i : Nat, vi = .int .i64 i ∧ i ≤ n ∧ Hid (∀ j, j < i → okQ (qA l j) = true) ∧ Hid (Below w.heap.size w wr)) (fun vi _ => n - (intOf vi).toNat)
  case atStart => exact ⟨0, rfl, Nat.zero_le _, fun j hj => absurd hj (Nat.not_lt_zero _), Below.refl _ _⟩
  case round =>
    obtain ⟨i, rfl, hi, HI, HG⟩ := hrel
    by_cases hlt : i < n
    · have hlt' : (i : Int) < (n : Int) := by omega
      obtain ⟨b, off, rfl, hb, c0, c1, c2, c3, c4⟩ := HX.out.at_ hlt
      have d0 := (HG.out.cell (p := ⟨b, off + i * 5, none⟩) hb).trans c0
      have d1 := (HG.out.cell (p := ⟨b, off + i * 5 + 1, none⟩) hb).trans c1
      have d2 := (HG.out.cell (p := ⟨b, off + i * 5 + 2, none⟩) hb).trans c2
      have d3 := (HG.out.cell (p := ⟨b, off + i * 5 + 3, none⟩) hb).trans c3
      have d4 := (HG.out.cell (p := ⟨b, off + i * 5 + 4, none⟩) hb).trans c4
      have hN := HN.out
      have HS : Hid (okQ (qA l i) = true → ∀ j, j < i + 1 → okQ (qA l j) = true) := fun h j hj => by
        rcases Nat.lt_or_ge j i with q | q
        · exact HI.out j q
        · obtain rfl : j = i := by omega
          exact h
      have HF : Hid (okQ (qA l i) = false → checkQ l = 2) := fun h => by rw [HR.out, q_not (by rw [HLEN.out]; exact hlt) h]; rfl
      have HQ := hide (show i + 1 ≤ n by omega)
      generalize qA l i = o at d0 d1 d2 d3 d4 HS HF
      obtain ⟨⟨o1, o2, o3⟩, pr, wt⟩ := o
      dsimp only at d0 d1 d2 d3 d4
      obtain ⟨p, hp⟩ : ∃ p, wr.heap.size = p := ⟨_, rfl⟩
      obtain ⟨W1, hW1⟩ : ∃ W1, wr.alloc (.cells #[.int .i64 o1, .int .i64 o2, .int .i64 o3, .int .i64 pr, .int .i64 wt] 60) = W1 := ⟨_, rfl⟩
      have hb1 : Below wr.heap.size wr W1 := by rw [← hW1]; exact (Below.refl _ _).alloc (Nat.le_refl _) _
      have h1 : W1.heap[p]? = some (.cells #[.int .i64 o1, .int .i64 o2, .int .i64 o3, .int .i64 pr, .int .i64 wt] 60 (0, 0)) := by rw [← hW1, ← hp]; exact heap_alloc_new _ _
      have HG1 := hide (bel_next HG.out hb1)
      have HCE := hide (fun w2 (q : Below W1.heap.size W1 w2) => box5 ((q.block p (Array.getElem?_eq_some_iff.1 h1).1).trans h1))
      have KV := hide (valid_any (o1, o2, o3) W1)
      obtain ⟨x0, x1, x2, x3, x4⟩ := box5 h1
      clear c0 c1 c2 c3 c4 hi hb hb1 h1
      go_wp2_with fail
      refine KV.out.mono ?_
      rintro e w2 ⟨rfl, hb2⟩
      have HG2 := hide (bel_next HG1.out hb2)
      obtain ⟨y0, y1, y2, y3, y4⟩ := HCE.out w2 hb2
      clear x0 x1 x2 x3 x4 hb2 HCE KV hW1 hp
      obtain ⟨v, hv⟩ : ∃ v, validG (o1, o2, o3) = v := ⟨_, rfl⟩
      rw [hv]
      cases v with
      | false =>
        have HF2 := hide (HF.out (by unfold okQ; rw [hv]; rfl))
        clear hv
        go_wp2_with fail
        go_ret
        exact ⟨by rw [HF2.out]; rfl, HG2.out⟩
      | true =>
      by_cases h1 : pr < 0
      · have HF2 := hide (HF.out (by unfold okQ; rw [hv, decide_eq_false (by omega : ¬ 0 ≤ pr)]; rfl))
        clear hv
        go_wp2_with fail
        go_ret
        exact ⟨by rw [HF2.out]; rfl, HG2.out⟩
      by_cases h2 : 1073741824 < pr
      · have HF2 := hide (HF.out (by unfold okQ; rw [hv, decide_eq_false (by omega : ¬ pr ≤ 1073741824)]; simp))
        clear hv
        go_wp2_with fail
        go_ret
        exact ⟨by rw [HF2.out]; rfl, HG2.out⟩
      by_cases h3 : wt < 1
      · have HF2 := hide (HF.out (by unfold okQ; rw [hv, decide_eq_false (by omega : ¬ 1 ≤ wt)]; simp))
        clear hv
        go_wp2_with fail
        go_ret
        exact ⟨by rw [HF2.out]; rfl, HG2.out⟩
      by_cases h4 : 1048576 < wt
      · have HF2 := hide (HF.out (by unfold okQ; rw [hv, decide_eq_false (by omega : ¬ wt ≤ 1048576)]; simp))
        clear hv
        go_wp2_with fail
        go_ret
        exact ⟨by rw [HF2.out]; rfl, HG2.out⟩
      have HS2 := hide (HS.out (by unfold okQ; rw [hv, decide_eq_true (by omega : 0 ≤ pr), decide_eq_true (by omega : pr ≤ 1073741824), decide_eq_true (by omega : 1 ≤ wt), decide_eq_true (by omega : wt ≤ 1048576)]; rfl))
      clear hv
      go_wp2_with fail
      go_roundw
      case rel => exact ⟨i + 1, by go_num, HQ.out, HS2, HG2⟩
      case measure => have := HQ.out; simp [intOf]; omega
    · obtain rfl : i = n := by omega
      have hd : ¬ (i : Int) < (i : Int) := by omega
      have HF : Hid (checkQ l = 0) := by show _ = _; rw [HR.out, q_all (by rw [HLEN.out]; exact HI.out)]; rfl
      clear hi hlt
      go_wp2_with fail
      go_ret
      exact ⟨by rw [HF.out]; rfl, HG.out⟩
end Go.Proofs.Ytpbenjpponbjjaa
