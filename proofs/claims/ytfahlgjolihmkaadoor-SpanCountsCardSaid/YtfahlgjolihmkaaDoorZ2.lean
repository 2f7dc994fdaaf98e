/- Contracts of sort.Search, stretch, Has and its specification. -/
import Derived.Test.YtfahlgjolihmkaaDoorZ1
import Derived.RangeFuncNested
import Derived.RangeFuncBound
import Derived.RangeFuncCalls
import Derived.RangeFuncLeaves
import Derived.RangeFuncBox
import Derived.OwnWalkIn
import Derived.TacticsInMore
import Derived.LoopNIn
import Derived.LoopIn
import Derived.Maps.AppendAt
namespace Go.Proofs.YtfahlgjolihmkaaDoor
open Go.RowKit Go.Sort

/-- WHAT Search hands back: a place at which p turns from false to true. -/
def FoundAt (p : Nat → Bool) (n : Nat) (w : World) (e : Ending) (w' : World) : Prop :=
  ∃ i : Nat, i ≤ n ∧ e = .returned (.int .i64 i) ∧ (∀ j, j + 1 = i → p j = false) ∧ (i < n → p i = true) ∧ Gr w w'

theorem mid_wrap (i j : Nat) (h : i ≤ 1000000) (h' : j ≤ 1000000) : IntKind.u64.wrap ((i : Int) + (j : Int)) = (i : Int) + (j : Int) := by
  rw [IntKind.wrap_u64]; omega

set_option maxHeartbeats 1000000 in
theorem search_any (g : Nat) (lb : Array Value) (n : Nat) (p : Nat → Bool) (w : World) (hn : n ≤ 1000000) (eg : ∀ args w, (callFunc g args).run Tryd.prog w = .ok (.enter g args) w)
    (hp : ∀ (i : Nat) (W : World), i < n → Gr w W → Calls Tryd.prog g (#[.int .i64 i] ++ lb) W fun e w' => e = .returned (.bool (p i)) ∧ Gr W w') :
    Calls Tryd.prog 63 #[.int .i64 n, .func (.func g) #[] lb] w (FoundAt p n w) := by
  have HP := hide hp
  clear hp
  go_enter Tryd.func63, Tryd.ntmps63
  go_wp2
  go_loopw [5, 6] (fun vi vj wr => ∃ i j : Nat, i ≤ j ∧ j ≤ n ∧ vi = .int .i64 i ∧ vj = .int .i64 j ∧ Hid ((∀ k, k + 1 = i → p k = false) ∧ (j < n → p j = true)) ∧ Gr w wr) (fun vi vj _ => (intOf vj - intOf vi).toNat)
  case atStart => exact ⟨0, n, Nat.zero_le _, Nat.le_refl _, rfl, rfl, ⟨fun k hk => by omega, fun h => by omega⟩, Gr.refl _⟩
  case round =>
    obtain ⟨i, j, hij, hjn, rfl, rfl, HI, hG⟩ := hrel
    by_cases hlt : i < j
    · obtain ⟨h, hh1, hh2, hh⟩ : ∃ h : Nat, i ≤ h ∧ h < j ∧ h = (i + j) / 2 := ⟨(i + j) / 2, by omega, by omega, rfl⟩
      have he : ((i : Int) + (j : Int)) / 2 = ((h : Nat) : Int) := by omega
      have HC := hide (HP.out h wr (by omega) hG)
      have HE := hide he
      clear he hh
      go_wp2_with fail
      rw [HE.out]
      refine HC.out.mono ?_
      rintro e w2 ⟨rfl, hG2⟩
      cases hv : p h
      · have hI : Hid ((∀ k, k + 1 = h + 1 → p k = false) ∧ (j < n → p j = true)) := ⟨fun k hk => (by have e : k = h := (by omega); rw [e]; exact hv), HI.out.2⟩
        go_wp2
        go_roundw
        case rel => exact ⟨h + 1, j, by omega, hjn, by go_num, rfl, hI, hG.trans hG2⟩
        case measure => simp [intOf]; omega
      · have hI : Hid ((∀ k, k + 1 = i → p k = false) ∧ (h < n → p h = true)) := ⟨HI.out.1, fun _ => hv⟩
        go_wp2
        go_roundw
        case rel => exact ⟨i, h, hh1, by omega, rfl, rfl, hI, hG.trans hG2⟩
        case measure => simp [intOf]; omega
    · obtain rfl : i = j := by omega
      go_wp2
      go_ret
      exact ⟨i, hjn, rfl, HI.out.1, HI.out.2, hG⟩

set_option maxHeartbeats 1000000 in
set_option maxRecDepth 100000 in
theorem stretch1_any (A : Option Addr) (n cap i Bx Ba : Nat) (x : Int) (xs : List Sp) (w : World) (hi : i < n) (hx : SpansAt w.heap.size w A n xs)
    (h1 : w.cell? ⟨Bx, 0, none⟩ = some (.int .i64 x)) (h2 : w.cell? ⟨Ba, 0, none⟩ = some (.slice A n cap)) :
    Calls Tryd.prog 64 #[.int .i64 i, .pointer (some ⟨Bx, 0, none⟩), .pointer (some ⟨Ba, 0, none⟩)] w fun e w' => e = .returned (.bool (decide (x < hiA xs i))) ∧ Gr w w' := by
  have mixed := mixedOrders
  obtain ⟨b, off, rfl, hb, c0, c1⟩ := hx.at_ hi
  clear hx
  have hi' : (i : Int) < (n : Int) := by omega
  have E1 : ∀ nq, (w.drewN nq).cell? ⟨Bx, 0, none⟩ = some (.int .i64 x) := fun _ => h1
  have E2 : ∀ nq, (w.drewN nq).cell? ⟨Ba, 0, none⟩ = some (.slice (some ⟨b, off, none⟩) n cap) := fun _ => h2
  have E3 : ∀ nq, (w.drewN nq).cell? ⟨b, off + i * 2 + 1, none⟩ = some (.int .i64 (hiA xs i)) := fun _ => c1
  clear h1 h2 c0 c1
  go_enter Tryd.func64, Tryd.ntmps64
  go_wp2_with fail
  go_quiet (fail)
  go_wp2
  go_ret
  exact ⟨rfl, (Gr.refl _).drewN _⟩

/-- up to which number what stretch says stays so -/
def strE (xs : List Sp) (x : Int) : Int := match xs.find? (fun s => decide (x < s.2)) with
  | none => 1099511627776
  | some s => if x < s.1 then s.1 else s.2

end Go.Proofs.YtfahlgjolihmkaaDoor
/- Plain facts about sets of spans: order, where a number lies. -/
namespace Go.Proofs.YtfahlgjolihmkaaDoor
open Go.RowKit Go.Sort

theorem setTo_ok {xs : List Sp} {n k : Nat} (h : setTo xs n) (hk : k < n) : -1099511627776 ≤ loA xs k ∧ loA xs k < hiA xs k ∧ hiA xs k ≤ 1099511627776 := okB_true (h k hk).1
theorem setTo_lt {xs : List Sp} {n : Nat} (h : setTo xs n) : ∀ {j k : Nat}, j < k → k < n → hiA xs j < loA xs k := by
  intro j k hjk
  induction k with
  | zero => omega
  | succ k ih =>
    intro hk
    have h1 := (h (k + 1) hk).2 (by omega)
    rw [Nat.add_sub_cancel] at h1
    rcases Nat.lt_or_ge j k with h2 | h2
    · have h3 := ih h2 (by omega)
      have h4 := (setTo_ok h (k := k) (by omega)).2.1
      omega
    · obtain rfl : j = k := by omega
      exact h1
theorem setTo_hi {xs : List Sp} {n : Nat} (h : setTo xs n) {j k : Nat} (hjk : j ≤ k) (hk : k < n) : hiA xs j ≤ hiA xs k := by
  rcases Nat.lt_or_ge j k with h1 | h1
  · have h2 := setTo_lt h h1 hk
    have h3 := (setTo_ok h hk).2.1
    omega
  · obtain rfl : j = k := by omega
    exact Int.le_refl _
theorem setTo_lo {xs : List Sp} {n : Nat} (h : setTo xs n) {j k : Nat} (hjk : j ≤ k) (hk : k < n) : loA xs j ≤ loA xs k := by
  rcases Nat.lt_or_ge j k with h1 | h1
  · have h2 := setTo_lt h h1 hk
    have h3 := (setTo_ok h (k := j) (by omega)).2.1
    omega
  · obtain rfl : j = k := by omega
    exact Int.le_refl _

theorem find_first {α : Type} [Inhabited α] {p : α → Bool} {xs : List α} {i : Nat} (d : α) (hi : i < xs.length) (h1 : ∀ j, j < i → p (xs.getD j d) = false) (h2 : p (xs.getD i d) = true) : xs.find? p = some (xs.getD i d) := by
  induction xs generalizing i with
  | nil => simp at hi
  | cons a xs ih =>
    cases i with
    | zero => simp at h2; simp [h2]
    | succ i =>
      have h0 := h1 0 (by omega)
      simp at h0
      rw [List.find?_cons_of_neg (by simp [h0])]
      have := ih (i := i) (by simpa using hi) (fun j hj => by have := h1 (j + 1) (by omega); simpa using this) (by simpa using h2)
      simpa using this
theorem find_none {α : Type} {p : α → Bool} {xs : List α} (d : α) (h1 : ∀ j, j < xs.length → p (xs.getD j d) = false) : xs.find? p = none := by
  rw [List.find?_eq_none]
  intro x hx
  obtain ⟨k, hk, rfl⟩ := List.mem_iff_getElem.1 hx
  have := h1 k hk
  rw [List.getD_eq_getElem?_getD, List.getElem?_eq_getElem hk] at this
  simp at this
  simp [this]

/-- what stretch says at the place that Search has found -/
theorem str_cases {xs : List Sp} {n : Nat} {x : Int} (hl : xs.length = n) (hs : setTo xs n) (i : Nat) (h1 : ∀ j, j + 1 = i → decide (x < hiA xs j) = false) (h2 : i < n → decide (x < hiA xs i) = true) (hin : i ≤ n) :
    (i = n → inB xs x = false ∧ strE xs x = 1099511627776) ∧ (i < n → x < loA xs i → inB xs x = false ∧ strE xs x = loA xs i) ∧ (i < n → loA xs i ≤ x → inB xs x = true ∧ strE xs x = hiA xs i) := by
  have hb : ∀ j, j < i → hiA xs j ≤ x := by
    intro j hj
    have h3 := of_decide_eq_false (h1 (i - 1) (by omega))
    have := setTo_hi hs (j := j) (k := i - 1) (by omega) (by omega)
    omega
  have hf : i < n → xs.find? (fun s => decide (x < s.2)) = some (xs.getD i (0, 0)) := fun hlt =>
    find_first (0, 0) (by omega) (fun j hj => decide_eq_false (by have := hb j hj; unfold hiA at this; omega)) (by have := h2 hlt; unfold hiA at this; exact this)
  refine ⟨fun e => ⟨inB_false fun k hk => ?_, ?_⟩, fun hlt hx => ⟨inB_false fun k hk => ?_, ?_⟩, fun hlt hx => ⟨inB_true (k := i) (by omega) hx (of_decide_eq_true (h2 hlt)), ?_⟩⟩
  · have := hb k (by omega)
    omega
  · unfold strE
    rw [find_none (0, 0) fun j hj => decide_eq_false (by have := hb j (by omega); unfold hiA at this; omega)]
  · rcases Nat.lt_or_ge k i with h3 | h3
    · have := hb k h3
      omega
    · have := setTo_lo hs h3 (by omega)
      omega
  · unfold strE
    rw [hf hlt]
    show (if x < loA xs i then loA xs i else hiA xs i) = _
    rw [if_pos hx]
  · unfold strE
    rw [hf hlt]
    show (if x < loA xs i then loA xs i else hiA xs i) = _
    rw [if_neg (by omega)]

end Go.Proofs.YtfahlgjolihmkaaDoor
/- Contracts of stretch, Has and its specification. -/
namespace Go.Proofs.YtfahlgjolihmkaaDoor
open Go.RowKit Go.Sort

theorem ret_val {v v' : Value} (h : v = v') : Ending.returned v = .returned v' := by rw [h]
theorem ret_two {a a' : Bool} {b b' : Int} (h : a = a' ∧ b = b') : Ending.returned (.tuple #[.bool a, .int .i64 b]) = .returned (.tuple #[.bool a', .int .i64 b']) := by rw [h.1, h.2]

set_option maxHeartbeats 2000000 in
set_option maxRecDepth 100000 in
theorem stretch_any (A : Option Addr) (n cap : Nat) (x : Int) (xs : List Sp) (w : World) (hx : SpansAt w.heap.size w A n xs) (hs : setTo xs n) (hn : n ≤ 1000000) :
    Calls Tryd.prog 50 #[.slice A n cap, .int .i64 x] w fun e w' => e = .returned (.tuple #[.bool (inB xs x), .int .i64 (strE xs x)]) ∧ Gr w w' := by
  have mixed := mixedOrders
  have HX := hide hx
  have HC := hide (str_cases (x := x) hx.1 hs)
  clear hx hs
  have HS : Hid (∀ (W : World), Gr w W → ∀ (Bx Ba : Nat), W.cell? ⟨Bx, 0, none⟩ = some (.int .i64 x) → W.cell? ⟨Ba, 0, none⟩ = some (.slice A n cap) → Bx < W.heap.size → Ba < W.heap.size →
      Calls Tryd.prog 63 #[.int .i64 n, .func (.func 64) #[] #[.pointer (some ⟨Bx, 0, none⟩), .pointer (some ⟨Ba, 0, none⟩)]] W (FoundAt (fun i => decide (x < hiA xs i)) n W)) := by
    intro W hG Bx Ba h1 h2 l1 l2
    refine search_any 64 #[.pointer (some ⟨Bx, 0, none⟩), .pointer (some ⟨Ba, 0, none⟩)] n (fun i => decide (x < hiA xs i)) W hn (enters_of Tryd.func64 (by kernel_rfl) rfl) fun i W' hi hG' => ?_
    exact stretch1_any A n cap i Bx Ba x xs W' hi ((HX.out.gr hG).gr hG') ((hG'.cell (p := ⟨Bx, 0, none⟩) l1).trans h1) ((hG'.cell (p := ⟨Ba, 0, none⟩) l2).trans h2)
  go_enter Tryd.func50, Tryd.ntmps50
  go_wp2_with fail
  refine (HS.out _ (((Gr.refl w).alloc _).alloc _) _ _ (by simp) (by simp) (by simp) (by simp; omega)).mono ?_
  rintro e w2 ⟨i, hin, rfl, h1, h2, hG⟩
  have HF := hide (HC.out i h1 h2 hin)
  have HG := hide hG
  have l2 : w.heap.size < w2.heap.size := by have := hG.size; simp at this; omega
  have l3 : w.heap.size + 1 < w2.heap.size := by have := hG.size; simp at this; omega
  have e2 : w2.cell? ⟨w.heap.size, 0, none⟩ = some (.slice A n cap) := by rw [hG.cell (by simp; omega)]; simp
  have e3 : w2.cell? ⟨w.heap.size + 1, 0, none⟩ = some (.int .i64 x) := by rw [hG.cell (by simp)]; simp
  have hG1 := hide (((Gr.refl w).alloc (.cells #[.slice A n cap] 22)).alloc (.cells #[.int .i64 x] 3) |>.trans hG)
  clear h1 h2 hG HC HS
  rcases Nat.lt_or_ge i n with hlt | hge
  · have hlt' : (i : Int) < (n : Int) := by omega
    have hb : ((i : Int) == (n : Int)) = false := beq_eq_false_iff_ne.2 (by omega)
    obtain ⟨b, off, rfl, hb1, c0, c1⟩ := (HX.out.gr hG1.out).at_ hlt
    have E0 : ∀ nq, (w2.drewN nq).cell? ⟨w.heap.size, 0, none⟩ = some (.slice (some ⟨b, off, none⟩) n cap) := fun _ => e2
    have E1 : ∀ nq, (w2.drewN nq).cell? ⟨w.heap.size + 1, 0, none⟩ = some (.int .i64 x) := fun _ => e3
    have E2 : ∀ nq, (w2.drewN nq).cell? ⟨b, off + i * 2, none⟩ = some (.int .i64 (loA xs i)) := fun _ => c0
    have E3 : ∀ nq, (w2.drewN nq).cell? ⟨b, off + i * 2 + 1, none⟩ = some (.int .i64 (hiA xs i)) := fun _ => c1
    by_cases hxl : x < loA xs i
    · go_wp2_with fail
      go_quiet (fail)
      go_wp2_with fail
      go_quiet (fail)
      go_wp2
      go_ret2
      have hf := HF.out.2.1 hlt hxl
      exact ⟨ret_two ⟨hf.1.symm, hf.2.symm⟩, (hG1.out.drewN _).drewN _⟩
    · go_wp2_with fail
      go_quiet (fail)
      go_wp2_with fail
      go_quiet (fail)
      go_wp2
      go_ret2
      have hf := HF.out.2.2 hlt (by omega)
      exact ⟨ret_two ⟨hf.1.symm, hf.2.symm⟩, (hG1.out.drewN _).drewN _⟩
  · obtain rfl : i = n := by omega
    go_wp2
    go_ret2
    have hf := HF.out.1 (by trivial)
    exact ⟨ret_two ⟨hf.1.symm, hf.2.symm⟩, hG1.out⟩

/-- what Has hands back -/
def hasV (xs : List Sp) (x : Int) : Value := .tuple #[.bool (setB xs && inB xs x), .int .i64 (if setB xs then 0 else 2)]

set_option maxHeartbeats 1000000 in
theorem Has_any (A : Option Addr) (n cap : Nat) (x : Int) (xs : List Sp) (w : World) (hx : SpansAt w.heap.size w A n xs) :
    Calls Tryd.prog 34 #[.slice A n cap, .int .i64 x] w fun e w' => e = .returned (hasV xs x) ∧ Gr w w' := by
  have HX := hide hx
  have HV := hide (Valid_any A n cap xs w hx)
  clear hx
  cases hv : setB xs
  · have HE : Hid (hasV xs x = .tuple #[.bool false, .int .i64 2]) := by show hasV xs x = _; unfold hasV; rw [hv]; rfl
    go_enter Tryd.func34, Tryd.ntmps34
    go_wp2_with (go_at_call 22; refine HV.out.mono ?_; rintro e w2 ⟨rfl, hG⟩)
    go_ret2
    exact ⟨ret_val HE.out.symm, hG⟩
  · have HE : Hid (hasV xs x = .tuple #[.bool (inB xs x), .int .i64 0]) := by show hasV xs x = _; unfold hasV; rw [hv]; rfl
    have HS := hide (setB_true hv)
    go_enter Tryd.func34, Tryd.ntmps34
    go_wp2_with fail
    refine HV.out.mono ?_
    rintro e w2 ⟨rfl, hG⟩
    have HG := hide hG
    clear hG
    go_wp2_with fail
    refine (stretch_any A n cap x xs _ (HX.out.gr HG.out) (by rw [← HX.out.1]; exact HS.out.2) (by have := HS.out.1; have := HX.out.1; omega)).mono ?_
    rintro e w3 ⟨rfl, hG⟩
    go_wp2
    go_ret2
    exact ⟨ret_val HE.out.symm, HG.out.trans hG⟩

end Go.Proofs.YtfahlgjolihmkaaDoor
/- What the body of a loop over a function leaves as it was: all blocks of cells but the body's own boxes and the rows that these boxes hold. -/
namespace Go.Proofs.YtfahlgjolihmkaaDoor
open Go.RowKit Go.Sort

/-- g is the row of a slice that one of the boxes bs holds -/
def RowOf (bs : List Nat) (A : World) (g : Nat) : Prop := ∃ b, b ∈ bs ∧ ∃ v : Value, A.cell? ⟨b, 0, none⟩ = some v ∧ v.ownBlock = some g

/-- all blocks of cells but the boxes bs and their rows are as they were; a new row is a new block -/
structure Kept (bs : List Nat) (A B : World) : Prop where
  os : B.os = A.os
  tape : B.tape = A.tape
  output : B.output = A.output
  size : A.heap.size ≤ B.heap.size
  same : ∀ (k : Nat) (o : Obj), A.heap[k]? = some o → o.isCells = true → k ∉ bs → ¬ RowOf bs A k → B.heap[k]? = A.heap[k]?
  rows : ∀ g, RowOf bs B g → RowOf bs A g ∨ A.heap.size ≤ g
  bound : (∀ g, RowOf bs A g → g < A.heap.size) → ∀ g, RowOf bs B g → g < B.heap.size

theorem lt_of_heap {A : World} {k : Nat} {o : Obj} (h : A.heap[k]? = some o) : k < A.heap.size := (Array.getElem?_eq_some_iff.1 h).1

theorem Kept.refl (bs : List Nat) (A : World) : Kept bs A A := ⟨rfl, rfl, rfl, Nat.le_refl _, fun _ _ _ _ _ _ => rfl, fun _ h => .inl h, fun h => h⟩
theorem Kept.trans {bs : List Nat} {A B C : World} (h : Kept bs A B) (k : Kept bs B C) : Kept bs A C := by
  refine ⟨k.os.trans h.os, k.tape.trans h.tape, k.output.trans h.output, Nat.le_trans h.size k.size, fun j o hj hc hb hr => ?_, fun g hg => ?_, fun hA => k.bound (h.bound hA)⟩
  · have h1 := h.same j o hj hc hb hr
    have hlt := lt_of_heap hj
    have h2 : ¬ RowOf bs B j := fun hB => by
      rcases h.rows j hB with h3 | h3
      · exact hr h3
      · omega
    exact (k.same j o (h1.trans hj) hc hb h2).trans h1
  · rcases k.rows g hg with h1 | h1
    · exact h.rows g h1
    · exact .inr (Nat.le_trans h.size h1)

theorem RowOf.congr {bs : List Nat} {A B : World} (h : ∀ b, b ∈ bs → B.cell? ⟨b, 0, none⟩ = A.cell? ⟨b, 0, none⟩) {g : Nat} (hg : RowOf bs B g) : RowOf bs A g := by
  obtain ⟨b, hb, v, hv, ho⟩ := hg
  exact ⟨b, hb, v, (h b hb).symm.trans hv, ho⟩

/-- only blocks from B's end on are new, nothing old has turned -/
theorem Kept.of_below {bs : List Nat} {A B : World} (h : Below A.heap.size A B) (hbs : ∀ b, b ∈ bs → b < A.heap.size) : Kept bs A B := by
  have hc : ∀ b, b ∈ bs → B.cell? ⟨b, 0, none⟩ = A.cell? ⟨b, 0, none⟩ := fun b hb => h.cell (p := ⟨b, 0, none⟩) (hbs b hb)
  exact ⟨h.os, h.tape, h.output, h.size, fun k o hk _ _ _ => h.block k (lt_of_heap hk), fun g hg => .inl (hg.congr hc), fun hA g hg => Nat.lt_of_lt_of_le (hA g (hg.congr hc)) h.size⟩
theorem Kept.alloc {bs : List Nat} {A B : World} (h : Kept bs A B) (hbs : ∀ b, b ∈ bs → b < A.heap.size) (o : Obj) : Kept bs A (B.alloc o) :=
  h.trans (Kept.of_below ((Below.refl _ _).alloc (Nat.le_refl _) o) fun b hb => Nat.lt_of_lt_of_le (hbs b hb) h.size)
theorem Kept.grown {bs : List Nat} {A B C : World} (h : Kept bs A B) (hbs : ∀ b, b ∈ bs → b < A.heap.size) (hb : Below B.heap.size B C) : Kept bs A C :=
  h.trans (Kept.of_below hb fun b hb => Nat.lt_of_lt_of_le (hbs b hb) h.size)

/-- an object that is no cells has been replaced -/
theorem Kept.putObj (bs : List Nat) (W : World) (l : Nat) (o o' : Obj) (hl : l ∉ bs) (ho : W.heap[l]? = some o) (hc : o.isCells = false) : Kept bs W (W.putObj l o') := by
  have hoth : ∀ k, k ≠ l → (W.putObj l o').heap[k]? = W.heap[k]? := fun k hk => World.putObj_heap_other hk
  have hcell : ∀ b, b ∈ bs → (W.putObj l o').cell? ⟨b, 0, none⟩ = W.cell? ⟨b, 0, none⟩ := fun b hb => World.cell?_of_block (hoth b (fun e => hl (e ▸ hb)))
  refine ⟨rfl, rfl, rfl, by simp, fun k o2 hk hc2 _ _ => hoth k (fun e => ?_), fun g hg => .inl (hg.congr hcell), fun hA g hg => by have := hA g (hg.congr hcell); simpa using this⟩
  subst e
  rw [ho] at hk
  injection hk with hk
  subst hk
  rw [hc] at hc2
  cases hc2

/-- a value that is no slice has been stored into one of the boxes -/
theorem Kept.setBox (bs : List Nat) (W : World) (b : Nat) (v : Value) (hb : b ∈ bs) (hv : v.ownBlock = none) : Kept bs W (W.setCell ⟨b, 0, none⟩ v) := by
  have hrow : ∀ g, RowOf bs (W.setCell ⟨b, 0, none⟩ v) g → RowOf bs W g := by
    rintro g ⟨b', hb', v', hc, ho⟩
    by_cases e : b' = b
    · subst e
      cases hw : W.cell? ⟨b', 0, none⟩ with
      | none =>
        have : (W.setCell ⟨b', 0, none⟩ v).cell? ⟨b', 0, none⟩ = none := by
          simp only [World.cell?, World.setCell, Array.getElem?_modify] at hw ⊢
          cases hh : W.heap[b']? with
          | none => simp
          | some o =>
            rw [hh] at hw
            cases o <;> simp_all
        rw [this] at hc
        cases hc
      | some u =>
        rw [World.cell?_setCell_same _ _ _ hw] at hc
        injection hc with hc
        subst hc
        rw [hv] at ho
        cases ho
    · rw [World.cell?_setCell_other _ _ _ _ (by intro e'; simp only [Addr.mk.injEq] at e'; exact e e'.1.symm)] at hc
      exact ⟨b', hb', v', hc, ho⟩
  refine ⟨rfl, rfl, rfl, by simp [World.setCell], fun k o hk _ hnb _ => Below.heap_setCell _ _ _ _ (fun e => hnb (by rw [e]; exact hb)), fun g hg => .inl (hrow g hg), fun hA g hg => ?_⟩
  have := hA g (hrow g hg)
  simpa [World.setCell] using this

/-- a cell outside reads as it did -/
theorem Kept.cell {bs : List Nat} {A B : World} (h : Kept bs A B) {b off : Nat} {v : Value} (hc : A.cell? ⟨b, off, none⟩ = some v) (hb : b ∉ bs) (hr : ¬ RowOf bs A b) : B.cell? ⟨b, off, none⟩ = some v := by
  have hblock : B.heap[b]? = A.heap[b]? := by
    cases hh : A.heap[b]? with
    | none => simp [World.cell?, hh] at hc
    | some o =>
      have ho : o.isCells = true := by
        cases o <;> simp_all [World.cell?, Obj.isCells]
      exact (h.same b o hh ho hb hr).trans hh
  exact (World.cell?_of_block hblock).trans hc
theorem Kept.frozen {bs : List Nat} {A B : World} (h : Kept bs A B) {b off : Nat} {v : Value} (hc : A.cell? ⟨b, off, none⟩ = some v) (hb : b ∉ bs) (hr : ¬ RowOf bs A b) : B.frozen? ⟨b, off, none⟩ = A.frozen? ⟨b, off, none⟩ := by
  have hblock : B.heap[b]? = A.heap[b]? := by
    cases hh : A.heap[b]? with
    | none => simp [World.cell?, hh] at hc
    | some o =>
      have ho : o.isCells = true := by
        cases o <;> simp_all [World.cell?, Obj.isCells]
      exact (h.same b o hh ho hb hr).trans hh
  exact World.frozen?_of_block hblock

/-- nothing of it is a row of the boxes -/
theorem not_row {bs : List Nat} {A B : World} (h : Kept bs A B) {k : Nat} (hk : k < A.heap.size) (hr : ¬ RowOf bs A k) : ¬ RowOf bs B k := fun hB => by
  rcases h.rows k hB with h1 | h1
  · exact hr h1
  · omega
theorem SpansAt.kept {bs : List Nat} {W W' : World} {B : Nat} {A : Option Addr} {n : Nat} {xs : List Sp} (h : SpansAt B W A n xs) (hk : Kept bs W W') (hb : ∀ k, k < B → k ∉ bs ∧ ¬ RowOf bs W k) : SpansAt B W' A n xs := by
  refine ⟨h.1, ?_⟩
  rcases h.2 with h0 | ⟨b, off, e, hlt, hc⟩
  · exact .inl h0
  · exact .inr ⟨b, off, e, hlt, fun i hi => ⟨hk.cell (hc i hi).1 (hb b hlt).1 (hb b hlt).2, hk.cell (hc i hi).2 (hb b hlt).1 (hb b hlt).2⟩⟩

end Go.Proofs.YtfahlgjolihmkaaDoor
/- Contracts of counted and of its function: it hands on each span of a set with how many numbers come before it. -/
namespace Go.Proofs.YtfahlgjolihmkaaDoor
open Go.RowKit Go.Sort
attribute [local go_sem] Oper.semAt_some

/-- the first k places of n -/
def ups (n k : Nat) : List (Fin n) := (List.finRange n).take k
theorem ups_zero (n : Nat) : ups n 0 = [] := by simp [ups]
theorem ups_succ {n k : Nat} (h : k < n) : ups n (k + 1) = ups n k ++ [⟨k, h⟩] := by
  unfold ups
  rw [List.take_succ_eq_append_getElem (by simpa using h)]
  simp
theorem ups_length {n k : Nat} (h : k ≤ n) : (ups n k).length = k := by simp [ups, h]
theorem ups_all (n : Nat) : ups n n = List.finRange n := by
  unfold ups
  rw [List.take_of_length_le (by simp)]

/-- how many numbers lie in the first k spans -/
def befA (xs : List Sp) : Nat → Int
  | 0 => 0
  | k + 1 => befA xs k + (hiA xs k - loA xs k)
theorem befA_succ (xs : List Sp) (k : Nat) : befA xs (k + 1) = befA xs k + (hiA xs k - loA xs k) := rfl
theorem befA_le {xs : List Sp} {n : Nat} (h : setTo xs n) (hn : n ≤ 128) : ∀ k, k ≤ n → 0 ≤ befA xs k ∧ befA xs k ≤ k * 2199023255552 := by
  intro k
  induction k with
  | zero => intro _; simp [befA]
  | succ k ih =>
    intro hk
    have h1 := ih (by omega)
    have h2 := setTo_ok h (k := k) (by omega)
    unfold befA
    omega

def encC (xs : List Sp) {n : Nat} (x : Fin n) : Array Value := #[.int .i64 (befA xs x.1), .agg #[.int .i64 (loA xs x.1), .int .i64 (hiA xs x.1)]]

set_option maxRecDepth 100000 in
set_option maxHeartbeats 2000000 in
theorem counted1_in (m : Nat) (hm : 1 ≤ m) (l Ba : Nat) (bs : List Nat) (A : Option Addr) (n cap : Nat) (xs : List Sp) (hs : setTo xs n) (hn : n ≤ 128) (J Jx : List (Fin n) → World → Prop) (W : World)
    (hJ : AbidesFrom W.heap.size J)
    (hY : ∀ pre x W1, J pre W1 → pre.length < n → YieldAt Fence.wide (m - 1) Tryd.prog l (encC xs x) W1 fun e W' =>
      (e = .returned (.bool true) ∧ J (pre ++ [x]) W' ∧ Kept bs W1 W') ∨ (e = .returned (.bool false) ∧ Jx (pre ++ [x]) W'))
    (hbs : ∀ b, b ∈ bs → b < W.heap.size) (hrow : ∀ g, RowOf bs W g → g < W.heap.size)
    (hBa : W.cell? ⟨Ba, 0, none⟩ = some (.slice A n cap)) (B : Nat) (hx : SpansAt B W A n xs) (hB : ∀ k, k < B → k ∉ bs ∧ ¬ RowOf bs W k) (h0 : J [] W) :
    CallsIn Fence.wide m Tryd.prog 49 #[.func (.yield l) #[] #[], .pointer (some ⟨Ba, 0, none⟩)] W fun e W' => (∃ v, e = .returned v) ∧
      ((∃ ys, ys = ups n n ∧ J ys W') ∨ (∃ pre, (∃ k, k < n ∧ pre = ups n (k + 1)) ∧ Jx pre W')) := by
  have HX := hide hx
  have HS := hide hs
  have HB := hide hB
  have HR := hide hrow
  have HBS := hide hbs
  have HLE := hide (befA_le hs hn)
  clear hx hs hB hrow hbs
  refine callsIn_of_wp Tryd.func49 rfl trivial ?_ rfl
  simp only [Tryd.ntmps49, List.size_toArray, List.length_cons, List.length_nil, Nat.reduceAdd, Nat.reduceSub, Array.replicate_succ, Array.replicate_zero, List.push_toArray, List.append_toArray, List.nil_append, List.cons_append]
  gi_wp2
  gi_loopw [3, 8] (fun b i wr => ∃ k : Nat, k ≤ n ∧ i = .int .i64 k ∧ b = .int .i64 (befA xs k) ∧ J (ups n k) wr ∧ Kept bs W wr)
    (fun b i _ => n - (intOf i).toNat)
  case atStart => exact ⟨0, Nat.zero_le _, rfl, rfl, by rw [ups_zero]; exact h0, Kept.refl _ _⟩
  case round =>
    obtain ⟨k, hk, rfl, rfl, hJs, hK⟩ := hrel
    by_cases hlt : k < n
    · obtain ⟨b, off, rfl, hb, c0, c1⟩ := HX.out.at_ hlt
      have hlt' : (k : Int) < (n : Int) := by omega
      have d0 := hK.cell c0 (HB.out b hb).1 (HB.out b hb).2
      have d1 := hK.cell c1 (HB.out b hb).1 (HB.out b hb).2
      obtain ⟨o1, o2, o3⟩ := setTo_ok HS.out hlt
      obtain ⟨q1, q2⟩ := HLE.out k (by omega)
      have hB2 : ∀ b, b ∈ bs → b < wr.heap.size := fun b hb => Nat.lt_of_lt_of_le (HBS.out b hb) hK.size
      have hR2 : ∀ g, RowOf bs wr g → g < wr.heap.size := hK.bound HR.out
      have hKa := (Kept.refl bs wr).alloc hB2 (.cells #[.int .i64 (loA xs k), .int .i64 (hiA xs k)] 41)
      have hJa := hJ _ _ (wr.alloc (.cells #[.int .i64 (loA xs k), .int .i64 (hiA xs k)] 41)) none hJs (World.grownBy_alloc wr _ none) (by simp)
      obtain ⟨fn, tmps, assign, body, hy, hR⟩ := hY _ ⟨k, hlt⟩ _ hJa (by rw [ups_length hk]; exact hlt)
      dsimp only [encC] at hy
      have hnr : wr.heap.size ∉ bs ∧ ¬ RowOf bs (wr.alloc (.cells #[.int .i64 (loA xs k), .int .i64 (hiA xs k)] 41)) wr.heap.size :=
        ⟨fun h => by have := hB2 _ h; omega, fun h => by
          rcases hKa.rows _ h with h1 | h1
          · have := hR2 _ h1; omega
          · have := hR2 wr.heap.size (h.congr (fun b hb => (World.cell?_alloc_lt wr _ ⟨b, 0, none⟩ (hB2 b hb)).symm ▸ rfl)); omega⟩
      have HNR := hide hnr
      have HKA := hide (hK.trans hKa)
      have HRR := hide hR
      clear c0 c1 hB2 hR2 hKa hJa hnr hJs hK hR
      gi_wp2
      refine HRR.out.mono ?_
      rintro e W3 (⟨rfl, hJ3, hk3⟩ | ⟨rfl, hJx3⟩)
      · have f0 := hk3.cell (b := wr.heap.size) (off := 0) (v := .int .i64 (loA xs k)) (by simp) HNR.out.1 HNR.out.2
        have f1 := hk3.cell (b := wr.heap.size) (off := 1) (v := .int .i64 (hiA xs k)) (by simp) HNR.out.1 HNR.out.2
        have HJ3 := hide hJ3
        have HK3 := hide hk3
        clear hJ3 hk3
        gi_wp2
        go_roundw
        case rel => exact ⟨k + 1, by omega, by go_num, by rw [befA_succ], by rw [ups_succ hlt]; exact HJ3.out, HKA.out.trans HK3.out⟩
        case measure => simp [intOf]; omega
      · gi_wp2
        refine bodyPost_ret (results_none rfl _ _ _) rfl ?_
        exact ⟨⟨_, rfl⟩, .inr ⟨_, ⟨k, hlt, (ups_succ hlt).symm⟩, hJx3⟩⟩
    · obtain rfl : k = n := by omega
      gi_wp2
      go_end0
      exact ⟨⟨_, rfl⟩, .inl ⟨_, rfl, hJs⟩⟩


theorem counted_any (A : Option Addr) (n cap : Nat) (w : World) :
    Calls Tryd.prog 33 #[.slice A n cap] w fun e w' => e = .returned (.func (.func 49) #[] #[.pointer (some ⟨w.heap.size, 0, none⟩)]) ∧ w.alloc (.cells #[.slice A n cap] 22) = w' := by
  go_enter Tryd.func33, Tryd.ntmps33
  go_wp2
  go_ret
  exact ⟨rfl, rfl⟩

theorem counted_stops (m : Nat) (hm : 1 ≤ m) (Ba : Nat) (bs : List Nat) (A : Option Addr) (n cap : Nat) (xs : List Sp) (hs : setTo xs n) (hn : n ≤ 128) (w : World)
    (hbs : ∀ b, b ∈ bs → b < w.heap.size) (hrow : ∀ g, RowOf bs w g → g < w.heap.size)
    (hBa : w.cell? ⟨Ba, 0, none⟩ = some (.slice A n cap)) (hBl : Ba < w.heap.size) (B : Nat) (hBw : B ≤ w.heap.size) (hx : SpansAt B w A n xs) (hB : ∀ k, k < B → k ∉ bs ∧ ¬ RowOf bs w k) :
    SeqStopsK Fence.wide m Tryd.prog 49 #[.pointer (some ⟨Ba, 0, none⟩)] (encC xs) (Kept bs) (fun ys => ys = ups n n) (fun pre => ∃ k, k < n ∧ pre = ups n (k + 1)) n w := fun l J Jx W hW hJ _ hY h0 => by
  have hbox : ∀ b, b ∈ bs → W.cell? ⟨b, 0, none⟩ = w.cell? ⟨b, 0, none⟩ := fun b hb => hW.cell (p := ⟨b, 0, none⟩) (hbs b hb)
  exact counted1_in m hm l Ba bs A n cap xs hs hn J Jx W hJ hY (fun b hb => Nat.lt_of_lt_of_le (hbs b hb) hW.size) (fun g hg => Nat.lt_of_lt_of_le (hrow g (hg.congr hbox)) hW.size)
    ((hW.cell (p := ⟨Ba, 0, none⟩) hBl).trans hBa) B (hx.below (hW.mono hBw)) (fun k hk => ⟨(hB k hk).1, fun h => (hB k hk).2 (h.congr hbox)⟩) h0

end Go.Proofs.YtfahlgjolihmkaaDoor
/- Contract of Size: how many numbers lie in a set. -/
namespace Go.Proofs.YtfahlgjolihmkaaDoor
open Go.RowKit Go.Sort
attribute [local go_sem] Oper.semAt_some

theorem Kept.hKt (bs : List Nat) : ∀ {A B C : World}, Kept bs A B → Kept bs B C → Kept bs A C := fun h k => h.trans k
theorem Kept.hKb {bs : List Nat} {n : Nat} (h : ∀ b, b ∈ bs → b < n) : ∀ (W : World) (l : Nat) (o o' : Obj), n ≤ l → W.heap[l]? = some o → o.isCells = false → o.isWalk = false → Kept bs W (W.putObj l o') :=
  fun W l o o' hl ho hc _ => Kept.putObj bs W l o o' (fun hm => by have := h l hm; omega) ho hc

/-- what Size, Nth and Rank hand back -/
def numV (n e : Int) : Value := .tuple #[.int .i64 n, .int .i64 e]
def afterC (xs : List Sp) {n : Nat} (pre : List (Fin n)) : Int := match pre.getLast? with
  | none => 0
  | some i => befA xs (i.1 + 1)
theorem afterC_snoc (xs : List Sp) {n : Nat} (pre : List (Fin n)) (x : Fin n) : afterC xs (pre ++ [x]) = befA xs x.1 + (hiA xs x.1 - loA xs x.1) := by
  simp [afterC, befA_succ]
theorem afterC_all (xs : List Sp) (n : Nat) : afterC xs (ups n n) = befA xs n := by
  cases n with
  | zero => simp [ups_zero, afterC, befA]
  | succ n => rw [ups_succ (Nat.lt_succ_self n), afterC_snoc, ← befA_succ]

theorem ownFrom_size {β : Type} (B n : Nat) : OwnFrom B (fun (_ : β) W => n ≤ W.heap.size) := fun _ _ _ _ hs hg _ => Nat.le_trans hs hg.size
/-- a block of cells stays where only objects that are no cells turn -/
theorem cells_own {B : Nat} {W W' : World} {row : Option Nat} {k : Nat} {o : Obj} (h : W.heap[k]? = some o) (ho : o.isCells = true) (hg : W.grownBy W' row) (hr : ∀ r, row = some r → B ≤ r ∧ ∃ o : Obj, W.heap[r]? = some o ∧ o.isCells = false) : W'.heap[k]? = some o := by
  refine (hg.block k (lt_of_heap h) fun e => ?_).trans h
  obtain ⟨_, o', h1, h2⟩ := hr k e.symm
  rw [h] at h1
  injection h1 with h1
  subst h1
  rw [ho] at h2
  cases h2
theorem cell_of_heap {W : World} {b : Nat} {cs : Array Value} {t : TypeId} (h : W.heap[b]? = some (.cells cs t (0, 0))) (i : Nat) : W.cell? ⟨b, i, none⟩ = cs[i]? := cell_of_row W b i cs t (0, 0) h

set_option maxRecDepth 100000 in
set_option maxHeartbeats 4000000 in
theorem Size_in (A : Option Addr) (n cap : Nat) (xs : List Sp) (w : World) (hx : SpansAt w.heap.size w A n xs) :
    CallsIn Fence.wide 10 Tryd.prog 15 #[.slice A n cap] w fun e w' => e = .returned (numV (if setB xs then befA xs n else 0) (if setB xs then 0 else 2)) ∧ Below w.heap.size w w' := by
  have HX := hide hx
  have HV := hide (callsIn_wide (n := 9).2 (Valid_any A n cap xs w hx))
  clear hx
  refine callsIn_of_wp_marks Tryd.func15 rfl trivial ?_ rfl
  simp only [Tryd.ntmps15, List.size_toArray, List.length_cons, List.length_nil, Nat.reduceAdd, Nat.reduceSub, Array.replicate_succ, Array.replicate_zero, List.push_toArray, List.append_toArray, List.nil_append, List.cons_append]
  cases hv : setB xs
  · gi_wp2_with (refine ⟨trivial, ?_⟩; gi_at_call 22; refine HV.out.mono ?_; rintro e w2 ⟨rfl, hG⟩)
    exact ⟨_, results_tmp2 rfl _ _ _, rfl, hG.below⟩
  · have HS := hide (setB_true hv)
    gi_wp2_with (refine ⟨trivial, ?_⟩; first | (gi_at_call 22; refine HV.out.mono ?_; rintro e w2 ⟨rfl, hG⟩) | (gi_at_call 33; refine (callsIn_wide (n := 9).2 (counted_any A n cap _)).mono ?_; rintro e w3 ⟨rfl, rfl⟩))
    have HG := hide hG
    have bN := Boxed.new w2 3 (.int .i64 0)
    have bA := Boxed.new (w2.alloc (.cells #[.int .i64 0] 3)) 22 (.slice A n cap)
    have bN2 := bN.alloc (.cells #[.slice A n cap] 22)
    rw [World.size_alloc] at bA
    have hG0 := (hG.alloc (.cells #[.int .i64 0] 3)).alloc (.cells #[.slice A n cap] 22)
    have hsz : ((w2.alloc (.cells #[.int .i64 0] 3)).alloc (.cells #[.slice A n cap] 22)).heap.size = w2.heap.size + 2 := by simp
    obtain ⟨W0, hW0⟩ : ∃ W0, (w2.alloc (.cells #[.int .i64 0] 3)).alloc (.cells #[.slice A n cap] 22) = W0 := ⟨_, rfl⟩
    rw [hW0] at bA bN2 hG0 hsz ⊢
    have hle := hG.size
    clear hW0 bN hG
    have hnr : ∀ g, ¬ RowOf [w2.heap.size] W0 g := by
      rintro g ⟨b, hb, v, hc, ho⟩
      obtain rfl : b = w2.heap.size := by simpa using hb
      rw [bN2.cell] at hc
      injection hc with hc
      subst hc
      cases ho
    refine wpIn_rangeFunc_ownH rfl (by omega) (gf := 49) (lb := #[.pointer (some ⟨w2.heap.size + 1, 0, none⟩)]) rfl trivial (enters_of Tryd.func49 (by kernel_rfl) rfl)
      (counted_stops 9 (by omega) (w2.heap.size + 1) [w2.heap.size] A n cap xs (by rw [← HX.out.1]; exact HS.out.2) (by have := HS.out.1; have := HX.out.1; omega) W0 (by simp; omega) (fun g h => absurd h (hnr g)) bA.cell (by omega) w.heap.size (by omega)
        (HX.out.below hG0.below) (fun k hk => ⟨by simp; omega, hnr k⟩)) (Kept.hKt _) (Kept.hKb (by simp; omega)) (Below.refl _ _) (fun _ => rfl)
      (fun pre W => Boxed W w2.heap.size 3 (.int .i64 (afterC xs pre)) ∧ Below w.heap.size w W ∧ W0.heap.size ≤ W.heap.size)
      (fun _ _ _ => False)
      (OwnFrom.and (Own.from (boxed_own _ _ _) _) (OwnFrom.and (ownFrom_below (Nat.le_refl _) (by omega)) (ownFrom_size _ _)))
      (fun _ _ _ _ _ hs _ _ => hs)
      ⟨bN2, hG0.below, Nat.le_refl _⟩
      (fun x a' W => ∃ Bx, W0.heap.size ≤ Bx ∧ W.heap[Bx]? = some (.cells #[.int .i64 (loA xs x.1), .int .i64 (hiA xs x.1)] 41 (0, 0)) ∧
        a' = { tmps := #[.slice A n cap, undef, .int .i64 0, .int .i64 0, .pointer (some ⟨w2.heap.size, 0, none⟩), .int .i64 (befA xs x.1), .pointer (some ⟨Bx, 0, none⟩), .slice A n cap, .bool true, .bool false, .slice A n cap, .func (.func 49) #[] #[.pointer (some ⟨w2.heap.size + 1, 0, none⟩)], .int .i64 (befA xs x.1), .agg #[.int .i64 (loA xs x.1), .int .i64 (hiA xs x.1)], undef, undef, undef, undef, undef, undef, undef, undef], defers := [] })
      (fun x a' s W W' row hs hg hr => by
        obtain ⟨Bx, h1, h2, h3⟩ := hs
        exact ⟨Bx, h1, cells_own h2 rfl hg hr, h3⟩)
      ?assign ?body ?done ?stop
    case assign =>
      rintro l pre x W K ⟨hb, hbel, hsz2⟩ hK
      dsimp only [encC]
      gi_wp2
      have hbl := hb.lt
      exact hK _ _ ((KeepsOthers.alloc _ _).from _) ((Kept.refl _ W).alloc (by simp; omega) _) ⟨hb.alloc _, hbel.alloc (by have := hbel.size; omega) _, by simp; omega⟩ ⟨W.heap.size, hsz2, World.alloc_heap_new W _, rfl⟩
    case body =>
      rintro l pre x a' W hl ⟨r, hr⟩ ⟨hb, hbel, hsz2⟩ ⟨Bx, hBx, hbx, rfl⟩ hlt
      have c0 := cell_of_heap hbx 0
      have c1 := cell_of_heap hbx 1
      have d0 := hb.cell
      have d1 := hb.frozen
      simp at c0 c1
      have hsl := HS.out
      have hxl := HX.out.1
      obtain ⟨o1, o2, o3⟩ := setTo_ok hsl.2 (k := x.1) (by omega)
      obtain ⟨q1, q2⟩ := befA_le hsl.2 (by omega) x.1 (by omega)
      have q3 : befA xs x.1 ≤ 281474976710656 := by have := x.2; omega
      clear hsl hxl q2
      gi_wp2
      exact ⟨(KeepsOthers.setCell _ _ _).from _, Kept.setBox _ _ _ _ (by simp) rfl, ⟨by rw [afterC_snoc, ← Int.add_sub_assoc]; exact hb.set _, hbel.setCell (by simp; omega) _, by simpa [World.setCell] using hsz2⟩⟩
    case done =>
      rintro D ys W hD rfl ⟨hb, hbel, hsz2⟩ hK
      rw [afterC_all] at hb
      have d0 := hb.cell
      have d1 := hb.frozen
      gi_wp2
      refine ⟨by simp, .inl ⟨_, _, rfl, run_takeDeferred hK, ?_⟩⟩
      exact ⟨_, results_tmp2 rfl _ _ _, rfl, hbel.trans (belowK_b (w := w) (Nat.le_refl _) W D _ _ (by omega) hK rfl rfl)⟩
    case stop =>
      rintro D c pre W _ _ h _
      exact h.elim


theorem Size_any (A : Option Addr) (n cap : Nat) (xs : List Sp) (w : World) (hx : SpansAt w.heap.size w A n xs) :
    Calls Tryd.prog 15 #[.slice A n cap] w fun e w' => e = .returned (numV (if setB xs then befA xs n else 0) (if setB xs then 0 else 2)) ∧ Below w.heap.size w w' :=
  callsIn_wide.1 (Size_in A n cap xs w hx)

end Go.Proofs.YtfahlgjolihmkaaDoor
