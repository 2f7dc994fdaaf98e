/- The words in which the calls of package proof are described: worlds that have only grown, rows of numbers. -/
import Derived.Test.YtpobfdhmggkbaaaProg
import Derived.WalkKit
import Derived.WalkSpells
import Derived.WalkLawsBesides
import Derived.Deep.LoopGhost
import Derived.BigQuiet
import Derived.BigRegion
import Derived.Lib.Hide
import Derived.Shelf.SlSortCmp.QuietGrown
import Derived.Laws.CopyRow
import Derived.Laws.CopyOwn
import Derived.Sort.LotA
import Derived.OwnWalk
import Derived.Maps.AppendAt
import Derived.Maps.RangeWalk
import Derived.Below
namespace Go.Proofs.Ytpobfdhmggkbaaa
open Go.RowKit Go.Sort

theorem mixedOrders : Try.prog.follows .mixedOrders = true := by kernel_rfl

theorem hide {p : Prop} (h : p) : Hid p := h

/-- THE WORLD HAS ONLY GROWN: draws and new blocks. -/
def Gr (w w' : World) : Prop := ∃ (n : Nat) (os : Array Obj), w' = grow (w.drewN n) os
theorem Gr.refl (w : World) : Gr w w := ⟨0, #[], by rw [grow_empty]; rfl⟩
theorem Gr.trans {a b c : World} (h : Gr a b) (k : Gr b c) : Gr a c := by
  obtain ⟨n, os, rfl⟩ := h
  obtain ⟨m, os', rfl⟩ := k
  exact ⟨n + m, os ++ os', by show grow (grow ((a.drewN n).drewN m) os) os' = _; rw [grow_grow, World.drewN_drewN]⟩
theorem Gr.alloc {a b : World} (h : Gr a b) (o : Obj) : Gr a (b.alloc o) := h.trans ⟨0, #[o], by rw [alloc_eq_grow]; rfl⟩
theorem Gr.drew {a b : World} (h : Gr a b) : Gr a b.drew := h.trans ⟨1, #[], by rw [grow_empty]; rfl⟩
theorem Gr.drewN {a b : World} (h : Gr a b) (n : Nat) : Gr a (b.drewN n) := h.trans ⟨n, #[], by rw [grow_empty]⟩
theorem Gr.grow {a b : World} (h : Gr a b) (n : Nat) (os : Array Obj) : Gr a (Sort.grow (b.drewN n) os) := h.trans ⟨n, os, rfl⟩
theorem Gr.size {a b : World} (h : Gr a b) : a.heap.size ≤ b.heap.size := by
  obtain ⟨n, os, rfl⟩ := h
  rw [size_grow]
  exact Nat.le_add_right _ _
theorem Gr.cell {a b : World} (h : Gr a b) {p : Addr} (hp : p.block < a.heap.size) : b.cell? p = a.cell? p := by
  obtain ⟨n, os, rfl⟩ := h
  rw [cell?_grow _ _ _ (by exact hp)]
  rfl
theorem Gr.frozen {a b : World} (h : Gr a b) {p : Addr} (hp : p.block < a.heap.size) : b.frozen? p = a.frozen? p := by
  obtain ⟨n, os, rfl⟩ := h
  rw [frozen?_grow _ _ _ (by exact hp)]
  rfl
theorem Gr.block {a b : World} (h : Gr a b) {k : Nat} (hk : k < a.heap.size) : b.heap[k]? = a.heap[k]? := by
  obtain ⟨n, os, rfl⟩ := h
  rw [heap_grow_old _ _ (by exact hk)]
  rfl
theorem Gr.below {a b : World} (h : Gr a b) : Below a.heap.size a b := by
  obtain ⟨n, os, rfl⟩ := h
  exact ⟨rfl, rfl, rfl, by rw [size_grow]; exact Nat.le_add_right _ _, fun k hk => heap_grow_old _ _ (by exact hk)⟩
theorem Gr.grownBy {a b : World} (h : Gr a b) (row : Option Nat) : a.grownBy b row := by
  have hb := h.below
  exact ⟨hb.os, hb.tape, hb.output, hb.size, fun k hk _ => hb.block k hk⟩

/-- a span: its lower and its upper end -/
abbrev Sp := Int × Int
def loA (xs : List Sp) (i : Nat) : Int := (xs.getD i (0, 0)).1
def hiA (xs : List Sp) (i : Nat) : Int := (xs.getD i (0, 0)).2
/-- the slice value (address A, length n) holds the spans xs, in a block below B -/
def SpansAt (B : Nat) (w : World) (A : Option Addr) (n : Nat) (xs : List Sp) : Prop :=
  xs.length = n ∧ (n = 0 ∨ ∃ b off, A = some ⟨b, off, none⟩ ∧ b < B ∧ ∀ i, i < n → w.cell? ⟨b, off + i * 2, none⟩ = some (.int .i64 (loA xs i)) ∧ w.cell? ⟨b, off + i * 2 + 1, none⟩ = some (.int .i64 (hiA xs i)))
theorem SpansAt.mono {B B' : Nat} {w : World} {A : Option Addr} {n : Nat} {xs : List Sp} (h : SpansAt B w A n xs) (hB : B ≤ B') : SpansAt B' w A n xs := by
  refine ⟨h.1, ?_⟩
  rcases h.2 with h0 | ⟨b, off, e, hlt, hc⟩
  · exact .inl h0
  · exact .inr ⟨b, off, e, by omega, hc⟩
theorem SpansAt.below {B : Nat} {w w' : World} {A : Option Addr} {n : Nat} {xs : List Sp} (h : SpansAt B w A n xs) (hb : Below B w w') : SpansAt B w' A n xs := by
  refine ⟨h.1, ?_⟩
  rcases h.2 with h0 | ⟨b, off, e, hlt, hc⟩
  · exact .inl h0
  · exact .inr ⟨b, off, e, hlt, fun i hi => ⟨(hb.cell (p := ⟨b, _, none⟩) hlt).trans (hc i hi).1, (hb.cell (p := ⟨b, _, none⟩) hlt).trans (hc i hi).2⟩⟩
theorem SpansAt.gr {w w' : World} {A : Option Addr} {n : Nat} {xs : List Sp} (h : SpansAt w.heap.size w A n xs) (hg : Gr w w') : SpansAt w'.heap.size w' A n xs :=
  (h.below hg.below).mono hg.size
theorem SpansAt.now {B : Nat} {w w' : World} {A : Option Addr} {n : Nat} {xs : List Sp} (h : SpansAt B w A n xs) (hb : Below B w w') (hB : B ≤ w.heap.size) : SpansAt w'.heap.size w' A n xs :=
  (h.below hb).mono (Nat.le_trans hB hb.size)
theorem SpansAt.at_ {B : Nat} {w : World} {A : Option Addr} {n : Nat} {xs : List Sp} (h : SpansAt B w A n xs) {k : Nat} (hk : k < n) :
    ∃ b off, A = some ⟨b, off, none⟩ ∧ b < B ∧ w.cell? ⟨b, off + k * 2, none⟩ = some (.int .i64 (loA xs k)) ∧ w.cell? ⟨b, off + k * 2 + 1, none⟩ = some (.int .i64 (hiA xs k)) := by
  rcases h.2 with h0 | ⟨b, off, e, hlt, hc⟩
  · omega
  · exact ⟨b, off, e, hlt, hc k hk⟩
/-- the same where the address is known -/
theorem SpansAt.at2 {B : Nat} {w : World} {b off : Nat} {n : Nat} {xs : List Sp} (h : SpansAt B w (some ⟨b, off, none⟩) n xs) {k : Nat} (hk : k < n) :
    w.cell? ⟨b, off + k * 2, none⟩ = some (.int .i64 (loA xs k)) ∧ w.cell? ⟨b, off + k * 2 + 1, none⟩ = some (.int .i64 (hiA xs k)) := by
  obtain ⟨b', off', e, _, hc⟩ := h.at_ hk
  injection e with e
  injection e with e1 e2
  subst e1; subst e2
  exact hc

/-- a slice of ints in memory -/
def iA (xs : List Int) (i : Nat) : Int := xs.getD i 0
def IntsAt (B : Nat) (w : World) (A : Option Addr) (n : Nat) (xs : List Int) : Prop :=
  xs.length = n ∧ (n = 0 ∨ ∃ b off, A = some ⟨b, off, none⟩ ∧ b < B ∧ ∀ i, i < n → w.cell? ⟨b, off + i, none⟩ = some (.int .i64 (iA xs i)))
theorem IntsAt.mono {B B' : Nat} {w : World} {A : Option Addr} {n : Nat} {xs : List Int} (h : IntsAt B w A n xs) (hB : B ≤ B') : IntsAt B' w A n xs := by
  refine ⟨h.1, ?_⟩
  rcases h.2 with h0 | ⟨b, off, e, hlt, hc⟩
  · exact .inl h0
  · exact .inr ⟨b, off, e, by omega, hc⟩
theorem IntsAt.below {B : Nat} {w w' : World} {A : Option Addr} {n : Nat} {xs : List Int} (h : IntsAt B w A n xs) (hb : Below B w w') : IntsAt B w' A n xs := by
  refine ⟨h.1, ?_⟩
  rcases h.2 with h0 | ⟨b, off, e, hlt, hc⟩
  · exact .inl h0
  · exact .inr ⟨b, off, e, hlt, fun i hi => (hb.cell (p := ⟨b, _, none⟩) hlt).trans (hc i hi)⟩
theorem IntsAt.now {B : Nat} {w w' : World} {A : Option Addr} {n : Nat} {xs : List Int} (h : IntsAt B w A n xs) (hb : Below B w w') (hB : B ≤ w.heap.size) : IntsAt w'.heap.size w' A n xs :=
  (h.below hb).mono (Nat.le_trans hB hb.size)
theorem IntsAt.at_ {B : Nat} {w : World} {A : Option Addr} {n : Nat} {xs : List Int} (h : IntsAt B w A n xs) {k : Nat} (hk : k < n) :
    ∃ b off, A = some ⟨b, off, none⟩ ∧ b < B ∧ w.cell? ⟨b, off + k, none⟩ = some (.int .i64 (iA xs k)) := by
  rcases h.2 with h0 | ⟨b, off, e, hlt, hc⟩
  · omega
  · exact ⟨b, off, e, hlt, hc k hk⟩

theorem ret_int {k : IntKind} {a b : Int} (h : a = b) : Ending.returned (.int k a) = .returned (.int k b) := by rw [h]
theorem ret_bool {a b : Bool} (h : a = b) : Ending.returned (.bool a) = .returned (.bool b) := by rw [h]

end Go.Proofs.Ytpobfdhmggkbaaa
/- copy of elements of k cells, into a part of a block; the same as a step of a walk. -/
namespace Go.Proofs.Ytpobfdhmggkbaaa
open Go
variable {P : Program}
/-- copy of elements of k cells -/
theorem run_copy_rowK (k : Nat) (w : World) (dT sT ty elem : TypeId) (g o dLen dCap : Nat) (a : Addr) (sLen sCap : Nat) (cur : Array Value) (t : TypeId) (cs : List Value)
    (hu : P.underlying dT = some (.slice elem)) (hs : (P.info? elem).map (·.size) = some k)
    (hg : w.heap[g]? = some (.cells cur t (0, 0))) (hn : cs.length = Nat.min sLen dLen * k)
    (hsrc : ∀ j v, cs[j]? = some v → w.cell? (a.add j) = some v) (hfit : o + cs.length ≤ cur.size) (h1 : ∀ v ∈ cs, v.oneCell' = true) :
    (Builtin.copy_ #[dT, sT] ty #[.slice (some ⟨g, o, none⟩) dLen dCap, .slice (some a) sLen sCap]).run P w =
      .ok (goInt (Nat.min sLen dLen)) (w.setRow g (cur.toList.take o ++ cs ++ cur.toList.drop (o + cs.length)).toArray) := by
  have hl := run_loadCells_list (P := P) w a cs hsrc
  have hst := run_storeCells_at P g o t cs 0 cur w hg (by simpa using hfit) h1
  cases hq : P.info? elem with
  | none => simp [hq] at hs
  | some i =>
    have hi : i.size = k := by simpa [hq] using hs
    rw [hn] at hl
    simp [Builtin.copy_, run_underlying hu, Builtin.lenOf, Builtin.firstCells, sizeOf, typeInfo, hq, hi, hl, hst]
/-- the same as an operation of a walk -/
theorem wpList_copy_rowK (k : Nat) {w : World} {ops : Array Oper} {rest : List Oper} {o : Oper} {a : Act} {Q : Exit → Act → World → Prop} (hgd : o.guard = none) (d s : Operand) (dT sT : TypeId)
    (ho : o.op = .call { callee := .builtin .copy, args := #[d, s], argTypes := #[dT, sT] }) (elem : TypeId) (g off dLen dCap : Nat) (ad : Addr) (sLen sCap : Nat) (cur : Array Value) (t : TypeId) (cs : List Value)
    (hd : a.eval d = .slice (some ⟨g, off, none⟩) dLen dCap) (hx : a.eval s = .slice (some ad) sLen sCap)
    (hu : P.underlying dT = some (.slice elem)) (hs : (P.info? elem).map (·.size) = some k)
    (hg : w.heap[g]? = some (.cells cur t (0, 0))) (hn : cs.length = Nat.min sLen dLen * k)
    (hsrc : ∀ j v, cs[j]? = some v → w.cell? (ad.add j) = some v) (hfit : off + cs.length ≤ cur.size) (h1 : ∀ v ∈ cs, v.oneCell' = true)
    (h : wpList P ops Q rest (a.put o.dst (goInt (Nat.min sLen dLen))) (w.setRow g (cur.toList.take off ++ (cs ++ cur.toList.drop (off + cs.length))).toArray)) : wpList P ops Q (o :: rest) a w := by
  refine wpList_plain hgd fun K hK => ?_
  have hrun := run_copy_rowK (P := P) k w dT sT o.type elem g off dLen dCap ad sLen sCap cur t cs hu hs hg hn hsrc hfit h1
  unfold Oper.wp
  simp [execOp, ho, resolve, invoke, builtin, hd, hx, hrun, Result.andThen]
  exact hK _ _ h
end Go.Proofs.Ytpobfdhmggkbaaa
/- Insertion sort by a key is stable: it is the lists of each key, one after another. -/
namespace Go.Proofs.Ytpobfdhmggkbaaa
open Go Go.Sort
section
variable {α : Type} [Inhabited α]
theorem swp_list (d : Array α) {j : Nat} (h : j + 1 < d.size) : ∃ A B x y, d.toList = A ++ x :: y :: B ∧ A.length = j ∧ d[j]! = x ∧ d[j + 1]! = y ∧ (swp d (j + 1) j).toList = A ++ y :: x :: B := by
  have hl : d.toList.length = d.size := by simp
  refine ⟨d.toList.take j, d.toList.drop (j + 2), d[j]!, d[j + 1]!, ?_, by simp; omega, rfl, rfl, ?_⟩
  · have e1 : d[j]! = d.toList[j]'(by omega) := by simp [show j < d.size by omega]
    have e2 : d[j + 1]! = d.toList[j + 1]'(by omega) := by simp [h]
    rw [e1, e2, List.getElem_cons_drop, List.getElem_cons_drop, List.take_append_drop]
  · have e1 : d[j]! = d.toList[j]'(by omega) := by simp [show j < d.size by omega]
    have e2 : d[j + 1]! = d.toList[j + 1]'(by omega) := by simp [h]
    have e : d.toList = d.toList.take j ++ d[j]! :: d[j + 1]! :: d.toList.drop (j + 2) := by
      rw [e1, e2, List.getElem_cons_drop, List.getElem_cons_drop, List.take_append_drop]
    have hj : (d.toList.take j).length = j := by simp; omega
    unfold swp
    rw [Array.toList_setIfInBounds, Array.toList_setIfInBounds]
    generalize d[j]! = x at *
    generalize d[j + 1]! = y at *
    generalize d.toList.take j = A at *
    generalize d.toList.drop (j + 2) = B at *
    rw [e, List.set_append_right _ _ (by omega), hj, show j + 1 - j = 1 by omega]
    show (A ++ x :: x :: B).set j y = _
    rw [List.set_append_right _ _ (by omega), hj, Nat.sub_self]
    rfl
theorem swp_size (d : Array α) (i j : Nat) : (swp d i j).size = d.size := by simp [swp]
/-- a swap of two of which not both are counted keeps what is counted, in its order -/
theorem swp_filter (d : Array α) {j : Nat} (h : j + 1 < d.size) (p : α → Bool) (hp : ¬ (p d[j]! = true ∧ p d[j + 1]! = true)) : (swp d (j + 1) j).toList.filter p = d.toList.filter p := by
  obtain ⟨A, B, x, y, e1, -, ex, ey, e2⟩ := swp_list d h
  rw [ex, ey] at hp
  rw [e1, e2, List.filter_append, List.filter_append]
  congr 1
  by_cases h1 : p x = true <;> by_cases h2 : p y = true
  · exact absurd ⟨h1, h2⟩ hp
  · simp [List.filter_cons, h1, h2]
  · simp [List.filter_cons, h1, h2]
  · simp [List.filter_cons, h1, h2]
variable (key : α → Nat) {lt : α → α → Bool} (hlt : ∀ x y, lt x y = decide (key x < key y))
include hlt
theorem insInner_filter (b : Nat) (a : Nat) : ∀ (j : Nat) (d : Array α), j < d.size → (insInner lt a j d).toList.filter (fun x => key x == b) = d.toList.filter (fun x => key x == b) ∧ (insInner lt a j d).size = d.size
  | 0, d, _ => ⟨rfl, rfl⟩
  | j + 1, d, h => by
    unfold insInner
    split
    · rename_i hc
      rw [Bool.and_eq_true, hlt, decide_eq_true_eq] at hc
      obtain ⟨h1, h2⟩ := insInner_filter b a j (swp d (j + 1) j) (by rw [swp_size]; omega)
      rw [h1, h2, swp_size]
      refine ⟨swp_filter d h _ fun ⟨k1, k2⟩ => ?_, rfl⟩
      have k1 := beq_iff_eq.1 k1
      have k2 := beq_iff_eq.1 k2
      have := of_decide_eq_true hc.2
      omega
    · exact ⟨rfl, rfl⟩
theorem insOuter_filter (v : Nat) (a b : Nat) : ∀ (m i : Nat) (d : Array α), b - i = m → b ≤ d.size → (insOuter lt a b i d).toList.filter (fun x => key x == v) = d.toList.filter (fun x => key x == v)
  | 0, i, d, hm, hb => by
    unfold insOuter
    rw [if_neg (by omega)]
  | m + 1, i, d, hm, hb => by
    unfold insOuter
    rw [if_pos (by omega)]
    obtain ⟨h1, h2⟩ := insInner_filter key hlt v a i d (by omega)
    rw [insOuter_filter v a b m (i + 1) _ (by omega) (by rw [h2]; exact hb), h1]
theorem insertion_filter (v : Nat) (d : Array α) : (insertionSort lt d 0 d.size).toList.filter (fun x => key x == v) = d.toList.filter (fun x => key x == v) :=
  insOuter_filter key hlt v 0 d.size _ 1 d rfl (Nat.le_refl _)
omit hlt [Inhabited α] in
/-- a list that ascends by its keys is the lists of each key, one after another -/
theorem asc_parts : ∀ (n : Nat) (l : List α), l.Pairwise (fun x y => key x ≤ key y) → (∀ x ∈ l, key x < n) → l = (List.range n).flatMap fun v => l.filter (fun x => key x == v)
  | 0, l, _, h => by
    cases l with
    | nil => rfl
    | cons x l => exact absurd (h x (by simp)) (Nat.not_lt_zero _)
  | n + 1, l, hp, h => by
    rw [List.range_succ, List.flatMap_append]
    have hs : l = l.filter (fun x => decide (key x < n)) ++ l.filter (fun x => key x == n) := by
      clear asc_parts
      induction l with
      | nil => rfl
      | cons x l ih =>
        obtain ⟨h1, h2⟩ := List.pairwise_cons.1 hp
        have ih := ih h2 fun y hy => h y (by simp [hy])
        by_cases hx : key x < n
        · have hx2 : (key x == n) = false := beq_eq_false_iff_ne.2 (by omega)
          rw [List.filter_cons, if_pos (by simpa using hx), List.filter_cons, if_neg (by simp [hx2]), List.cons_append, ← ih]
        · have hxn : key x = n := by have := h x (by simp); omega
          have e1 : l.filter (fun x => decide (key x < n)) = [] := by
            rw [List.filter_eq_nil_iff]
            intro y hy
            have := h1 y hy
            simp
            omega
          have e2 : l.filter (fun x => key x == n) = l := by
            rw [e1] at ih
            exact ih.symm
          rw [List.filter_cons, if_neg (by simpa using hx), List.filter_cons, if_pos (by simp [hxn]), e1, e2]
          rfl
    have ih := asc_parts n (l.filter (fun x => decide (key x < n))) (hp.filter _) (fun x hx => by simpa using (List.mem_filter.1 hx).2)
    have same : ∀ L : List Nat, (∀ v ∈ L, v < n) → L.flatMap (fun v => (l.filter (fun x => decide (key x < n))).filter (fun x => key x == v)) = L.flatMap (fun v => l.filter (fun x => key x == v)) := by
      intro L
      induction L with
      | nil => intro _; rfl
      | cons v L ihL =>
        intro hL
        rw [List.flatMap_cons, List.flatMap_cons, ihL fun u hu => hL u (by simp [hu])]
        congr 1
        rw [List.filter_filter]
        refine List.filter_congr fun x _ => ?_
        have hv := hL v (by simp)
        by_cases hx : key x = v
        · simp [hx, hv]
        · simp [hx]
    rw [same _ fun v hv => by simpa using hv] at ih
    conv => lhs; rw [hs, ih]
    simp
/-- insertion sort by a key: the lists of each key, one after another -/
theorem insertion_parts (n : Nat) (d : Array α) (h : ∀ x ∈ d.toList, key x < n) : (insertionSort lt d 0 d.size).toList = (List.range n).flatMap fun v => d.toList.filter (fun x => key x == v) := by
  have hw : SWO lt := ⟨fun x => by rw [hlt]; simp, fun x y z a b => by rw [hlt] at *; simp at *; omega, fun x y z a b => by rw [hlt] at *; simp at *; omega⟩
  obtain ⟨hperm, hsort⟩ := insertionSort_holds hw d 0 d.size (Nat.zero_le _) (Nat.le_refl _)
  have hp : (insertionSort lt d 0 d.size).toList.Perm d.toList := by
    have h1 := hperm.2.2
    have h2 := hperm.1
    generalize insertionSort lt d 0 d.size = d' at h1 h2 ⊢
    have e1 : d'.extract 0 d.size = d' := by rw [← h2]; simp
    have e2 : d.extract 0 d.size = d := by simp
    rwa [e1, e2] at h1
  have hs : (insertionSort lt d 0 d.size).toList.Pairwise (fun x y => key x ≤ key y) := by
    rw [List.pairwise_iff_getElem]
    intro i j hi hj hij
    have h2 := hperm.1
    have hj2 : j < (insertionSort lt d 0 d.size).size := by simpa using hj
    have hi2 : i < (insertionSort lt d 0 d.size).size := by omega
    have := hsort i j (Nat.zero_le _) hij (by omega)
    rw [hlt] at this
    simp [hj2, hi2] at this
    simpa using this
  rw [asc_parts key n _ hs fun x hx => h x (hp.mem_iff.1 hx)]
  congr 1
  funext v
  exact insertion_filter key hlt v d
end
end Go.Proofs.Ytpobfdhmggkbaaa
/- A tender as a value, and its block of 75 cells. -/
namespace Go.Proofs.Ytpobfdhmggkbaaa
open Go
abbrev Ofr := Int × Int × Int
structure TdV where
  lots : Int
  state : Int
  given : List Bool
  seals : List Nat
  shown : List Bool
  offers : List Ofr
  count : Nat
structure TdV.ok (v : TdV) : Prop where
  given : v.given.length = 8
  seals : v.seals.length = 8
  shown : v.shown.length = 8
  offers : v.offers.length = 16
  count : v.count ≤ 16
def ofC (o : Ofr) : List Value := [.int .i64 o.1, .int .i64 o.2.1, .int .i64 o.2.2]
def cellsO (l : List Ofr) : List Value := l.flatMap ofC
theorem cellsO_len : ∀ l : List Ofr, (cellsO l).length = l.length * 3
  | [] => rfl
  | o :: l => by
    show (ofC o ++ cellsO l).length = _
    rw [List.length_append, cellsO_len l, List.length_cons]
    show 3 + _ = _
    omega
theorem cellsO_append (l m : List Ofr) : cellsO (l ++ m) = cellsO l ++ cellsO m := List.flatMap_append
theorem cellsO_one (l : List Ofr) : ∀ v ∈ cellsO l, v.oneCell' = true := by
  intro v hv
  obtain ⟨o, _, h⟩ := List.mem_flatMap.1 hv
  simp [ofC] at h
  rcases h with rfl | rfl | rfl <;> rfl
theorem cellsO_take : ∀ (k : Nat) (l : List Ofr), (cellsO l).take (k * 3) = cellsO (l.take k)
  | 0, l => by simp [cellsO]
  | k + 1, [] => by simp [cellsO]
  | k + 1, o :: l => by
    rw [show (k + 1) * 3 = k * 3 + 3 by omega]
    show (_ :: _ :: _ :: cellsO l).take (k * 3 + 3) = _ :: _ :: _ :: cellsO (l.take k)
    rw [← cellsO_take k l]
    rfl
theorem cellsO_drop : ∀ (k : Nat) (l : List Ofr), (cellsO l).drop (k * 3) = cellsO (l.drop k)
  | 0, l => by simp
  | k + 1, [] => by simp [cellsO]
  | k + 1, o :: l => by
    rw [show (k + 1) * 3 = k * 3 + 3 by omega]
    show (_ :: _ :: _ :: cellsO l).drop (k * 3 + 3) = cellsO (l.drop k)
    rw [← cellsO_drop k l]
    rfl
theorem cellsO_at : ∀ (l : List Ofr) (i : Nat) (o : Ofr), l[i]? = some o → (cellsO l)[i * 3]? = some (.int .i64 o.1) ∧ (cellsO l)[i * 3 + 1]? = some (.int .i64 o.2.1) ∧ (cellsO l)[i * 3 + 2]? = some (.int .i64 o.2.2)
  | [], i, o, h => by simp at h
  | q :: l, 0, o, h => by
    simp at h
    subst h
    exact ⟨rfl, rfl, rfl⟩
  | q :: l, i + 1, o, h => by
    have := cellsO_at l i o (by simpa using h)
    rw [show (i + 1) * 3 = i * 3 + 3 by omega, show i * 3 + 3 + 1 = i * 3 + 1 + 3 by omega, show i * 3 + 3 + 2 = i * 3 + 2 + 3 by omega]
    exact this
def cellsT (v : TdV) : List Value := .int .i64 v.lots :: .int .i64 v.state :: (v.given.map Value.bool ++ (v.seals.map (fun n => Value.int .u64 (n : Nat)) ++ (v.shown.map Value.bool ++ (cellsO v.offers ++ [.int .i64 v.count]))))
theorem cellsT_len {v : TdV} (h : v.ok) : (cellsT v).length = 75 := by
  simp [cellsT, cellsO_len, h.given, h.seals, h.shown, h.offers]
theorem cellsT_given {v : TdV} (h : v.ok) {i : Nat} (hi : i < 8) : (cellsT v)[2 + i]? = some (.bool (v.given.getD i false)) := by
  have := h.given
  rw [show 2 + i = i + 1 + 1 by omega]
  simp only [cellsT, List.getElem?_cons_succ]
  rw [List.getElem?_append_left (by simp; omega), List.getElem?_map, List.getElem?_eq_getElem (by omega), List.getD_eq_getElem?_getD, List.getElem?_eq_getElem (by omega)]
  rfl
theorem cellsT_seals {v : TdV} (h : v.ok) {i : Nat} (hi : i < 8) : (cellsT v)[10 + i]? = some (.int .u64 (v.seals.getD i 0 : Nat)) := by
  have h1 := h.given
  have h2 := h.seals
  rw [show 10 + i = (8 + i) + 1 + 1 by omega]
  simp only [cellsT, List.getElem?_cons_succ]
  rw [List.getElem?_append_right (by simp; omega), List.length_map, h1, show 8 + i - 8 = i by omega, List.getElem?_append_left (by simp; omega), List.getElem?_map, List.getElem?_eq_getElem (by omega), List.getD_eq_getElem?_getD, List.getElem?_eq_getElem (by omega)]
  rfl
theorem cellsT_shown {v : TdV} (h : v.ok) {i : Nat} (hi : i < 8) : (cellsT v)[18 + i]? = some (.bool (v.shown.getD i false)) := by
  have h1 := h.given
  have h2 := h.seals
  have h3 := h.shown
  rw [show 18 + i = (16 + i) + 1 + 1 by omega]
  simp only [cellsT, List.getElem?_cons_succ]
  rw [List.getElem?_append_right (by simp; omega), List.length_map, h1, show 16 + i - 8 = 8 + i by omega, List.getElem?_append_right (by simp; omega), List.length_map, h2, show 8 + i - 8 = i by omega, List.getElem?_append_left (by simp; omega), List.getElem?_map, List.getElem?_eq_getElem (by omega), List.getD_eq_getElem?_getD, List.getElem?_eq_getElem (by omega)]
  rfl
theorem cellsT_count {v : TdV} (h : v.ok) : (cellsT v)[74]? = some (.int .i64 v.count) := by
  have h1 := h.given
  have h2 := h.seals
  have h3 := h.shown
  have h4 := h.offers
  rw [show 74 = 72 + 1 + 1 by omega]
  simp only [cellsT, List.getElem?_cons_succ]
  rw [List.getElem?_append_right (by simp; omega), List.length_map, h1, List.getElem?_append_right (by simp; omega), List.length_map, h2, List.getElem?_append_right (by simp; omega), List.length_map, h3, List.getElem?_append_right (by rw [cellsO_len]; omega), cellsO_len, h4]
  rfl
/-- the offers' cells -/
theorem cellsT_offers {v : TdV} (h : v.ok) {j : Nat} (hj : j < 48) : (cellsT v)[26 + j]? = (cellsO v.offers)[j]? := by
  have h1 := h.given
  have h2 := h.seals
  have h3 := h.shown
  have h4 := h.offers
  rw [show 26 + j = (24 + j) + 1 + 1 by omega]
  simp only [cellsT, List.getElem?_cons_succ]
  rw [List.getElem?_append_right (by simp; omega), List.length_map, h1, List.getElem?_append_right (by simp; omega), List.length_map, h2, List.getElem?_append_right (by simp; omega), List.length_map, h3, List.getElem?_append_left (by rw [cellsO_len]; omega)]
  congr 1
  omega
/-- a cell of one part turned -/
theorem cellsT_set_given {v : TdV} (h : v.ok) {i : Nat} (hi : i < 8) (b : Bool) : (cellsT v).set (2 + i) (.bool b) = cellsT { v with given := v.given.set i b } := by
  have h1 := h.given
  rw [show 2 + i = i + 1 + 1 by omega]
  simp only [cellsT, List.set_cons_succ]
  rw [List.set_append_left _ _ (by simp; omega), List.map_set]
theorem cellsT_set_seals {v : TdV} (h : v.ok) {i : Nat} (hi : i < 8) (n : Nat) : (cellsT v).set (10 + i) (.int .u64 (n : Nat)) = cellsT { v with seals := v.seals.set i n } := by
  have h1 := h.given
  have h2 := h.seals
  rw [show 10 + i = (8 + i) + 1 + 1 by omega]
  simp only [cellsT, List.set_cons_succ]
  rw [List.set_append_right _ _ (by simp; omega), List.length_map, h1, show 8 + i - 8 = i by omega, List.set_append_left _ _ (by simp; omega), List.map_set]
theorem cellsT_set_shown {v : TdV} (h : v.ok) {i : Nat} (hi : i < 8) (b : Bool) : (cellsT v).set (18 + i) (.bool b) = cellsT { v with shown := v.shown.set i b } := by
  have h1 := h.given
  have h2 := h.seals
  have h3 := h.shown
  rw [show 18 + i = (16 + i) + 1 + 1 by omega]
  simp only [cellsT, List.set_cons_succ]
  rw [List.set_append_right _ _ (by simp; omega), List.length_map, h1, show 16 + i - 8 = 8 + i by omega, List.set_append_right _ _ (by simp; omega), List.length_map, h2, show 8 + i - 8 = i by omega, List.set_append_left _ _ (by simp; omega), List.map_set]
theorem cellsT_set_state (v : TdV) (s : Int) : (cellsT v).set 1 (.int .i64 s) = cellsT { v with state := s } := rfl
theorem cellsT_set_count {v : TdV} (h : v.ok) (n : Nat) : (cellsT v).set 74 (.int .i64 (n : Nat)) = cellsT { v with count := n } := by
  have h1 := h.given
  have h2 := h.seals
  have h3 := h.shown
  have h4 := h.offers
  rw [show 74 = 72 + 1 + 1 by omega]
  simp only [cellsT, List.set_cons_succ]
  rw [List.set_append_right _ _ (by simp; omega), List.length_map, h1, List.set_append_right _ _ (by simp; omega), List.length_map, h2, List.set_append_right _ _ (by simp; omega), List.length_map, h3, List.set_append_right _ _ (by rw [cellsO_len]; omega), cellsO_len, h4]
  rfl
/-- offers laid in from the k-th on -/
theorem cellsT_lay {v : TdV} (h : v.ok) (k : Nat) (l : List Ofr) (hk : k + l.length ≤ 16) :
    (cellsT v).take (26 + k * 3) ++ (cellsO l ++ (cellsT v).drop (26 + k * 3 + (cellsO l).length)) = cellsT { v with offers := v.offers.take k ++ (l ++ v.offers.drop (k + l.length)) } := by
  have h1 := h.given
  have h2 := h.seals
  have h3 := h.shown
  have h4 := h.offers
  obtain ⟨X, hX⟩ : ∃ X, X = .int .i64 v.lots :: .int .i64 v.state :: (v.given.map Value.bool ++ (v.seals.map (fun n => Value.int .u64 (n : Nat)) ++ v.shown.map Value.bool)) := ⟨_, rfl⟩
  have hXl : X.length = 26 := by rw [hX]; simp [h1, h2, h3]
  have e : ∀ o c, cellsT { v with offers := o, count := c } = X ++ (cellsO o ++ [.int .i64 (c : Nat)]) := fun o c => by rw [hX]; simp [cellsT]
  have e0 : cellsT v = X ++ (cellsO v.offers ++ [.int .i64 v.count]) := e v.offers v.count
  have e1 : cellsT { v with offers := v.offers.take k ++ (l ++ v.offers.drop (k + l.length)) } = _ := e _ v.count
  rw [e1, e0, cellsO_append, cellsO_append]
  have hl := cellsO_len l
  have ho := cellsO_len v.offers
  rw [List.take_append, List.take_of_length_le (by omega), hXl, show 26 + k * 3 - 26 = k * 3 by omega, List.take_append, cellsO_take, show k * 3 - (cellsO v.offers).length = 0 by omega, List.take_zero, List.append_nil]
  rw [List.drop_append, List.drop_of_length_le (by omega), List.nil_append, hXl, show 26 + k * 3 + (cellsO l).length - 26 = (k + l.length) * 3 by omega, List.drop_append, cellsO_drop, show (k + l.length) * 3 - (cellsO v.offers).length = 0 by omega, List.drop_zero]
  simp
end Go.Proofs.Ytpobfdhmggkbaaa
/- A tender in memory. -/
namespace Go.Proofs.Ytpobfdhmggkbaaa
open Go Go.RowKit
structure TdAt (W : World) (b : Nat) (v : TdV) : Prop where
  ok : v.ok
  heap : W.heap[b]? = some (.cells (cellsT v).toArray 75 (0, 0))
section
variable {W W' : World} {b : Nat} {v v' : TdV}
theorem TdAt.lt (h : TdAt W b v) : b < W.heap.size := (Array.getElem?_eq_some_iff.1 h.heap).1
theorem TdAt.cell (h : TdAt W b v) {i : Nat} {x : Value} (e : (cellsT v)[i]? = some x) : W.cell? ⟨b, i, none⟩ = some x := by
  unfold World.cell?
  simp only [h.heap]
  simpa using e
theorem TdAt.frozen (h : TdAt W b v) (i : Nat) : W.frozen? ⟨b, i, none⟩ = false := by simp [World.frozen?, h.heap]
theorem TdAt.lots (h : TdAt W b v) : W.cell? ⟨b, 0, none⟩ = some (.int .i64 v.lots) := h.cell rfl
theorem TdAt.state (h : TdAt W b v) : W.cell? ⟨b, 1, none⟩ = some (.int .i64 v.state) := h.cell rfl
theorem TdAt.given (h : TdAt W b v) {i : Nat} (hi : i < 8) : W.cell? ⟨b, 2 + i, none⟩ = some (.bool (v.given.getD i false)) := h.cell (cellsT_given h.ok hi)
theorem TdAt.seals (h : TdAt W b v) {i : Nat} (hi : i < 8) : W.cell? ⟨b, 10 + i, none⟩ = some (.int .u64 (v.seals.getD i 0 : Nat)) := h.cell (cellsT_seals h.ok hi)
theorem TdAt.shown (h : TdAt W b v) {i : Nat} (hi : i < 8) : W.cell? ⟨b, 18 + i, none⟩ = some (.bool (v.shown.getD i false)) := h.cell (cellsT_shown h.ok hi)
theorem TdAt.count (h : TdAt W b v) : W.cell? ⟨b, 74, none⟩ = some (.int .i64 v.count) := h.cell (cellsT_count h.ok)
theorem TdAt.keep (h : TdAt W b v) {row : Option Nat} (hg : W.grownBy W' row) (hne : row ≠ some b) : TdAt W' b v :=
  ⟨h.ok, (hg.block b h.lt (fun e => hne e.symm)).trans h.heap⟩
theorem TdAt.below (h : TdAt W b v) (hb : Below W.heap.size W W') : TdAt W' b v := ⟨h.ok, (hb.block b h.lt).trans h.heap⟩
theorem TdAt.set (h : TdAt W b v) (hok : v'.ok) {i : Nat} {x : Value} (e : (cellsT v).set i x = cellsT v') : TdAt (W.setCell ⟨b, i, none⟩ x) b v' ∧ W.grownBy (W.setCell ⟨b, i, none⟩ x) (some b) := by
  rw [setCell_eq_setRow W b i _ _ _ x h.heap]
  refine ⟨⟨hok, ?_⟩, ⟨rfl, rfl, rfl, by simp [World.setRow], fun k hk hne => setRow_other _ _ _ _ (fun e => hne (by rw [e]))⟩⟩
  rw [setRow_heap W b _ _ _ _ h.heap]
  simp [e]
theorem TdAt.lay (h : TdAt W b v) (k : Nat) (l : List Ofr) (hk : k + l.length ≤ 16) :
    TdAt (W.setRow b ((cellsT v).toArray.toList.take (26 + k * 3) ++ (cellsO l ++ (cellsT v).toArray.toList.drop (26 + k * 3 + (cellsO l).length))).toArray) b { v with offers := v.offers.take k ++ (l ++ v.offers.drop (k + l.length)) } ∧
    W.grownBy (W.setRow b ((cellsT v).toArray.toList.take (26 + k * 3) ++ (cellsO l ++ (cellsT v).toArray.toList.drop (26 + k * 3 + (cellsO l).length))).toArray) (some b) := by
  have e := cellsT_lay h.ok k l hk
  have h4 := h.ok.offers
  refine ⟨⟨⟨h.ok.given, h.ok.seals, h.ok.shown, ?_, h.ok.count⟩, ?_⟩, ⟨rfl, rfl, rfl, by simp [World.setRow], fun k hk hne => setRow_other _ _ _ _ (fun e => hne (by rw [e]))⟩⟩
  · simp
    omega
  · rw [setRow_heap W b _ _ _ _ h.heap, List.toList_toArray, e]
end
end Go.Proofs.Ytpobfdhmggkbaaa
