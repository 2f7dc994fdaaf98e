/- EqualFunc, leadFrom, Included. -/
import Derived.Test.YtbinmkigolkhcaaDoorPJ
import Derived.Deep.AppendLies
namespace Go.Proofs.YtbinmkigolkhcaaDoor
open Go.RowKit Go.Sort
attribute [local go_sem] Oper.semAt_some

def BoolsAt (B : Nat) (w : World) (A : Option Addr) (n : Nat) (l : List Bool) : Prop :=
  l.length = n ∧ (n = 0 ∨ ∃ b off, A = some ⟨b, off, none⟩ ∧ b < B ∧ ∀ i, i < n → w.cell? ⟨b, off + i, none⟩ = some (.bool (l.getD i false)))
theorem BoolsAt.below {B : Nat} {w w' : World} {A : Option Addr} {n : Nat} {l : List Bool} (h : BoolsAt B w A n l) (hb : Below B w w') : BoolsAt B w' A n l := by
  refine ⟨h.1, ?_⟩
  rcases h.2 with h0 | ⟨b, off, e, hlt, hc⟩
  · exact .inl h0
  · exact .inr ⟨b, off, e, hlt, fun i hi => (hb.cell (p := ⟨b, off + i, none⟩) hlt).trans (hc i hi)⟩
theorem BoolsAt.at_ {B : Nat} {w : World} {A : Option Addr} {n i : Nat} {l : List Bool} (h : BoolsAt B w A n l) (hi : i < n) :
    ∃ b off, A = some ⟨b, off, none⟩ ∧ b < B ∧ w.cell? ⟨b, off + i, none⟩ = some (.bool (l.getD i false)) := by
  rcases h.2 with h0 | ⟨b, off, e, hb, hc⟩
  · omega
  · exact ⟨b, off, e, hb, hc i hi⟩
theorem bools_of_own {W : World} {base k c : Nat} {a : Option Addr} {l : List Bool} (h : W.ownsRow base 4 1 (.slice a k c) k (cellsL l)) : BoolsAt W.heap.size W a k l := by
  have hl : l.length = k := by have := h.1; unfold cellsL at this; simpa using this
  refine ⟨hl, ?_⟩
  rcases h.2 with ⟨_, h0⟩ | ⟨g, cap, cur, hv, hb, hg, hr⟩
  · exact .inl h0
  · injection hv with h1 h2 h3
    subst h1
    refine .inr ⟨g, 0, rfl, (Array.getElem?_eq_some_iff.1 hg).1, fun i hi => ?_⟩
    rw [Nat.zero_add]
    have e : (⟨g, 0, none⟩ : Addr).add i = ⟨g, i, none⟩ := by
      by_cases h0 : i = 0
      · subst h0; rfl
      · simp [Addr.add, h0]
    have c0 := h.cells (g := g) rfl i (.bool (l.getD i false)) (by
      unfold cellsL
      rw [List.getElem?_map, List.getElem?_eq_getElem (by omega), List.getD_eq_getElem?_getD, List.getElem?_eq_getElem (by omega)]
      rfl)
    rw [e] at c0
    exact c0
def leadB (ss : List St) (l : List Bool) : Bool := decide (ss.map (·.2) = l)
theorem lead_len {ss : List St} {l : List Bool} (h : ss.length ≠ l.length) : leadB ss l = false := by
  refine decide_eq_false fun e => h ?_
  rw [← e, List.length_map]
theorem lead_ne {ss : List St} {l : List Bool} {i : Nat} (hi : i < ss.length) (h2 : i < l.length) (h : stL ss i ≠ l.getD i false) : leadB ss l = false := by
  refine decide_eq_false fun e => h ?_
  subst e
  unfold stL
  rw [List.getD_eq_getElem?_getD, List.getD_eq_getElem?_getD, List.getElem?_map, List.getElem?_eq_getElem hi]
  rfl
theorem lead_all {ss : List St} {l : List Bool} (hl : ss.length = l.length) (h : ∀ i, i < ss.length → stL ss i = l.getD i false) : leadB ss l = true := by
  refine decide_eq_true (List.ext_getElem (by rw [List.length_map, hl]) fun i h1 h2 => ?_)
  rw [List.length_map] at h1
  have := h i h1
  unfold stL at this
  rw [List.getD_eq_getElem?_getD, List.getD_eq_getElem?_getD, List.getElem?_eq_getElem h1, List.getElem?_eq_getElem h2] at this
  rw [List.getElem_map]
  exact this

set_option maxHeartbeats 2000000 in
set_option maxRecDepth 100000 in
theorem EqualFunc_any (S : Option Addr) (m d : Nat) (ss : List St) (Q : Option Addr) (k e : Nat) (l : List Bool) (w : World) (hs : StepsAt w.heap.size w S m ss) (hl : BoolsAt w.heap.size w Q k l) (hm : m ≤ 1000000) (hk : k ≤ 1000000) :
    Calls Tryd.prog 92 #[.slice S m d, .slice Q k e, .func (.func 94) #[] #[]] w fun e w' => e = .returned (.bool (leadB ss l)) ∧ Below w.heap.size w w' := by
  have mixed := mixedOrders
  have HS := hide hs
  have HL := hide hl
  have l1 := hs.1
  have l2 := hl.1
  clear hs hl
  by_cases hmk : m = k
  · subst hmk
    go_enter Tryd.func92, Tryd.ntmps92
    go_wp2_with fail
    go_loopw [17] (fun vi wr => ∃ i : Nat, i ≤ m ∧ vi = .int .i64 i ∧ (∀ j, j < i → stL ss j = l.getD j false) ∧ Hid (Below w.heap.size w wr)) (fun vi _ => m - (intOf vi).toNat)
    case atStart => exact ⟨0, Nat.zero_le _, rfl, fun j hj => absurd hj (Nat.not_lt_zero _), Below.refl _ _⟩
    case round =>
      obtain ⟨i, hi, rfl, hall, HB⟩ := hrel
      have HA := hide hall
      clear hall
      by_cases hlt : i < m
      · have hlt' : (i : Int) < (m : Int) := by omega
        obtain ⟨b, off, rfl, hb, c0, c1, -⟩ := (HS.out.below HB.out).at_ hlt
        obtain ⟨b2, off2, rfl, hb2, c2⟩ := (HL.out.below HB.out).at_ hlt
        obtain ⟨x, hxx⟩ : ∃ x, stH ss i = x := ⟨_, rfl⟩
        obtain ⟨y, hyy⟩ : ∃ y, stL ss i = y := ⟨_, rfl⟩
        obtain ⟨z, hzz⟩ : ∃ z, l.getD i false = z := ⟨_, rfl⟩
        rw [hxx] at c0
        rw [hyy] at c1
        rw [hzz] at c2
        have HBA := hide (HB.out.alloc HB.out.size (.cells #[.int .u64 x, .bool y] 41))
        have HF := hide (leadFn_any x y z (wr.alloc (.cells #[.int .u64 x, .bool y] 41)))
        have c3 : (wr.alloc (.cells #[.int .u64 x, .bool y] 41)).cell? ⟨b2, off2 + i, none⟩ = some (.bool z) := ((Gr.refl wr).alloc _).cell (Nat.lt_of_lt_of_le hb2 HB.out.size) |>.trans c2
        have HY := hide hyy
        have HZ := hide hzz
        clear hxx hyy hzz c2
        by_cases hyz : y = z
        · have hq : (y == z) = true := by rw [hyz]; cases z <;> rfl
          have HYZ := hide hyz
          clear hyz
          go_wp2_with fail
          refine HF.out.mono ?_
          rintro e w2 ⟨rfl, hb2⟩
          have HB2 := hide (HBA.out.trans (hb2.mono HBA.out.size))
          clear hb2
          go_wp2_with fail
          refine ⟨⟨i + 1, by omega, by go_num, fun j hj => ?_, HB2⟩, by simp [intOf]; omega⟩
          rcases Nat.lt_or_ge j i with h | h
          · exact HA.out j h
          · obtain rfl : j = i := by omega
            rw [HY.out, HZ.out, HYZ.out]
        · have hq : (y == z) = false := by cases y <;> cases z <;> first | rfl | exact absurd rfl hyz
          have HR := hide (lead_ne (ss := ss) (l := l) (i := i) (by omega) (by omega) (by rw [HY.out, HZ.out]; exact hyz))
          clear hyz
          go_wp2_with fail
          refine HF.out.mono ?_
          rintro e w2 ⟨rfl, hb2⟩
          have HB2 := hide (HBA.out.trans (hb2.mono HBA.out.size))
          clear hb2
          go_wp2_with fail
          go_ret
          exact ⟨by rw [HR.out]; rfl, HB2.out⟩
      · obtain rfl : i = m := by omega
        have HR := hide (lead_all (ss := ss) (l := l) (by omega) (by rw [l1]; exact HA.out))
        go_wp2_with fail
        go_ret
        exact ⟨by rw [HR.out]; rfl, HB.out⟩
  · have z1 : ((m : Int) != (k : Int)) = true := bne_iff_ne.2 (by omega)
    rw [lead_len (by omega)]
    go_enter Tryd.func92, Tryd.ntmps92
    go_wp2_with fail
    go_ret
    exact ⟨rfl, Below.refl _ _⟩

set_option maxHeartbeats 1000000 in
theorem leadFrom_any (i n : Nat) (S : Option Addr) (m d : Nat) (ss : List St) (w : World) (h1 : i < n) (h2 : n ≤ 1000000) (hs : StepsAt w.heap.size w S m ss) (hm : m ≤ 1000000) :
    Calls Tryd.prog 68 #[.int .i64 i, .int .i64 n, .slice S m d] w fun e w' => e = .returned (.bool (leadB ss (sidesV i n))) ∧ Below w.heap.size w w' := by
  have HC := hide (sides_any n n i w (Nat.le_refl _) (by omega) h1 h2)
  have HS := hide hs
  have HL := hide (sides_len i n)
  clear hs
  unfold SidesPost at HC
  obtain ⟨L, hL⟩ : ∃ L, sidesV i n = L := ⟨_, rfl⟩
  rw [hL] at HC HL ⊢
  clear hL
  go_enter Tryd.func68, Tryd.ntmps68
  go_wp2_with fail
  refine HC.out.mono ?_
  rintro e w1 ⟨a, c, rfl, ho, hb⟩
  have HB := hide hb
  have HE := hide (EqualFunc_any S m d ss a L.length c L w1 (HS.out.now hb (Nat.le_refl _)) (bools_of_own ho) hm (by have := HL.out; omega))
  clear ho hb HC
  go_wp2_with fail
  refine HE.out.mono ?_
  rintro e w2 ⟨rfl, hb2⟩
  go_wp2
  go_ret
  exact ⟨rfl, HB.out.trans (hb2.mono HB.out.size)⟩
end Go.Proofs.YtbinmkigolkhcaaDoor
/- Included. -/
namespace Go.Proofs.YtbinmkigolkhcaaDoor
open Go.RowKit Go.Sort
attribute [local go_sem] Oper.semAt_some

def includedV (l : List UInt8) (i n : Int) (r : Nat) (ss : List St) : Bool × Int :=
  if placeB i n = false then (false, 2) else if 256 < l.length then (false, 3) else (leadB ss (sidesV i.toNat n.toNat) && decide (followV l ss = r), 0)
def TwoPost (x : Bool × Int) (w : World) (e : Ending) (w' : World) : Prop := e = .returned (.tuple #[.bool x.1, .int .i64 x.2]) ∧ Below w.heap.size w w'
set_option maxHeartbeats 2000000 in
set_option maxRecDepth 100000 in
theorem Included_any (A : Option Addr) (n c : Nat) (l : List UInt8) (i j : Int) (r : Nat) (S : Option Addr) (m d : Nat) (ss : List St) (w : World) (hx : BytesAt w.heap.size w A n l) (hs : StepsAt w.heap.size w S m ss) (hm : m ≤ 1000000) :
    Calls Tryd.prog 32 #[.slice A n c, .int .i64 i, .int .i64 j, .int .u64 r, .slice S m d] w (TwoPost (includedV l i j r ss) w) := by
  have HP := hide (isPlace_any i j w)
  have hlen := hx.1
  cases hp : placeB i j
  · have e : includedV l i j r ss = (false, 2) := if_pos hp
    rw [e]
    rw [hp] at HP
    clear e hp hx hs
    go_enter Tryd.func32, Tryd.ntmps32
    go_wp2_with fail
    refine HP.out.mono ?_
    rintro e w1 ⟨rfl, rfl⟩
    go_wp2_with fail
    go_ret2
    exact ⟨rfl, Below.refl _ _⟩
  · rw [hp] at HP
    have HT := hide (isTooLong_any A n c w)
    by_cases hn : 256 < n
    · have e : includedV l i j r ss = (false, 3) := by
        unfold includedV
        rw [if_neg (by rw [hp]; decide), if_pos (by omega)]
      have q : decide ((256 : Int) < (n : Int)) = true := decide_eq_true (by omega)
      rw [e]
      rw [q] at HT
      clear e hp hx hs q hn
      go_enter Tryd.func32, Tryd.ntmps32
      go_wp2_with fail
      refine HP.out.mono ?_
      rintro e w1 ⟨rfl, rfl⟩
      go_wp2_with fail
      refine HT.out.mono ?_
      rintro e w1 ⟨rfl, rfl⟩
      go_wp2_with fail
      go_ret2
      exact ⟨rfl, Below.refl _ _⟩
    · have q : decide ((256 : Int) < (n : Int)) = false := decide_eq_false (by omega)
      rw [q] at HT
      unfold placeB at hp
      have hpp := of_decide_eq_true hp
      obtain ⟨i', rfl⟩ : ∃ k : Nat, i = k := ⟨i.toNat, by omega⟩
      obtain ⟨j', rfl⟩ : ∃ k : Nat, j = k := ⟨j.toNat, by omega⟩
      have e : includedV l i' j' r ss = (leadB ss (sidesV i' j') && decide (followV l ss = r), 0) := by
        unfold includedV
        rw [if_neg (by unfold placeB; rw [hp]; decide), if_neg (by omega)]
        rfl
      rw [e]
      have HL := hide (leadFrom_any i' j' S m d ss w (by omega) (by omega) hs hm)
      have HF : Hid (∀ w1, Below w.heap.size w w1 → Calls Tryd.prog 34 #[.slice A n c, .slice S m d] w1 fun e w' => e = .returned (.int .u64 (followV l ss : Nat)) ∧ Below w1.heap.size w1 w') :=
        fun w1 hb => Follow_any A n c l S m d ss w1 (hx.now hb (Nat.le_refl _)) (by omega) (hs.now hb (Nat.le_refl _)) hm
      obtain ⟨F, hF⟩ : ∃ F, followV l ss = F := ⟨_, rfl⟩
      rw [hF] at HF ⊢
      clear e hp hpp hx hs q hn hlen hF
      cases hB : leadB ss (sidesV i' j')
      · rw [hB] at HL
        clear hB HF
        go_enter Tryd.func32, Tryd.ntmps32
        go_wp2_with fail
        refine HP.out.mono ?_
        rintro e w1 ⟨rfl, rfl⟩
        go_wp2_with fail
        refine HT.out.mono ?_
        rintro e w1 ⟨rfl, rfl⟩
        go_wp2_with fail
        refine HL.out.mono ?_
        rintro e w2 ⟨rfl, hb2⟩
        go_wp2_with fail
        go_ret2
        exact ⟨rfl, hb2⟩
      · rw [hB] at HL
        clear hB
        go_enter Tryd.func32, Tryd.ntmps32
        go_wp2_with fail
        refine HP.out.mono ?_
        rintro e w1 ⟨rfl, rfl⟩
        go_wp2_with fail
        refine HT.out.mono ?_
        rintro e w1 ⟨rfl, rfl⟩
        go_wp2_with fail
        refine HL.out.mono ?_
        rintro e w2 ⟨rfl, hb2⟩
        have HB := hide hb2
        clear hb2
        go_wp2_with fail
        refine (HF.out w2 HB.out).mono ?_
        rintro e w3 ⟨rfl, hb3⟩
        go_wp2_with fail
        go_ret2
        refine ⟨?_, HB.out.trans (hb3.mono HB.out.size)⟩
        show Ending.returned (.tuple #[.bool ((F : Int) == (r : Int)), .int .i64 0]) = .returned (.tuple #[.bool (true && decide (F = r)), .int .i64 0])
        have : ((F : Int) == (r : Int)) = (true && decide (F = r)) := by
          rw [Bool.true_and]
          by_cases h : F = r
          · subst h; simp
          · rw [decide_eq_false h]; exact beq_eq_false_iff_ne.2 (by omega)
        rw [this]
end Go.Proofs.YtbinmkigolkhcaaDoor
/- A log in memory; New, isMade, Len, Include. -/
set_option linter.unusedSimpArgs false
set_option linter.unusedVariables false
namespace Go.Proofs.YtbinmkigolkhcaaDoor
open Go.RowKit Go.Sort
attribute [local go_sem] Oper.semAt_some

theorem own_block {w : World} {base : Nat} {e : TypeId} {size n : Nat} {v : Value} {xs : List Value} (h : w.ownsRow base e size v n xs) {k : Nat} (hk : v.ownBlock = some k) : ∃ cur, w.heap[k]? = some (.cells cur e (0, 0)) := by
  rcases h.2 with ⟨rfl, _⟩ | ⟨g, cap, cur, rfl, _, hg, _⟩
  · cases hk
  · injection hk with hk
    subst hk
    exact ⟨cur, hg⟩
/-- an owned row where its own block is as it was -/
theorem own_same {w w' : World} {base : Nat} {e : TypeId} {size n : Nat} {v : Value} {xs : List Value} (h : w.ownsRow base e size v n xs) (hs : ∀ k, v.ownBlock = some k → w'.heap[k]? = w.heap[k]?) : w'.ownsRow base e size v n xs := by
  refine ⟨h.1, ?_⟩
  rcases h.2 with h | ⟨g, cap, cur, rfl, hb, hg, rest⟩
  · exact .inl h
  · exact .inr ⟨g, cap, cur, rfl, hb, (hs g rfl).trans hg, rest⟩
theorem own_zero {w : World} {base : Nat} {e : TypeId} {size n : Nat} {v : Value} {xs : List Value} (h : w.ownsRow base e size v n xs) : w.ownsRow 0 e size v n xs := own_keep h (Below.refl _ _) (Nat.zero_le _)
/-- one entry -/
def Ent (w : World) (v : Value) (l : List UInt8) : Prop := ∃ a c, v = .slice a l.length c ∧ l.length ≤ 256 ∧ w.ownsRow 0 5 1 (.slice a l.length c) l.length (cellsB l)
def Each (w : World) : List Value → List (List UInt8) → Prop
  | [], [] => True
  | v :: vs, l :: ls => Ent w v l ∧ Each w vs ls
  | _, _ => False
/-- the blocks of another type than t5 may have changed -/
def Keeps5 (w w' : World) : Prop := ∀ (k : Nat) (cur : Array Value), w.heap[k]? = some (.cells cur 5 (0, 0)) → w'.heap[k]? = some (.cells cur 5 (0, 0))
theorem Ent.kept {w w' : World} {v : Value} {l : List UInt8} (h : Ent w v l) (hk : Keeps5 w w') : Ent w' v l := by
  obtain ⟨a, c, rfl, h1, h2⟩ := h
  refine ⟨a, c, rfl, h1, own_same h2 fun k hb => ?_⟩
  obtain ⟨cur, hc⟩ := own_block h2 hb
  rw [hc]
  exact hk k cur hc
theorem Each.kept {w w' : World} (hk : Keeps5 w w') : ∀ {vs : List Value} {ls : List (List UInt8)}, Each w vs ls → Each w' vs ls
  | [], [], _ => trivial
  | v :: vs, l :: ls, h => ⟨h.1.kept hk, Each.kept hk h.2⟩
  | [], _ :: _, h => h.elim
  | _ :: _, [], h => h.elim
theorem Each.snoc {w : World} {v : Value} {l : List UInt8} (hv : Ent w v l) : ∀ {vs : List Value} {ls : List (List UInt8)}, Each w vs ls → Each w (vs ++ [v]) (ls ++ [l])
  | [], [], _ => ⟨hv, trivial⟩
  | u :: vs, m :: ls, h => ⟨h.1, Each.snoc hv h.2⟩
  | [], _ :: _, h => h.elim
  | _ :: _, [], h => h.elim
theorem Each.length {w : World} : ∀ {vs : List Value} {ls : List (List UInt8)}, Each w vs ls → vs.length = ls.length
  | [], [], _ => rfl
  | v :: vs, l :: ls, h => by rw [List.length_cons, List.length_cons, Each.length h.2]
  | [], _ :: _, h => h.elim
  | _ :: _, [], h => h.elim
theorem Each.at_ {w : World} : ∀ {vs : List Value} {ls : List (List UInt8)}, Each w vs ls → ∀ i, i < ls.length → ∃ v, vs[i]? = some v ∧ Ent w v (ls.getD i [])
  | [], [], _, i, h => by simp at h
  | v :: vs, l :: ls, h, 0, _ => ⟨v, rfl, h.1⟩
  | v :: vs, l :: ls, h, i + 1, hi => Each.at_ h.2 i (by simpa using hi)
  | [], _ :: _, h, _, _ => h.elim
  | _ :: _, [], h, _, _ => h.elim
def cellsP (ps : List Nat) : List Value := ps.map fun p => .int .u64 (p : Nat)
/-- block b holds a log of the entries ls and the peaks ps; F: the blocks that it may write -/
structure LogAt (F : Nat → Prop) (w : World) (b : Nat) (ls : List (List UInt8)) (ps : List Nat) (Ae : Option Addr) (ce : Nat) (Ap : Option Addr) (cp : Nat) : Prop where
  blk : w.heap[b]? = some (.cells #[.bool true, .slice Ae ls.length ce, .slice Ap ps.length cp] 65 (0, 0))
  ents : ∃ vs, w.ownsRow 0 23 1 (.slice Ae ls.length ce) ls.length vs ∧ Each w vs ls
  pks : w.ownsRow 0 24 1 (.slice Ap ps.length cp) ps.length (cellsP ps)
  pb : ∀ p ∈ ps, p < 18446744073709551616
  fb : F b
  fe : ∀ k, (Value.slice Ae ls.length ce).ownBlock = some k → F k
  fp : ∀ k, (Value.slice Ap ps.length cp).ownBlock = some k → F k
section
variable {F : Nat → Prop} {w : World} {b : Nat} {ls : List (List UInt8)} {ps : List Nat} {Ae : Option Addr} {ce : Nat} {Ap : Option Addr} {cp : Nat}
theorem LogAt.lt (h : LogAt F w b ls ps Ae ce Ap cp) : b < w.heap.size := (Array.getElem?_eq_some_iff.1 h.blk).1
theorem LogAt.c0 (h : LogAt F w b ls ps Ae ce Ap cp) : w.cell? ⟨b, 0, none⟩ = some (.bool true) := by unfold World.cell?; simp [h.blk]
theorem LogAt.c1 (h : LogAt F w b ls ps Ae ce Ap cp) : w.cell? ⟨b, 1, none⟩ = some (.slice Ae ls.length ce) := by unfold World.cell?; simp [h.blk]
theorem LogAt.c2 (h : LogAt F w b ls ps Ae ce Ap cp) : w.cell? ⟨b, 2, none⟩ = some (.slice Ap ps.length cp) := by unfold World.cell?; simp [h.blk]
theorem LogAt.lists (h : LogAt F w b ls ps Ae ce Ap cp) : ListsAt w.heap.size w Ae ls.length ls := by
  refine ⟨rfl, ?_⟩
  obtain ⟨vs, ho, he⟩ := h.ents
  rcases ho.2 with ⟨_, h0⟩ | ⟨g, cap, cur, hv, _, hg, _⟩
  · exact .inl h0
  · injection hv with h1 h2 h3
    subst h1
    refine .inr ⟨g, 0, rfl, (Array.getElem?_eq_some_iff.1 hg).1, fun i hi => ?_⟩
    obtain ⟨v, hv, a, c, rfl, hn, hr⟩ := he.at_ i hi
    have c0 := ho.cells (g := g) rfl i _ hv
    have ad : (⟨g, 0, none⟩ : Addr).add i = ⟨g, i, none⟩ := by
      by_cases h0 : i = 0
      · subst h0; rfl
      · simp [Addr.add, h0]
    rw [ad] at c0
    rw [Nat.zero_add]
    exact ⟨a, _, c, c0, bytes_of_own hr, by omega⟩
/-- the log where blocks beside F have changed, or new ones have come -/
theorem LogAt.stays {w' : World} (h : LogAt F w b ls ps Ae ce Ap cp) (hk : Below w.heap.size w w') : LogAt F w' b ls ps Ae ce Ap cp := by
  obtain ⟨vs, ho, he⟩ := h.ents
  refine ⟨(hk.block b h.lt).trans h.blk, ⟨vs, own_keep ho hk (Nat.zero_le _), he.kept fun k cur hc => (hk.block k (Array.getElem?_eq_some_iff.1 hc).1).trans hc⟩, own_keep h.pks hk (Nat.zero_le _), h.pb, h.fb, h.fe, h.fp⟩
end

theorem isMade_nil (w : World) : Calls Tryd.prog 82 #[.pointer none] w fun e w' => e = .returned (.bool false) ∧ w = w' := by
  go_enter Tryd.func82, Tryd.ntmps82
  go_wp2
  go_ret
  exact ⟨rfl, rfl⟩
theorem isMade_any (b : Nat) (w : World) (c0 : w.cell? ⟨b, 0, none⟩ = some (.bool true)) : Calls Tryd.prog 82 #[.pointer (some ⟨b, 0, none⟩)] w fun e w' => e = .returned (.bool true) ∧ w = w' := by
  go_enter Tryd.func82, Tryd.ntmps82
  go_wp2
  go_ret
  exact ⟨rfl, rfl⟩
theorem Len_any (F : Nat → Prop) (w : World) (b : Nat) (ls : List (List UInt8)) (ps : List Nat) (Ae : Option Addr) (ce : Nat) (Ap : Option Addr) (cp : Nat) (h : LogAt F w b ls ps Ae ce Ap cp) :
    Calls Tryd.prog 49 #[.pointer (some ⟨b, 0, none⟩)] w fun e w' => e = .returned (.int .i64 ls.length) ∧ w = w' := by
  have HM := hide (isMade_any b w h.c0)
  have c1 := h.c1
  clear h
  go_enter Tryd.func49, Tryd.ntmps49
  go_wp2_with fail
  refine HM.out.mono ?_
  rintro e w1 ⟨rfl, rfl⟩
  go_wp2
  go_ret
  exact ⟨rfl, rfl⟩
theorem New_any (w : World) : Calls Tryd.prog 40 #[] w fun e w' => e = .returned (.pointer (some ⟨w.heap.size, 0, none⟩)) ∧ w' = w.alloc (.cells #[.bool true, .slice none 0 0, .slice none 0 0] 65) := by
  go_enter Tryd.func40, Tryd.ntmps40
  go_wp2
  go_ret
  exact ⟨rfl, rfl⟩
theorem New_log (w : World) : LogAt (fun k => k = w.heap.size) (w.alloc (.cells #[.bool true, .slice none 0 0, .slice none 0 0] 65)) w.heap.size [] [] none 0 none 0 :=
  ⟨heap_alloc_new w _, ⟨[], World.ownsRow_nil _ _ _ _, trivial⟩, World.ownsRow_nil _ _ _ _, fun p hp => by simp at hp, rfl, fun k hk => by simp [Value.ownBlock] at hk, fun k hk => by simp [Value.ownBlock] at hk⟩

def includeV (ls : List (List UInt8)) (i n : Int) : List St × Int := if n < 1 ∨ ls.length < n ∨ i < 0 ∨ n ≤ i then ([], 6) else (stepsV (ls.take n.toNat) i.toNat, 0)
def TwoSteps (x : List St × Int) (w : World) (e : Ending) (w' : World) : Prop :=
  ∃ a c, e = .returned (.tuple #[.slice a x.1.length c, .int .i64 x.2]) ∧ w'.ownsRow w.heap.size 41 2 (.slice a x.1.length c) x.1.length (cellsS x.1) ∧ Below w.heap.size w w'
end Go.Proofs.YtbinmkigolkhcaaDoor
/- Include. -/
namespace Go.Proofs.YtbinmkigolkhcaaDoor
open Go.RowKit Go.Sort
attribute [local go_sem] Oper.semAt_some

set_option maxHeartbeats 2000000 in
set_option maxRecDepth 100000 in
theorem Include_any (F : Nat → Prop) (w : World) (b : Nat) (ls : List (List UInt8)) (ps : List Nat) (Ae : Option Addr) (ce : Nat) (Ap : Option Addr) (cp : Nat) (h : LogAt F w b ls ps Ae ce Ap cp) (hl : ls.length ≤ 4096) (i n : Int) :
    Calls Tryd.prog 47 #[.pointer (some ⟨b, 0, none⟩), .int .i64 i, .int .i64 n] w (TwoSteps (includeV ls i n) w) := by
  have mixed := mixedOrders
  have HM := hide (isMade_any b w h.c0)
  have c1 := h.c1
  have HL := hide h.lists
  have hcap : ls.length ≤ ce ∧ (ls.length = 0 ∨ ∃ g, Ae = some ⟨g, 0, none⟩) := by
    obtain ⟨vs, ho, -⟩ := h.ents
    rcases ho.2 with ⟨e, h0⟩ | ⟨g, cap, cur, hv, _, hg, hle, _⟩
    · exact ⟨by omega, .inl h0⟩
    · injection hv with h1 h2 h3
      subst h1; subst h3
      exact ⟨hle, .inr ⟨g, rfl⟩⟩
  clear h
  obtain ⟨m, hm⟩ : ∃ m, ls.length = m := ⟨_, rfl⟩
  by_cases hc : n < 1 ∨ ls.length < n ∨ i < 0 ∨ n ≤ i
  · rw [show includeV ls i n = ([], 6) from if_pos hc]
    rw [hm] at hc c1
    have hmm : (m : Int) ≤ 4096 := by omega
    clear hm hcap hl HL
    rcases Int.lt_or_le n 1 with h1 | h1
    · clear hc
      go_enter Tryd.func47, Tryd.ntmps47
      go_wp2_with fail
      refine HM.out.mono ?_
      rintro e w1 ⟨rfl, rfl⟩
      go_wp2_with fail
      go_ret2
      exact ⟨none, 0, rfl, World.ownsRow_nil _ _ _ _, Below.refl _ _⟩
    · rcases Int.lt_or_le (m : Int) n with h2 | h2
      · clear hc
        go_enter Tryd.func47, Tryd.ntmps47
        go_wp2_with fail
        refine HM.out.mono ?_
        rintro e w1 ⟨rfl, rfl⟩
        go_wp2_with fail
        go_ret2
        exact ⟨none, 0, rfl, World.ownsRow_nil _ _ _ _, Below.refl _ _⟩
      · rcases Int.lt_or_le i 0 with h3 | h3
        · clear hc
          go_enter Tryd.func47, Tryd.ntmps47
          go_wp2_with fail
          refine HM.out.mono ?_
          rintro e w1 ⟨rfl, rfl⟩
          go_wp2_with fail
          go_ret2
          exact ⟨none, 0, rfl, World.ownsRow_nil _ _ _ _, Below.refl _ _⟩
        · have h4 : n ≤ i := by omega
          clear hc
          go_enter Tryd.func47, Tryd.ntmps47
          go_wp2_with fail
          refine HM.out.mono ?_
          rintro e w1 ⟨rfl, rfl⟩
          go_wp2_with fail
          go_ret2
          exact ⟨none, 0, rfl, World.ownsRow_nil _ _ _ _, Below.refl _ _⟩
  · rw [show includeV ls i n = (stepsV (ls.take n.toNat) i.toNat, 0) from if_neg hc]
    rw [hm] at hc c1 hcap hl HL
    obtain ⟨i', rfl⟩ : ∃ k : Nat, i = k := ⟨i.toNat, by omega⟩
    obtain ⟨n', rfl⟩ : ∃ k : Nat, n = k := ⟨n.toNat, by omega⟩
    rw [Int.toNat_natCast, Int.toNat_natCast]
    obtain ⟨g, rfl⟩ : ∃ g, Ae = some ⟨g, 0, none⟩ := by
      rcases hcap.2 with h0 | h0
      · omega
      · exact h0
    have h1 : ¬ (n' : Int) < 1 := by omega
    have h2 : ¬ (m : Int) < (n' : Int) := by omega
    have h3 : ¬ (i' : Int) < 0 := by omega
    have h4 : ¬ (n' : Int) ≤ (i' : Int) := by omega
    have h5 : (n' : Int) ≤ (ce : Int) := by omega
    have HC := hide (stepsOf_any n' n' i' (some ⟨g, 0, none⟩) n' (ls.take n') w (Nat.le_refl _) (by omega) (by omega) (by omega) (HL.out.take (by omega)) (Nat.le_refl _))
    have hmm : (m : Int) ≤ 4096 := by omega
    clear hm hcap hl HL hc
    unfold StepsPost at HC
    obtain ⟨L, hL⟩ : ∃ L, stepsV (ls.take n') i' = L := ⟨_, rfl⟩
    rw [hL] at HC ⊢
    clear hL
    go_enter Tryd.func47, Tryd.ntmps47
    go_wp2_with fail
    refine HM.out.mono ?_
    rintro e w1 ⟨rfl, rfl⟩
    go_wp2_with fail
    refine HC.out.mono ?_
    rintro e w2 ⟨a, c, rfl, ho, hb⟩
    have HO := hide ho
    have HB := hide hb
    clear ho hb HC
    go_wp2_with fail
    go_ret2
    exact ⟨a, c, rfl, HO.out, HB.out⟩
end Go.Proofs.YtbinmkigolkhcaaDoor
