/- The words in which the calls of package proof are described: worlds that have only grown, rows of numbers. -/
import Derived.Test.YtbinmkigolkhcaaDoorProg
import Derived.WalkKit
import Derived.WalkSpells
import Derived.WalkLawsBesides
import Derived.Deep.LoopGhost
import Derived.BigQuiet
import Derived.BigRegion
import Derived.Lib.Hide
import Derived.Shelf.SlSortCmp.QuietGrown
import Derived.Laws.Bits64
import Derived.Maps.AppendAt
import Derived.Laws.MakeOwn
namespace Go.Proofs.YtbinmkigolkhcaaDoor
open Go.RowKit Go.Sort

theorem mixedOrders : Tryd.prog.follows .mixedOrders = true := by kernel_rfl

theorem hide {p : Prop} (h : p) : Hid p := h

/-- THE WORLD HAS ONLY GROWN: draws and new blocks. -/
def Gr (w w' : World) : Prop := ∃ (n : Nat) (os : Array Obj), w' = grow (w.drewN n) os
theorem Gr.refl (w : World) : Gr w w := ⟨0, #[], by rw [grow_empty]; rfl⟩
theorem Gr.trans {a b c : World} (h : Gr a b) (k : Gr b c) : Gr a c := by
  obtain ⟨n, os, rfl⟩ := h
  obtain ⟨m, os', rfl⟩ := k
  exact ⟨n + m, os ++ os', by show grow (grow ((a.drewN n).drewN m) os) os' = _; rw [grow_grow, World.drewN_drewN]⟩
theorem Gr.alloc {a b : World} (h : Gr a b) (o : Obj) : Gr a (b.alloc o) := h.trans ⟨0, #[o], by rw [alloc_eq_grow]; rfl⟩
theorem Gr.drew {a b : World} (h : Gr a b) : Gr a b.drew := h.trans ⟨1, #[], by rw [grow_empty]; rfl⟩
theorem Gr.drewN {a b : World} (h : Gr a b) (n : Nat) : Gr a (b.drewN n) := h.trans ⟨n, #[], by rw [grow_empty]⟩
theorem Gr.grow {a b : World} (h : Gr a b) (n : Nat) (os : Array Obj) : Gr a (Sort.grow (b.drewN n) os) := h.trans ⟨n, os, rfl⟩
theorem Gr.size {a b : World} (h : Gr a b) : a.heap.size ≤ b.heap.size := by
  obtain ⟨n, os, rfl⟩ := h
  rw [size_grow]
  exact Nat.le_add_right _ _
theorem Gr.cell {a b : World} (h : Gr a b) {p : Addr} (hp : p.block < a.heap.size) : b.cell? p = a.cell? p := by
  obtain ⟨n, os, rfl⟩ := h
  rw [cell?_grow _ _ _ (by exact hp)]
  rfl
theorem Gr.frozen {a b : World} (h : Gr a b) {p : Addr} (hp : p.block < a.heap.size) : b.frozen? p = a.frozen? p := by
  obtain ⟨n, os, rfl⟩ := h
  rw [frozen?_grow _ _ _ (by exact hp)]
  rfl
theorem Gr.block {a b : World} (h : Gr a b) {k : Nat} (hk : k < a.heap.size) : b.heap[k]? = a.heap[k]? := by
  obtain ⟨n, os, rfl⟩ := h
  rw [heap_grow_old _ _ (by exact hk)]
  rfl
theorem Gr.below {a b : World} (h : Gr a b) : Below a.heap.size a b := by
  obtain ⟨n, os, rfl⟩ := h
  exact ⟨rfl, rfl, rfl, by rw [size_grow]; exact Nat.le_add_right _ _, fun k hk => heap_grow_old _ _ (by exact hk)⟩
theorem Gr.grownBy {a b : World} (h : Gr a b) (row : Option Nat) : a.grownBy b row := by
  have hb := h.below
  exact ⟨hb.os, hb.tape, hb.output, hb.size, fun k hk _ => hb.block k hk⟩

/-- a span: its lower and its upper end -/
abbrev Sp := Int × Int
def loA (xs : List Sp) (i : Nat) : Int := (xs.getD i (0, 0)).1
def hiA (xs : List Sp) (i : Nat) : Int := (xs.getD i (0, 0)).2
/-- the slice value (address A, length n) holds the spans xs, in a block below B -/
def SpansAt (B : Nat) (w : World) (A : Option Addr) (n : Nat) (xs : List Sp) : Prop :=
  xs.length = n ∧ (n = 0 ∨ ∃ b off, A = some ⟨b, off, none⟩ ∧ b < B ∧ ∀ i, i < n → w.cell? ⟨b, off + i * 2, none⟩ = some (.int .i64 (loA xs i)) ∧ w.cell? ⟨b, off + i * 2 + 1, none⟩ = some (.int .i64 (hiA xs i)))
theorem SpansAt.mono {B B' : Nat} {w : World} {A : Option Addr} {n : Nat} {xs : List Sp} (h : SpansAt B w A n xs) (hB : B ≤ B') : SpansAt B' w A n xs := by
  refine ⟨h.1, ?_⟩
  rcases h.2 with h0 | ⟨b, off, e, hlt, hc⟩
  · exact .inl h0
  · exact .inr ⟨b, off, e, by omega, hc⟩
theorem SpansAt.below {B : Nat} {w w' : World} {A : Option Addr} {n : Nat} {xs : List Sp} (h : SpansAt B w A n xs) (hb : Below B w w') : SpansAt B w' A n xs := by
  refine ⟨h.1, ?_⟩
  rcases h.2 with h0 | ⟨b, off, e, hlt, hc⟩
  · exact .inl h0
  · exact .inr ⟨b, off, e, hlt, fun i hi => ⟨(hb.cell (p := ⟨b, _, none⟩) hlt).trans (hc i hi).1, (hb.cell (p := ⟨b, _, none⟩) hlt).trans (hc i hi).2⟩⟩
theorem SpansAt.gr {w w' : World} {A : Option Addr} {n : Nat} {xs : List Sp} (h : SpansAt w.heap.size w A n xs) (hg : Gr w w') : SpansAt w'.heap.size w' A n xs :=
  (h.below hg.below).mono hg.size
theorem SpansAt.now {B : Nat} {w w' : World} {A : Option Addr} {n : Nat} {xs : List Sp} (h : SpansAt B w A n xs) (hb : Below B w w') (hB : B ≤ w.heap.size) : SpansAt w'.heap.size w' A n xs :=
  (h.below hb).mono (Nat.le_trans hB hb.size)
theorem SpansAt.at_ {B : Nat} {w : World} {A : Option Addr} {n : Nat} {xs : List Sp} (h : SpansAt B w A n xs) {k : Nat} (hk : k < n) :
    ∃ b off, A = some ⟨b, off, none⟩ ∧ b < B ∧ w.cell? ⟨b, off + k * 2, none⟩ = some (.int .i64 (loA xs k)) ∧ w.cell? ⟨b, off + k * 2 + 1, none⟩ = some (.int .i64 (hiA xs k)) := by
  rcases h.2 with h0 | ⟨b, off, e, hlt, hc⟩
  · omega
  · exact ⟨b, off, e, hlt, hc k hk⟩
/-- the same where the address is known -/
theorem SpansAt.at2 {B : Nat} {w : World} {b off : Nat} {n : Nat} {xs : List Sp} (h : SpansAt B w (some ⟨b, off, none⟩) n xs) {k : Nat} (hk : k < n) :
    w.cell? ⟨b, off + k * 2, none⟩ = some (.int .i64 (loA xs k)) ∧ w.cell? ⟨b, off + k * 2 + 1, none⟩ = some (.int .i64 (hiA xs k)) := by
  obtain ⟨b', off', e, _, hc⟩ := h.at_ hk
  injection e with e
  injection e with e1 e2
  subst e1; subst e2
  exact hc

/-- a slice of ints in memory -/
def iA (xs : List Int) (i : Nat) : Int := xs.getD i 0
def IntsAt (B : Nat) (w : World) (A : Option Addr) (n : Nat) (xs : List Int) : Prop :=
  xs.length = n ∧ (n = 0 ∨ ∃ b off, A = some ⟨b, off, none⟩ ∧ b < B ∧ ∀ i, i < n → w.cell? ⟨b, off + i, none⟩ = some (.int .i64 (iA xs i)))
theorem IntsAt.mono {B B' : Nat} {w : World} {A : Option Addr} {n : Nat} {xs : List Int} (h : IntsAt B w A n xs) (hB : B ≤ B') : IntsAt B' w A n xs := by
  refine ⟨h.1, ?_⟩
  rcases h.2 with h0 | ⟨b, off, e, hlt, hc⟩
  · exact .inl h0
  · exact .inr ⟨b, off, e, by omega, hc⟩
theorem IntsAt.below {B : Nat} {w w' : World} {A : Option Addr} {n : Nat} {xs : List Int} (h : IntsAt B w A n xs) (hb : Below B w w') : IntsAt B w' A n xs := by
  refine ⟨h.1, ?_⟩
  rcases h.2 with h0 | ⟨b, off, e, hlt, hc⟩
  · exact .inl h0
  · exact .inr ⟨b, off, e, hlt, fun i hi => (hb.cell (p := ⟨b, _, none⟩) hlt).trans (hc i hi)⟩
theorem IntsAt.now {B : Nat} {w w' : World} {A : Option Addr} {n : Nat} {xs : List Int} (h : IntsAt B w A n xs) (hb : Below B w w') (hB : B ≤ w.heap.size) : IntsAt w'.heap.size w' A n xs :=
  (h.below hb).mono (Nat.le_trans hB hb.size)
theorem IntsAt.at_ {B : Nat} {w : World} {A : Option Addr} {n : Nat} {xs : List Int} (h : IntsAt B w A n xs) {k : Nat} (hk : k < n) :
    ∃ b off, A = some ⟨b, off, none⟩ ∧ b < B ∧ w.cell? ⟨b, off + k, none⟩ = some (.int .i64 (iA xs k)) := by
  rcases h.2 with h0 | ⟨b, off, e, hlt, hc⟩
  · omega
  · exact ⟨b, off, e, hlt, hc k hk⟩

theorem ret_int {k : IntKind} {a b : Int} (h : a = b) : Ending.returned (.int k a) = .returned (.int k b) := by rw [h]
theorem ret_bool {a b : Bool} (h : a = b) : Ending.returned (.bool a) = .returned (.bool b) := by rw [h]

end Go.Proofs.YtbinmkigolkhcaaDoor
/- Package proof and its specification: the words. Bytes in memory; the hash of bytes, of a leaf, of a node; the root of a list. -/
namespace Go.Proofs.YtbinmkigolkhcaaDoor
open Go.RowKit Go.Sort

/-- the slice value (address A, length n) holds the bytes l, in a block below B -/
def BytesAt (B : Nat) (w : World) (A : Option Addr) (n : Nat) (l : List UInt8) : Prop :=
  l.length = n ∧ (n = 0 ∨ ∃ b off, A = some ⟨b, off, none⟩ ∧ b < B ∧ ∀ i, i < n → w.cell? ⟨b, off + i, none⟩ = some (.int .u8 ((l.getD i 0).toNat : Nat)))
theorem BytesAt.mono {B B' : Nat} {w : World} {A : Option Addr} {n : Nat} {l : List UInt8} (h : BytesAt B w A n l) (hB : B ≤ B') : BytesAt B' w A n l := by
  refine ⟨h.1, ?_⟩
  rcases h.2 with h0 | ⟨b, off, e, hb, hc⟩
  · exact .inl h0
  · exact .inr ⟨b, off, e, by omega, hc⟩
theorem BytesAt.below {B : Nat} {w w' : World} {A : Option Addr} {n : Nat} {l : List UInt8} (h : BytesAt B w A n l) (hb : Below B w w') : BytesAt B w' A n l := by
  refine ⟨h.1, ?_⟩
  rcases h.2 with h0 | ⟨b, off, e, hlt, hc⟩
  · exact .inl h0
  · exact .inr ⟨b, off, e, hlt, fun i hi => (hb.cell (p := ⟨b, off + i, none⟩) hlt).trans (hc i hi)⟩
theorem BytesAt.now {B : Nat} {w w' : World} {A : Option Addr} {n : Nat} {l : List UInt8} (h : BytesAt B w A n l) (hb : Below B w w') (hB : B ≤ w.heap.size) : BytesAt w'.heap.size w' A n l :=
  (h.below hb).mono (Nat.le_trans hB hb.size)
theorem BytesAt.at_ {B : Nat} {w : World} {A : Option Addr} {n i : Nat} {l : List UInt8} (h : BytesAt B w A n l) (hi : i < n) :
    ∃ b off, A = some ⟨b, off, none⟩ ∧ b < B ∧ w.cell? ⟨b, off + i, none⟩ = some (.int .u8 ((l.getD i 0).toNat : Nat)) := by
  rcases h.2 with h0 | ⟨b, off, e, hb, hc⟩
  · omega
  · exact ⟨b, off, e, hb, hc i hi⟩

/-- FNV-1a on from a hash -/
def mixS (h : Nat) (b : UInt8) : Nat := (h ^^^ b.toNat) * 1099511628211 % 18446744073709551616
def mixN (h : Nat) (l : List UInt8) : Nat := l.foldl mixS h
theorem mixS_lt (h : Nat) (b : UInt8) : mixS h b < 18446744073709551616 := Nat.mod_lt _ (by decide)
theorem mixN_lt {h : Nat} (hh : h < 18446744073709551616) : ∀ l : List UInt8, mixN h l < 18446744073709551616
  | [] => hh
  | b :: l => by
    show mixN (mixS h b) l < _
    exact mixN_lt (mixS_lt h b) l
theorem mixN_append (h : Nat) (l m : List UInt8) : mixN h (l ++ m) = mixN (mixN h l) m := by
  unfold mixN
  rw [List.foldl_append]
theorem mixN_take {h : Nat} {l : List UInt8} {i : Nat} (hi : i < l.length) : mixN h (l.take (i + 1)) = mixS (mixN h (l.take i)) (l.getD i 0) := by
  rw [List.take_add_one, List.getElem?_eq_getElem hi, mixN_append, Option.toList_some, List.getD_eq_getElem?_getD, List.getElem?_eq_getElem hi, Option.getD_some]
  generalize l[i] = b
  generalize mixN h (l.take i) = a
  unfold mixN
  rw [List.foldl_cons, List.foldl_nil]
def mixV (l : List UInt8) : Nat := mixN 14695981039346656037 l
theorem mixV_lt (l : List UInt8) : mixV l < 18446744073709551616 := mixN_lt (by decide) l
/-- a number in eight bytes, the lowest first -/
def eightF : Nat → Nat → List UInt8
  | 0, _ => []
  | k + 1, n => UInt8.ofNat (n % 256) :: eightF k (n / 256)
def eight (n : Nat) : List UInt8 := eightF 8 n
theorem eightF_length : ∀ (k n : Nat), (eightF k n).length = k
  | 0, _ => rfl
  | k + 1, n => by simp [eightF, eightF_length k]
theorem eightF_snoc : ∀ (k n : Nat), eightF (k + 1) n = eightF k n ++ [UInt8.ofNat (n / 256 ^ k % 256)]
  | 0, n => by simp [eightF]
  | k + 1, n => by
    rw [eightF, eightF_snoc k (n / 256), Nat.div_div_eq_div_mul]
    rw [show 256 * 256 ^ k = 256 ^ (k + 1) by rw [Nat.pow_succ, Nat.mul_comm]]
    rfl
def leafB (l : List UInt8) : List UInt8 := 0 :: l
def nodeB (a b : Nat) : List UInt8 := 1 :: (eight a ++ eight b)
def leafV (l : List UInt8) : Nat := mixV (leafB l)
def nodeV (a b : Nat) : Nat := mixV (nodeB a b)
/-- the greatest power of two below n, for n from 2 on -/
def halfN (n : Nat) : Nat := 2 ^ Nat.log2 (n - 1)
theorem halfN_lt {n : Nat} (h : 2 ≤ n) : halfN n < n ∧ 0 < halfN n := by
  have h1 : 2 ^ Nat.log2 (n - 1) ≤ n - 1 := Nat.log2_self_le (by omega)
  exact ⟨by unfold halfN; omega, Nat.pos_of_ne_zero (by unfold halfN; exact Nat.ne_of_gt (Nat.two_pow_pos _))⟩
def rootF : Nat → List (List UInt8) → Nat
  | 0, _ => 0
  | f + 1, l => if l.length = 0 then 0 else if l.length = 1 then leafV (l.getD 0 []) else nodeV (rootF f (l.take (halfN l.length))) (rootF f (l.drop (halfN l.length)))
/-- the root of a list -/
def rootV (l : List (List UInt8)) : Nat := rootF l.length l
theorem half_uniq {n j : Nat} (h0 : 2 ^ j < n) (h1 : n ≤ 2 ^ (j + 1)) : halfN n = 2 ^ j := by
  unfold halfN
  rw [(Nat.log2_eq_iff (n := n - 1) (k := j) (by have := Nat.two_pow_pos j; omega)).2 ⟨by omega, by omega⟩]
theorem rootF_ok : ∀ (f g : Nat) (l : List (List UInt8)), l.length ≤ f → l.length ≤ g → rootF f l = rootF g l
  | 0, 0, _, _, _ => rfl
  | 0, g + 1, l, h, _ => by
    have h0 : l.length = 0 := by omega
    simp only [rootF]
    rw [if_pos h0]
  | f + 1, 0, l, _, h => by
    have h0 : l.length = 0 := by omega
    simp only [rootF]
    rw [if_pos h0]
  | f + 1, g + 1, l, h, k => by
    simp only [rootF]
    split
    · rfl
    · split
      · rfl
      · have hh := halfN_lt (n := l.length) (by omega)
        rw [rootF_ok f g (l.take (halfN l.length)) (by rw [List.length_take]; omega) (by rw [List.length_take]; omega), rootF_ok f g (l.drop (halfN l.length)) (by rw [List.length_drop]; omega) (by rw [List.length_drop]; omega)]
theorem root_0 : rootV [] = 0 := rfl
theorem root_1 (e : List UInt8) : rootV [e] = leafV e := by
  unfold rootV
  rw [List.length_singleton]
  simp only [rootF]
  rw [if_neg (by simp), if_pos (by simp)]
  simp
theorem root_2 {l : List (List UInt8)} (h : 2 ≤ l.length) : rootV l = nodeV (rootV (l.take (halfN l.length))) (rootV (l.drop (halfN l.length))) := by
  have hh := halfN_lt h
  obtain ⟨f, hf⟩ : ∃ f, l.length = f + 1 := ⟨l.length - 1, by omega⟩
  unfold rootV
  rw [hf]
  simp only [rootF]
  rw [if_neg (by omega), if_neg (by omega), ← hf]
  rw [rootF_ok f _ (l.take (halfN l.length)) (by rw [List.length_take]; omega) (Nat.le_refl _), rootF_ok f _ (l.drop (halfN l.length)) (by rw [List.length_drop]; omega) (Nat.le_refl _)]
theorem leafV_lt (l : List UInt8) : leafV l < 18446744073709551616 := mixV_lt _
theorem nodeV_lt (a b : Nat) : nodeV a b < 18446744073709551616 := mixV_lt _
theorem rootV_lt (l : List (List UInt8)) : rootV l < 18446744073709551616 := by
  rcases Nat.lt_or_ge l.length 2 with h | h
  · rcases l with _ | ⟨e, _ | ⟨e2, l⟩⟩
    · rw [root_0]; exact Nat.two_pow_pos 64
    · rw [root_1]; exact leafV_lt e
    · exfalso; simp only [List.length_cons] at h; omega
  · rw [root_2 h]; exact nodeV_lt _ _
end Go.Proofs.YtbinmkigolkhcaaDoor
/- The hashes: mixOn, Mix, Leaf; the bytes of a node, Node. -/
namespace Go.Proofs.YtbinmkigolkhcaaDoor
open Go.RowKit Go.Sort
attribute [local go_sem] Oper.semAt_some

theorem mix_step {M x : Nat} (hM : M < 18446744073709551616) (hx : x < 256) :
    IntKind.u64.wrap (bits .xor .u64 (M : Int) (IntKind.u64.wrap (x : Int)) * 1099511628211) = (((M ^^^ x) * 1099511628211 % 18446744073709551616 : Nat) : Int) := by
  have e : IntKind.u64.wrap (x : Int) = (x : Int) := by rw [IntKind.wrap_u64]; omega
  rw [e, bits_xor_u64_nat M x hM (by omega), IntKind.wrap_u64]
  omega

set_option maxHeartbeats 2000000 in
set_option maxRecDepth 100000 in
theorem mixOn_any (h : Nat) (hh : h < 18446744073709551616) (A : Option Addr) (n cap : Nat) (l : List UInt8) (w : World) (hx : BytesAt w.heap.size w A n l) (hn : n ≤ 1000000) :
    Calls Tryd.prog 58 #[.int .u64 h, .slice A n cap] w fun e w' => e = .returned (.int .u64 (mixN h l : Nat)) ∧ w = w' := by
  have mixed := mixedOrders
  have HX := hide hx
  have HH := hide hh
  have hlen := hx.1
  clear hx hh
  go_enter Tryd.func58, Tryd.ntmps58
  go_wp2_with fail
  go_loopw [0, 9] (fun vh vi wr => ∃ i : Nat, i ≤ n ∧ vi = .int .i64 i ∧ vh = .int .u64 (mixN h (l.take i) : Nat) ∧ w = wr) (fun _ vi _ => n - (intOf vi).toNat)
  case atStart => exact ⟨0, Nat.zero_le _, rfl, rfl, rfl⟩
  case round =>
    obtain ⟨i, hi, rfl, rfl, rfl⟩ := hrel
    by_cases hlt : i < n
    · have hlt' : (i : Int) < (n : Int) := by omega
      obtain ⟨b, off, rfl, hb, c0⟩ := HX.out.at_ hlt
      have ht := mixN_take (h := h) (l := l) (i := i) (by omega)
      have hx256 : (l.getD i 0).toNat < 256 := UInt8.toNat_lt _
      unfold mixS at ht
      obtain ⟨x, hxx⟩ : ∃ x, (l.getD i 0).toNat = x := ⟨_, rfl⟩
      rw [hxx] at ht c0 hx256
      have HT := hide ht
      have HX2 := hide hx256
      clear ht hxx hx256
      go_wp2_with fail
      refine ⟨⟨i + 1, by omega, by go_num, ?_, trivial⟩, by simp [intOf]; omega⟩
      rw [mix_step (mixN_lt HH.out _) HX2.out, HT.out]
    · obtain rfl : i = n := by omega
      go_wp2_with fail
      go_ret
      exact ⟨by rw [List.take_of_length_le (Nat.le_of_eq hlen)]; rfl, rfl⟩
theorem Mix_any (A : Option Addr) (n cap : Nat) (l : List UInt8) (w : World) (hx : BytesAt w.heap.size w A n l) (hn : n ≤ 1000000) :
    Calls Tryd.prog 20 #[.slice A n cap] w fun e w' => e = .returned (.int .u64 (mixV l : Nat)) ∧ w = w' := by
  have HM := hide (mixOn_any 14695981039346656037 (by decide) A n cap l w hx hn)
  clear hx
  go_enter Tryd.func20, Tryd.ntmps20
  go_wp2_with fail
  refine HM.out.mono ?_
  rintro e w1 ⟨rfl, rfl⟩
  go_wp2
  go_ret
  exact ⟨rfl, rfl⟩
theorem leaf_eq (l : List UInt8) : leafV l = mixN (mixV [0]) l := by
  unfold leafV mixV leafB
  rw [show (0 :: l) = [0] ++ l from rfl, mixN_append]
theorem bytes_one (w : World) (b : UInt8) : BytesAt (w.alloc (.cells #[.int .u8 (b.toNat : Nat)] 5)).heap.size (w.alloc (.cells #[.int .u8 (b.toNat : Nat)] 5)) (some ⟨w.heap.size, 0, none⟩) 1 [b] := by
  refine ⟨rfl, .inr ⟨w.heap.size, 0, rfl, by simp, fun i hi => ?_⟩⟩
  obtain rfl : i = 0 := by omega
  simp
theorem Leaf_any (A : Option Addr) (n cap : Nat) (l : List UInt8) (w : World) (hx : BytesAt w.heap.size w A n l) (hn : n ≤ 1000000) :
    Calls Tryd.prog 22 #[.slice A n cap] w fun e w' => e = .returned (.int .u64 (leafV l : Nat)) ∧ Below w.heap.size w w' := by
  have hb := ((Gr.refl w).alloc (.cells #[.int .u8 0] 5)).below
  have HX := hide (hx.now hb (Nat.le_refl _))
  have H1 := hide (Mix_any (some ⟨w.heap.size, 0, none⟩) 1 1 [0] (w.alloc (.cells #[.int .u8 0] 5)) (bytes_one w 0) (by omega))
  have H2 := hide (mixOn_any (mixV [0]) (mixV_lt _) A n cap l (w.alloc (.cells #[.int .u8 0] 5)) HX.out hn)
  rw [← leaf_eq] at H2
  have HB := hide hb
  clear hx hb
  go_enter Tryd.func22, Tryd.ntmps22
  go_wp2_with fail
  refine H1.out.mono ?_
  rintro e w1 ⟨rfl, rfl⟩
  generalize mixV [0] = m0 at H2 ⊢
  go_wp2_with fail
  refine H2.out.mono ?_
  rintro e w1 ⟨rfl, rfl⟩
  go_wp2
  go_ret
  exact ⟨rfl, HB.out⟩
end Go.Proofs.YtbinmkigolkhcaaDoor
/- The bytes of a number, of a node; Node. -/
namespace Go.Proofs.YtbinmkigolkhcaaDoor
open Go.RowKit Go.Sort
attribute [local go_sem] Oper.semAt_some

def cellsB (l : List UInt8) : List Value := l.map fun b => .int .u8 (b.toNat : Nat)
theorem info5 : (Tryd.prog.info? 5).map (fun i => (i.zero, i.size, i.bytes)) = some (some (.int .u8 0), 1, 1) := by kernel_rfl

theorem cell_one_at {W : World} {n : Nat} (x : Value) (t : TypeId) (h : W.heap.size = n) : ∀ j u, [x][j]? = some u → (W.alloc (.cells #[x] t)).cell? ((⟨n, 0, none⟩ : Addr).add j) = some u := by
  subst h
  exact cell_one_new _ _ _
theorem own_slice {w : World} {base : Nat} {e : TypeId} {size n : Nat} {v : Value} {xs : List Value} (h : w.ownsRow base e size v n xs) : ∃ a c, v = .slice a n c := by
  rcases h.2 with ⟨rfl, rfl⟩ | ⟨g, cap, cur, rfl, _⟩
  · exact ⟨_, _, rfl⟩
  · exact ⟨_, _, rfl⟩

theorem own_lt {w : World} {base : Nat} {e : TypeId} {size n : Nat} {v : Value} {xs : List Value} (h : w.ownsRow base e size v n xs) : ∀ g, v.ownBlock = some g → base ≤ g ∧ g < w.heap.size := h.lt

set_option maxHeartbeats 2000000 in
set_option maxRecDepth 100000 in
theorem appendNumber_any (n₀ : Nat) (a : Option Addr) (c k : Nat) (xs : List Value) (x : Nat) (hx : x < 18446744073709551616) (w : World) (hk : k ≤ 1000000) (hn₀ : n₀ ≤ w.heap.size) (ho : w.ownsRow n₀ 5 1 (.slice a k c) k xs) :
    Calls Tryd.prog 90 #[.slice a k c, .int .u64 x] w fun e w' => ∃ a' c', e = .returned (.slice a' (k + 8) c') ∧ w'.ownsRow n₀ 5 1 (.slice a' (k + 8) c') (k + 8) (xs ++ cellsB (eight x)) ∧ Below n₀ w w' := by
  have mixed := mixedOrders
  obtain ⟨i0, hi0, hz0, hz1, hz2⟩ := info_parts info5
  have HX := hide hx
  have HO0 : Hid (w.ownsRow n₀ 5 1 (.slice a k c) k (xs ++ cellsB (eightF 0 x))) := by show w.ownsRow _ _ _ _ _ (xs ++ []); rw [List.append_nil]; exact ho
  clear hx ho
  go_enter Tryd.func90, Tryd.ntmps90
  go_wp2_with fail
  go_loopw [0, 1, 5] (fun vb vx vi wr => ∃ (i : Nat) (a' : Option Addr) (c' : Nat), i ≤ 8 ∧ vb = .slice a' (k + i) c' ∧ vx = .int .u64 (x / 256 ^ i : Nat) ∧ vi = .int .i64 i ∧ Hid (wr.ownsRow n₀ 5 1 (.slice a' (k + i) c') (k + i) (xs ++ cellsB (eightF i x)) ∧ Below n₀ w wr)) (fun _ _ vi _ => 8 - (intOf vi).toNat)
  case atStart => exact ⟨0, a, c, by omega, rfl, by simp, rfl, ⟨HO0.out, Below.refl _ _⟩⟩
  case round =>
    obtain ⟨i, a', c', hi, rfl, rfl, rfl, HI⟩ := hrel
    by_cases hlt : i < 8
    · have hlt' : (i : Int) < 8 := by omega
      obtain ⟨q, hq⟩ : ∃ q, x / 256 ^ i = q := ⟨_, rfl⟩
      have hq2 : x / 256 ^ (i + 1) = q / 256 := by rw [Nat.pow_succ, ← Nat.div_div_eq_div_mul, hq]
      have hs : cellsB (eightF (i + 1) x) = cellsB (eightF i x) ++ [.int .u8 ((q : Int) % 256)] := by
        rw [eightF_snoc, hq]
        unfold cellsB
        rw [List.map_append, List.map_singleton]
        congr 3
        have : (UInt8.ofNat (q % 256)).toNat = q % 256 := by simp
        rw [this]
        omega
      have HQ := hide hq2
      have HS := hide hs
      rw [hq]
      clear hq hq2 hs
      have hb4 : n₀ ≤ (wr.alloc (.cells #[.int .u8 ((q : Int) % 256)] 5)).heap.size := by have := HI.out.2.size; simp; omega
      have hbb1 : k + i + 1 ≤ maxLen := by unfold maxLen; omega
      have hbb2 : (k + i + 1) * 1 ≤ 140737488355328 := by omega
      have HLT := hide hlt
      clear hlt hk hi
      go_wp2_with (at_builtin; refine wpList_append_own_at _ rfl (.tmp 7) (.tmp 10) _ rfl n₀ 5 i0 (.int .u8 0) 1 1 Tryd.underlying23 hi0 hz0 hz1 hz2 rfl (by decide) _ _ _ rfl (HI.out.1.alloc _) ⟨wr.heap.size, 0, none⟩ 1 1 [.int .u8 ((q : Int) % 256)] rfl rfl (cell_one_at _ _ rfl) (by simp [Value.oneCell']) hbb1 hbb2 hb4 ?_; intro v1 w5 hown1 hgrow1 hnil1 hat1)
      obtain ⟨a2, c2, rfl⟩ := own_slice hown1
      have hB5 : Below n₀ w w5 := by
        have h1 := HI.out.2.alloc (Nat.le_trans hn₀ HI.out.2.size) (.cells #[.int .u8 ((q : Int) % 256)] 5)
        refine h1.trans ⟨hgrow1.os, hgrow1.tape, hgrow1.output, hgrow1.size, fun k hk => hgrow1.block k (Nat.lt_of_lt_of_le hk (Nat.le_trans hn₀ h1.size)) fun e => ?_⟩
        have := (own_lt HI.out.1 k e.symm).1
        omega
      have h8 := HLT.out
      refine ⟨⟨i + 1, a2, c2, by omega, rfl, by rw [HQ.out]; simp, by go_num, ⟨?_, hB5⟩⟩, by simp [intOf]; omega⟩
      rw [HS.out, ← List.append_assoc]
      exact hown1
    · obtain rfl : i = 8 := by omega
      go_wp2_with fail
      go_ret
      exact ⟨a', c', rfl, HI.out.1, HI.out.2⟩
end Go.Proofs.YtbinmkigolkhcaaDoor
/- nodeBytes, Node. -/
namespace Go.Proofs.YtbinmkigolkhcaaDoor
open Go.RowKit Go.Sort
attribute [local go_sem] Oper.semAt_some

theorem Below.of_grown {B : Nat} {w w' : World} (hg : w.grownBy w' none) (hB : B ≤ w.heap.size) : Below B w w' := ⟨hg.os, hg.tape, hg.output, hg.size, fun k hk => hg.block k (Nat.lt_of_lt_of_le hk hB) (by intro e; cases e)⟩
theorem bytes_of_own {W : World} {base k c : Nat} {a : Option Addr} {l : List UInt8} (h : W.ownsRow base 5 1 (.slice a k c) k (cellsB l)) : BytesAt W.heap.size W a k l := by
  have hl : l.length = k := by have := h.1; unfold cellsB at this; simpa using this
  refine ⟨hl, ?_⟩
  rcases h.2 with ⟨_, h0⟩ | ⟨g, cap, cur, hv, hb, hg, hr⟩
  · exact .inl h0
  · injection hv with h1 h2 h3
    subst h1
    refine .inr ⟨g, 0, rfl, (Array.getElem?_eq_some_iff.1 hg).1, fun i hi => ?_⟩
    rw [Nat.zero_add]
    have e : (⟨g, 0, none⟩ : Addr).add i = ⟨g, i, none⟩ := by
      by_cases h0 : i = 0
      · subst h0; rfl
      · simp [Addr.add, h0]
    have c0 := h.cells (g := g) rfl i (.int .u8 ((l.getD i 0).toNat : Nat)) (by
      unfold cellsB
      rw [List.getElem?_map, List.getElem?_eq_getElem (by omega), List.getD_eq_getElem?_getD, List.getElem?_eq_getElem (by omega)]
      rfl)
    rw [e] at c0
    exact c0

set_option maxHeartbeats 2000000 in
set_option maxRecDepth 100000 in
theorem nodeBytes_any (x y : Nat) (hx : x < 18446744073709551616) (hy : y < 18446744073709551616) (w : World) :
    Calls Tryd.prog 60 #[.int .u64 x, .int .u64 y] w fun e w' => ∃ a c, e = .returned (.slice a 17 c) ∧ w'.ownsRow w.heap.size 5 1 (.slice a 17 c) 17 (cellsB (nodeB x y)) ∧ Below w.heap.size w w' := by
  have mixed := mixedOrders
  obtain ⟨i0, hi0, hz0, hz1, hz2⟩ := info_parts info5
  obtain ⟨w1, hmk, hown, hg⟩ := run_make_own (P := Tryd.prog) (w := w) w.heap.size 23 5 i0 (.int .u8 0) 1 Tryd.underlying23 hi0 hz0 hz1 .i64 .i64 17 (by rw [hz2]; decide) (by decide) (Nat.le_refl _)
  have hmk2 : (Instr.makeSlice 23 (.int .i64 0) (.int .i64 17)).run Tryd.prog w = .ok (.slice (some ⟨w.heap.size, 0, none⟩) 0 17) w1 := hmk
  clear hmk
  have HO1 := hide hown
  have HB1 := hide (Below.of_grown hg (Nat.le_refl _))
  have hb4 : w.heap.size ≤ (w1.alloc (.cells #[.int .u8 1] 5)).heap.size := by have := HB1.out.size; simp; omega
  have HX := hide hx
  have HY := hide hy
  clear hown hg hx hy
  go_enter Tryd.func60, Tryd.ntmps60
  go_wp2_with (at_builtin; refine wpList_append_own_at _ rfl (.tmp 7) (.tmp 8) _ rfl w.heap.size 5 i0 (.int .u8 0) 1 1 Tryd.underlying23 hi0 hz0 hz1 hz2 rfl (by decide) _ _ _ rfl (HO1.out.alloc _) ⟨w1.heap.size, 0, none⟩ 1 1 [.int .u8 1] rfl rfl (cell_one_at _ _ rfl) (by simp [Value.oneCell']) (by decide) (by decide) hb4 ?_; intro v1 w5 hown1 hgrow1 hnil1 hat1; refine Hid.out ?_)
  refine Lib.hid ?_
  obtain ⟨a2, c2, rfl⟩ := own_slice hown1
  have HB5 : Hid (Below w.heap.size w w5) := by
    have h1 := HB1.out.alloc HB1.out.size (.cells #[.int .u8 1] 5)
    refine h1.trans ⟨hgrow1.os, hgrow1.tape, hgrow1.output, hgrow1.size, fun k hk => hgrow1.block k (Nat.lt_of_lt_of_le hk h1.size) fun e => ?_⟩
    have := (own_lt HO1.out k e.symm).1
    omega
  have HO5 : Hid (w5.ownsRow w.heap.size 5 1 (.slice a2 1 c2) 1 (cellsB [1])) := hown1
  clear hown1 hgrow1 hnil1 hat1 hmk2 HO1 HB1 hb4
  go_wp2_with fail
  refine (appendNumber_any w.heap.size a2 c2 1 _ x HX.out w5 (by omega) HB5.out.size HO5.out).mono ?_
  rintro e w6 ⟨a3, c3, rfl, ho6, hb6⟩
  have HO6 := hide ho6
  have HB6 := hide (HB5.out.trans hb6)
  clear ho6 hb6 HO5 HB5
  go_wp2_with fail
  refine (appendNumber_any w.heap.size a3 c3 9 _ y HY.out w6 (by omega) HB6.out.size HO6.out).mono ?_
  rintro e w7 ⟨a4, c4, rfl, ho7, hb7⟩
  have HO7 : Hid (w7.ownsRow w.heap.size 5 1 (.slice a4 17 c4) 17 (cellsB (nodeB x y))) := by
    have e : cellsB (nodeB x y) = cellsB [1] ++ cellsB (eight x) ++ cellsB (eight y) := by
      unfold nodeB cellsB
      rw [List.map_cons, List.map_append]
      rfl
    show w7.ownsRow _ _ _ _ _ _
    rw [e]
    exact ho7
  have HB7 := hide (HB6.out.trans hb7)
  clear ho7 hb7 HO6 HB6
  go_wp2
  go_ret
  exact ⟨a4, c4, rfl, HO7.out, HB7.out⟩

theorem Node_any (x y : Nat) (hx : x < 18446744073709551616) (hy : y < 18446744073709551616) (w : World) :
    Calls Tryd.prog 24 #[.int .u64 x, .int .u64 y] w fun e w' => e = .returned (.int .u64 (nodeV x y : Nat)) ∧ Below w.heap.size w w' := by
  have HN := hide (nodeBytes_any x y hx hy w)
  clear hx hy
  go_enter Tryd.func24, Tryd.ntmps24
  go_wp2_with fail
  refine HN.out.mono ?_
  rintro e w1 ⟨a, c, rfl, ho, hb⟩
  have HM := hide (Mix_any a 17 c (nodeB x y) w1 (bytes_of_own ho) (by omega))
  have HB := hide hb
  clear ho hb HN
  go_wp2_with fail
  refine HM.out.mono ?_
  rintro e w2 ⟨rfl, rfl⟩
  go_wp2
  go_ret
  exact ⟨rfl, HB.out⟩
end Go.Proofs.YtbinmkigolkhcaaDoor
