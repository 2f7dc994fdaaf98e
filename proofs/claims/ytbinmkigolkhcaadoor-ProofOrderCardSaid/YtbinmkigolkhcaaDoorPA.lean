/- Package proof and its specification: the words. Bytes in memory; the hash of bytes, of a leaf, of a node; the root of a list. -/
import Derived.Test.YtbinmkigolkhcaaDoorPK
namespace Go.Proofs.YtbinmkigolkhcaaDoor
open Go.RowKit Go.Sort

/-- the slice value (address A, length n) holds the bytes l, in a block below B -/
def BytesAt (B : Nat) (w : World) (A : Option Addr) (n : Nat) (l : List UInt8) : Prop :=
  l.length = n ∧ (n = 0 ∨ ∃ b off, A = some ⟨b, off, none⟩ ∧ b < B ∧ ∀ i, i < n → w.cell? ⟨b, off + i, none⟩ = some (.int .u8 ((l.getD i 0).toNat : Nat)))
theorem BytesAt.mono {B B' : Nat} {w : World} {A : Option Addr} {n : Nat} {l : List UInt8} (h : BytesAt B w A n l) (hB : B ≤ B') : BytesAt B' w A n l := by
  refine ⟨h.1, ?_⟩
  rcases h.2 with h0 | ⟨b, off, e, hb, hc⟩
  · exact .inl h0
  · exact .inr ⟨b, off, e, by omega, hc⟩
theorem BytesAt.below {B : Nat} {w w' : World} {A : Option Addr} {n : Nat} {l : List UInt8} (h : BytesAt B w A n l) (hb : Below B w w') : BytesAt B w' A n l := by
  refine ⟨h.1, ?_⟩
  rcases h.2 with h0 | ⟨b, off, e, hlt, hc⟩
  · exact .inl h0
  · exact .inr ⟨b, off, e, hlt, fun i hi => (hb.cell (p := ⟨b, off + i, none⟩) hlt).trans (hc i hi)⟩
theorem BytesAt.now {B : Nat} {w w' : World} {A : Option Addr} {n : Nat} {l : List UInt8} (h : BytesAt B w A n l) (hb : Below B w w') (hB : B ≤ w.heap.size) : BytesAt w'.heap.size w' A n l :=
  (h.below hb).mono (Nat.le_trans hB hb.size)
theorem BytesAt.at_ {B : Nat} {w : World} {A : Option Addr} {n i : Nat} {l : List UInt8} (h : BytesAt B w A n l) (hi : i < n) :
    ∃ b off, A = some ⟨b, off, none⟩ ∧ b < B ∧ w.cell? ⟨b, off + i, none⟩ = some (.int .u8 ((l.getD i 0).toNat : Nat)) := by
  rcases h.2 with h0 | ⟨b, off, e, hb, hc⟩
  · omega
  · exact ⟨b, off, e, hb, hc i hi⟩

/-- FNV-1a on from a hash -/
def mixS (h : Nat) (b : UInt8) : Nat := (h ^^^ b.toNat) * 1099511628211 % 18446744073709551616
def mixN (h : Nat) (l : List UInt8) : Nat := l.foldl mixS h
theorem mixS_lt (h : Nat) (b : UInt8) : mixS h b < 18446744073709551616 := Nat.mod_lt _ (by decide)
theorem mixN_lt {h : Nat} (hh : h < 18446744073709551616) : ∀ l : List UInt8, mixN h l < 18446744073709551616
  | [] => hh
  | b :: l => by
    show mixN (mixS h b) l < _
    exact mixN_lt (mixS_lt h b) l
theorem mixN_append (h : Nat) (l m : List UInt8) : mixN h (l ++ m) = mixN (mixN h l) m := by
  unfold mixN
  rw [List.foldl_append]
theorem mixN_take {h : Nat} {l : List UInt8} {i : Nat} (hi : i < l.length) : mixN h (l.take (i + 1)) = mixS (mixN h (l.take i)) (l.getD i 0) := by
  rw [List.take_add_one, List.getElem?_eq_getElem hi, mixN_append, Option.toList_some, List.getD_eq_getElem?_getD, List.getElem?_eq_getElem hi, Option.getD_some]
  generalize l[i] = b
  generalize mixN h (l.take i) = a
  unfold mixN
  rw [List.foldl_cons, List.foldl_nil]
def mixV (l : List UInt8) : Nat := mixN 14695981039346656037 l
theorem mixV_lt (l : List UInt8) : mixV l < 18446744073709551616 := mixN_lt (by decide) l
/-- a number in eight bytes, the lowest first -/
def eightF : Nat → Nat → List UInt8
  | 0, _ => []
  | k + 1, n => UInt8.ofNat (n % 256) :: eightF k (n / 256)
def eight (n : Nat) : List UInt8 := eightF 8 n
theorem eightF_length : ∀ (k n : Nat), (eightF k n).length = k
  | 0, _ => rfl
  | k + 1, n => by simp [eightF, eightF_length k]
theorem eightF_snoc : ∀ (k n : Nat), eightF (k + 1) n = eightF k n ++ [UInt8.ofNat (n / 256 ^ k % 256)]
  | 0, n => by simp [eightF]
  | k + 1, n => by
    rw [eightF, eightF_snoc k (n / 256), Nat.div_div_eq_div_mul]
    rw [show 256 * 256 ^ k = 256 ^ (k + 1) by rw [Nat.pow_succ, Nat.mul_comm]]
    rfl
def leafB (l : List UInt8) : List UInt8 := 0 :: l
def nodeB (a b : Nat) : List UInt8 := 1 :: (eight a ++ eight b)
def leafV (l : List UInt8) : Nat := mixV (leafB l)
def nodeV (a b : Nat) : Nat := mixV (nodeB a b)
/-- the greatest power of two below n, for n from 2 on -/
def halfN (n : Nat) : Nat := 2 ^ Nat.log2 (n - 1)
theorem halfN_lt {n : Nat} (h : 2 ≤ n) : halfN n < n ∧ 0 < halfN n := by
  have h1 : 2 ^ Nat.log2 (n - 1) ≤ n - 1 := Nat.log2_self_le (by omega)
  exact ⟨by unfold halfN; omega, Nat.pos_of_ne_zero (by unfold halfN; exact Nat.ne_of_gt (Nat.two_pow_pos _))⟩
def rootF : Nat → List (List UInt8) → Nat
  | 0, _ => 0
  | f + 1, l => if l.length = 0 then 0 else if l.length = 1 then leafV (l.getD 0 []) else nodeV (rootF f (l.take (halfN l.length))) (rootF f (l.drop (halfN l.length)))
/-- the root of a list -/
def rootV (l : List (List UInt8)) : Nat := rootF l.length l
theorem half_uniq {n j : Nat} (h0 : 2 ^ j < n) (h1 : n ≤ 2 ^ (j + 1)) : halfN n = 2 ^ j := by
  unfold halfN
  rw [(Nat.log2_eq_iff (n := n - 1) (k := j) (by have := Nat.two_pow_pos j; omega)).2 ⟨by omega, by omega⟩]
theorem rootF_ok : ∀ (f g : Nat) (l : List (List UInt8)), l.length ≤ f → l.length ≤ g → rootF f l = rootF g l
  | 0, 0, _, _, _ => rfl
  | 0, g + 1, l, h, _ => by
    have h0 : l.length = 0 := by omega
    simp only [rootF]
    rw [if_pos h0]
  | f + 1, 0, l, _, h => by
    have h0 : l.length = 0 := by omega
    simp only [rootF]
    rw [if_pos h0]
  | f + 1, g + 1, l, h, k => by
    simp only [rootF]
    split
    · rfl
    · split
      · rfl
      · have hh := halfN_lt (n := l.length) (by omega)
        rw [rootF_ok f g (l.take (halfN l.length)) (by rw [List.length_take]; omega) (by rw [List.length_take]; omega), rootF_ok f g (l.drop (halfN l.length)) (by rw [List.length_drop]; omega) (by rw [List.length_drop]; omega)]
theorem root_0 : rootV [] = 0 := rfl
theorem root_1 (e : List UInt8) : rootV [e] = leafV e := by
  unfold rootV
  rw [List.length_singleton]
  simp only [rootF]
  rw [if_neg (by simp), if_pos (by simp)]
  simp
theorem root_2 {l : List (List UInt8)} (h : 2 ≤ l.length) : rootV l = nodeV (rootV (l.take (halfN l.length))) (rootV (l.drop (halfN l.length))) := by
  have hh := halfN_lt h
  obtain ⟨f, hf⟩ : ∃ f, l.length = f + 1 := ⟨l.length - 1, by omega⟩
  unfold rootV
  rw [hf]
  simp only [rootF]
  rw [if_neg (by omega), if_neg (by omega), ← hf]
  rw [rootF_ok f _ (l.take (halfN l.length)) (by rw [List.length_take]; omega) (Nat.le_refl _), rootF_ok f _ (l.drop (halfN l.length)) (by rw [List.length_drop]; omega) (Nat.le_refl _)]
theorem leafV_lt (l : List UInt8) : leafV l < 18446744073709551616 := mixV_lt _
theorem nodeV_lt (a b : Nat) : nodeV a b < 18446744073709551616 := mixV_lt _
theorem rootV_lt (l : List (List UInt8)) : rootV l < 18446744073709551616 := by
  rcases Nat.lt_or_ge l.length 2 with h | h
  · rcases l with _ | ⟨e, _ | ⟨e2, l⟩⟩
    · rw [root_0]; exact Nat.two_pow_pos 64
    · rw [root_1]; exact leafV_lt e
    · exfalso; simp only [List.length_cons] at h; omega
  · rw [root_2 h]; exact nodeV_lt _ _
end Go.Proofs.YtbinmkigolkhcaaDoor
