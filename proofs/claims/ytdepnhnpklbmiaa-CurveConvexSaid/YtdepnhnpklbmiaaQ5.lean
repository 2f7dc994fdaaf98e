/- The mathematics of sums, flips, tilts, moves and parts: their values. -/
import Derived.Test.YtdepnhnpklbmiaaB30
import Derived.Test.YtdepnhnpklbmiaaQ2
import Derived.Test.YtdepnhnpklbmiaaC0
namespace Go.Proofs.Ytdepnhnpklbmiaa
open Go.RowKit Go.Sort

theorem atV_dom {c : Cu} (h : okC c = true) (z : Int) : (atV c z).2 = 0 ↔ c.fr ≤ z ∧ z ≤ c.fr + c.sl.length := by
  unfold atV
  rw [if_pos h]
  split
  · rename_i h1
    exact ⟨fun _ => h1, fun _ => rfl⟩
  · rename_i h1
    exact ⟨fun h2 => absurd h2 (by decide), fun h2 => absurd h2 h1⟩
theorem atV_val {c : Cu} (h : okC c = true) {z : Int} (h1 : c.fr ≤ z) (h2 : z ≤ c.fr + c.sl.length) : (atV c z).1 = valK c (z - c.fr).toNat := by
  unfold atV
  rw [if_pos h, if_pos ⟨h1, h2⟩]

theorem addC_val (a b : Cu) : ∀ k, k ≤ (addC a b).sl.length → valK (addC a b) k = valK a ((max a.fr b.fr - a.fr).toNat + k) + valK b ((max a.fr b.fr - b.fr).toNat + k)
  | 0, _ => rfl
  | k + 1, hk => by
    have ih := addC_val a b k (by omega)
    have hi : iA (addC a b).sl k = iA a.sl ((max a.fr b.fr - a.fr).toNat + k) + iA b.sl ((max a.fr b.fr - b.fr).toNat + k) := by
      rw [iA_get (by omega)]
      simp [addC]
    show valK (addC a b) k + iA (addC a b).sl k = valK a ((max a.fr b.fr - a.fr).toNat + k) + iA a.sl ((max a.fr b.fr - a.fr).toNat + k) + (valK b ((max a.fr b.fr - b.fr).toNat + k) + iA b.sl ((max a.fr b.fr - b.fr).toNat + k))
    rw [ih, hi]
    omega
theorem addC_len (a b : Cu) : (addC a b).sl.length = (min (a.fr + a.sl.length) (b.fr + b.sl.length) - max a.fr b.fr).toNat := by simp [addC]

theorem res2_zero' {c d : Cu} (h : res2 c = (d, 0)) : d = c ∧ okC c = true := res2_ok h

theorem add_at {a b c : Cu} (h : addV a b = (c, 0)) (z : Int) : okC c = true ∧ ((atV c z).2 = 0 ↔ (atV a z).2 = 0 ∧ (atV b z).2 = 0) ∧ ((atV c z).2 = 0 → (atV c z).1 = (atV a z).1 + (atV b z).1) := by
  unfold addV at h
  split at h
  · rename_i hab
    split at h
    · rename_i hd
      obtain ⟨rfl, hok⟩ := res2_ok h
      have hl := addC_len a b
      have hf : (addC a b).fr = max a.fr b.fr := rfl
      refine ⟨hok, ?_, fun hz => ?_⟩
      · rw [atV_dom hok, atV_dom hab.1, atV_dom hab.2, hf, hl]
        omega
      · have hz' := (atV_dom hok z).1 hz
        rw [hf, hl] at hz'
        rw [atV_val hok (by rw [hf]; exact hz'.1) (by rw [hf, hl]; exact hz'.2), addC_val a b _ (by rw [hl, hf]; omega), atV_val hab.1 (by omega) (by omega), atV_val hab.2 (by omega) (by omega), hf]
        congr 2 <;> omega
    · injection h with _ h
      exact absurd h (by decide)
  · injection h with _ h
    exact absurd h (by decide)
theorem addV_bad {a b : Cu} (h : ¬ (okC a = true ∧ okC b = true)) : addV a b = (Cu.zero, 2) := if_neg h

theorem flipC_val (c : Cu) : ∀ k, k ≤ c.sl.length → valK (flipC c) k = valK c (c.sl.length - k)
  | 0, _ => rfl
  | k + 1, hk => by
    have ih := flipC_val c k (by omega)
    have h1 := flipL_at (xs := c.sl) (k := c.sl.length - 1 - k) (by omega)
    rw [show c.sl.length - 1 - (c.sl.length - 1 - k) = k by omega] at h1
    have h2 : valK c (c.sl.length - k) = valK c (c.sl.length - (k + 1)) + iA c.sl (c.sl.length - (k + 1)) := by
      rw [show c.sl.length - k = c.sl.length - (k + 1) + 1 by omega]
      rfl
    show valK (flipC c) k + iA (flipL c.sl) k = _
    rw [ih, h1, h2, show c.sl.length - 1 - k = c.sl.length - (k + 1) by omega]
    omega
theorem flip_at {a c : Cu} (ha : okC a = true) (h : flipV a = (c, 0)) (z : Int) : okC c = true ∧ ((atV c (-z)).2 = 0 ↔ (atV a z).2 = 0) ∧ ((atV c (-z)).2 = 0 → (atV c (-z)).1 = (atV a z).1) := by
  unfold flipV at h
  rw [if_pos ha] at h
  obtain ⟨rfl, hok⟩ := res2_ok h
  have hl : (flipC a).sl.length = a.sl.length := flipL_len _
  have hf : (flipC a).fr = -(a.fr + a.sl.length) := rfl
  refine ⟨hok, ?_, fun hz => ?_⟩
  · rw [atV_dom hok, atV_dom ha, hf, hl]
    omega
  · have hz' := (atV_dom hok _).1 hz
    rw [hf, hl] at hz'
    rw [atV_val hok (by rw [hf]; exact hz'.1) (by rw [hf, hl]; exact hz'.2), flipC_val a _ (by rw [hf]; omega), atV_val ha (by omega) (by omega), hf]
    congr 1
    omega

def tiltC (c : Cu) (d : Int) : Cu := ⟨c.fr, c.fst + d * c.fr, c.sl.map (fun s => s + d)⟩
theorem tiltC_val (c : Cu) (d : Int) : ∀ k : Nat, k ≤ c.sl.length → valK (tiltC c d) k = valK c k + d * (c.fr + k)
  | 0, _ => by
    show c.fst + d * c.fr = c.fst + d * (c.fr + ((0 : Nat) : Int))
    rw [show c.fr + ((0 : Nat) : Int) = c.fr by omega]
  | k + 1, hk => by
    have ih := tiltC_val c d k (by omega)
    have h1 : iA (tiltC c d).sl k = iA c.sl k + d := iA_map _ (by omega)
    have h2 : d * (c.fr + ((k + 1 : Nat) : Int)) = d * (c.fr + k) + d := by
      rw [show c.fr + ((k + 1 : Nat) : Int) = (c.fr + k) + 1 by omega, Int.mul_add, Int.mul_one]
    show valK (tiltC c d) k + iA (tiltC c d).sl k = valK c k + iA c.sl k + _
    rw [ih, h1, h2]
    omega
theorem tilt_at {a c : Cu} {d : Int} (ha : okC a = true) (h : tiltV a d = (c, 0)) (z : Int) : okC c = true ∧ (-1048576 ≤ d ∧ d ≤ 1048576) ∧ ((atV c z).2 = 0 ↔ (atV a z).2 = 0) ∧ ((atV c z).2 = 0 → (atV c z).1 = (atV a z).1 + d * z) := by
  unfold tiltV at h
  split at h
  · rename_i hd
    obtain ⟨rfl, hok⟩ := res2_ok h
    have hok : okC (tiltC a d) = true := hok
    have hl : (tiltC a d).sl.length = a.sl.length := by simp [tiltC]
    have hf : (tiltC a d).fr = a.fr := rfl
    show okC (tiltC a d) = true ∧ _ ∧ ((atV (tiltC a d) z).2 = 0 ↔ _) ∧ ((atV (tiltC a d) z).2 = 0 → (atV (tiltC a d) z).1 = _)
    refine ⟨hok, inB_true hd.2, ?_, fun hz => ?_⟩
    · rw [atV_dom hok, atV_dom ha, hf, hl]
    · have hz' := (atV_dom hok _).1 hz
      rw [hf, hl] at hz'
      rw [atV_val hok (by rw [hf]; exact hz'.1) (by rw [hf, hl]; exact hz'.2), tiltC_val a d _ (by rw [hf]; omega), atV_val ha (by omega) (by omega), hf, show a.fr + ((z - a.fr).toNat : Int) = z by omega]
  · injection h with _ h
    exact absurd h (by decide)

def moveC (c : Cu) (d u : Int) : Cu := ⟨c.fr + d, c.fst + u, c.sl⟩
theorem moveC_val (c : Cu) (d u : Int) : ∀ k : Nat, valK (moveC c d u) k = valK c k + u
  | 0 => rfl
  | k + 1 => by
    have ih := moveC_val c d u k
    show valK (moveC c d u) k + iA c.sl k = valK c k + iA c.sl k + u
    rw [ih]
    omega
theorem move_at {a c : Cu} {d u : Int} (ha : okC a = true) (h : moveV a d u = (c, 0)) (z : Int) : okC c = true ∧ (-1048576 ≤ d ∧ d ≤ 1048576) ∧ (-1099511627776 ≤ u ∧ u ≤ 1099511627776) ∧ ((atV c (z + d)).2 = 0 ↔ (atV a z).2 = 0) ∧ ((atV c (z + d)).2 = 0 → (atV c (z + d)).1 = (atV a z).1 + u) := by
  unfold moveV at h
  split at h
  · rename_i hd
    obtain ⟨rfl, hok⟩ := res2_ok h
    have hok : okC (moveC a d u) = true := hok
    have hl : (moveC a d u).sl.length = a.sl.length := rfl
    have hf : (moveC a d u).fr = a.fr + d := rfl
    show okC (moveC a d u) = true ∧ _ ∧ _ ∧ ((atV (moveC a d u) (z + d)).2 = 0 ↔ _) ∧ ((atV (moveC a d u) (z + d)).2 = 0 → (atV (moveC a d u) (z + d)).1 = _)
    refine ⟨hok, inB_true hd.2.1, inB_true hd.2.2, ?_, fun hz => ?_⟩
    · rw [atV_dom hok, atV_dom ha, hf, hl]
      omega
    · have hz' := (atV_dom hok _).1 hz
      rw [hf, hl] at hz'
      rw [atV_val hok (by rw [hf]; exact hz'.1) (by rw [hf, hl]; exact hz'.2), moveC_val, atV_val ha (by omega) (by omega), hf]
      congr 2
      omega
  · injection h with _ h
    exact absurd h (by decide)

theorem part_val (c : Cu) (lo : Int) (i m : Nat) : ∀ k, k ≤ m → i + m ≤ c.sl.length → valK ⟨lo, valK c i, (c.sl.drop i).take m⟩ k = valK c (i + k)
  | 0, _, _ => rfl
  | k + 1, hk, hm => by
    have ih := part_val c lo i m k (by omega) hm
    have h1 : iA ((c.sl.drop i).take m) k = iA c.sl (i + k) := by
      rw [iA_get (by simp; omega), iA_get (by omega)]
      simp
    show valK ⟨lo, valK c i, (c.sl.drop i).take m⟩ k + iA ((c.sl.drop i).take m) k = valK c (i + k) + iA c.sl (i + k)
    rw [ih, h1]
theorem part_at {a c : Cu} {d u : Int} (ha : okC a = true) (h : partV a d u = (c, 0)) (z : Int) : okC c = true ∧ ((atV c z).2 = 0 ↔ (atV a z).2 = 0 ∧ d ≤ z ∧ z ≤ u) ∧ ((atV c z).2 = 0 → (atV c z).1 = (atV a z).1) := by
  unfold partV at h
  rw [if_pos ha] at h
  split at h
  · injection h with _ h
    exact absurd h (by decide)
  · rename_i hlh
    obtain ⟨rfl, hok⟩ := res2_ok h
    unfold partLo partHi at hlh
    have hl : (partC a d u).sl.length = (min u (a.fr + a.sl.length) - max d a.fr).toNat := by
      simp [partC, partLo, partHi]
      omega
    have hf : (partC a d u).fr = max d a.fr := rfl
    refine ⟨hok, ?_, fun hz => ?_⟩
    · rw [atV_dom hok, atV_dom ha, hf, hl]
      omega
    · have hz' := (atV_dom hok _).1 hz
      rw [hf, hl] at hz'
      have hv := part_val a (max d a.fr) (max d a.fr - a.fr).toNat (min u (a.fr + a.sl.length) - max d a.fr).toNat (z - max d a.fr).toNat (by omega) (by omega)
      rw [atV_val hok (by rw [hf]; exact hz'.1) (by rw [hf, hl]; exact hz'.2), atV_val ha (by omega) (by omega), hf]
      refine Eq.trans hv ?_
      congr 1
      omega
end Go.Proofs.Ytdepnhnpklbmiaa
