/- Contract of covers: do the chosen spans hold every number of the target? -/
import Derived.Test.YtikfiofjhmeheaaA2
namespace Go.Proofs.Ytikfiofjhmeheaa
open Go.RowKit Go.Sort

/-- a slice of bools in memory -/
def bA (bs : List Bool) (i : Nat) : Bool := bs.getD i false
def BoolsAt (B : Nat) (w : World) (A : Option Addr) (n : Nat) (bs : List Bool) : Prop :=
  bs.length = n ∧ (n = 0 ∨ ∃ b off, A = some ⟨b, off, none⟩ ∧ b < B ∧ ∀ i, i < n → w.cell? ⟨b, off + i, none⟩ = some (.bool (bA bs i)))
theorem BoolsAt.below {B : Nat} {w w' : World} {A : Option Addr} {n : Nat} {bs : List Bool} (h : BoolsAt B w A n bs) (hb : Below B w w') : BoolsAt B w' A n bs := by
  refine ⟨h.1, ?_⟩
  rcases h.2 with h0 | ⟨b, off, e, hlt, hc⟩
  · exact .inl h0
  · exact .inr ⟨b, off, e, hlt, fun i hi => (hb.cell (p := ⟨b, _, none⟩) hlt).trans (hc i hi)⟩
theorem BoolsAt.mono {B B' : Nat} {w : World} {A : Option Addr} {n : Nat} {bs : List Bool} (h : BoolsAt B w A n bs) (hB : B ≤ B') : BoolsAt B' w A n bs := by
  refine ⟨h.1, ?_⟩
  rcases h.2 with h0 | ⟨b, off, e, hlt, hc⟩
  · exact .inl h0
  · exact .inr ⟨b, off, e, by omega, hc⟩
theorem BoolsAt.now {B : Nat} {w w' : World} {A : Option Addr} {n : Nat} {bs : List Bool} (h : BoolsAt B w A n bs) (hb : Below B w w') (hB : B ≤ w.heap.size) : BoolsAt w'.heap.size w' A n bs :=
  (h.below hb).mono (Nat.le_trans hB hb.size)
theorem BoolsAt.at_ {B : Nat} {w : World} {A : Option Addr} {n : Nat} {bs : List Bool} (h : BoolsAt B w A n bs) {k : Nat} (hk : k < n) :
    ∃ b off, A = some ⟨b, off, none⟩ ∧ b < B ∧ w.cell? ⟨b, off + k, none⟩ = some (.bool (bA bs k)) := by
  rcases h.2 with h0 | ⟨b, off, e, hlt, hc⟩
  · omega
  · exact ⟨b, off, e, hlt, hc k hk⟩

/-- span i is chosen and holds y -/
def hitS (xs : List Sp) (sel : Nat → Bool) (i : Nat) (y : Int) : Prop := sel i = true ∧ loA xs i ≤ y ∧ y < hiA xs i
def covd (xs : List Sp) (sel : Nat → Bool) (y : Int) : Prop := ∃ i, i < xs.length ∧ hitS xs sel i y
structure CovI (xs : List Sp) (sel : Nat → Bool) (tlo a a' : Int) (m : Bool) (k : Nat) : Prop where
  cov : ∀ y, tlo ≤ y → y < a' → covd xs sel y
  ge : a ≤ a'
  mv : m = true → a < a'
  st : m = false → a' = a ∧ ∀ i, i < k → ¬ hitS xs sel i a
theorem CovI.hit {xs : List Sp} {sel : Nat → Bool} {tlo a a' : Int} {m : Bool} {k : Nat} (h : CovI xs sel tlo a a' m k) (hk : k < xs.length) (h0 : sel k = true) (h1 : loA xs k ≤ a') (h2 : a' < hiA xs k) :
    CovI xs sel tlo a (hiA xs k) true (k + 1) :=
  ⟨fun y hy1 hy2 => by
    by_cases hy : y < a'
    · exact h.cov y hy1 hy
    · exact ⟨k, hk, h0, by omega, hy2⟩, by have := h.ge; omega, fun _ => by have := h.ge; omega, fun e => (by cases e)⟩
theorem CovI.miss {xs : List Sp} {sel : Nat → Bool} {tlo a a' : Int} {m : Bool} {k : Nat} (h : CovI xs sel tlo a a' m k) (hn : ¬ hitS xs sel k a') : CovI xs sel tlo a a' m (k + 1) :=
  ⟨h.cov, h.ge, h.mv, fun e => ⟨(h.st e).1, fun i hi => by
    rcases Nat.lt_or_ge i k with hik | hik
    · exact (h.st e).2 i hik
    · obtain rfl : i = k := by omega
      rw [(h.st e).1] at hn
      exact hn⟩⟩
def CovPost (tlo thi : Int) (xs : List Sp) (bs : Nat → Bool) (e : Ending) : Prop := ∃ r : Bool, e = .returned (.bool r) ∧ (r = true ↔ ∀ y, tlo ≤ y → y < thi → covd xs bs y)
def selL (bs : List Bool) (i : Nat) : Bool := bs.length == 0 || bA bs i

set_option maxHeartbeats 1000000 in
set_option maxRecDepth 100000 in
theorem covers_any (tlo thi : Int) (A A2 : Option Addr) (n cap m cap2 : Nat) (xs : List Sp) (bs : List Bool) (w : World) (hx : SpansAt w.heap.size w A n xs) (hb : BoolsAt w.heap.size w A2 m bs) (hm : m = 0 ∨ m = n) (hn : n ≤ 1000000) :
    Calls Try.prog 60 #[.agg #[.int .i64 tlo, .int .i64 thi], .slice A n cap, .slice A2 m cap2] w fun e w' =>
      CovPost tlo thi xs (selL bs) e ∧ Gr w w' := by
  obtain ⟨w1, hw1⟩ : ∃ w1, w.alloc (.cells #[.int .i64 tlo, .int .i64 thi] 42) = w1 := ⟨_, rfl⟩
  have hG := (Gr.refl w).alloc (.cells #[.int .i64 tlo, .int .i64 thi] 42)
  have t0 : w1.cell? ⟨w.heap.size, 0, none⟩ = some (.int .i64 tlo) := by rw [← hw1]; simp
  have t1 : w1.cell? ⟨w.heap.size, 1, none⟩ = some (.int .i64 thi) := by rw [← hw1]; simp
  rw [hw1] at hG
  have HX := hide (hx.below hG.below)
  have HB := hide (hb.below hG.below)
  have HL := hide hx.1
  have HLB := hide hb.1
  have HG := hide hG
  clear hx hb hG
  go_enter Try.func60, Try.ntmps60
  go_wp2
  go_loopg [7, 8] ((thi - tlo).toNat + 1) (fun f va vm wr => ∃ (a : Int) (mv : Bool), va = .int .i64 a ∧ vm = .bool mv ∧ tlo ≤ a ∧ Hid (∀ y, tlo ≤ y → y < a → covd xs (selL bs) y) ∧ Hid (mv = false → ∀ i, i < n → ¬ hitS xs (selL bs) i a) ∧ Hid ((if mv = true then (thi - a).toNat + 1 else 0) ≤ f) ∧ wr = w1)
  case atStart => exact ⟨tlo, true, rfl, rfl, Int.le_refl _, fun y h1 h2 => by omega, fun e => (by cases e), by rw [if_pos rfl]; exact Nat.le_refl _, rfl⟩
  case round =>
    obtain ⟨a, mv, rfl, rfl, ha, HC, HM, HF, rfl⟩ := hrel
    cases mv
    · -- nothing moved
      go_wp2
      go_ret
      refine ⟨⟨_, rfl, ?_⟩, HG.out⟩
      rw [decide_eq_true_iff]
      constructor
      · intro h y h1 h2
        exact HC.out y h1 (by omega)
      · intro h
        by_cases hlt : a < thi
        · obtain ⟨i, hi, hh⟩ := h a ha hlt
          exact absurd hh (HM.out trivial i (by rw [← HL.out]; exact hi))
        · omega
    · by_cases hlt : a < thi
      · have hd : decide (a < thi) = true := decide_eq_true hlt
        go_wp2
        go_loopw [7, 8, 9] (fun va vm vi wr' => ∃ (a' : Int) (mv : Bool) (k : Nat), k ≤ n ∧ va = .int .i64 a' ∧ vm = .bool mv ∧ vi = .int .i64 k ∧ Hid (CovI xs (selL bs) tlo a a' mv k) ∧ wr' = wr) (fun _ _ vi _ => n - (intOf vi).toNat)
        case atStart => exact ⟨a, false, 0, Nat.zero_le _, rfl, rfl, rfl, ⟨HC.out, Int.le_refl _, fun e => (by cases e), fun _ => ⟨rfl, fun i hi => by omega⟩⟩, rfl⟩
        case round =>
          obtain ⟨a', mv, k, hk, rfl, rfl, rfl, HI, rfl⟩ := hrel
          by_cases hkn : k < n
          · have hkn' : (k : Int) < (n : Int) := by omega
            obtain ⟨b, off, rfl, hbl, c0, c1⟩ := HX.out.at_ hkn
            have HKL : Hid (k < xs.length) := by show k < xs.length; rw [HL.out]; exact hkn
            rcases hm with hm0 | hmn
            · subst hm0
              have HS : Hid (selL bs k = true) := by show selL bs k = true; unfold selL; rw [HLB.out]; rfl
              by_cases h1 : loA xs k ≤ a'
              · have hd1 : decide (loA xs k ≤ a') = true := decide_eq_true h1
                by_cases h2 : a' < hiA xs k
                · have hd2 : decide (a' < hiA xs k) = true := decide_eq_true h2
                  have HI2 := hide (HI.out.hit HKL.out HS.out h1 h2)
                  go_wp2
                  go_roundw
                  case rel => exact ⟨hiA xs k, true, k + 1, by omega, rfl, rfl, by go_num, HI2, trivial⟩
                  case measure => simp [intOf]; omega
                · have hd2 : decide (a' < hiA xs k) = false := decide_eq_false h2
                  have HI2 := hide (HI.out.miss (fun h => h2 h.2.2))
                  go_wp2
                  go_roundw
                  case rel => exact ⟨a', mv, k + 1, by omega, rfl, rfl, by go_num, HI2, trivial⟩
                  case measure => simp [intOf]; omega
              · have hd1 : decide (loA xs k ≤ a') = false := decide_eq_false h1
                have HI2 := hide (HI.out.miss (fun h => h1 h.2.1))
                go_wp2
                go_roundw
                case rel => exact ⟨a', mv, k + 1, by omega, rfl, rfl, by go_num, HI2, trivial⟩
                case measure => simp [intOf]; omega
            · subst hmn
              obtain ⟨b2, off2, rfl, hbl2, c2⟩ := HB.out.at_ hkn
              have hz : ((m : Int) == 0) = false := beq_eq_false_iff_ne.2 (by omega)
              have HS : Hid (selL bs k = bA bs k) := by
                show selL bs k = bA bs k
                unfold selL
                rw [HLB.out, show (m == 0) = false from beq_eq_false_iff_ne.2 (by omega), Bool.false_or]
              generalize bA bs k = p at c2 HS
              cases p
              · have HI2 := hide (HI.out.miss (fun h => by have := h.1; rw [HS.out] at this; cases this))
                go_wp2
                go_roundw
                case rel => exact ⟨a', mv, k + 1, by omega, rfl, rfl, by go_num, HI2, trivial⟩
                case measure => simp [intOf]; omega
              · by_cases h1 : loA xs k ≤ a'
                · have hd1 : decide (loA xs k ≤ a') = true := decide_eq_true h1
                  by_cases h2 : a' < hiA xs k
                  · have hd2 : decide (a' < hiA xs k) = true := decide_eq_true h2
                    have HI2 := hide (HI.out.hit HKL.out HS.out h1 h2)
                    go_wp2
                    go_roundw
                    case rel => exact ⟨hiA xs k, true, k + 1, by omega, rfl, rfl, by go_num, HI2, trivial⟩
                    case measure => simp [intOf]; omega
                  · have hd2 : decide (a' < hiA xs k) = false := decide_eq_false h2
                    have HI2 := hide (HI.out.miss (fun h => h2 h.2.2))
                    go_wp2
                    go_roundw
                    case rel => exact ⟨a', mv, k + 1, by omega, rfl, rfl, by go_num, HI2, trivial⟩
                    case measure => simp [intOf]; omega
                · have hd1 : decide (loA xs k ≤ a') = false := decide_eq_false h1
                  have HI2 := hide (HI.out.miss (fun h => h1 h.2.1))
                  go_wp2
                  go_roundw
                  case rel => exact ⟨a', mv, k + 1, by omega, rfl, rfl, by go_num, HI2, trivial⟩
                  case measure => simp [intOf]; omega
          · obtain rfl : k = n := by omega
            have hge := HI.out.ge
            have HGE := hide hge
            clear hge
            go_wp2
            go_roundg (if mv = true then (thi - a').toNat + 1 else 0)
            case measure =>
              have h1 := HF.out
              simp at h1
              split
              · have := HI.out.mv (by assumption)
                omega
              · omega
            case rel => exact ⟨a', mv, rfl, rfl, by have := HGE.out; omega, HI.out.cov, fun e i hi => by rw [(HI.out.st e).1]; exact (HI.out.st e).2 i hi, Nat.le_refl _, rfl⟩
      · have hd : decide (a < thi) = false := decide_eq_false hlt
        have hd2 : decide (thi ≤ a) = true := decide_eq_true (by omega)
        go_wp2
        go_ret
        exact ⟨⟨_, rfl, fun _ y h1 h2 => HC.out y h1 (by omega), fun _ => rfl⟩, HG.out⟩

end Go.Proofs.Ytikfiofjhmeheaa
