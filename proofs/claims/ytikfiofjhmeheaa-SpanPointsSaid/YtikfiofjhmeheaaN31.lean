/- Contract of the specification's Trays: the same trays. -/
import Derived.Test.YtikfiofjhmeheaaN30
import Derived.Test.YtikfiofjhmeheaaN21
import Derived.Test.YtikfiofjhmeheaaE2
namespace Go.Proofs.Ytikfiofjhmeheaa
open Go.RowKit Go.Sort

/-- which spans have been laid after i steps -/
noncomputable def laidF (xs : List Sp) (n : Nat) : Nat → Nat → Bool
  | 0 => fun _ => false
  | i + 1 => fun k => if k = ordL xs n i then true else laidF xs n i k
theorem laidF_iff (xs : List Sp) (n : Nat) : ∀ i k, laidF xs n i k = true ↔ ∃ j, j < i ∧ ordL xs n j = k
  | 0, k => by simp [laidF]
  | i + 1, k => by
    have ih := laidF_iff xs n i k
    unfold laidF
    by_cases h : k = ordL xs n i
    · rw [if_pos h]
      exact ⟨fun _ => ⟨i, by omega, h.symm⟩, fun _ => rfl⟩
    · rw [if_neg h, ih]
      refine ⟨fun ⟨j, h1, h2⟩ => ⟨j, by omega, h2⟩, fun ⟨j, h1, h2⟩ => ⟨j, ?_, h2⟩⟩
      rcases Nat.lt_or_ge j i with h3 | h3
      · exact h3
      · obtain rfl : j = i := by omega
        exact absurd h2.symm h
/-- is tray t free of the first k spans that are laid? -/
def clearTo (xs : List Sp) (T : List Int) (F : Nat → Bool) (t : Nat) (lo hi : Int) : Nat → Bool
  | 0 => true
  | k + 1 => clearTo xs T F t lo hi k && !(F k && decide (iA T k = (t : Int)) && decide (loA xs k < hi) && decide (lo < hiA xs k))
theorem clearTo_iff (xs : List Sp) (T : List Int) (F : Nat → Bool) (t : Nat) (lo hi : Int) : ∀ n, clearTo xs T F t lo hi n = true ↔ ∀ k, k < n → ¬ (F k = true ∧ iA T k = (t : Int) ∧ loA xs k < hi ∧ lo < hiA xs k)
  | 0 => by simp [clearTo]
  | n + 1 => by
    have ih := clearTo_iff xs T F t lo hi n
    unfold clearTo
    rw [Bool.and_eq_true, ih]
    constructor
    · rintro ⟨h1, h2⟩ k hk ⟨a, b, c, d⟩
      rcases Nat.lt_or_ge k n with h | h
      · exact h1 k h ⟨a, b, c, d⟩
      · obtain rfl : k = n := by omega
        rw [a, decide_eq_true b, decide_eq_true c, decide_eq_true d] at h2
        cases h2
    · intro h
      refine ⟨fun k hk => h k (by omega), ?_⟩
      have h1 := h n (by omega)
      cases hv : (F n && decide (iA T n = (t : Int)) && decide (loA xs n < hi) && decide (lo < hiA xs n))
      · rfl
      · simp only [Bool.and_eq_true, decide_eq_true_eq] at hv
        exact absurd ⟨hv.1.1.1, hv.1.1.2, hv.1.2, hv.2⟩ h1
theorem clear_taken {xs : List Sp} {n i : Nat} {E T : List Int} (h : LayI xs n i E T) (hok : okTo xs n) (hi : i < n) {t : Nat} (ht : t < freeAt E (loA xs (ordL xs n i))) :
    clearTo xs T (laidF xs n i) t (loA xs (ordL xs n i)) (hiA xs (ordL xs n i)) n = false := by
  cases hc : clearTo xs T (laidF xs n i) t (loA xs (ordL xs n i)) (hiA xs (ordL xs n i)) n
  · rfl
  · obtain ⟨j, h1, h2, h3, h4⟩ := lay_taken h hok hi ht
    exact absurd ⟨(laidF_iff xs n i _).2 ⟨j, h1, rfl⟩, h2, h3, h4⟩ ((clearTo_iff _ _ _ _ _ _ _).1 hc _ (ordL_lt xs (by omega)))
theorem clear_free {xs : List Sp} {n i : Nat} {E T : List Int} (h : LayI xs n i E T) :
    clearTo xs T (laidF xs n i) (freeAt E (loA xs (ordL xs n i))) (loA xs (ordL xs n i)) (hiA xs (ordL xs n i)) n = true := by
  refine (clearTo_iff _ _ _ _ _ _ _).2 fun k hk ⟨a, b, c, d⟩ => ?_
  obtain ⟨j, h1, rfl⟩ := (laidF_iff xs n i k).1 a
  exact lay_free h h1 b d

theorem IntsAt.setOther {B g i : Nat} {W : World} {A : Option Addr} {n : Nat} {xs : List Int} (h : IntsAt B W A n xs) (hA : ∀ ad, A = some ad → ad.block ≠ g) (v : Value) : IntsAt B (W.setCell ⟨g, i, none⟩ v) A n xs := by
  refine ⟨h.1, h.2.imp id fun ⟨b, off, h1, h2, h3⟩ => ⟨b, off, h1, h2, fun k hk => ?_⟩⟩
  have hb : b ≠ g := hA _ h1
  rw [World.cell?_setCell_other _ _ _ _ (by intro e; simp only [Addr.mk.injEq] at e; exact hb (by rw [e.1]))]
  exact h3 k hk

structure LaidM (w W : World) (g1 g2 n : Nat) (T : List Int) (F : Nat → Bool) (a3 : Option Addr) (B : Nat) (os : List Int) : Prop where
  ot : W.ownsRow g1 3 1 (.slice (some ⟨g1, 0, none⟩) n n) n (T.map (Value.int .i64))
  fl : Flags W g2 n F
  below : Below w.heap.size w W
  ord : IntsAt B W a3 n os
  size : B ≤ W.heap.size
theorem LaidM.drewN {w W : World} {g1 g2 n : Nat} {T : List Int} {F : Nat → Bool} {a3 : Option Addr} {B : Nat} {os : List Int} (h : LaidM w W g1 g2 n T F a3 B os) (q : Nat) : LaidM w (W.drewN q) g1 g2 n T F a3 B os :=
  ⟨h.ot, h.fl.drewN q, ⟨h.below.os, h.below.tape, h.below.output, h.below.size, h.below.block⟩, h.ord, h.size⟩
theorem LaidM.more {w W W' : World} {g1 g2 n : Nat} {T : List Int} {F : Nat → Bool} {a3 : Option Addr} {B : Nat} {os : List Int} (h : LaidM w W g1 g2 n T F a3 B os) (hb : Below W.heap.size W W') : LaidM w W' g1 g2 n T F a3 B os :=
  ⟨World.ownsRow.kept h.ot (row := none) ⟨hb.os, hb.tape, hb.output, hb.size, fun k hk _ => hb.block k hk⟩ (.inr (by simp [Value.ownBlock])), h.fl.below hb, h.below.trans (hb.mono h.below.size), h.ord.below (hb.mono h.size), Nat.le_trans h.size hb.size⟩
theorem LaidM.setT {w W : World} {g1 g2 n : Nat} {T : List Int} {F : Nat → Bool} {a3 : Option Addr} {B : Nat} {os : List Int} (h : LaidM w W g1 g2 n T F a3 B os) (h12 : g1 ≠ g2) (hw : w.heap.size ≤ g1) (hA : ∀ ad, a3 = some ad → ad.block ≠ g1) (i : Nat) (v : Int) :
    LaidM w (W.setCell ⟨g1, i, none⟩ (.int .i64 v)) g1 g2 n (T.set i v) F a3 B os := by
  obtain ⟨hs, hg⟩ := h.ot.stored i (.int .i64 v)
  rw [map_set_int] at hs
  obtain ⟨vals, h1, h2⟩ := h.fl
  exact ⟨hs, ⟨vals, h1.kept hg (.inr (by simp only [Value.ownBlock]; intro e; injection e with e; omega)), h2⟩, h.below.setCell (p := ⟨g1, i, none⟩) hw _, h.ord.setOther hA _, by simpa [World.setCell] using h.size⟩
theorem LaidM.setF {w W : World} {g1 g2 n : Nat} {T : List Int} {F : Nat → Bool} {a3 : Option Addr} {B : Nat} {os : List Int} (h : LaidM w W g1 g2 n T F a3 B os) (h12 : g1 ≠ g2) (hw : w.heap.size ≤ g2) (hA : ∀ ad, a3 = some ad → ad.block ≠ g2) {i : Nat} (hi : i < n) :
    LaidM w (W.setCell ⟨g2, i, none⟩ (.bool true)) g1 g2 n T (fun j => if j = i then true else F j) a3 B os := by
  have hg : W.grownBy (W.setCell ⟨g2, i, none⟩ (.bool true)) (some g2) := by
    obtain ⟨vals, h1, h2⟩ := h.fl
    exact (h1.stored i (.bool true)).2
  exact ⟨h.ot.kept hg (.inr (by simp only [Value.ownBlock]; intro e; injection e with e; omega)), h.fl.set hi true, h.below.setCell (p := ⟨g2, i, none⟩) hw _, h.ord.setOther hA _, by simpa [World.setCell] using h.size⟩

def freeBit : Value → Nat
  | .bool true => 0
  | _ => 1

set_option maxHeartbeats 8000000 in
set_option maxRecDepth 100000 in
theorem refTrays_any (A : Option Addr) (n cap : Nat) (xs : List Sp) (w : World) (hx : SpansAt w.heap.size w A n xs) :
    Calls Try.prog 51 #[.slice A n cap] w (TraysPost xs w) := by
  have mixed := mixedOrders
  have HX := hide hx
  have HC := hide (list_any A n cap xs w hx)
  clear hx
  by_cases hc : checkE xs = 0
  · have HCN := hide hc
    have HCC := HC.out
    rw [hc] at HCC
    have HC2 := hide HCC
    have HOK := hide (ok_of_check hc HX.out.1)
    have hn := HOK.out.1
    clear hc HC HCC
    have hmk := run_make_row' (P := Try.prog) 43 3 (.int .i64 0) 8 Try.underlying43 info3' rfl .i64 .i64 n (by omega) (by omega)
    have hmk2 : ∀ W, (Instr.makeSlice 62 (.int .i64 (n : Int)) (.int .i64 (n : Int))).run Try.prog W = .ok (.slice (some ⟨W.heap.size, 0, none⟩) n n) (W.alloc (.cells (madeCells #[.bool false] n) 4)) := fun W => run_flags W (by omega)
    go_enter Try.func51, Try.ntmps51
    go_wp2_with fail
    refine HC2.out.mono ?_
    rintro e w2 ⟨rfl, hG⟩
    have HG := hide hG
    have hsz2 := hG.size
    clear hG HC2
    go_wp2_with fail
    obtain ⟨g1, hg1⟩ : ∃ g1, w2.heap.size = g1 := ⟨_, rfl⟩
    obtain ⟨W0, hW0⟩ : ∃ W0, (w2.alloc (.cells (madeCells #[.int .i64 0] n) 3)).alloc (.cells (madeCells #[.bool false] n) 4) = W0 := ⟨_, rfl⟩
    have hot : W0.ownsRow g1 3 1 (.slice (some ⟨g1, 0, none⟩) n n) n ((List.replicate n (0 : Int)).map (Value.int .i64)) := by
      rw [← hW0, ← hg1]
      exact (made_ints w2 (Nat.le_refl _) (by omega)).alloc _
    have hfl : Flags W0 (g1 + 1) n (fun _ => false) := by
      have h := made_flags (w2.alloc (.cells (madeCells #[.int .i64 0] n) 3)) (n := n) (by omega)
      rw [size_alloc' _ hg1, hW0] at h
      exact h
    have hG0 : Gr w W0 := by rw [← hW0]; exact (HG.out.alloc _).alloc _
    have hwg : w.heap.size ≤ g1 := by omega
    have hsz0 : W0.heap.size = g1 + 2 := by rw [← hW0, ← hg1]; simp
    have HX0 := hide (HX.out.gr hG0)
    have HOT := hide hot
    have HFL := hide hfl
    have HG0 := hide hG0
    rw [hW0, hg1]
    clear hot hfl hG0 hW0 hmk hmk2 hg1
    refine (sorted_lo A n cap xs W0 HX0.out (by omega)).mono ?_
    rintro e w3 ⟨a3, c3, rfl, hi3, hb3, hfr3⟩
    have HM0 : Hid (LaidM w w3 g1 (g1 + 1) n (layTo xs (ups n 0)).2 (laidF xs n 0) a3 w3.heap.size (natI (sortTo (keyB false xs) n))) := by
      rw [ups_zero]
      exact ⟨World.ownsRow.kept HOT.out (row := none) ⟨hb3.os, hb3.tape, hb3.output, hb3.size, fun k hk _ => hb3.block k hk⟩ (.inr (by simp [Value.ownBlock])), HFL.out.below hb3, HG0.out.below.trans (hb3.mono HG0.out.size), hi3, Nat.le_refl _⟩
    have HA1 : Hid (∀ ad, a3 = some ad → ad.block ≠ g1) := fun ad e => by have := hfr3 ad e; omega
    have HA2 : Hid (∀ ad, a3 = some ad → ad.block ≠ g1 + 1) := fun ad e => by have := hfr3 ad e; omega
    clear hi3 hb3 hfr3 HOT HFL HG0 HX0 HG
    go_wp2
    go_loopw [8, 10] (fun vu vi wr => ∃ i : Nat, i ≤ n ∧ vi = .int .i64 i ∧ vu = .int .i64 ((layTo xs (ups n i)).1.length : Nat) ∧ Hid (LaidM w wr g1 (g1 + 1) n (layTo xs (ups n i)).2 (laidF xs n i) a3 w3.heap.size (natI (sortTo (keyB false xs) n)))) (fun _ vi _ => n - (intOf vi).toNat)
    case atStart =>
      refine ⟨0, Nat.zero_le _, rfl, ?_, HM0⟩
      rw [ups_zero]
      rfl
    case round =>
      obtain ⟨i, hi, rfl, rfl, HM⟩ := hrel
      by_cases hin : i < n
      · have hin' : (i : Int) < (n : Int) := by omega
        obtain ⟨b2, off2, rfl, hb2, co⟩ := HM.out.ord.at_ hin
        have hso : iA (natI (sortTo (keyB false xs) n)) i = (ordL xs n i : Int) := by
          rw [natI_at (by rw [sortTo_length]; exact hin), sortTo_ord _ _ _ hin]
          rfl
        rw [hso] at co
        have hon : ordL xs n i < n := ordL_lt xs hin
        have HLI := hide (lay_facts HOK.out.2 i hi)
        have HS := hide (show layTo xs (ups n (i + 1)) = layStep xs (layTo xs (ups n i)) (ordL xs n i) by rw [ups_succ hin, layTo_snoc])
        have HFS := hide (show laidF xs n (i + 1) = fun k => if k = ordL xs n i then true else laidF xs n i k from rfl)
        have HTK := hide (fun t => clear_taken (t := t) HLI.out HOK.out.2 hin)
        have HFR := hide (clear_free HLI.out)
        have hsm := HLI.out.small
        have hTl := HLI.out.len
        have hfle := freeAt_le (layTo xs (ups n i)).1 (loA xs (ordL xs n i))
        obtain ⟨st, hst⟩ : ∃ st, layTo xs (ups n i) = st := ⟨_, rfl⟩
        rw [hst] at HS HM HTK HFR hsm hTl hfle
        rw [hst]
        obtain ⟨E, T⟩ := st
        have HS : Hid (layTo xs (ups n (i + 1)) = (layEnds E (loA xs (ordL xs n i)) (hiA xs (ordL xs n i)), T.set (ordL xs n i) (freeAt E (loA xs (ordL xs n i)) : Nat))) := HS.out
        have HM : Hid (LaidM w wr g1 (g1 + 1) n T (laidF xs n i) (some ⟨b2, off2, none⟩) w3.heap.size (natI (sortTo (keyB false xs) n))) := HM
        have HTK : Hid (∀ t, t < freeAt E (loA xs (ordL xs n i)) → clearTo xs T (laidF xs n i) t (loA xs (ordL xs n i)) (hiA xs (ordL xs n i)) n = false) := HTK
        have HFR : Hid (clearTo xs T (laidF xs n i) (freeAt E (loA xs (ordL xs n i))) (loA xs (ordL xs n i)) (hiA xs (ordL xs n i)) n = true) := HFR
        have hsm : E.length ≤ i := hsm
        have hTl : T.length = n := hTl
        have hfle : freeAt E (loA xs (ordL xs n i)) ≤ E.length := hfle
        dsimp only
        have HLE := hide (layEnds_length E (loA xs (ordL xs n i)) (hiA xs (ordL xs n i)))
        obtain ⟨b, off, rfl, hb, d0, d1⟩ := HX.out.at_ hon
        have d0' := (HM.out.below.cell (p := ⟨b, off + ordL xs n i * 2, none⟩) hb).trans d0
        have d1' := (HM.out.below.cell (p := ⟨b, off + ordL xs n i * 2 + 1, none⟩) hb).trans d1
        clear d0 d1 HLI hst
        generalize ordL xs n i = o at co hon HS HFS HTK HFR hfle HLE d0' d1' ⊢
        have hon' : (o : Int) < (n : Int) := by omega
        generalize hLO : loA xs o = ll at HS HTK HFR hfle HLE d0' ⊢
        generalize hHI : hiA xs o = hh at HS HTK HFR HLE d1' ⊢
        generalize layEnds E ll hh = E' at HS HLE
        generalize freeAt E ll = fr at HS HTK HFR hfle HLE
        generalize laidF xs n i = F at HM HFS HTK HFR
        clear hLO hHI
        obtain ⟨wo, hwo⟩ : ∃ wo : World, wo = wr := ⟨_, rfl⟩
        subst hwo
        obtain ⟨W1, hW1⟩ : ∃ W1, wo.alloc (.cells #[.int .i64 ll, .int .i64 hh] 42) = W1 := ⟨_, rfl⟩
        have HM1 : Hid (LaidM w W1 g1 (g1 + 1) n T F (some ⟨b2, off2, none⟩) w3.heap.size (natI (sortTo (keyB false xs) n))) := by
          show LaidM w W1 g1 (g1 + 1) n T F (some ⟨b2, off2, none⟩) w3.heap.size (natI (sortTo (keyB false xs) n))
          rw [← hW1]
          exact HM.out.more ((Below.refl _ _).alloc (Nat.le_refl _) _)
        obtain ⟨Bs, hBs⟩ : ∃ Bs, wo.heap.size = Bs := ⟨_, rfl⟩
        have s0 : W1.cell? ⟨Bs, 0, none⟩ = some (.int .i64 ll) := by rw [← hW1, ← hBs]; simp
        have s1 : W1.cell? ⟨Bs, 1, none⟩ = some (.int .i64 hh) := by rw [← hW1, ← hBs]; simp
        have co1 : W1.cell? ⟨b2, off2 + i, none⟩ = some (.int .i64 (o : Int)) := by
          rw [← hW1]
          exact (World.cell?_alloc_lt _ _ _ (by have := HM.out.size; show b2 < wo.heap.size; omega)).trans co
        have HXW := hide (HX.out.below HM1.out.below)
        clear HM
        go_wp2
        go_loopw [12, 13] (fun vt vf wr => ∃ (t : Nat) (f : Bool), t ≤ fr ∧ vt = .int .i64 t ∧ vf = .bool f ∧ (f = true → t = fr) ∧ Hid (∃ q, wr = W1.drewN q)) (fun vt vf _ => (fr - (intOf vt).toNat) * 2 + freeBit vf)
        case atStart => exact ⟨0, false, Nat.zero_le _, rfl, rfl, (fun h => by cases h), ⟨0, rfl⟩⟩
        case round =>
          obtain ⟨t, f, htf, rfl, rfl, hft, HQ⟩ := hrel
          cases f
          · obtain ⟨wm, hwm⟩ : ∃ wm : World, wm = wr := ⟨_, rfl⟩
            subst hwm
            go_wp2
            go_loopw [13, 14] (fun vf vk wr => ∃ k : Nat, k ≤ n ∧ vk = .int .i64 k ∧ vf = .bool (clearTo xs T F t ll hh k) ∧ Hid (∃ q, wr = W1.drewN q)) (fun _ vk _ => n - (intOf vk).toNat)
            case atStart => exact ⟨0, Nat.zero_le _, rfl, rfl, HQ⟩
            case round =>
              obtain ⟨k, hk, rfl, rfl, HQ2⟩ := hrel
              by_cases hkn : k < n
              · have hkn' : (k : Int) < (n : Int) := by omega
                obtain ⟨x0, x1⟩ := HXW.out.at2 hkn
                have x2 := HM1.out.fl.cell hkn
                obtain ⟨x3, -⟩ := own_cell HM1.out.ot hkn
                have E0 : ∀ nq, (wr.drewN nq).cell? ⟨b, off + k * 2, none⟩ = some (.int .i64 (loA xs k)) := fun nq => by obtain ⟨q, rfl⟩ := HQ2.out; exact x0
                have E1 : ∀ nq, (wr.drewN nq).cell? ⟨b, off + k * 2 + 1, none⟩ = some (.int .i64 (hiA xs k)) := fun nq => by obtain ⟨q, rfl⟩ := HQ2.out; exact x1
                have E2 : ∀ nq, (wr.drewN nq).cell? ⟨g1 + 1, k, none⟩ = some (.bool (F k)) := fun nq => by obtain ⟨q, rfl⟩ := HQ2.out; exact x2
                have E3 : ∀ nq, (wr.drewN nq).cell? ⟨g1, k, none⟩ = some (.int .i64 (iA T k)) := fun nq => by obtain ⟨q, rfl⟩ := HQ2.out; exact x3
                have E4 : ∀ nq, (wr.drewN nq).cell? ⟨Bs, 0, none⟩ = some (.int .i64 ll) := fun nq => by obtain ⟨q, rfl⟩ := HQ2.out; exact s0
                have E5 : ∀ nq, (wr.drewN nq).cell? ⟨Bs, 1, none⟩ = some (.int .i64 hh) := fun nq => by obtain ⟨q, rfl⟩ := HQ2.out; exact s1
                have HN : Hid (clearTo xs T F t ll hh (k + 1) = (clearTo xs T F t ll hh k && !(F k && decide (iA T k = (t : Int)) && decide (loA xs k < hh) && decide (ll < hiA xs k)))) := rfl
                have HQS : Hid (∀ nq, ∃ q, wr.drewN nq = W1.drewN q) := fun nq => by obtain ⟨q, rfl⟩ := HQ2.out; exact ⟨q + nq, World.drewN_drewN _ _ _⟩
                clear x0 x1 x2 x3
                generalize clearTo xs T F t ll hh k = cl at HN ⊢
                generalize loA xs k = lk at E0 HN
                generalize hiA xs k = hk' at E1 HN
                generalize iA T k = tk at E3 HN
                cases hF : F k
                · rw [hF] at E2
                  have HE : Hid (clearTo xs T F t ll hh (k + 1) = cl) := by show _ = _; rw [HN.out, hF]; simp
                  clear HN hF
                  go_wp2_with fail
                  go_quiet (fail)
                  go_wp2
                  go_roundw
                  case rel => exact ⟨k + 1, by omega, by go_num, by rw [HE.out], HQS.out nq⟩
                  case measure => simp [intOf]; omega
                · rw [hF] at E2
                  by_cases h1 : tk = (t : Int)
                  · have b1 : (tk == (t : Int)) = true := beq_iff_eq.2 h1
                    by_cases h2 : lk < hh
                    · have b2' : decide (lk < hh) = true := decide_eq_true h2
                      by_cases h3 : ll < hk'
                      · have b3 : decide (ll < hk') = true := decide_eq_true h3
                        have HE : Hid (clearTo xs T F t ll hh (k + 1) = false) := by show _ = _; rw [HN.out, hF, decide_eq_true h1, b2', b3]; simp
                        clear HN hF h1 h2 h3
                        go_wp2_with fail
                        go_quiet (fail)
                        go_wp2
                        go_roundw
                        case rel => exact ⟨k + 1, by omega, by go_num, by rw [HE.out], HQS.out nq⟩
                        case measure => simp [intOf]; omega
                      · have b3 : decide (ll < hk') = false := decide_eq_false h3
                        have HE : Hid (clearTo xs T F t ll hh (k + 1) = cl) := by show _ = _; rw [HN.out, b3]; simp
                        clear HN hF h1 h2 h3
                        go_wp2_with fail
                        go_quiet (fail)
                        go_wp2
                        go_roundw
                        case rel => exact ⟨k + 1, by omega, by go_num, by rw [HE.out], HQS.out nq⟩
                        case measure => simp [intOf]; omega
                    · have b2' : decide (lk < hh) = false := decide_eq_false h2
                      have HE : Hid (clearTo xs T F t ll hh (k + 1) = cl) := by show _ = _; rw [HN.out, b2']; simp
                      clear HN hF h1 h2
                      go_wp2_with fail
                      go_quiet (fail)
                      go_wp2
                      go_roundw
                      case rel => exact ⟨k + 1, by omega, by go_num, by rw [HE.out], HQS.out nq⟩
                      case measure => simp [intOf]; omega
                  · have b1 : (tk == (t : Int)) = false := beq_eq_false_iff_ne.2 h1
                    have HE : Hid (clearTo xs T F t ll hh (k + 1) = cl) := by show _ = _; rw [HN.out, decide_eq_false h1]; simp
                    clear HN hF h1
                    go_wp2_with fail
                    go_quiet (fail)
                    go_wp2
                    go_roundw
                    case rel => exact ⟨k + 1, by omega, by go_num, by rw [HE.out], HQS.out nq⟩
                    case measure => simp [intOf]; omega
              · obtain rfl : k = n := by omega
                by_cases hlt : t < fr
                · have HC1 := hide (HTK.out t hlt)
                  rw [HC1.out]
                  go_wp2
                  go_roundw
                  case rel => exact ⟨t + 1, false, by omega, by go_num, rfl, (fun h => by cases h), HQ2⟩
                  case measure => simp [intOf, freeBit]; omega
                · obtain rfl : t = fr := by omega
                  rw [HFR.out]
                  go_wp2
                  go_roundw
                  case rel => exact ⟨t, true, Nat.le_refl _, rfl, rfl, fun _ => rfl, HQ2⟩
                  case measure => simp [intOf, freeBit]
          · obtain rfl := hft rfl
            have HM2 : Hid (LaidM w wr g1 (g1 + 1) n T F (some ⟨b2, off2, none⟩) w3.heap.size (natI (sortTo (keyB false xs) n))) := by obtain ⟨q, rfl⟩ := HQ.out; exact HM1.out.drewN q
            have co2 : wr.cell? ⟨b2, off2 + i, none⟩ = some (.int .i64 (o : Int)) := by obtain ⟨q, rfl⟩ := HQ.out; exact co1
            obtain ⟨x3, y3⟩ := own_cell HM2.out.ot hon
            have hm3 := HM2.out.setT (by omega) (by omega) HA1.out o (t : Int)
            have x4 := hm3.fl.cell hon
            have y4 := hm3.fl.frozen o
            have HM3 := hide hm3
            have hm4 := hm3.setF (by omega) (by omega) HA2.out hon
            have HM4 : Hid (LaidM w ((wr.setCell ⟨g1, o, none⟩ (.int .i64 (t : Int))).setCell ⟨g1 + 1, o, none⟩ (.bool true)) g1 (g1 + 1) n (T.set o (t : Int)) (laidF xs n (i + 1)) (some ⟨b2, off2, none⟩) w3.heap.size (natI (sortTo (keyB false xs) n))) := by
              show LaidM _ _ _ _ _ _ _ _ _ _
              rw [HFS.out]
              exact hm4
            have co3 : (wr.setCell ⟨g1, o, none⟩ (.int .i64 (t : Int))).cell? ⟨b2, off2 + i, none⟩ = some (.int .i64 (o : Int)) :=
              (World.cell?_setCell_other _ _ _ _ (by intro e; simp only [Addr.mk.injEq] at e; exact HA1.out _ rfl e.1.symm)).trans co2
            clear hm3 hm4 HM2 HM3
            by_cases hte : t < E.length
            · have HL2 : Hid (E'.length = E.length) := by show _ = _; rw [HLE.out, if_pos hte]
              have hmx : (if (E.length : Int) < (t : Int) + 1 then (t : Int) + 1 else (E.length : Int)) = (E.length : Int) := if_neg (by omega)
              clear HLE
              go_wp2
              go_roundw
              case rel => exact ⟨i + 1, by omega, by go_num, by rw [HS.out]; show _ = Value.int .i64 (E'.length : Nat); rw [HL2.out], by rw [HS.out]; exact HM4.out⟩
              case measure => simp [intOf]; omega
            · obtain rfl : t = E.length := by omega
              have HL2 : Hid (E'.length = E.length + 1) := by show _ = _; rw [HLE.out, if_neg hte]
              have hmx : (if (E.length : Int) < (E.length : Int) + 1 then (E.length : Int) + 1 else (E.length : Int)) = (E.length : Int) + 1 := if_pos (by omega)
              clear HLE
              go_wp2
              go_roundw
              case rel => exact ⟨i + 1, by omega, by go_num, by rw [HS.out]; show _ = Value.int .i64 (E'.length : Nat); rw [HL2.out]; go_num, by rw [HS.out]; exact HM4.out⟩
              case measure => simp [intOf]; omega
      · obtain rfl : i = n := by omega
        go_wp2
        go_ret3
        have hP2 : (layTo xs (ups i i)).2 = trayL xs := by
          unfold trayL
          rw [if_pos HCN.out, HX.out.1]
        have hN2 : (layTo xs (ups i i)).1.length = trayN xs := by
          unfold trayN
          rw [if_pos HCN.out, HX.out.1]
        have hm := HM.out
        rw [hP2] at hm
        exact ⟨_, _, _, by rw [HCN.out, hN2]; rfl, ints_of_own hm.ot, hm.below⟩
  · have HCN := hide hc
    have hc1 : (checkE xs == 0) = false := beq_eq_false_iff_ne.2 hc
    have hc2 : (checkE xs != 0) = true := by rw [bne_iff_ne]; exact hc
    clear hc
    go_enter Try.func51, Try.ntmps51
    go_wp2_with fail
    refine HC.out.mono ?_
    rintro e w2 ⟨rfl, hG⟩
    have HG := hide hG
    clear hG
    go_wp2
    go_ret3
    exact trayspost_err HCN.out HG.out.below

end Go.Proofs.Ytikfiofjhmeheaa
