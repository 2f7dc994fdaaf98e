/- Contract of the library's insertion sort with a comparison, at a row of indexes. -/
import Derived.Test.YtfahlgjolihmkaaDoorS0
import Derived.Test.YtfahlgjolihmkaaDoorM2
namespace Go.Proofs.YtfahlgjolihmkaaDoor
open Go.RowKit Go.Sort

/-- block blk holds the indexes d; all else that lay in w0 lies as it lay -/
structure Row (w0 W : World) (blk n : Nat) (d : Nat → Nat) : Prop where
  grown : w0.grownBy W (some blk)
  lt : blk < w0.heap.size
  cell : ∀ i, i < n → W.cell? ⟨blk, i, none⟩ = some (.int .i64 (d i))
  free : ∀ i, W.frozen? ⟨blk, i, none⟩ = false
theorem Row.ltW {w0 W : World} {blk n : Nat} {d : Nat → Nat} (h : Row w0 W blk n d) : blk < W.heap.size := Nat.lt_of_lt_of_le h.lt h.grown.size
theorem Row.gr {w0 W W' : World} {blk n : Nat} {d : Nat → Nat} (h : Row w0 W blk n d) (hG : Gr W W') : Row w0 W' blk n d :=
  ⟨h.grown.trans (hG.grownBy _), h.lt, fun i hi => (hG.cell (p := ⟨blk, i, none⟩) h.ltW).trans (h.cell i hi), fun i => (hG.frozen (p := ⟨blk, i, none⟩) h.ltW).trans (h.free i)⟩
theorem Row.swap {w0 W : World} {blk n : Nat} {d : Nat → Nat} (h : Row w0 W blk n d) {i j : Nat} (hi : i < n) (hj : j < n) :
    Row w0 ((W.setCell ⟨blk, i, none⟩ (.int .i64 (d j))).setCell ⟨blk, j, none⟩ (.int .i64 (d i))).drew blk n (swpF d i j) := by
  have hci := h.cell i hi
  have hcj := h.cell j hj
  refine ⟨⟨h.grown.os, h.grown.tape, h.grown.output, by simpa [World.setCell] using h.grown.size, fun k hk hne => ?_⟩, h.lt, fun k hk => ?_, fun k => ?_⟩
  · have hne' : k ≠ blk := fun e => hne (by rw [e])
    exact (Below.heap_setCell _ _ _ _ hne').trans ((Below.heap_setCell _ _ _ _ hne').trans (h.grown.block k hk hne))
  · show ((W.setCell ⟨blk, i, none⟩ (.int .i64 (d j))).setCell ⟨blk, j, none⟩ (.int .i64 (d i))).cell? ⟨blk, k, none⟩ = _
    have hx : ∃ u, (W.setCell ⟨blk, i, none⟩ (.int .i64 (d j))).cell? ⟨blk, j, none⟩ = some u := by
      by_cases e : i = j
      · subst e; exact ⟨_, World.cell?_setCell_same _ _ _ hci⟩
      · exact ⟨_, (World.cell?_setCell_other _ _ _ _ (by intro e'; simp only [Addr.mk.injEq] at e'; omega)).trans hcj⟩
    obtain ⟨u, hu⟩ := hx
    by_cases e : k = j
    · subst e
      rw [World.cell?_setCell_same _ _ _ hu, swpF_right]
    · rw [World.cell?_setCell_other _ _ _ _ (by intro e'; simp only [Addr.mk.injEq] at e'; omega)]
      by_cases e2 : k = i
      · subst e2
        rw [World.cell?_setCell_same _ _ _ hci, swpF_left]
      · rw [World.cell?_setCell_other _ _ _ _ (by intro e'; simp only [Addr.mk.injEq] at e'; omega), swpF_other d e2 e]
        exact h.cell k hk
  · show ((W.setCell ⟨blk, i, none⟩ (.int .i64 (d j))).setCell ⟨blk, j, none⟩ (.int .i64 (d i))).frozen? ⟨blk, k, none⟩ = _
    rw [World.frozen?_setCell, World.frozen?_setCell]
    exact h.free k

/-- what is asked of the comparison: wherever the row alone has turned, it says what cmp.Compare says of the keys -/
def CmpOn (w0 : World) (blk n g : Nat) (cb : Array Value) (kf : Nat → Int) : Prop :=
  ∀ (W : World) (i j : Nat), w0.grownBy W (some blk) → i < n → j < n → Calls Tryd.prog g (#[.int .i64 i, .int .i64 j] ++ cb) W fun e w' => e = .returned (.int .i64 (cmpV (kf i) (kf j))) ∧ Gr W w'

def InsPost (w0 : World) (blk n : Nat) (kf : Nat → Int) (a b : Nat) (d : Nat → Nat) (e : Ending) (w' : World) : Prop :=
  e = .returned (.tuple #[]) ∧ ∃ d', Row w0 w' blk n d' ∧ PermOn a b d d' ∧ SortedOn kf a b d'

set_option maxHeartbeats 4000000 in
set_option maxRecDepth 100000 in
theorem insertion_any (g : Nat) (cb : Array Value) (kf : Nat → Int) (w0 w : World) (blk n cap a b : Nat) (d : Nat → Nat) (eg : ∀ args w, (callFunc g args).run Tryd.prog w = .ok (.enter g args) w) (hcmp : CmpOn w0 blk n g cb kf)
    (hR : Row w0 w blk n d) (hn : n ≤ 1000000) (hab : a ≤ b) (hb : b ≤ n) (hup : ∀ k k', a ≤ k → k < k' → k' < b → d k < d k') (hdn : ∀ k, a ≤ k → k < b → d k < n) :
    Calls Tryd.prog 87 #[.slice (some ⟨blk, 0, none⟩) n cap, .int .i64 a, .int .i64 b, .func (.func g) #[] cb] w (InsPost w0 blk n kf a b d) := by
  have mixed := mixedOrders
  have HC := hide hcmp
  have HR := hide hR
  have HU := hide hup
  have HN := hide hdn
  clear hcmp hR hup hdn
  go_enter Tryd.func87, Tryd.ntmps87
  go_wp2
  go_loopw [8] (fun vi wr => ∃ (i : Nat) (dk : Nat → Nat), vi = .int .i64 i ∧ a < i ∧ i ≤ b + 1 ∧ Hid (Row w0 wr blk n dk) ∧ Hid (OuterP kf a b i d dk)) (fun vi _ => b + 1 - (intOf vi).toNat)
  case atStart => exact ⟨a + 1, d, by go_num, by omega, by omega, HR, OuterP.start _ _ _ _⟩
  case round =>
    obtain ⟨i, dk, rfl, hai, hib, R1, O1⟩ := hrel
    by_cases hlt : i < b
    · have hltz : (i : Int) < (b : Int) := by omega
      have HI := hide (O1.out.inner hai hlt HU.out)
      obtain ⟨wo, hwo⟩ : ∃ wo : World, wo = wr := ⟨_, rfl⟩
      subst hwo
      go_wp2
      go_loopw [9] (fun vj wr2 => ∃ (j : Nat) (dj : Nat → Nat), vj = .int .i64 j ∧ a ≤ j ∧ j ≤ i ∧ Hid (Row w0 wr2 blk n dj) ∧ Hid (InnerP kf a i j d dj)) (fun vj _ => (intOf vj).toNat)
      case atStart => exact ⟨i, dk, rfl, by omega, Nat.le_refl _, R1, HI⟩
      case round =>
        obtain ⟨j, dj, rfl, haj, hji, R2, I2⟩ := hrel
        by_cases hja : a < j
        · obtain ⟨jp, rfl⟩ : ∃ q, j = q + 1 := ⟨j - 1, by omega⟩
          have hjd : decide ((jp : Int) + 1 > (a : Int)) = true := decide_eq_true (by omega)
          have hjd2 : decide ((a : Int) < (jp : Int) + 1) = true := decide_eq_true (by omega)
          have hjz : (a : Int) < (jp : Int) + 1 := by omega
          have b1 : (jp : Int) + 1 < (n : Int) := by omega
          have b2 : (jp : Int) < (n : Int) := by omega
          have ea : IntKind.i64.wrap ((jp : Int) + 1) = (jp : Int) + 1 := by rw [IntKind.wrap_i64]; omega
          have l1 := fun q os => cell_grown (n := q) (os := os) (a := ⟨blk, jp + 1, none⟩) R2.out.ltW (R2.out.cell (jp + 1) (by omega))
          have l2 := fun q os => cell_grown (n := q) (os := os) (a := ⟨blk, jp, none⟩) R2.out.ltW (R2.out.cell jp (by omega))
          obtain ⟨x, hx⟩ : ∃ x, x = dj (jp + 1) := ⟨_, rfl⟩
          obtain ⟨y, hy⟩ : ∃ y, y = dj jp := ⟨_, rfl⟩
          have hv := I2.out.perm.all (Q := fun v => v < n) (fun k h1 h2 => HN.out k h1 (by omega))
          have EC : Hid (∀ (q : Nat) (os : Array Obj), Calls Tryd.prog g (#[.int .i64 x, .int .i64 y] ++ cb) (grow (wr.drewN q) os) fun e w'' => e = .returned (.int .i64 (cmpV (kf x) (kf y))) ∧ ∃ p : GrownBy, w'' = grow (wr.drewN p.n) p.os) := fun q os =>
            gr_call (HC.out _ x y (R2.out.gr (grown_gr wr q os)).grown (by rw [hx]; exact hv _ (by omega) (by omega)) (by rw [hy]; exact hv _ (by omega) (by omega)))
          rw [← hx] at l1
          rw [← hy] at l2
          have HX := hide hx
          have HY := hide hy
          clear hx hy hv ea
          by_cases hlt2 : kf x < kf y
          · have hd2 : decide (cmpV (kf x) (kf y) < 0) = true := decide_eq_true (cmpV_neg.2 hlt2)
            go_wp2_with fail
            refine wp_region_quiet_grown (by assumption) (by kernel_rfl) ?_
            repeat (first | go_big_quiet_step ((exact EC.out _ _)) | quiet_step ((exact EC.out _ _)))
            refine wpQuiet_nil ?_
            intro _ hw'
            obtain ⟨⟨nq, osq⟩, hw''⟩ := hw'
            subst hw''
            have R3 := hide (R2.out.gr (grown_gr wr nq osq))
            clear l1 l2 EC
            generalize grow (wr.drewN nq) osq = w2 at R3 ⊢
            clear nq osq
            have m1 := R3.out.cell (jp + 1) (by omega)
            have m2 := R3.out.cell jp (by omega)
            have f1 := R3.out.free (jp + 1)
            have f2 := R3.out.free jp
            rw [← HX.out] at m1
            rw [← HY.out] at m2
            have m3 : (w2.setCell ⟨blk, jp + 1, none⟩ (.int .i64 y)).cell? ⟨blk, jp, none⟩ = some (.int .i64 y) := (World.cell?_setCell_other _ _ _ _ (by intro e'; simp only [Addr.mk.injEq] at e'; omega)).trans m2
            have R4 : Hid (Row w0 ((w2.setCell ⟨blk, jp + 1, none⟩ (.int .i64 y)).setCell ⟨blk, jp, none⟩ (.int .i64 x)).drew blk n (swpF dj (jp + 1) jp)) := by
              have := R3.out.swap (i := jp + 1) (j := jp) (by omega) (by omega)
              rw [HX.out, HY.out]
              exact this
            have I4 := hide (I2.out.go (by omega) hji (by rw [Nat.add_sub_cancel, ← HX.out, ← HY.out]; exact hlt2))
            clear hlt2 R3
            go_wp2_with fail
            go_big_region
            go_wp2
            go_roundw
            case rel => exact ⟨jp, _, rfl, by omega, by omega, R4, I4⟩
            case measure => simp [intOf]
          · have hd2 : decide (cmpV (kf x) (kf y) < 0) = false := decide_eq_false (fun h => hlt2 (cmpV_neg.1 h))
            go_wp2_with fail
            refine wp_region_quiet_grown (by assumption) (by kernel_rfl) ?_
            repeat (first | go_big_quiet_step ((exact EC.out _ _)) | quiet_step ((exact EC.out _ _)))
            refine wpQuiet_nil ?_
            intro _ hw'
            obtain ⟨⟨nq, osq⟩, hw''⟩ := hw'
            subst hw''
            have R3 := hide (R2.out.gr (grown_gr wr nq osq))
            have O3 := hide (I2.out.stop haj hji hlt (.inr (by rw [Nat.add_sub_cancel, ← HX.out, ← HY.out]; omega)))
            clear l1 l2 EC hlt2
            go_wp2
            go_roundw
            case rel => exact ⟨i + 1, dj, by go_num, by omega, by omega, R3, O3⟩
            case measure => simp [intOf]; omega
        · obtain rfl : j = a := by omega
          have hjd : decide ((j : Int) > (j : Int)) = false := by simp
          have hjd2 : decide ((j : Int) < (j : Int)) = false := by simp
          have O3 := hide (I2.out.stop haj hji hlt (.inl rfl))
          go_wp2_with fail
          go_quiet (fail)
          have R3 := hide (R2.out.gr ((Gr.refl _).drewN nq))
          go_wp2
          go_roundw
          case rel => exact ⟨i + 1, dj, by go_num, by omega, by omega, R3, O3⟩
          case measure => simp [intOf]; omega
    · have hltz : ¬ (i : Int) < (b : Int) := by omega
      go_wp2
      go_end0
      have := O1.out.fin hlt hab
      exact ⟨rfl, dk, R1.out, this.1, this.2⟩

end Go.Proofs.YtfahlgjolihmkaaDoor
