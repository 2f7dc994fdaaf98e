/- Contracts of climb and at. -/
import Derived.Test.YtdepnhnpklbmiaaB4
import Derived.Deep.LoopGhost
namespace Go.Proofs.Ytdepnhnpklbmiaa
open Go.RowKit Go.Sort

/-- a walker at ⟨b, off⟩ has gone on; nothing else old has turned -/
structure Wkd (b off : Nat) (W W' : World) : Prop where
  os : W'.os = W.os
  tape : W'.tape = W.tape
  output : W'.output = W.output
  size : W.heap.size ≤ W'.heap.size
  block : ∀ j, j < W.heap.size → j ≠ b → W'.heap[j]? = W.heap[j]?
  cell : ∀ o, o ≠ off + 3 → o ≠ off + 4 → W'.cell? ⟨b, o, none⟩ = W.cell? ⟨b, o, none⟩
  frz : ∀ o, W'.frozen? ⟨b, o, none⟩ = W.frozen? ⟨b, o, none⟩
theorem Wkd.of_gr {b off : Nat} {W W' : World} (hb : b < W.heap.size) (h : Gr W W') : Wkd b off W W' :=
  ⟨h.below.os, h.below.tape, h.below.output, h.size, fun _ hj _ => h.block hj, fun o _ _ => h.cell (p := ⟨b, o, none⟩) hb, fun o => h.frozen (p := ⟨b, o, none⟩) hb⟩
theorem Wkd.trans {b off : Nat} {W W' W'' : World} (h : Wkd b off W W') (k : Wkd b off W' W'') : Wkd b off W W'' :=
  ⟨k.os.trans h.os, k.tape.trans h.tape, k.output.trans h.output, Nat.le_trans h.size k.size, fun j hj hb => (k.block j (Nat.lt_of_lt_of_le hj h.size) hb).trans (h.block j hj hb), fun o h3 h4 => (k.cell o h3 h4).trans (h.cell o h3 h4), fun o => (k.frz o).trans (h.frz o)⟩
theorem Wkd.set {b off o : Nat} {W W' : World} (h : Wkd b off W W') (ho : o = off + 3 ∨ o = off + 4) (v : Value) : Wkd b off W (W'.setCell ⟨b, o, none⟩ v) :=
  ⟨h.os, h.tape, h.output, by simpa [World.setCell] using h.size, fun j hj hb => (Below.heap_setCell _ _ _ _ hb).trans (h.block j hj hb),
    fun q h3 h4 => (World.cell?_setCell_other _ _ _ _ (by intro e; simp only [Addr.mk.injEq] at e; omega)).trans (h.cell q h3 h4), fun q => by rw [World.frozen?_setCell]; exact h.frz q⟩
theorem Wkd.below {b off n : Nat} {w W W' : World} (h : Wkd b off W W') (hb : Below n w W) (hn : n ≤ b) (hw : n ≤ W.heap.size) : Below n w W' :=
  ⟨h.os.trans hb.os, h.tape.trans hb.tape, h.output.trans hb.output, Nat.le_trans hb.size h.size, fun j hj => (h.block j (by omega) (by omega)).trans (hb.block j hj)⟩
theorem IntsAt.wkd {b off B n : Nat} {W W' : World} {A : Option Addr} {xs : List Int} (h : IntsAt B W A n xs) (hw : Wkd b off W W') (hA : 0 < n → ∀ ad, A = some ad → ad.block ≠ b) (hB : B ≤ W.heap.size) : IntsAt B W' A n xs := by
  refine ⟨h.1, h.2.imp id fun ⟨b2, off2, h1, h2, h3⟩ => ⟨b2, off2, h1, h2, fun k hk => ?_⟩⟩
  have hne : b2 ≠ b := hA (by omega) _ h1
  exact (World.cell?_of_block (hw.block b2 (by omega) hne)).trans (h3 k hk)
theorem WkAt.stepped {w W1 : World} {b off : Nat} {c : Cu} {A : Option Addr} {n cap : Nat} {x v x' v' : Int} (h : WkAt w b off c A n cap x v) (hg : Gr w W1) :
    WkAt ((W1.setCell ⟨b, off + 4, none⟩ (.int .i64 v')).setCell ⟨b, off + 3, none⟩ (.int .i64 x')) b off c A n cap x' v' ∧ Wkd b off w ((W1.setCell ⟨b, off + 4, none⟩ (.int .i64 v')).setCell ⟨b, off + 3, none⟩ (.int .i64 x')) := by
  have hk := ((Wkd.of_gr (off := off) h.lt hg).set (.inr rfl) (.int .i64 v')).set (.inl rfl) (.int .i64 x')
  have h1 := h.gr hg
  refine ⟨⟨Nat.lt_of_lt_of_le h.lt hk.size, (hk.cell _ (by omega) (by omega)).trans h.c0, (hk.cell _ (by omega) (by omega)).trans h.c1, (hk.cell _ (by omega) (by omega)).trans h.c2, ?_, ?_, (hk.frz _).trans h.f3, (hk.frz _).trans h.f4⟩, hk⟩
  · exact World.cell?_setCell_same _ _ _ ((World.cell?_setCell_other _ _ _ _ (by intro e; simp only [Addr.mk.injEq] at e; omega)).trans h1.c3)
  · exact (World.cell?_setCell_other _ _ _ _ (by intro e; simp only [Addr.mk.injEq] at e; omega)).trans (World.cell?_setCell_same _ _ _ h1.c4)

/-- the value of a curve at its k-th number -/
def valK (c : Cu) : Nat → Int
  | 0 => c.fst
  | k + 1 => valK c k + iA c.sl k
theorem valK_range {c : Cu} (h : okC c = true) : ∀ k, k ≤ c.sl.length → -1099511627776 - 1048576 * k ≤ valK c k ∧ valK c k ≤ 1099511627776 + 1048576 * k
  | 0, _ => by
    have := inB_true (okC_true h).2.1
    unfold valK
    omega
  | k + 1, hk => by
    have ih := valK_range h k (by omega)
    have := inB_true ((okC_true h).2.2.2.2 k (by omega))
    unfold valK
    omega
/-- what the walks ask of a curve -/
theorem okC_fr {c : Cu} (h : okC c = true) : -1048576 ≤ c.fr ∧ c.fr ≤ 1048576 := inB_true (okC_true h).1
theorem okC_sl {c : Cu} (h : okC c = true) {k : Nat} (hk : k < c.sl.length) : -1048576 ≤ iA c.sl k ∧ iA c.sl k ≤ 1048576 := inB_true ((okC_true h).2.2.2.2 k hk)
theorem okC_val {c : Cu} (h : okC c = true) {k : Nat} (hk : k ≤ c.sl.length) : -1125899906842624 ≤ valK c k ∧ valK c k ≤ 1125899906842624 := by
  have := valK_range h k hk
  have := (okC_true h).2.2.1
  omega

/-- a walker on the way of a valid curve: it is at the k-th number -/
structure OnWay (W : World) (b off : Nat) (c : Cu) (A : Option Addr) (n cap k : Nat) : Prop where
  wk : WkAt W b off c A n cap (c.fr + k) (valK c k)
  sl : IntsAt W.heap.size W A n c.sl
  ne : 0 < n → ∀ ad, A = some ad → ad.block ≠ b
  le : k ≤ n
theorem OnWay.gr {W W' : World} {b off : Nat} {c : Cu} {A : Option Addr} {n cap k : Nat} (h : OnWay W b off c A n cap k) (hg : Gr W W') : OnWay W' b off c A n cap k :=
  ⟨h.wk.gr hg, h.sl.gr hg, h.ne, h.le⟩

theorem onway_step {W : World} {b off : Nat} {c : Cu} {A : Option Addr} {n cap k : Nat} (hc : okC c = true) (h : OnWay W b off c A n cap k) (hk : k < n) :
    Calls Try.prog 64 #[.pointer (some ⟨b, off, none⟩)] W fun e w' => e = .returned (.tuple #[]) ∧ OnWay w' b off c A n cap (k + 1) ∧ Wkd b off W w' := by
  have hl := h.sl.1
  have h0 := okC_fr hc
  have hn := (okC_true hc).2.2.1
  refine (step_any b off c A n cap k (valK c k) W h.wk h.sl h0.1 h0.2 (by omega) hk (okC_val hc (by omega)) (okC_sl hc (by omega))).mono ?_
  rintro e w' ⟨rfl, W1, hg, rfl⟩
  obtain ⟨h1, h2⟩ := h.wk.stepped (x' := c.fr + k + 1) (v' := valK c k + iA c.sl k) hg
  refine ⟨rfl, ⟨?_, (h.sl.wkd h2 h.ne (Nat.le_refl _)).mono h2.size, h.ne, by omega⟩, h2⟩
  have e1 : c.fr + ((k + 1 : Nat) : Int) = c.fr + k + 1 := by omega
  rw [e1]
  exact h1

/-- where a climb to p ends -/
def Clim (c : Cu) (p : Int) (n k k' : Nat) : Prop := k ≤ k' ∧ k' ≤ n ∧ (∀ j, k ≤ j → j < k' → iA c.sl j < p) ∧ (k' < n → p ≤ iA c.sl k')

set_option maxHeartbeats 4000000 in
set_option maxRecDepth 100000 in
theorem climb_any (b off : Nat) (c : Cu) (A : Option Addr) (n cap k : Nat) (p : Int) (w : World) (hc : okC c = true) (hw : OnWay w b off c A n cap k) :
    Calls Try.prog 69 #[.pointer (some ⟨b, off, none⟩), .int .i64 p] w fun e w' => e = .returned (.tuple #[]) ∧ ∃ k', Clim c p n k k' ∧ OnWay w' b off c A n cap k' ∧ Wkd b off w w' := by
  have mixed := mixedOrders
  have HW := hide hw
  have HC := hide hc
  have hl := hw.sl.1
  have hk := hw.le
  have h0 := okC_fr hc
  have hn : n ≤ 64 := by have := (okC_true hc).2.2.1; omega
  clear hw hc
  go_enter Try.func69, Try.ntmps69
  go_wp2
  go_loopg [] (n - k) (fun f wr => ∃ j : Nat, k ≤ j ∧ j ≤ n ∧ f = n - j ∧ Hid (∀ i, k ≤ i → i < j → iA c.sl i < p) ∧ Hid (OnWay wr b off c A n cap j) ∧ Hid (Wkd b off w wr))
  case atStart => exact ⟨k, Nat.le_refl _, hk, rfl, hide fun i h1 h2 => by omega, HW, hide (Wkd.of_gr HW.out.wk.lt (Gr.refl w))⟩
  case round =>
    obtain ⟨j, hkj, hjn, rfl, HB, HO, HK⟩ := hrel
    have HT := hide (fun w1 => toOf_any c A n cap w1 h0.1 h0.2 (by omega))
    have HF := hide (fun w1 (hg : Gr wr w1) => after_any b off c A n cap j (valK c j) w1 (HO.out.wk.gr hg) (HO.out.sl.gr hg) h0.1 h0.2 (by omega) hjn)
    obtain ⟨x, hxx⟩ : ∃ x, c.fr + (j : Int) = x := ⟨_, rfl⟩
    obtain ⟨t, ht⟩ : ∃ t, c.fr + (n : Int) = t := ⟨_, rfl⟩
    rw [ht] at HT
    have g0 := HO.out.wk.c0
    have g1 := HO.out.wk.c1
    have g2 := HO.out.wk.c2
    have g3 := HO.out.wk.c3
    rw [hxx] at g3
    have hlt := HO.out.wk.lt
    by_cases hj : j < n
    · have hd : decide (x < t) = true := decide_eq_true (by omega)
      have hA : aftV c j = iA c.sl j := if_neg (by omega)
      rw [hA] at HF
      by_cases hs : iA c.sl j < p
      · have hd2 : decide (iA c.sl j < p) = true := decide_eq_true hs
        have HB2 : Hid (∀ i, k ≤ i → i < j + 1 → iA c.sl i < p) := fun i h1 h2 => by
          rcases Nat.lt_or_ge i j with h | h
          · exact HB.out i h1 h
          · obtain rfl : i = j := by omega
            exact hs
        have HST := hide (fun w1 (hg : Gr wr w1) => onway_step HC.out (HO.out.gr hg) hj)
        clear hs hxx ht hA
        generalize iA c.sl j = s at HF hd2
        go_wp2_with fail
        go_region_held3 (fun w' => w'.cell? ⟨b, off, none⟩ = some (.int .i64 c.fr) ∧ w'.cell? ⟨b, off + 1, none⟩ = some (.int .i64 c.fst) ∧ w'.cell? ⟨b, off + 2, none⟩ = some (.slice A n cap) ∧ w'.cell? ⟨b, off + 3, none⟩ = some (.int .i64 x))
          (first | go_keep | exact ⟨(hG2.cell (p := ⟨b, off, none⟩) hlt).trans g0, (hG2.cell (p := ⟨b, off + 1, none⟩) hlt).trans g1, (hG2.cell (p := ⟨b, off + 2, none⟩) hlt).trans g2, (hG2.cell (p := ⟨b, off + 3, none⟩) hlt).trans g3⟩ | exact ⟨(hG4.cell (p := ⟨b, off, none⟩) hlt).trans g0, (hG4.cell (p := ⟨b, off + 1, none⟩) hlt).trans g1, (hG4.cell (p := ⟨b, off + 2, none⟩) hlt).trans g2, (hG4.cell (p := ⟨b, off + 3, none⟩) hlt).trans g3⟩)
          (first | (go_at_call 50; (with_reducible refine (HT.out _).mono ?_); rintro e w2 ⟨rfl, hG1⟩; have hG2 := ((Gr.refl wr).drew).trans hG1) | (go_at_call 63; (with_reducible refine (HF.out _ hG2).mono ?_); rintro e w4 ⟨rfl, hG3⟩; have hG4 := hG2.trans hG3))
        have HST2 := hide (HST.out w4 hG4)
        have HG4 := hide hG4
        clear hG1 hG2 hG3 hG4 g0 g1 g2 g3
        go_wp2_with fail
        refine HST2.out.mono ?_
        rintro e w5 ⟨rfl, ho, hk5⟩
        have HO5 := hide ho
        have HK5 := hide ((HK.out.trans (Wkd.of_gr hlt HG4.out)).trans hk5)
        clear ho hk5 HST HST2 HT HF
        go_wp2
        go_roundg (n - (j + 1))
        case measure => omega
        case rel => exact ⟨j + 1, by omega, by omega, rfl, HB2, HO5, HK5⟩
      · have hd2 : decide (iA c.sl j < p) = false := decide_eq_false hs
        have HE : Hid (Clim c p n k j) := ⟨hkj, hjn, HB.out, fun _ => by omega⟩
        clear hs hxx ht hA
        generalize iA c.sl j = s at HF hd2
        go_wp2_with fail
        go_region_held3 (fun w' => w'.cell? ⟨b, off, none⟩ = some (.int .i64 c.fr) ∧ w'.cell? ⟨b, off + 1, none⟩ = some (.int .i64 c.fst) ∧ w'.cell? ⟨b, off + 2, none⟩ = some (.slice A n cap) ∧ w'.cell? ⟨b, off + 3, none⟩ = some (.int .i64 x))
          (first | go_keep | exact ⟨(hG2.cell (p := ⟨b, off, none⟩) hlt).trans g0, (hG2.cell (p := ⟨b, off + 1, none⟩) hlt).trans g1, (hG2.cell (p := ⟨b, off + 2, none⟩) hlt).trans g2, (hG2.cell (p := ⟨b, off + 3, none⟩) hlt).trans g3⟩ | exact ⟨(hG4.cell (p := ⟨b, off, none⟩) hlt).trans g0, (hG4.cell (p := ⟨b, off + 1, none⟩) hlt).trans g1, (hG4.cell (p := ⟨b, off + 2, none⟩) hlt).trans g2, (hG4.cell (p := ⟨b, off + 3, none⟩) hlt).trans g3⟩)
          (first | (go_at_call 50; (with_reducible refine (HT.out _).mono ?_); rintro e w2 ⟨rfl, hG1⟩; have hG2 := ((Gr.refl wr).drew).trans hG1) | (go_at_call 63; (with_reducible refine (HF.out _ hG2).mono ?_); rintro e w4 ⟨rfl, hG3⟩; have hG4 := hG2.trans hG3))
        have HG4 := hide hG4
        clear hG1 hG2 hG3 hG4 g0 g1 g2 g3
        go_wp2
        go_end0
        exact ⟨rfl, j, HE.out, HO.out.gr HG4.out, HK.out.trans (Wkd.of_gr hlt HG4.out)⟩
    · have hd : decide (x < t) = false := decide_eq_false (by omega)
      have HE : Hid (Clim c p n k j) := ⟨hkj, hjn, HB.out, fun h => absurd h hj⟩
      have E0 := fun n os => cell_grown (a := ⟨b, off, none⟩) hlt g0 n os
      have E1 := fun n os => cell_grown (a := ⟨b, off + 1, none⟩) hlt g1 n os
      have E2 := fun n os => cell_grown (a := ⟨b, off + 2, none⟩) hlt g2 n os
      have E3 := fun n os => cell_grown (a := ⟨b, off + 3, none⟩) hlt g3 n os
      clear hxx ht HF g0 g1 g2 g3
      go_wp2_with fail
      go_quiet_grown (first | (go_at_call 50; refine Calls.grown_of ((HT.out _).mono fun _ _ h => ⟨h.1, h.2⟩)))
      have HG2 : Hid (Gr wr (grow (wr.drewN nq) osq)) := ⟨nq, osq, rfl⟩
      clear E0 E1 E2 E3
      go_wp2
      go_end0
      exact ⟨rfl, j, HE.out, HO.out.gr HG2.out, HK.out.trans (Wkd.of_gr hlt HG2.out)⟩

end Go.Proofs.Ytdepnhnpklbmiaa
