/- A row of walkers in memory; the sum of their values. -/
import Derived.Test.YtdepnhnpklbmiaaB9
import Derived.Laws.OwnMore
namespace Go.Proofs.Ytdepnhnpklbmiaa
open Go.RowKit Go.Sort

/-- a struct of five cells stored at an offset -/
def setW (W : World) (g o : Nat) (a b c d e : Value) : World := ((((W.setCell ⟨g, o, none⟩ a).setCell ⟨g, o + 1, none⟩ b).setCell ⟨g, o + 2, none⟩ c).setCell ⟨g, o + 3, none⟩ d).setCell ⟨g, o + 4, none⟩ e
theorem setW_cells {W : World} {g o : Nat} {p q r s u : Value} (h0 : W.cell? ⟨g, o, none⟩ = some p) (h1 : W.cell? ⟨g, o + 1, none⟩ = some q) (h2 : W.cell? ⟨g, o + 2, none⟩ = some r) (h3 : W.cell? ⟨g, o + 3, none⟩ = some s) (h4 : W.cell? ⟨g, o + 4, none⟩ = some u) (a b c d e : Value) :
    (setW W g o a b c d e).cell? ⟨g, o, none⟩ = some a ∧ (setW W g o a b c d e).cell? ⟨g, o + 1, none⟩ = some b ∧ (setW W g o a b c d e).cell? ⟨g, o + 2, none⟩ = some c ∧ (setW W g o a b c d e).cell? ⟨g, o + 3, none⟩ = some d ∧ (setW W g o a b c d e).cell? ⟨g, o + 4, none⟩ = some e := by
  unfold setW
  have ne : ∀ x y : Nat, x ≠ y → (⟨g, x, none⟩ : Addr) ≠ ⟨g, y, none⟩ := fun x y h e => by simp only [Addr.mk.injEq] at e; omega
  refine ⟨?_, ?_, ?_, ?_, ?_⟩
  · rw [World.cell?_setCell_other _ _ _ _ (by first | exact ne _ _ (by omega) | exact (ne _ _ (by omega)).symm), World.cell?_setCell_other _ _ _ _ (by first | exact ne _ _ (by omega)), World.cell?_setCell_other _ _ _ _ (by first | exact ne _ _ (by omega)), World.cell?_setCell_other _ _ _ _ (by first | exact ne _ _ (by omega))]
    exact World.cell?_setCell_same _ _ _ h0
  · rw [World.cell?_setCell_other _ _ _ _ (by first | exact ne _ _ (by omega)), World.cell?_setCell_other _ _ _ _ (by first | exact ne _ _ (by omega)), World.cell?_setCell_other _ _ _ _ (by first | exact ne _ _ (by omega))]
    exact World.cell?_setCell_same _ _ _ ((World.cell?_setCell_other _ _ _ _ (ne _ _ (by omega))).trans h1)
  · rw [World.cell?_setCell_other _ _ _ _ (by first | exact ne _ _ (by omega)), World.cell?_setCell_other _ _ _ _ (by first | exact ne _ _ (by omega))]
    exact World.cell?_setCell_same _ _ _ ((World.cell?_setCell_other _ _ _ _ (ne _ _ (by omega))).trans ((World.cell?_setCell_other _ _ _ _ (ne _ _ (by omega))).trans h2))
  · rw [World.cell?_setCell_other _ _ _ _ (by first | exact ne _ _ (by omega))]
    exact World.cell?_setCell_same _ _ _ ((World.cell?_setCell_other _ _ _ _ (ne _ _ (by omega))).trans ((World.cell?_setCell_other _ _ _ _ (ne _ _ (by omega))).trans ((World.cell?_setCell_other _ _ _ _ (ne _ _ (by omega))).trans h3)))
  · exact World.cell?_setCell_same _ _ _ ((World.cell?_setCell_other _ _ _ _ (ne _ _ (by omega))).trans ((World.cell?_setCell_other _ _ _ _ (ne _ _ (by omega))).trans ((World.cell?_setCell_other _ _ _ _ (ne _ _ (by omega))).trans ((World.cell?_setCell_other _ _ _ _ (ne _ _ (by omega))).trans h4))))
theorem setW_other {W : World} {g o : Nat} {x : Addr} (h : x.block ≠ g ∨ x.off < o ∨ o + 4 < x.off) (a b c d e : Value) : (setW W g o a b c d e).cell? x = W.cell? x := by
  unfold setW
  have ne : ∀ y : Nat, o ≤ y → y ≤ o + 4 → (⟨g, y, none⟩ : Addr) ≠ x := fun y h1 h2 e => by subst e; simp at h; omega
  rw [World.cell?_setCell_other _ _ _ _ (ne _ (by omega) (by omega)), World.cell?_setCell_other _ _ _ _ (ne _ (by omega) (by omega)), World.cell?_setCell_other _ _ _ _ (ne _ (by omega) (by omega)), World.cell?_setCell_other _ _ _ _ (ne _ (by omega) (by omega)), World.cell?_setCell_other _ _ _ _ (ne _ (by omega) (by omega))]
theorem setW_frozen (W : World) (g o : Nat) (a b c d e : Value) (x : Addr) : (setW W g o a b c d e).frozen? x = W.frozen? x := by
  unfold setW
  rw [World.frozen?_setCell, World.frozen?_setCell, World.frozen?_setCell, World.frozen?_setCell, World.frozen?_setCell]
theorem setW_size (W : World) (g o : Nat) (a b c d e : Value) : (setW W g o a b c d e).heap.size = W.heap.size := by simp [setW, World.setCell]
theorem setW_block {W : World} {g o j : Nat} (h : j ≠ g) (a b c d e : Value) : (setW W g o a b c d e).heap[j]? = W.heap[j]? := by
  unfold setW
  rw [Below.heap_setCell _ _ _ _ h, Below.heap_setCell _ _ _ _ h, Below.heap_setCell _ _ _ _ h, Below.heap_setCell _ _ _ _ h, Below.heap_setCell _ _ _ _ h]
theorem setW_below {n : Nat} {w W : World} {g o : Nat} (h : Below n w W) (hg : n ≤ g) (a b c d e : Value) : Below n w (setW W g o a b c d e) :=
  ((((h.setCell (p := ⟨g, o, none⟩) hg a).setCell (p := ⟨g, o + 1, none⟩) hg b).setCell (p := ⟨g, o + 2, none⟩) hg c).setCell (p := ⟨g, o + 3, none⟩) hg d).setCell (p := ⟨g, o + 4, none⟩) hg e

theorem ints_setW {W : World} {g n : Nat} {A : Option Addr} {xs : List Int} (h : IntsAt W.heap.size W A n xs) (hA : 0 < n → ∀ ad, A = some ad → ad.block ≠ g) (o : Nat) (a b c d e : Value) : IntsAt (setW W g o a b c d e).heap.size (setW W g o a b c d e) A n xs := by
  rw [setW_size]
  refine ⟨h.1, ?_⟩
  rcases h.2 with h0 | ⟨b2, off2, h1, h2, h3⟩
  · exact .inl h0
  · refine .inr ⟨b2, off2, h1, h2, fun q hq => ?_⟩
    have hne : b2 ≠ g := hA (by omega) _ h1
    rw [setW_other (.inl hne)]
    exact h3 q hq
/-- room for n walkers in block g -/
structure RoomW (W : World) (g n : Nat) : Prop where
  lt : g < W.heap.size
  cells : ∀ o, o < n * 5 → (∃ v, W.cell? ⟨g, o, none⟩ = some v) ∧ W.frozen? ⟨g, o, none⟩ = false
theorem RoomW.below {W W' : World} {g n : Nat} (h : RoomW W g n) (hb : Below W.heap.size W W') : RoomW W' g n :=
  ⟨Nat.lt_of_lt_of_le h.lt hb.size, fun o ho => by
    obtain ⟨⟨v, h1⟩, h2⟩ := h.cells o ho
    refine ⟨⟨v, (hb.cell (p := ⟨g, o, none⟩) h.lt).trans h1⟩, ?_⟩
    rw [World.frozen?_of_block (hb.block g h.lt)]
    exact h2⟩
theorem RoomW.setW {W : World} {g n i : Nat} (h : RoomW W g n) (hi : i < n) (a b c d e : Value) : RoomW (setW W g (i * 5) a b c d e) g n := by
  refine ⟨by rw [setW_size]; exact h.lt, fun o ho => ⟨?_, by rw [setW_frozen]; exact (h.cells o ho).2⟩⟩
  by_cases ho2 : o < i * 5 ∨ i * 5 + 4 < o
  · rw [setW_other (.inr ho2)]
    exact (h.cells o ho).1
  · obtain ⟨_, h0⟩ := (h.cells (i * 5) (by omega)).1
    obtain ⟨_, h1⟩ := (h.cells (i * 5 + 1) (by omega)).1
    obtain ⟨_, h2⟩ := (h.cells (i * 5 + 2) (by omega)).1
    obtain ⟨_, h3⟩ := (h.cells (i * 5 + 3) (by omega)).1
    obtain ⟨_, h4⟩ := (h.cells (i * 5 + 4) (by omega)).1
    obtain ⟨k0, k1, k2, k3, k4⟩ := setW_cells h0 h1 h2 h3 h4 a b c d e
    rcases (show o = i * 5 ∨ o = i * 5 + 1 ∨ o = i * 5 + 2 ∨ o = i * 5 + 3 ∨ o = i * 5 + 4 by omega) with rfl | rfl | rfl | rfl | rfl
    · exact ⟨_, k0⟩
    · exact ⟨_, k1⟩
    · exact ⟨_, k2⟩
    · exact ⟨_, k3⟩
    · exact ⟨_, k4⟩
theorem RoomW.wkd {W W' : World} {g n i : Nat} (h : RoomW W g n) (hk : Wkd g (i * 5) W W') {c : Cu} {A : Option Addr} {m cap k : Nat} (ho : OnWay W' g (i * 5) c A m cap k) : RoomW W' g n :=
  ⟨Nat.lt_of_lt_of_le h.lt hk.size, fun o ho' => by
    refine ⟨?_, (hk.frz o).trans (h.cells o ho').2⟩
    by_cases h3 : o = i * 5 + 3
    · subst h3
      exact ⟨_, ho.wk.c3⟩
    · by_cases h4 : o = i * 5 + 4
      · subst h4
        exact ⟨_, ho.wk.c4⟩
      · rw [hk.cell o h3 h4]
        exact (h.cells o ho').1⟩
theorem OnWay.other {W W' : World} {g i j : Nat} {c : Cu} {A : Option Addr} {n cap k : Nat} (h : OnWay W g (j * 5) c A n cap k) (hk : Wkd g (i * 5) W W') (hij : j ≠ i) : OnWay W' g (j * 5) c A n cap k :=
  ⟨⟨Nat.lt_of_lt_of_le h.wk.lt hk.size, (hk.cell _ (by omega) (by omega)).trans h.wk.c0, (hk.cell _ (by omega) (by omega)).trans h.wk.c1, (hk.cell _ (by omega) (by omega)).trans h.wk.c2, (hk.cell _ (by omega) (by omega)).trans h.wk.c3, (hk.cell _ (by omega) (by omega)).trans h.wk.c4, (hk.frz _).trans h.wk.f3, (hk.frz _).trans h.wk.f4⟩,
    (h.sl.wkd hk h.ne (Nat.le_refl _)).mono hk.size, h.ne, h.le⟩
theorem OnWay.below {W W' : World} {b off : Nat} {c : Cu} {A : Option Addr} {n cap k : Nat} (h : OnWay W b off c A n cap k) (hb : Below W.heap.size W W') : OnWay W' b off c A n cap k :=
  ⟨⟨Nat.lt_of_lt_of_le h.wk.lt hb.size, (hb.cell (p := ⟨b, off, none⟩) h.wk.lt).trans h.wk.c0, (hb.cell (p := ⟨b, off + 1, none⟩) h.wk.lt).trans h.wk.c1, (hb.cell (p := ⟨b, off + 2, none⟩) h.wk.lt).trans h.wk.c2, (hb.cell (p := ⟨b, off + 3, none⟩) h.wk.lt).trans h.wk.c3, (hb.cell (p := ⟨b, off + 4, none⟩) h.wk.lt).trans h.wk.c4,
    (World.frozen?_of_block (hb.block b h.wk.lt)).trans h.wk.f3, (World.frozen?_of_block (hb.block b h.wk.lt)).trans h.wk.f4⟩, h.sl.now hb (Nat.le_refl _), h.ne, h.le⟩
theorem OnWay.setW {W : World} {g i j : Nat} {c : Cu} {A : Option Addr} {n cap k : Nat} (h : OnWay W g (j * 5) c A n cap k) (hij : j ≠ i) (a b d e f : Value) : OnWay (setW W g (i * 5) a b d e f) g (j * 5) c A n cap k := by
  refine ⟨⟨by rw [setW_size]; exact h.wk.lt, (setW_other (.inr (by show j * 5 < i * 5 ∨ _ < j * 5; omega)) _ _ _ _ _).trans h.wk.c0, (setW_other (.inr (by show j * 5 + 1 < i * 5 ∨ _ < j * 5 + 1; omega)) _ _ _ _ _).trans h.wk.c1, (setW_other (.inr (by show j * 5 + 2 < i * 5 ∨ _ < j * 5 + 2; omega)) _ _ _ _ _).trans h.wk.c2,
    (setW_other (.inr (by show j * 5 + 3 < i * 5 ∨ _ < j * 5 + 3; omega)) _ _ _ _ _).trans h.wk.c3, (setW_other (.inr (by show j * 5 + 4 < i * 5 ∨ _ < j * 5 + 4; omega)) _ _ _ _ _).trans h.wk.c4, by rw [setW_frozen]; exact h.wk.f3, by rw [setW_frozen]; exact h.wk.f4⟩, ints_setW h.sl h.ne _ _ _ _ _ _, h.ne, h.le⟩
/-- a walker newly laid -/
theorem onway_new {W : World} {g n i : Nat} (h : RoomW W g n) (hi : i < n) {c : Cu} {A : Option Addr} {m cap k : Nat} (hs : CuAt W.heap.size W c A m cap) (hA : 0 < m → ∀ ad, A = some ad → ad.block ≠ g) (hk : k ≤ m) :
    OnWay (setW W g (i * 5) (.int .i64 c.fr) (.int .i64 c.fst) (.slice A m cap) (.int .i64 (c.fr + k)) (.int .i64 (valK c k))) g (i * 5) c A m cap k := by
  obtain ⟨_, h0⟩ := (h.cells (i * 5) (by omega)).1
  obtain ⟨_, h1⟩ := (h.cells (i * 5 + 1) (by omega)).1
  obtain ⟨_, h2⟩ := (h.cells (i * 5 + 2) (by omega)).1
  obtain ⟨_, h3⟩ := (h.cells (i * 5 + 3) (by omega)).1
  obtain ⟨_, h4⟩ := (h.cells (i * 5 + 4) (by omega)).1
  obtain ⟨k0, k1, k2, k3, k4⟩ := setW_cells h0 h1 h2 h3 h4 (.int .i64 c.fr) (.int .i64 c.fst) (.slice A m cap) (.int .i64 (c.fr + k)) (.int .i64 (valK c k))
  refine ⟨⟨by rw [setW_size]; exact h.lt, k0, k1, k2, k3, k4, by rw [setW_frozen]; exact (h.cells (i * 5 + 3) (by omega)).2, by rw [setW_frozen]; exact (h.cells (i * 5 + 4) (by omega)).2⟩, ?_, hA, hk⟩
  exact ints_setW hs.sl hA _ _ _ _ _ _

set_option maxHeartbeats 400000 in
theorem value_any (c : Cu) (A : Option Addr) (n cap : Nat) (x v : Int) (w : World) :
    Calls Try.prog 75 #[.agg #[.int .i64 c.fr, .int .i64 c.fst, .slice A n cap, .int .i64 x, .int .i64 v]] w fun e w' => e = .returned (.int .i64 v) ∧ Gr w w' := by
  generalize c.fr = f
  generalize c.fst = g
  go_enter Try.func75, Try.ntmps75
  go_wp2
  go_ret
  exact ⟨rfl, (Gr.refl _).alloc _⟩
theorem enters75 : ∀ args w, (callFunc 75 args).run Try.prog w = .ok (.enter 75 args) w := enters_of Try.func75 (by kernel_rfl) rfl

set_option maxHeartbeats 4000000 in
set_option maxRecDepth 100000 in
theorem common74_any (g n : Nat) (cs : Nat → Cu) (ss : Nat → Option Addr × Nat × Nat) (ks : Nat → Nat) (w : World) (hx : ∀ i, i < n → OnWay w g (i * 5) (cs i) (ss i).1 (ss i).2.1 (ss i).2.2 (ks i)) (hn : n ≤ 8) (h0 : 0 < n)
    (hf : ∀ i, i < n → -1125899906842624 ≤ valK (cs i) (ks i) ∧ valK (cs i) (ks i) ≤ 1125899906842624) :
    Calls Try.prog 74 #[.slice (some ⟨g, 0, none⟩) n n, .func (.func 75) #[] #[], .func (.func 73) #[] #[]] w fun e w' => e = .returned (.int .i64 (sumTo (fun i => valK (cs i) (ks i)) n)) ∧ Gr w w' := by
  have mixed := mixedOrders
  have HX := hide hx
  have e75 := enters75
  have e73 := enters73
  have HF := hide hf
  have hlt := (hx 0 h0).wk.lt
  have c0 := (hx 0 h0).wk.c0
  have c1 := (hx 0 h0).wk.c1
  have c2 := (hx 0 h0).wk.c2
  have c3 := (hx 0 h0).wk.c3
  have c4 := (hx 0 h0).wk.c4
  have HC0 := hide (value_any (cs 0) (ss 0).1 (ss 0).2.1 (ss 0).2.2 ((cs 0).fr + ks 0) (valK (cs 0) (ks 0)) w)
  simp only [Nat.zero_mul, Nat.zero_add] at c0 c1 c2 c3 c4
  have HS0 : Hid (sumTo (fun i => valK (cs i) (ks i)) 1 = valK (cs 0) (ks 0)) := by show _ = _; simp [sumTo]
  have h0' : (0 : Int) < (n : Int) := by omega
  have h1' : (1 : Int) ≤ (n : Int) := by omega
  have hw1 : IntKind.i64.wrap ((n : Int) - 1) = ((n - 1 : Nat) : Int) := by rw [IntKind.wrap_i64]; omega
  have HSS : Hid (∀ k, sumTo (fun i => valK (cs i) (ks i)) (k + 1) = sumTo (fun i => valK (cs i) (ks i)) k + valK (cs k) (ks k)) := fun k => rfl
  have HRG : Hid (∀ k, k ≤ n → -9007199254740992 ≤ sumTo (fun i => valK (cs i) (ks i)) k ∧ sumTo (fun i => valK (cs i) (ks i)) k ≤ 9007199254740992) := fun k hk => by
    have := sumTo_range (f := fun i => valK (cs i) (ks i)) (M := 1125899906842624) k (fun i hi => HF.out i (by omega))
    omega
  generalize sumTo (fun i => valK (cs i) (ks i)) = sm at HS0 HSS HRG ⊢
  rw [← HS0.out] at HC0 c4
  clear hx hf
  generalize (cs 0).fr + (ks 0 : Int) = x00 at c3 HC0
  by_cases hc1 : n = 1
  · subst hc1
    clear hw1
    generalize sm 1 = s1 at *
    generalize cs 0 = c at c0 c1 HC0
    generalize ss 0 = s at c2 HC0
    go_enter Try.func74, Try.ntmps74
    go_wp2_with fail
    refine HC0.out.mono ?_
    rintro e w2 ⟨rfl, hG⟩
    have HG2 := hide hG
    clear hG c0 c1 c2 c3 c4 HC0
    go_wp2_with fail
    go_loopw [7, 18] (fun v i wr => v = .int .i64 s1 ∧ i = .int .i64 0 ∧ Hid (Gr w wr)) (fun _ _ _ => 0)
    case atStart => exact ⟨rfl, rfl, HG2⟩
    case round =>
      obtain ⟨rfl, rfl, HGr⟩ := hrel
      go_wp2
      go_ret
      exact ⟨rfl, HGr.out⟩
  · have hne : (n - 1 = 0) = False := by simp; omega
    generalize cs 0 = c at c0 c1 HC0
    generalize ss 0 = s at c2 HC0
    go_enter Try.func74, Try.ntmps74
    go_wp2_with fail
    refine HC0.out.mono ?_
    rintro e w2 ⟨rfl, hG⟩
    have HG2 := hide hG
    clear hG c0 c1 c2 c3 c4 HC0
    go_wp2_with fail
    go_loopw [7, 18] (fun v i wr => ∃ j : Nat, j ≤ n - 1 ∧ v = .int .i64 (sm (j + 1)) ∧ i = .int .i64 j ∧ Hid (Gr w wr)) (fun _ i _ => n - 1 - (intOf i).toNat)
    case atStart => exact ⟨0, Nat.zero_le _, rfl, rfl, HG2⟩
    case round =>
      obtain ⟨j, hj, rfl, rfl, HGr⟩ := hrel
      by_cases hjn : j < n - 1
      · have hjn' : (j : Int) < ((n - 1 : Nat) : Int) := by omega
        have hj1 : j + 1 < n := by omega
        have hw := HX.out (j + 1) hj1
        have ea : (j + 1) * 5 = 5 + j * 5 := by omega
        rw [ea] at hw
        have x0 := (HGr.out.cell (p := ⟨g, 5 + j * 5, none⟩) hlt).trans hw.wk.c0
        have x1 := (HGr.out.cell (p := ⟨g, 5 + j * 5 + 1, none⟩) hlt).trans hw.wk.c1
        have x2 := (HGr.out.cell (p := ⟨g, 5 + j * 5 + 2, none⟩) hlt).trans hw.wk.c2
        have x3 := (HGr.out.cell (p := ⟨g, 5 + j * 5 + 3, none⟩) hlt).trans hw.wk.c3
        have x4 := (HGr.out.cell (p := ⟨g, 5 + j * 5 + 4, none⟩) hlt).trans hw.wk.c4
        have HSJ := hide (HSS.out (j + 1))
        have hr1 := HRG.out (j + 1) (by omega)
        have hf1 := HF.out (j + 1) hj1
        have HPL := hide (fun w1 => plus_any (sm (j + 1)) (valK (cs (j + 1)) (ks (j + 1))) w1 (by omega) (by omega))
        clear hw hr1 hf1
        rw [← HSJ.out] at HPL
        generalize valK (cs (j + 1)) (ks (j + 1)) = fv at x4 HPL
        generalize ((cs (j + 1)).fr + ((ks (j + 1) : Nat) : Int)) = xv at x3
        have HCJ := hide (fun w1 => value_any (cs (j + 1)) (ss (j + 1)).1 (ss (j + 1)).2.1 (ss (j + 1)).2.2 xv fv w1)
        generalize cs (j + 1) = c at x0 x1 HCJ
        generalize ss (j + 1) = s at x2 HCJ
        go_wp2_with fail
        refine (HCJ.out _).mono ?_
        rintro e w3 ⟨rfl, hG3⟩
        have HG3 : Hid (Gr w w3) := (HGr.out.alloc _).trans hG3
        clear hG3
        go_wp2_with fail
        refine (HPL.out _).mono ?_
        rintro e w4 ⟨rfl, rfl⟩
        go_wp2
        go_roundw
        case rel => exact ⟨j + 1, by omega, rfl, by go_num, HG3⟩
        case measure => simp [intOf]; omega
      · obtain rfl : j = n - 1 := by omega
        have hnn : n - 1 + 1 = n := by omega
        go_wp2
        go_ret
        exact ⟨ret_int (by rw [hnn]), HGr.out⟩

end Go.Proofs.Ytdepnhnpklbmiaa
