/- Contracts of inOrder and of its function: the spans with their indexes, by ascending key. -/
import Derived.Test.YtfahlgjolihmkaaDoorZ3
import Derived.Deep.OwnRows
namespace Go.Proofs.YtfahlgjolihmkaaDoor
open Go.RowKit Go.Sort
attribute [local go_sem] Oper.semAt_some

theorem info3' : (Tryd.prog.info? 3).map (fun i => (i.zero, i.size, i.bytes)) = some (some (.int .i64 0), 1, 8) := by kernel_rfl

/-- one more index has been written into the row -/
theorem Row.store {w0 W : World} {blk n : Nat} {d : Nat → Nat} (h : Row w0 W blk n d) {i v : Nat} (hi : i < n) : Row w0 (W.setCell ⟨blk, i, none⟩ (.int .i64 v)) blk n (fun k => if k = i then v else d k) := by
  refine ⟨⟨h.grown.os, h.grown.tape, h.grown.output, by simpa [World.setCell] using h.grown.size, fun k hk hne => ?_⟩, h.lt, fun k hk => ?_, fun k => ?_⟩
  · exact (Below.heap_setCell _ _ _ _ (fun e => hne (by rw [e]))).trans (h.grown.block k hk hne)
  · by_cases e : k = i
    · subst e
      rw [World.cell?_setCell_same _ _ _ (h.cell k hi)]
      simp
    · rw [World.cell?_setCell_other _ _ _ _ (by intro e'; simp only [Addr.mk.injEq] at e'; omega), if_neg e]
      exact h.cell k hk
  · rw [World.frozen?_setCell]
    exact h.free k
theorem Row.congr {w0 W : World} {blk n : Nat} {d e : Nat → Nat} (h : Row w0 W blk n d) (he : ∀ k, k < n → d k = e k) : Row w0 W blk n e :=
  ⟨h.grown, h.lt, fun i hi => by rw [← he i hi]; exact h.cell i hi, h.free⟩
theorem Row.made {W : World} (n : Nat) : Row (W.alloc (.cells (madeCells #[.int .i64 0] n) 3)) (W.alloc (.cells (madeCells #[.int .i64 0] n) 3)) W.heap.size n (fun _ => 0) := by
  refine ⟨⟨rfl, rfl, rfl, Nat.le_refl _, fun _ _ _ => rfl⟩, by simp, fun i hi => ?_, fun i => by simp⟩
  have : (W.alloc (.cells (madeCells #[.int .i64 0] n) 3)).heap[W.heap.size]? = some (.cells (madeCells #[.int .i64 0] n) 3 (0, 0)) := World.alloc_heap_new W _
  rw [cell_of_heap this]
  simp [madeCells, hi, Nat.mod_one]

/-- what the k-th round is handed -/
noncomputable def encO (kf : Int → Int → Int) (xs : List Sp) {n : Nat} (x : Fin n) : Array Value :=
  #[.int .i64 (ordF (keyA kf xs) n x.1 : Nat), .agg #[.int .i64 (loA xs (ordF (keyA kf xs) n x.1)), .int .i64 (hiA xs (ordF (keyA kf xs) n x.1))]]

theorem SpansAt.grown {B : Nat} {w w' : World} {blk : Nat} {A : Option Addr} {n : Nat} {xs : List Sp} (h : SpansAt B w A n xs) (hg : w.grownBy w' (some blk)) (hB : B ≤ blk) (hBw : B ≤ w.heap.size) : SpansAt B w' A n xs := by
  refine ⟨h.1, ?_⟩
  rcases h.2 with h0 | ⟨b, off, e, hlt, hc⟩
  · exact .inl h0
  · have hb : ∀ o, w'.cell? ⟨b, o, none⟩ = w.cell? ⟨b, o, none⟩ := fun o => World.cell?_of_block (hg.block b (by omega) (by intro e; injection e; omega))
    exact .inr ⟨b, off, e, hlt, fun i hi => ⟨(hb _).trans (hc i hi).1, (hb _).trans (hc i hi).2⟩⟩

set_option maxRecDepth 100000 in
set_option maxHeartbeats 4000000 in
theorem inOrder1_in (m : Nat) (hm : 1 ≤ m) (l Bl Bk g : Nat) (bs : List Nat) (A : Option Addr) (n cap : Nat) (xs : List Sp) (kf : Int → Int → Int) (hk : KeyCalls g kf) (hst : StableSaid n) (hn : n ≤ 128) (J Jx : List (Fin n) → World → Prop) (W : World)
    (hJ : Abides W.heap.size bs J)
    (hY : ∀ pre x W1, J pre W1 → pre.length < n → YieldAt Fence.wide (m - 1) Tryd.prog l (encO kf xs x) W1 fun e W' =>
      (e = .returned (.bool true) ∧ J (pre ++ [x]) W' ∧ Kept bs W1 W') ∨ (e = .returned (.bool false) ∧ Jx (pre ++ [x]) W'))
    (hbs : ∀ b, b ∈ bs → b < W.heap.size) (hrow : ∀ g, RowOf bs W g → g < W.heap.size)
    (hBl : W.cell? ⟨Bl, 0, none⟩ = some (.slice A n cap)) (hBl2 : Bl ∉ bs ∧ ¬ RowOf bs W Bl) (hBll : Bl < W.heap.size)
    (hBk : W.cell? ⟨Bk, 0, none⟩ = some (.func (.func g) #[] #[])) (hBkl : Bk < W.heap.size)
    (B : Nat) (hBW : B ≤ W.heap.size) (hx : SpansAt B W A n xs) (hB : ∀ k, k < B → k ∉ bs ∧ ¬ RowOf bs W k) (h0 : J [] W) :
    CallsIn Fence.wide m Tryd.prog 51 #[.func (.yield l) #[] #[], .pointer (some ⟨Bl, 0, none⟩), .pointer (some ⟨Bk, 0, none⟩)] W fun e W' => (∃ v, e = .returned v) ∧
      ((∃ ys, ys = ups n n ∧ J ys W') ∨ (∃ pre, (∃ k, k < n ∧ pre = ups n (k + 1)) ∧ Jx pre W')) := by
  have HX := hide hx
  have HB := hide hB
  have HR := hide hrow
  have HBS := hide hbs
  have HBL := hide hBl
  have hmk := run_make_row' (P := Tryd.prog) 42 3 (.int .i64 0) 8 Tryd.underlying42 info3' rfl .i64 .i64 n (by omega) (by omega)
  have HR0 := hide (Row.made (W := W) n)
  have hG0 := (Gr.refl W).alloc (.cells (madeCells #[.int .i64 0] n) 3)
  have HLA := hide ((hG0.cell (p := ⟨Bl, 0, none⟩) hBll).trans hBl)
  have HKA := hide ((hG0.cell (p := ⟨Bk, 0, none⟩) hBkl).trans hBk)
  have HSA := hide (hx.below (hG0.below.mono hBW))
  obtain ⟨W1, hW1⟩ : ∃ W1, W.alloc (.cells (madeCells #[.int .i64 0] n) 3) = W1 := ⟨_, rfl⟩
  have hsz1 : W1.heap.size = W.heap.size + 1 := by rw [← hW1]; simp
  have HG0 := hide hG0
  rw [hW1] at HR0 HLA HKA HSA HG0
  have HST := hide hst
  have HKEY := hide hk
  have hlX := hx.1
  clear hx hB hrow hbs hst hk hG0 hBk
  refine callsIn_of_wp Tryd.func51 rfl trivial ?_ rfl
  simp only [Tryd.ntmps51, List.size_toArray, List.length_cons, List.length_nil, Nat.reduceAdd, Nat.reduceSub, Array.replicate_succ, Array.replicate_zero, List.push_toArray, List.append_toArray, List.nil_append, List.cons_append]
  gi_wp2
  have HW1 := hide hW1
  clear hW1 hmk hBl
  gi_loopw [13] (fun vi wr => ∃ i : Nat, i ≤ n ∧ vi = .int .i64 i ∧ Hid (Row W1 wr W.heap.size n (fun k => if k < i then k else 0))) (fun vi _ => n - (intOf vi).toNat)
  case atStart => exact ⟨0, Nat.zero_le _, rfl, HR0.out.congr (fun k _ => by simp)⟩
  case round =>
    obtain ⟨i, hi, rfl, R1⟩ := hrel
    by_cases hlt : i < n
    · have hlt' : (i : Int) < (n : Int) := by omega
      have c1 := R1.out.cell i hlt
      have f1 := R1.out.free i
      have R2 : Hid (Row W1 (wr.setCell ⟨W.heap.size, i, none⟩ (.int .i64 i)) W.heap.size n (fun k => if k < i + 1 then k else 0)) := (R1.out.store (v := i) hlt).congr fun k _ => by
        by_cases h1 : k = i
        · subst h1; simp
        · rw [if_neg h1]
          by_cases h2 : k < i
          · rw [if_pos h2, if_pos (by omega)]
          · rw [if_neg h2, if_neg (by omega)]
      gi_wp2
      go_roundw
      case rel => exact ⟨i + 1, by omega, by go_num, R2⟩
      case measure => simp [intOf]; omega
    · obtain rfl : i = n := by omega
      have R2 := hide (R1.out.congr (e := fun k => k) fun k hk => if_pos hk)
      have hCmp : CmpOn W1 W.heap.size i 53 #[.pointer (some ⟨Bk, 0, none⟩), .pointer (some ⟨Bl, 0, none⟩)] (keyA kf xs) := fun V x y hg hx hy => by
        have hc : ∀ b, b < W.heap.size → V.cell? ⟨b, 0, none⟩ = W1.cell? ⟨b, 0, none⟩ := fun b hb => World.cell?_of_block (hg.block b (by omega) (by intro e; injection e; omega))
        exact cmp_any g kf HKEY.out A i cap Bk Bl x y B xs V hx hy (Nat.le_trans hBW (by have := hg.size; omega)) (HSA.out.grown hg hBW (by omega)) ((hc Bk hBkl).trans HKA.out) ((hc Bl hBll).trans HLA.out) (by have := hg.size; omega) (by have := hg.size; omega)
      have HSO := hide (callsIn_wide (n := m - 1).2 (sortStable_any i HST.out 53 _ (keyA kf xs) W1 wr W.heap.size i (enters_of Tryd.func53 (by kernel_rfl) rfl) hCmp R2.out))
      clear hCmp
      gi_wp2_with fail
      refine ⟨trivial, HSO.out.mono ?_⟩
      rintro e w2 ⟨rfl, d', R3, hp, hs⟩
      obtain ⟨ho1, ho2⟩ := ordF_eq (kf := keyA kf xs) (n := i) ⟨hp, hs⟩
      have R4 := R3.congr ho2
      have hbel : Below W.heap.size W w2 := by
        have h1 := HG0.out.below
        exact h1.trans ⟨R3.grown.os, R3.grown.tape, R3.grown.output, R3.grown.size, fun k hk => R3.grown.block k (by omega) (by intro e; injection e; omega)⟩
      have hKW : Kept bs W w2 := Kept.of_below hbel HBS.out
      have hrow2 : ∀ k, k < W.heap.size → ¬ RowOf bs W k → ¬ RowOf bs w2 k := fun k hk h => not_row hKW hk h
      have hblk : W.heap.size ∉ bs ∧ ¬ RowOf bs w2 W.heap.size := ⟨fun h => by have := HBS.out _ h; omega, fun h => by
        have := h.congr (fun b hb => hbel.cell (p := ⟨b, 0, none⟩) (HBS.out b hb))
        have := HR.out _ this
        omega⟩
      have hl2 : w2.cell? ⟨Bl, 0, none⟩ = some (.slice A i cap) := (hbel.cell (p := ⟨Bl, 0, none⟩) hBll).trans HBL.out
      have hx2 := HX.out.below (hbel.mono hBW)
      have hJ2 := hJ _ _ _ h0 (Turn.of_below _ _ hbel)
      have HO := hide ho1
      have H4 := hide R4
      have HRW := hide hrow2
      have HBLK := hide hblk
      have HX2 := hide hx2
      have HL2 := hide hl2
      have HKW := hide hKW
      have HJ2 := hide hJ2
      clear ho1 ho2 hp hs R3 R4 hbel hrow2 hblk hl2 hx2 hKW hJ2 HSO R1 R2 h0 HSA HLA HKA HR0 HG0 HBL HX
      gi_wp2
      gi_loopw [26] (fun vi wr => ∃ k : Nat, k ≤ i ∧ vi = .int .i64 k ∧ Hid (J (ups i k) wr) ∧ Hid (Kept bs w2 wr)) (fun vi _ => i - (intOf vi).toNat)
      case atStart => exact ⟨0, Nat.zero_le _, rfl, (by show J (ups i 0) w2; rw [ups_zero]; exact HJ2.out), Kept.refl _ _⟩
      case round =>
        obtain ⟨k, hk, rfl, J1, K1⟩ := hrel
        by_cases hlt : k < i
        · have hlt' : (k : Int) < (i : Int) := by omega
          have hol := HO.out.lt hlt
          have c1 := K1.out.cell (H4.out.cell k hlt) HBLK.out.1 HBLK.out.2
          have c2 := K1.out.cell HL2.out hBl2.1 (HRW.out _ hBll hBl2.2)
          obtain ⟨fn, tmps, assign, body, hy, hR⟩ := hY _ ⟨k, hlt⟩ _ J1.out (by rw [ups_length hk]; exact hlt)
          dsimp only [encO] at hy
          generalize ordF (keyA kf xs) i k = o at hy hol c1
          have hol' : (o : Int) < (i : Int) := by omega
          obtain ⟨b, off, rfl, hb, g0, g1⟩ := HX2.out.at_ hol
          have e0 := K1.out.cell g0 (HB.out b hb).1 (HRW.out b (by omega) (HB.out b hb).2)
          have e1 := K1.out.cell g1 (HB.out b hb).1 (HRW.out b (by omega) (HB.out b hb).2)
          have HRR := hide hR
          clear hR g0 g1
          gi_wp2
          refine HRR.out.mono ?_
          rintro e W3 (⟨rfl, hJ3, hk3⟩ | ⟨rfl, hJx3⟩)
          · have J3 : Hid (J (ups i (k + 1)) W3) := by show J (ups i (k + 1)) W3; rw [ups_succ hlt]; exact hJ3
            have K3 := hide (K1.out.trans hk3)
            clear hJ3 hk3
            gi_wp2
            go_roundw
            case rel => exact ⟨k + 1, by omega, by go_num, J3, K3⟩
            case measure => simp [intOf]; omega
          · gi_wp2
            refine bodyPost_ret (results_none rfl _ _ _) rfl ?_
            exact ⟨⟨_, rfl⟩, .inr ⟨_, ⟨k, hlt, (ups_succ hlt).symm⟩, hJx3⟩⟩
        · obtain rfl : k = i := by omega
          gi_wp2
          go_end0
          exact ⟨⟨_, rfl⟩, .inl ⟨_, rfl, J1.out⟩⟩

theorem inOrder_any (g : Nat) (A : Option Addr) (n cap : Nat) (w : World) :
    Calls Tryd.prog 36 #[.slice A n cap, .func (.func g) #[] #[]] w fun e w' => e = .returned (.func (.func 51) #[] #[.pointer (some ⟨w.heap.size, 0, none⟩), .pointer (some ⟨w.heap.size + 1, 0, none⟩)]) ∧
      (w.alloc (.cells #[.slice A n cap] 22)).alloc (.cells #[.func (.func g) #[] #[]] 64) = w' := by
  go_enter Tryd.func36, Tryd.ntmps36
  go_wp2
  go_ret
  exact ⟨rfl, rfl⟩

theorem inOrder_seq (m : Nat) (hm : 1 ≤ m) (Bl Bk g : Nat) (bs : List Nat) (A : Option Addr) (n cap : Nat) (xs : List Sp) (kf : Int → Int → Int) (hk : KeyCalls g kf) (hst : StableSaid n) (hn : n ≤ 128) (w : World)
    (hbs : ∀ b, b ∈ bs → b < w.heap.size) (hrow : ∀ g, RowOf bs w g → g < w.heap.size)
    (hBl : w.cell? ⟨Bl, 0, none⟩ = some (.slice A n cap)) (hBl2 : Bl ∉ bs ∧ ¬ RowOf bs w Bl) (hBll : Bl < w.heap.size)
    (hBk : w.cell? ⟨Bk, 0, none⟩ = some (.func (.func g) #[] #[])) (hBkl : Bk < w.heap.size)
    (B : Nat) (hBW : B ≤ w.heap.size) (hx : SpansAt B w A n xs) (hB : ∀ k, k < B → k ∉ bs ∧ ¬ RowOf bs w k) :
    SeqX m 51 #[.pointer (some ⟨Bl, 0, none⟩), .pointer (some ⟨Bk, 0, none⟩)] (encO kf xs) bs (fun ys => ys = ups n n) (fun pre => ∃ k, k < n ∧ pre = ups n (k + 1)) n w := fun l J Jx W hW hJ _ hY h0 => by
  have hbox : ∀ b, b ∈ bs → W.cell? ⟨b, 0, none⟩ = w.cell? ⟨b, 0, none⟩ := fun b hb => hW.cell (p := ⟨b, 0, none⟩) (hbs b hb)
  have hr : ∀ {g}, RowOf bs W g → RowOf bs w g := fun h => h.congr hbox
  exact inOrder1_in m hm l Bl Bk g bs A n cap xs kf hk hst hn J Jx W hJ hY (fun b hb => Nat.lt_of_lt_of_le (hbs b hb) hW.size) (fun g hg => Nat.lt_of_lt_of_le (hrow g (hr hg)) hW.size)
    ((hW.cell (p := ⟨Bl, 0, none⟩) hBll).trans hBl) ⟨hBl2.1, fun h => hBl2.2 (hr h)⟩ (Nat.lt_of_lt_of_le hBll hW.size)
    ((hW.cell (p := ⟨Bk, 0, none⟩) hBkl).trans hBk) (Nat.lt_of_lt_of_le hBkl hW.size) B (Nat.le_trans hBW hW.size) (hx.below (hW.mono hBW)) (fun k hk => ⟨(hB k hk).1, fun h => (hB k hk).2 (hr h)⟩) h0

end Go.Proofs.YtfahlgjolihmkaaDoor
