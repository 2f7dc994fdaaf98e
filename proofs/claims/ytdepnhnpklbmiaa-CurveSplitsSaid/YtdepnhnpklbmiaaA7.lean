/- Contracts of common at any operation on two numbers, and of domain. -/
import Derived.Test.YtdepnhnpklbmiaaB21
import Derived.Deep.AppendLies
import Derived.Deep.RegionHeld3
import Derived.Deep.DeepCutAuto
namespace Go.Proofs.Ytdepnhnpklbmiaa
open Go.RowKit Go.Sort

/-- a function of two numbers -/
def OpOf (tg : Nat) (op : Int → Int → Int) : Prop := (∀ args w, (callFunc tg args).run Try.prog w = .ok (.enter tg args) w) ∧ ∀ (x y : Int) (w : World), Calls Try.prog tg #[.int .i64 x, .int .i64 y] w fun e w' => e = .returned (.int .i64 (op x y)) ∧ w' = w
set_option maxHeartbeats 400000 in
theorem max_any (x y : Int) (w : World) : Calls Try.prog 80 #[.int .i64 x, .int .i64 y] w fun e w' => e = .returned (.int .i64 (max x y)) ∧ w' = w := by
  go_enter Try.func80, Try.ntmps80
  go_wp2
  go_ret
  exact ⟨rfl, rfl⟩
set_option maxHeartbeats 400000 in
theorem min_any (x y : Int) (w : World) : Calls Try.prog 81 #[.int .i64 x, .int .i64 y] w fun e w' => e = .returned (.int .i64 (min x y)) ∧ w' = w := by
  go_enter Try.func81, Try.ntmps81
  go_wp2
  go_ret
  exact ⟨rfl, rfl⟩
theorem op80 : OpOf 80 (fun x y => max x y) := ⟨enters_of Try.func80 (by kernel_rfl) rfl, max_any⟩
theorem op81 : OpOf 81 (fun x y => min x y) := ⟨enters_of Try.func81 (by kernel_rfl) rfl, min_any⟩
/-- what the first k come to -/
def accTo (op : Int → Int → Int) (f : Nat → Int) : Nat → Int
  | 0 => 0
  | 1 => f 0
  | k + 1 + 1 => op (accTo op f (k + 1)) (f (k + 1))

set_option maxHeartbeats 4000000 in
set_option maxRecDepth 100000 in
theorem common72_of (tg : Nat) (op : Int → Int → Int) (ht : OpOf tg op) (g : Nat) (f : Cu → Nat → Int) (hg : NumOf g f) (A : Option Addr) (n cap : Nat) (cs : Nat → Cu) (ss : Nat → Option Addr × Nat × Nat) (w : World) (hx : CurvesAt w.heap.size w A n cs ss) (hn : n ≤ 8) (h0 : 0 < n) (hcap : n ≤ cap)
    (hok : ∀ i, i < n → okC (cs i) = true) :
    Calls Try.prog 72 #[.slice A n cap, .func (.func g) #[] #[], .func (.func tg) #[] #[]] w fun e w' => e = .returned (.int .i64 (accTo op (fun i => f (cs i) (ss i).2.1) n)) ∧ Gr w w' := by
  have mixed := mixedOrders
  have HX := hide hx
  have HG := hide hg.2
  have eg := hg.1
  have et := ht.1
  have HTT := hide ht.2
  have HOK := hide hok
  obtain ⟨b, off, rfl, hb, c0, c1, c2⟩ := hx.at_ h0
  have hsl0 := (hx.cu 0 h0).sl.1
  have HH0 := okC_fr (hok 0 h0)
  have hl0 := (okC_true (hok 0 h0)).2.2.1
  have HC0 := hide (HG.out (cs 0) (ss 0).1 (ss 0).2.1 (ss 0).2.2 w HH0.1 HH0.2 (by omega))
  simp only [Nat.zero_mul, Nat.add_zero] at c0 c1 c2
  have HS0 : Hid (accTo op (fun i => f (cs i) (ss i).2.1) 1 = f (cs 0) (ss 0).2.1) := rfl
  have h0' : (0 : Int) < (n : Int) := by omega
  have h1' : (1 : Int) ≤ (n : Int) := by omega
  have hw1 : IntKind.i64.wrap ((n : Int) - 1) = ((n - 1 : Nat) : Int) := by rw [IntKind.wrap_i64]; omega
  clear hx hg hok ht
  by_cases hc1 : cap = 1
  · obtain rfl : n = 1 := by omega
    rw [HS0.out]
    subst hc1
    clear hw1
    generalize cs 0 = c at c0 c1 c2 HC0 HS0 ⊢
    generalize ss 0 = s at c2 HC0 HS0 ⊢
    go_enter Try.func72, Try.ntmps72
    go_wp2_with fail
    refine HC0.out.mono ?_
    rintro e w2 ⟨rfl, hG⟩
    have HG2 := hide hG
    clear hG c0 c1 c2 HC0
    go_wp2_with fail
    go_loopw [7, 18] (fun v i wr => v = .int .i64 (f c s.2.1) ∧ i = .int .i64 0 ∧ Hid (Gr w wr)) (fun _ _ _ => 0)
    case atStart => exact ⟨rfl, rfl, HG2⟩
    case round =>
      obtain ⟨rfl, rfl, HGr⟩ := hrel
      go_wp2
      go_ret
      exact ⟨rfl, HGr.out⟩
  · have hne : (cap - 1 = 0) = False := by simp; omega
    have HSS : Hid (∀ k, accTo op (fun i => f (cs i) (ss i).2.1) (k + 1 + 1) = op (accTo op (fun i => f (cs i) (ss i).2.1) (k + 1)) (f (cs (k + 1)) (ss (k + 1)).2.1)) := fun k => rfl
    generalize accTo op (fun i => f (cs i) (ss i).2.1) = sm at HS0 HSS ⊢
    rw [← HS0.out] at HC0
    go_enter Try.func72, Try.ntmps72
    go_wp2_with fail
    refine HC0.out.mono ?_
    rintro e w2 ⟨rfl, hG⟩
    have HG2 := hide hG
    clear hG c0 c1 c2 HC0
    go_wp2_with fail
    go_loopw [7, 18] (fun v i wr => ∃ j : Nat, j ≤ n - 1 ∧ v = .int .i64 (sm (j + 1)) ∧ i = .int .i64 j ∧ Hid (Gr w wr)) (fun _ i _ => n - 1 - (intOf i).toNat)
    case atStart => exact ⟨0, Nat.zero_le _, rfl, rfl, HG2⟩
    case round =>
      obtain ⟨j, hj, rfl, rfl, HGr⟩ := hrel
      by_cases hjn : j < n - 1
      · have hjn' : (j : Int) < ((n - 1 : Nat) : Int) := by omega
        have hj1 : j + 1 < n := by omega
        obtain ⟨b', off', e, hb', d0, d1, d2⟩ := HX.out.at_ hj1
        injection e with e
        injection e with e1 e2
        subst e1; subst e2
        have ea : off + (j + 1) * 3 = off + 3 + j * 3 := by omega
        rw [ea] at d0 d1 d2
        have x0 := (HGr.out.cell (p := ⟨b, off + 3 + j * 3, none⟩) hb).trans d0
        have x1 := (HGr.out.cell (p := ⟨b, off + 3 + j * 3 + 1, none⟩) hb).trans d1
        have x2 := (HGr.out.cell (p := ⟨b, off + 3 + j * 3 + 2, none⟩) hb).trans d2
        have hfr := okC_fr (HOK.out (j + 1) hj1)
        have hsl := (HX.out.cu (j + 1) hj1).sl.1
        have hln := (okC_true (HOK.out (j + 1) hj1)).2.2.1
        have HCJ := hide (fun w1 => HG.out (cs (j + 1)) (ss (j + 1)).1 (ss (j + 1)).2.1 (ss (j + 1)).2.2 w1 hfr.1 hfr.2 (by omega))
        have HSJ := hide (HSS.out j)
        have HPL := hide (fun w1 => HTT.out (sm (j + 1)) (f (cs (j + 1)) (ss (j + 1)).2.1) w1)
        clear d0 d1 d2 hfr hsl hln hb'
        rw [← HSJ.out] at HPL
        generalize cs (j + 1) = c at x0 x1 x2 HCJ HPL
        generalize ss (j + 1) = s at x2 HCJ HPL
        generalize f c s.2.1 = fv at HCJ HPL
        go_wp2_with fail
        refine (HCJ.out _).mono ?_
        rintro e w3 ⟨rfl, hG3⟩
        have HG3 : Hid (Gr w w3) := (HGr.out.alloc _).trans hG3
        clear hG3
        go_wp2_with fail
        refine (HPL.out _).mono ?_
        rintro e w4 ⟨rfl, rfl⟩
        go_wp2
        go_roundw
        case rel => exact ⟨j + 1, by omega, rfl, by go_num, HG3⟩
        case measure => simp [intOf]; omega
      · obtain rfl : j = n - 1 := by omega
        have hnn : n - 1 + 1 = n := by omega
        go_wp2
        go_ret
        exact ⟨ret_int (by rw [hnn]), HGr.out⟩


set_option maxHeartbeats 4000000 in
set_option maxRecDepth 100000 in
theorem domain_any (A : Option Addr) (cs : Nat → Cu) (ss : Nat → Option Addr × Nat × Nat) (w : World) (hx : CurvesAt w.heap.size w A 2 cs ss) (hok : ∀ i, i < 2 → okC (cs i) = true) :
    Calls Try.prog 62 #[.slice A 2 2] w fun e w' => e = .returned (.tuple #[.int .i64 (max (cs 0).fr (cs 1).fr), .int .i64 (min ((cs 0).fr + ((ss 0).2.1 : Nat)) ((cs 1).fr + ((ss 1).2.1 : Nat)))]) ∧ Gr w w' := by
  have mixed := mixedOrders
  have e49 : ∀ args w, (callFunc 49 args).run Try.prog w = .ok (.enter 49 args) w := num49.1
  have e50 : ∀ args w, (callFunc 50 args).run Try.prog w = .ok (.enter 50 args) w := num50.1
  have HC := hide (common72_of 80 _ op80 49 _ num49 A 2 2 cs ss w hx (by decide) (by decide) (by decide) hok)
  have HC : Hid (Calls Try.prog 72 #[.slice A 2 2, .func (.func 49) #[] #[], .func (.func 80) #[] #[]] w fun e w' => e = .returned (.int .i64 (max (cs 0).fr (cs 1).fr)) ∧ Gr w w') := HC
  have HD := hide (fun W' (hg : Gr w W') => common72_of 81 _ op81 50 _ num50 A 2 2 cs ss W' (hx.now hg.below (Nat.le_refl _)) (by decide) (by decide) (by decide) hok)
  have HD : Hid (∀ W', Gr w W' → Calls Try.prog 72 #[.slice A 2 2, .func (.func 50) #[] #[], .func (.func 81) #[] #[]] W' fun e w' => e = .returned (.int .i64 (min ((cs 0).fr + ((ss 0).2.1 : Nat)) ((cs 1).fr + ((ss 1).2.1 : Nat)))) ∧ Gr W' w') := HD
  clear hx hok
  generalize max (cs 0).fr (cs 1).fr = m1 at HC ⊢
  generalize min ((cs 0).fr + ((ss 0).2.1 : Nat)) ((cs 1).fr + ((ss 1).2.1 : Nat)) = m2 at HD ⊢
  go_enter Try.func62, Try.ntmps62
  go_wp2_with fail
  refine HC.out.mono ?_
  rintro e w2 ⟨rfl, hG2⟩
  have HD2 := hide (HD.out w2 hG2)
  have HG2 := hide hG2
  clear hG2 HC HD
  go_wp2_with fail
  refine HD2.out.mono ?_
  rintro e w3 ⟨rfl, hG3⟩
  have HG3 := hide (HG2.out.trans hG3)
  clear hG3 HD2
  go_wp2
  go_ret2
  exact ⟨rfl, HG3.out⟩

end Go.Proofs.Ytdepnhnpklbmiaa
/- What the loop of Add keeps. -/
namespace Go.Proofs.Ytdepnhnpklbmiaa
open Go.RowKit Go.Sort

structure AddI (w W : World) (g8 g9 gc r : Nat) (a : Cu) (A1 : Option Addr) (n1 k1 : Nat) (b : Cu) (A2 : Option Addr) (n2 k2 : Nat) (lo f0 : Int) (L : List Int) (N : Nat) (x : Option Addr) (cp i j : Nat) : Prop where
  u : OnWay W g8 0 a A1 n1 k1 i
  v : OnWay W g9 0 b A2 n2 k2 j
  conj : W.heap[gc]? = some (.cells #[.int .i64 lo, .int .i64 f0, .slice x N cp] 24 (0, 0))
  row : W.ownsRow (gc + 1) 3 1 (.slice x N cp) N (L.map (Value.int .i64))
  res : W.heap[r]? = some (.cells #[.int .i64 0, .int .i64 0, .slice none 0 0] 24 (0, 0))
  below : Below w.heap.size w W
  size : gc + 1 ≤ W.heap.size
/-- where the blocks lie -/
structure AddS (w : World) (g8 g9 gc r : Nat) (a : Cu) (A1 : Option Addr) (n1 : Nat) (b : Cu) (A2 : Option Addr) (n2 : Nat) : Prop where
  xa : IntsAt w.heap.size w A1 n1 a.sl
  xb : IntsAt w.heap.size w A2 n2 b.sl
  l8 : g8 < gc
  l9 : g9 < gc
  lr : r < gc
  r8 : r ≠ g8
  r9 : r ≠ g9
  ne : g8 ≠ g9
  o8 : w.heap.size ≤ g8
  o9 : w.heap.size ≤ g9

section
variable {w W W' : World} {g8 g9 gc r : Nat} {a : Cu} {A1 : Option Addr} {n1 k1 : Nat} {b : Cu} {A2 : Option Addr} {n2 k2 : Nat} {lo f0 : Int} {L : List Int} {N : Nat} {x : Option Addr} {cp i j : Nat}

theorem AddI.stepU {i' : Nat} (h : AddI w W g8 g9 gc r a A1 n1 k1 b A2 n2 k2 lo f0 L N x cp i j) (s : AddS w g8 g9 gc r a A1 n1 b A2 n2) (ho : OnWay W' g8 0 a A1 n1 k1 i') (hk : Wkd g8 0 W W') : AddI w W' g8 g9 gc r a A1 n1 k1 b A2 n2 k2 lo f0 L N x cp i' j := by
  have hB := hk.below h.below s.o8 h.below.size
  have hs := h.size
  have := s.l8
  have := s.l9
  have := s.lr
  exact ⟨ho, h.v.shift (hk.block g9 (by omega) (Ne.symm s.ne)) hk.size (s.xb.now hB (Nat.le_refl _)), (hk.block gc (by omega) (by omega)).trans h.conj, own_wkd h.row hk (fun e => by have := (h.row.lt g8 e).1; omega), (hk.block r (by omega) s.r8).trans h.res, hB, Nat.le_trans hs hk.size⟩
theorem AddI.stepV {j' : Nat} (h : AddI w W g8 g9 gc r a A1 n1 k1 b A2 n2 k2 lo f0 L N x cp i j) (s : AddS w g8 g9 gc r a A1 n1 b A2 n2) (ho : OnWay W' g9 0 b A2 n2 k2 j') (hk : Wkd g9 0 W W') : AddI w W' g8 g9 gc r a A1 n1 k1 b A2 n2 k2 lo f0 L N x cp i j' := by
  have hB := hk.below h.below s.o9 h.below.size
  have hs := h.size
  have := s.l8
  have := s.l9
  have := s.lr
  exact ⟨h.u.shift (hk.block g8 (by omega) s.ne) hk.size (s.xa.now hB (Nat.le_refl _)), ho, (hk.block gc (by omega) (by omega)).trans h.conj, own_wkd h.row hk (fun e => by have := (h.row.lt g9 e).1; omega), (hk.block r (by omega) s.r9).trans h.res, hB, Nat.le_trans hs hk.size⟩
/-- a number is appended, and the slice stored -/
theorem AddI.push {w5 w6 : World} {z : Int} {gg c2 : Nat} {t : Obj} (h : AddI w W g8 g9 gc r a A1 n1 k1 b A2 n2 k2 lo f0 L N x cp i j) (s : AddS w g8 g9 gc r a A1 n1 b A2 n2) (hG : Gr W w5)
    (hown : w6.ownsRow (gc + 1) 3 1 (.slice (some ⟨gg, 0, none⟩) (N + 1) c2) (N + 1) (L.map (Value.int .i64) ++ [.int .i64 z])) (hgrow : (w5.alloc t).grownBy w6 (Value.slice x N cp).ownBlock) :
    AddI w (w6.setCell ⟨gc, 2, none⟩ (.slice (some ⟨gg, 0, none⟩) (N + 1) c2)) g8 g9 gc r a A1 n1 k1 b A2 n2 k2 lo f0 (L ++ [z]) (N + 1) (some ⟨gg, 0, none⟩) c2 i j ∧ w6.heap[gc]? = some (.cells #[.int .i64 lo, .int .i64 f0, .slice x N cp] 24 (0, 0)) := by
  have hs := h.size
  have h8 := s.l8
  have h9 := s.l9
  have hr := s.lr
  have hs5 := hG.size
  have hb6 : Below (gc + 1) W w6 := ((hG.below.mono hs).alloc (by omega) t).grown hgrow (by rw [World.size_alloc]; omega) (fun k e => (h.row.lt k e).1)
  have hsz : (w6.setCell ⟨gc, 2, none⟩ (.slice (some ⟨gg, 0, none⟩) (N + 1) c2)).heap.size = w6.heap.size := by simp [World.setCell]
  have hB6 : Below w.heap.size w w6 := h.below.trans (hb6.mono (by have := s.o8; omega))
  have hB7 := hB6.setCell (p := ⟨gc, 2, none⟩) (by show w.heap.size ≤ gc; have := s.o8; omega) (.slice (some ⟨gg, 0, none⟩) (N + 1) c2)
  have hc6 := (hb6.block gc (by omega)).trans h.conj
  refine ⟨⟨?_, ?_, ?_, ?_, ?_, hB7, by rw [hsz]; exact Nat.le_trans hs hb6.size⟩, hc6⟩
  · exact h.u.shift ((Below.heap_setCell _ _ _ _ (by show g8 ≠ gc; omega)).trans (hb6.block g8 (by omega))) (by rw [hsz]; exact hb6.size) (s.xa.now hB7 (Nat.le_refl _))
  · exact h.v.shift ((Below.heap_setCell _ _ _ _ (by show g9 ≠ gc; omega)).trans (hb6.block g9 (by omega))) (by rw [hsz]; exact hb6.size) (s.xb.now hB7 (Nat.le_refl _))
  · have := Joins.block_setCell hc6 (i := 2) (.slice (some ⟨gg, 0, none⟩) (N + 1) c2)
    simpa using this
  · rw [List.map_append]
    exact RowKit.ownsRow_setCell_below hown (a := ⟨gc, 2, none⟩) (by show gc < gc + 1; omega) _
  · exact (Below.heap_setCell _ _ _ _ (by show r ≠ gc; omega)).trans ((hb6.block r (by omega)).trans h.res)
end
end Go.Proofs.Ytdepnhnpklbmiaa
/- A statement that makes two walkers: 'u, v := at(a, lo), at(b, lo)': in whatever order. -/
namespace Go.Proofs.Ytdepnhnpklbmiaa
open Go.RowKit Go.Sort

/-- the sums of slopes -/
def addL (a b : Cu) (ka kb j : Nat) : List Int := (List.range j).map (fun i => iA a.sl (ka + i) + iA b.sl (kb + i))
/-- an empty walker -/
def zWk : Obj := .cells #[.int .i64 0, .int .i64 0, .slice none 0 0, .int .i64 0, .int .i64 0] 61
theorem keep_below {W w' : World} {g : Nat} {o : Obj} (h : W.heap[g]? = some o) (hb : Below W.heap.size W w') : w'.heap[g]? = some o := (hb.block g (Array.getElem?_eq_some_iff.1 h).1).trans h
theorem keep_alloc {W : World} {g : Nat} {o : Obj} (h : W.heap[g]? = some o) (o' : Obj) : (W.alloc o').heap[g]? = some o := (Below.heap_alloc _ _ _ (Array.getElem?_eq_some_iff.1 h).1).trans h
theorem zcells {W : World} {g : Nat} (h : W.heap[g]? = some (.cells #[.int .i64 0, .int .i64 0, .slice none 0 0, .int .i64 0, .int .i64 0] 61)) :
    W.cell? ⟨g, 0, none⟩ = some (.int .i64 0) ∧ W.cell? ⟨g, 1, none⟩ = some (.int .i64 0) ∧ W.cell? ⟨g, 2, none⟩ = some (.slice none 0 0) ∧ W.cell? ⟨g, 3, none⟩ = some (.int .i64 0) ∧ W.cell? ⟨g, 4, none⟩ = some (.int .i64 0) ∧ W.frozen? ⟨g, 0, none⟩ = false ∧ W.frozen? ⟨g, 1, none⟩ = false ∧ W.frozen? ⟨g, 2, none⟩ = false ∧ W.frozen? ⟨g, 3, none⟩ = false ∧ W.frozen? ⟨g, 4, none⟩ = false := by
  have h0 := cell_of_heap' h 0
  have h1 := cell_of_heap' h 1
  have h2 := cell_of_heap' h 2
  have h3 := cell_of_heap' h 3
  have h4 := cell_of_heap' h 4
  simp at h0 h1 h2 h3 h4
  exact ⟨h0, h1, h2, h3, h4, frozen_of_heap' h 0, frozen_of_heap' h 1, frozen_of_heap' h 2, frozen_of_heap' h 3, frozen_of_heap' h 4⟩
theorem set5_raw {W : World} {g : Nat} {p q r s u : Value} {t : TypeId} (h : W.heap[g]? = some (.cells #[p, q, r, s, u] t (0, 0))) (a b c d e : Value) :
    (((((W.setCell ⟨g, 0, none⟩ a).setCell ⟨g, 1, none⟩ b).setCell ⟨g, 2, none⟩ c).setCell ⟨g, 3, none⟩ d).setCell ⟨g, 4, none⟩ e).heap[g]? = some (.cells #[a, b, c, d, e] t (0, 0)) := set5_heap h a b c d e
theorem set5_keep {W : World} {g k : Nat} {o : Obj} (hk : k ≠ g) (h : W.heap[k]? = some o) (a b c d e : Value) :
    (((((W.setCell ⟨g, 0, none⟩ a).setCell ⟨g, 1, none⟩ b).setCell ⟨g, 2, none⟩ c).setCell ⟨g, 3, none⟩ d).setCell ⟨g, 4, none⟩ e).heap[k]? = some o :=
  (Below.heap_setCell _ _ _ _ hk).trans ((Below.heap_setCell _ _ _ _ hk).trans ((Below.heap_setCell _ _ _ _ hk).trans ((Below.heap_setCell _ _ _ _ hk).trans ((Below.heap_setCell _ _ _ _ hk).trans h))))
theorem fresh_at (W : World) (o : Obj) {q : Nat} (h : W.heap.size = q) : (W.alloc o).heap[q]? = some o := by
  subst h
  exact heap_alloc_new W o
theorem wk_of_heap {W : World} {g : Nat} {c : Cu} {A : Option Addr} {n cap : Nat} {x v : Int} (h : W.heap[g]? = some (.cells #[.int .i64 c.fr, .int .i64 c.fst, .slice A n cap, .int .i64 x, .int .i64 v] 61 (0, 0))) : WkAt W g 0 c A n cap x v := by
  have h0 := cell_of_heap' h 0
  have h1 := cell_of_heap' h 1
  have h2 := cell_of_heap' h 2
  have h3 := cell_of_heap' h 3
  have h4 := cell_of_heap' h 4
  simp at h0 h1 h2 h3 h4
  exact ⟨(Array.getElem?_eq_some_iff.1 h).1, h0, by simpa using h1, by simpa using h2, by simpa using h3, by simpa using h4, frozen_of_heap' h _, frozen_of_heap' h _⟩
structure TwoWk (wb W : World) (a b : Cu) (A1 : Option Addr) (n1 k1 : Nat) (A2 : Option Addr) (n2 k2 : Nat) (lo va vb : Int) (g8 g9 : Nat) : Prop where
  u : WkAt W g8 0 a A1 n1 k1 lo va
  v : WkAt W g9 0 b A2 n2 k2 lo vb
  ne : g8 ≠ g9
  o8 : wb.heap.size ≤ g8
  o9 : wb.heap.size ≤ g9
  below : Below wb.heap.size wb W

theorem results26 {W : World} {g : Nat} {a b c : Value} {t : TypeId} (h : W.heap[g]? = some (.cells #[a, b, c] t (0, 0))) (x0 x1 x2 x3 y : Value) (rest : List Value) :
    (results Try.f26 (x0 :: x1 :: x2 :: x3 :: .pointer (some ⟨g, 0, none⟩) :: y :: rest).toArray).run Try.prog W = .ok (.tuple #[.agg #[a, b, c], y]) W := by
  have h0 := cell_of_heap' h 0
  have h1 := cell_of_heap' h 1
  have h2 := cell_of_heap' h 2
  simp at h0 h1 h2
  simp [results, Try.results26, go_sem, h0, h1, h2]

set_option maxHeartbeats 16000000 in
set_option maxRecDepth 100000 in
theorem Add_any (a b : Cu) (A1 : Option Addr) (n1 k1 : Nat) (A2 : Option Addr) (n2 k2 : Nat) (w : World) (ha : CuAt w.heap.size w a A1 n1 k1) (hb : CuAt w.heap.size w b A2 n2 k2) (h1 : n1 ≤ 9223372036854775807) (h2 : n2 ≤ 9223372036854775807) :
    Calls Try.prog 26 #[.agg #[.int .i64 a.fr, .int .i64 a.fst, .slice A1 n1 k1], .agg #[.int .i64 b.fr, .int .i64 b.fst, .slice A2 n2 k2]] w (CuPost (addV a b) w) := by
  have mixed := mixedOrders
  obtain ⟨W1, hW1⟩ : ∃ W1, ((w.alloc (.cells #[.int .i64 a.fr, .int .i64 a.fst, .slice A1 n1 k1] 24)).alloc (.cells #[.int .i64 b.fr, .int .i64 b.fst, .slice A2 n2 k2] 24)).alloc (.cells #[.int .i64 0, .int .i64 0, .slice none 0 0] 24) = W1 := ⟨_, rfl⟩
  obtain ⟨p, hp⟩ : ∃ p, w.heap.size = p := ⟨_, rfl⟩
  have hG1 : Gr w W1 := by rw [← hW1]; exact (((Gr.refl w).alloc _).alloc _).alloc _
  have hs1 : W1.heap.size = p + 3 := by rw [← hW1, ← hp]; simp
  have ua : W1.heap[p]? = some (.cells #[.int .i64 a.fr, .int .i64 a.fst, .slice A1 n1 k1] 24 (0, 0)) := by
    rw [← hW1, ← hp]
    exact (Below.heap_alloc _ _ _ (by simp; omega)).trans ((Below.heap_alloc _ _ _ (by simp)).trans (heap_alloc_new w _))
  have ub : W1.heap[p + 1]? = some (.cells #[.int .i64 b.fr, .int .i64 b.fst, .slice A2 n2 k2] 24 (0, 0)) := by
    rw [← hW1, ← hp]
    refine (Below.heap_alloc _ _ _ (by simp)).trans ?_
    simpa using heap_alloc_new (w.alloc (.cells #[.int .i64 a.fr, .int .i64 a.fst, .slice A1 n1 k1] 24)) (.cells #[.int .i64 b.fr, .int .i64 b.fst, .slice A2 n2 k2] 24)
  have ur : W1.heap[p + 1 + 1]? = some (.cells #[.int .i64 0, .int .i64 0, .slice none 0 0] 24 (0, 0)) := by
    rw [← hW1, ← hp]
    simpa using heap_alloc_new ((w.alloc (.cells #[.int .i64 a.fr, .int .i64 a.fst, .slice A1 n1 k1] 24)).alloc (.cells #[.int .i64 b.fr, .int .i64 b.fst, .slice A2 n2 k2] 24)) (.cells #[.int .i64 0, .int .i64 0, .slice none 0 0] 24)
  have HAX := hide ha
  have HBX := hide hb
  have HG1 := hide hG1
  have HVA := hide (Valid_any a A1 n1 k1 W1 (ha.sl.gr hG1) h1)
  have HVB := hide (fun W2 (hg : Gr W1 W2) => Valid_any b A2 n2 k2 W2 ((hb.sl.gr hG1).gr hg) h2)
  have HUA := hide ua
  have HUB := hide ub
  have HUR := hide ur
  have a0 := cell_of_heap' ua 0
  have a1 := cell_of_heap' ua 1
  have a2 := cell_of_heap' ua 2
  simp at a0 a1 a2
  clear ha hb hG1 ua ub ur
  go_enter Try.func26, Try.ntmps26
  go_wp2_with fail
  try rw [hp]
  refine HVA.out.mono ?_
  rintro e w2 ⟨rfl, hG2⟩
  have HG2 := hide hG2
  have hs2 : p + 3 ≤ w2.heap.size := by have := hG2.size; omega
  have hb2 := (hG2.block (k := p + 1) (by omega)).trans HUB.out
  have b0 := cell_of_heap' hb2 0
  have b1 := cell_of_heap' hb2 1
  have b2 := cell_of_heap' hb2 2
  simp at b0 b1 b2
  have hr2 := (hG2.block (k := p + 1 + 1) (by omega)).trans HUR.out
  have HVB2 := hide (HVB.out w2 hG2)
  have hz2 := hide hr2
  have r0 := cell_of_heap' hr2 0
  have r1 := cell_of_heap' hr2 1
  have r2 := cell_of_heap' hr2 2
  have y0 := frozen_of_heap' hr2 0
  have y1 := frozen_of_heap' hr2 1
  have y2 := frozen_of_heap' hr2 2
  simp at r0 r1 r2
  cases hva : okC a
  · have HJ : Hid (addV a b = (Cu.zero, 2)) := if_neg (by rw [hva]; simp)
    have HB2 : Hid (Below w.heap.size w w2) := HG1.out.below.trans (hG2.below.mono HG1.out.size)
    clear hr2 hb2 hG2 HVB2 HVB HVA hva
    go_wp2_with fail
    refine bodyPost_ret (results26 (set3_heap hz2.out _ _ _) _ _ _ _ _ _) rfl ?_
    refine ⟨none, 0, 0, by rw [HJ.out] <;> rfl, ?_, set3_below HB2.out (by omega) _ _ _⟩
    rw [HJ.out]
    exact World.ownsRow_nil _ _ _ _
  have HVAA := hide hva
  clear hb2 hG2 a0 a1 a2 hva r0 r1 r2 y0 y1 y2 hr2
  go_wp2_with fail
  refine HVB2.out.mono ?_
  rintro e w3 ⟨rfl, hG3⟩
  have HG3 := hide (HG2.out.trans hG3)
  have hs3 : p + 3 ≤ w3.heap.size := by have := hG3.size; omega
  have hr3 := (hG3.block (k := p + 1 + 1) (by omega)).trans hz2.out
  have HZ3' := hide hr3
  have r0 := cell_of_heap' hr3 0
  have r1 := cell_of_heap' hr3 1
  have r2 := cell_of_heap' hr3 2
  have y0 := frozen_of_heap' hr3 0
  have y1 := frozen_of_heap' hr3 1
  have y2 := frozen_of_heap' hr3 2
  simp at r0 r1 r2
  have HB3 : Hid (Below w.heap.size w w3) := HG1.out.below.trans (HG3.out.below.mono HG1.out.size)
  cases hvb : okC b
  · have HJ : Hid (addV a b = (Cu.zero, 2)) := if_neg (by rw [hvb]; simp)
    clear hr3 hG3 HVB2 HVB HVA hvb
    go_wp2_with fail
    refine bodyPost_ret (results26 (set3_heap HZ3'.out _ _ _) _ _ _ _ _ _) rfl ?_
    refine ⟨none, 0, 0, by rw [HJ.out] <;> rfl, ?_, set3_below HB3.out (by omega) _ _ _⟩
    rw [HJ.out]
    exact World.ownsRow_nil _ _ _ _
  have HVBB := hide hvb
  clear hvb hr3 HVB2 HVB HVA b0 b1 b2 hG3
  -- the list of the two, and its domain
  have ha3 := (HG3.out.block (k := p) (by omega)).trans HUA.out
  have hb3 := (HG3.out.block (k := p + 1) (by omega)).trans HUB.out
  have HA3 := hide ha3
  have HB33 := hide hb3
  have a0 := cell_of_heap' ha3 0
  have a1 := cell_of_heap' ha3 1
  have a2 := cell_of_heap' ha3 2
  have b0 := cell_of_heap' hb3 0
  have b1 := cell_of_heap' hb3 1
  have b2 := cell_of_heap' hb3 2
  simp at a0 a1 a2 b0 b1 b2
  have hla : a.sl.length = n1 := HAX.out.sl.1
  have hlb : b.sl.length = n2 := HBX.out.sl.1
  have hn1 : n1 ≤ 64 := by have := okC_len HVAA.out; omega
  have hn2 : n2 ≤ 64 := by have := okC_len HVBB.out; omega
  have hcv : CurvesAt (w3.alloc (.cells #[.int .i64 a.fr, .int .i64 a.fst, .slice A1 n1 k1, .int .i64 b.fr, .int .i64 b.fst, .slice A2 n2 k2] 24)).heap.size (w3.alloc (.cells #[.int .i64 a.fr, .int .i64 a.fst, .slice A1 n1 k1, .int .i64 b.fr, .int .i64 b.fst, .slice A2 n2 k2] 24)) (some ⟨w3.heap.size, 0, none⟩) 2 (fun i => if i = 0 then a else b) (fun i => if i = 0 then (A1, n1, k1) else (A2, n2, k2)) := by
    have hB4 := HB3.out.alloc HB3.out.size (.cells #[.int .i64 a.fr, .int .i64 a.fst, .slice A1 n1 k1, .int .i64 b.fr, .int .i64 b.fst, .slice A2 n2 k2] 24)
    refine ⟨.inr ⟨w3.heap.size, 0, rfl, by simp, fun i hi => ?_⟩, fun i hi => ?_⟩
    · rcases (show i = 0 ∨ i = 1 by omega) with rfl | rfl
      · exact ⟨by simp, by simp, by simp⟩
      · exact ⟨by simp, by simp, by simp⟩
    · rcases (show i = 0 ∨ i = 1 by omega) with rfl | rfl
      · exact HAX.out.now hB4 (Nat.le_refl _)
      · exact HBX.out.now hB4 (Nat.le_refl _)
  have HD := hide (domain_any _ _ _ _ hcv (fun i hi => by
    rcases (show i = 0 ∨ i = 1 by omega) with rfl | rfl
    · exact HVAA.out
    · exact HVBB.out))
  have HD2 : Hid (Calls Try.prog 62 #[.slice (some ⟨w3.heap.size, 0, none⟩) 2 2] (w3.alloc (.cells #[.int .i64 a.fr, .int .i64 a.fst, .slice A1 n1 k1, .int .i64 b.fr, .int .i64 b.fst, .slice A2 n2 k2] 24)) fun e w' => e = .returned (.tuple #[.int .i64 (max a.fr b.fr), .int .i64 (min (a.fr + (n1 : Nat)) (b.fr + (n2 : Nat)))]) ∧ Gr (w3.alloc (.cells #[.int .i64 a.fr, .int .i64 a.fst, .slice A1 n1 k1, .int .i64 b.fr, .int .i64 b.fst, .slice A2 n2 k2] 24)) w') := HD
  obtain ⟨lo, hlo⟩ : ∃ q, max a.fr b.fr = q := ⟨_, rfl⟩
  obtain ⟨hi, hhi⟩ : ∃ q, min (a.fr + (n1 : Nat)) (b.fr + (n2 : Nat)) = q := ⟨_, rfl⟩
  rw [hlo, hhi] at HD2
  clear HD
  have HLO := hide hlo
  have HHI := hide hhi
  clear hcv ha3 hb3 hlo hhi r0 r1 r2 y0 y1 y2
  go_wp2_with fail
  refine HD2.out.mono ?_
  rintro e wb ⟨rfl, hGb⟩
  have HGb : Hid (Gr w3 wb) := ((Gr.refl w3).alloc _).trans hGb
  have hsb : p + 3 ≤ wb.heap.size := by have := HGb.out.size; omega
  have HRb := hide ((HGb.out.block (k := p + 1 + 1) (by omega)).trans HZ3'.out)
  have HBb : Hid (Below w.heap.size w wb) := HB3.out.trans (HGb.out.below.mono HB3.out.size)
  have hab := (HGb.out.block (k := p) (by omega)).trans HA3.out
  have hbb := (HGb.out.block (k := p + 1) (by omega)).trans HB33.out
  have HAb := hide hab
  have HBBb := hide hbb
  clear hGb HD2 a0 a1 a2 b0 b1 b2
  by_cases hlh : hi < lo
  · have HJ : Hid (addV a b = (Cu.zero, 6)) := by
      show _ = _
      unfold addV
      rw [if_pos ⟨HVAA.out, HVBB.out⟩, if_neg (by rw [hla, hlb, HLO.out, HHI.out]; omega)]
    have hd : decide (hi < lo) = true := decide_eq_true hlh
    have hr := HRb.out
    have r0 := cell_of_heap' hr 0
    have r1 := cell_of_heap' hr 1
    have r2 := cell_of_heap' hr 2
    have y0 := frozen_of_heap' hr 0
    have y1 := frozen_of_heap' hr 1
    have y2 := frozen_of_heap' hr 2
    simp at r0 r1 r2
    clear hr hab hbb
    go_wp2_with fail
    refine bodyPost_ret (results26 (set3_heap HRb.out _ _ _) _ _ _ _ _ _) rfl ?_
    refine ⟨none, 0, 0, by rw [HJ.out] <;> rfl, ?_, set3_below HBb.out (by omega) _ _ _⟩
    rw [HJ.out]
    exact World.ownsRow_nil _ _ _ _
  have hd : decide (hi < lo) = false := decide_eq_false hlh
  have HJ : Hid (addV a b = res2 (addC a b)) := by
    show _ = _
    unfold addV
    rw [if_pos ⟨HVAA.out, HVBB.out⟩, if_pos (by rw [hla, hlb, HLO.out, HHI.out]; omega)]
  obtain ⟨ka, hka⟩ : ∃ k : Nat, (lo - a.fr).toNat = k := ⟨_, rfl⟩
  obtain ⟨kb, hkb⟩ : ∃ k : Nat, (lo - b.fr).toNat = k := ⟨_, rfl⟩
  have hloA : lo = a.fr + ka := by have := HLO.out; omega
  have hloB : lo = b.fr + kb := by have := HLO.out; omega
  have hkan : ka ≤ n1 := by have := HLO.out; have := HHI.out; omega
  have hkbn : kb ≤ n2 := by have := HLO.out; have := HHI.out; omega
  have HKA := hide (show (lo - a.fr).toNat = ka ∧ lo = a.fr + ka ∧ ka ≤ n1 from ⟨hka, hloA, hkan⟩)
  have HKB := hide (show (lo - b.fr).toNat = kb ∧ lo = b.fr + kb ∧ kb ≤ n2 from ⟨hkb, hloB, hkbn⟩)
  obtain ⟨va, hva⟩ : ∃ q, valK a ka = q := ⟨_, rfl⟩
  obtain ⟨vb, hvb⟩ : ∃ q, valK b kb = q := ⟨_, rfl⟩
  have SB : Hid (∀ W, Below wb.heap.size wb W → (W.cell? ⟨p, 0, none⟩ = some (.int .i64 a.fr) ∧ W.cell? ⟨p, 1, none⟩ = some (.int .i64 a.fst) ∧ W.cell? ⟨p, 2, none⟩ = some (.slice A1 n1 k1) ∧ W.cell? ⟨p + 1, 0, none⟩ = some (.int .i64 b.fr) ∧ W.cell? ⟨p + 1, 1, none⟩ = some (.int .i64 b.fst) ∧ W.cell? ⟨p + 1, 2, none⟩ = some (.slice A2 n2 k2) ∧ Below wb.heap.size wb W)) := fun W h => by
    have h1 := (h.block p (by omega)).trans hab
    have h2 := (h.block (p + 1) (by omega)).trans hbb
    have c0 := cell_of_heap' h1 0
    have c1 := cell_of_heap' h1 1
    have c2 := cell_of_heap' h1 2
    have d0 := cell_of_heap' h2 0
    have d1 := cell_of_heap' h2 1
    have d2 := cell_of_heap' h2 2
    simp at c0 c1 c2 d0 d1 d2
    exact ⟨c0, c1, c2, d0, d1, d2, h⟩
  have HA1 : Hid (∀ W, (W.cell? ⟨p, 0, none⟩ = some (.int .i64 a.fr) ∧ W.cell? ⟨p, 1, none⟩ = some (.int .i64 a.fst) ∧ W.cell? ⟨p, 2, none⟩ = some (.slice A1 n1 k1) ∧ W.cell? ⟨p + 1, 0, none⟩ = some (.int .i64 b.fr) ∧ W.cell? ⟨p + 1, 1, none⟩ = some (.int .i64 b.fst) ∧ W.cell? ⟨p + 1, 2, none⟩ = some (.slice A2 n2 k2) ∧ Below wb.heap.size wb W) → Calls Try.prog 51 #[.agg #[.int .i64 a.fr, .int .i64 a.fst, .slice A1 n1 k1], .int .i64 lo] W fun e w' => e = .returned (.agg #[.int .i64 a.fr, .int .i64 a.fst, .slice A1 n1 k1, .int .i64 lo, .int .i64 va]) ∧ Below W.heap.size W w') := fun W hS => by
    have hh := HAX.out.now (HBb.out.trans (hS.2.2.2.2.2.2.mono HBb.out.size)) (Nat.le_refl _)
    have := at_any a A1 n1 k1 ka W HVAA.out hh.sl hh.old hkan
    rw [← hloA, hva] at this
    exact this
  have HA2 : Hid (∀ W, (W.cell? ⟨p, 0, none⟩ = some (.int .i64 a.fr) ∧ W.cell? ⟨p, 1, none⟩ = some (.int .i64 a.fst) ∧ W.cell? ⟨p, 2, none⟩ = some (.slice A1 n1 k1) ∧ W.cell? ⟨p + 1, 0, none⟩ = some (.int .i64 b.fr) ∧ W.cell? ⟨p + 1, 1, none⟩ = some (.int .i64 b.fst) ∧ W.cell? ⟨p + 1, 2, none⟩ = some (.slice A2 n2 k2) ∧ Below wb.heap.size wb W) → Calls Try.prog 51 #[.agg #[.int .i64 b.fr, .int .i64 b.fst, .slice A2 n2 k2], .int .i64 lo] W fun e w' => e = .returned (.agg #[.int .i64 b.fr, .int .i64 b.fst, .slice A2 n2 k2, .int .i64 lo, .int .i64 vb]) ∧ Below W.heap.size W w') := fun W hS => by
    have hh := HBX.out.now (HBb.out.trans (hS.2.2.2.2.2.2.mono HBb.out.size)) (Nat.le_refl _)
    have := at_any b A2 n2 k2 kb W HVBB.out hh.sl hh.old hkbn
    rw [← hloB, hvb] at this
    exact this
  have KC : Hid (∀ W w', (W.cell? ⟨p, 0, none⟩ = some (.int .i64 a.fr) ∧ W.cell? ⟨p, 1, none⟩ = some (.int .i64 a.fst) ∧ W.cell? ⟨p, 2, none⟩ = some (.slice A1 n1 k1) ∧ W.cell? ⟨p + 1, 0, none⟩ = some (.int .i64 b.fr) ∧ W.cell? ⟨p + 1, 1, none⟩ = some (.int .i64 b.fst) ∧ W.cell? ⟨p + 1, 2, none⟩ = some (.slice A2 n2 k2) ∧ Below wb.heap.size wb W) → Below W.heap.size W w' → (w'.cell? ⟨p, 0, none⟩ = some (.int .i64 a.fr) ∧ w'.cell? ⟨p, 1, none⟩ = some (.int .i64 a.fst) ∧ w'.cell? ⟨p, 2, none⟩ = some (.slice A1 n1 k1) ∧ w'.cell? ⟨p + 1, 0, none⟩ = some (.int .i64 b.fr) ∧ w'.cell? ⟨p + 1, 1, none⟩ = some (.int .i64 b.fst) ∧ w'.cell? ⟨p + 1, 2, none⟩ = some (.slice A2 n2 k2) ∧ Below wb.heap.size wb w')) := fun W w' hS hb => SB.out w' (hS.2.2.2.2.2.2.trans (hb.mono hS.2.2.2.2.2.2.size))
  have KA : Hid (∀ W o, (W.cell? ⟨p, 0, none⟩ = some (.int .i64 a.fr) ∧ W.cell? ⟨p, 1, none⟩ = some (.int .i64 a.fst) ∧ W.cell? ⟨p, 2, none⟩ = some (.slice A1 n1 k1) ∧ W.cell? ⟨p + 1, 0, none⟩ = some (.int .i64 b.fr) ∧ W.cell? ⟨p + 1, 1, none⟩ = some (.int .i64 b.fst) ∧ W.cell? ⟨p + 1, 2, none⟩ = some (.slice A2 n2 k2) ∧ Below wb.heap.size wb W) → ((W.alloc o).cell? ⟨p, 0, none⟩ = some (.int .i64 a.fr) ∧ (W.alloc o).cell? ⟨p, 1, none⟩ = some (.int .i64 a.fst) ∧ (W.alloc o).cell? ⟨p, 2, none⟩ = some (.slice A1 n1 k1) ∧ (W.alloc o).cell? ⟨p + 1, 0, none⟩ = some (.int .i64 b.fr) ∧ (W.alloc o).cell? ⟨p + 1, 1, none⟩ = some (.int .i64 b.fst) ∧ (W.alloc o).cell? ⟨p + 1, 2, none⟩ = some (.slice A2 n2 k2) ∧ Below wb.heap.size wb (W.alloc o))) := fun W o hS => SB.out _ (hS.2.2.2.2.2.2.alloc hS.2.2.2.2.2.2.size _)
  have KAd : Hid (∀ (W : World) (o : Obj), (W.drew.cell? ⟨p, 0, none⟩ = some (.int .i64 a.fr) ∧ W.drew.cell? ⟨p, 1, none⟩ = some (.int .i64 a.fst) ∧ W.drew.cell? ⟨p, 2, none⟩ = some (.slice A1 n1 k1) ∧ W.drew.cell? ⟨p + 1, 0, none⟩ = some (.int .i64 b.fr) ∧ W.drew.cell? ⟨p + 1, 1, none⟩ = some (.int .i64 b.fst) ∧ W.drew.cell? ⟨p + 1, 2, none⟩ = some (.slice A2 n2 k2) ∧ Below wb.heap.size wb W.drew) → ((W.alloc o).drew.cell? ⟨p, 0, none⟩ = some (.int .i64 a.fr) ∧ (W.alloc o).drew.cell? ⟨p, 1, none⟩ = some (.int .i64 a.fst) ∧ (W.alloc o).drew.cell? ⟨p, 2, none⟩ = some (.slice A1 n1 k1) ∧ (W.alloc o).drew.cell? ⟨p + 1, 0, none⟩ = some (.int .i64 b.fr) ∧ (W.alloc o).drew.cell? ⟨p + 1, 1, none⟩ = some (.int .i64 b.fst) ∧ (W.alloc o).drew.cell? ⟨p + 1, 2, none⟩ = some (.slice A2 n2 k2) ∧ Below wb.heap.size wb (W.alloc o).drew)) := fun W o hS => SB.out _ (hS.2.2.2.2.2.2.alloc hS.2.2.2.2.2.2.size o)
  have KD : Hid (∀ W g j v, wb.heap.size ≤ g → (W.cell? ⟨p, 0, none⟩ = some (.int .i64 a.fr) ∧ W.cell? ⟨p, 1, none⟩ = some (.int .i64 a.fst) ∧ W.cell? ⟨p, 2, none⟩ = some (.slice A1 n1 k1) ∧ W.cell? ⟨p + 1, 0, none⟩ = some (.int .i64 b.fr) ∧ W.cell? ⟨p + 1, 1, none⟩ = some (.int .i64 b.fst) ∧ W.cell? ⟨p + 1, 2, none⟩ = some (.slice A2 n2 k2) ∧ Below wb.heap.size wb W) → ((W.setCell ⟨g, j, none⟩ v).cell? ⟨p, 0, none⟩ = some (.int .i64 a.fr) ∧ (W.setCell ⟨g, j, none⟩ v).cell? ⟨p, 1, none⟩ = some (.int .i64 a.fst) ∧ (W.setCell ⟨g, j, none⟩ v).cell? ⟨p, 2, none⟩ = some (.slice A1 n1 k1) ∧ (W.setCell ⟨g, j, none⟩ v).cell? ⟨p + 1, 0, none⟩ = some (.int .i64 b.fr) ∧ (W.setCell ⟨g, j, none⟩ v).cell? ⟨p + 1, 1, none⟩ = some (.int .i64 b.fst) ∧ (W.setCell ⟨g, j, none⟩ v).cell? ⟨p + 1, 2, none⟩ = some (.slice A2 n2 k2) ∧ Below wb.heap.size wb (W.setCell ⟨g, j, none⟩ v))) := fun W g j v hg hS => SB.out _ (hS.2.2.2.2.2.2.setCell (p := ⟨g, j, none⟩) hg v)
  have K0 := hide (SB.out wb.drew ((Below.refl _ wb).drew))
  obtain ⟨q0, q1, q2, q3, q4, q5, -⟩ := SB.out wb (Below.refl _ _)
  have HZ10 : Hid ((wb.alloc (.cells #[.int .i64 0, .int .i64 0, .slice none 0 0, .int .i64 0, .int .i64 0] 61)).drew.heap[wb.heap.size]? = some (.cells #[.int .i64 0, .int .i64 0, .slice none 0 0, .int .i64 0, .int .i64 0] 61)) := heap_alloc_new wb (.cells #[.int .i64 0, .int .i64 0, .slice none 0 0, .int .i64 0, .int .i64 0] 61)
  have HZ20 : Hid (((wb.alloc (.cells #[.int .i64 0, .int .i64 0, .slice none 0 0, .int .i64 0, .int .i64 0] 61)).alloc (.cells #[.int .i64 0, .int .i64 0, .slice none 0 0, .int .i64 0, .int .i64 0] 61)).drew.heap[wb.heap.size]? = some (.cells #[.int .i64 0, .int .i64 0, .slice none 0 0, .int .i64 0, .int .i64 0] 61)) := keep_alloc (heap_alloc_new wb (.cells #[.int .i64 0, .int .i64 0, .slice none 0 0, .int .i64 0, .int .i64 0] 61)) (.cells #[.int .i64 0, .int .i64 0, .slice none 0 0, .int .i64 0, .int .i64 0] 61)
  have HZ21 : Hid (((wb.alloc (.cells #[.int .i64 0, .int .i64 0, .slice none 0 0, .int .i64 0, .int .i64 0] 61)).alloc (.cells #[.int .i64 0, .int .i64 0, .slice none 0 0, .int .i64 0, .int .i64 0] 61)).drew.heap[wb.heap.size + 1]? = some (.cells #[.int .i64 0, .int .i64 0, .slice none 0 0, .int .i64 0, .int .i64 0] 61)) := by
    have := heap_alloc_new (wb.alloc (.cells #[.int .i64 0, .int .i64 0, .slice none 0 0, .int .i64 0, .int .i64 0] 61)) (.cells #[.int .i64 0, .int .i64 0, .slice none 0 0, .int .i64 0, .int .i64 0] 61)
    rw [World.size_alloc] at this
    exact this
  have HZ30 : Hid (∀ W : World, (W.alloc (.cells #[.int .i64 0, .int .i64 0, .slice none 0 0, .int .i64 0, .int .i64 0] 61)).heap[W.heap.size]? = some (.cells #[.int .i64 0, .int .i64 0, .slice none 0 0, .int .i64 0, .int .i64 0] 61)) := fun W => heap_alloc_new W (.cells #[.int .i64 0, .int .i64 0, .slice none 0 0, .int .i64 0, .int .i64 0] 61)
  have HZ31 : Hid (∀ W : World, ((W.alloc (.cells #[.int .i64 0, .int .i64 0, .slice none 0 0, .int .i64 0, .int .i64 0] 61)).alloc (.cells #[.int .i64 0, .int .i64 0, .slice none 0 0, .int .i64 0, .int .i64 0] 61)).heap[W.heap.size]? = some (.cells #[.int .i64 0, .int .i64 0, .slice none 0 0, .int .i64 0, .int .i64 0] 61)) := fun W => keep_alloc (heap_alloc_new W (.cells #[.int .i64 0, .int .i64 0, .slice none 0 0, .int .i64 0, .int .i64 0] 61)) (.cells #[.int .i64 0, .int .i64 0, .slice none 0 0, .int .i64 0, .int .i64 0] 61)
  have HZ32 : Hid (∀ W : World, ((W.alloc (.cells #[.int .i64 0, .int .i64 0, .slice none 0 0, .int .i64 0, .int .i64 0] 61)).alloc (.cells #[.int .i64 0, .int .i64 0, .slice none 0 0, .int .i64 0, .int .i64 0] 61)).heap[W.heap.size + 1]? = some (.cells #[.int .i64 0, .int .i64 0, .slice none 0 0, .int .i64 0, .int .i64 0] 61)) := fun W => by
    have := heap_alloc_new (W.alloc (.cells #[.int .i64 0, .int .i64 0, .slice none 0 0, .int .i64 0, .int .i64 0] 61)) (.cells #[.int .i64 0, .int .i64 0, .slice none 0 0, .int .i64 0, .int .i64 0] 61)
    rw [World.size_alloc] at this
    exact this
  have HVV := hide (show valK a ka = va ∧ valK b kb = vb from ⟨hva, hvb⟩)
  have HLEN := hide (show a.sl.length = n1 ∧ b.sl.length = n2 ∧ n1 ≤ 64 ∧ n2 ≤ 64 ∧ ¬ hi < lo from ⟨hla, hlb, hn1, hn2, hlh⟩)
  clear hab hbb hka hkb hloA hloB hkan hkbn hva hvb hla hlb hn1 hn2
  go_upto_region 6 with fail
  go_cut [8, 9] (fun s8 s9 wx => ∃ g8 g9 : Nat, s8 = .pointer (some ⟨g8, 0, none⟩) ∧ s9 = .pointer (some ⟨g9, 0, none⟩) ∧ Hid (TwoWk wb wx a b A1 n1 k1 A2 n2 k2 lo va vb g8 g9))
  case first =>
    go_region_held3 (fun w' => (w'.cell? ⟨p, 0, none⟩ = some (.int .i64 a.fr) ∧ w'.cell? ⟨p, 1, none⟩ = some (.int .i64 a.fst) ∧ w'.cell? ⟨p, 2, none⟩ = some (.slice A1 n1 k1) ∧ w'.cell? ⟨p + 1, 0, none⟩ = some (.int .i64 b.fr) ∧ w'.cell? ⟨p + 1, 1, none⟩ = some (.int .i64 b.fst) ∧ w'.cell? ⟨p + 1, 2, none⟩ = some (.slice A2 n2 k2) ∧ Below wb.heap.size wb w'))
      (first | with_reducible exact K0.out | with_reducible exact hS1 | with_reducible exact (KA.out _ _ hS1) | with_reducible exact (KA.out _ _ (KA.out _ _ hS1)) | with_reducible exact hS2 | with_reducible exact (KA.out _ _ hS2) | with_reducible exact (KA.out _ _ (KA.out _ _ hS2)) | with_reducible exact (KD.out _ _ _ _ (by omega) (KD.out _ _ _ _ (by omega) (KD.out _ _ _ _ (by omega) (KD.out _ _ _ _ (by omega) (KD.out _ _ _ _ (by omega) hS2))))) | with_reducible exact (KA.out _ _ (KD.out _ _ _ _ (by omega) (KD.out _ _ _ _ (by omega) (KD.out _ _ _ _ (by omega) (KD.out _ _ _ _ (by omega) (KD.out _ _ _ _ (by omega) hS2)))))) | with_reducible exact (KA.out _ _ (KA.out _ _ (KD.out _ _ _ _ (by omega) (KD.out _ _ _ _ (by omega) (KD.out _ _ _ _ (by omega) (KD.out _ _ _ _ (by omega) (KD.out _ _ _ _ (by omega) hS2))))))) | with_reducible exact (KD.out _ _ _ _ (by omega) (KD.out _ _ _ _ (by omega) (KD.out _ _ _ _ (by omega) (KD.out _ _ _ _ (by omega) (KD.out _ _ _ _ (by omega) (KD.out _ _ _ _ (by omega) (KD.out _ _ _ _ (by omega) (KD.out _ _ _ _ (by omega) (KD.out _ _ _ _ (by omega) (KD.out _ _ _ _ (by omega) hS2)))))))))) | with_reducible exact (KA.out _ _ (KD.out _ _ _ _ (by omega) (KD.out _ _ _ _ (by omega) (KD.out _ _ _ _ (by omega) (KD.out _ _ _ _ (by omega) (KD.out _ _ _ _ (by omega) (KD.out _ _ _ _ (by omega) (KD.out _ _ _ _ (by omega) (KD.out _ _ _ _ (by omega) (KD.out _ _ _ _ (by omega) (KD.out _ _ _ _ (by omega) hS2))))))))))) | with_reducible exact (KA.out _ _ (KA.out _ _ (KD.out _ _ _ _ (by omega) (KD.out _ _ _ _ (by omega) (KD.out _ _ _ _ (by omega) (KD.out _ _ _ _ (by omega) (KD.out _ _ _ _ (by omega) (KD.out _ _ _ _ (by omega) (KD.out _ _ _ _ (by omega) (KD.out _ _ _ _ (by omega) (KD.out _ _ _ _ (by omega) (KD.out _ _ _ _ (by omega) hS2)))))))))))) | with_reducible exact (KA.out _ _ (by assumption)) | with_reducible exact (KAd.out _ _ (by assumption)))
      (first | (go_at_call 51; (with_reducible refine (HA1.out _ (by assumption)).mono ?_); rintro e w1 ⟨rfl, hb1⟩; have hS1 := KC.out _ _ (by assumption) hb1; have hle1 := hS1.2.2.2.2.2.2.size; (try (have hq1 := keep_below (by first | with_reducible exact HZ10.out | with_reducible exact HZ20.out) hb1; have hl1 := (Array.getElem?_eq_some_iff.1 hq1).1; have hx1 := Nat.ne_of_lt hl1; have hx2 := Nat.ne_of_gt hl1)); (try (have hq2 := keep_below (by with_reducible exact HZ21.out) hb1))) | (go_at_call 51; (with_reducible refine (HA2.out _ (by assumption)).mono ?_); rintro e w2 ⟨rfl, hb2⟩; have hS2 := KC.out _ _ (by assumption) hb2; have hle2 := hS2.2.2.2.2.2.2.size; (try (have hr1 := keep_below (by first | with_reducible exact hq1 | with_reducible exact keep_alloc hq1 _) hb2; have hr1a := keep_alloc hr1 (.cells #[.int .i64 0, .int .i64 0, .slice none 0 0, .int .i64 0, .int .i64 0] 61); obtain ⟨r1c0, r1c1, r1c2, r1c3, r1c4, r1f0, r1f1, r1f2, r1f3, r1f4⟩ := zcells hr1; obtain ⟨r1ac0, r1ac1, r1ac2, r1ac3, r1ac4, r1af0, r1af1, r1af2, r1af3, r1af4⟩ := zcells hr1a; have hn1 := (Array.getElem?_eq_some_iff.1 hr1).1; have hx3 := Nat.ne_of_lt hn1; have hx4 := Nat.ne_of_gt hn1)); (try (have hr2 := keep_below (by with_reducible exact hq2) hb2; obtain ⟨r2c0, r2c1, r2c2, r2c3, r2c4, r2f0, r2f1, r2f2, r2f3, r2f4⟩ := zcells hr2)); (try (have hr3 := keep_below (by first | with_reducible exact HZ30.out w1 | with_reducible exact HZ31.out w1) hb2; have hr3a := keep_alloc hr3 (.cells #[.int .i64 0, .int .i64 0, .slice none 0 0, .int .i64 0, .int .i64 0] 61); obtain ⟨r3c0, r3c1, r3c2, r3c3, r3c4, r3f0, r3f1, r3f2, r3f3, r3f4⟩ := zcells hr3; obtain ⟨r3ac0, r3ac1, r3ac2, r3ac3, r3ac4, r3af0, r3af1, r3af2, r3af3, r3af4⟩ := zcells hr3a; have hn3 := (Array.getElem?_eq_some_iff.1 hr3).1; have hx5 := Nat.ne_of_lt hn3; have hx6 := Nat.ne_of_gt hn3)); have hs0 := HZ30.out w2; have hs1 := HZ31.out w2; have hs2 := HZ32.out w2; obtain ⟨s0c0, s0c1, s0c2, s0c3, s0c4, s0f0, s0f1, s0f2, s0f3, s0f4⟩ := zcells hs0; obtain ⟨s1c0, s1c1, s1c2, s1c3, s1c4, s1f0, s1f1, s1f2, s1f3, s1f4⟩ := zcells hs1; obtain ⟨s2c0, s2c1, s2c2, s2c3, s2c4, s2f0, s2f1, s2f2, s2f3, s2f4⟩ := zcells hs2; (try (have hr4 := keep_below (by with_reducible exact HZ32.out w1) hb2; obtain ⟨r4c0, r4c1, r4c2, r4c3, r4c4, r4f0, r4f1, r4f2, r4f3, r4f4⟩ := zcells hr4))))
    all_goals
      go_wp2_with fail
      go_meet
      refine ⟨_, _, rfl, rfl, ?_⟩
      exact hide ⟨wk_of_heap (by (first | with_reducible exact fresh_at _ _ (by simp [World.setCell]) | with_reducible exact keep_alloc (fresh_at _ _ (by simp)) _ | with_reducible exact (set5_raw hr1 _ _ _ _ _) | with_reducible exact keep_alloc (set5_raw hr1 _ _ _ _ _) _ | with_reducible exact (set5_keep (by omega) (set5_raw hr1 _ _ _ _ _) _ _ _ _ _) | with_reducible exact keep_alloc (set5_keep (by omega) (set5_raw hr1 _ _ _ _ _) _ _ _ _ _) _ | with_reducible exact (set5_raw (set5_keep (by omega) hr1 _ _ _ _ _) _ _ _ _ _) | with_reducible exact keep_alloc (set5_raw (set5_keep (by omega) hr1 _ _ _ _ _) _ _ _ _ _) _ | with_reducible exact (set5_raw hr2 _ _ _ _ _) | with_reducible exact keep_alloc (set5_raw hr2 _ _ _ _ _) _ | with_reducible exact (set5_keep (by omega) (set5_raw hr2 _ _ _ _ _) _ _ _ _ _) | with_reducible exact keep_alloc (set5_keep (by omega) (set5_raw hr2 _ _ _ _ _) _ _ _ _ _) _ | with_reducible exact (set5_raw (set5_keep (by omega) hr2 _ _ _ _ _) _ _ _ _ _) | with_reducible exact keep_alloc (set5_raw (set5_keep (by omega) hr2 _ _ _ _ _) _ _ _ _ _) _ | with_reducible exact (set5_raw hr3 _ _ _ _ _) | with_reducible exact keep_alloc (set5_raw hr3 _ _ _ _ _) _ | with_reducible exact (set5_keep (by omega) (set5_raw hr3 _ _ _ _ _) _ _ _ _ _) | with_reducible exact keep_alloc (set5_keep (by omega) (set5_raw hr3 _ _ _ _ _) _ _ _ _ _) _ | with_reducible exact (set5_raw (set5_keep (by omega) hr3 _ _ _ _ _) _ _ _ _ _) | with_reducible exact keep_alloc (set5_raw (set5_keep (by omega) hr3 _ _ _ _ _) _ _ _ _ _) _ | with_reducible exact (set5_raw hr4 _ _ _ _ _) | with_reducible exact keep_alloc (set5_raw hr4 _ _ _ _ _) _ | with_reducible exact (set5_keep (by omega) (set5_raw hr4 _ _ _ _ _) _ _ _ _ _) | with_reducible exact keep_alloc (set5_keep (by omega) (set5_raw hr4 _ _ _ _ _) _ _ _ _ _) _ | with_reducible exact (set5_raw (set5_keep (by omega) hr4 _ _ _ _ _) _ _ _ _ _) | with_reducible exact keep_alloc (set5_raw (set5_keep (by omega) hr4 _ _ _ _ _) _ _ _ _ _) _)), wk_of_heap (by (first | with_reducible exact fresh_at _ _ (by simp [World.setCell]) | with_reducible exact keep_alloc (fresh_at _ _ (by simp)) _ | with_reducible exact (set5_raw hr1 _ _ _ _ _) | with_reducible exact keep_alloc (set5_raw hr1 _ _ _ _ _) _ | with_reducible exact (set5_keep (by omega) (set5_raw hr1 _ _ _ _ _) _ _ _ _ _) | with_reducible exact keep_alloc (set5_keep (by omega) (set5_raw hr1 _ _ _ _ _) _ _ _ _ _) _ | with_reducible exact (set5_raw (set5_keep (by omega) hr1 _ _ _ _ _) _ _ _ _ _) | with_reducible exact keep_alloc (set5_raw (set5_keep (by omega) hr1 _ _ _ _ _) _ _ _ _ _) _ | with_reducible exact (set5_raw hr2 _ _ _ _ _) | with_reducible exact keep_alloc (set5_raw hr2 _ _ _ _ _) _ | with_reducible exact (set5_keep (by omega) (set5_raw hr2 _ _ _ _ _) _ _ _ _ _) | with_reducible exact keep_alloc (set5_keep (by omega) (set5_raw hr2 _ _ _ _ _) _ _ _ _ _) _ | with_reducible exact (set5_raw (set5_keep (by omega) hr2 _ _ _ _ _) _ _ _ _ _) | with_reducible exact keep_alloc (set5_raw (set5_keep (by omega) hr2 _ _ _ _ _) _ _ _ _ _) _ | with_reducible exact (set5_raw hr3 _ _ _ _ _) | with_reducible exact keep_alloc (set5_raw hr3 _ _ _ _ _) _ | with_reducible exact (set5_keep (by omega) (set5_raw hr3 _ _ _ _ _) _ _ _ _ _) | with_reducible exact keep_alloc (set5_keep (by omega) (set5_raw hr3 _ _ _ _ _) _ _ _ _ _) _ | with_reducible exact (set5_raw (set5_keep (by omega) hr3 _ _ _ _ _) _ _ _ _ _) | with_reducible exact keep_alloc (set5_raw (set5_keep (by omega) hr3 _ _ _ _ _) _ _ _ _ _) _ | with_reducible exact (set5_raw hr4 _ _ _ _ _) | with_reducible exact keep_alloc (set5_raw hr4 _ _ _ _ _) _ | with_reducible exact (set5_keep (by omega) (set5_raw hr4 _ _ _ _ _) _ _ _ _ _) | with_reducible exact keep_alloc (set5_keep (by omega) (set5_raw hr4 _ _ _ _ _) _ _ _ _ _) _ | with_reducible exact (set5_raw (set5_keep (by omega) hr4 _ _ _ _ _) _ _ _ _ _) | with_reducible exact keep_alloc (set5_raw (set5_keep (by omega) hr4 _ _ _ _ _) _ _ _ _ _) _)), by omega, by omega, by omega, by (first | with_reducible exact (hS2).2.2.2.2.2.2 | with_reducible exact ((KA.out _ _ hS2)).2.2.2.2.2.2 | with_reducible exact ((KA.out _ _ (KA.out _ _ hS2))).2.2.2.2.2.2 | with_reducible exact ((KD.out _ _ _ _ (by omega) (KD.out _ _ _ _ (by omega) (KD.out _ _ _ _ (by omega) (KD.out _ _ _ _ (by omega) (KD.out _ _ _ _ (by omega) hS2)))))).2.2.2.2.2.2 | with_reducible exact ((KA.out _ _ (KD.out _ _ _ _ (by omega) (KD.out _ _ _ _ (by omega) (KD.out _ _ _ _ (by omega) (KD.out _ _ _ _ (by omega) (KD.out _ _ _ _ (by omega) hS2))))))).2.2.2.2.2.2 | with_reducible exact ((KA.out _ _ (KA.out _ _ (KD.out _ _ _ _ (by omega) (KD.out _ _ _ _ (by omega) (KD.out _ _ _ _ (by omega) (KD.out _ _ _ _ (by omega) (KD.out _ _ _ _ (by omega) hS2)))))))).2.2.2.2.2.2 | with_reducible exact ((KD.out _ _ _ _ (by omega) (KD.out _ _ _ _ (by omega) (KD.out _ _ _ _ (by omega) (KD.out _ _ _ _ (by omega) (KD.out _ _ _ _ (by omega) (KD.out _ _ _ _ (by omega) (KD.out _ _ _ _ (by omega) (KD.out _ _ _ _ (by omega) (KD.out _ _ _ _ (by omega) (KD.out _ _ _ _ (by omega) hS2))))))))))).2.2.2.2.2.2 | with_reducible exact ((KA.out _ _ (KD.out _ _ _ _ (by omega) (KD.out _ _ _ _ (by omega) (KD.out _ _ _ _ (by omega) (KD.out _ _ _ _ (by omega) (KD.out _ _ _ _ (by omega) (KD.out _ _ _ _ (by omega) (KD.out _ _ _ _ (by omega) (KD.out _ _ _ _ (by omega) (KD.out _ _ _ _ (by omega) (KD.out _ _ _ _ (by omega) hS2)))))))))))).2.2.2.2.2.2 | with_reducible exact ((KA.out _ _ (KA.out _ _ (KD.out _ _ _ _ (by omega) (KD.out _ _ _ _ (by omega) (KD.out _ _ _ _ (by omega) (KD.out _ _ _ _ (by omega) (KD.out _ _ _ _ (by omega) (KD.out _ _ _ _ (by omega) (KD.out _ _ _ _ (by omega) (KD.out _ _ _ _ (by omega) (KD.out _ _ _ _ (by omega) (KD.out _ _ _ _ (by omega) hS2))))))))))))).2.2.2.2.2.2)⟩
  case rest =>
    obtain ⟨g8, g9, rfl, rfl, HT⟩ := hcut
    obtain ⟨i0, hi0, hz0, hz1, hz2⟩ := info_parts info3
    have HBc : Hid (Below w.heap.size w wc) := HBb.out.trans (HT.out.below.mono HBb.out.size)
    have hwr : w.heap.size ≤ wb.heap.size := HBb.out.size
    have ho8 := HT.out.o8
    have ho9 := HT.out.o9
    have hne := HT.out.ne
    have hl8 := HT.out.u.lt
    have hl9 := HT.out.v.lt
    have u4 := HT.out.u.c4
    have v4 := HT.out.v.c4
    simp only [Nat.zero_add] at u4 v4
    obtain ⟨gc, hgc⟩ : ∃ q, wc.heap.size = q := ⟨_, rfl⟩
    have hva := okC_val HVAA.out (k := ka) (by have := HKA.out; have := HLEN.out; omega)
    have hvb := okC_val HVBB.out (k := kb) (by have := HKB.out; have := HLEN.out; omega)
    rw [HVV.out.1] at hva
    rw [HVV.out.2] at hvb
    obtain ⟨f0, hf0⟩ : ∃ q, va + vb = q := ⟨_, rfl⟩
    have hw1 : IntKind.i64.wrap (va + vb) = f0 := by rw [IntKind.wrap_i64]; omega
    have HF0 := hide hf0
    have HSS : Hid (AddS w g8 g9 gc (p + 1 + 1) a A1 n1 b A2 n2) := ⟨HAX.out.sl, HBX.out.sl, by omega, by omega, by omega, by omega, by omega, hne, by omega, by omega⟩
    have HS0 : Hid (AddI w (wc.alloc (.cells #[.int .i64 lo, .int .i64 f0, .slice none 0 0] 24)) g8 g9 gc (p + 1 + 1) a A1 n1 k1 b A2 n2 k2 lo f0 (addL a b ka kb 0) 0 none 0 (ka + 0) (kb + 0)) := by
      have hGa := (Gr.refl wc).alloc (.cells #[.int .i64 lo, .int .i64 f0, .slice none 0 0] 24)
      have hBa := HBc.out.trans (hGa.below.mono HBc.out.size)
      have hu : WkAt (wc.alloc (.cells #[.int .i64 lo, .int .i64 f0, .slice none 0 0] 24)) g8 0 a A1 n1 k1 (a.fr + ((ka + 0 : Nat) : Int)) (valK a (ka + 0)) := by
        have h := HT.out.u.gr hGa
        rw [Nat.add_zero, HVV.out.1, ← HKA.out.2.1]
        exact h
      have hv : WkAt (wc.alloc (.cells #[.int .i64 lo, .int .i64 f0, .slice none 0 0] 24)) g9 0 b A2 n2 k2 (b.fr + ((kb + 0 : Nat) : Int)) (valK b (kb + 0)) := by
        have h := HT.out.v.gr hGa
        rw [Nat.add_zero, HVV.out.2, ← HKB.out.2.1]
        exact h
      refine ⟨⟨hu, HAX.out.sl.now hBa (Nat.le_refl _), fun hz ad e => by have := HAX.out.old hz ad e; omega, HKA.out.2.2⟩, ⟨hv, HBX.out.sl.now hBa (Nat.le_refl _), fun hz ad e => by have := HBX.out.old hz ad e; omega, HKB.out.2.2⟩, ?_, World.ownsRow_nil _ _ _ _, ?_, hBa, by rw [World.size_alloc]; omega⟩
      · rw [← hgc]
        exact heap_alloc_new wc _
      · exact (hGa.block (k := p + 1 + 1) (by omega)).trans ((HT.out.below.block (p + 1 + 1) (by omega)).trans HRb.out)
    clear hva hvb hf0 ho8 ho9 hne hl8 hl9 hwr SB HA1 HA2 KC KA KAd KD K0 HZ10 HZ20 HZ21 HZ30 HZ31 HZ32 q0 q1 q2 q3 q4 q5
    go_wp2_with fail
    go_loopg [] ((hi - lo).toNat) (fun f wr => ∃ (j : Nat) (x : Option Addr) (cp : Nat), (j : Int) ≤ hi - lo ∧ f = (hi - lo).toNat - j ∧ Hid (AddI w wr g8 g9 gc (p + 1 + 1) a A1 n1 k1 b A2 n2 k2 lo f0 (addL a b ka kb j) j x cp (ka + j) (kb + j)))
    case atStart => exact ⟨0, none, 0, by omega, rfl, HS0⟩
    case round =>
      obtain ⟨j, x, cp, hj, rfl, HI⟩ := hrel
      have g3 := HI.out.u.wk.c3
      simp only [Nat.zero_add] at g3
      obtain ⟨xx, hxx⟩ : ∃ q, a.fr + ((ka + j : Nat) : Int) = q := ⟨_, rfl⟩
      rw [hxx] at g3
      have hk1 := HKA.out
      have hk2 := HKB.out
      have hle := HLEN.out
      have hxl : xx = lo + j := by omega
      have hh := HHI.out
      by_cases hlt : xx < hi
      · have hd2 : decide (xx < hi) = true := decide_eq_true hlt
        have hjn1 : ka + j < n1 := by omega
        have hjn2 : kb + j < n2 := by omega
        have hr1 := okC_sl HVAA.out (k := ka + j) (by omega)
        have hr2 := okC_sl HVBB.out (k := kb + j) (by omega)
        have hfa := okC_fr HVAA.out
        have hfb := okC_fr HVBB.out
        have HF8 := hide (fun W (hG : Gr wr W) => after_any g8 0 a A1 n1 k1 (ka + j) (valK a (ka + j)) W (HI.out.u.wk.gr hG) (HI.out.u.sl.gr hG) hfa.1 hfa.2 (by omega) (by omega))
        have HF9 := hide (fun W (hG : Gr wr W) => after_any g9 0 b A2 n2 k2 (kb + j) (valK b (kb + j)) W (HI.out.v.wk.gr hG) (HI.out.v.sl.gr hG) hfb.1 hfb.2 (by omega) (by omega))
        have ha8 : aftV a (ka + j) = iA a.sl (ka + j) := if_neg (by omega)
        have ha9 : aftV b (kb + j) = iA b.sl (kb + j) := if_neg (by omega)
        rw [ha8] at HF8
        rw [ha9] at HF9
        have HLS : Hid (addL a b ka kb (j + 1) = addL a b ka kb j ++ [iA a.sl (ka + j) + iA b.sl (kb + j)]) := by
          show _ = _
          unfold addL
          rw [List.range_succ, List.map_append]
          rfl
        obtain ⟨s8, hs8⟩ : ∃ q, iA a.sl (ka + j) = q := ⟨_, rfl⟩
        obtain ⟨s9, hs9⟩ : ∃ q, iA b.sl (kb + j) = q := ⟨_, rfl⟩
        rw [hs8] at HF8 HLS hr1
        rw [hs9] at HF9 HLS hr2
        obtain ⟨sz, hsz⟩ : ∃ q, s8 + s9 = q := ⟨_, rfl⟩
        rw [hsz] at HLS
        have hwz : IntKind.i64.wrap (s8 + s9) = sz := by rw [IntKind.wrap_i64]; omega
        have hcj := HI.out.conj
        have z2 := cell_of_heap' hcj 2
        simp at z2
        have hgl : gc < wr.heap.size := by have := HI.out.size; omega
        have hN1 : j + 1 ≤ maxLen := by unfold maxLen; omega
        have hN2 : (j + 1) * 8 ≤ 140737488355328 := by omega
        have HJN := hide (show ka + j < n1 ∧ kb + j < n2 ∧ (j : Int) + 1 ≤ hi - lo from ⟨hjn1, hjn2, by omega⟩)
        have HLT := hide hlt
        clear hs8 hs9 hsz hr1 hr2 hfa hfb ha8 ha9 hcj hk1 hk2 hle hxl hh hxx hjn1 hjn2
        go_wp2_with fail
        go_region_law (first | (go_simp; go_at_call 63; with_reducible refine (HF8.out _ ((Gr.refl wr).drew)).mono ?_; rintro e w4 ⟨rfl, hG4'⟩; have hG4 : Gr wr w4 := ((Gr.refl wr).drew).trans hG4'; have z4 := (hG4.cell (p := ⟨gc, 2, none⟩) hgl).trans z2) | (go_simp; go_at_call 63; with_reducible refine (HF9.out _ hG4).mono ?_; rintro e w5 ⟨rfl, hG5'⟩; have hG5 : Gr wr w5 := hG4.trans hG5'; have z5 := (hG5.cell (p := ⟨gc, 2, none⟩) hgl).trans z2; have z6 : (w5.alloc (.cells #[.int .i64 sz] 3)).cell? ⟨gc, 2, none⟩ = some (.slice x j cp) := ((hG5.alloc _).cell (p := ⟨gc, 2, none⟩) hgl).trans z2) | (refine step_append_lies _ (by rfl) _ _ _ (by rfl) (gc + 1) 3 i0 _ 1 8 Try.underlying22 hi0 hz0 hz1 hz2 rfl (by omega) (.slice x j cp) j ((addL a b ka kb j).map (Value.int .i64)) (by rfl) ((own_below HI.out.row hG5.below).alloc _) ⟨w5.heap.size, 0, none⟩ 1 1 [.int .i64 sz] (by rfl) (by rfl) (World.news_of_block (cs := #[.int .i64 sz]) (t := 3) (fr := (0, 0)) (heap_alloc_new w5 _)) (by simp [Value.oneCell']) (by omega) hN1 hN2 (by rw [World.size_alloc]; have := hG5.size; have := HI.out.size; omega) (w5.heap.size + 1) (by simp) ?_; intro gg c2 w6 hown6 hgrow6 hat6 hlt6; obtain ⟨hn8, hc8⟩ := HI.out.push HSS.out hG5 hown6 hgrow6; have u2 := cell_of_heap' hc8 2; have f2 := frozen_of_heap' hc8 2; simp at u2))
        all_goals
          have HM := hide hn8
          have HS8 := hide (onway_step HVAA.out HM.out.u HJN.out.1)
          clear hn8 hc8 hown6 hgrow6 hat6 hlt6 hG4 hG4' hG5 hG5' z2 z4 z5 z6 hN1 hN2 hgl HF8 HF9
          go_wp2_with fail
          refine HS8.out.mono ?_
          rintro e w9 ⟨rfl, ho, hk9⟩
          have HM9 := hide (HM.out.stepU HSS.out ho hk9)
          have HS9 := hide (onway_step HVBB.out HM9.out.v HJN.out.2.1)
          clear ho hk9 HS8 u2 f2
          go_wp2_with fail
          refine HS9.out.mono ?_
          rintro e w10 ⟨rfl, ho, hk10⟩
          have HMa := hide (HM9.out.stepV HSS.out ho hk10)
          rw [← HLS.out] at HMa
          clear ho hk10 HS9
          go_wp2_with fail
          go_roundg ((hi - lo).toNat - (j + 1))
          case measure => have := HJN.out.2.2; omega
          case rel => exact ⟨j + 1, _, c2, by have := HJN.out.2.2; omega, rfl, HMa⟩
      · have hd2 : decide (xx < hi) = false := decide_eq_false hlt
        have hjD : (hi - lo).toNat = j := by omega
        have HCE : Hid (addC a b = ⟨lo, f0, addL a b ka kb j⟩) := by
          show _ = _
          unfold addC
          rw [hle.1, hle.2.1, HLO.out, hh, hk1.1, hk2.1, HVV.out.1, HVV.out.2, HF0.out, hjD]
          rfl
        have HRS := hide (result_any ⟨lo, f0, addL a b ka kb j⟩ x j cp wr (ints_of_own HI.out.row) (by omega))
        rw [← HCE.out] at HRS
        have HRS2 : Hid (Calls Try.prog 60 #[.agg #[.int .i64 lo, .int .i64 f0, .slice x j cp]] wr fun e w' => e = .returned (resV (addC a b) x j cp) ∧ Below wr.heap.size wr w') := by rw [HCE.out] at HRS ⊢; exact HRS
        have za := fun i => cell_of_heap' HI.out.conj i
        have a0 := za 0
        have a1 := za 1
        have a2 := za 2
        simp at a0 a1 a2
        have hsI := HI.out.size
        clear za hk1 hk2 hle hxl hh hxx HRS hjD
        go_wp2_with fail
        refine HRS2.out.mono ?_
        rintro e w8 ⟨rfl, hb8⟩
        have hz8 := (hb8.block (p + 1 + 1) (by have := HSS.out.lr; omega)).trans HI.out.res
        have HZ8 := hide hz8
        have HB8 : Hid (Below w.heap.size w w8) := HI.out.below.trans (hb8.mono HI.out.below.size)
        have HT8 : Hid (w8.ownsRow (gc + 1) 3 1 (.slice x j cp) j ((addC a b).sl.map (Value.int .i64))) := by
          show World.ownsRow _ _ _ _ _ _ _
          rw [HCE.out]
          exact own_below HI.out.row hb8
        have r0 := cell_of_heap' hz8 0
        have r1 := cell_of_heap' hz8 1
        have r2 := cell_of_heap' hz8 2
        have y0 := frozen_of_heap' hz8 0
        have y1 := frozen_of_heap' hz8 1
        have y2 := frozen_of_heap' hz8 2
        simp at r0 r1 r2
        clear hz8 hb8 a0 a1 a2
        unfold resV
        have HSZ := hide (show p + 1 + 1 < gc ∧ w.heap.size ≤ gc ∧ w.heap.size ≤ p + 1 + 1 from ⟨HSS.out.lr, by have := HSS.out.o8; have := HSS.out.l8; omega, by omega⟩)
        by_cases hok : okC (addC a b) = true
        · rw [if_pos hok]
          have HJ2 : Hid (addV a b = (addC a b, 0)) := by show _ = _; rw [HJ.out, res2, if_pos hok]
          have HCF : Hid ((addC a b).fr = lo ∧ (addC a b).fst = f0) := by show _ ∧ _; rw [HCE.out]; exact ⟨rfl, rfl⟩
          rw [HCF.out.1, HCF.out.2]
          clear hok
          go_wp2_with fail
          refine bodyPost_ret (results26 (set3_heap HZ8.out _ _ _) _ _ _ _ _ _) rfl ?_
          refine ⟨x, j, cp, by rw [HJ2.out, ← HCF.out.1, ← HCF.out.2] <;> rfl, ?_, set3_below HB8.out HSZ.out.2.2 _ _ _⟩
          rw [HJ2.out]
          exact own_base (own_set3 HT8.out (by have := HSZ.out; omega) _ _ _) (by have := HSZ.out; omega)
        · rw [if_neg hok]
          have HJ2 : Hid (addV a b = (Cu.zero, 4)) := by show _ = _; rw [HJ.out, res2, if_neg hok]
          clear hok
          go_wp2_with fail
          refine bodyPost_ret (results26 (set3_heap HZ8.out _ _ _) _ _ _ _ _ _) rfl ?_
          refine ⟨none, 0, 0, by rw [HJ2.out] <;> rfl, ?_, set3_below HB8.out HSZ.out.2.2 _ _ _⟩
          rw [HJ2.out]
          exact World.ownsRow_nil _ _ _ _

end Go.Proofs.Ytdepnhnpklbmiaa
