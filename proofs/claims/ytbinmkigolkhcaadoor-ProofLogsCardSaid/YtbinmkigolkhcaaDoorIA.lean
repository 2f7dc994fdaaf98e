/- The specification's next. -/
import Derived.Test.YtbinmkigolkhcaaDoorHT
import Derived.Test.YtbinmkigolkhcaaDoorHR
import Derived.Test.YtbinmkigolkhcaaDoorMC
import Derived.RegionTactic
import Derived.Deep.DeepCutAuto
set_option linter.unusedSimpArgs false
set_option linter.unusedVariables false
namespace Go.Proofs.YtbinmkigolkhcaaDoor
open Go.RowKit Go.Sort
attribute [local go_sem] Oper.semAt_some

def NextP (h o r k : Nat) (s : Bool) (w : World) (e : Ending) (w' : World) : Prop := e = .returned (.tuple #[.int .u64 (h : Nat), (.agg #[.int .u64 (o : Nat), .int .u64 (r : Nat), .int .i64 (k : Nat), .bool s])]) ∧ Below w.heap.size w w'

set_option maxHeartbeats 2000000 in
set_option maxRecDepth 100000 in
theorem next_no (o r t : Nat) (s : Bool) (A : Option Addr) (k c : Nat) (w : World) (h : k ≤ t) : 
    Calls Tryd.prog 97 #[(.agg #[.int .u64 (o : Nat), .int .u64 (r : Nat), .int .i64 (t : Nat), .bool s]), .slice A k c] w (NextP 0 o r t true w) := by
  have mixed := mixedOrders
  have g1 : (k : Int) ≤ (t : Int) := by omega
  clear h
  go_enter Tryd.func97, Tryd.ntmps97
  go_wp2_with fail
  go_region
  all_goals
    go_wp2
    refine bodyPost_ret (v := .tuple #[.int .u64 0, (.agg #[.int .u64 (o : Nat), .int .u64 (r : Nat), .int .i64 (t : Nat), .bool true])]) (by simp [results, Tryd.results97, go_sem]) rfl ⟨rfl, ?_⟩
    exact (((Gr.refl w).alloc _).alloc _).drew.below
set_option maxHeartbeats 2000000 in
set_option maxRecDepth 100000 in
theorem next_yes (o r t : Nat) (s : Bool) (A : Option Addr) (k c : Nat) (hs : List Nat) (w : World) (hx : HashesAt w.heap.size w A k hs) (h : t < k) (hk : k ≤ 1000000) : 
    Calls Tryd.prog 97 #[(.agg #[.int .u64 (o : Nat), .int .u64 (r : Nat), .int .i64 (t : Nat), .bool s]), .slice A k c] w (NextP (hashA hs t) o r (t + 1) s w) := by
  have mixed := mixedOrders
  have g1 : ¬ (k : Int) ≤ (t : Int) := by omega
  have g2 : (t : Int) < (k : Int) := by omega
  obtain ⟨b, off, rfl, hb, c0, -⟩ := hx.at_ h
  have g3 : (t : Int) ≤ 1000000 := by omega
  obtain ⟨x, hxx⟩ : ∃ x, hashA hs t = x := ⟨_, rfl⟩
  rw [hxx] at c0 ⊢
  clear h hk hx hxx
  go_enter Tryd.func97, Tryd.ntmps97
  go_wp2_with fail
  go_region
  all_goals
    go_wp2
    refine bodyPost_ret (v := .tuple #[.int .u64 (x : Nat), (.agg #[.int .u64 (o : Nat), .int .u64 (r : Nat), .int .i64 ((t + 1) : Nat), .bool s])]) (by simp [results, Tryd.results97, go_sem]) rfl ⟨rfl, ?_⟩
    exact (((Gr.refl w).alloc _).alloc _).drew.below
theorem next_any (t : TwoS) (A : Option Addr) (k c : Nat) (hs : List Nat) (w : World) (hx : HashesAt w.heap.size w A k hs) (hk : k ≤ 1000000) :
    Calls Tryd.prog 97 #[(.agg #[.int .u64 (t.old : Nat), .int .u64 (t.root : Nat), .int .i64 (t.taken : Nat), .bool t.short]), .slice A k c] w (NextP (t.next hs).1 (t.next hs).2.old (t.next hs).2.root (t.next hs).2.taken (t.next hs).2.short w) := by
  by_cases h : hs.length ≤ t.taken
  · rw [next_none h]
    exact next_no _ _ _ _ A k c w (by rw [← hx.1]; exact h)
  · rw [next_some h]
    exact next_yes _ _ _ _ A k c hs w hx (by rw [← hx.1]; omega) hk
theorem next_lt {t : TwoS} {hs : List Nat} (hp : ∀ p ∈ hs, p < 18446744073709551616) : (t.next hs).1 < 18446744073709551616 := by
  by_cases h : hs.length ≤ t.taken
  · rw [next_none h]
    exact Nat.two_pow_pos 64
  · rw [next_some h]
    exact getD_lt hp _
theorem next_old {t : TwoS} {hs : List Nat} : (t.next hs).2.old = t.old ∧ (t.next hs).2.root = t.root := by
  by_cases h : hs.length ≤ t.taken
  · rw [next_none h]
    exact ⟨rfl, rfl⟩
  · rw [next_some h]
    exact ⟨rfl, rfl⟩
theorem made_lt (hs : List Nat) (hp : ∀ p ∈ hs, p < 18446744073709551616) : ∀ (N m n old : Nat) (wh : Bool), n ≤ N → 1 ≤ m → m ≤ n → old < 18446744073709551616 → (madeV m n old wh hs).old < 18446744073709551616 ∧ (madeV m n old wh hs).root < 18446744073709551616 := by
  intro N
  induction N with
  | zero => intro m n old wh h h1 h2; omega
  | succ N ih =>
    intro m n old wh h h1 h2 ho
    have nv := fun a b => nodeV_lt a b
    have nx : ∀ t : TwoS, (t.next hs).1 < 18446744073709551616 := fun t => next_lt hp
    generalize 18446744073709551616 = big at *
    by_cases c3 : m = n
    · subst c3
      cases wh
      · rw [made_part h1]
        unfold TwoS.part
        exact ⟨nx _, nx _⟩
      · rw [made_whole h1]
        exact ⟨ho, ho⟩
    have hh := halfN_lt (n := n) (by omega)
    by_cases c4 : m ≤ halfN n
    · have i1 := (ih m (halfN n) old wh (by omega) h1 c4 ho).1
      rw [made_lo h1 (by omega) c4]
      generalize madeV m (halfN n) old wh hs = T at i1 ⊢
      unfold TwoS.lo
      refine ⟨?_, nv _ _⟩
      rw [next_old.1]
      exact i1
    · rw [made_hi h1 (by omega) (by omega)]
      generalize madeV (m - halfN n) (n - halfN n) old false hs = T
      unfold TwoS.hi
      exact ⟨nv _ _, nv _ _⟩
theorem bcell {W w1 : World} (hb : Below W.heap.size W w1) : (∀ b o, b < W.heap.size → w1.cell? ⟨b, o, none⟩ = W.cell? ⟨b, o, none⟩) ∧ (∀ b o, b < W.heap.size → w1.frozen? ⟨b, o, none⟩ = W.frozen? ⟨b, o, none⟩) :=
  ⟨fun b o h => hb.cell (p := ⟨b, o, none⟩) h, fun b o h => hb.frozen (p := ⟨b, o, none⟩) h⟩
def MadeP (t : TwoS) (w : World) (e : Ending) (w' : World) : Prop := e = .returned (.agg #[.int .u64 (t.old : Nat), .int .u64 (t.root : Nat), .int .i64 (t.taken : Nat), .bool t.short]) ∧ Below w.heap.size w w'
/-- the result's block, and the variable's behind it -/
def Pair (W : World) (p o r k : Nat) (s : Bool) : Prop :=
  W.heap[p]? = some (.cells #[.int .u64 0, .int .u64 0, .int .i64 0, .bool false] 98 (0, 0)) ∧ W.heap[p + 1]? = some (.cells #[.int .u64 (o : Nat), .int .u64 (r : Nat), .int .i64 (k : Nat), .bool s] 98 (0, 0))
theorem Pair.lt {W : World} {p o r k : Nat} {s : Bool} (h : Pair W p o r k s) : p + 1 < W.heap.size := (Array.getElem?_eq_some_iff.1 h.2).1
theorem Pair.below {W W' : World} {p o r k : Nat} {s : Bool} (h : Pair W p o r k s) (hb : Below W.heap.size W W') : Pair W' p o r k s :=
  ⟨(hb.block p (by have := h.lt; omega)).trans h.1, (hb.block (p + 1) h.lt).trans h.2⟩
theorem Pair.facts {W : World} {p o r k : Nat} {s : Bool} (h : Pair W p o r k s) :
    (W.cell? ⟨p, 0, none⟩ = some (.int .u64 0) ∧ W.cell? ⟨p, 1, none⟩ = some (.int .u64 0) ∧ W.cell? ⟨p, 2, none⟩ = some (.int .i64 0) ∧ W.cell? ⟨p, 3, none⟩ = some (.bool false)) ∧
    (W.cell? ⟨p + 1, 0, none⟩ = some (.int .u64 (o : Nat)) ∧ W.cell? ⟨p + 1, 1, none⟩ = some (.int .u64 (r : Nat)) ∧ W.cell? ⟨p + 1, 2, none⟩ = some (.int .i64 (k : Nat)) ∧ W.cell? ⟨p + 1, 3, none⟩ = some (.bool s)) ∧
    (∀ i, W.frozen? ⟨p, i, none⟩ = false) ∧ (∀ i, W.frozen? ⟨p + 1, i, none⟩ = false) := by
  obtain ⟨h1, h2⟩ := h
  refine ⟨⟨?_, ?_, ?_, ?_⟩, ⟨?_, ?_, ?_, ?_⟩, fun i => ?_, fun i => ?_⟩
  all_goals first | (unfold World.cell?; simp [h1]; done) | (unfold World.cell?; simp [h2]; done) | (unfold World.frozen?; simp [h1]; done) | (unfold World.frozen?; simp [h2]; done)
theorem pair_new (w : World) (old : Nat) : Pair ((w.alloc (.cells #[.int .u64 0, .int .u64 0, .int .i64 0, .bool false] 98)).alloc (.cells #[.int .u64 (old : Nat), .int .u64 (old : Nat), .int .i64 0, .bool false] 98)) w.heap.size old old 0 false := by
  refine ⟨?_, ?_⟩
  · exact ((((Gr.refl (w.alloc (.cells #[.int .u64 0, .int .u64 0, .int .i64 0, .bool false] 98))).alloc _).below).block w.heap.size (by simp)).trans (heap_alloc_new w _)
  · have := heap_alloc_new (w.alloc (.cells #[.int .u64 0, .int .u64 0, .int .i64 0, .bool false] 98)) (.cells #[.int .u64 (old : Nat), .int .u64 (old : Nat), .int .i64 0, .bool false] 98)
    simpa using this

theorem box_new (w : World) (o r k : Nat) (s : Bool) : (w.alloc (.cells #[.int .u64 (o : Nat), .int .u64 (r : Nat), .int .i64 (k : Nat), .bool s] 98)).cell? ⟨w.heap.size, 0, none⟩ = some (.int .u64 (o : Nat)) ∧
    (w.alloc (.cells #[.int .u64 (o : Nat), .int .u64 (r : Nat), .int .i64 (k : Nat), .bool s] 98)).cell? ⟨w.heap.size, 1, none⟩ = some (.int .u64 (r : Nat)) ∧
    (w.alloc (.cells #[.int .u64 (o : Nat), .int .u64 (r : Nat), .int .i64 (k : Nat), .bool s] 98)).cell? ⟨w.heap.size, 2, none⟩ = some (.int .i64 (k : Nat)) ∧
    (w.alloc (.cells #[.int .u64 (o : Nat), .int .u64 (r : Nat), .int .i64 (k : Nat), .bool s] 98)).cell? ⟨w.heap.size, 3, none⟩ = some (.bool s) := by
  refine ⟨?_, ?_, ?_, ?_⟩ <;> simp
theorem set_far {W : World} {b b2 i : Nat} {v : Value} {o : Obj} (h : W.heap[b]? = some o) (hne : b ≠ b2) : (W.setCell ⟨b2, i, none⟩ v).heap[b]? = some o := (Below.heap_setCell _ _ _ _ hne).trans h
theorem pair_s0 {W : World} {p o r k : Nat} {s : Bool} (h : Pair W p o r k s) (x : Nat) : Pair (W.setCell ⟨p + 1, 0, none⟩ (.int .u64 (x : Nat))) p x r k s :=
  ⟨set_far h.1 (by omega), by simpa using heap_setCell_same W (p + 1) 0 _ _ (.int .u64 (x : Nat)) h.2⟩
theorem pair_s1 {W : World} {p o r k : Nat} {s : Bool} (h : Pair W p o r k s) (x : Nat) : Pair (W.setCell ⟨p + 1, 1, none⟩ (.int .u64 (x : Nat))) p o x k s :=
  ⟨set_far h.1 (by omega), by simpa using heap_setCell_same W (p + 1) 1 _ _ (.int .u64 (x : Nat)) h.2⟩
theorem pair_s2 {W : World} {p o r k : Nat} {s : Bool} (h : Pair W p o r k s) (x : Nat) : Pair (W.setCell ⟨p + 1, 2, none⟩ (.int .i64 (x : Nat))) p o r x s :=
  ⟨set_far h.1 (by omega), by simpa using heap_setCell_same W (p + 1) 2 _ _ (.int .i64 (x : Nat)) h.2⟩
theorem pair_s3 {W : World} {p o r k : Nat} {s : Bool} (h : Pair W p o r k s) (x : Bool) : Pair (W.setCell ⟨p + 1, 3, none⟩ (.bool x)) p o r k x :=
  ⟨set_far h.1 (by omega), by simpa using heap_setCell_same W (p + 1) 3 _ _ (.bool x) h.2⟩
set_option maxHeartbeats 4000000 in
set_option maxRecDepth 100000 in
theorem made_any : ∀ (N n m old : Nat) (wh : Bool) (A : Option Addr) (k c : Nat) (hs : List Nat) (w : World), n ≤ N → 1 ≤ m → m ≤ n → n ≤ 1000000 → HashesAt w.heap.size w A k hs → k ≤ 1000000 → old < 18446744073709551616 →
    Calls Tryd.prog 73 #[.int .i64 m, .int .i64 n, .int .u64 old, .bool wh, .slice A k c] w (MadeP (madeV m n old wh hs) w) := by
  have mixed := mixedOrders
  intro N
  induction N with
  | zero => intro n m old wh A k c hs w hN h1 h2; omega
  | succ N ih =>
    intro n m old wh A k c hs w hN h1 h2 hn hx hk ho
    obtain ⟨W1, hW1⟩ : ∃ W1, (w.alloc (.cells #[.int .u64 0, .int .u64 0, .int .i64 0, .bool false] 98)).alloc (.cells #[.int .u64 (old : Nat), .int .u64 (old : Nat), .int .i64 0, .bool false] 98) = W1 := ⟨_, rfl⟩
    obtain ⟨p, hp⟩ : ∃ p, w.heap.size = p := ⟨_, rfl⟩
    have hal : Below p w W1 := by rw [← hW1, ← hp]; exact (((Gr.refl w).alloc _).alloc _).below
    have hpr : Pair W1 p old old 0 false := by rw [← hW1, ← hp]; exact pair_new w old
    have hx1 : HashesAt W1.heap.size W1 A k hs := hx.now (by rw [hp]; exact hal) (Nat.le_refl _)
    have HW := hide (And.intro hW1 hp)
    have HAL := hide hal
    have HPR := hide hpr
    clear hW1 hp hal hpr
    by_cases c3 : m = n
    · subst c3
      have z1 : ((m : Int) == (m : Int)) = true := by simp
      cases wh
      · rw [made_part h1]
        have HC := hide (next_any ⟨old, old, 0, false⟩ A k c hs W1 hx1 hk)
        unfold TwoS.part
        obtain ⟨T, hT⟩ : ∃ T, (⟨old, old, 0, false⟩ : TwoS).next hs = T := ⟨_, rfl⟩
        rw [hT] at HC ⊢
        obtain ⟨x, o1, r1, t1, s1⟩ := T
        have HC1 : Hid (Calls Tryd.prog 97 #[.agg #[.int .u64 (old : Nat), .int .u64 (old : Nat), .int .i64 0, .bool false], .slice A k c] W1 (NextP x o1 r1 t1 s1 W1)) := HC.out
        clear hT HC ih hN h1 h2 hn hx hk ho hx1
        show Calls _ _ _ _ (MadeP ⟨x, x, t1, s1⟩ w)
        go_enter Tryd.func73, Tryd.ntmps73
        go_wp2_with fail
        rw [HW.out.1, HW.out.2]
        refine HC1.out.mono ?_
        rintro e w2 ⟨rfl, hb⟩
        have HPR2 := hide (HPR.out.below hb)
        have HB2 := hide (HAL.out.trans (hb.mono (by have := HPR.out.lt; omega)))
        clear hb
        go_upto_region 5 with (fail)
        have HPn := hide (HPR2.out.below ((Below.refl _ w2).alloc (Nat.le_refl _) (.cells #[.int .u64 (o1 : Nat), .int .u64 (r1 : Nat), .int .i64 (t1 : Nat), .bool s1] 98)))
        have HBn := hide (HB2.out.alloc (by have := HPR2.out.lt; omega) (.cells #[.int .u64 (o1 : Nat), .int .u64 (r1 : Nat), .int .i64 (t1 : Nat), .bool s1] 98))
        have HNn := hide (box_new w2 o1 r1 t1 s1)
        have HLn := hide HPR2.out.lt
        obtain ⟨W3, hWn⟩ : ∃ W, w2.alloc (.cells #[.int .u64 (o1 : Nat), .int .u64 (r1 : Nat), .int .i64 (t1 : Nat), .bool s1] 98) = W := ⟨_, rfl⟩
        rw [hWn] at HPn HBn HNn ⊢
        obtain ⟨g, hg⟩ : ∃ g, w2.heap.size = g := ⟨_, rfl⟩
        rw [hg] at HNn HLn ⊢
        have hz : p + 1 ≠ g := by have := HLn.out; omega
        have hz2 : p ≠ g := by have := HLn.out; omega
        clear hWn hg HLn
        have HPW3 := HPn
        have HBW3 := HBn
        clear HPn HBn
        obtain ⟨d0, d1, d2, d3⟩ := HNn.out
        clear HNn
        obtain ⟨⟨a0, a1, a2, a3⟩, ⟨b0, b1, b2, b3⟩, f0, f1⟩ := HPW3.out.facts
        have f00 := f0 0
        have f01 := f0 1
        have f02 := f0 2
        have f03 := f0 3
        have f10 := f1 0
        have f11 := f1 1
        have f12 := f1 2
        have f13 := f1 3
        clear f0 f1
        go_upto_region 8 with (fail)
        have HPn := hide (pair_s1 (pair_s0 (pair_s3 (pair_s2 (pair_s1 (pair_s0 HPW3.out o1) r1) t1) s1) x) x)
        have HBn := hide (Below.setCell (p := ⟨p + 1, 1, none⟩) (Below.setCell (p := ⟨p + 1, 0, none⟩) (Below.setCell (p := ⟨p + 1, 3, none⟩) (Below.setCell (p := ⟨p + 1, 2, none⟩) (Below.setCell (p := ⟨p + 1, 1, none⟩) (Below.setCell (p := ⟨p + 1, 0, none⟩) HBW3.out (Nat.le_succ p) (.int .u64 (o1 : Nat))) (Nat.le_succ p) (.int .u64 (r1 : Nat))) (Nat.le_succ p) (.int .i64 (t1 : Nat))) (Nat.le_succ p) (.bool s1)) (Nat.le_succ p) (.int .u64 (x : Nat))) (Nat.le_succ p) (.int .u64 (x : Nat)))
        obtain ⟨W4, hWn⟩ : ∃ W, ((((((W3.setCell ⟨p + 1, 0, none⟩ (.int .u64 (o1 : Nat))).setCell ⟨p + 1, 1, none⟩ (.int .u64 (r1 : Nat))).setCell ⟨p + 1, 2, none⟩ (.int .i64 (t1 : Nat))).setCell ⟨p + 1, 3, none⟩ (.bool s1)).setCell ⟨p + 1, 0, none⟩ (.int .u64 (x : Nat))).setCell ⟨p + 1, 1, none⟩ (.int .u64 (x : Nat))) = W := ⟨_, rfl⟩
        rw [hWn] at HPn HBn ⊢
        clear hWn
        clear d0 d1 d2 d3 hz hz2 a0 a1 a2 a3 b0 b1 b2 b3 f00 f01 f02 f03 f10 f11 f12 f13
        have HPW4 := HPn
        have HBW4 := HBn
        clear HPn HBn
        obtain ⟨⟨a0, a1, a2, a3⟩, ⟨b0, b1, b2, b3⟩, f0, f1⟩ := HPW4.out.facts
        have f00 := f0 0
        have f01 := f0 1
        have f02 := f0 2
        have f03 := f0 3
        have f10 := f1 0
        have f11 := f1 1
        have f12 := f1 2
        have f13 := f1 3
        clear f0 f1
        go_wp2_with fail
        refine bodyPost_ret (v := .agg #[.int .u64 (x : Nat), .int .u64 (x : Nat), .int .i64 (t1 : Nat), .bool s1]) (by simp [results, Tryd.results73, go_sem, a0, a1, a2, a3]) rfl ⟨rfl, ?_⟩
        rw [HW.out.2]
        repeat (refine Below.setCell ?_ (by first | exact Nat.le_succ p | exact Nat.le_refl p) _)
        exact HBW4.out
      · rw [made_whole h1]
        clear ih hN h1 h2 hn hx hk ho hx1
        go_enter Tryd.func73, Tryd.ntmps73
        go_wp2_with fail
        refine bodyPost_ret (v := .agg #[.int .u64 (old : Nat), .int .u64 (old : Nat), .int .i64 0, .bool false]) (by simp [results, Tryd.results73, go_sem]) rfl ⟨rfl, ?_⟩
        exact (((Gr.refl w).alloc _).alloc _).below
    · have hh := halfN_lt (n := n) (by omega)
      have z1 : ((m : Int) == (n : Int)) = false := beq_eq_false_iff_ne.2 (by omega)
      by_cases c4 : m ≤ halfN n
      · have ML := made_lt hs hx.2.1 (halfN n) m (halfN n) old wh (Nat.le_refl _) h1 c4 ho
        have IH := hide (ih (halfN n) m old wh A k c hs W1 (by omega) h1 c4 (by omega) hx1 hk ho)
        rw [made_lo h1 (by omega) c4]
        unfold TwoS.lo
        obtain ⟨T, hT⟩ : ∃ T, madeV m (halfN n) old wh hs = T := ⟨_, rfl⟩
        rw [hT] at IH ML ⊢
        have NX : Hid (∀ w1, Below p w w1 → Calls Tryd.prog 97 #[.agg #[.int .u64 (T.old : Nat), .int .u64 (T.root : Nat), .int .i64 (T.taken : Nat), .bool T.short], .slice A k c] w1 (NextP (T.next hs).1 (T.next hs).2.old (T.next hs).2.root (T.next hs).2.taken (T.next hs).2.short w1)) :=
          fun w1 hb => next_any T A k c hs w1 (hx.now (by rw [HW.out.2]; exact hb) (Nat.le_refl _)) hk
        have hno := next_old (t := T) (hs := hs)
        have hnl := next_lt (t := T) hx.2.1
        obtain ⟨U, hU⟩ : ∃ U, T.next hs = U := ⟨_, rfl⟩
        rw [hU] at NX hno hnl ⊢
        obtain ⟨x, o1, r1, t1, s1⟩ := U
        obtain ⟨T1, T2, T3, T4⟩ := T
        obtain ⟨e1, e2⟩ := hno
        have e1' : o1 = T1 := e1
        have e2' : r1 = T2 := e2
        subst e1' e2'
        have IH1 : Hid (Calls Tryd.prog 73 #[.int .i64 m, .int .i64 (halfN n : Nat), .int .u64 (old : Nat), .bool wh, .slice A k c] W1 fun e w' => e = .returned (.agg #[.int .u64 (o1 : Nat), .int .u64 (r1 : Nat), .int .i64 (T3 : Nat), .bool T4]) ∧ Below W1.heap.size W1 w') := IH.out
        have NX1 : Hid (∀ w1, Below p w w1 → Calls Tryd.prog 97 #[.agg #[.int .u64 (o1 : Nat), .int .u64 (r1 : Nat), .int .i64 (T3 : Nat), .bool T4], .slice A k c] w1 fun e w' => e = .returned (.tuple #[.int .u64 (x : Nat), .agg #[.int .u64 (o1 : Nat), .int .u64 (r1 : Nat), .int .i64 (t1 : Nat), .bool s1]]) ∧ Below w1.heap.size w1 w') := NX.out
        have ml1 : o1 < 18446744073709551616 := ML.1
        have ml2 : r1 < 18446744073709551616 := ML.2
        have hx3 : x < 18446744073709551616 := hnl
        have HH := fun w1 => refhalf_any n (by omega) hn w1
        have hh2 := halfN_lt (n := n) (by omega)
        have N1 : Hid (∀ w1, Calls Tryd.prog 25 #[.int .u64 (r1 : Nat), .int .u64 (x : Nat)] w1 fun e w' => e = .returned (.int .u64 (nodeV r1 x : Nat)) ∧ Below w1.heap.size w1 w') := fun w1 => refNode_any r1 x ml2 hx3 w1
        obtain ⟨y1, hy1⟩ : ∃ y, nodeV r1 x = y := ⟨_, rfl⟩
        show Calls _ _ _ _ (MadeP ⟨o1, nodeV r1 x, t1, s1⟩ w)
        rw [hy1] at N1 ⊢
        obtain ⟨hm, hhm⟩ : ∃ q, halfN n = q := ⟨_, rfl⟩
        rw [hhm] at IH1 HH c4 hh2
        have HHH := hide HH
        have q1 : (m : Int) ≤ (hm : Int) := by omega
        clear ih hN h1 h2 hn hx hk ho hx1 ML IH hT hU e1 e2 NX hnl ml1 ml2 hx3 hy1 hhm HH hh2 c3 c4
        go_enter Tryd.func73, Tryd.ntmps73
        go_wp2_with fail
        rw [HW.out.1, HW.out.2]
        refine (HHH.out _).mono ?_
        rintro e w1 ⟨rfl, rfl⟩
        go_wp2_with fail
        refine IH1.out.mono ?_
        rintro e w2 ⟨rfl, hb⟩
        have HPR2 := hide (HPR.out.below hb)
        have HB2 := hide (HAL.out.trans (hb.mono (by have := HPR.out.lt; omega)))
        clear hb
        obtain ⟨⟨a0, a1, a2, a3⟩, ⟨b0, b1, b2, b3⟩, f0, f1⟩ := HPR2.out.facts
        have f00 := f0 0
        have f01 := f0 1
        have f02 := f0 2
        have f03 := f0 3
        have f10 := f1 0
        have f11 := f1 1
        have f12 := f1 2
        have f13 := f1 3
        clear f0 f1
        go_upto_region 12 with (fail)
        have HPn := hide (pair_s3 (pair_s2 (pair_s1 (pair_s0 HPR2.out o1) r1) T3) T4)
        have HBn := hide (Below.setCell (p := ⟨p + 1, 3, none⟩) (Below.setCell (p := ⟨p + 1, 2, none⟩) (Below.setCell (p := ⟨p + 1, 1, none⟩) (Below.setCell (p := ⟨p + 1, 0, none⟩) HB2.out (Nat.le_succ p) (.int .u64 (o1 : Nat))) (Nat.le_succ p) (.int .u64 (r1 : Nat))) (Nat.le_succ p) (.int .i64 (T3 : Nat))) (Nat.le_succ p) (.bool T4))
        obtain ⟨W3, hWn⟩ : ∃ W, ((((w2.setCell ⟨p + 1, 0, none⟩ (.int .u64 (o1 : Nat))).setCell ⟨p + 1, 1, none⟩ (.int .u64 (r1 : Nat))).setCell ⟨p + 1, 2, none⟩ (.int .i64 (T3 : Nat))).setCell ⟨p + 1, 3, none⟩ (.bool T4)) = W := ⟨_, rfl⟩
        rw [hWn] at HPn HBn ⊢
        clear hWn
        clear a0 a1 a2 a3 b0 b1 b2 b3 f00 f01 f02 f03 f10 f11 f12 f13
        have HPW3 := HPn
        have HBW3 := HBn
        clear HPn HBn
        obtain ⟨⟨a0, a1, a2, a3⟩, ⟨b0, b1, b2, b3⟩, f0, f1⟩ := HPW3.out.facts
        have f00 := f0 0
        have f01 := f0 1
        have f02 := f0 2
        have f03 := f0 3
        have f10 := f1 0
        have f11 := f1 1
        have f12 := f1 2
        have f13 := f1 3
        clear f0 f1
        go_wp2_with fail
        refine (NX1.out W3 HBW3.out).mono ?_
        rintro e w4 ⟨rfl, hb⟩
        clear a0 a1 a2 a3 b0 b1 b2 b3 f00 f01 f02 f03 f10 f11 f12 f13
        have HPR4 := hide (HPW3.out.below hb)
        have HB4 := hide (HBW3.out.trans (hb.mono (by have := HPW3.out.lt; omega)))
        clear hb
        go_upto_region 13 with (fail)
        have HPn := hide (HPR4.out.below ((Below.refl _ w4).alloc (Nat.le_refl _) (.cells #[.int .u64 (o1 : Nat), .int .u64 (r1 : Nat), .int .i64 (t1 : Nat), .bool s1] 98)))
        have HBn := hide (HB4.out.alloc (by have := HPR4.out.lt; omega) (.cells #[.int .u64 (o1 : Nat), .int .u64 (r1 : Nat), .int .i64 (t1 : Nat), .bool s1] 98))
        have HNn := hide (box_new w4 o1 r1 t1 s1)
        have HLn := hide HPR4.out.lt
        obtain ⟨W5, hWn⟩ : ∃ W, w4.alloc (.cells #[.int .u64 (o1 : Nat), .int .u64 (r1 : Nat), .int .i64 (t1 : Nat), .bool s1] 98) = W := ⟨_, rfl⟩
        rw [hWn] at HPn HBn HNn ⊢
        obtain ⟨g, hg⟩ : ∃ g, w4.heap.size = g := ⟨_, rfl⟩
        rw [hg] at HNn HLn ⊢
        have hz : p + 1 ≠ g := by have := HLn.out; omega
        have hz2 : p ≠ g := by have := HLn.out; omega
        clear hWn hg HLn
        have HPW5 := HPn
        have HBW5 := HBn
        clear HPn HBn
        obtain ⟨d0, d1, d2, d3⟩ := HNn.out
        clear HNn
        obtain ⟨⟨a0, a1, a2, a3⟩, ⟨b0, b1, b2, b3⟩, f0, f1⟩ := HPW5.out.facts
        have f00 := f0 0
        have f01 := f0 1
        have f02 := f0 2
        have f03 := f0 3
        have f10 := f1 0
        have f11 := f1 1
        have f12 := f1 2
        have f13 := f1 3
        clear f0 f1
        go_upto_region 14 with (fail)
        have HPn := hide (pair_s3 (pair_s2 (pair_s1 (pair_s0 HPW5.out o1) r1) t1) s1)
        have HBn := hide (Below.setCell (p := ⟨p + 1, 3, none⟩) (Below.setCell (p := ⟨p + 1, 2, none⟩) (Below.setCell (p := ⟨p + 1, 1, none⟩) (Below.setCell (p := ⟨p + 1, 0, none⟩) HBW5.out (Nat.le_succ p) (.int .u64 (o1 : Nat))) (Nat.le_succ p) (.int .u64 (r1 : Nat))) (Nat.le_succ p) (.int .i64 (t1 : Nat))) (Nat.le_succ p) (.bool s1))
        obtain ⟨W6, hWn⟩ : ∃ W, ((((W5.setCell ⟨p + 1, 0, none⟩ (.int .u64 (o1 : Nat))).setCell ⟨p + 1, 1, none⟩ (.int .u64 (r1 : Nat))).setCell ⟨p + 1, 2, none⟩ (.int .i64 (t1 : Nat))).setCell ⟨p + 1, 3, none⟩ (.bool s1)) = W := ⟨_, rfl⟩
        rw [hWn] at HPn HBn ⊢
        clear hWn
        clear d0 d1 d2 d3 hz hz2 a0 a1 a2 a3 b0 b1 b2 b3 f00 f01 f02 f03 f10 f11 f12 f13
        have HPW6 := HPn
        have HBW6 := HBn
        clear HPn HBn
        obtain ⟨⟨a0, a1, a2, a3⟩, ⟨b0, b1, b2, b3⟩, f0, f1⟩ := HPW6.out.facts
        have f00 := f0 0
        have f01 := f0 1
        have f02 := f0 2
        have f03 := f0 3
        have f10 := f1 0
        have f11 := f1 1
        have f12 := f1 2
        have f13 := f1 3
        clear f0 f1
        go_wp2_with fail
        refine (N1.out _).mono ?_
        rintro e w7 ⟨rfl, hb⟩
        clear a0 a1 a2 a3 b0 b1 b2 b3 f00 f01 f02 f03 f10 f11 f12 f13
        have HPR7 := hide (HPW6.out.below hb)
        have HB7 := hide (HBW6.out.trans (hb.mono (by have := HPW6.out.lt; omega)))
        clear hb
        obtain ⟨⟨a0, a1, a2, a3⟩, ⟨b0, b1, b2, b3⟩, f0, f1⟩ := HPR7.out.facts
        have f00 := f0 0
        have f01 := f0 1
        have f02 := f0 2
        have f03 := f0 3
        have f10 := f1 0
        have f11 := f1 1
        have f12 := f1 2
        have f13 := f1 3
        clear f0 f1
        go_upto_region 15 with (fail)
        have HPn := hide (pair_s1 HPR7.out y1)
        have HBn := hide (Below.setCell (p := ⟨p + 1, 1, none⟩) HB7.out (Nat.le_succ p) (.int .u64 (y1 : Nat)))
        obtain ⟨W8, hWn⟩ : ∃ W, (w7.setCell ⟨p + 1, 1, none⟩ (.int .u64 (y1 : Nat))) = W := ⟨_, rfl⟩
        rw [hWn] at HPn HBn ⊢
        clear hWn
        clear a0 a1 a2 a3 b0 b1 b2 b3 f00 f01 f02 f03 f10 f11 f12 f13
        have HPW8 := HPn
        have HBW8 := HBn
        clear HPn HBn
        obtain ⟨⟨a0, a1, a2, a3⟩, ⟨b0, b1, b2, b3⟩, f0, f1⟩ := HPW8.out.facts
        have f00 := f0 0
        have f01 := f0 1
        have f02 := f0 2
        have f03 := f0 3
        have f10 := f1 0
        have f11 := f1 1
        have f12 := f1 2
        have f13 := f1 3
        clear f0 f1
        go_wp2_with fail
        refine bodyPost_ret (v := .agg #[.int .u64 (o1 : Nat), .int .u64 (y1 : Nat), .int .i64 (t1 : Nat), .bool s1]) (by simp [results, Tryd.results73, go_sem, a0, a1, a2, a3]) rfl ⟨rfl, ?_⟩
        rw [HW.out.2]
        repeat (refine Below.setCell ?_ (by first | exact Nat.le_succ p | exact Nat.le_refl p) _)
        exact HBW8.out
      · have ML := made_lt hs hx.2.1 ((n - halfN n)) (m - halfN n) ((n - halfN n)) old false (Nat.le_refl _) (by omega) (by omega) ho
        have IH := hide (ih ((n - halfN n)) (m - halfN n) old false A k c hs W1 (by omega) (by omega) (by omega) (by omega) hx1 hk ho)
        rw [made_hi h1 (by omega) (by omega)]
        unfold TwoS.hi
        obtain ⟨T, hT⟩ : ∃ T, madeV (m - halfN n) (n - halfN n) old false hs = T := ⟨_, rfl⟩
        rw [hT] at IH ML ⊢
        have NX : Hid (∀ w1, Below p w w1 → Calls Tryd.prog 97 #[.agg #[.int .u64 (T.old : Nat), .int .u64 (T.root : Nat), .int .i64 (T.taken : Nat), .bool T.short], .slice A k c] w1 (NextP (T.next hs).1 (T.next hs).2.old (T.next hs).2.root (T.next hs).2.taken (T.next hs).2.short w1)) :=
          fun w1 hb => next_any T A k c hs w1 (hx.now (by rw [HW.out.2]; exact hb) (Nat.le_refl _)) hk
        have hno := next_old (t := T) (hs := hs)
        have hnl := next_lt (t := T) hx.2.1
        obtain ⟨U, hU⟩ : ∃ U, T.next hs = U := ⟨_, rfl⟩
        rw [hU] at NX hno hnl ⊢
        obtain ⟨x, o1, r1, t1, s1⟩ := U
        obtain ⟨T1, T2, T3, T4⟩ := T
        obtain ⟨e1, e2⟩ := hno
        have e1' : o1 = T1 := e1
        have e2' : r1 = T2 := e2
        subst e1' e2'
        have IH1 : Hid (Calls Tryd.prog 73 #[.int .i64 (m - halfN n : Nat), .int .i64 (n - halfN n : Nat), .int .u64 (old : Nat), .bool false, .slice A k c] W1 fun e w' => e = .returned (.agg #[.int .u64 (o1 : Nat), .int .u64 (r1 : Nat), .int .i64 (T3 : Nat), .bool T4]) ∧ Below W1.heap.size W1 w') := IH.out
        have NX1 : Hid (∀ w1, Below p w w1 → Calls Tryd.prog 97 #[.agg #[.int .u64 (o1 : Nat), .int .u64 (r1 : Nat), .int .i64 (T3 : Nat), .bool T4], .slice A k c] w1 fun e w' => e = .returned (.tuple #[.int .u64 (x : Nat), .agg #[.int .u64 (o1 : Nat), .int .u64 (r1 : Nat), .int .i64 (t1 : Nat), .bool s1]]) ∧ Below w1.heap.size w1 w') := NX.out
        have ml1 : o1 < 18446744073709551616 := ML.1
        have ml2 : r1 < 18446744073709551616 := ML.2
        have hx3 : x < 18446744073709551616 := hnl
        have HH := fun w1 => refhalf_any n (by omega) hn w1
        have hh2 := halfN_lt (n := n) (by omega)
        have N0 : Hid (∀ w1, Calls Tryd.prog 25 #[.int .u64 (x : Nat), .int .u64 (o1 : Nat)] w1 fun e w' => e = .returned (.int .u64 (nodeV x o1 : Nat)) ∧ Below w1.heap.size w1 w') := fun w1 => refNode_any x o1 hx3 ml1 w1
        have N1 : Hid (∀ w1, Calls Tryd.prog 25 #[.int .u64 (x : Nat), .int .u64 (r1 : Nat)] w1 fun e w' => e = .returned (.int .u64 (nodeV x r1 : Nat)) ∧ Below w1.heap.size w1 w') := fun w1 => refNode_any x r1 hx3 ml2 w1
        show Calls _ _ _ _ (MadeP ⟨nodeV x o1, nodeV x r1, t1, s1⟩ w)
        obtain ⟨y0, hy0⟩ : ∃ y, nodeV x o1 = y := ⟨_, rfl⟩
        obtain ⟨y1, hy1⟩ : ∃ y, nodeV x r1 = y := ⟨_, rfl⟩
        rw [hy0] at N0 ⊢
        rw [hy1] at N1 ⊢
        obtain ⟨hm, hhm⟩ : ∃ q, halfN n = q := ⟨_, rfl⟩
        rw [hhm] at IH1 HH c4 hh2
        have HHH := hide HH
        have q1 : ¬ (m : Int) ≤ (hm : Int) := by omega
        have s1' : wrap64 ((m : Int) - (hm : Int)) = ((m - hm : Nat) : Int) := by rw [IntWalk.wrap64_in _ (by omega)]; omega
        have s2' : wrap64 ((n : Int) - (hm : Int)) = ((n - hm : Nat) : Int) := by rw [IntWalk.wrap64_in _ (by omega)]; omega
        obtain ⟨m3, hm3⟩ : ∃ q, m - hm = q := ⟨_, rfl⟩
        obtain ⟨n3, hn3⟩ : ∃ q, n - hm = q := ⟨_, rfl⟩
        rw [hm3] at s1' IH1
        rw [hn3] at s2' IH1
        clear hm3 hn3
        clear ih hN h1 h2 hn hx hk ho hx1 ML IH hT hU e1 e2 NX hnl ml1 ml2 hx3 hy1 hhm HH hh2 c3 c4 hy0
        go_enter Tryd.func73, Tryd.ntmps73
        go_wp2_with fail
        rw [HW.out.1, HW.out.2]
        refine (HHH.out _).mono ?_
        rintro e w1 ⟨rfl, rfl⟩
        go_wp2_with fail
        refine IH1.out.mono ?_
        rintro e w2 ⟨rfl, hb⟩
        have HPR2 := hide (HPR.out.below hb)
        have HB2 := hide (HAL.out.trans (hb.mono (by have := HPR.out.lt; omega)))
        clear hb
        obtain ⟨⟨a0, a1, a2, a3⟩, ⟨b0, b1, b2, b3⟩, f0, f1⟩ := HPR2.out.facts
        have f00 := f0 0
        have f01 := f0 1
        have f02 := f0 2
        have f03 := f0 3
        have f10 := f1 0
        have f11 := f1 1
        have f12 := f1 2
        have f13 := f1 3
        clear f0 f1
        go_upto_region 17 with (fail)
        have HPn := hide (pair_s3 (pair_s2 (pair_s1 (pair_s0 HPR2.out o1) r1) T3) T4)
        have HBn := hide (Below.setCell (p := ⟨p + 1, 3, none⟩) (Below.setCell (p := ⟨p + 1, 2, none⟩) (Below.setCell (p := ⟨p + 1, 1, none⟩) (Below.setCell (p := ⟨p + 1, 0, none⟩) HB2.out (Nat.le_succ p) (.int .u64 (o1 : Nat))) (Nat.le_succ p) (.int .u64 (r1 : Nat))) (Nat.le_succ p) (.int .i64 (T3 : Nat))) (Nat.le_succ p) (.bool T4))
        obtain ⟨W3, hWn⟩ : ∃ W, ((((w2.setCell ⟨p + 1, 0, none⟩ (.int .u64 (o1 : Nat))).setCell ⟨p + 1, 1, none⟩ (.int .u64 (r1 : Nat))).setCell ⟨p + 1, 2, none⟩ (.int .i64 (T3 : Nat))).setCell ⟨p + 1, 3, none⟩ (.bool T4)) = W := ⟨_, rfl⟩
        rw [hWn] at HPn HBn ⊢
        clear hWn
        clear a0 a1 a2 a3 b0 b1 b2 b3 f00 f01 f02 f03 f10 f11 f12 f13
        have HPW3 := HPn
        have HBW3 := HBn
        clear HPn HBn
        obtain ⟨⟨a0, a1, a2, a3⟩, ⟨b0, b1, b2, b3⟩, f0, f1⟩ := HPW3.out.facts
        have f00 := f0 0
        have f01 := f0 1
        have f02 := f0 2
        have f03 := f0 3
        have f10 := f1 0
        have f11 := f1 1
        have f12 := f1 2
        have f13 := f1 3
        clear f0 f1
        go_wp2_with fail
        refine (NX1.out W3 HBW3.out).mono ?_
        rintro e w4 ⟨rfl, hb⟩
        clear a0 a1 a2 a3 b0 b1 b2 b3 f00 f01 f02 f03 f10 f11 f12 f13
        have HPR4 := hide (HPW3.out.below hb)
        have HB4 := hide (HBW3.out.trans (hb.mono (by have := HPW3.out.lt; omega)))
        clear hb
        go_upto_region 18 with (fail)
        have HPn := hide (HPR4.out.below ((Below.refl _ w4).alloc (Nat.le_refl _) (.cells #[.int .u64 (o1 : Nat), .int .u64 (r1 : Nat), .int .i64 (t1 : Nat), .bool s1] 98)))
        have HBn := hide (HB4.out.alloc (by have := HPR4.out.lt; omega) (.cells #[.int .u64 (o1 : Nat), .int .u64 (r1 : Nat), .int .i64 (t1 : Nat), .bool s1] 98))
        have HNn := hide (box_new w4 o1 r1 t1 s1)
        have HLn := hide HPR4.out.lt
        obtain ⟨W5, hWn⟩ : ∃ W, w4.alloc (.cells #[.int .u64 (o1 : Nat), .int .u64 (r1 : Nat), .int .i64 (t1 : Nat), .bool s1] 98) = W := ⟨_, rfl⟩
        rw [hWn] at HPn HBn HNn ⊢
        obtain ⟨g, hg⟩ : ∃ g, w4.heap.size = g := ⟨_, rfl⟩
        rw [hg] at HNn HLn ⊢
        have hz : p + 1 ≠ g := by have := HLn.out; omega
        have hz2 : p ≠ g := by have := HLn.out; omega
        clear hWn hg HLn
        have HPW5 := HPn
        have HBW5 := HBn
        clear HPn HBn
        obtain ⟨d0, d1, d2, d3⟩ := HNn.out
        clear HNn
        obtain ⟨⟨a0, a1, a2, a3⟩, ⟨b0, b1, b2, b3⟩, f0, f1⟩ := HPW5.out.facts
        have f00 := f0 0
        have f01 := f0 1
        have f02 := f0 2
        have f03 := f0 3
        have f10 := f1 0
        have f11 := f1 1
        have f12 := f1 2
        have f13 := f1 3
        clear f0 f1
        go_upto_region 19 with (fail)
        have HPn := hide (pair_s3 (pair_s2 (pair_s1 (pair_s0 HPW5.out o1) r1) t1) s1)
        have HBn := hide (Below.setCell (p := ⟨p + 1, 3, none⟩) (Below.setCell (p := ⟨p + 1, 2, none⟩) (Below.setCell (p := ⟨p + 1, 1, none⟩) (Below.setCell (p := ⟨p + 1, 0, none⟩) HBW5.out (Nat.le_succ p) (.int .u64 (o1 : Nat))) (Nat.le_succ p) (.int .u64 (r1 : Nat))) (Nat.le_succ p) (.int .i64 (t1 : Nat))) (Nat.le_succ p) (.bool s1))
        obtain ⟨W6, hWn⟩ : ∃ W, ((((W5.setCell ⟨p + 1, 0, none⟩ (.int .u64 (o1 : Nat))).setCell ⟨p + 1, 1, none⟩ (.int .u64 (r1 : Nat))).setCell ⟨p + 1, 2, none⟩ (.int .i64 (t1 : Nat))).setCell ⟨p + 1, 3, none⟩ (.bool s1)) = W := ⟨_, rfl⟩
        rw [hWn] at HPn HBn ⊢
        clear hWn
        clear d0 d1 d2 d3 hz hz2 a0 a1 a2 a3 b0 b1 b2 b3 f00 f01 f02 f03 f10 f11 f12 f13
        have HPW6 := HPn
        have HBW6 := HBn
        clear HPn HBn
        obtain ⟨⟨a0, a1, a2, a3⟩, ⟨b0, b1, b2, b3⟩, f0, f1⟩ := HPW6.out.facts
        have f00 := f0 0
        have f01 := f0 1
        have f02 := f0 2
        have f03 := f0 3
        have f10 := f1 0
        have f11 := f1 1
        have f12 := f1 2
        have f13 := f1 3
        clear f0 f1
        go_wp2_with fail
        refine (N0.out _).mono ?_
        rintro e w7 ⟨rfl, hb⟩
        clear a0 a1 a2 a3 b0 b1 b2 b3 f00 f01 f02 f03 f10 f11 f12 f13
        have HPR7 := hide (HPW6.out.below hb)
        have HB7 := hide (HBW6.out.trans (hb.mono (by have := HPW6.out.lt; omega)))
        clear hb
        obtain ⟨⟨a0, a1, a2, a3⟩, ⟨b0, b1, b2, b3⟩, f0, f1⟩ := HPR7.out.facts
        have f00 := f0 0
        have f01 := f0 1
        have f02 := f0 2
        have f03 := f0 3
        have f10 := f1 0
        have f11 := f1 1
        have f12 := f1 2
        have f13 := f1 3
        clear f0 f1
        go_upto_region 20 with (fail)
        have HPn := hide (pair_s0 HPR7.out y0)
        have HBn := hide (Below.setCell (p := ⟨p + 1, 0, none⟩) HB7.out (Nat.le_succ p) (.int .u64 (y0 : Nat)))
        obtain ⟨W8, hWn⟩ : ∃ W, (w7.setCell ⟨p + 1, 0, none⟩ (.int .u64 (y0 : Nat))) = W := ⟨_, rfl⟩
        rw [hWn] at HPn HBn ⊢
        clear hWn
        clear a0 a1 a2 a3 b0 b1 b2 b3 f00 f01 f02 f03 f10 f11 f12 f13
        have HPW8 := HPn
        have HBW8 := HBn
        clear HPn HBn
        obtain ⟨⟨a0, a1, a2, a3⟩, ⟨b0, b1, b2, b3⟩, f0, f1⟩ := HPW8.out.facts
        have f00 := f0 0
        have f01 := f0 1
        have f02 := f0 2
        have f03 := f0 3
        have f10 := f1 0
        have f11 := f1 1
        have f12 := f1 2
        have f13 := f1 3
        clear f0 f1
        go_wp2_with fail
        refine (N1.out _).mono ?_
        rintro e w9 ⟨rfl, hb⟩
        clear a0 a1 a2 a3 b0 b1 b2 b3 f00 f01 f02 f03 f10 f11 f12 f13
        have HPR9 := hide (HPW8.out.below hb)
        have HB9 := hide (HBW8.out.trans (hb.mono (by have := HPW8.out.lt; omega)))
        clear hb
        obtain ⟨⟨a0, a1, a2, a3⟩, ⟨b0, b1, b2, b3⟩, f0, f1⟩ := HPR9.out.facts
        have f00 := f0 0
        have f01 := f0 1
        have f02 := f0 2
        have f03 := f0 3
        have f10 := f1 0
        have f11 := f1 1
        have f12 := f1 2
        have f13 := f1 3
        clear f0 f1
        go_upto_region 21 with (fail)
        have HPn := hide (pair_s1 HPR9.out y1)
        have HBn := hide (Below.setCell (p := ⟨p + 1, 1, none⟩) HB9.out (Nat.le_succ p) (.int .u64 (y1 : Nat)))
        obtain ⟨W10, hWn⟩ : ∃ W, (w9.setCell ⟨p + 1, 1, none⟩ (.int .u64 (y1 : Nat))) = W := ⟨_, rfl⟩
        rw [hWn] at HPn HBn ⊢
        clear hWn
        clear a0 a1 a2 a3 b0 b1 b2 b3 f00 f01 f02 f03 f10 f11 f12 f13
        have HPW10 := HPn
        have HBW10 := HBn
        clear HPn HBn
        obtain ⟨⟨a0, a1, a2, a3⟩, ⟨b0, b1, b2, b3⟩, f0, f1⟩ := HPW10.out.facts
        have f00 := f0 0
        have f01 := f0 1
        have f02 := f0 2
        have f03 := f0 3
        have f10 := f1 0
        have f11 := f1 1
        have f12 := f1 2
        have f13 := f1 3
        clear f0 f1
        go_wp2_with fail
        refine bodyPost_ret (v := .agg #[.int .u64 (y0 : Nat), .int .u64 (y1 : Nat), .int .i64 (t1 : Nat), .bool s1]) (by simp [results, Tryd.results73, go_sem, a0, a1, a2, a3]) rfl ⟨rfl, ?_⟩
        rw [HW.out.2]
        repeat (refine Below.setCell ?_ (by first | exact Nat.le_succ p | exact Nat.le_refl p) _)
        exact HBW10.out
end Go.Proofs.YtbinmkigolkhcaaDoor
