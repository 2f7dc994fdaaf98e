/- Contract of Size: how many numbers lie in a set. -/
import Derived.Test.YtfahlgjolihmkaaDoorC1
namespace Go.Proofs.YtfahlgjolihmkaaDoor
open Go.RowKit Go.Sort
attribute [local go_sem] Oper.semAt_some

theorem Kept.hKt (bs : List Nat) : ∀ {A B C : World}, Kept bs A B → Kept bs B C → Kept bs A C := fun h k => h.trans k
theorem Kept.hKb {bs : List Nat} {n : Nat} (h : ∀ b, b ∈ bs → b < n) : ∀ (W : World) (l : Nat) (o o' : Obj), n ≤ l → W.heap[l]? = some o → o.isCells = false → o.isWalk = false → Kept bs W (W.putObj l o') :=
  fun W l o o' hl ho hc _ => Kept.putObj bs W l o o' (fun hm => by have := h l hm; omega) ho hc

/-- what Size, Nth and Rank hand back -/
def numV (n e : Int) : Value := .tuple #[.int .i64 n, .int .i64 e]
def afterC (xs : List Sp) {n : Nat} (pre : List (Fin n)) : Int := match pre.getLast? with
  | none => 0
  | some i => befA xs (i.1 + 1)
theorem afterC_snoc (xs : List Sp) {n : Nat} (pre : List (Fin n)) (x : Fin n) : afterC xs (pre ++ [x]) = befA xs x.1 + (hiA xs x.1 - loA xs x.1) := by
  simp [afterC, befA_succ]
theorem afterC_all (xs : List Sp) (n : Nat) : afterC xs (ups n n) = befA xs n := by
  cases n with
  | zero => simp [ups_zero, afterC, befA]
  | succ n => rw [ups_succ (Nat.lt_succ_self n), afterC_snoc, ← befA_succ]

theorem ownFrom_size {β : Type} (B n : Nat) : OwnFrom B (fun (_ : β) W => n ≤ W.heap.size) := fun _ _ _ _ hs hg _ => Nat.le_trans hs hg.size
/-- a block of cells stays where only objects that are no cells turn -/
theorem cells_own {B : Nat} {W W' : World} {row : Option Nat} {k : Nat} {o : Obj} (h : W.heap[k]? = some o) (ho : o.isCells = true) (hg : W.grownBy W' row) (hr : ∀ r, row = some r → B ≤ r ∧ ∃ o : Obj, W.heap[r]? = some o ∧ o.isCells = false) : W'.heap[k]? = some o := by
  refine (hg.block k (lt_of_heap h) fun e => ?_).trans h
  obtain ⟨_, o', h1, h2⟩ := hr k e.symm
  rw [h] at h1
  injection h1 with h1
  subst h1
  rw [ho] at h2
  cases h2
theorem cell_of_heap {W : World} {b : Nat} {cs : Array Value} {t : TypeId} (h : W.heap[b]? = some (.cells cs t (0, 0))) (i : Nat) : W.cell? ⟨b, i, none⟩ = cs[i]? := cell_of_row W b i cs t (0, 0) h

set_option maxRecDepth 100000 in
set_option maxHeartbeats 4000000 in
theorem Size_in (A : Option Addr) (n cap : Nat) (xs : List Sp) (w : World) (hx : SpansAt w.heap.size w A n xs) :
    CallsIn Fence.wide 10 Tryd.prog 15 #[.slice A n cap] w fun e w' => e = .returned (numV (if setB xs then befA xs n else 0) (if setB xs then 0 else 2)) ∧ Below w.heap.size w w' := by
  have HX := hide hx
  have HV := hide (callsIn_wide (n := 9).2 (Valid_any A n cap xs w hx))
  clear hx
  refine callsIn_of_wp_marks Tryd.func15 rfl trivial ?_ rfl
  simp only [Tryd.ntmps15, List.size_toArray, List.length_cons, List.length_nil, Nat.reduceAdd, Nat.reduceSub, Array.replicate_succ, Array.replicate_zero, List.push_toArray, List.append_toArray, List.nil_append, List.cons_append]
  cases hv : setB xs
  · gi_wp2_with (refine ⟨trivial, ?_⟩; gi_at_call 22; refine HV.out.mono ?_; rintro e w2 ⟨rfl, hG⟩)
    exact ⟨_, results_tmp2 rfl _ _ _, rfl, hG.below⟩
  · have HS := hide (setB_true hv)
    gi_wp2_with (refine ⟨trivial, ?_⟩; first | (gi_at_call 22; refine HV.out.mono ?_; rintro e w2 ⟨rfl, hG⟩) | (gi_at_call 33; refine (callsIn_wide (n := 9).2 (counted_any A n cap _)).mono ?_; rintro e w3 ⟨rfl, rfl⟩))
    have HG := hide hG
    have bN := Boxed.new w2 3 (.int .i64 0)
    have bA := Boxed.new (w2.alloc (.cells #[.int .i64 0] 3)) 22 (.slice A n cap)
    have bN2 := bN.alloc (.cells #[.slice A n cap] 22)
    rw [World.size_alloc] at bA
    have hG0 := (hG.alloc (.cells #[.int .i64 0] 3)).alloc (.cells #[.slice A n cap] 22)
    have hsz : ((w2.alloc (.cells #[.int .i64 0] 3)).alloc (.cells #[.slice A n cap] 22)).heap.size = w2.heap.size + 2 := by simp
    obtain ⟨W0, hW0⟩ : ∃ W0, (w2.alloc (.cells #[.int .i64 0] 3)).alloc (.cells #[.slice A n cap] 22) = W0 := ⟨_, rfl⟩
    rw [hW0] at bA bN2 hG0 hsz ⊢
    have hle := hG.size
    clear hW0 bN hG
    have hnr : ∀ g, ¬ RowOf [w2.heap.size] W0 g := by
      rintro g ⟨b, hb, v, hc, ho⟩
      obtain rfl : b = w2.heap.size := by simpa using hb
      rw [bN2.cell] at hc
      injection hc with hc
      subst hc
      cases ho
    refine wpIn_rangeFunc_ownH rfl (by omega) (gf := 49) (lb := #[.pointer (some ⟨w2.heap.size + 1, 0, none⟩)]) rfl trivial (enters_of Tryd.func49 (by kernel_rfl) rfl)
      (counted_stops 9 (by omega) (w2.heap.size + 1) [w2.heap.size] A n cap xs (by rw [← HX.out.1]; exact HS.out.2) (by have := HS.out.1; have := HX.out.1; omega) W0 (by simp; omega) (fun g h => absurd h (hnr g)) bA.cell (by omega) w.heap.size (by omega)
        (HX.out.below hG0.below) (fun k hk => ⟨by simp; omega, hnr k⟩)) (Kept.hKt _) (Kept.hKb (by simp; omega)) (Below.refl _ _) (fun _ => rfl)
      (fun pre W => Boxed W w2.heap.size 3 (.int .i64 (afterC xs pre)) ∧ Below w.heap.size w W ∧ W0.heap.size ≤ W.heap.size)
      (fun _ _ _ => False)
      (OwnFrom.and (Own.from (boxed_own _ _ _) _) (OwnFrom.and (ownFrom_below (Nat.le_refl _) (by omega)) (ownFrom_size _ _)))
      (fun _ _ _ _ _ hs _ _ => hs)
      ⟨bN2, hG0.below, Nat.le_refl _⟩
      (fun x a' W => ∃ Bx, W0.heap.size ≤ Bx ∧ W.heap[Bx]? = some (.cells #[.int .i64 (loA xs x.1), .int .i64 (hiA xs x.1)] 41 (0, 0)) ∧
        a' = { tmps := #[.slice A n cap, undef, .int .i64 0, .int .i64 0, .pointer (some ⟨w2.heap.size, 0, none⟩), .int .i64 (befA xs x.1), .pointer (some ⟨Bx, 0, none⟩), .slice A n cap, .bool true, .bool false, .slice A n cap, .func (.func 49) #[] #[.pointer (some ⟨w2.heap.size + 1, 0, none⟩)], .int .i64 (befA xs x.1), .agg #[.int .i64 (loA xs x.1), .int .i64 (hiA xs x.1)], undef, undef, undef, undef, undef, undef, undef, undef], defers := [] })
      (fun x a' s W W' row hs hg hr => by
        obtain ⟨Bx, h1, h2, h3⟩ := hs
        exact ⟨Bx, h1, cells_own h2 rfl hg hr, h3⟩)
      ?assign ?body ?done ?stop
    case assign =>
      rintro l pre x W K ⟨hb, hbel, hsz2⟩ hK
      dsimp only [encC]
      gi_wp2
      have hbl := hb.lt
      exact hK _ _ ((KeepsOthers.alloc _ _).from _) ((Kept.refl _ W).alloc (by simp; omega) _) ⟨hb.alloc _, hbel.alloc (by have := hbel.size; omega) _, by simp; omega⟩ ⟨W.heap.size, hsz2, World.alloc_heap_new W _, rfl⟩
    case body =>
      rintro l pre x a' W hl ⟨r, hr⟩ ⟨hb, hbel, hsz2⟩ ⟨Bx, hBx, hbx, rfl⟩ hlt
      have c0 := cell_of_heap hbx 0
      have c1 := cell_of_heap hbx 1
      have d0 := hb.cell
      have d1 := hb.frozen
      simp at c0 c1
      have hsl := HS.out
      have hxl := HX.out.1
      obtain ⟨o1, o2, o3⟩ := setTo_ok hsl.2 (k := x.1) (by omega)
      obtain ⟨q1, q2⟩ := befA_le hsl.2 (by omega) x.1 (by omega)
      have q3 : befA xs x.1 ≤ 281474976710656 := by have := x.2; omega
      clear hsl hxl q2
      gi_wp2
      exact ⟨(KeepsOthers.setCell _ _ _).from _, Kept.setBox _ _ _ _ (by simp) rfl, ⟨by rw [afterC_snoc, ← Int.add_sub_assoc]; exact hb.set _, hbel.setCell (by simp; omega) _, by simpa [World.setCell] using hsz2⟩⟩
    case done =>
      rintro D ys W hD rfl ⟨hb, hbel, hsz2⟩ hK
      rw [afterC_all] at hb
      have d0 := hb.cell
      have d1 := hb.frozen
      gi_wp2
      refine ⟨by simp, .inl ⟨_, _, rfl, run_takeDeferred hK, ?_⟩⟩
      exact ⟨_, results_tmp2 rfl _ _ _, rfl, hbel.trans (belowK_b (w := w) (Nat.le_refl _) W D _ _ (by omega) hK rfl rfl)⟩
    case stop =>
      rintro D c pre W _ _ h _
      exact h.elim


theorem Size_any (A : Option Addr) (n cap : Nat) (xs : List Sp) (w : World) (hx : SpansAt w.heap.size w A n xs) :
    Calls Tryd.prog 15 #[.slice A n cap] w fun e w' => e = .returned (numV (if setB xs then befA xs n else 0) (if setB xs then 0 else 2)) ∧ Below w.heap.size w w' :=
  callsIn_wide.1 (Size_in A n cap xs w hx)

end Go.Proofs.YtfahlgjolihmkaaDoor
