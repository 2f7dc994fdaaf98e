/- The program's calls, as they were found by walks. -/
import Derived.Test.YtdepnhnpklbmiaaW0
import Derived.Test.YtdepnhnpklbmiaaB21
import Derived.Test.YtdepnhnpklbmiaaRV
namespace Go.Proofs.Ytdepnhnpklbmiaa
open Go.RowKit Go.Sort

abbrev rowB (q : Bool) (xs : List Int) : Blk := ⟨q, false, 3, 1, .rows (.int .i64) xs⟩
abbrev cuT (f v : Int) (b n : Nat) : AT := .agg [.s (.v (.int .i64 f)), .s (.v (.int .i64 v)), .s (.slc b 0 n)]
abbrev intT (x : Int) : AT := .a (.s (.v (.int .i64 x)))
theorem int_arg {ρ : Pl} {x : Int} {u : Value} (h : VRel ρ (.int .i64 x) u) : u = .int .i64 x := h

theorem Valid_c (f v : Int) (n : Nat) (xs : List Int) (hl : xs.length = n) (hn : n ≤ 9223372036854775807) : CallA Try.prog 19 [cuA f v 0 n] [rowB false xs] (fun w H => w = .boo (okC ⟨f, v, xs⟩) ∧ H = [rowB false xs]) :=
  callA_below (enters_of Try.func19 rfl rfl) fun C ρ w ra hI hra => by
    obtain ⟨u, rfl, hu⟩ := args1 hra
    obtain ⟨u3, rfl, h3⟩ := cu_arg hu
    obtain ⟨ad, c, rfl, h1, h2, hx, h4, h5⟩ := hI.ints (blk := rowB false xs) rfl rfl hl h3
    exact (Valid_any ⟨f, v, xs⟩ ad n c w hx hn).mono fun e w' ⟨he, hg⟩ => ⟨_, _, he, ⟨rfl, rfl⟩, hg.below, rfl⟩
theorem refValid_c (f v : Int) (n : Nat) (xs : List Int) (hl : xs.length = n) (hn : n ≤ 9223372036854775807) : CallA Try.prog 20 [cuA f v 0 n] [rowB false xs] (fun w H => w = .boo (okC ⟨f, v, xs⟩) ∧ H = [rowB false xs]) :=
  callA_below (enters_of Try.func20 rfl rfl) fun C ρ w ra hI hra => by
    obtain ⟨u, rfl, hu⟩ := args1 hra
    obtain ⟨u3, rfl, h3⟩ := cu_arg hu
    obtain ⟨ad, c, rfl, h1, h2, hx, h4, h5⟩ := hI.ints (blk := rowB false xs) rfl rfl hl h3
    exact (refValid_any ⟨f, v, xs⟩ ad n c w hx hn).mono fun e w' ⟨he, hg⟩ => ⟨_, _, he, ⟨rfl, rfl⟩, hg.below, rfl⟩
theorem few_c (f v : Int) (n : Nat) (xs : List Int) (hl : xs.length = n) : CallA Try.prog 14 [cuA f v 0 n] [rowB false xs] (fun w H => w = .boo (decide (n ≤ 100)) ∧ H = [rowB false xs]) :=
  callA_below (enters_of Try.func14 rfl rfl) fun C ρ w ra hI hra => by
    obtain ⟨u, rfl, hu⟩ := args1 hra
    obtain ⟨u3, rfl, h3⟩ := cu_arg hu
    obtain ⟨ad, c, rfl, h1, h2, hx, h4, h5⟩ := hI.ints (blk := rowB false xs) rfl rfl hl h3
    exact (few_any ⟨f, v, xs⟩ ad n c w).mono fun e w' ⟨he, hg⟩ => ⟨_, _, he, ⟨rfl, rfl⟩, hg.below, rfl⟩
theorem alive_c : CallA Try.prog 15 [] [] (fun w H => w = .boo true ∧ H = []) :=
  callA_below (enters_of Try.func15 rfl rfl) fun C ρ w ra hI hra => by
    obtain ⟨l⟩ := ra
    match l, hra with
    | [], _ => exact (alive_any w).mono fun e w' ⟨he, hg⟩ => ⟨_, _, he, ⟨rfl, rfl⟩, hg, rfl⟩
theorem alike_c (f v g u : Int) (n m : Nat) (xs ys : List Int) (hx : xs.length = n) (hy : ys.length = m) (hn : n ≤ 9223372036854775807) (hm : m ≤ 9223372036854775807) : CallA Try.prog 25 [cuA f v 0 n, cuA g u 1 m] [rowB false xs, rowB false ys] (fun w H => w = .boo (likeB ⟨f, v, xs⟩ ⟨g, u, ys⟩) ∧ H = [rowB false xs, rowB false ys]) :=
  callA_below (enters_of Try.func25 rfl rfl) fun C ρ w ra hI hra => by
    obtain ⟨a, b, rfl, ha, hb⟩ := args2 hra
    obtain ⟨a3, rfl, h3⟩ := cu_arg ha
    obtain ⟨b3, rfl, h4⟩ := cu_arg hb
    obtain ⟨ad, c, rfl, _, _, h5, _, _⟩ := hI.ints (blk := rowB false xs) rfl rfl hx h3
    obtain ⟨bd, d, rfl, _, _, h6, _, _⟩ := hI.ints (blk := rowB false ys) rfl rfl hy h4
    exact (alike_any ⟨f, v, xs⟩ ⟨g, u, ys⟩ ad n c bd m d w h5 h6 hn hm).mono fun e w' ⟨he, hg⟩ => ⟨_, _, he, ⟨rfl, rfl⟩, hg.below, rfl⟩
theorem cu_at {C : Cx} {ρ : Pl} {H : AH} {w : World} (hI : Inv C ρ H w) {b n : Nat} {f v : Int} {blk : Blk} {xs : List Int} (hb : H[b]? = some blk) (hbd : blk.body = .rows (.int .i64) xs) (hr : blk.rw = true) (hl : xs.length = n) {u : Value} (hu : SRel ρ (.slc b 0 n) u) :
    ∃ ad c, u = .slice ad n c ∧ n ≤ c ∧ CuAt w.heap.size w ⟨f, v, xs⟩ ad n c := by
  obtain ⟨ad, c, rfl, h1, h2, hx, h4, h5⟩ := hI.ints hb hbd hl hu
  exact ⟨ad, c, rfl, h1, hx, h4, h5 hr⟩
theorem At_c (f v x : Int) (n : Nat) (xs : List Int) (hl : xs.length = n) (hn : n ≤ 9223372036854775807) : CallA Try.prog 17 [cuA f v 0 n, .int .i64 x] [rowB true xs] (fun w H => w = tupOf [intT (atV ⟨f, v, xs⟩ x).1, intT (atV ⟨f, v, xs⟩ x).2] ∧ H = [rowB true xs]) :=
  callA_below (enters_of Try.func17 rfl rfl) fun C ρ w ra hI hra => by
    obtain ⟨a, b, rfl, ha, hb⟩ := args2 hra
    obtain ⟨a3, rfl, h3⟩ := cu_arg ha
    obtain rfl := int_arg hb
    obtain ⟨ad, c, rfl, h1, hc⟩ := cu_at (f := f) (v := v) hI (blk := rowB true xs) rfl rfl rfl hl h3
    exact (At_any ⟨f, v, xs⟩ ad n c x w hc hn).mono fun e w' ⟨he, hg⟩ => ⟨_, _, he, ⟨rfl, rfl⟩, hg, ⟨_, rfl, rfl, rfl, trivial⟩⟩
/-- the least value, and where it is; the error -/
def botV (c : Cu) : Int × Int × Int × Int := if okC c = true then (valK c (climK c 0), c.fr + climK c 0, c.fr + climK c 1, 0) else (0, 0, 0, 2)
theorem Bottom_c (f v : Int) (n : Nat) (xs : List Int) (hl : xs.length = n) (hn : n ≤ 9223372036854775807) : CallA Try.prog 38 [cuA f v 0 n] [rowB true xs] (fun w H => w = tupOf [intT (botV ⟨f, v, xs⟩).1, intT (botV ⟨f, v, xs⟩).2.1, intT (botV ⟨f, v, xs⟩).2.2.1, intT (botV ⟨f, v, xs⟩).2.2.2] ∧ H = [rowB true xs]) :=
  callA_below (enters_of Try.func38 rfl rfl) fun C ρ w ra hI hra => by
    obtain ⟨u, rfl, hu⟩ := args1 hra
    obtain ⟨u3, rfl, h3⟩ := cu_arg hu
    obtain ⟨ad, c, rfl, h1, hc⟩ := cu_at (f := f) (v := v) hI (blk := rowB true xs) rfl rfl rfl hl h3
    refine (Bottom_any ⟨f, v, xs⟩ ad n c w hc hn).mono fun e w' ⟨he, hg⟩ => ?_
    refine ⟨.tuple #[.int .i64 (botV ⟨f, v, xs⟩).1, .int .i64 (botV ⟨f, v, xs⟩).2.1, .int .i64 (botV ⟨f, v, xs⟩).2.2.1, .int .i64 (botV ⟨f, v, xs⟩).2.2.2], _, ?_, ⟨rfl, rfl⟩, hg, ⟨_, rfl, rfl, rfl, rfl, rfl, trivial⟩⟩
    rw [he]
    unfold botE botV
    split <;> rfl
/-- a curve that a call has made -/
theorem callA_cu {P : Program} {g : FuncId} {args : List AV} {H : AH} {v : Cu × Int} (he : Enters P g)
    (h : ∀ (C : Cx) (ρ : Pl) (w : World) (ra : Array Value), Inv C ρ H w → LRel (VRel ρ) args ra.toList → Calls P g ra w (CuPost v w)) :
    CallA P g args H (fun w H' => w = tupOf [cuT v.1.fr v.1.fst H.length v.1.sl.length, intT v.2] ∧ H' = H ++ [rowB true v.1.sl]) :=
  ⟨he, fun C ρ w ra hI hra => (h C ρ w ra hI hra).mono fun e w' hp => by
    obtain ⟨ad, n, cap, rfl, ho, hb⟩ := hp
    have hl : v.1.sl.length = n := by simpa using ho.1
    subst hl
    obtain ⟨B, h1, h2, h3⟩ := hI.own_row hb ho
    exact ⟨_, _, _, _, rfl, ⟨rfl, rfl⟩, h1, fun i _ hi => h2 i hi, by simp, ⟨_, rfl, ⟨_, rfl, rfl, rfl, h3, trivial⟩, rfl, trivial⟩⟩⟩
theorem Conj_c (f v lo hi : Int) (n : Nat) (xs : List Int) (hl : xs.length = n) (hn : n ≤ 9223372036854775807) : CallA Try.prog 40 [cuA f v 0 n, .int .i64 lo, .int .i64 hi] [rowB true xs] (fun w H => w = tupOf [cuT (conV ⟨f, v, xs⟩ lo hi).1.fr (conV ⟨f, v, xs⟩ lo hi).1.fst 1 (conV ⟨f, v, xs⟩ lo hi).1.sl.length, intT (conV ⟨f, v, xs⟩ lo hi).2] ∧ H = [rowB true xs, rowB true (conV ⟨f, v, xs⟩ lo hi).1.sl]) :=
  callA_cu (enters_of Try.func40 rfl rfl) fun C ρ w ra hI hra => by
    obtain ⟨a, b, d, rfl, ha, hb, hd⟩ := args3 hra
    obtain ⟨a3, rfl, h3⟩ := cu_arg ha
    obtain rfl := int_arg hb
    obtain rfl := int_arg hd
    obtain ⟨ad, c, rfl, h1, hc⟩ := cu_at (f := f) (v := v) hI (blk := rowB true xs) rfl rfl rfl hl h3
    exact Conj_any ⟨f, v, xs⟩ ad n c lo hi w hc hn
theorem own_c (f v : Int) (n : Nat) (xs : List Int) (hl : xs.length = n) (hn : n ≤ 1000000) : CallA Try.prog 16 [cuA f v 0 n] [rowB false xs] (fun w H => w = cuA f v 1 n ∧ H = [rowB false xs, rowB true xs]) :=
  ⟨enters_of Try.func16 rfl rfl, fun C ρ w ra hI hra => by
    obtain ⟨u, rfl, hu⟩ := args1 hra
    obtain ⟨u3, rfl, h3⟩ := cu_arg hu
    obtain ⟨ad, c, rfl, h1, h2, hx, h4, h5⟩ := hI.ints (blk := rowB false xs) rfl rfl hl h3
    refine (own_any ⟨f, v, xs⟩ ad n c w hx hn).mono fun e w' hp => ?_
    obtain ⟨a2, rfl, ho, hb⟩ := hp
    obtain ⟨B, k1, k2, k3⟩ := hI.own_row hb ho
    exact ⟨_, _, _, _, rfl, ⟨rfl, rfl⟩, k1, fun i _ hi => k2 i hi, by simp, ⟨_, rfl, rfl, rfl, k3, trivial⟩⟩⟩
end Go.Proofs.Ytdepnhnpklbmiaa
