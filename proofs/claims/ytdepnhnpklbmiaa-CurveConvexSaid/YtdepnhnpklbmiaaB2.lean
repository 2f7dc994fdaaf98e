/- Contracts of IsSorted, Valid and result. -/
import Derived.Shelf.SlSorted.IsSorted
import Derived.Test.YtdepnhnpklbmiaaB1
namespace Go.Proofs.Ytdepnhnpklbmiaa
open Go.Shelf
def laysIsSorted_ren : Go.Shelf.Ren := ⟨fun | 10 => 57 | 18 => 77 | 24 => 85 | n => n, fun | 22 => 22 | 24 => 3 | 4 => 4 | 3 => 3 | 0 => 0 | n => n, fun | n => n⟩
theorem laysIsSorted : Go.Proofs.SlLaysO.n10 Try.prog laysIsSorted_ren := {
  mixed := by kernel_rfl
  f10 := ⟨Try.f57.name, by decide, Try.func57.trans (congrArg some (by kernel_rfl))⟩
  f18 := ⟨Try.f77.name, by decide, Try.func77.trans (congrArg some (by kernel_rfl))⟩
  f24 := ⟨Try.f85.name, by decide, Try.func85.trans (congrArg some (by kernel_rfl))⟩
  t0 := Try.underlying0
  a0 := Try.isAgg0
  z0 := Try.sizeOf0
  v0 := Try.zeroValue0
  t3 := Try.underlying3
  a3 := Try.isAgg3
  z3 := Try.sizeOf3
  v3 := Try.zeroValue3
  t4 := Try.underlying4
  a4 := Try.isAgg4
  z4 := Try.sizeOf4
  v4 := Try.zeroValue4
  t22 := Try.underlying22
  a22 := Try.isAgg22
  z22 := Try.sizeOf22
  v22 := Try.zeroValue22
  t24 := Try.underlying3
  a24 := Try.isAgg3
  z24 := Try.sizeOf3
  v24 := Try.zeroValue3 }

open Go.RowKit Go.Sort Go.Lib in
theorem lib_IsSorted (blk off cap : Nat) (d : Array Int) (w : World) (hc : ∀ i, i < d.size → w.cell? ⟨blk, off + i, none⟩ = some ((Value.int .i64) d[i]!)) (hsz : d.size < 4611686018427387904) :
    Calls Try.prog 57 #[.slice (some ⟨blk, off, none⟩) d.size cap] w fun e w' => e = .returned (.bool (Lib.downOK (fun x y => decide (x < y)) d (d.size - 1))) ∧ ∃ q, w' = w.drewN q := AnyO.slices_IsSorted_int laysIsSorted blk off cap d w hc hsz
theorem lib_IsSorted_none (p : Option Addr) (cap : Nat) (w : World) :
    Calls Try.prog 57 #[.slice p 0 cap] w fun e w' => e = .returned (.bool true) ∧ w' = w := AnyO.slices_IsSorted_int_none laysIsSorted p cap w
end Go.Proofs.Ytdepnhnpklbmiaa

namespace Go.Proofs.Ytdepnhnpklbmiaa
open Go.RowKit Go.Sort

theorem sorted_any (A : Option Addr) (n cap : Nat) (xs : List Int) (w : World) (hx : IntsAt w.heap.size w A n xs) (hn : n ≤ 4398046511104) :
    Calls Try.prog 57 #[.slice A n cap] w fun e w' => e = .returned (.bool (decide (ascTo xs n))) ∧ ∃ q, w' = w.drewN q := by
  obtain ⟨hl, h0 | ⟨b, off, rfl, hb, hc⟩⟩ := hx
  · subst h0
    refine (lib_IsSorted_none A cap w).mono ?_
    rintro e w' ⟨rfl, rfl⟩
    exact ⟨ret_bool (decide_eq_true (show ascTo xs 0 from fun i hi => by omega)).symm, 0, rfl⟩
  · have hsz : xs.toArray.size = n := by simpa using hl
    have h := lib_IsSorted b off cap xs.toArray w (fun i hi => by
      rw [hsz] at hi
      rw [hc i hi, iA_get (by omega)]
      simp [hl, hi]) (by rw [hsz]; omega)
    rw [hsz] at h
    refine h.mono ?_
    rintro e w' ⟨rfl, q, rfl⟩
    refine ⟨ret_bool ?_, q, rfl⟩
    have hg : ∀ i, i < n → xs.toArray[i]! = iA xs i := fun i hi => by
      rw [iA_get (by omega)]
      simp [hl, hi]
    cases hd : Lib.downOK (fun x y => decide (x < y)) xs.toArray (n - 1)
    · refine (decide_eq_false (p := ascTo xs n) fun ha => ?_).symm
      have := (Lib.downOK_iff (fun x y => decide (x < y)) xs.toArray (n - 1)).2 fun i hi => by
        have := ha i (by omega)
        rw [hg i (by omega), hg (i + 1) (by omega)]
        exact decide_eq_false (by omega)
      rw [hd] at this
      cases this
    · refine (decide_eq_true (p := ascTo xs n) fun i hi => ?_).symm
      have := (Lib.downOK_iff (fun x y => decide (x < y)) xs.toArray (n - 1)).1 hd i (by omega)
      rw [hg i (by omega), hg (i + 1) (by omega)] at this
      have := of_decide_eq_false this
      omega

theorem some_slTo (xs : List Int) (n : Nat) : (!someB (fun x => !inB x 1048576) xs n) = decide (slTo xs n) := by
  unfold someB
  by_cases h : slTo xs n
  · rw [decide_eq_true h, decide_eq_false (fun ⟨i, h1, h2⟩ => by have h2 : (!inB (iA xs i) 1048576) = true := h2; rw [h i h1] at h2; cases h2)]
    rfl
  · rw [decide_eq_false h, decide_eq_true]
    · rfl
    · refine Classical.byContradiction fun hn => h fun i hi => ?_
      cases hv : inB (iA xs i) 1048576
      · exact absurd ⟨i, hi, show (!inB (iA xs i) 1048576) = true by rw [hv]; rfl⟩ hn
      · rfl

theorem okC_eq (c : Cu) {n : Nat} (h : c.sl.length = n) : okC c = (inB c.fr 1048576 && inB c.fst 1099511627776 && decide ((n : Int) ≤ 64) && decide (ascTo c.sl n) && decide (slTo c.sl n)) := by
  subst h
  rw [Bool.eq_iff_iff]
  unfold okC
  simp only [Bool.and_eq_true, decide_eq_true_eq]
  constructor
  · rintro ⟨a, b, c, d, e⟩
    exact ⟨⟨⟨⟨a, b⟩, by omega⟩, d⟩, e⟩
  · rintro ⟨⟨⟨⟨a, b⟩, c⟩, d⟩, e⟩
    exact ⟨a, b, by omega, d, e⟩

set_option maxHeartbeats 2000000 in
set_option maxRecDepth 100000 in
theorem Valid_any (c : Cu) (A : Option Addr) (n cap : Nat) (w : World) (hx : IntsAt w.heap.size w A n c.sl) (hn : n ≤ 9223372036854775807) :
    Calls Try.prog 19 #[.agg #[.int .i64 c.fr, .int .i64 c.fst, .slice A n cap]] w fun e w' => e = .returned (.bool (okC c)) ∧ Gr w w' := by
  have HX := hide hx
  have HE := hide (okC_eq c hx.1)
  obtain ⟨W1, hW1⟩ : ∃ W1, w.alloc (.cells #[.int .i64 c.fr, .int .i64 c.fst, .slice A n cap] 24) = W1 := ⟨_, rfl⟩
  have hG1 : Gr w W1 := by rw [← hW1]; exact (Gr.refl w).alloc _
  have HX1 := hide (hx.gr hG1)
  have s0 : ∀ q, (W1.drewN q).cell? ⟨w.heap.size, 0, none⟩ = some (.int .i64 c.fr) := fun _ => by rw [← hW1]; simp
  have s1 : ∀ q, (W1.drewN q).cell? ⟨w.heap.size, 1, none⟩ = some (.int .i64 c.fst) := fun _ => by rw [← hW1]; simp
  have s2 : ∀ q, (W1.drewN q).cell? ⟨w.heap.size, 2, none⟩ = some (.slice A n cap) := fun _ => by rw [← hW1]; simp
  have t0 := s0 0
  have t1 := s1 0
  have t2 := s2 0
  rw [World.drewN_zero] at t0 t1 t2
  have HG1 := hide hG1
  have HA := hide (within_any c.fr 1048576 W1 (by decide) (by decide))
  have HB := hide (within_any c.fst 1099511627776 W1 (by decide) (by decide))
  have HC := hide (fun (h64 : n ≤ 64) => sorted_any A n cap c.sl W1 HX1.out (by omega))
  have HD := hide (fun (h64 : n ≤ 64) q => some_any 55 _ tests55 A n cap c.sl (W1.drewN q) (HX1.out.gr ((Gr.refl W1).drewN q)) (by omega))
  have HS := hide (some_slTo c.sl n)
  clear hx hG1 HX1
  generalize inB c.fr 1048576 = p1 at HA HE
  generalize inB c.fst 1099511627776 = p2 at HB HE
  generalize decide (ascTo c.sl n) = p4 at HC HE
  generalize decide (slTo c.sl n) = p5 at HS HE
  generalize someB (fun x => !inB x 1048576) c.sl n = p6 at HS HD
  go_enter Try.func19, Try.ntmps19
  go_wp2_with fail
  refine HA.out.mono ?_
  rintro e w2 ⟨rfl, rfl⟩
  cases p1
  · go_wp2
    go_ret
    exact ⟨ret_bool (by rw [HE.out]; rfl), HG1.out⟩
  go_wp2_with fail
  refine HB.out.mono ?_
  rintro e w3 ⟨rfl, rfl⟩
  cases p2
  · go_wp2
    go_ret
    exact ⟨ret_bool (by rw [HE.out]; rfl), HG1.out⟩
  by_cases hl : (n : Int) ≤ 64
  · have d1 : decide ((n : Int) ≤ 64) = true := decide_eq_true hl
    rw [d1] at HE
    go_wp2_with fail
    refine (HC.out (by omega)).mono ?_
    rintro e w4 ⟨rfl, q, rfl⟩
    cases p4
    · go_wp2
      go_ret
      exact ⟨ret_bool (by rw [HE.out]; rfl), HG1.out.drewN q⟩
    have u2 := s2 q
    go_wp2_with fail
    refine (HD.out (by omega) q).mono ?_
    rintro e w5 ⟨rfl, rfl⟩
    go_wp2
    go_ret
    exact ⟨ret_bool (by rw [HE.out, ← HS.out]; rfl), HG1.out.drewN q⟩
  · have d1 : decide ((n : Int) ≤ 64) = false := decide_eq_false hl
    rw [d1] at HE
    go_wp2
    go_ret
    exact ⟨ret_bool (by rw [HE.out]; rfl), HG1.out⟩

end Go.Proofs.Ytdepnhnpklbmiaa
