/- alive. -/
import Derived.Test.YtbinmkigolkhcaaDoorPV
import Derived.Lib.SlBytesConst
import Derived.Test.YtbinmkigolkhcaaDoorRows
import Derived.ProofKit
import Derived.Deep.SlicePairs
import Derived.Lib.SmallJoins
import Derived.LaidMore
import Derived.OpenShut
import Derived.Stop.Joined
import Derived.Stop.LaidErr
import Derived.Deep.DeepHandedRow
import Derived.Lib.LaidTab
set_option linter.unusedSimpArgs false
set_option linter.unusedVariables false
namespace Go.Proofs.YtbinmkigolkhcaaDoor
open Go.RowKit Go.Sort
attribute [local go_sem] Oper.semAt_some

theorem Root_my (B : Nat) (w : World) (b r : Nat) (h : MyLog B w b [bA, bB] [r]) :
    Calls Tryd.prog 50 #[.pointer (some ⟨b, 0, none⟩)] w fun e w' => e = .returned (.int .u64 (r : Nat)) ∧ Below w.heap.size w w' := by
  obtain ⟨F, Ae, ce, Ap, cp, hl, hF⟩ := h
  exact Root_any F w b [bA, bB] [r] Ae ce Ap cp hl (by decide) (by simp) (by simp)
theorem Include_my (B : Nat) (w : World) (b : Nat) (ps : List Nat) (h : MyLog B w b [bA, bB] ps) :
    Calls Tryd.prog 47 #[.pointer (some ⟨b, 0, none⟩), .int .i64 1, .int .i64 2] w fun e w' => ∃ g c, e = .returned (.tuple #[.slice (some ⟨g, 0, none⟩) 1 c, .int .i64 0]) ∧ StepsAt w'.heap.size w' (some ⟨g, 0, none⟩) 1 [(leafV bA, true)] ∧ Below w.heap.size w w' := by
  obtain ⟨F, Ae, ce, Ap, cp, hl, hF⟩ := h
  refine (Include_any F w b [bA, bB] ps Ae ce Ap cp hl (by decide) 1 2).mono ?_
  rw [include_12]
  rintro e w' ⟨a, c, rfl, ho, hb⟩
  obtain ⟨g, cap, hv, _, _⟩ := ho.form (by decide)
  injection hv with h1 h2 h3
  subst h1
  exact ⟨g, c, rfl, steps_of_own ho (fun s hs => by
    have hs : s ∈ [(leafV bA, true)] := hs
    rw [List.mem_singleton] at hs
    rw [hs]
    exact leafV_lt _), hb⟩

set_option maxHeartbeats 4000000 in
set_option maxRecDepth 100000 in
theorem alive_any (w : World) (hw1 : 1 < w.heap.size) (hT : TabAt 1 Lib.deBruijn64tab w) :
    Calls Tryd.prog 17 #[] w fun e w' => e = .returned (.bool true) ∧ Below w.heap.size w w' := by
  have mixed := mixedOrders
  have HN := hide (New_any w)
  obtain ⟨p, hp⟩ : ∃ p, w.heap.size = p := ⟨_, rfl⟩
  have HP := hide hp
  have h1 : 1 < p := by omega
  obtain ⟨W1, hW1⟩ : ∃ W1, w.alloc (.cells #[.bool true, .slice none 0 0, .slice none 0 0] 65) = W1 := ⟨_, rfl⟩
  have L1 : MyLog p W1 p [] [] := by
    have := New_log w
    rw [hW1, hp] at this
    refine ⟨_, _, _, _, _, this, fun k hk => ⟨Nat.le_of_eq hk.symm, ?_⟩⟩
    have : W1.heap.size = p + 1 := by rw [← hW1, ← hp]; simp
    omega
  have B1 : Below p w W1 := by rw [← hW1, ← hp]; exact (Below.refl _ w).alloc (Nat.le_refl _) _
  have T1 : TabAt 1 Lib.deBruijn64tab W1 := fun j hj => (B1.cell (p := ⟨1, j, none⟩) h1).trans (hT j hj)
  have S1 : p ≤ W1.heap.size := by have := B1.size; omega
  have A1 := hide (Add_my p W1 p [] [] 97 L1 (by decide) (by decide) 0 rfl (by decide) h1 S1 T1)
  rw [hW1, hp] at HN
  have HB1 := hide B1
  have HS1 := hide S1
  clear hW1 hp B1 T1 S1 hT L1
  have kc := fun (w : World) (C : Array Value) (n c : Nat) => Lib.run_convert_bytes_const (P := Tryd.prog) w 23 5 C n c Tryd.underlying23 Tryd.underlying5
  go_enter Tryd.func17, Tryd.ntmps17
  go_wp2_with fail
  refine HN.out.mono ?_
  rintro e w1 ⟨rfl, rfl⟩
  go_wp2_with fail
  refine A1.out.mono ?_
  rintro e w2 ⟨rfl, hb2, hl2, ht2, hs2⟩
  have HB2 := hide ((HB1.out.alloc HS1.out (.cells #[.int .u8 97] 5 (1, 2))).trans hb2)
  have HS2 : Hid (p ≤ w2.heap.size) := by
    show p ≤ _
    have := HS1.out
    have h3 : (w1.alloc (.cells #[.int .u8 97] 5 (1, 2))).heap.size = w1.heap.size + 1 := by simp
    have h4 : (w1.alloc (.cells #[.int .u8 97] 5 (1, 2))).heap.size ≤ w2.heap.size := hs2
    omega
  have A2 := hide (Add_my p w2 p [bA] [leafV bA] 98 hl2 (by decide) (by simp) 1 rfl (by simp) h1 HS2.out ht2)
  clear hb2 hl2 ht2 hs2 A1
  go_wp2_with fail
  refine A2.out.mono ?_
  rintro e w3 ⟨rfl, hb3, hl3, ht3, hs3⟩
  have HB3 := hide ((HB2.out.alloc HS2.out (.cells #[.int .u8 98] 5 (1, 2))).trans hb3)
  have hl3 : MyLog p w3 p [bA, bB] [nodeV (leafV bA) (leafV bB)] := hl3
  have HI := hide (Include_my p w3 p _ hl3)
  have HL3 := hide hl3
  have HS3 : Hid (p ≤ w3.heap.size) := by
    show p ≤ _
    have := HS2.out
    have h3 : (w2.alloc (.cells #[.int .u8 98] 5 (1, 2))).heap.size = w2.heap.size + 1 := by simp
    have h4 : (w2.alloc (.cells #[.int .u8 98] 5 (1, 2))).heap.size ≤ w3.heap.size := hs3
    omega
  clear hb3 hl3 ht3 hs3 A2
  go_wp2_with fail
  refine HI.out.mono ?_
  rintro e w4 ⟨g, c, rfl, hst, hb4⟩
  have HST := hide hst
  have HB4 := hide (HB3.out.trans (hb4.mono HS3.out))
  have HL4 := hide (HL3.out.stays hb4)
  have HS4 : Hid (p ≤ w4.heap.size) := Nat.le_trans HS3.out hb4.size
  clear hst hb4 HI
  go_wp2_with fail
  obtain ⟨R, hR⟩ : ∃ R, nodeV (leafV bA) (leafV bB) = R := ⟨_, rfl⟩
  rw [hR] at HL4
  have b5 : Below w4.heap.size w4 (w4.alloc (.cells #[.int .u8 98] 5 (1, 2))) := (Below.refl _ w4).alloc (Nat.le_refl _) _
  refine (Root_my p _ p R (HL4.out.stays b5)).mono ?_
  rintro e w5 ⟨rfl, hb5⟩
  have b5' : Below w4.heap.size w4 w5 := b5.trans (hb5.mono b5.size)
  have HB5 := hide (HB4.out.trans (b5'.mono HS4.out))
  have HS5 : Hid (p ≤ w5.heap.size) := Nat.le_trans HS4.out b5'.size
  have HST5 := hide (HST.out.now b5' (Nat.le_refl _))
  have HL5 := hide (HL4.out.stays b5')
  have hbB : BytesAt w5.heap.size w5 (some ⟨w4.heap.size, 0, none⟩) 1 bB := (show BytesAt (w4.alloc (.cells #[.int .u8 98] 5 (1, 2))).heap.size (w4.alloc (.cells #[.int .u8 98] 5 (1, 2))) (some ⟨w4.heap.size, 0, none⟩) 1 bB from bytes_oneM w4 98).now hb5 (Nat.le_refl _)
  have HJ := hide (Included_any (some ⟨w4.heap.size, 0, none⟩) 1 1 bB 1 2 R (some ⟨g, 0, none⟩) 1 c [(leafV bA, true)] w5 hbB HST5.out (by decide))
  rw [← hR, included_12, hR] at HJ
  have HRR := hide hR
  clear hb5 b5 b5' hbB hR
  go_wp2_with fail
  refine HJ.out.mono ?_
  rintro e w6 ⟨rfl, hb6⟩
  have HB6 := hide (HB5.out.trans (hb6.mono HS5.out))
  have HS6 : Hid (p ≤ w6.heap.size) := Nat.le_trans HS5.out hb6.size
  have HL6 := hide (HL5.out.stays hb6)
  obtain ⟨g', off', e', hg, cs0, cs1, hsb⟩ := (HST5.out.now hb6 (Nat.le_refl _)).at_ (k := 0) (by decide)
  injection e' with e'
  injection e' with e1 e2
  subst e1; subst e2
  have cs1' : w6.cell? ⟨g, 1, none⟩ = some (.bool true) := cs1
  have HR6 := hide (Root_my p w6 p R HL6.out)
  clear hb6 cs0 cs1 hsb HJ
  go_wp2_with fail
  refine HR6.out.mono ?_
  rintro e w7 ⟨rfl, hb7⟩
  have HB7 := hide (HB6.out.trans (hb7.mono HS6.out))
  have HS7 : Hid (p ≤ w7.heap.size) := Nat.le_trans HS6.out hb7.size
  have HA7 := hide (Leaf_any (some ⟨w7.heap.size, 0, none⟩) 1 1 bA (w7.alloc (.cells #[.int .u8 97] 5 (1, 2))) (bytes_oneM w7 97) (by decide))
  clear hb7
  go_wp2_with fail
  refine HA7.out.mono ?_
  rintro e w8 ⟨rfl, hb8⟩
  have b8 : Below w7.heap.size w7 w8 := ((Below.refl _ w7).alloc (Nat.le_refl _) _).trans (hb8.mono (by simp))
  have HB8 := hide (HB7.out.trans (b8.mono HS7.out))
  have HS8 : Hid (p ≤ w8.heap.size) := Nat.le_trans HS7.out b8.size
  have HA8 := hide (Leaf_any (some ⟨w8.heap.size, 0, none⟩) 1 1 bB (w8.alloc (.cells #[.int .u8 98] 5 (1, 2))) (bytes_oneM w8 98) (by decide))
  clear hb8 b8
  go_wp2_with fail
  refine HA8.out.mono ?_
  rintro e w9 ⟨rfl, hb9⟩
  have b9 : Below w8.heap.size w8 w9 := ((Below.refl _ w8).alloc (Nat.le_refl _) _).trans (hb9.mono (by simp))
  have HB9 := hide (HB8.out.trans (b9.mono HS8.out))
  have HS9 : Hid (p ≤ w9.heap.size) := Nat.le_trans HS8.out b9.size
  have HN9 := hide (Node_any (leafV bA) (leafV bB) (leafV_lt _) (leafV_lt _) w9)
  rw [HRR.out] at HN9
  clear hb9 b9
  go_wp2_with fail
  refine HN9.out.mono ?_
  rintro e w10 ⟨rfl, hb10⟩
  go_wp2_with fail
  go_ret
  refine ⟨rfl, ?_⟩
  rw [HP.out]
  exact HB9.out.trans (hb10.mono HS9.out)
end Go.Proofs.YtbinmkigolkhcaaDoor
/- ProofNobody: a log that was not made. -/
set_option linter.unusedSimpArgs false
set_option linter.unusedVariables false
namespace Go.Proofs.YtbinmkigolkhcaaDoor
open Go.RowKit Go.Sort
attribute [local go_sem] Oper.semAt_some

/-- at this pointer lies no log that was made -/
def NotMade (P : Option Addr) (w : World) : Prop := Calls Tryd.prog 82 #[.pointer P] w fun e w' => e = .returned (.bool false) ∧ w = w'
theorem notMade_nil (w : World) : NotMade none w := isMade_nil w
theorem notMade_zero (b : Nat) (w : World) (c0 : w.cell? ⟨b, 0, none⟩ = some (.bool false)) : NotMade (some ⟨b, 0, none⟩) w := by
  unfold NotMade
  go_enter Tryd.func82, Tryd.ntmps82
  go_wp2
  go_ret
  exact ⟨rfl, rfl⟩
theorem Add_not (P : Option Addr) (v : Value) (w : World) (h : NotMade P w) : Calls Tryd.prog 44 #[.pointer P, v] w fun e w' => e = .returned (.tuple #[.int .i64 0, .int .i64 1]) ∧ w = w' := by
  have HM := hide h
  clear h
  unfold NotMade at HM
  go_enter Tryd.func44, Tryd.ntmps44
  go_wp2_with fail
  refine HM.out.mono ?_
  rintro e w1 ⟨rfl, rfl⟩
  go_wp2_with fail
  go_ret2
  exact ⟨rfl, rfl⟩
theorem RootAt_not (P : Option Addr) (v : Value) (w : World) (h : NotMade P w) : Calls Tryd.prog 45 #[.pointer P, v] w fun e w' => e = .returned (.tuple #[.int .u64 0, .int .i64 1]) ∧ w = w' := by
  have HM := hide h
  clear h
  unfold NotMade at HM
  go_enter Tryd.func45, Tryd.ntmps45
  go_wp2_with fail
  refine HM.out.mono ?_
  rintro e w1 ⟨rfl, rfl⟩
  go_wp2_with fail
  go_ret2
  exact ⟨rfl, rfl⟩
theorem Entry_not (P : Option Addr) (v : Value) (w : World) (h : NotMade P w) : Calls Tryd.prog 46 #[.pointer P, v] w fun e w' => e = .returned (.tuple #[.slice none 0 0, .int .i64 1]) ∧ w = w' := by
  have HM := hide h
  clear h
  unfold NotMade at HM
  go_enter Tryd.func46, Tryd.ntmps46
  go_wp2_with fail
  refine HM.out.mono ?_
  rintro e w1 ⟨rfl, rfl⟩
  go_wp2_with fail
  go_ret2
  exact ⟨rfl, rfl⟩
theorem Include_not (P : Option Addr) (u v : Value) (w : World) (h : NotMade P w) : Calls Tryd.prog 47 #[.pointer P, u, v] w fun e w' => e = .returned (.tuple #[.slice none 0 0, .int .i64 1]) ∧ w = w' := by
  have HM := hide h
  clear h
  unfold NotMade at HM
  go_enter Tryd.func47, Tryd.ntmps47
  go_wp2_with fail
  refine HM.out.mono ?_
  rintro e w1 ⟨rfl, rfl⟩
  go_wp2_with fail
  go_ret2
  exact ⟨rfl, rfl⟩
theorem Extend_not (P : Option Addr) (u v : Value) (w : World) (h : NotMade P w) : Calls Tryd.prog 48 #[.pointer P, u, v] w fun e w' => e = .returned (.tuple #[.slice none 0 0, .int .i64 1]) ∧ w = w' := by
  have HM := hide h
  clear h
  unfold NotMade at HM
  go_enter Tryd.func48, Tryd.ntmps48
  go_wp2_with fail
  refine HM.out.mono ?_
  rintro e w1 ⟨rfl, rfl⟩
  go_wp2_with fail
  go_ret2
  exact ⟨rfl, rfl⟩
theorem Len_not (P : Option Addr) (w : World) (h : NotMade P w) : Calls Tryd.prog 49 #[.pointer P] w fun e w' => e = .returned (.int .i64 0) ∧ w = w' := by
  have HM := hide h
  clear h
  unfold NotMade at HM
  go_enter Tryd.func49, Tryd.ntmps49
  go_wp2_with fail
  refine HM.out.mono ?_
  rintro e w1 ⟨rfl, rfl⟩
  go_wp2_with fail
  go_ret
  exact ⟨rfl, rfl⟩
theorem Root_not (P : Option Addr) (w : World) (h : NotMade P w) : Calls Tryd.prog 50 #[.pointer P] w fun e w' => e = .returned (.int .u64 0) ∧ w = w' := by
  have HL := hide (Len_not P w h)
  clear h
  refine (callsIn_wide (n := 10)).1 ?_
  refine callsIn_of_wp_marks Tryd.func50 rfl trivial ?_ rfl
  simp only [Tryd.ntmps50, List.size_toArray, List.length_cons, List.length_nil, Nat.reduceAdd, Nat.reduceSub, Array.replicate_succ, Array.replicate_zero, List.push_toArray, List.append_toArray, List.nil_append, List.cons_append]
  gi_wp2_with fail
  refine ⟨trivial, (callsIn_wide (n := 9).2 HL.out).mono ?_⟩
  rintro e w2 ⟨rfl, rfl⟩
  gi_wp2_with fail
  exact ⟨_, results_tmp rfl _ _ _, rfl, rfl⟩
theorem Copy_not (P : Option Addr) (w : World) (h : NotMade P w) : Calls Tryd.prog 43 #[.pointer P] w fun e w' => e = .returned (.pointer none) ∧ w = w' := by
  have HM := hide h
  clear h
  unfold NotMade at HM
  go_enter Tryd.func43, Tryd.ntmps43
  go_wp2_with fail
  refine HM.out.mono ?_
  rintro e w1 ⟨rfl, rfl⟩
  go_wp2_with fail
  go_ret
  exact ⟨rfl, rfl⟩

set_option maxHeartbeats 4000000 in
set_option maxRecDepth 100000 in
theorem nobody_law (v : Value) (i n : Int) (q : Bool) (w : World) (hw1 : 1 < w.heap.size) (hT : TabAt 1 Lib.deBruijn64tab w) :
    Calls Tryd.prog 8 #[v, .int .i64 i, .int .i64 n, .bool q] w fun e w' => e = .returned (.bool true) ∧ Below w.heap.size w w' := by
  have mixed := mixedOrders
  cases q
  · have HA := hide (alive_any w hw1 hT)
    have H1 := hide (notMade_nil w)
    clear hw1 hT
    go_enter Tryd.func8, Tryd.ntmps8
    go_wp2_with fail
    refine (Add_not _ _ _ H1.out).mono ?_
    rintro e w1 ⟨rfl, rfl⟩
    go_wp2_with fail
    refine (RootAt_not _ _ _ H1.out).mono ?_
    rintro e w1 ⟨rfl, rfl⟩
    go_wp2_with fail
    refine (Entry_not _ _ _ H1.out).mono ?_
    rintro e w1 ⟨rfl, rfl⟩
    go_wp2_with fail
    refine (Include_not _ _ _ _ H1.out).mono ?_
    rintro e w1 ⟨rfl, rfl⟩
    go_wp2_with fail
    refine (Extend_not _ _ _ _ H1.out).mono ?_
    rintro e w1 ⟨rfl, rfl⟩
    go_wp2_with fail
    refine (Len_not _ _ H1.out).mono ?_
    rintro e w1 ⟨rfl, rfl⟩
    go_wp2_with fail
    refine (Root_not _ _ H1.out).mono ?_
    rintro e w1 ⟨rfl, rfl⟩
    go_wp2_with fail
    refine (Copy_not _ _ H1.out).mono ?_
    rintro e w1 ⟨rfl, rfl⟩
    go_wp2_with fail
    refine HA.out.mono ?_
    rintro e w1 ⟨rfl, hb⟩
    go_wp2_with fail
    go_ret
    exact ⟨rfl, hb⟩
  · have hal : Below w.heap.size w (w.alloc (.cells #[.bool false, .slice none 0 0, .slice none 0 0] 65)) := (Below.refl _ w).alloc (Nat.le_refl _) _
    have HAL := hide hal
    have HA := hide (alive_any (w.alloc (.cells #[.bool false, .slice none 0 0, .slice none 0 0] 65)) (by simp; omega) (fun j hj => (hal.cell (p := ⟨1, j, none⟩) hw1).trans (hT j hj)))
    have H1 := hide (notMade_zero w.heap.size (w.alloc (.cells #[.bool false, .slice none 0 0, .slice none 0 0] 65)) (by simp))
    clear hw1 hT hal
    go_enter Tryd.func8, Tryd.ntmps8
    go_wp2_with fail
    refine (Add_not _ _ _ H1.out).mono ?_
    rintro e w1 ⟨rfl, rfl⟩
    go_wp2_with fail
    refine (RootAt_not _ _ _ H1.out).mono ?_
    rintro e w1 ⟨rfl, rfl⟩
    go_wp2_with fail
    refine (Entry_not _ _ _ H1.out).mono ?_
    rintro e w1 ⟨rfl, rfl⟩
    go_wp2_with fail
    refine (Include_not _ _ _ _ H1.out).mono ?_
    rintro e w1 ⟨rfl, rfl⟩
    go_wp2_with fail
    refine (Extend_not _ _ _ _ H1.out).mono ?_
    rintro e w1 ⟨rfl, rfl⟩
    go_wp2_with fail
    refine (Len_not _ _ H1.out).mono ?_
    rintro e w1 ⟨rfl, rfl⟩
    go_wp2_with fail
    refine (Root_not _ _ H1.out).mono ?_
    rintro e w1 ⟨rfl, rfl⟩
    go_wp2_with fail
    refine (Copy_not _ _ H1.out).mono ?_
    rintro e w1 ⟨rfl, rfl⟩
    go_wp2_with fail
    refine HA.out.mono ?_
    rintro e w1 ⟨rfl, hb⟩
    go_wp2_with fail
    go_ret
    exact ⟨rfl, HAL.out.trans (hb.mono HAL.out.size)⟩
end Go.Proofs.YtbinmkigolkhcaaDoor
/- The frame of a law of package proof: the promise shut; the two tables; a start that fits. -/
set_option linter.unusedSimpArgs false
set_option linter.unusedVariables false
namespace Go.Proofs.YtbinmkigolkhcaaDoor
open Go.ChangeShapes Go.WideShapes Go.ChangeAt Go.RowKit Go.Joins Go.Deep

theorem ownTd : ownKnob Tryd.prog.godebug = none := by kernel_rfl
theorem laidT : laidOutB Tryd.prog = true := by kernel_rfl
section
variable {H : Type} {enc : TypeId × Value → H} {W : World}
/-- arguments that read before read again where nothing old has turned -/
theorem all_stay {W' : World} (hb : Below W.heap.size W W') : ∀ (ts : List TypeId) (vs : List Value) (ds : List (DataW H)) (ps : List MemPlace), (∀ t ∈ ts, Tryd.prog.readableRec t = true ∧ t < Tryd.prog.types.size) →
    DataW.TrodAll enc Tryd.prog W 0 (fun _ => true) true ts vs ds ps → (∀ x ∈ ps, x.block < W.heap.size) → DataW.TrodAll enc Tryd.prog W' 0 (fun b => decide (b < W.heap.size)) true ts vs ds ps
  | [], [], [], _, _, h, _ => h
  | t :: ts, v :: vs, d :: ds, _, ht, ⟨p, q, h1, h2, e⟩, hl => by
    subst e
    exact ⟨p, q, Below.trod laidT (ht t (by simp)).1 (ht t (by simp)).2 h1 hb (fun x hx => hl x (by simp [hx])), all_stay hb ts vs ds q (fun t h => ht t (by simp [h])) h2 (fun x hx => hl x (by simp [hx])), rfl⟩

/-- THE PROMISE SHUT: it returned true, and nothing old has turned. -/
theorem law_shut {f : Func} {s : ChangeSpec} {apart fresh handsOn : Bool} {W' : World} {args : Array Value} {ds : List (DataW H)} {before : List MemPlace}
    (hV : s.vars = []) (hR : f.resultTypes = #[4]) (hT : ∀ t ∈ f.params.toList, Tryd.prog.readableRec t = true ∧ t < Tryd.prog.types.size)
    (hF : s.fn H (ds ++ []) = { results := [.lit (.bool true)], args := ds })
    (hW : DataW.Whole enc Tryd.prog f.params.toList s.vars apart W args.toList ds [] before) (hb : Below W.heap.size W W') :
    s.post enc Tryd.prog f apart fresh handsOn false W args (.bool true) W' := by
  have hlt : ∀ x ∈ before, x.block < W.heap.size := fun x hx => hW.lt x hx
  have hW2 := hW
  obtain ⟨p, q, hA, hv, rfl, _, _⟩ := hW2
  rw [hV] at hv
  obtain ⟨_, rfl⟩ := trodVars_none hv
  rw [List.append_nil] at hW hlt
  have hA' := all_stay hb _ _ _ _ hT hA hlt
  refine ⟨ds, [], p, [], p, [], hW, ?_, ?_, ?_, World.keptBut_mono (fun x hx => ⟨hx, .inr (.inl hx)⟩) (hb.frame (· ∈ p)), fun h => by cases h⟩
  · rw [hF, hR]
    exact trodAll_mk1 (shut_bool Tryd.underlying4 _)
  · rw [hF]
    exact hA'
  · rw [hF, hV]
    exact rfl
end
theorem gTab : Tryd.prog.globalNamed "math/bits.deBruijn64tab" = some 1 := by kernel_rfl
theorem tTab : (Tryd.prog.globals[1]?).map (·.type) = some 128 := by kernel_rfl
theorem cells5 : Tryd.prog.cellsOf 5 = 1 := by kernel_rfl
theorem cells128 : Tryd.prog.cellsOf 128 = 64 := by kernel_rfl
/-- the two tables, as each row lists them -/
abbrev laidL : List (String × DataW Unit) := Rows.proofNobodyRow.laid
def tab64 : List Int := List.map (α := Nat) Int.ofNat Lib.deBruijn64tab
theorem env_of {W : World} (hL : laidMetH Tryd.prog laidL W) : 1 < W.heap.size ∧ TabAt 1 Lib.deBruijn64tab W := by
  rw [MakeChecks.laidMetH_plain _ _ _ (by kernel_rfl)] at hL
  have h2 : laidMet Tryd.prog (("math/bits.deBruijn64tab", Lib.tabData .u8 tab64) :: []) W := hL.tail
  have htab := Lib.tabIs_of_head gTab tTab Tryd.underlying128 Tryd.underlying5 cells5 cells128 h2
  have hc : ∀ j, j < Lib.deBruijn64tab.length → W.cell? ⟨1, j, none⟩ = some (.int .u8 (Lib.deBruijn64tab.getD j 0)) := by
    intro j hj
    have h0 := World.var?_cell gTab htab j
    have : (tab64.map fun z => Value.int .u8 z).toArray[j]? = some (.int .u8 (Lib.deBruijn64tab.getD j 0)) := by
      unfold tab64
      rw [List.getElem?_toArray, List.getElem?_map, List.getElem?_map, List.getD_eq_getElem?_getD, List.getElem?_eq_getElem hj]
      rfl
    exact h0.trans this
  exact ⟨World.block_lt_of_cell? _ _ (hc 0 (by decide)), hc⟩
theorem door_met (os : Os) (args : Array Value) : laidMetH Tryd.prog laidL ((World.doorLaid Tryd.prog 400 os).forCall (fun _ _ => 0) ⟨#[], args, []⟩).memory :=
  laidMetH_of_parts3 (fuel := 8) (laidMet_of_run' 8 (by kernel_rfl) (by kernel_rfl)) (by kernel_rfl) (by kernel_rfl)
end Go.Proofs.YtbinmkigolkhcaaDoor
