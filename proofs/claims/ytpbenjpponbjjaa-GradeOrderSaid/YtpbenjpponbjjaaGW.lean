/- slices.Repeat of one number, three times. -/
import Derived.Test.YtpbenjpponbjjaaGV
set_option linter.unusedSimpArgs false
set_option linter.unusedVariables false
namespace Go.Proofs.Ytpbenjpponbjjaa
open Go.RowKit Go.Sort Go.BigFrame
section
variable {P : Program}
/-- copy of elements of k cells -/
theorem run_copy_rowK (k : Nat) (w : World) (dT sT ty elem : TypeId) (g o dLen dCap : Nat) (a : Addr) (sLen sCap : Nat) (cur : Array Value) (t : TypeId) (cs : List Value)
    (hu : P.underlying dT = some (.slice elem)) (hs : (P.info? elem).map (·.size) = some k)
    (hg : w.heap[g]? = some (.cells cur t (0, 0))) (hn : cs.length = Nat.min sLen dLen * k)
    (hsrc : ∀ j v, cs[j]? = some v → w.cell? (a.add j) = some v) (hfit : o + cs.length ≤ cur.size) (h1 : ∀ v ∈ cs, v.oneCell' = true) :
    (Builtin.copy_ #[dT, sT] ty #[.slice (some ⟨g, o, none⟩) dLen dCap, .slice (some a) sLen sCap]).run P w =
      .ok (goInt (Nat.min sLen dLen)) (w.setRow g (cur.toList.take o ++ cs ++ cur.toList.drop (o + cs.length)).toArray) := by
  have hl := run_loadCells_list (P := P) w a cs hsrc
  have hst := run_storeCells_at P g o t cs 0 cur w hg (by simpa using hfit) h1
  cases hq : P.info? elem with
  | none => simp [hq] at hs
  | some i =>
    have hi : i.size = k := by simpa [hq] using hs
    rw [hn] at hl
    simp [Builtin.copy_, run_underlying hu, Builtin.lenOf, Builtin.firstCells, sizeOf, typeInfo, hq, hi, hl, hst]
end
/-- a copy whose run is known, as a step -/
theorem wpList_copy_run {P : Program} {w w' : World} {ops : Array Oper} {rest : List Oper} {o : Oper} {a : Act} {Q : Exit → Act → World → Prop} (hgd : o.guard = none) (s x : Operand) (t t' : TypeId)
    (ho : o.op = .call { callee := .builtin .copy, args := #[s, x], argTypes := #[t, t'] }) (v u r : Value) (hs : a.eval s = v) (hx : a.eval x = u)
    (hr : (Builtin.copy_ #[t, t'] o.type #[v, u]).run P w = .ok r w') (h : wpList P ops Q rest (a.put o.dst r) w') : wpList P ops Q (o :: rest) a w := by
  refine wpList_plain hgd fun K hK => ?_
  unfold Oper.wp execOp
  simp only [ho, resolve, invoke, builtin, Sem.run_bind, Sem.run_pure, Result.andThen_ok, List.map_toArray, List.map_cons, List.map_nil, hs, hx, hr]
  exact hK _ _ h
def rep3 (v : Int) : Nat → Array Value
  | 0 => #[.int .i64 0, .int .i64 0, .int .i64 0]
  | 1 => #[.int .i64 v, .int .i64 0, .int .i64 0]
  | 2 => #[.int .i64 v, .int .i64 v, .int .i64 0]
  | _ => #[.int .i64 v, .int .i64 v, .int .i64 v]
structure RpI (w : World) (g : Nat) (v : Int) (k : Nat) (wr : World) : Prop where
  row : wr.heap[g]? = some (.cells (rep3 v k) 3 (0, 0))
  below : Below w.heap.size w wr
theorem RpI.drew {w : World} {g : Nat} {v : Int} {k : Nat} {wr : World} (h : RpI w g v k wr) : RpI w g v k wr.drew := ⟨h.row, h.below.drew⟩
theorem RpI.put {w : World} {g : Nat} {v : Int} {k : Nat} {wr : World} (h : RpI w g v k wr) (hg : w.heap.size ≤ g) (k' : Nat) : RpI w g v k' (wr.setRow g (rep3 v k')) := by
  have hl := lt_of_heap h.row
  exact ⟨setRow_heap wr g _ _ 3 _ h.row, h.below.grown ⟨rfl, rfl, rfl, by simp [World.setRow], fun j hj hne => setRow_other _ _ _ _ (fun e => hne (by rw [e]))⟩ (Nat.le_trans hg (Nat.le_of_lt hl)) (fun j e => by injection e with e; omega)⟩
set_option maxHeartbeats 2000000 in
theorem Repeat3_any (b off c : Nat) (v : Int) (w : World) (hc : w.cell? ⟨b, off, none⟩ = some (.int .i64 v)) (hb : b < w.heap.size) :
    Calls Try.prog 98 #[.slice (some ⟨b, off, none⟩) 1 c, .int .i64 3] w fun e w' => ∃ g, e = .returned (.slice (some ⟨g, 0, none⟩) 3 3) ∧ w.heap.size ≤ g ∧ w'.heap[g]? = some (.cells #[.int .i64 v, .int .i64 v, .int .i64 v] 3 (0, 0)) ∧ Below w.heap.size w w' := by
  have mixed := mixedOrders
  have HM := hide (Mul_13 w)
  obtain ⟨g, hg⟩ : ∃ g, w.heap.size = g := ⟨_, rfl⟩
  have hmk : (Instr.makeSlice 40 (.int .i64 3) (.int .i64 3)).run Try.prog w = .ok (.slice (some ⟨g, 0, none⟩) 3 3) (w.alloc (.cells #[.int .i64 0, .int .i64 0, .int .i64 0] 3)) := by
    have := run_make_row' (P := Try.prog) 40 3 (.int .i64 0) 8 Try.underlying40 info3 rfl .i64 .i64 3 (by omega) (by omega) w
    rw [hg, show madeCells #[.int .i64 0] 3 = #[.int .i64 0, .int .i64 0, .int .i64 0] from by kernel_rfl] at this
    exact this
  obtain ⟨W1, hW1⟩ : ∃ W1, w.alloc (.cells #[.int .i64 0, .int .i64 0, .int .i64 0] 3) = W1 := ⟨_, rfl⟩
  have hb1 : Below w.heap.size w W1 := by rw [← hW1]; exact (Below.refl _ _).alloc (Nat.le_refl _) _
  have e1 : W1.heap[g]? = some (.cells (rep3 v 0) 3 (0, 0)) := by rw [← hW1, ← hg]; exact heap_alloc_new _ _
  rw [hW1] at hmk
  have hI0 : RpI w g v 0 W1 := ⟨e1, hb1⟩
  have hi3 : (Try.prog.info? 3).map (·.size) = some 1 := by kernel_rfl
  have hcp1 := run_copy_rowK (P := Try.prog) 1 W1 40 40 3 3 g 0 3 3 ⟨b, off, none⟩ 1 c (rep3 v 0) 3 [.int .i64 v] Try.underlying40 hi3 e1 rfl (fun j u hu => by
    match j, hu with
    | 0, hu =>
      simp at hu
      subst hu
      rw [addr_add, Nat.add_zero]
      exact (hb1.cell (p := ⟨b, off, none⟩) hb).trans hc) (by simp [rep3]) (by simp [Value.oneCell'])
  have hcp1 : (Builtin.copy_ #[40, 40] 3 #[.slice (some ⟨g, 0, none⟩) 3 3, .slice (some ⟨b, off, none⟩) 1 c]).run Try.prog W1 = .ok (.int .i64 1) (W1.setRow g (rep3 v 1)) := hcp1
  have HI1 := hide (hI0.put (by omega) 1)
  have HG := hide (show w.heap.size ≤ g by omega)
  clear hc hb hb1 e1 hI0 hi3 hW1 hg
  go_enter Try.func98, Try.ntmps98
  go_wp2_with fail
  refine HM.out.mono ?_
  rintro e w' ⟨rfl, hw⟩
  subst hw
  clear HM
  go_wp2_with (at_builtin; refine wpList_copy_run rfl (.tmp 31) (.tmp 32) 40 40 rfl _ _ _ rfl rfl hcp1 ?_)
  clear hmk hcp1
  go_loopw [8] (fun vk wr => ∃ k : Nat, vk = .int .i64 k ∧ 1 ≤ k ∧ k ≤ 3 ∧ Hid (RpI w' g v k wr)) (fun vk _ => 3 - (intOf vk).toNat)
  case atStart => exact ⟨1, rfl, by omega, by omega, HI1⟩
  case round =>
    obtain ⟨k, rfl, hk1, hk3, HI⟩ := hrel
    by_cases hlt : k < 3
    · have hlt' : (k : Int) < 3 := by omega
      have HP := hide (HI.out.drew.put HG.out (k + 1))
      have hrow := HI.out.drew.row
      have hi3 : (Try.prog.info? 3).map (·.size) = some 1 := by kernel_rfl
      have hcase : k = 1 ∨ k = 2 := by omega
      rcases hcase with rfl | rfl
      · have hcp := run_copy_rowK (P := Try.prog) 1 wr.drew 40 40 3 3 g 1 2 2 ⟨g, 0, none⟩ 1 3 (rep3 v 1) 3 [.int .i64 v] Try.underlying40 hi3 hrow rfl (fun j u hu => by
          match j, hu with
          | 0, hu =>
            simp at hu
            subst hu
            rw [addr_add, Nat.add_zero]
            simp [World.cell?, hrow, rep3]) (by simp [rep3]) (by simp [Value.oneCell'])
        have hcp : (Builtin.copy_ #[40, 40] 3 #[.slice (some ⟨g, 1, none⟩) 2 2, .slice (some ⟨g, 0, none⟩) 1 3]).run Try.prog wr.drew = .ok (.int .i64 1) (wr.drew.setRow g (rep3 v 2)) := hcp
        have HP : Hid (RpI w' g v 2 (wr.drew.setRow g (rep3 v 2))) := HP
        clear hi3 hk1 hk3 hlt
        go_upto_region 9 with (fail)
        go_region
        all_goals
          go_wp2_with fail
          go_roundw
          case rel => exact ⟨2, rfl, by omega, by omega, HP⟩
          case measure => decide
      · have hcp := run_copy_rowK (P := Try.prog) 1 wr.drew 40 40 3 3 g 2 1 1 ⟨g, 0, none⟩ 2 3 (rep3 v 2) 3 [.int .i64 v] Try.underlying40 hi3 hrow rfl (fun j u hu => by
          match j, hu with
          | 0, hu =>
            simp at hu
            subst hu
            rw [addr_add, Nat.add_zero]
            simp [World.cell?, hrow, rep3]) (by simp [rep3]) (by simp [Value.oneCell'])
        have hcp : (Builtin.copy_ #[40, 40] 3 #[.slice (some ⟨g, 2, none⟩) 1 1, .slice (some ⟨g, 0, none⟩) 2 3]).run Try.prog wr.drew = .ok (.int .i64 1) (wr.drew.setRow g (rep3 v 3)) := hcp
        have HP : Hid (RpI w' g v 3 (wr.drew.setRow g (rep3 v 3))) := HP
        clear hi3 hk1 hk3 hlt
        go_upto_region 9 with (fail)
        go_region
        all_goals
          go_wp2_with fail
          go_roundw
          case rel => exact ⟨3, rfl, by omega, by omega, HP⟩
          case measure => decide
    · obtain rfl : k = 3 := by omega
      have hd : ¬ (3 : Int) < 3 := by omega
      clear hk1 hk3 hlt
      go_wp2_with fail
      go_ret
      exact ⟨g, rfl, HG.out, HI.out.row, HI.out.below⟩
end Go.Proofs.Ytpbenjpponbjjaa
