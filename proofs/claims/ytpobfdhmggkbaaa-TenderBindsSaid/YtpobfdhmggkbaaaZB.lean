/- Contracts of the tender's small methods. -/
import Derived.Test.YtpobfdhmggkbaaaZA
import Derived.Deep.RegionHeld3
import Derived.BigRegion
import Derived.Deep.LoopGhost
namespace Go.Proofs.Ytpobfdhmggkbaaa
open Go.RowKit Go.Sort
abbrev tp (b : Nat) : Value := .pointer (some ⟨b, 0, none⟩)
theorem isLots_any (x : Int) (w : World) : Calls Try.prog 57 #[.int .i64 x] w fun e w' => e = .returned (.bool (decide (1 ≤ x ∧ x ≤ 12))) ∧ w' = w := by
  by_cases h1 : 1 ≤ x
  · by_cases h2 : x ≤ 12
    · rw [decide_eq_true ⟨h1, h2⟩]
      go_enter Try.func57, Try.ntmps57
      go_wp2_with fail
      go_ret
      exact ⟨by first | rfl | exact ret_bool (by simp [h2]), rfl⟩
    · rw [decide_eq_false fun h => h2 h.2]
      go_enter Try.func57, Try.ntmps57
      go_wp2_with fail
      go_ret
      exact ⟨by first | rfl | exact ret_bool (by simp [h2]), rfl⟩
  · rw [decide_eq_false fun h => h1 h.1]
    go_enter Try.func57, Try.ntmps57
    go_wp2_with fail
    go_ret
    exact ⟨by first | rfl | exact ret_bool (by simp [h1]), rfl⟩
theorem isBuyer_any (x : Int) (w : World) : Calls Try.prog 52 #[.int .i64 x] w fun e w' => e = .returned (.bool (decide (0 ≤ x ∧ x ≤ 7))) ∧ w' = w := by
  by_cases h1 : 0 ≤ x
  · by_cases h2 : x ≤ 7
    · rw [decide_eq_true ⟨h1, h2⟩]
      go_enter Try.func52, Try.ntmps52
      go_wp2_with fail
      go_ret
      exact ⟨by first | rfl | exact ret_bool (by simp [h2]), rfl⟩
    · rw [decide_eq_false fun h => h2 h.2]
      go_enter Try.func52, Try.ntmps52
      go_wp2_with fail
      go_ret
      exact ⟨by first | rfl | exact ret_bool (by simp [h2]), rfl⟩
  · rw [decide_eq_false fun h => h1 h.1]
    go_enter Try.func52, Try.ntmps52
    go_wp2_with fail
    go_ret
    exact ⟨by first | rfl | exact ret_bool (by simp [h1]), rfl⟩
theorem made_any {W : World} {b : Nat} {v : TdV} (h : TdAt W b v) (h0 : v.lots ≠ 0) : Calls Try.prog 62 #[tp b] W fun e w' => e = .returned (.bool true) ∧ w' = W := by
  have k0 := h.lots
  have hq : (v.lots != 0) = true := bne_iff_ne.2 h0
  clear h
  generalize v.lots = l at *
  go_enter Try.func62, Try.ntmps62
  go_wp2_with fail
  go_ret
  exact ⟨by first | rfl | exact ret_bool (by simp [h0]), rfl⟩
/-- check -/
theorem check_any {W : World} {b : Nat} {v : TdV} (h : TdAt W b v) (h0 : v.lots ≠ 0) (s : Int) : Calls Try.prog 63 #[tp b, .int .i64 s] W fun e w' => e = .returned (.int .i64 (if v.state = s then 0 else 9)) ∧ w' = W := by
  have k1 := h.state
  have HM := hide (made_any h h0)
  clear h
  by_cases hs : v.state = s
  · rw [if_pos hs]
    subst hs
    have hq : (v.state != v.state) = false := by simp
    go_enter Try.func63, Try.ntmps63
    go_wp2_with fail
    refine HM.out.mono ?_
    rintro e w' ⟨rfl, rfl⟩
    go_wp2_with fail
    go_ret
    exact ⟨rfl, rfl⟩
  · rw [if_neg hs]
    have hq : (v.state != s) = true := bne_iff_ne.2 hs
    generalize v.state = t at *
    clear hs
    go_enter Try.func63, Try.ntmps63
    go_wp2_with fail
    refine HM.out.mono ?_
    rintro e w' ⟨rfl, rfl⟩
    go_wp2_with fail
    go_ret
    exact ⟨rfl, rfl⟩
theorem State_any {W : World} {b : Nat} {v : TdV} (h : TdAt W b v) (h0 : v.lots ≠ 0) : Calls Try.prog 34 #[tp b] W fun e w' => e = .returned (.int .i64 v.state) ∧ w' = W := by
  have k1 := h.state
  have HM := hide (made_any h h0)
  clear h
  generalize v.state = t at *
  go_enter Try.func34, Try.ntmps34
  go_wp2_with fail
  refine HM.out.mono ?_
  rintro e w' ⟨rfl, rfl⟩
  go_wp2_with fail
  go_ret
  exact ⟨rfl, rfl⟩
theorem Shut_any {W : World} {b : Nat} {v : TdV} (h : TdAt W b v) (h0 : v.lots ≠ 0) (hs : v.state = 0) : Calls Try.prog 41 #[tp b] W fun e w' => e = .returned (.int .i64 0) ∧ TdAt w' b { v with state := 1 } ∧ W.grownBy w' (some b) := by
  have HC := hide (check_any h h0 0)
  rw [if_pos hs] at HC
  have HS := hide (h.set (v' := { v with state := 1 }) ⟨h.ok.given, h.ok.seals, h.ok.shown, h.ok.offers, h.ok.count⟩ (cellsT_set_state v 1))
  have k1 := h.state
  have k2 := h.frozen 1
  clear h
  go_enter Try.func41, Try.ntmps41
  go_wp2_with fail
  refine HC.out.mono ?_
  rintro e w' ⟨rfl, rfl⟩
  go_wp2_with fail
  go_ret
  exact ⟨rfl, HS.out⟩
end Go.Proofs.Ytpobfdhmggkbaaa
/- Submit, New, Missing. -/
namespace Go.Proofs.Ytpobfdhmggkbaaa
open Go.RowKit Go.Sort
def TdV.sealed (v : TdV) (i n : Nat) : TdV := { v with given := v.given.set i true, seals := v.seals.set i n }
theorem TdV.sealed_ok {v : TdV} (h : v.ok) (i n : Nat) : (v.sealed i n).ok := ⟨by simp [TdV.sealed, h.given], by simp [TdV.sealed, h.seals], h.shown, h.offers, h.count⟩
set_option maxHeartbeats 1000000 in
theorem Submit_any {W : World} {b : Nat} {v : TdV} (h : TdAt W b v) (h0 : v.lots ≠ 0) (hs : v.state = 0) {i : Nat} (hi : i < 8) (n : Nat) : Calls Try.prog 40 #[tp b, .int .i64 i, .int .u64 (n : Nat)] W fun e w' => e = .returned (.int .i64 0) ∧ TdAt w' b (v.sealed i n) ∧ W.grownBy w' (some b) := by
  have mixed := mixedOrders
  have HC := hide (check_any h h0 0)
  rw [if_pos hs] at HC
  have HB := hide (isBuyer_any i W)
  rw [decide_eq_true (by omega : (0 : Int) ≤ (i : Int) ∧ (i : Int) ≤ 7)] at HB
  have h1 := h.set (v' := { v with given := v.given.set i true }) ⟨by simp [h.ok.given], h.ok.seals, h.ok.shown, h.ok.offers, h.ok.count⟩ (cellsT_set_given h.ok hi true)
  have h2 := h1.1.set (v' := v.sealed i n) (TdV.sealed_ok h.ok i n) (cellsT_set_seals h1.1.ok hi n)
  have HS : Hid (TdAt ((W.setCell ⟨b, 2 + i, none⟩ (.bool true)).setCell ⟨b, 10 + i, none⟩ (.int .u64 (n : Nat))).drew b (v.sealed i n) ∧ W.grownBy ((W.setCell ⟨b, 2 + i, none⟩ (.bool true)).setCell ⟨b, 10 + i, none⟩ (.int .u64 (n : Nat))).drew (some b)) := ⟨h2.1.keep (((Gr.refl _).drew).grownBy none) (by simp), (h1.2.trans h2.2).trans (((Gr.refl _).drew).grownBy (some b))⟩
  have k1 := h.given hi
  have k2 := h.seals hi
  have k3 := h.frozen (2 + i)
  have k4 := h.frozen (10 + i)
  have q1 : (i : Int) < 8 := by omega
  have k5 : ∀ (W' : World) u, W'.cell? ⟨b, 10 + i, none⟩ = some (.int .u64 (v.seals.getD i 0 : Nat)) → (W'.setCell ⟨b, 2 + i, none⟩ u).cell? ⟨b, 10 + i, none⟩ = some (.int .u64 (v.seals.getD i 0 : Nat)) := fun W' u h => by
    rw [World.cell?_setCell_other _ _ _ _ (by intro e; simp only [Addr.mk.injEq] at e; omega)]
    exact h
  clear h h1 h2
  generalize v.given.getD i false = x at *
  generalize v.seals.getD i 0 = y at *
  go_enter Try.func40, Try.ntmps40
  go_wp2_with fail
  refine HC.out.mono ?_
  rintro e w' ⟨rfl, rfl⟩
  go_wp2_with fail
  refine HB.out.mono ?_
  rintro e w'' ⟨rfl, rfl⟩
  go_wp2_with fail
  go_region
  go_wp2_with fail
  go_ret
  exact ⟨rfl, HS.out⟩
/-- a tender as New makes it -/
def TdV.new (l : Int) : TdV := ⟨l, 0, List.replicate 8 false, List.replicate 8 0, List.replicate 8 false, List.replicate 16 (0, 0, 0), 0⟩
theorem TdV.new_ok (l : Int) : (TdV.new l).ok := ⟨rfl, rfl, rfl, rfl, Nat.zero_le _⟩
set_option maxRecDepth 100000 in
theorem new_cells (l : Int) : (Try.zeroCells75.setIfInBounds 0 (.int .i64 l)).setIfInBounds 1 (.int .i64 0) = (cellsT (TdV.new l)).toArray := by kernel_rfl
set_option maxHeartbeats 1000000 in
theorem New_any {l : Int} (h1 : 1 ≤ l) (h2 : l ≤ 12) (W : World) : Calls Try.prog 31 #[.int .i64 l] W fun e w' => ∃ b, e = .returned (.tuple #[tp b, .int .i64 0]) ∧ W.heap.size ≤ b ∧ TdAt w' b (TdV.new l) ∧ Below W.heap.size W w' := by
  have HL := hide (isLots_any l W)
  rw [decide_eq_true ⟨h1, h2⟩] at HL
  go_enter Try.func31, Try.ntmps31
  go_wp2_with fail
  refine HL.out.mono ?_
  rintro e w' ⟨rfl, rfl⟩
  go_wp2_with fail
  go_ret2
  refine ⟨_, rfl, Nat.le_refl _, ⟨TdV.new_ok l, ?_⟩, (Below.refl _ _).alloc (Nat.le_refl _) _⟩
  rw [heap_alloc_new, new_cells]
end Go.Proofs.Ytpobfdhmggkbaaa
/- The index of an array value at a place that is not written out. -/
namespace Go.Proofs.Ytpobfdhmggkbaaa
open Go Go.RowKit Go.Sort
/-- an index as a step of a walk -/
theorem wpList_index {P : Program} {w : World} {ops : Array Oper} {rest : List Oper} {o : Oper} {a : Act} {Q : Exit → Act → World → Prop} (hgd : o.guard = none) (t : TypeId) (x i : Operand) (ho : o.op = .index t x i) (v : Value)
    (hrun : (Instr.index t (a.eval x) (a.eval i)).run P w = .ok v w) (h : wpList P ops Q rest (a.put o.dst v) w) : wpList P ops Q (o :: rest) a w := by
  refine wpList_plain hgd fun K hK => ?_
  unfold Oper.wp
  simp [execOp, ho, hrun, Result.andThen]
  exact hK _ _ h
set_option maxRecDepth 100000 in
/-- of eight Bools -/
theorem idx_b8 (cs : Array Value) (i : Nat) (h : i < 8) (w : World) (x : Value) (hx : cs[i]? = some x) : (Instr.index 69 (.agg cs) (.int .i64 i)).run Try.prog w = .ok x w := by
  have hu : Try.prog.underlying 69 = some (.array 8 4) := by kernel_rfl
  have hag : ∀ w, (isAgg 4).run Try.prog w = .ok false w := fun w => by kernel_rfl
  have hsz : ∀ w, (Go.sizeOf 4).run Try.prog w = .ok 1 w := fun w => by kernel_rfl
  simp [Instr.index, asIntOf, run_underlying hu, hsz]
  rw [if_pos h]
  simp [part, hag, hx]
end Go.Proofs.Ytpobfdhmggkbaaa
/- Missing. -/
namespace Go.Proofs.Ytpobfdhmggkbaaa
open Go.RowKit Go.Sort
theorem info3 : (Try.prog.info? 3).map (fun i => (i.zero, i.size, i.bytes)) = some (some (.int .i64 0), 1, 8) := by kernel_rfl
def missTo (v : TdV) : Nat → List Int
  | 0 => []
  | k + 1 => if v.given.getD k false && !v.shown.getD k false then missTo v k ++ [(k : Int)] else missTo v k
theorem missTo_succ (v : TdV) (k : Nat) : missTo v (k + 1) = if v.given.getD k false && !v.shown.getD k false then missTo v k ++ [(k : Int)] else missTo v k := rfl
def missV (v : TdV) : List Int := missTo v 8
theorem missTo_len (v : TdV) : ∀ k, (missTo v k).length ≤ k
  | 0 => Nat.le_refl _
  | k + 1 => by
    have := missTo_len v k
    unfold missTo
    split
    · rw [List.length_append]
      show _ + 1 ≤ _
      omega
    · omega
theorem info_parts {t : TypeId} {z : Value} {n m : Nat} (h : (Try.prog.info? t).map (fun i => (i.zero, i.size, i.bytes)) = some (some z, n, m)) : ∃ i, Try.prog.info? t = some i ∧ i.zero = some z ∧ i.size = n ∧ i.bytes = m := by
  cases hi : Try.prog.info? t with
  | none => rw [hi] at h; cases h
  | some i =>
    rw [hi] at h
    simp at h
    exact ⟨i, rfl, h.1, h.2.1, h.2.2⟩
theorem cell_one_new3 (W : World) (u : Value) (j : Nat) (x : Value) (h : [u][j]? = some x) : (W.alloc (.cells #[u] 3)).cell? ((⟨W.heap.size, 0, none⟩ : Addr).add j) = some x := by
  have a0 : (W.alloc (.cells #[u] 3)).heap[W.heap.size]? = some (.cells #[u] 3 (0, 0)) := heap_alloc_new W _
  match j, h with
  | 0, h =>
    simp at h
    subst h
    show (match (W.alloc (.cells #[u] 3)).heap[W.heap.size]? with | some (.cells c _ _) => c[0]? | _ => none) = some u
    rw [a0]
    rfl
  | j + 1, h => simp at h
theorem own_slice {w : World} {base : Nat} {e : TypeId} {size n : Nat} {v : Value} {xs : List Value} (h : w.ownsRow base e size v n xs) : ∃ a c, v = .slice a n c := by
  rcases h.2 with ⟨rfl, rfl⟩ | ⟨g, cap, cur, rfl, _⟩
  · exact ⟨_, _, rfl⟩
  · exact ⟨_, _, rfl⟩
set_option maxHeartbeats 4000000 in
set_option maxRecDepth 100000 in
theorem Missing_any {W : World} {b : Nat} {v : TdV} (h : TdAt W b v) (h0 : v.lots ≠ 0) : Calls Try.prog 35 #[tp b] W fun e w' => ∃ a n c, e = .returned (.slice a n c) ∧ w'.ownsRow W.heap.size 3 1 (.slice a n c) n ((missV v).map (Value.int .i64)) ∧ Below W.heap.size W w' := by
  have mixed := mixedOrders
  have HM := hide (made_any h h0)
  have g0 := h.given (i := 0) (by decide)
  have g1 := h.given (i := 1) (by decide)
  have g2 := h.given (i := 2) (by decide)
  have g3 := h.given (i := 3) (by decide)
  have g4 := h.given (i := 4) (by decide)
  have g5 := h.given (i := 5) (by decide)
  have g6 := h.given (i := 6) (by decide)
  have g7 := h.given (i := 7) (by decide)
  simp only [Nat.add_zero, Nat.reduceAdd] at g0 g1 g2 g3 g4 g5 g6 g7
  obtain ⟨G, hG⟩ : ∃ G : Nat → Bool, ∀ i, v.given.getD i false = G i := ⟨_, fun _ => rfl⟩
  rw [hG] at g0 g1 g2 g3 g4 g5 g6 g7
  have HT := hide h
  have HG := hide hG
  clear h hG
  have ts : ∀ h, (Try.prog.types[4]'h).size = 1 := fun _ => by kernel_rfl
  go_enter Try.func35, Try.ntmps35
  go_wp2_with fail
  refine HM.out.mono ?_
  rintro e w' ⟨rfl, rfl⟩
  go_wp2_with fail
  obtain ⟨p, hp⟩ : ∃ p, w'.heap.size = p := ⟨_, rfl⟩
  obtain ⟨i3, hi3, hy0, hy1, hy2⟩ := info_parts info3
  clear g0 g1 g2 g3 g4 g5 g6 g7 HM
  go_loopw [3, 13] (fun vo vi wr => ∃ (i : Nat) (a : Option Addr) (c k : Nat), i ≤ 8 ∧ vi = .int .i64 i ∧ k = (missTo v i).length ∧ vo = .slice a k c ∧ Hid (wr.ownsRow p 3 1 (.slice a k c) k ((missTo v i).map (Value.int .i64))) ∧ Hid (Below p w' wr)) (fun _ vi _ => 8 - (intOf vi).toNat)
  case atStart => exact ⟨0, none, 0, 0, Nat.zero_le _, rfl, rfl, rfl, World.ownsRow_nil _ _ _ _, Below.refl _ _⟩
  case round =>
    obtain ⟨i, a, c, k, hi, rfl, hk, rfl, HO, HB⟩ := hrel
    by_cases hlt : i < 8
    · have hsz := HB.out.size
      rw [hp] at hsz
      have hlt' : (i : Int) < 8 := by omega
      obtain ⟨x, hx⟩ : ∃ x, G i = x := ⟨_, rfl⟩
      obtain ⟨s, hs⟩ : ∃ s, v.shown.getD i false = s := ⟨_, rfl⟩
      have hkl := missTo_len v i
      have HK : Hid (k ≤ i) := by show k ≤ i; omega
      have HST : Hid (missTo v (i + 1) = if x && !s then missTo v i ++ [(i : Int)] else missTo v i) := by
        show _ = _
        rw [missTo_succ, HG.out, hx, hs]
      have k18 : wr.cell? ⟨b, 18 + i, none⟩ = some (.bool s) := by
        have h2 : TdAt wr b v := HT.out.below (by rw [hp]; exact HB.out)
        have := h2.shown hlt
        rwa [hs] at this
      have HKL := hide hk
      have HLT := hide hlt
      have HIX : Hid (#[Value.bool (G 0), .bool (G 1), .bool (G 2), .bool (G 3), .bool (G 4), .bool (G 5), .bool (G 6), .bool (G 7)][i]? = some (.bool x)) := by
        have hcase : i = 0 ∨ i = 1 ∨ i = 2 ∨ i = 3 ∨ i = 4 ∨ i = 5 ∨ i = 6 ∨ i = 7 := by omega
        show _ = _
        rw [← hx]
        rcases hcase with rfl | rfl | rfl | rfl | rfl | rfl | rfl | rfl <;> rfl
      clear hkl hs hk hi hlt hsz hx
      have HSZ : Hid (p ≤ wr.heap.size) := by have := HB.out.size; rw [hp] at this; exact this
      have HBB : Hid (k + 1 ≤ maxLen) := hide (by have := HK.out; unfold maxLen; omega)
      have HBC : Hid ((k + 1) * 8 ≤ 140737488355328) := hide (by have := HK.out; omega)
      cases x with
      | false =>
        have HS2 : Hid (missTo v (i + 1) = missTo v i) := HST.out
        have HKN : Hid (k = (missTo v (i + 1)).length) := by show _ = _; rw [HS2.out]; exact HKL.out
        have HON : Hid (wr.ownsRow p 3 1 (.slice a k c) k ((missTo v (i + 1)).map (Value.int .i64))) := by show World.ownsRow _ _ _ _ _ _ _; rw [HS2.out]; exact HO.out
        have HIN : Hid (i + 1 ≤ 8) := HLT.out
        go_wp2_with (refine wpList_index rfl 69 (.tmp 12) (.tmp 13) rfl (.bool false) (idx_b8 _ i HLT.out _ _ HIX.out) ?_)
        go_roundw
        case rel => exact ⟨i + 1, a, c, k, HIN.out, by go_num, HKN.out, rfl, HON, HB⟩
        case measure => have := HIN.out; simp [intOf]; omega
      | true =>
        cases s with
        | true =>
          have HS2 : Hid (missTo v (i + 1) = missTo v i) := HST.out
          have HKN : Hid (k = (missTo v (i + 1)).length) := by show _ = _; rw [HS2.out]; exact HKL.out
          have HON : Hid (wr.ownsRow p 3 1 (.slice a k c) k ((missTo v (i + 1)).map (Value.int .i64))) := by show World.ownsRow _ _ _ _ _ _ _; rw [HS2.out]; exact HO.out
          have HIN : Hid (i + 1 ≤ 8) := HLT.out
          go_wp2_with (refine wpList_index rfl 69 (.tmp 12) (.tmp 13) rfl (.bool true) (idx_b8 _ i HLT.out _ _ HIX.out) ?_)
          go_roundw
          case rel => exact ⟨i + 1, a, c, k, HIN.out, by go_num, HKN.out, rfl, HON, HB⟩
          case measure => have := HIN.out; simp [intOf]; omega
        | false =>
          have HS2 : Hid (missTo v (i + 1) = missTo v i ++ [(i : Int)]) := HST.out
          have HIN : Hid (i + 1 ≤ 8) := HLT.out
          have HKN : Hid (k + 1 = (missTo v (i + 1)).length) := by show _ = _; rw [HS2.out, List.length_append, ← HKL.out]; rfl
          have HNEW : Hid (∀ j u, [Value.int .i64 (i : Int)][j]? = some u → (wr.alloc (.cells #[.int .i64 (i : Int)] 3)).cell? ((⟨wr.heap.size, 0, none⟩ : Addr).add j) = some u) := cell_one_new3 wr _
          have HS7 : Hid (p ≤ (wr.alloc (.cells #[.int .i64 (i : Int)] 3)).heap.size) := by have := HSZ.out; show _ ≤ _; rw [World.size_alloc]; omega
          go_wp2_with (first
            | (refine wpList_index rfl 69 (.tmp 12) (.tmp 13) rfl (.bool true) (idx_b8 _ i HLT.out _ _ HIX.out) ?_)
            | (at_builtin; refine wpList_append_own_at _ rfl (.tmp 27) (.tmp 29) _ rfl p 3 i3 (.int .i64 0) 1 8 Try.underlying26 hi3 hy0 hy1 hy2 rfl (by decide) _ _ _ rfl (HO.out.alloc _) ⟨wr.heap.size, 0, none⟩ 1 1 [.int .i64 (i : Int)] rfl rfl HNEW.out (by intro u hu; simp at hu; rw [hu]; rfl) HBB.out HBC.out HS7.out ?_; intro v8 w8 hown8 hgrow8 hnil8 hat8; obtain ⟨a8, c8, rfl⟩ := own_slice hown8; have HO8 : Hid (w8.ownsRow p 3 1 (.slice a8 (k + 1) c8) (k + 1) ((missTo v (i + 1)).map (Value.int .i64))) := (by show World.ownsRow _ _ _ _ _ _ _; rw [HS2.out, List.map_append]; exact hown8); have HB8 : Hid (Below p w' w8) := hide ((HB.out.alloc HSZ.out _).grown hgrow8 HS7.out (fun k e => (HO.out.lt k e).1)); clear hown8 hgrow8 hnil8 hat8))
          go_roundw
          case rel => exact ⟨i + 1, a8, c8, k + 1, HIN.out, by go_num, HKN.out, rfl, HO8, HB8⟩
          case measure => have := HIN.out; simp [intOf]; omega
    · obtain rfl : i = 8 := by omega
      have hd : ¬ (8 : Int) < 8 := by omega
      subst hk
      clear hlt hi
      go_wp2_with fail
      go_ret
      exact ⟨a, _, c, rfl, HO.out, HB.out⟩
end Go.Proofs.Ytpobfdhmggkbaaa
/- Offers in memory; ContainsFunc over them. -/
namespace Go.Proofs.Ytpobfdhmggkbaaa
open Go.RowKit Go.Sort
def oA (l : List Ofr) (i : Nat) : Ofr := l.getD i (0, 0, 0)
abbrev ofV (o : Ofr) : Value := .agg #[.int .i64 o.1, .int .i64 o.2.1, .int .i64 o.2.2]
/-- offers in memory -/
structure OffAt (B : Nat) (W : World) (A : Option Addr) (n : Nat) (l : List Ofr) : Prop where
  len : l.length = n
  row : n = 0 ∨ ∃ b off, A = some ⟨b, off, none⟩ ∧ b < B ∧ ∀ i, i < n → W.cell? ⟨b, off + i * 3, none⟩ = some (.int .i64 (oA l i).1) ∧ W.cell? ⟨b, off + i * 3 + 1, none⟩ = some (.int .i64 (oA l i).2.1) ∧ W.cell? ⟨b, off + i * 3 + 2, none⟩ = some (.int .i64 (oA l i).2.2)
theorem OffAt.now {B : Nat} {W W' : World} {A : Option Addr} {n : Nat} {l : List Ofr} (h : OffAt B W A n l) (hb : Below B W W') (hB : B ≤ W.heap.size) : OffAt W'.heap.size W' A n l :=
  ⟨h.len, h.row.imp id fun ⟨b, off, e, h1, h2⟩ => ⟨b, off, e, by have := hb.size; omega, fun i hi => ⟨(hb.cell (p := ⟨b, _, none⟩) h1).trans (h2 i hi).1, (hb.cell (p := ⟨b, _, none⟩) h1).trans (h2 i hi).2.1, (hb.cell (p := ⟨b, _, none⟩) h1).trans (h2 i hi).2.2⟩⟩⟩
theorem OffAt.at_ {B : Nat} {W : World} {A : Option Addr} {n : Nat} {l : List Ofr} (h : OffAt B W A n l) {i : Nat} (hi : i < n) :
    ∃ b off, A = some ⟨b, off, none⟩ ∧ b < B ∧ W.cell? ⟨b, off + i * 3, none⟩ = some (.int .i64 (oA l i).1) ∧ W.cell? ⟨b, off + i * 3 + 1, none⟩ = some (.int .i64 (oA l i).2.1) ∧ W.cell? ⟨b, off + i * 3 + 2, none⟩ = some (.int .i64 (oA l i).2.2) := by
  rcases h.row with h0 | ⟨b, off, e, h1, h2⟩
  · omega
  · exact ⟨b, off, e, h1, h2 i hi⟩
/-- is there one? -/
def hasO (p : Ofr → Bool) (l : List Ofr) : Bool := l.any p
theorem has_yes {p : Ofr → Bool} {l : List Ofr} {i : Nat} (hi : i < l.length) (h : p (oA l i) = true) : hasO p l = true := by
  unfold hasO
  rw [List.any_eq_true]
  refine ⟨l[i], List.getElem_mem _, ?_⟩
  unfold oA at h
  rwa [List.getD_eq_getElem?_getD, List.getElem?_eq_getElem hi] at h
theorem has_no {p : Ofr → Bool} {l : List Ofr} (h : ∀ i, i < l.length → p (oA l i) = false) : hasO p l = false := by
  unfold hasO
  rw [List.any_eq_false]
  intro x hx
  obtain ⟨i, hi, rfl⟩ := List.getElem_of_mem hx
  have := h i hi
  unfold oA at this
  rw [List.getD_eq_getElem?_getD, List.getElem?_eq_getElem hi] at this
  simpa using this
set_option maxHeartbeats 2000000 in
theorem IndexFunc_any (A : Option Addr) (n c : Nat) (l : List Ofr) (w : World) (hx : OffAt w.heap.size w A n l) (hn : n ≤ 1000000) (x y : Value) (p : Ofr → Bool)
    (hcb : ∀ i, i < n → ∀ w1, Gr w w1 → Calls Try.prog 80 #[ofV (oA l i), x, y] w1 fun e w' => e = .returned (.bool (p (oA l i))) ∧ Gr w1 w') :
    Calls Try.prog 88 #[.slice A n c, .func (.func 80) #[] #[x, y]] w fun e w' => ∃ k : Int, e = .returned (.int .i64 k) ∧ decide (0 ≤ k) = hasO p l ∧ Gr w w' := by
  have mixed := mixedOrders
  have HX := hide hx
  have HN := hide hn
  have HLEN := hide hx.len
  have HCB := hide hcb
  clear hx hn hcb
  go_enter Try.func88, Try.ntmps88
  go_wp2_with fail
  go_loopw [8] (fun vi wr => ∃ i : Nat, vi = .int .i64 i ∧ i ≤ n ∧ Hid (∀ j, j < i → p (oA l j) = false) ∧ Hid (Gr w wr)) (fun vi _ => n - (intOf vi).toNat)
  case atStart => exact ⟨0, rfl, Nat.zero_le _, fun j hj => absurd hj (Nat.not_lt_zero _), Gr.refl _⟩
  case round =>
    obtain ⟨i, rfl, hi, HI, HG⟩ := hrel
    by_cases hlt : i < n
    · have hlt' : (i : Int) < (n : Int) := by omega
      obtain ⟨b, off, rfl, hb, c0, c1, c2⟩ := HX.out.at_ hlt
      have d0 := (HG.out.cell (p := ⟨b, off + i * 3, none⟩) hb).trans c0
      have d1 := (HG.out.cell (p := ⟨b, off + i * 3 + 1, none⟩) hb).trans c1
      have d2 := (HG.out.cell (p := ⟨b, off + i * 3 + 2, none⟩) hb).trans c2
      have HC := hide (HCB.out i hlt wr HG.out)
      have hN := HN.out
      have HS : Hid (p (oA l i) = false → ∀ j, j < i + 1 → p (oA l j) = false) := fun h j hj => by
        rcases Nat.lt_or_ge j i with q | q
        · exact HI.out j q
        · obtain rfl : j = i := by omega
          exact h
      have HR : Hid (p (oA l i) = true → hasO p l = true) := fun h => has_yes (by rw [HLEN.out]; exact hlt) h
      obtain ⟨q, hq⟩ : ∃ q, p (oA l i) = q := ⟨_, rfl⟩
      rw [hq] at HC HS HR
      have HQ := hide (show i + 1 ≤ n by omega)
      clear c0 c1 c2 hi hlt hq
      generalize oA l i = o at d0 d1 d2 HC
      obtain ⟨o1, o2, o3⟩ := o
      have d0 : wr.cell? ⟨b, off + i * 3, none⟩ = some (.int .i64 o1) := d0
      have d1 : wr.cell? ⟨b, off + i * 3 + 1, none⟩ = some (.int .i64 o2) := d1
      have d2 : wr.cell? ⟨b, off + i * 3 + 2, none⟩ = some (.int .i64 o3) := d2
      have HC : Hid (Calls Try.prog 80 #[.agg #[.int .i64 o1, .int .i64 o2, .int .i64 o3], x, y] wr fun e w' => e = .returned (.bool q) ∧ Gr wr w') := HC
      go_wp2_with fail
      refine HC.out.mono ?_
      rintro e w1 ⟨rfl, hg⟩
      have HG1 := hide (HG.out.trans hg)
      clear hg d0 d1 d2 HC
      cases q
      · have HS2 := hide (HS.out rfl)
        go_wp2_with fail
        go_roundw
        case rel => exact ⟨i + 1, by go_num, HQ.out, HS2.out, HG1⟩
        case measure => have := HQ.out; simp [intOf]; omega
      · have HR2 := hide (HR.out rfl)
        go_wp2_with fail
        go_ret
        exact ⟨i, rfl, by rw [HR2.out]; exact decide_eq_true (by omega), HG1.out⟩
    · obtain rfl : i = n := by omega
      have HR := hide (has_no (p := p) (l := l) (by rw [HLEN.out]; exact HI.out))
      have hd : ¬ (i : Int) < (i : Int) := by omega
      clear hlt hi
      go_wp2_with fail
      go_ret
      exact ⟨-1, rfl, by rw [HR.out]; rfl, HG.out⟩
theorem ContainsFunc_any (A : Option Addr) (n c : Nat) (l : List Ofr) (w : World) (hx : OffAt w.heap.size w A n l) (hn : n ≤ 1000000) (x y : Value) (p : Ofr → Bool)
    (hcb : ∀ i, i < n → ∀ w1, Gr w w1 → Calls Try.prog 80 #[ofV (oA l i), x, y] w1 fun e w' => e = .returned (.bool (p (oA l i))) ∧ Gr w1 w') :
    Calls Try.prog 81 #[.slice A n c, .func (.func 80) #[] #[x, y]] w fun e w' => e = .returned (.bool (hasO p l)) ∧ Gr w w' := by
  have HC := hide (IndexFunc_any A n c l w hx hn x y p hcb)
  clear hx hcb
  go_enter Try.func81, Try.ntmps81
  go_wp2_with fail
  refine HC.out.mono ?_
  rintro e w1 ⟨k, rfl, hk, hg⟩
  have HK := hide hk
  have HG := hide hg
  clear hk HC hg
  go_wp2_with fail
  go_ret
  exact ⟨ret_bool HK.out, HG.out⟩
end Go.Proofs.Ytpobfdhmggkbaaa
