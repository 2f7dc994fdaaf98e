/- The specification's hashes: Mix, Eight, LeafBytes, NodeBytes, Leaf, Node, half. -/
import Derived.Test.YtbinmkigolkhcaaDoorHA
import Derived.Test.YtbinmkigolkhcaaDoorPJ
set_option linter.unusedSimpArgs false
set_option linter.unusedVariables false
namespace Go.Proofs.YtbinmkigolkhcaaDoor
open Go.RowKit Go.Sort
attribute [local go_sem] Oper.semAt_some

/-- what is appended: nothing out of nil, or the cells behind an address -/
def Src (w : World) (A : Option Addr) (m : Nat) (news : List Value) : Prop :=
  (A = none ∧ m = 0 ∧ news = []) ∨ ∃ ad, A = some ad ∧ ∀ j u, news[j]? = some u → w.cell? (ad.add j) = some u
theorem append_from_nil {P : Program} {w : World} (base : Nat) (t ty e : TypeId) (i : TypeInfo) (size : Nat) (ht : P.underlying t = some (.slice e)) (hi : P.info? e = some i)
    (v : Value) (n : Nat) (xs : List Value) (hown : w.ownsRow base e size v n xs) (c : Nat) : (Builtin.append_ #[t, t] ty #[v, .slice none 0 c]).run P w = .ok v w := by
  rcases hown.2 with ⟨rfl, h0⟩ | ⟨g, cap, cur, rfl, h1, h2, hle, h3⟩
  · simp [Builtin.append_, run_underlying ht, sizeOf, typeInfo, hi, Builtin.lenOf, Builtin.firstCells]
  · simp [Builtin.append_, run_underlying ht, sizeOf, typeInfo, hi, Builtin.lenOf, Builtin.firstCells, hle, storeCells]
theorem wpList_append_src {P : Program} {w : World} {ops : Array Oper} {rest : List Oper} {o : Oper} {a : Act} {Q : Exit → Act → World → Prop} (hgd : o.guard = none) (s x : Operand) (t : TypeId)
    (ho : o.op = .call { callee := .builtin .append, args := #[s, x], argTypes := #[t, t] })
    (base : Nat) (e : TypeId) (i : TypeInfo) (z : Value) (size bytes : Nat) (ht : P.underlying t = some (.slice e)) (hi : P.info? e = some i) (hz : i.zero = some z)
    (hsize : i.size = size) (hby : i.bytes = bytes) (hzs : z.cells.size = size) (hsz : 0 < size)
    (v : Value) (n : Nat) (xs : List Value) (hs : a.eval s = v) (hown : w.ownsRow base e size v n xs)
    (A : Option Addr) (m c : Nat) (news : List Value) (hx : a.eval x = .slice A m c) (hl : news.length = m * size) (hsrc : Src w A m news) (h1 : ∀ u ∈ news, u.oneCell' = true)
    (h63 : n + m ≤ maxLen) (hbytes : (n + m) * bytes ≤ 140737488355328) (hbase : base ≤ w.heap.size)
    (h : ∀ v' w', w'.ownsRow base e size v' (n + m) (xs ++ news) → w.grownBy w' v.ownBlock → (v'.ownBlock = v.ownBlock ∨ v'.ownBlock = some w.heap.size) → wpList P ops Q rest (a.put o.dst v') w') :
    wpList P ops Q (o :: rest) a w := by
  rcases hsrc with ⟨rfl, rfl, rfl⟩ | ⟨ad, rfl, hc⟩
  · refine wpList_plain hgd fun K hK => ?_
    have hrun := append_from_nil (P := P) (w := w) base t o.type e i size ht hi v n xs hown c
    unfold Oper.wp
    simp [execOp, ho, resolve, invoke, builtin, hs, hx, hrun, Result.andThen]
    exact hK _ _ (h v w (by simpa using hown) (World.grownBy.refl w _) (.inl rfl))
  · exact wpList_append_own_at w hgd s x t ho base e i z size bytes ht hi hz hsize hby hzs hsz v n xs hs hown ad m c news hx hl hc h1 h63 hbytes hbase (fun v' w' a1 a2 _ a4 => h v' w' a1 a2 a4)
theorem add_here (b off j : Nat) : (⟨b, off, none⟩ : Addr).add j = ⟨b, off + j, none⟩ := by
  by_cases h0 : j = 0
  · subst h0; rfl
  · simp [Addr.add, h0]
theorem cellsB_get {l : List UInt8} {j : Nat} {u : Value} (h : (cellsB l)[j]? = some u) : j < l.length ∧ u = .int .u8 ((l.getD j 0).toNat : Nat) := by
  unfold cellsB at h
  rw [List.getElem?_map] at h
  rcases Nat.lt_or_ge j l.length with h1 | h1
  · rw [List.getElem?_eq_getElem h1] at h
    injection h with h
    refine ⟨h1, ?_⟩
    rw [← h, List.getD_eq_getElem?_getD, List.getElem?_eq_getElem h1]
    rfl
  · rw [List.getElem?_eq_none h1] at h
    cases h
theorem src_bytes {B : Nat} {w : World} {A : Option Addr} {n : Nat} {l : List UInt8} (h : BytesAt B w A n l) : Src w A n (cellsB l) := by
  have hl := h.1
  cases A with
  | none =>
    have h0 : n = 0 := by
      rcases h.2 with h0 | ⟨b, off, e, _⟩
      · exact h0
      · cases e
    subst h0
    rw [List.eq_nil_of_length_eq_zero hl]
    exact .inl ⟨rfl, rfl, rfl⟩
  | some ad =>
    refine .inr ⟨ad, rfl, fun j u hu => ?_⟩
    obtain ⟨hj, rfl⟩ := cellsB_get hu
    rcases h.2 with h0 | ⟨b, off, e, _, hc⟩
    · omega
    · injection e with e
      subst e
      rw [add_here]
      exact hc j (by omega)
theorem one_bytes (l : List UInt8) : ∀ u ∈ cellsB l, u.oneCell' = true := by
  intro u hu
  unfold cellsB at hu
  obtain ⟨b, _, rfl⟩ := List.mem_map.1 hu
  rfl
theorem len_cellsB (l : List UInt8) : (cellsB l).length = l.length := by unfold cellsB; rw [List.length_map]
/-- a row of bytes of the call's own -/
def RowP (n : Nat) (l : List UInt8) (w : World) (e : Ending) (w' : World) : Prop :=
  ∃ a c, e = .returned (.slice a n c) ∧ w'.ownsRow w.heap.size 5 1 (.slice a n c) n (cellsB l) ∧ Below w.heap.size w w'
theorem below_own {B : Nat} {w w' : World} {e : TypeId} {size n : Nat} {v : Value} {xs : List Value} {b2 : Nat} (ho : w.ownsRow b2 e size v n xs) (hg : w.grownBy w' v.ownBlock) (h2 : B ≤ b2) (hB : B ≤ w.heap.size) : Below B w w' :=
  ⟨hg.os, hg.tape, hg.output, hg.size, fun k hk => hg.block k (Nat.lt_of_lt_of_le hk hB) fun e => by have := (own_lt ho k e.symm).1; omega⟩

set_option maxHeartbeats 2000000 in
set_option maxRecDepth 100000 in
theorem refMix_any (A : Option Addr) (n cap : Nat) (l : List UInt8) (w : World) (hx : BytesAt w.heap.size w A n l) (hn : n ≤ 1000000) :
    Calls Tryd.prog 21 #[.slice A n cap] w fun e w' => e = .returned (.int .u64 (mixV l : Nat)) ∧ w = w' := by
  have mixed := mixedOrders
  have HX := hide hx
  have hlen := hx.1
  clear hx
  go_enter Tryd.func21, Tryd.ntmps21
  go_wp2_with fail
  go_loopw [3, 4] (fun vh vi wr => ∃ i : Nat, i ≤ n ∧ vi = .int .i64 i ∧ vh = .int .u64 (mixV (l.take i) : Nat) ∧ w = wr) (fun _ vi _ => n - (intOf vi).toNat)
  case atStart => exact ⟨0, Nat.zero_le _, rfl, rfl, rfl⟩
  case round =>
    obtain ⟨i, hi, rfl, rfl, rfl⟩ := hrel
    by_cases hlt : i < n
    · have hlt' : (i : Int) < (n : Int) := by omega
      obtain ⟨b, off, rfl, hb, c0⟩ := HX.out.at_ hlt
      have ht : mixV (l.take (i + 1)) = mixS (mixV (l.take i)) (l.getD i 0) := mixN_take (l := l) (i := i) (by omega)
      have hx256 : (l.getD i 0).toNat < 256 := UInt8.toNat_lt _
      unfold mixS at ht
      obtain ⟨x, hxx⟩ : ∃ x, (l.getD i 0).toNat = x := ⟨_, rfl⟩
      rw [hxx] at ht c0 hx256
      have HT := hide ht
      have HX2 := hide hx256
      clear ht hxx hx256
      go_wp2_with fail
      refine ⟨⟨i + 1, by omega, by go_num, ?_, trivial⟩, by simp [intOf]; omega⟩
      rw [mix_step (mixV_lt _) HX2.out, HT.out]
    · obtain rfl : i = n := by omega
      go_wp2_with fail
      go_ret
      exact ⟨by rw [List.take_of_length_le (Nat.le_of_eq hlen)]; rfl, rfl⟩

set_option maxHeartbeats 2000000 in
set_option maxRecDepth 100000 in
theorem Eight_any (x : Nat) (hx : x < 18446744073709551616) (w : World) : Calls Tryd.prog 91 #[.int .u64 x] w (RowP 8 (eight x) w) := by
  have mixed := mixedOrders
  obtain ⟨i0, hi0, hz0, hz1, hz2⟩ := info_parts info5
  have HX := hide hx
  clear hx
  go_enter Tryd.func91, Tryd.ntmps91
  go_wp2_with fail
  go_loopw [0, 3, 4] (fun vx vb vi wr => ∃ (i : Nat) (a' : Option Addr) (c' : Nat), i ≤ 8 ∧ vb = .slice a' i c' ∧ vx = .int .u64 (x / 256 ^ i : Nat) ∧ vi = .int .i64 i ∧ Hid (wr.ownsRow w.heap.size 5 1 (.slice a' i c') i (cellsB (eightF i x)) ∧ Below w.heap.size w wr)) (fun _ _ vi _ => 8 - (intOf vi).toNat)
  case atStart => exact ⟨0, none, 0, by omega, rfl, by simp, rfl, World.ownsRow_nil _ _ _ _, Below.refl _ _⟩
  case round =>
    obtain ⟨i, a', c', hi, rfl, rfl, rfl, HI⟩ := hrel
    by_cases hlt : i < 8
    · have hlt' : (i : Int) < 8 := by omega
      obtain ⟨q, hq⟩ : ∃ q, x / 256 ^ i = q := ⟨_, rfl⟩
      have hq2 : x / 256 ^ (i + 1) = q / 256 := by rw [Nat.pow_succ, ← Nat.div_div_eq_div_mul, hq]
      have hqb : q < 18446744073709551616 := by rw [← hq]; exact Nat.lt_of_le_of_lt (Nat.div_le_self _ _) HX.out
      have hs : cellsB (eightF (i + 1) x) = cellsB (eightF i x) ++ [.int .u8 ((q : Int) % 256)] := by
        rw [eightF_snoc, hq]
        unfold cellsB
        rw [List.map_append, List.map_singleton]
        congr 3
        have : (UInt8.ofNat (q % 256)).toNat = q % 256 := by simp
        rw [this]
        omega
      have e1 : IntKind.u64.wrap (q : Int) = (q : Int) := by rw [IntKind.wrap_u64]; omega
      have HQ := hide hq2
      have HS := hide hs
      have HQB := hide hqb
      rw [hq]
      have hb4 : w.heap.size ≤ (wr.alloc (.cells #[.int .u8 ((q : Int) % 256)] 5)).heap.size := by have := HI.out.2.size; simp; omega
      have hbb1 : i + 1 ≤ maxLen := by unfold maxLen; omega
      have hbb2 : (i + 1) * 1 ≤ 140737488355328 := by omega
      have HLT := hide hlt
      clear hlt hi hq hq2 hs hqb e1
      go_wp2_with (at_builtin; refine wpList_append_own_at _ rfl (.tmp 9) (.tmp 13) _ rfl w.heap.size 5 i0 (.int .u8 0) 1 1 Tryd.underlying23 hi0 hz0 hz1 hz2 rfl (by decide) _ _ _ rfl (HI.out.1.alloc _) ⟨wr.heap.size, 0, none⟩ 1 1 [.int .u8 ((q : Int) % 256)] rfl rfl (cell_one_at _ _ rfl) (by simp [Value.oneCell']) hbb1 hbb2 hb4 ?_; intro v1 w5 hown1 hgrow1 hnil1 hat1)
      obtain ⟨a2, c2, rfl⟩ := own_slice hown1
      have hB5 : Below w.heap.size w w5 := by
        have h1 := HI.out.2.alloc HI.out.2.size (.cells #[.int .u8 ((q : Int) % 256)] 5)
        exact h1.trans (below_own (HI.out.1.alloc _) hgrow1 (Nat.le_refl _) h1.size)
      have h8 := HLT.out
      refine ⟨⟨i + 1, a2, c2, by omega, rfl, by rw [HQ.out]; simp; rw [IntKind.wrap_u64]; have := HQB.out; omega, by go_num, ⟨?_, hB5⟩⟩, by simp [intOf]; omega⟩
      rw [HS.out]
      exact hown1
    · obtain rfl : i = 8 := by omega
      go_wp2_with fail
      go_ret
      exact ⟨a', c', rfl, HI.out.1, HI.out.2⟩

set_option maxHeartbeats 2000000 in
set_option maxRecDepth 100000 in
theorem LeafBytes_any (A : Option Addr) (n c : Nat) (l : List UInt8) (w : World) (hx : BytesAt w.heap.size w A n l) (hn : n ≤ 1000000) : Calls Tryd.prog 59 #[.slice A n c] w (RowP (n + 1) (leafB l) w) := by
  have mixed := mixedOrders
  obtain ⟨i0, hi0, hz0, hz1, hz2⟩ := info_parts info5
  have hal : Below w.heap.size w (w.alloc (.cells #[.int .u8 0] 5)) := (Below.refl _ w).alloc (Nat.le_refl _) _
  have HS := hide (src_bytes (hx.below hal))
  have HO : Hid ((w.alloc (.cells #[.int .u8 0] 5)).ownsRow w.heap.size 5 1 (.slice (some ⟨w.heap.size, 0, none⟩) 1 1) 1 (cellsB [0])) := World.ownsRow_lit w #[.int .u8 0] 1 (Nat.le_refl _) (by decide) rfl
  have HL := hide (show (cellsB l).length = n * 1 by rw [len_cellsB, hx.1, Nat.mul_one])
  have hbb1 : 1 + n ≤ maxLen := by unfold maxLen; omega
  have hbb2 : (1 + n) * 1 ≤ 140737488355328 := by omega
  have hb4 : w.heap.size ≤ (w.alloc (.cells #[.int .u8 0] 5)).heap.size := by simp
  have HAL := hide hal
  clear hx hn hal
  go_enter Tryd.func59, Tryd.ntmps59
  go_wp2_with (at_builtin; refine wpList_append_src rfl (.tmp 5) (.tmp 6) _ rfl w.heap.size 5 i0 (.int .u8 0) 1 1 Tryd.underlying23 hi0 hz0 hz1 hz2 rfl (by decide) _ _ _ rfl HO.out A n c (cellsB l) rfl HL.out HS.out (one_bytes l) hbb1 hbb2 hb4 ?_; intro v1 w5 hown1 hgrow1 hat1)
  obtain ⟨a2, c2, rfl⟩ := own_slice hown1
  have hB5 : Below w.heap.size w w5 := HAL.out.trans (below_own HO.out hgrow1 (Nat.le_refl _) HAL.out.size)
  have e : 1 + n = n + 1 := Nat.add_comm _ _
  rw [e] at hown1 ⊢
  go_ret
  exact ⟨a2, c2, rfl, hown1, hB5⟩

set_option maxHeartbeats 2000000 in
set_option maxRecDepth 100000 in
theorem NodeBytes_any (x y : Nat) (hx : x < 18446744073709551616) (hy : y < 18446744073709551616) (w : World) : Calls Tryd.prog 61 #[.int .u64 x, .int .u64 y] w (RowP 17 (nodeB x y) w) := by
  have mixed := mixedOrders
  obtain ⟨i0, hi0, hz0, hz1, hz2⟩ := info_parts info5
  have hal : Below w.heap.size w (w.alloc (.cells #[.int .u8 1] 5)) := (Below.refl _ w).alloc (Nat.le_refl _) _
  have HO : Hid ((w.alloc (.cells #[.int .u8 1] 5)).ownsRow w.heap.size 5 1 (.slice (some ⟨w.heap.size, 0, none⟩) 1 1) 1 (cellsB [1])) := World.ownsRow_lit w #[.int .u8 1] 1 (Nat.le_refl _) (by decide) rfl
  have HE := hide (Eight_any x hx (w.alloc (.cells #[.int .u8 1] 5)))
  have HY := hide hy
  have HAL := hide hal
  have HSZ : Hid (w.heap.size ≤ (w.alloc (.cells #[.int .u8 1] 5)).heap.size) := hal.size
  clear hx hy hal
  go_enter Tryd.func61, Tryd.ntmps61
  go_wp2_with fail
  refine HE.out.mono ?_
  rintro e w2 ⟨a1, c1, rfl, ho1, hb1⟩
  have HO2 : Hid (w2.ownsRow w.heap.size 5 1 (.slice (some ⟨w.heap.size, 0, none⟩) 1 1) 1 (cellsB [1])) := own_keep HO.out hb1 (Nat.le_refl _)
  have HB2 := hide (HAL.out.trans (hb1.mono HSZ.out))
  have HS := hide (src_bytes (bytes_of_own ho1))
  have HL := hide (show (cellsB (eight x)).length = 8 * 1 by rw [len_cellsB]; exact eightF_length 8 x)
  have hb4 : w.heap.size ≤ w2.heap.size := HB2.out.size
  clear ho1 hb1 HO HE
  go_wp2_with (at_builtin; refine wpList_append_src rfl (.tmp 7) (.tmp 9) _ rfl w.heap.size 5 i0 (.int .u8 0) 1 1 Tryd.underlying23 hi0 hz0 hz1 hz2 rfl (by decide) _ _ _ rfl HO2.out a1 8 c1 (cellsB (eight x)) rfl HL.out HS.out (one_bytes _) (by decide) (by decide) hb4 ?_; intro v1 w5 hown1 hgrow1 hat1; refine Hid.out ?_)
  refine Lib.hid ?_
  obtain ⟨a2, c2, rfl⟩ := own_slice hown1
  have HB5 := hide (HB2.out.trans (below_own HO2.out hgrow1 (Nat.le_refl _) HB2.out.size))
  have HO5 := hide hown1
  have HE2 := hide (Eight_any y HY.out w5)
  clear hown1 hgrow1 hat1 HO2 HS HL hb4
  go_wp2_with fail
  refine HE2.out.mono ?_
  rintro e w6 ⟨a3, c3, rfl, ho3, hb3⟩
  have HO6 : Hid (w6.ownsRow w.heap.size 5 1 (.slice a2 (1 + 8) c2) (1 + 8) (cellsB [1] ++ cellsB (eight x))) := own_keep HO5.out hb3 (Nat.le_refl _)
  have HB6 := hide (HB5.out.trans (hb3.mono HB5.out.size))
  have HS := hide (src_bytes (bytes_of_own ho3))
  have HL := hide (show (cellsB (eight y)).length = 8 * 1 by rw [len_cellsB]; exact eightF_length 8 y)
  have hb4 : w.heap.size ≤ w6.heap.size := HB6.out.size
  clear ho3 hb3 HE2 HO5
  go_wp2_with (at_builtin; refine wpList_append_src rfl (.tmp 11) (.tmp 13) _ rfl w.heap.size 5 i0 (.int .u8 0) 1 1 Tryd.underlying23 hi0 hz0 hz1 hz2 rfl (by decide) _ _ _ rfl HO6.out a3 8 c3 (cellsB (eight y)) rfl HL.out HS.out (one_bytes _) (by decide) (by decide) hb4 ?_; intro v1 w7 hown1 hgrow1 hat1)
  obtain ⟨a4, c4, rfl⟩ := own_slice hown1
  have e : cellsB (nodeB x y) = cellsB [1] ++ cellsB (eight x) ++ cellsB (eight y) := by
    unfold nodeB cellsB
    rw [List.map_cons, List.map_append]
    rfl
  go_ret
  refine ⟨a4, c4, rfl, ?_, HB6.out.trans (below_own HO6.out hgrow1 (Nat.le_refl _) HB6.out.size)⟩
  rw [e]
  exact hown1

theorem refLeaf_any (A : Option Addr) (n c : Nat) (l : List UInt8) (w : World) (hx : BytesAt w.heap.size w A n l) (hn : n ≤ 100000) :
    Calls Tryd.prog 23 #[.slice A n c] w fun e w' => e = .returned (.int .u64 (leafV l : Nat)) ∧ Below w.heap.size w w' := by
  have HL := hide (LeafBytes_any A n c l w hx (by omega))
  have HN := hide hn
  clear hx hn
  go_enter Tryd.func23, Tryd.ntmps23
  go_wp2_with fail
  refine HL.out.mono ?_
  rintro e w1 ⟨a, c1, rfl, ho, hb⟩
  have HM := hide (refMix_any a (n + 1) c1 (leafB l) w1 (bytes_of_own ho) (by have := HN.out; omega))
  have HB := hide hb
  clear ho hb HL
  go_wp2_with fail
  refine HM.out.mono ?_
  rintro e w2 ⟨rfl, rfl⟩
  go_wp2
  go_ret
  exact ⟨rfl, HB.out⟩
theorem refNode_any (x y : Nat) (hx : x < 18446744073709551616) (hy : y < 18446744073709551616) (w : World) :
    Calls Tryd.prog 25 #[.int .u64 x, .int .u64 y] w fun e w' => e = .returned (.int .u64 (nodeV x y : Nat)) ∧ Below w.heap.size w w' := by
  have HN := hide (NodeBytes_any x y hx hy w)
  clear hx hy
  go_enter Tryd.func25, Tryd.ntmps25
  go_wp2_with fail
  refine HN.out.mono ?_
  rintro e w1 ⟨a, c, rfl, ho, hb⟩
  have HM := hide (refMix_any a 17 c (nodeB x y) w1 (bytes_of_own ho) (by omega))
  have HB := hide hb
  clear ho hb HN
  go_wp2_with fail
  refine HM.out.mono ?_
  rintro e w2 ⟨rfl, rfl⟩
  go_wp2
  go_ret
  exact ⟨rfl, HB.out⟩
theorem half_loop {n j : Nat} (h0 : 2 ^ j < n) (h1 : ¬ 2 * 2 ^ j < n) : halfN n = 2 ^ j := half_uniq h0 (by rw [Nat.pow_succ]; omega)
set_option maxHeartbeats 1000000 in
theorem refhalf_any (n : Nat) (h : 2 ≤ n) (h2 : n ≤ 1000000) (w : World) : Calls Tryd.prog 89 #[.int .i64 n] w fun e w' => e = .returned (.int .i64 (halfN n : Nat)) ∧ w = w' := by
  have mixed := mixedOrders
  have HN := hide (And.intro h h2)
  clear h h2
  go_enter Tryd.func89, Tryd.ntmps89
  go_wp2_with fail
  go_loop [3] (fun vk => ∃ k j : Nat, vk = .int .i64 k ∧ Hid (k = 2 ^ j ∧ k < n)) (fun vk => n - (intOf vk).toNat)
  case atStart => exact ⟨1, 0, rfl, rfl, by have := HN.out.1; omega⟩
  case round =>
    obtain ⟨k, j, rfl, HK⟩ := hrel
    have hk : k ≤ 1000000 := by have := HK.out.2; have := HN.out.2; omega
    by_cases hlt : 2 * k < n
    · have g : 2 * (k : Int) < (n : Int) := by omega
      have HQ : Hid (2 * k = 2 ^ (j + 1) ∧ 2 * k < n) := by
        show _ ∧ _
        refine ⟨?_, hlt⟩
        rw [Nat.pow_succ, HK.out.1]
        omega
      have HP : Hid (0 < k) := by
        show 0 < k
        rw [HK.out.1]
        exact Nat.two_pow_pos j
      clear hlt
      go_wp2_with fail
      go_round
      case rel => exact ⟨2 * k, j + 1, by go_num, HQ⟩
      case measure => simp [intOf]; have := HQ.out.2; have := HP.out; omega
    · have g : ¬ 2 * (k : Int) < (n : Int) := by omega
      have HR : Hid (halfN n = k) := by
        obtain ⟨e1, e2⟩ := HK.out
        show halfN n = k
        rw [e1]
        rw [e1] at e2 hlt
        exact half_loop e2 hlt
      clear hlt
      go_wp2_with fail
      go_ret
      exact ⟨by rw [HR.out]; rfl, rfl⟩
end Go.Proofs.YtbinmkigolkhcaaDoor
