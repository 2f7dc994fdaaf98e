/- Close. -/
import Derived.Test.YtpobfdhmggkbaaaUK
import Derived.Deep.DeepCutAuto
namespace Go.Proofs.Ytpobfdhmggkbaaa
open Go.RowKit Go.Sort Go.BigFrame
/-- an award in memory, its rows behind base -/
structure AwAt (base : Nat) (w : World) (u : Value) (T P : List Int) (wt : Int) : Prop where
  isA : ∃ a1 n1 c1 a2 n2 c2, u = .agg #[.slice a1 n1 c1, .slice a2 n2 c2, .int .i64 wt] ∧ n1 ≤ c1 ∧ c1 ≤ 9223372036854775807 ∧ n2 ≤ c2 ∧ c2 ≤ 9223372036854775807 ∧ IntsAt w.heap.size w a1 n1 T ∧ IntsAt w.heap.size w a2 n2 P ∧ (∀ a, a1 = some a → 0 < n1 → base ≤ a.block) ∧ (∀ a, a2 = some a → 0 < n2 → base ≤ a.block)
theorem IntsAt.grown {base : Nat} {w w' : World} {A : Option Addr} {n : Nat} {xs : List Int} (h : IntsAt w.heap.size w A n xs) {row : Option Nat} (hg : w.grownBy w' row) (hA : ∀ a, A = some a → 0 < n → base ≤ a.block) (hr : ∀ k, row = some k → k < base) : IntsAt w'.heap.size w' A n xs := by
  refine ⟨h.1, ?_⟩
  rcases h.2 with h0 | ⟨b, off, e, hlt, hc⟩
  · exact .inl h0
  · rcases Nat.eq_zero_or_pos n with h0 | h0
    · exact .inl h0
    · refine .inr ⟨b, off, e, Nat.lt_of_lt_of_le hlt hg.size, fun i hi => hg.cell (hc i hi) ?_⟩
      have h1 := hA _ e h0
      intro e2
      have h2 := hr _ e2.symm
      exact absurd h1 (by show ¬ base ≤ b; dsimp only at h2; omega)
theorem AwAt.grown {base : Nat} {w w' : World} {u : Value} {T P : List Int} {wt : Int} (h : AwAt base w u T P wt) {row : Option Nat} (hg : w.grownBy w' row) (hr : ∀ k, row = some k → k < base) : AwAt base w' u T P wt := by
  obtain ⟨a1, n1, c1, a2, n2, c2, e, q1, q2, q3, q4, i1, i2, f1, f2⟩ := h.isA
  exact ⟨a1, n1, c1, a2, n2, c2, e, q1, q2, q3, q4, i1.grown hg f1 hr, i2.grown hg f2 hr, f1, f2⟩
theorem OffAt.grown {base : Nat} {w w' : World} {A : Option Addr} {n : Nat} {l : List Ofr} (h : OffAt w.heap.size w A n l) {row : Option Nat} (hg : w.grownBy w' row) (hA : ∀ a, A = some a → 0 < n → base ≤ a.block) (hr : ∀ k, row = some k → k < base) : OffAt w'.heap.size w' A n l := by
  refine ⟨h.len, ?_⟩
  rcases h.row with h0 | ⟨b, off, e, hlt, hc⟩
  · exact .inl h0
  · rcases Nat.eq_zero_or_pos n with h0 | h0
    · exact .inl h0
    · have h1 := hA _ e h0
      have hne : ∀ o, some (⟨b, o, none⟩ : Addr).block ≠ row := fun o e2 => by
        have h2 := hr _ e2.symm
        dsimp only at h1 h2
        omega
      exact .inr ⟨b, off, e, Nat.lt_of_lt_of_le hlt hg.size, fun i hi => ⟨hg.cell (hc i hi).1 (hne _), hg.cell (hc i hi).2.1 (hne _), hg.cell (hc i hi).2.2 (hne _)⟩⟩
theorem below_grownBy {w w' : World} (h : Below w.heap.size w w') (row : Option Nat) : w.grownBy w' row := ⟨h.os, h.tape, h.output, h.size, fun k hk _ => h.block k hk⟩
/-- the offers shown so far, as a slice of the block -/
theorem TdAt.offs {W : World} {b : Nat} {v : TdV} (h : TdAt W b v) : OffAt W.heap.size W (some ⟨b, 26, none⟩) v.count (v.offers.take v.count) := by
  have h4 := h.ok.offers
  have h5 := h.ok.count
  refine ⟨by simp; omega, ?_⟩
  rcases Nat.eq_zero_or_pos v.count with h0 | h0
  · exact .inl h0
  · refine .inr ⟨b, 26, rfl, h.lt, fun i hi => ?_⟩
    have ho : v.offers[i]? = some (oA (v.offers.take v.count) i) := by
      unfold oA
      rw [List.getD_eq_getElem?_getD, List.getElem?_take_of_lt hi, List.getElem?_eq_getElem (by omega)]
      rfl
    obtain ⟨e0, e1, e2⟩ := cellsO_at _ _ _ ho
    refine ⟨h.cell ?_, h.cell ?_, h.cell ?_⟩
    · rw [cellsT_offers h.ok (by omega)]
      exact e0
    · rw [Nat.add_assoc, cellsT_offers h.ok (by omega)]
      exact e1
    · rw [Nat.add_assoc, cellsT_offers h.ok (by omega)]
      exact e2
theorem AwAt.lower {base base' : Nat} {w : World} {u : Value} {T P : List Int} {wt : Int} (h : AwAt base w u T P wt) (hb : base' ≤ base) : AwAt base' w u T P wt := by
  obtain ⟨a1, n1, c1, a2, n2, c2, e, q1, q2, q3, q4, i1, i2, f1, f2⟩ := h.isA
  exact ⟨a1, n1, c1, a2, n2, c2, e, q1, q2, q3, q4, i1, i2, fun a e h => Nat.le_trans hb (f1 a e h), fun a e h => Nat.le_trans hb (f2 a e h)⟩
theorem box3 {W : World} {p : Nat} {x y z : Value} {ty : TypeId} (h : W.heap[p]? = some (.cells #[x, y, z] ty (0, 0))) (a b c : Value) :
    (((W.setCell ⟨p, 0, none⟩ a).setCell ⟨p, 1, none⟩ b).setCell ⟨p, 2, none⟩ c).heap[p]? = some (.cells #[a, b, c] ty (0, 0)) ∧ W.grownBy (((W.setCell ⟨p, 0, none⟩ a).setCell ⟨p, 1, none⟩ b).setCell ⟨p, 2, none⟩ c) (some p) := by
  have h1 : (W.setCell ⟨p, 0, none⟩ a).heap[p]? = some (.cells #[a, y, z] ty (0, 0)) := by
    rw [setCell_eq_setRow W p 0 _ _ _ a h, setRow_heap W p _ _ _ _ h]
    rfl
  have g1 : W.grownBy (W.setCell ⟨p, 0, none⟩ a) (some p) := by
    rw [setCell_eq_setRow W p 0 _ _ _ a h]
    exact ⟨rfl, rfl, rfl, by simp [World.setRow], fun k hk hne => setRow_other _ _ _ _ (fun e => hne (by rw [e]))⟩
  generalize W.setCell ⟨p, 0, none⟩ a = W1 at h1 g1 ⊢
  have h2 : (W1.setCell ⟨p, 1, none⟩ b).heap[p]? = some (.cells #[a, b, z] ty (0, 0)) := by
    rw [setCell_eq_setRow W1 p 1 _ _ _ b h1, setRow_heap W1 p _ _ _ _ h1]
    rfl
  have g2 : W1.grownBy (W1.setCell ⟨p, 1, none⟩ b) (some p) := by
    rw [setCell_eq_setRow W1 p 1 _ _ _ b h1]
    exact ⟨rfl, rfl, rfl, by simp [World.setRow], fun k hk hne => setRow_other _ _ _ _ (fun e => hne (by rw [e]))⟩
  generalize W1.setCell ⟨p, 1, none⟩ b = W2 at h2 g2 ⊢
  rw [setCell_eq_setRow W2 p 2 _ _ _ c h2]
  refine ⟨by rw [setRow_heap W2 p _ _ _ _ h2]; rfl, (g1.trans g2).trans ⟨rfl, rfl, rfl, by simp [World.setRow], fun k hk hne => setRow_other _ _ _ _ (fun e => hne (by rw [e]))⟩⟩
theorem results_cell2 {fn : Func} {t u v : Tmp} {ty : TypeId} {tmps : Array Value} {a : Addr} {x : Value} {P : Program} {w : World} (h : fn.results = #[.cell t ty, .tmp u, .tmp v]) (hp : tmps.getD t undef = .pointer (some a)) (hl : (loadVar ty a).run P w = .ok x w) :
    (results fn tmps).run P w = .ok (.tuple #[x, tmps.getD u undef, tmps.getD v undef]) w := by
  have hp2 : tmps[t]?.getD undef = .pointer (some a) := by simpa using hp
  simp [results, h, hp2, asAddr, hl]
theorem load37 {w : World} {p : Nat} {x y z : Value} (h : w.heap[p]? = some (.cells #[x, y, z] 37 (0, 0))) : (loadVar 37 ⟨p, 0, none⟩).run Try.prog w = .ok (.agg #[x, y, z]) w := by
  have c0 : w.cell? ⟨p, 0, none⟩ = some x := by simp [World.cell?, h]
  have c1 : w.cell? ⟨p, 1, none⟩ = some y := by simp [World.cell?, h]
  have c2 : w.cell? ⟨p, 2, none⟩ = some z := by simp [World.cell?, h]
  have a0 := Try.isAgg37
  have z0 := Try.sizeOf37
  have e0 : (⟨p, 0, none⟩ : Addr).add 0 = ⟨p, 0, none⟩ := rfl
  have e1 : (⟨p, 0, none⟩ : Addr).add 1 = ⟨p, 1, none⟩ := rfl
  have e2 : (⟨p, 0, none⟩ : Addr).add 2 = ⟨p, 2, none⟩ := rfl
  simp [loadVar, a0, z0, loadCells, loadCellsFrom, e0, e1, e2, c0, c1, c2]
set_option maxHeartbeats 4000000 in
set_option maxRecDepth 100000 in
theorem Close_any {W : World} {b : Nat} {v : TdV} (h : TdAt W b v) {lots : Nat} (hl : v.lots = lots) (h1 : 1 ≤ lots) (hs : v.state = 1) (hb : ∀ o ∈ v.offers.take v.count, 0 ≤ o.1 ∧ o.1 ≤ 7) (T P : List Int) (wt : Int)
    (hD : ∀ w1 g c, W.heap.size ≤ g → v.count ≤ c → c ≤ maxLen → OffAt w1.heap.size w1 (some ⟨g, 0, none⟩) v.count (sortO (v.offers.take v.count)) → Calls Try.prog 23 #[.int .i64 lots, .slice (some ⟨g, 0, none⟩) v.count c] w1 fun e w' => ∃ aw, e = .returned (.tuple #[aw, .int .i64 0]) ∧ AwAt w1.heap.size w' aw T P wt ∧ Below w1.heap.size w1 w') :
    Calls Try.prog 39 #[tp b] W fun e w' => ∃ aw g c, e = .returned (.tuple #[aw, .slice (some ⟨g, 0, none⟩) v.count c, .int .i64 0]) ∧ W.heap.size ≤ g ∧ v.count ≤ c ∧ c ≤ maxLen ∧ OffAt w'.heap.size w' (some ⟨g, 0, none⟩) v.count (sortO (v.offers.take v.count)) ∧ AwAt W.heap.size w' aw T P wt ∧ TdAt w' b { v with state := 2 } ∧ W.grownBy w' (some b) := by
  have mixed := mixedOrders
  have h0 : v.lots ≠ 0 := by rw [hl]; omega
  obtain ⟨p, hp⟩ : ∃ p, W.heap.size = p := ⟨_, rfl⟩
  obtain ⟨W1, hW1⟩ : ∃ W1, W.alloc (.cells #[.slice none 0 0, .slice none 0 0, .int .i64 0] 37) = W1 := ⟨_, rfl⟩
  have hz1 : W1.heap.size = p + 1 := by rw [← hW1, World.size_alloc, hp]
  have hb1 : Below W.heap.size W W1 := by rw [← hW1]; exact (Below.refl _ _).alloc (Nat.le_refl _) _
  have box1 : W1.heap[p]? = some (.cells #[.slice none 0 0, .slice none 0 0, .int .i64 0] 37 (0, 0)) := by rw [← hW1, ← hp]; exact heap_alloc_new _ _
  have ht1 := h.below hb1
  have HC := hide (check_any ht1 h0 1)
  rw [if_pos hs] at HC
  have HO := hide ht1.offs
  have hct : v.count ≤ 16 := h.ok.count
  have hlt := ht1.lt
  have hbp : b < p := by rw [← hp]; exact h.lt
  obtain ⟨cn, hcc⟩ : ∃ cn, v.count = cn := ⟨_, rfl⟩
  have k1 := ht1.count
  rw [hcc] at k1 hct hD HO hb ⊢
  have HK := hide (fun w (hw : Below W1.heap.size W1 w) => Clone_any b 26 cn 16 _ w (HO.out.now hw (Nat.le_refl _)) hct)
  have q1 : (cn : Int) ≤ 16 := by omega
  have HT := hide ht1
  have HB := hide hb
  have HD := hide hD
  have HL := hide hl
  have HBX := hide box1
  have HCT := hide hct
  have HB1 := hide hb1
  have HZ1 := hide hz1
  have HBP := hide hbp
  have HCC := hide hcc
  clear h hb hD hl h0 h1 hcc ht1 box1 hct hb1 hz1 hbp hlt
  go_enter Try.func39, Try.ntmps39
  go_wp2_with fail
  have HP := hide hp
  clear hW1 hp
  refine HC.out.mono ?_
  rintro e w1 ⟨rfl, rfl⟩
  go_wp2_with fail
  clear HC
  have KC := hide (HK.out w1.drew ((Below.refl _ w1).drew))
  have KB : Hid (∀ w', Below w1.drew.heap.size w1.drew w' → w'.cell? ⟨b, 74, none⟩ = some (.int .i64 cn)) := fun w' hw => (hw.cell (p := ⟨b, 74, none⟩) (show b < w1.heap.size by have := HBP.out; have := HZ1.out; omega)).trans k1
  go_region_held3 (fun w' => w'.cell? ⟨b, 74, none⟩ = some (.int .i64 cn))
    (first | exact k1 | exact KB.out _ hb2)
    (first | (go_at_call 64; (with_reducible refine KC.out.mono ?_); rintro e w2 ⟨g, c, rfl, hown, hb2⟩))
  have HO8 := hide hown
  have HB2 := hide hb2
  clear hown hb2 KC KB k1
  have HG := hide (HO8.out.lt g rfl)
  have HCP := hide (own_cap HO8.out)
  have HS := hide (sort_any _ g cn c _ HB.out w2 HO8.out HCT.out)
  have HBL2 : Hid (Below w1.heap.size w1 w2) := ((Below.refl w1.heap.size w1).drew).trans HB2.out
  go_wp2_with fail
  refine HS.out.mono ?_
  rintro e w3 ⟨rfl, hof, hgr⟩
  have HOF := hide hof
  have HGR := hide hgr
  clear hof hgr HS
  have HB3 : Hid (Below w1.heap.size w1 w3) := HBL2.out.grown HGR.out HBL2.out.size (fun k e => by injection e with e; subst e; exact HG.out.1)
  have k0 : w3.cell? ⟨b, 0, none⟩ = some (.int .i64 lots) := by
    have := (HT.out.below HB3.out).lots
    rw [HL.out] at this
    exact this
  have hdd := HD.out w3 g c (by have := HG.out.1; have h2 : w1.drew.heap.size = p + 1 := HZ1.out; have := HP.out; omega) HCP.out.1 HCP.out.2 HOF.out
  have HDD := hide hdd
  clear hdd
  go_wp2_with fail
  refine HDD.out.mono ?_
  rintro e w4 ⟨aw, rfl, haw, hb4⟩
  have HAW := hide haw
  obtain ⟨a1, n1, c1, a2, n2, c2, rfl, -, -, -, -, -, -, -, -⟩ := haw.isA
  have HB4 := hide hb4
  clear haw hb4 HDD k0
  go_upto_region 7 with (fail)
  obtain ⟨W5, hW5⟩ : ∃ W5, w4.alloc (.cells #[.slice a1 n1 c1, .slice a2 n2 c2, .int .i64 wt] 37) = W5 := ⟨_, rfl⟩
  obtain ⟨q, hq⟩ : ∃ q, w4.heap.size = q := ⟨_, rfl⟩
  have HB5 : Hid (Below w4.heap.size w4 W5) := by show Below _ _ _; rw [← hW5]; exact (Below.refl _ _).alloc (Nat.le_refl _) _
  have HQ5 : Hid (W5.heap[q]? = some (.cells #[.slice a1 n1 c1, .slice a2 n2 c2, .int .i64 wt] 37 (0, 0))) := by show _ = _; rw [← hW5, ← hq]; exact heap_alloc_new _ _
  rw [hW5, hq]
  have HSQ := hide hq
  clear hW5 hq
  have hs3 : w1.heap.size ≤ w3.heap.size := HB3.out.size
  have hs4 : w3.heap.size ≤ q := by rw [← HSQ.out]; exact HB4.out.size
  have HB35 : Hid (Below w3.heap.size w3 W5) := HB4.out.trans (HB5.out.mono HB4.out.size)
  have HB15 : Hid (Below w1.heap.size w1 W5) := HB3.out.trans (HB35.out.mono hs3)
  have HT5 := hide (HT.out.below HB15.out)
  have HS5 := hide (HT5.out.set (v' := { v with state := 2 }) ⟨HT.out.ok.given, HT.out.ok.seals, HT.out.ok.shown, HT.out.ok.offers, HT.out.ok.count⟩ (cellsT_set_state v 2))
  have HP5 : Hid (W5.heap[p]? = some (.cells #[.slice none 0 0, .slice none 0 0, .int .i64 0] 37 (0, 0))) := (HB15.out.block p (by have := HZ1.out; omega)).trans HBX.out
  have e1 := HT5.out.state
  have e2 := HT5.out.frozen 1
  have HNE : Hid (b ≠ q ∧ b ≠ p ∧ p ≠ q) := by have := HBP.out; have := HZ1.out; exact ⟨by omega, by omega, by omega⟩
  clear hs3 hs4
  go_upto_region 10 with (fail)
  obtain ⟨W6, hW6⟩ : ∃ W6, W5.setCell ⟨b, 1, none⟩ (.int .i64 2) = W6 := ⟨_, rfl⟩
  rw [hW6]
  have HS6 : Hid (TdAt W6 b { v with state := 2 } ∧ W5.grownBy W6 (some b)) := by rw [← hW6]; exact HS5.out
  clear hW6 e1 e2
  have HQ6 : Hid (W6.heap[q]? = some (.cells #[.slice a1 n1 c1, .slice a2 n2 c2, .int .i64 wt] 37 (0, 0))) := (HS6.out.2.block q (Array.getElem?_eq_some_iff.1 HQ5.out).1 (fun e => by injection e with e; exact HNE.out.1 e.symm)).trans HQ5.out
  have HP6 : Hid (W6.heap[p]? = some (.cells #[.slice none 0 0, .slice none 0 0, .int .i64 0] 37 (0, 0))) := (HS6.out.2.block p (Array.getElem?_eq_some_iff.1 HP5.out).1 (fun e => by injection e with e; exact HNE.out.2.1 e.symm)).trans HP5.out
  have d0 : W6.cell? ⟨q, 0, none⟩ = some (.slice a1 n1 c1) := by have := HQ6.out; simp [World.cell?, this]
  have d1 : W6.cell? ⟨q, 1, none⟩ = some (.slice a2 n2 c2) := by have := HQ6.out; simp [World.cell?, this]
  have d2 : W6.cell? ⟨q, 2, none⟩ = some (.int .i64 wt) := by have := HQ6.out; simp [World.cell?, this]
  have g0 : W6.cell? ⟨p, 0, none⟩ = some (.slice none 0 0) := by have := HP6.out; simp [World.cell?, this]
  have g1 : W6.cell? ⟨p, 1, none⟩ = some (.slice none 0 0) := by have := HP6.out; simp [World.cell?, this]
  have g2 : W6.cell? ⟨p, 2, none⟩ = some (.int .i64 0) := by have := HP6.out; simp [World.cell?, this]
  have f0 : ∀ i, W6.frozen? ⟨p, i, none⟩ = false := fun i => by have := HP6.out; simp [World.frozen?, this]
  go_wp2_with fail
  have HX := hide (box3 HP6.out (.slice a1 n1 c1) (.slice a2 n2 c2) (.int .i64 wt))
  obtain ⟨W7, hW7⟩ : ∃ W7, (((W6.setCell ⟨p, 0, none⟩ (.slice a1 n1 c1)).setCell ⟨p, 1, none⟩ (.slice a2 n2 c2)).setCell ⟨p, 2, none⟩ (.int .i64 wt)) = W7 := ⟨_, rfl⟩
  rw [hW7] at HX ⊢
  clear hW7 d0 d1 d2 g0 g1 g2 f0
  have d0 : W7.cell? ⟨p, 0, none⟩ = some (.slice a1 n1 c1) := by have := HX.out.1; simp [World.cell?, this]
  have d1 : W7.cell? ⟨p, 1, none⟩ = some (.slice a2 n2 c2) := by have := HX.out.1; simp [World.cell?, this]
  have d2 : W7.cell? ⟨p, 2, none⟩ = some (.int .i64 wt) := by have := HX.out.1; simp [World.cell?, this]
  (try simp only [Exit.inBlock, Exit.then])
  refine bodyPost_ret (results_cell2 rfl rfl (load37 HX.out.1)) rfl ?_
  have hz1 := HZ1.out
  have hp := HP.out
  have hbp := HBP.out
  have hs3 := HB3.out.size
  have hg := HG.out.1
  have hg2 : w1.drew.heap.size = p + 1 := hz1
  refine ⟨_, g, c, rfl, by omega, HCP.out.1, HCP.out.2, ?_, ?_, ?_, ?_⟩
  · have o1 := HOF.out.now HB35.out (Nat.le_refl _)
    have o2 := o1.grown (base := p + 1) HS6.out.2 (fun a e _ => by injection e with e; subst e; show _ ≤ g; omega) (fun k e => by injection e with e; omega)
    exact o2.grown (base := p + 1) HX.out.2 (fun a e _ => by injection e with e; subst e; show _ ≤ g; omega) (fun k e => by injection e with e; omega)
  · have o1 := HAW.out.grown (row := none) (below_grownBy HB5.out none) (fun k e => by cases e)
    have o2 := o1.grown HS6.out.2 (fun k e => by injection e with e; omega)
    have o3 := o2.grown HX.out.2 (fun k e => by injection e with e; omega)
    exact o3.lower (by omega)
  · have e := HS6.out.1.keep HX.out.2 (fun e => by injection e with e; omega)
    rw [← HCC.out]
    exact e
  · have hb := HB1.out.trans (HB15.out.mono HB1.out.size)
    have g5 : W.grownBy W6 (some b) := (below_grownBy hb _).trans HS6.out.2
    exact ⟨HX.out.2.os.trans g5.os, HX.out.2.tape.trans g5.tape, HX.out.2.output.trans g5.output, Nat.le_trans g5.size HX.out.2.size, fun k hk hne => (HX.out.2.block k (Nat.lt_of_lt_of_le hk g5.size) (fun e => by injection e with e; omega)).trans (g5.block k hk hne)⟩
end Go.Proofs.Ytpobfdhmggkbaaa
