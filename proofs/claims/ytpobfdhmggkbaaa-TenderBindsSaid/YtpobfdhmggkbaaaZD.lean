/- Show. -/
import Derived.Test.YtpobfdhmggkbaaaZC
import Derived.BigRegion
namespace Go.Proofs.Ytpobfdhmggkbaaa
open Go.RowKit Go.Sort Go.BigFrame
def TdV.showed (v : TdV) (i : Nat) (l : List Ofr) : TdV := { v with shown := v.shown.set i true, offers := v.offers.take v.count ++ (l ++ v.offers.drop (v.count + l.length)), count := v.count + l.length }
set_option maxHeartbeats 4000000 in
set_option maxRecDepth 100000 in
theorem Show_bad {W : World} {b : Nat} {v : TdV} (h : TdAt W b v) {lots : Nat} (hl : v.lots = lots) (h1 : 1 ≤ lots) (h2 : lots ≤ 12) (hs : v.state = 1) (buyer : Int) (A : Option Addr) (n c : Nat) (l : List Ofr) (hx : OffAt W.heap.size W A n l) (hn : n ≤ 1000000) (salt S : Nat)
    (hS : ∀ w1, Below W.heap.size W w1 → Calls Try.prog 28 #[.slice A n c, .int .u64 (salt : Nat)] w1 fun e w' => e = .returned (.int .u64 (S : Nat)) ∧ Below w1.heap.size w1 w') (hE : showE v lots buyer S l ≠ 0) :
    Calls Try.prog 42 #[tp b, .int .i64 buyer, .slice A n c, .int .u64 (salt : Nat)] W fun e w' => e = .returned (.int .i64 (showE v lots buyer S l)) ∧ Below W.heap.size W w' := by
  have mixed := mixedOrders
  have h0 : v.lots ≠ 0 := by rw [hl]; omega
  have HC := hide (check_any h h0 1)
  rw [if_pos hs] at HC
  have HK := hide (checkShow_any h hl h1 h2 buyer A n c l hx hn salt S hS)
  obtain ⟨E, hEE⟩ : ∃ E, showE v lots buyer S l = E := ⟨_, rfl⟩
  rw [hEE] at HK hE ⊢
  have hq : (E != 0) = true := bne_iff_ne.2 hE
  clear h hx hS hE hEE h0
  go_enter Try.func42, Try.ntmps42
  go_wp2_with fail
  refine HC.out.mono ?_
  rintro e w1 ⟨rfl, rfl⟩
  go_wp2_with fail
  refine HK.out.mono ?_
  rintro e w2 ⟨rfl, hb⟩
  have HB := hide hb
  clear hb HK HC
  go_wp2_with fail
  go_ret
  exact ⟨rfl, HB.out⟩
end Go.Proofs.Ytpobfdhmggkbaaa
/- Show. -/
namespace Go.Proofs.Ytpobfdhmggkbaaa
open Go.RowKit Go.Sort Go.BigFrame
theorem off_cells {B : Nat} {W : World} {ab off n : Nat} {l : List Ofr} (h : OffAt B W (some ⟨ab, off, none⟩) n l) (j : Nat) (x : Value) (hx : (cellsO l)[j]? = some x) : W.cell? ((⟨ab, off, none⟩ : Addr).add j) = some x := by
  have hj : j < (cellsO l).length := (List.getElem?_eq_some_iff.1 hx).1
  rw [cellsO_len] at hj
  have hl := h.len
  obtain ⟨q, r, rfl, hr⟩ : ∃ q r, j = q * 3 + r ∧ r < 3 := ⟨j / 3, j % 3, by omega, by omega⟩
  have hq : q < l.length := by omega
  obtain ⟨b', off', e, -, c0, c1, c2⟩ := h.at_ (i := q) (by omega)
  injection e with e; injection e with e1 e2; subst e1; subst e2
  have ho : l[q]? = some (oA l q) := by unfold oA; rw [List.getD_eq_getElem?_getD, List.getElem?_eq_getElem hq]; rfl
  obtain ⟨e0, e1, e2⟩ := cellsO_at l q _ ho
  have ad : (⟨ab, off, none⟩ : Addr).add (q * 3 + r) = ⟨ab, off + (q * 3 + r), none⟩ := by
    unfold Addr.add
    split
    · rename_i h0
      simp at h0
      simp [h0]
    · rfl
  rw [ad]
  have hcase : r = 0 ∨ r = 1 ∨ r = 2 := by omega
  rcases hcase with rfl | rfl | rfl
  · rw [Nat.add_zero] at hx ⊢
    rw [e0] at hx
    rw [← hx]
    exact c0
  · rw [e1] at hx
    rw [← hx, ← Nat.add_assoc]
    exact c1
  · rw [e2] at hx
    rw [← hx, ← Nat.add_assoc]
    exact c2
set_option maxHeartbeats 4000000 in
set_option maxRecDepth 100000 in
theorem Show_ok {W : World} {b : Nat} {v : TdV} (h : TdAt W b v) {lots : Nat} (hl : v.lots = lots) (h1 : 1 ≤ lots) (h2 : lots ≤ 12) (hs : v.state = 1) (i : Nat) (ab off : Nat) (n c : Nat) (l : List Ofr) (hx : OffAt W.heap.size W (some ⟨ab, off, none⟩) n l) (hn : 0 < n ∧ n ≤ 1000000) (salt S : Nat)
    (hS : ∀ w1, Below W.heap.size W w1 → Calls Try.prog 28 #[.slice (some ⟨ab, off, none⟩) n c, .int .u64 (salt : Nat)] w1 fun e w' => e = .returned (.int .u64 (S : Nat)) ∧ Below w1.heap.size w1 w') (hE : showE v lots i S l = 0) (hi : i < 8) (hcn : v.count + n ≤ 16) (hab : ab ≠ b) :
    Calls Try.prog 42 #[tp b, .int .i64 i, .slice (some ⟨ab, off, none⟩) n c, .int .u64 (salt : Nat)] W fun e w' => e = .returned (.int .i64 0) ∧ TdAt w' b (v.showed i l) ∧ W.grownBy w' (some b) := by
  have mixed := mixedOrders
  have h0 : v.lots ≠ 0 := by rw [hl]; omega
  have HC := hide (check_any h h0 1)
  rw [if_pos hs] at HC
  have HK := hide (checkShow_any h hl h1 h2 i (some ⟨ab, off, none⟩) n c l hx hn.2 salt S hS)
  rw [hE] at HK
  have HT := hide h
  have q8 : (i : Int) < 8 := by omega
  have k1 : ∀ w', Below W.heap.size W w' → w'.cell? ⟨b, 18 + i, none⟩ = some (.bool (v.shown.getD i false)) := fun w' hb => (HT.out.below hb).shown hi
  have k2 : ∀ w', Below W.heap.size W w' → w'.frozen? ⟨b, 18 + i, none⟩ = false := fun w' hb => (HT.out.below hb).frozen _
  have K1 := hide k1
  have K2 := hide k2
  have HX := hide hx
  clear h hx hS hE h0 k1 k2
  go_enter Try.func42, Try.ntmps42
  go_wp2_with fail
  refine HC.out.mono ?_
  rintro e w1 ⟨rfl, rfl⟩
  go_wp2_with fail
  refine HK.out.mono ?_
  rintro e w2 ⟨rfl, hb⟩
  have c1 := K1.out _ hb
  have c2 := K2.out _ hb
  have HB := hide hb
  clear hb HK HC
  obtain ⟨W3, hW3⟩ : ∃ W3, w2.setCell ⟨b, 18 + i, none⟩ (.bool true) = W3 := ⟨_, rfl⟩
  have ht2 := HT.out.below HB.out
  have ht3 := ht2.set (v' := { v with shown := v.shown.set i true }) ⟨ht2.ok.given, ht2.ok.seals, by simp [ht2.ok.shown], ht2.ok.offers, ht2.ok.count⟩ (cellsT_set_shown ht2.ok hi true)
  rw [hW3] at ht3
  have d0 : W3.cell? ⟨b, 74, none⟩ = some (.int .i64 v.count) := ht3.1.count
  obtain ⟨cn, hcc⟩ : ∃ cn, v.count = cn := ⟨_, rfl⟩
  rw [hcc] at d0 hcn
  have q1 : (cn : Int) ≤ 16 := by omega
  have q2 : ¬ 16 = cn := by omega
  have ht4 := ht3.1.keep (((Gr.refl W3).drew).grownBy none) (by simp)
  have hox : OffAt W3.drew.heap.size W3.drew (some ⟨ab, off, none⟩) n l := by
    have hbw := HB.out
    have h2 := HX.out.now hbw (Nat.le_refl _)
    refine ⟨h2.len, .inr ?_⟩
    rcases h2.row with z | ⟨b', off', e, z1, z2⟩
    · omega
    · refine ⟨b', off', e, by rw [← hW3]; simpa [World.setCell, World.drew] using z1, fun j hj => ?_⟩
      have hne : b' ≠ b := by
        injection e with e
        injection e with e
        rw [← e]
        exact hab
      have kp : ∀ t, W3.drew.cell? ⟨b', t, none⟩ = w2.cell? ⟨b', t, none⟩ := fun t => by
        show W3.cell? _ = _
        rw [← hW3]
        exact World.cell?_setCell_other _ _ _ _ (by intro e2; simp only [Addr.mk.injEq] at e2; exact hne e2.1.symm)
      rw [kp, kp, kp]
      exact z2 j hj
  have hlen := hox.len
  have hlay := ht4.lay cn l (by omega)
  have hcp := run_copy_rowK (P := Try.prog) 3 W3.drew 22 22 3 72 b (26 + cn * 3) (16 - cn) (16 - cn) ⟨ab, off, none⟩ n c (cellsT { v with shown := v.shown.set i true }).toArray 75 (cellsO l) Try.underlying22 (by kernel_rfl) ht4.heap (by rw [cellsO_len, hlen]; congr 1; exact (Nat.min_eq_left (by omega)).symm) (off_cells hox) (by rw [cellsO_len]; have := cellsT_len ht4.ok; simp; omega) (cellsO_one l)
  rw [List.append_assoc] at hcp
  obtain ⟨W4, hW4⟩ : ∃ W4, W3.drew.setRow b ((cellsT { v with shown := v.shown.set i true }).toArray.toList.take (26 + cn * 3) ++ (cellsO l ++ (cellsT { v with shown := v.shown.set i true }).toArray.toList.drop (26 + cn * 3 + (cellsO l).length))).toArray = W4 := ⟨_, rfl⟩
  rw [hW4] at hcp hlay
  have hmn : Nat.min n (16 - cn) = n := Nat.min_eq_left (by omega)
  rw [hmn] at hcp
  have hcp : (Builtin.copy_ #[22, 22] 3 #[.slice (some ⟨b, 26 + cn * 3, none⟩) (16 - cn) (16 - cn), .slice (some ⟨ab, off, none⟩) n c]).run Try.prog W3.drew = .ok (.int .i64 n) W4 := hcp
  have f1 := hlay.1.count
  have f2 := hlay.1.frozen 74
  dsimp only at f1
  rw [hcc] at f1
  clear c1 c2
  have c1 := K1.out _ HB.out
  have c2 := K2.out _ HB.out
  have d1 : W3.drew.cell? ⟨b, 74, none⟩ = some (.int .i64 cn) := d0
  have hw : IntKind.i64.wrap ((cn : Int) + (n : Int)) = ((cn + n : Nat) : Int) := by rw [IntKind.wrap_i64]; omega
  have H3 := hide ht3
  have H4 := hide hlay
  clear hW4 ht3 ht4 hox hlay hmn
  go_wp2_with fail
  go_region
  have HF : Hid (∀ m : Int, m = ((cn + n : Nat) : Int) → TdAt (W4.setCell ⟨b, 74, none⟩ (.int .i64 m)) b (v.showed i l) ∧ w2.grownBy (W4.setCell ⟨b, 74, none⟩ (.int .i64 m)) (some b)) := fun m hm => by
    subst hm
    have hok := H4.out.1.ok
    have e : v.showed i l = { ({ v with shown := v.shown.set i true, offers := v.offers.take cn ++ (l ++ v.offers.drop (cn + l.length)) } : TdV) with count := cn + n } := by
      unfold TdV.showed
      rw [hcc, hlen]
    have h5 := H4.out.1.set (v' := v.showed i l) (by rw [e]; exact ⟨hok.given, hok.seals, hok.shown, hok.offers, hcn⟩) (i := 74) (x := .int .i64 ((cn + n : Nat) : Int)) (by rw [e]; exact cellsT_set_count hok (cn + n))
    exact ⟨h5.1, ((H3.out.2.trans (((Gr.refl W3).drew).grownBy (some b))).trans H4.out.2).trans h5.2⟩
  go_wp2_with fail
  go_ret
  have hf := HF.out _ (by omega : (cn : Int) + (n : Int) = ((cn + n : Nat) : Int))
  have hbg := HB.out
  exact ⟨rfl, hf.1, (show World.grownBy _ w2 (some b) from ⟨hbg.os, hbg.tape, hbg.output, hbg.size, fun k hk _ => hbg.block k hk⟩).trans hf.2⟩
end Go.Proofs.Ytpobfdhmggkbaaa
/- Show of no offers. -/
namespace Go.Proofs.Ytpobfdhmggkbaaa
open Go.RowKit Go.Sort Go.BigFrame
set_option maxHeartbeats 4000000 in
set_option maxRecDepth 100000 in
theorem Show_nil {W : World} {b : Nat} {v : TdV} (h : TdAt W b v) {lots : Nat} (hl : v.lots = lots) (h1 : 1 ≤ lots) (h2 : lots ≤ 12) (hs : v.state = 1) (i : Nat) (salt S : Nat)
    (hS : ∀ w1, Below W.heap.size W w1 → Calls Try.prog 28 #[.slice none 0 0, .int .u64 (salt : Nat)] w1 fun e w' => e = .returned (.int .u64 (S : Nat)) ∧ Below w1.heap.size w1 w') (hE : showE v lots i S [] = 0) (hi : i < 8) :
    Calls Try.prog 42 #[tp b, .int .i64 i, .slice none 0 0, .int .u64 (salt : Nat)] W fun e w' => e = .returned (.int .i64 0) ∧ TdAt w' b { v with shown := v.shown.set i true } ∧ W.grownBy w' (some b) := by
  have mixed := mixedOrders
  have h0 : v.lots ≠ 0 := by rw [hl]; omega
  have HC := hide (check_any h h0 1)
  rw [if_pos hs] at HC
  have HK := hide (checkShow_any h hl h1 h2 i none 0 0 [] ⟨rfl, .inl rfl⟩ (by decide) salt S hS)
  rw [hE] at HK
  have HT := hide h
  have q8 : (i : Int) < 8 := by omega
  have k1 : ∀ w', Below W.heap.size W w' → w'.cell? ⟨b, 18 + i, none⟩ = some (.bool (v.shown.getD i false)) := fun w' hb => (HT.out.below hb).shown hi
  have k2 : ∀ w', Below W.heap.size W w' → w'.frozen? ⟨b, 18 + i, none⟩ = false := fun w' hb => (HT.out.below hb).frozen _
  have K1 := hide k1
  have K2 := hide k2
  clear h hS hE h0 k1 k2
  go_enter Try.func42, Try.ntmps42
  go_wp2_with fail
  refine HC.out.mono ?_
  rintro e w1 ⟨rfl, rfl⟩
  go_wp2_with fail
  refine HK.out.mono ?_
  rintro e w2 ⟨rfl, hb⟩
  have c1 := K1.out _ hb
  have c2 := K2.out _ hb
  have HB := hide hb
  clear hb HK HC
  obtain ⟨W3, hW3⟩ : ∃ W3, w2.setCell ⟨b, 18 + i, none⟩ (.bool true) = W3 := ⟨_, rfl⟩
  have ht2 := HT.out.below HB.out
  have ht3 := ht2.set (v' := { v with shown := v.shown.set i true }) ⟨ht2.ok.given, ht2.ok.seals, by simp [ht2.ok.shown], ht2.ok.offers, ht2.ok.count⟩ (cellsT_set_shown ht2.ok hi true)
  rw [hW3] at ht3
  have d0 : W3.cell? ⟨b, 74, none⟩ = some (.int .i64 v.count) := ht3.1.count
  have hcn : v.count ≤ 16 := ht2.ok.count
  have HOK := hide ht3.1.ok
  obtain ⟨cn, hcc⟩ : ∃ cn, v.count = cn := ⟨_, rfl⟩
  rw [hcc] at d0 hcn
  have q1 : (cn : Int) ≤ 16 := by omega
  have hcp : ∀ (a : Addr) (k m : Nat), (Builtin.copy_ #[22, 22] 3 #[.slice (some a) k m, .slice none 0 0]).run Try.prog W3.drew = .ok (.int .i64 0) W3.drew := fun a k m => run_copy_nil (P := Try.prog) W3.drew 22 22 3 72 a k m Try.underlying22 (by kernel_rfl)
  have d1 : W3.drew.cell? ⟨b, 74, none⟩ = some (.int .i64 cn) := d0
  have f2 : W3.drew.frozen? ⟨b, 74, none⟩ = false := ht3.1.frozen 74
  have f3 : W3.frozen? ⟨b, 74, none⟩ = false := ht3.1.frozen 74
  clear c1 c2
  have c1 := K1.out _ HB.out
  have c2 := K2.out _ HB.out
  have H3 := hide ht3
  clear ht3 ht2
  have HF : Hid (TdAt (W3.drew.setCell ⟨b, 74, none⟩ (.int .i64 cn)) b { v with shown := v.shown.set i true } ∧ w2.grownBy (W3.drew.setCell ⟨b, 74, none⟩ (.int .i64 cn)) (some b)) := by
    have h4 := H3.out.1.keep (((Gr.refl W3).drew).grownBy none) (by simp)
    have e : ({ v with shown := v.shown.set i true } : TdV) = { ({ v with shown := v.shown.set i true } : TdV) with count := cn } := by rw [← hcc]
    have h5 := h4.set (v' := { v with shown := v.shown.set i true }) HOK.out (i := 74) (x := .int .i64 (cn : Int)) (by
      have := cellsT_set_count HOK.out cn
      rw [← e] at this
      exact this)
    exact ⟨h5.1, (H3.out.2.trans (((Gr.refl W3).drew).grownBy (some b))).trans h5.2⟩
  by_cases h16 : 16 = cn
  · subst h16
    go_wp2_with fail
    go_region
    go_wp2_with fail
    go_ret
    have hf := HF.out
    have hbg := HB.out
    exact ⟨rfl, hf.1, (show World.grownBy _ w2 (some b) from ⟨hbg.os, hbg.tape, hbg.output, hbg.size, fun k hk _ => hbg.block k hk⟩).trans hf.2⟩
  · go_wp2_with fail
    go_region
    go_wp2_with fail
    go_ret
    have hf := HF.out
    have hbg := HB.out
    exact ⟨rfl, hf.1, (show World.grownBy _ w2 (some b) from ⟨hbg.os, hbg.tape, hbg.output, hbg.size, fun k hk _ => hbg.block k hk⟩).trans hf.2⟩
end Go.Proofs.Ytpobfdhmggkbaaa
/- slices.SortStableFunc of at most 16 offers: one insertion sort. -/
namespace Go.Proofs.Ytpobfdhmggkbaaa
open Go.RowKit Go.Sort Go.BigFrame
set_option maxHeartbeats 2000000 in
theorem stableCmp_any (A : Option Addr) (n c : Nat) (hn : n ≤ 16) (fv : Value) (w : World) (Q : World → Prop)
    (hI : Calls Try.prog 86 #[.slice A n c, .int .i64 0, .int .i64 n, fv] w fun e w' => e = .returned (.tuple #[]) ∧ Q w') :
    Calls Try.prog 78 #[.slice A n c, .int .i64 n, fv] w fun e w' => e = .returned (.tuple #[]) ∧ Q w' := by
  have HI := hide hI
  have q1 : ¬ (20 : Int) ≤ (n : Int) := by omega
  have q2 : ¬ (20 : Int) < (n : Int) := by omega
  clear hI hn
  go_enter Try.func78, Try.ntmps78
  go_wp2_with fail
  go_loopw [7, 8] (fun va vb wr => va = .int .i64 0 ∧ vb = .int .i64 20 ∧ wr = w) (fun _ _ _ => 0)
  case atStart => exact ⟨rfl, rfl, rfl⟩
  case round =>
    obtain ⟨rfl, rfl, rfl⟩ := hrel
    go_wp2_with fail
    refine HI.out.mono ?_
    rintro e w' ⟨rfl, hq⟩
    have HQ := hide hq
    clear hq HI
    go_wp2_with fail
    obtain ⟨w5, rfl⟩ : ∃ w5, w5 = w' := ⟨_, rfl⟩
    go_loopw [6, 7, 8, 9] (fun v6 v7 v8 v9 wr => v6 = .int .i64 20 ∧ wr = w5) (fun _ _ _ _ _ => 0)
    case atStart => exact ⟨rfl, rfl⟩
    case round =>
      obtain ⟨rfl, rfl⟩ := hrel
      go_wp2_with fail
      go_end0
      exact ⟨rfl, HQ.out⟩
theorem SortStable_any (A : Option Addr) (n c : Nat) (hn : n ≤ 16) (fv : Value) (w : World) (Q : World → Prop)
    (hI : Calls Try.prog 86 #[.slice A n c, .int .i64 0, .int .i64 n, fv] w fun e w' => e = .returned (.tuple #[]) ∧ Q w') :
    Calls Try.prog 65 #[.slice A n c, fv] w fun e w' => e = .returned (.tuple #[]) ∧ Q w' := by
  have HC := hide (stableCmp_any A n c hn fv w Q hI)
  clear hI hn
  go_enter Try.func65, Try.ntmps65
  go_wp2_with fail
  refine HC.out.mono ?_
  rintro e w' ⟨rfl, hq⟩
  have HQ := hide hq
  clear hq HC
  go_wp2_with fail
  go_end0
  exact ⟨rfl, HQ.out⟩
end Go.Proofs.Ytpobfdhmggkbaaa
/- What orders the shown offers: the buyers. -/
namespace Go.Proofs.Ytpobfdhmggkbaaa
open Go.RowKit Go.Sort Go.BigFrame
def cmpI (a b : Int) : Int := if a < b then -1 else if b < a then 1 else 0
theorem isNaN_any (a : Int) (w : World) : Calls Try.prog 79 #[.int .i64 a] w fun e w' => e = .returned (.bool false) ∧ w' = w := by
  have hq : (a != a) = false := by simp
  go_enter Try.func79, Try.ntmps79
  go_wp2_with fail
  go_ret
  exact ⟨rfl, rfl⟩
theorem Compare_any (a b : Int) (w : World) : Calls Try.prog 67 #[.int .i64 a, .int .i64 b] w fun e w' => e = .returned (.int .i64 (cmpI a b)) ∧ w' = w := by
  have mixed := mixedOrders
  have HA := hide (isNaN_any a w)
  have HB := hide (isNaN_any b w)
  unfold cmpI
  rcases Int.lt_trichotomy a b with h | h | h
  · rw [if_pos h]
    have q1 : (a : Int) < b := h
    clear h
    go_enter Try.func67, Try.ntmps67
    go_wp2_with fail
    refine HA.out.mono ?_
    rintro e w1 ⟨rfl, rfl⟩
    go_wp2_with fail
    refine HB.out.mono ?_
    rintro e w2 ⟨rfl, rfl⟩
    go_wp2_with fail
    go_ret
    exact ⟨rfl, rfl⟩
  · rw [if_neg (by omega), if_neg (by omega)]
    subst h
    have q1 : ¬ (a : Int) < a := by omega
    go_enter Try.func67, Try.ntmps67
    go_wp2_with fail
    refine HA.out.mono ?_
    rintro e w1 ⟨rfl, rfl⟩
    go_wp2_with fail
    refine HB.out.mono ?_
    rintro e w2 ⟨rfl, rfl⟩
    go_wp2_with fail
    go_ret
    exact ⟨rfl, rfl⟩
  · rw [if_neg (by omega), if_pos h]
    have q1 : ¬ (a : Int) < b := by omega
    have q2 : (b : Int) < a := h
    clear h
    go_enter Try.func67, Try.ntmps67
    go_wp2_with fail
    refine HA.out.mono ?_
    rintro e w1 ⟨rfl, rfl⟩
    go_wp2_with fail
    refine HB.out.mono ?_
    rintro e w2 ⟨rfl, rfl⟩
    go_wp2_with fail
    go_ret
    exact ⟨rfl, rfl⟩
set_option maxHeartbeats 2000000 in
/-- the closure -/
theorem byBuyer_any (x y : Ofr) (w : World) : Calls Try.prog 66 #[ofV x, ofV y] w fun e w' => e = .returned (.int .i64 (cmpI x.1 y.1)) ∧ Gr w w' := by
  obtain ⟨x1, x2, x3⟩ := x
  obtain ⟨y1, y2, y3⟩ := y
  show Calls Try.prog 66 #[.agg #[.int .i64 x1, .int .i64 x2, .int .i64 x3], .agg #[.int .i64 y1, .int .i64 y2, .int .i64 y3]] w _
  have HC := hide (fun w1 => Compare_any x1 y1 w1)
  dsimp only
  obtain ⟨W1, hW1⟩ : ∃ W1, (w.alloc (.cells #[.int .i64 x1, .int .i64 x2, .int .i64 x3] 72)).alloc (.cells #[.int .i64 y1, .int .i64 y2, .int .i64 y3] 72) = W1 := ⟨_, rfl⟩
  have hG : Gr w W1 := by rw [← hW1]; exact ((Gr.refl w).alloc _).alloc _
  have c0 : W1.cell? ⟨w.heap.size, 0, none⟩ = some (.int .i64 x1) := by rw [← hW1]; simp
  have c1 : W1.cell? ⟨w.heap.size + 1, 0, none⟩ = some (.int .i64 y1) := by rw [← hW1]; simp
  have HG := hide hG
  clear hG
  go_enter Try.func66, Try.ntmps66
  go_wp2_with fail
  refine (HC.out _).mono ?_
  rintro e w2 ⟨rfl, rfl⟩
  go_wp2_with fail
  go_ret
  exact ⟨rfl, HG.out⟩
end Go.Proofs.Ytpobfdhmggkbaaa
/- slices.Clone of offers. -/
namespace Go.Proofs.Ytpobfdhmggkbaaa
open Go.RowKit Go.Sort Go.BigFrame
theorem info72 : (Try.prog.info? 72).map (fun i => (i.zero, i.size, i.bytes)) = some (some (.agg #[.int .i64 0, .int .i64 0, .int .i64 0]), 3, 24) := by kernel_rfl
theorem own_some {w : World} {base : Nat} {e : TypeId} {size n : Nat} {v : Value} {xs : List Value} (h : w.ownsRow base e size v n xs) (hv : v ≠ .slice none 0 0) : ∃ g c, v = .slice (some ⟨g, 0, none⟩) n c := by
  rcases h.2 with ⟨rfl, rfl⟩ | ⟨g, cap, cur, rfl, _⟩
  · exact absurd rfl hv
  · exact ⟨_, _, rfl⟩
theorem own_cap {w : World} {base : Nat} {e : TypeId} {size n m : Nat} {g c : Nat} {xs : List Value} (h : w.ownsRow base e size (.slice (some ⟨g, 0, none⟩) m c) n xs) : n ≤ c ∧ c ≤ maxLen := by
  rcases h.2 with ⟨h0, _⟩ | ⟨g', cap, cur, e, _, _, h1, h2, _⟩
  · cases h0
  · injection e with _ _ e3
    subst e3
    exact ⟨h1, h2⟩
set_option maxHeartbeats 2000000 in
set_option maxRecDepth 100000 in
theorem Clone_any (ab off n c : Nat) (l : List Ofr) (w : World) (hx : OffAt w.heap.size w (some ⟨ab, off, none⟩) n l) (hn : n ≤ 16) :
    Calls Try.prog 64 #[.slice (some ⟨ab, off, none⟩) n c] w fun e w' => ∃ g c', e = .returned (.slice (some ⟨g, 0, none⟩) n c') ∧ w'.ownsRow w.heap.size 72 3 (.slice (some ⟨g, 0, none⟩) n c') n (cellsO l) ∧ Below w.heap.size w w' := by
  have mixed := mixedOrders
  obtain ⟨i0, hi0, hz0, hz1, hz2⟩ := info_parts info72
  have hnil : ∀ w, (binOp .eql 22 (.slice (some ⟨ab, off, none⟩) n c) (.slice none 0 0)).run Try.prog w = .ok (.bool false) w := fun _ => rfl
  obtain ⟨p, hp⟩ : ∃ p, w.heap.size = p := ⟨_, rfl⟩
  have HX := hide hx
  clear hx
  have hbw : Below w.heap.size w (w.alloc (.cells #[] 72)) := (Below.refl _ w).alloc (Nat.le_refl _) _
  have HNEW : Hid (∀ j u, (cellsO l)[j]? = some u → (w.alloc (.cells #[] 72)).cell? ((⟨ab, off, none⟩ : Addr).add j) = some u) := off_cells (HX.out.now hbw (Nat.le_refl _))
  have HLN : Hid ((cellsO l).length = n * 3) := by show _ = _; rw [cellsO_len, HX.out.len]
  have HBB : Hid (0 + n ≤ maxLen) := hide (by unfold maxLen; omega)
  have HBC : Hid ((0 + n) * 24 ≤ 140737488355328) := hide (by omega)
  have HS : Hid (w.heap.size ≤ (w.alloc (.cells #[] 72)).heap.size) := hbw.size
  have HO : Hid ((w.alloc (.cells #[] 72)).ownsRow w.heap.size 72 3 (.slice (some ⟨w.heap.size, 0, none⟩) 0 0) 0 []) := World.ownsRow_made w #[] 0 (Nat.le_refl _) (Nat.zero_le _) rfl
  have HBW := hide hbw
  clear hbw hp
  go_enter Try.func64, Try.ntmps64
  go_wp2_with (
    at_builtin; refine wpList_append_own_at _ rfl (.tmp 5) (.tmp 6) _ rfl w.heap.size 72 i0 (.agg #[.int .i64 0, .int .i64 0, .int .i64 0]) 3 24 Try.underlying22 hi0 hz0 hz1 hz2 rfl (by decide) _ 0 [] rfl HO.out ⟨ab, off, none⟩ n c (cellsO l) rfl HLN.out HNEW.out (cellsO_one l) HBB.out HBC.out HS.out ?_; intro v8 w8 hown8 hgrow8 hnil8 hat8
    rw [Nat.zero_add, List.nil_append] at hown8
    obtain ⟨g8, c8, rfl⟩ := own_some hown8 (fun e => by have := (hnil8.1 e).1; cases this)
    have HO8 := hide hown8
    have HB8 : Hid (Below w.heap.size w w8) := hide (HBW.out.grown hgrow8 HS.out (fun k e => (HO.out.lt k e).1))
    clear hown8 hgrow8 hnil8 hat8)
  go_ret
  exact ⟨g8, c8, rfl, HO8.out, HB8.out⟩
end Go.Proofs.Ytpobfdhmggkbaaa
/- The small errors. -/
namespace Go.Proofs.Ytpobfdhmggkbaaa
open Go.RowKit Go.Sort Go.BigFrame
theorem Shut_state {W : World} {b : Nat} {v : TdV} (h : TdAt W b v) (h0 : v.lots ≠ 0) (hs : v.state ≠ 0) : Calls Try.prog 41 #[tp b] W fun e w' => e = .returned (.int .i64 9) ∧ w' = W := by
  have HC := hide (check_any h h0 0)
  rw [if_neg hs] at HC
  clear h hs
  go_enter Try.func41, Try.ntmps41
  go_wp2_with fail
  refine HC.out.mono ?_
  rintro e w' ⟨rfl, rfl⟩
  go_wp2_with fail
  go_ret
  exact ⟨rfl, rfl⟩
theorem Submit_state {W : World} {b : Nat} {v : TdV} (h : TdAt W b v) (h0 : v.lots ≠ 0) (hs : v.state ≠ 0) (i : Int) (n : Nat) : Calls Try.prog 40 #[tp b, .int .i64 i, .int .u64 (n : Nat)] W fun e w' => e = .returned (.int .i64 9) ∧ w' = W := by
  have HC := hide (check_any h h0 0)
  rw [if_neg hs] at HC
  clear h hs
  go_enter Try.func40, Try.ntmps40
  go_wp2_with fail
  refine HC.out.mono ?_
  rintro e w' ⟨rfl, rfl⟩
  go_wp2_with fail
  go_ret
  exact ⟨rfl, rfl⟩
theorem Submit_arg {W : World} {b : Nat} {v : TdV} (h : TdAt W b v) (h0 : v.lots ≠ 0) (hs : v.state = 0) {i : Int} (hi : ¬ (0 ≤ i ∧ i ≤ 7)) (n : Nat) : Calls Try.prog 40 #[tp b, .int .i64 i, .int .u64 (n : Nat)] W fun e w' => e = .returned (.int .i64 2) ∧ w' = W := by
  have HC := hide (check_any h h0 0)
  rw [if_pos hs] at HC
  have HB := hide (isBuyer_any i W)
  rw [decide_eq_false hi] at HB
  clear h hs hi
  go_enter Try.func40, Try.ntmps40
  go_wp2_with fail
  refine HC.out.mono ?_
  rintro e w' ⟨rfl, rfl⟩
  go_wp2_with fail
  refine HB.out.mono ?_
  rintro e w'' ⟨rfl, rfl⟩
  go_wp2_with fail
  go_ret
  exact ⟨rfl, rfl⟩
theorem Show_state {W : World} {b : Nat} {v : TdV} (h : TdAt W b v) (h0 : v.lots ≠ 0) (hs : v.state ≠ 1) (i : Int) (A : Option Addr) (n c : Nat) (salt : Nat) : Calls Try.prog 42 #[tp b, .int .i64 i, .slice A n c, .int .u64 (salt : Nat)] W fun e w' => e = .returned (.int .i64 9) ∧ w' = W := by
  have HC := hide (check_any h h0 1)
  rw [if_neg hs] at HC
  clear h hs
  go_enter Try.func42, Try.ntmps42
  go_wp2_with fail
  refine HC.out.mono ?_
  rintro e w' ⟨rfl, rfl⟩
  go_wp2_with fail
  go_ret
  exact ⟨rfl, rfl⟩
theorem New_bad {l : Int} (h : ¬ (1 ≤ l ∧ l ≤ 12)) (W : World) : Calls Try.prog 31 #[.int .i64 l] W fun e w' => e = .returned (.tuple #[.pointer none, .int .i64 2]) ∧ w' = W := by
  have HL := hide (isLots_any l W)
  rw [decide_eq_false h] at HL
  clear h
  go_enter Try.func31, Try.ntmps31
  go_wp2_with fail
  refine HL.out.mono ?_
  rintro e w' ⟨rfl, rfl⟩
  go_wp2_with fail
  go_ret2
  exact ⟨rfl, rfl⟩
end Go.Proofs.Ytpobfdhmggkbaaa
