/- valid. -/
import Derived.Test.YtpobfdhmggkbaaaZB
import Derived.BigQuiet
import Derived.Shelf.SlSortCmp.QuietGrown
namespace Go.Proofs.Ytpobfdhmggkbaaa
open Go.RowKit Go.Sort Go.BigFrame
def validB (lots : Nat) (o : Ofr) : Bool := decide (0 ≤ o.1 ∧ o.1 ≤ 7) && (decide (1 ≤ o.2.1) && (decide (o.2.1 < (2 ^ lots : Nat)) && (decide (1 ≤ o.2.2) && decide (o.2.2 ≤ 1073741824))))
set_option maxHeartbeats 4000000 in
theorem valid_any (lots : Nat) (h1 : 1 ≤ lots) (h2 : lots ≤ 12) (o : Ofr) (w : World) : Calls Try.prog 74 #[.int .i64 lots, ofV o] w fun e w' => e = .returned (.bool (validB lots o)) ∧ Gr w w' := by
  have mixed := mixedOrders
  obtain ⟨o1, o2, o3⟩ := o
  show Calls Try.prog 74 #[.int .i64 lots, .agg #[.int .i64 o1, .int .i64 o2, .int .i64 o3]] w _
  have a0 := heap_alloc_new w (.cells #[.int .i64 o1, .int .i64 o2, .int .i64 o3] 72)
  obtain ⟨p, hp⟩ : ∃ p, w.heap.size = p := ⟨_, rfl⟩
  obtain ⟨W1, hW1⟩ : ∃ W1, w.alloc (.cells #[.int .i64 o1, .int .i64 o2, .int .i64 o3] 72) = W1 := ⟨_, rfl⟩
  have hG1 : Gr w W1 := by rw [← hW1]; exact (Gr.refl w).alloc _
  rw [hW1, hp] at a0
  have d0 : ∀ n, (W1.drewN n).cell? ⟨p, 0, none⟩ = some (.int .i64 o1) := fun n => by show W1.cell? _ = _; simp [World.cell?, a0]
  have d1 : ∀ n, (W1.drewN n).cell? ⟨p, 1, none⟩ = some (.int .i64 o2) := fun n => by show W1.cell? _ = _; simp [World.cell?, a0]
  have d2 : ∀ n, (W1.drewN n).cell? ⟨p, 2, none⟩ = some (.int .i64 o3) := fun n => by show W1.cell? _ = _; simp [World.cell?, a0]
  have HB := hide (fun W' => isBuyer_any o1 W')
  have HG := hide hG1
  unfold validB
  dsimp only
  clear a0 hG1
  obtain ⟨L, hL⟩ : ∃ L : Nat, 2 ^ lots = L := ⟨_, rfl⟩
  have hL2 : L ≤ 4096 := by rw [← hL]; exact Nat.pow_le_pow_right (by decide) h2
  have hpow : wrap64 ((2 : Int) ^ lots) = (L : Int) := by
    have e : (2 : Int) ^ lots = (L : Int) := by rw [← hL]; simp
    rw [e, IntWalk.wrap64_in _ (by omega)]
  rw [hL]
  clear hL hL2
  by_cases c1 : 0 ≤ o1 ∧ o1 ≤ 7
  · rw [decide_eq_true c1] at HB
    simp only [decide_eq_true c1, Bool.true_and]
    clear c1
    by_cases c2 : 1 ≤ o2
    · have f2 := decide_eq_true c2
      simp only [f2, Bool.true_and]
      clear c2
      by_cases c3 : o2 < (L : Int)
      · have f3 := decide_eq_true c3
        simp only [f3, Bool.true_and]
        clear c3
        by_cases c4 : 1 ≤ o3
        · have f4 := decide_eq_true c4
          simp only [f4, Bool.true_and]
          clear c4
          by_cases c5 : o3 ≤ 1073741824
          · have f5 := decide_eq_true c5
            simp only [f5, Bool.true_and]
            clear c5
            go_enter Try.func74, Try.ntmps74
            go_wp2_with fail
            refine wp_region_quiet_lit (by kernel_rfl) (by kernel_rfl) ?_
            repeat (go_big_quiet_step (first | (go_at_call 52; exact (HB.out _).mono fun e w' h => ⟨h.1, _, h.2⟩)))
            refine wpQuiet_nil ?_
            intro _ hw'
            obtain ⟨nq, hw''⟩ := hw'
            subst hw''
            go_wp2_with fail
            go_ret
            exact ⟨by first | rfl | exact ret_bool (by simp_all), HG.out.trans ((Gr.refl _).drewN nq)⟩
          · have f5 := decide_eq_false c5
            simp only [f5, Bool.false_and]
            clear c5
            go_enter Try.func74, Try.ntmps74
            go_wp2_with fail
            refine wp_region_quiet_lit (by kernel_rfl) (by kernel_rfl) ?_
            repeat (go_big_quiet_step (first | (go_at_call 52; exact (HB.out _).mono fun e w' h => ⟨h.1, _, h.2⟩)))
            refine wpQuiet_nil ?_
            intro _ hw'
            obtain ⟨nq, hw''⟩ := hw'
            subst hw''
            go_wp2_with fail
            go_ret
            exact ⟨by first | rfl | exact ret_bool (by simp_all), HG.out.trans ((Gr.refl _).drewN nq)⟩
        · have f4 := decide_eq_false c4
          simp only [f4, Bool.false_and]
          clear c4
          go_enter Try.func74, Try.ntmps74
          go_wp2_with fail
          refine wp_region_quiet_lit (by kernel_rfl) (by kernel_rfl) ?_
          repeat (go_big_quiet_step (first | (go_at_call 52; exact (HB.out _).mono fun e w' h => ⟨h.1, _, h.2⟩)))
          refine wpQuiet_nil ?_
          intro _ hw'
          obtain ⟨nq, hw''⟩ := hw'
          subst hw''
          go_wp2_with fail
          go_ret
          exact ⟨by first | rfl | exact ret_bool (by simp_all), HG.out.trans ((Gr.refl _).drewN nq)⟩
      · have f3 := decide_eq_false c3
        simp only [f3, Bool.false_and]
        clear c3
        go_enter Try.func74, Try.ntmps74
        go_wp2_with fail
        refine wp_region_quiet_lit (by kernel_rfl) (by kernel_rfl) ?_
        repeat (go_big_quiet_step (first | (go_at_call 52; exact (HB.out _).mono fun e w' h => ⟨h.1, _, h.2⟩)))
        refine wpQuiet_nil ?_
        intro _ hw'
        obtain ⟨nq, hw''⟩ := hw'
        subst hw''
        go_wp2_with fail
        go_ret
        exact ⟨by first | rfl | exact ret_bool (by simp_all), HG.out.trans ((Gr.refl _).drewN nq)⟩
    · have f2 := decide_eq_false c2
      simp only [f2, Bool.false_and]
      clear c2
      go_enter Try.func74, Try.ntmps74
      go_wp2_with fail
      refine wp_region_quiet_lit (by kernel_rfl) (by kernel_rfl) ?_
      repeat (go_big_quiet_step (first | (go_at_call 52; exact (HB.out _).mono fun e w' h => ⟨h.1, _, h.2⟩)))
      refine wpQuiet_nil ?_
      intro _ hw'
      obtain ⟨nq, hw''⟩ := hw'
      subst hw''
      go_wp2_with fail
      go_ret
      exact ⟨by first | rfl | exact ret_bool (by simp_all), HG.out.trans ((Gr.refl _).drewN nq)⟩
  · rw [decide_eq_false c1] at HB
    simp only [decide_eq_false c1, Bool.false_and]
    clear c1
    go_enter Try.func74, Try.ntmps74
    go_wp2_with fail
    refine wp_region_quiet_lit (by kernel_rfl) (by kernel_rfl) ?_
    repeat (go_big_quiet_step (first | (go_at_call 52; exact (HB.out _).mono fun e w' h => ⟨h.1, _, h.2⟩)))
    refine wpQuiet_nil ?_
    intro _ hw'
    obtain ⟨nq, hw''⟩ := hw'
    subst hw''
    go_wp2_with fail
    go_ret
    exact ⟨by first | rfl | exact ret_bool (by simp_all), HG.out.trans ((Gr.refl _).drewN nq)⟩
end Go.Proofs.Ytpobfdhmggkbaaa
/- The closure that checkShow hands on. -/
namespace Go.Proofs.Ytpobfdhmggkbaaa
open Go.RowKit Go.Sort Go.BigFrame
def badB (lots : Nat) (buyer : Int) (o : Ofr) : Bool := !validB lots o || (o.1 != buyer)
set_option maxHeartbeats 4000000 in
theorem notOwn_any {W : World} {b : Nat} {v : TdV} (h : TdAt W b v) {lots : Nat} (hl : v.lots = lots) (h1 : 1 ≤ lots) (h2 : lots ≤ 12) {xb yb : Nat} {buyer : Int} (hxb : W.cell? ⟨xb, 0, none⟩ = some (tp b)) (hyb : W.cell? ⟨yb, 0, none⟩ = some (.int .i64 buyer)) (o : Ofr) :
    Calls Try.prog 80 #[ofV o, tp xb, tp yb] W fun e w' => e = .returned (.bool (badB lots buyer o)) ∧ Gr W w' := by
  have mixed := mixedOrders
  have k0 := h.lots
  rw [hl] at k0
  have hbl := h.lt
  have hxl := World.block_lt_of_cell? _ _ hxb
  have hyl := World.block_lt_of_cell? _ _ hyb
  have HV := hide (fun w1 => valid_any lots h1 h2 o w1)
  obtain ⟨o1, o2, o3⟩ := o
  have HV : Hid (∀ w1, Calls Try.prog 74 #[.int .i64 lots, .agg #[.int .i64 o1, .int .i64 o2, .int .i64 o3]] w1 fun e w' => e = .returned (.bool (validB lots (o1, o2, o3))) ∧ Gr w1 w') := HV
  show Calls Try.prog 80 #[.agg #[.int .i64 o1, .int .i64 o2, .int .i64 o3], tp xb, tp yb] W _
  unfold badB
  dsimp only
  generalize validB lots (o1, o2, o3) = q at HV
  have a0 := heap_alloc_new W (.cells #[.int .i64 o1, .int .i64 o2, .int .i64 o3] 72)
  obtain ⟨p, hp⟩ : ∃ p, W.heap.size = p := ⟨_, rfl⟩
  obtain ⟨W1, hW1⟩ : ∃ W1, W.alloc (.cells #[.int .i64 o1, .int .i64 o2, .int .i64 o3] 72) = W1 := ⟨_, rfl⟩
  have hG1 : Gr W W1 := by rw [← hW1]; exact (Gr.refl W).alloc _
  rw [hW1, hp] at a0
  have hs1 := hG1.size
  have hpl : p < W1.heap.size := (Array.getElem?_eq_some_iff.1 a0).1
  have c0 : W1.cell? ⟨p, 0, none⟩ = some (.int .i64 o1) := by simp [World.cell?, a0]
  have c1 : W1.cell? ⟨p, 1, none⟩ = some (.int .i64 o2) := by simp [World.cell?, a0]
  have c2 : W1.cell? ⟨p, 2, none⟩ = some (.int .i64 o3) := by simp [World.cell?, a0]
  have e0 := (hG1.cell (p := ⟨b, 0, none⟩) hbl).trans k0
  have e1 := (hG1.cell (p := ⟨xb, 0, none⟩) hxl).trans hxb
  have e2 := (hG1.cell (p := ⟨yb, 0, none⟩) hyl).trans hyb
  have E0 := fun n os => cell_grown (a := ⟨p, 0, none⟩) hpl c0 n os
  have E1 := fun n os => cell_grown (a := ⟨p, 1, none⟩) hpl c1 n os
  have E2 := fun n os => cell_grown (a := ⟨p, 2, none⟩) hpl c2 n os
  have E3 := fun n os => cell_grown (a := ⟨b, 0, none⟩) (show b < _ by omega) e0 n os
  have E4 := fun n os => cell_grown (a := ⟨xb, 0, none⟩) (show xb < _ by have : xb < W.heap.size := hxl; omega) e1 n os
  have E5 := fun n os => cell_grown (a := ⟨yb, 0, none⟩) (show yb < _ by have : yb < W.heap.size := hyl; omega) e2 n os
  have HC : Hid (∀ n os, Calls Try.prog 74 #[.int .i64 lots, .agg #[.int .i64 o1, .int .i64 o2, .int .i64 o3]] (grow (W1.drewN n) os) fun e w'' => e = .returned (.bool q) ∧ ∃ p : GrownBy, w'' = grow (W1.drewN p.n) p.os) := fun n os => Calls.grown_of ((HV.out _).mono fun _ _ h => ⟨h.1, h.2⟩)
  have HG := hide hG1
  clear a0 c0 c1 c2 e0 e1 e2 hpl hs1 hG1 hbl hxl hyl k0 hxb hyb HV h
  cases q
  · go_enter Try.func80, Try.ntmps80
    go_wp2_with fail
    refine wp_region_quiet_grown (by assumption) (by kernel_rfl) ?_
    repeat (go_big_quiet_step (first | (go_at_call 74; with_reducible exact HC.out _ _)))
    refine wpQuiet_nil ?_
    intro _ hw'
    obtain ⟨⟨nq, osq⟩, hw''⟩ := hw'
    subst hw''
    go_wp2_with fail
    go_ret
    exact ⟨rfl, HG.out.trans ⟨nq, osq, rfl⟩⟩
  · go_enter Try.func80, Try.ntmps80
    go_wp2_with fail
    refine wp_region_quiet_grown (by assumption) (by kernel_rfl) ?_
    repeat (go_big_quiet_step (first | (go_at_call 74; with_reducible exact HC.out _ _)))
    refine wpQuiet_nil ?_
    intro _ hw'
    obtain ⟨⟨nq, osq⟩, hw''⟩ := hw'
    subst hw''
    go_wp2_with fail
    go_ret
    exact ⟨by first | rfl | exact ret_bool (by simp), HG.out.trans ⟨nq, osq, rfl⟩⟩
end Go.Proofs.Ytpobfdhmggkbaaa
/- checkShow. -/
namespace Go.Proofs.Ytpobfdhmggkbaaa
open Go.RowKit Go.Sort Go.BigFrame
def showE (v : TdV) (lots : Nat) (buyer : Int) (S : Nat) (l : List Ofr) : Int :=
  if ¬ (0 ≤ buyer ∧ buyer ≤ 7) then 2 else if v.given.getD buyer.toNat false = false then 6 else if v.shown.getD buyer.toNat false = true then 7 else if S ≠ v.seals.getD buyer.toNat 0 then 11 else if 4 < l.length then 3 else if hasO (badB lots buyer) l = true then 2 else if 16 < v.count + l.length then 8 else 0
set_option maxHeartbeats 4000000 in
set_option maxRecDepth 100000 in
theorem checkShow_any {W : World} {b : Nat} {v : TdV} (h : TdAt W b v) {lots : Nat} (hl : v.lots = lots) (h1 : 1 ≤ lots) (h2 : lots ≤ 12) (buyer : Int) (A : Option Addr) (n c : Nat) (l : List Ofr) (hx : OffAt W.heap.size W A n l) (hn : n ≤ 1000000) (salt S : Nat)
    (hS : ∀ w1, Below W.heap.size W w1 → Calls Try.prog 28 #[.slice A n c, .int .u64 (salt : Nat)] w1 fun e w' => e = .returned (.int .u64 (S : Nat)) ∧ Below w1.heap.size w1 w') :
    Calls Try.prog 68 #[tp b, .int .i64 buyer, .slice A n c, .int .u64 (salt : Nat)] W fun e w' => e = .returned (.int .i64 (showE v lots buyer S l)) ∧ Below W.heap.size W w' := by
  have mixed := mixedOrders
  obtain ⟨p, hp⟩ : ∃ p, W.heap.size = p := ⟨_, rfl⟩
  obtain ⟨W2, hW2⟩ : ∃ W2, (W.alloc (.cells #[tp b] 50)).alloc (.cells #[.int .i64 buyer] 3) = W2 := ⟨_, rfl⟩
  have HB2 : Hid (Below W.heap.size W W2) := by show Below _ _ _; rw [← hW2]; exact ((Below.refl _ W).alloc (Nat.le_refl _) _).alloc (by simp) _
  have KK : Hid (∀ w', Below W2.heap.size W2 w' → w'.cell? ⟨p, 0, none⟩ = some (tp b) ∧ w'.cell? ⟨p + 1, 0, none⟩ = some (.int .i64 buyer) ∧ TdAt w' b v ∧ OffAt w'.heap.size w' A n l ∧ Below W.heap.size W w') := fun w' hw => by
    have hs : W2.heap.size = p + 2 := by rw [← hW2]; simp [hp]
    have c0 : W2.cell? ⟨p, 0, none⟩ = some (tp b) := by rw [← hW2, ← hp]; simp
    have c1 : W2.cell? ⟨p + 1, 0, none⟩ = some (.int .i64 buyer) := by rw [← hW2, ← hp]; simp
    have hbw := HB2.out.trans (hw.mono HB2.out.size)
    exact ⟨(hw.cell (p := ⟨p, 0, none⟩) (show p < _ by omega)).trans c0, (hw.cell (p := ⟨p + 1, 0, none⟩) (show p + 1 < _ by omega)).trans c1, h.below hbw, hx.now hbw (Nat.le_refl _), hbw⟩
  obtain ⟨m0, m1, -, -, -⟩ := KK.out W2 (Below.refl _ _)
  unfold showE
  by_cases hb : 0 ≤ buyer ∧ buyer ≤ 7
  · rw [if_neg (fun e => e hb)]
    have HI := hide (isBuyer_any buyer)
    simp only [decide_eq_true hb] at HI
    obtain ⟨i, rfl⟩ : ∃ i : Nat, buyer = i := ⟨buyer.toNat, by omega⟩
    have hi : i < 8 := by omega
    rw [Int.toNat_natCast]
    have q8 : (i : Int) < 8 := by omega
    obtain ⟨g, hg⟩ : ∃ g, v.given.getD i false = g := ⟨_, rfl⟩
    obtain ⟨sh, hsh⟩ : ∃ g, v.shown.getD i false = g := ⟨_, rfl⟩
    obtain ⟨se, hse⟩ : ∃ g, v.seals.getD i 0 = g := ⟨_, rfl⟩
    rw [hg, hsh, hse]
    obtain ⟨E, hE⟩ : ∃ E : Int, (if g = false then 6 else if sh = true then 7 else if S ≠ se then 11 else if 4 < l.length then 3 else if hasO (badB lots i) l = true then 2 else if 16 < v.count + l.length then 8 else 0) = E := ⟨_, rfl⟩
    rw [hE]
    have HE := hide hE
    clear hE
    have KG : Hid (∀ w', Below W2.heap.size W2 w' → w'.cell? ⟨b, 2 + i, none⟩ = some (.bool g) ∧ w'.cell? ⟨b, 18 + i, none⟩ = some (.bool sh) ∧ w'.cell? ⟨b, 10 + i, none⟩ = some (.int .u64 (se : Nat)) ∧ w'.cell? ⟨b, 74, none⟩ = some (.int .i64 v.count)) := fun w' hw => by
      obtain ⟨-, -, ht, -, -⟩ := KK.out w' hw
      have a1 := ht.given hi
      have a2 := ht.shown hi
      have a3 := ht.seals hi
      rw [hg] at a1
      rw [hsh] at a2
      rw [hse] at a3
      exact ⟨a1, a2, a3, ht.count⟩
    have HS := hide hS
    have hct := h.ok.count
    have HX := hide hx.len
    have HTB := hide (fun (w1 : World) (hw : Below W2.heap.size W2 w1) (o : Ofr) => notOwn_any (KK.out w1 hw).2.2.1 hl h1 h2 (KK.out w1 hw).1 (KK.out w1 hw).2.1 o)
    clear hb hS hx h hg hsh hse
    have r0 : ∀ nq, (W2.drewN nq).cell? ⟨p, 0, none⟩ = some (tp b) := fun nq => (KK.out _ ((Gr.refl W2).drewN nq).below).1
    have r1 : ∀ nq, (W2.drewN nq).cell? ⟨p + 1, 0, none⟩ = some (.int .i64 i) := fun nq => (KK.out _ ((Gr.refl W2).drewN nq).below).2.1
    have r2 : ∀ nq, (W2.drewN nq).cell? ⟨b, 2 + i, none⟩ = some (.bool g) := fun nq => (KG.out _ ((Gr.refl W2).drewN nq).below).1
    go_enter Try.func68, Try.ntmps68
    go_wp2_with fail
    refine (HI.out _).mono ?_
    rintro e w3 ⟨rfl, rfl⟩
    go_wp2_with fail
    go_quiet (fail)
    obtain ⟨W4, hW4⟩ : ∃ W4, w3.drewN nq = W4 := ⟨_, rfl⟩
    have HB4 : Hid (Below w3.heap.size w3 W4) := by show Below _ _ _; rw [← hW4]; exact ((Gr.refl w3).drewN nq).below
    rw [hW4]
    clear r0 r1 r2 hW4 HI m0 m1
    cases g with
    | false =>
      have HR := (KK.out _ HB4.out).2.2.2.2
      have HR := hide HR
      have HE2 : Hid (E = 6) := by show _ = _; rw [← HE.out, if_pos rfl]
      clear KG HTB
      go_wp2_with fail
      go_ret
      exact ⟨ret_int HE2.out.symm, by first | exact HR.out | (rw [← hp]; exact HR.out)⟩
    | true =>
      rw [if_neg (by decide)] at HE
      have hz : Hid (∀ nq, Below w3.heap.size w3 (W4.drewN nq)) := fun nq => HB4.out.trans (((Gr.refl W4).drewN nq).below.mono HB4.out.size)
      have r0 : ∀ nq, (W4.drewN nq).cell? ⟨p, 0, none⟩ = some (tp b) := fun nq => (KK.out _ (hz.out nq)).1
      have r1 : ∀ nq, (W4.drewN nq).cell? ⟨p + 1, 0, none⟩ = some (.int .i64 i) := fun nq => (KK.out _ (hz.out nq)).2.1
      have r2 : ∀ nq, (W4.drewN nq).cell? ⟨b, 18 + i, none⟩ = some (.bool sh) := fun nq => (KG.out _ (hz.out nq)).2.1
      go_wp2_with fail
      go_quiet (fail)
      obtain ⟨W5, hW5⟩ : ∃ W5, W4.drewN nq = W5 := ⟨_, rfl⟩
      have HB5 : Hid (Below w3.heap.size w3 W5) := by show Below _ _ _; rw [← hW5]; exact hz.out nq
      rw [hW5]
      clear r0 r1 r2 hW5 hz HB4
      cases sh with
      | true =>
        have HR := hide (KK.out _ HB5.out).2.2.2.2
        have HE2 : Hid (E = 7) := by show _ = _; rw [← HE.out, if_pos rfl]
        clear KG HTB
        go_wp2_with fail
        go_ret
        exact ⟨ret_int HE2.out.symm, by first | exact HR.out | (rw [← hp]; exact HR.out)⟩
      | false =>
        rw [if_neg (by decide)] at HE
        obtain ⟨n0, n1, -, -, HR⟩ := KK.out _ HB5.out
        obtain ⟨-, -, n3, -⟩ := KG.out _ HB5.out
        have HR := hide HR
        have HZ : Hid (∀ w', Below W5.heap.size W5 w' → Below w3.heap.size w3 w') := fun w' hw => HB5.out.trans (hw.mono HB5.out.size)
        have KC : Hid (∀ w', Below W5.heap.size W5 w' → w'.cell? ⟨p, 0, none⟩ = some (tp b) ∧ w'.cell? ⟨p + 1, 0, none⟩ = some (.int .i64 i) ∧ w'.cell? ⟨b, 10 + i, none⟩ = some (.int .u64 (se : Nat))) := fun w' hw => ⟨(KK.out _ (HZ.out _ hw)).1, (KK.out _ (HZ.out _ hw)).2.1, (KG.out _ (HZ.out _ hw)).2.2.1⟩
        have hd := (Below.refl W5.heap.size W5).drew
        have K1 := hide (KC.out _ hd)
        have C1 := hide (HS.out W5.drew (KK.out _ (HZ.out _ hd)).2.2.2.2)
        obtain ⟨bb, hbb⟩ : ∃ q, ((S : Int) != (se : Int)) = q := ⟨_, rfl⟩
        go_wp2_with fail
        go_region_held3 (fun w' => w'.cell? ⟨p, 0, none⟩ = some (tp b) ∧ w'.cell? ⟨p + 1, 0, none⟩ = some (.int .i64 i) ∧ w'.cell? ⟨b, 10 + i, none⟩ = some (.int .u64 (se : Nat)))
          (first | exact K1.out | exact KC.out _ hb6)
          (first | (go_at_call 28; (with_reducible refine C1.out.mono ?_); rintro e w6 ⟨rfl, hb6'⟩; have hb6 : Below W5.heap.size W5 w6 := hd.trans hb6'))
        have HB6 := hide (HZ.out _ hb6)
        have HR6 := hide (KK.out _ HB6.out).2.2.2.2
        clear hb6 hb6' C1 K1 KC n0 n1 n3 HR hd HS
        by_cases hse : S = se
        · have hb0 : bb = false := by rw [← hbb, hse]; simp
          rw [if_neg (fun e => e hse)] at HE
          clear hbb hse
          subst hb0
          by_cases h4 : 4 < n
          · have q4 : (4 : Int) < (n : Int) := by omega
            have HE2 : Hid (E = 3) := by show _ = _; rw [← HE.out, HX.out, if_pos h4]
            clear KG HTB h4
            go_wp2_with fail
            go_ret
            exact ⟨ret_int HE2.out.symm, by first | exact HR6.out | (rw [← hp]; exact HR6.out)⟩
          · have q4 : ¬ (4 : Int) < (n : Int) := by omega
            rw [HX.out, if_neg h4] at HE
            obtain ⟨-, -, -, hof, -⟩ := KK.out _ HB6.out
            have HCF := hide (ContainsFunc_any A n c l w6 hof hn (tp p) (tp (p + 1)) (badB lots i) (fun j _ w1 hg => HTB.out w1 (HB6.out.trans (hg.below.mono HB6.out.size)) (oA l j)))
            obtain ⟨t, ht⟩ : ∃ t, hasO (badB lots i) l = t := ⟨_, rfl⟩
            rw [ht] at HCF HE
            have H4 := hide (show n ≤ 4 by omega)
            clear hof h4 HTB ht
            go_wp2_with fail
            refine HCF.out.mono ?_
            rintro e w7 ⟨rfl, hg⟩
            have HB7 : Hid (Below w3.heap.size w3 w7) := HB6.out.trans (hg.below.mono HB6.out.size)
            have HR7 := hide (KK.out _ HB7.out).2.2.2.2
            have o0 := (KK.out _ HB7.out).1
            have o1 := (KG.out _ HB7.out).2.2.2
            clear hg HCF
            cases t with
            | true =>
              have HE2 : Hid (E = 2) := by show _ = _; rw [← HE.out, if_pos rfl]
              clear KG
              go_wp2_with fail
              go_ret
              exact ⟨ret_int HE2.out.symm, by first | exact HR7.out | (rw [← hp]; exact HR7.out)⟩
            | false =>
              rw [if_neg (by decide)] at HE
              have hcn : v.count ≤ 16 := hct
              have hn4 := H4.out
              obtain ⟨cn, hcc⟩ : ∃ cn, v.count = cn := ⟨_, rfl⟩
              rw [hcc] at o1 HE hcn
              have hw1 : IntKind.i64.wrap ((cn : Int) + (n : Int)) = ((cn + n : Nat) : Int) := by rw [IntKind.wrap_i64]; omega
              obtain ⟨tot, htt⟩ : ∃ t, cn + n = t := ⟨_, rfl⟩
              rw [htt] at hw1 HE
              clear htt hcn hn4 KG hcc
              by_cases h16 : 16 < tot
              · have q16 : (16 : Int) < (tot : Int) := by omega
                have HE2 : Hid (E = 8) := by show _ = _; rw [← HE.out, if_pos h16]
                clear h16
                go_wp2_with fail
                go_ret
                exact ⟨ret_int HE2.out.symm, by first | exact HR7.out | (rw [← hp]; exact HR7.out)⟩
              · have q16 : ¬ (16 : Int) < (tot : Int) := by omega
                have HE2 : Hid (E = 0) := by show _ = _; rw [← HE.out, if_neg h16]
                clear h16
                go_wp2_with fail
                go_ret
                exact ⟨ret_int HE2.out.symm, by first | exact HR7.out | (rw [← hp]; exact HR7.out)⟩
        · have hb0 : bb = true := by rw [← hbb]; exact bne_iff_ne.2 (by omega)
          have HE2 : Hid (E = 11) := by show _ = _; rw [← HE.out, if_pos hse]
          clear hbb hse KG HTB
          subst hb0
          go_wp2_with fail
          go_ret
          exact ⟨ret_int HE2.out.symm, by first | exact HR6.out | (rw [← hp]; exact HR6.out)⟩
  · rw [if_pos hb]
    have HI := hide (isBuyer_any buyer)
    simp only [decide_eq_false hb] at HI
    clear hb hS hx h
    go_enter Try.func68, Try.ntmps68
    go_wp2_with fail
    refine (HI.out _).mono ?_
    rintro e w3 ⟨rfl, rfl⟩
    go_wp2_with fail
    go_ret
    exact ⟨rfl, HB2.out⟩
end Go.Proofs.Ytpobfdhmggkbaaa
