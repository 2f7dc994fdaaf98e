/- antichain. -/
import Derived.Test.YtpbenjpponbjjaaGF
namespace Go.Proofs.Ytpbenjpponbjjaa
open Go.RowKit Go.Sort Go.BigFrame
def badA (l : List Gd) (i : Nat) : Bool := !validG (gA l i) || (decide (0 < i) && decide (0 ≤ cmpG (gA l (i - 1)) (gA l i)))
def antiG (l : List Gd) : Bool := (List.range l.length).all fun i => !badA l i && !((l.take i).any fun h => belowG h (gA l i))
theorem GdAt.take {B : Nat} {W : World} {A : Option Addr} {n : Nat} {l : List Gd} (h : GdAt B W A n l) {i : Nat} (hi : i ≤ n) : GdAt B W A i (l.take i) := by
  have hl := h.len
  refine ⟨by rw [List.length_take]; omega, ?_⟩
  rcases Nat.eq_zero_or_pos i with h0 | h0
  · exact .inl h0
  · rcases h.row with h1 | ⟨b, off, e, h1, h2⟩
    · omega
    · refine .inr ⟨b, off, e, h1, fun j hj => ?_⟩
      have : gA (l.take i) j = gA l j := by unfold gA; rw [List.getD_eq_getElem?_getD, List.getD_eq_getElem?_getD, List.getElem?_take, if_pos hj]
      rw [this]
      exact h2 j (by omega)
theorem anti_yes {l : List Gd} (h : ∀ j, j < l.length → badA l j = false ∧ (l.take j).any (fun h => belowG h (gA l j)) = false) : antiG l = true := by
  unfold antiG
  rw [List.all_eq_true]
  intro i hi
  obtain ⟨h1, h2⟩ := h i (List.mem_range.1 hi)
  rw [h1, h2]; rfl
theorem anti_no {l : List Gd} {i : Nat} (hi : i < l.length) (h : badA l i = true ∨ (l.take i).any (fun h => belowG h (gA l i)) = true) : antiG l = false := by
  unfold antiG
  rw [List.all_eq_false]
  refine ⟨i, List.mem_range.2 hi, ?_⟩
  rcases h with h | h <;> rw [h] <;> simp
set_option maxHeartbeats 2000000 in
theorem antichain_any (A : Option Addr) (n c : Nat) (l : List Gd) (w : World) (hx : GdAt w.heap.size w A n l) (hn : n ≤ 1000000) (hc : n ≤ c) : Calls Try.prog 76 #[.slice A n c] w fun e w' => e = .returned (.bool (antiG l)) ∧ Below w.heap.size w w' := by
  have mixed := mixedOrders
  have HX := hide hx
  have HN := hide hn
  have HCN := hide hc
  have HLEN := hide hx.len
  clear hx hn hc
  go_enter Try.func76, Try.ntmps76
  go_wp2_with fail
  go_loopw [7] (fun vi wr => ∃ i : Nat, vi = .int .i64 i ∧ i ≤ n ∧ Hid (∀ j, j < i → badA l j = false ∧ (l.take j).any (fun h => belowG h (gA l j)) = false) ∧ Hid (Below w.heap.size w wr)) (fun vi _ => n - (intOf vi).toNat)
  case atStart => exact ⟨0, rfl, Nat.zero_le _, fun j hj => absurd hj (Nat.not_lt_zero _), Below.refl _ _⟩
  case round =>
    obtain ⟨i, rfl, hi, HI, HG⟩ := hrel
    by_cases hlt : i < n
    · have hlt' : (i : Int) < (n : Int) := by omega
      obtain ⟨b, off, rfl, hb, c0, c1, c2⟩ := HX.out.at_ hlt
      have d0 := (HG.out.cell (p := ⟨b, off + i * 3, none⟩) hb).trans c0
      have d1 := (HG.out.cell (p := ⟨b, off + i * 3 + 1, none⟩) hb).trans c1
      have d2 := (HG.out.cell (p := ⟨b, off + i * 3 + 2, none⟩) hb).trans c2
      have hN := HN.out
      have HBW := hide hb
      generalize hgo : gA l i = o at d0 d1 d2
      obtain ⟨o1, o2, o3⟩ := o
      have d0 : wr.cell? ⟨b, off + i * 3, none⟩ = some (.int .i64 o1) := d0
      have d1 : wr.cell? ⟨b, off + i * 3 + 1, none⟩ = some (.int .i64 o2) := d1
      have d2 : wr.cell? ⟨b, off + i * 3 + 2, none⟩ = some (.int .i64 o3) := d2
      have HQ_ := hide (show i + 1 ≤ n by omega)
      obtain ⟨p, hp⟩ : ∃ p, wr.heap.size = p := ⟨_, rfl⟩
      obtain ⟨W1, hW1⟩ : ∃ W1, wr.alloc (.cells #[.int .i64 o1, .int .i64 o2, .int .i64 o3] 23) = W1 := ⟨_, rfl⟩
      have hb1 : Below wr.heap.size wr W1 := by rw [← hW1]; exact (Below.refl _ _).alloc (Nat.le_refl _) _
      have h1 : W1.heap[p]? = some (.cells #[.int .i64 o1, .int .i64 o2, .int .i64 o3] 23 (0, 0)) := by rw [← hW1, ← hp]; exact heap_alloc_new _ _
      have HG1 := hide (bel_next HG.out hb1)
      have HCE := hide (fun (q : BelOf W1) => box3 ((q.h.block p (Array.getElem?_eq_some_iff.1 h1).1).trans h1))
      have HLE := hide (fun j (hj : j < n) => HX.out.at_ hj)
      have HGX := hide (HX.out.take (i := i) (by omega))
      have KV := hide (fun q : BelOf W1 => bel_call q ((valid_any (o1, o2, o3) q.w')))
      have KO := hide (fun q : BelOf W1 => (over_any (some ⟨b, off, none⟩) i c (l.take i) (o1, o2, o3) q.w' (HGX.out.now (bel_next HG1.out q.h) (Nat.le_refl _)) (by omega)))
      have HBAD : Hid (badA l i = (!validG (o1, o2, o3) || (decide (0 < i) && decide (0 ≤ cmpG (gA l (i - 1)) (o1, o2, o3))))) := by unfold badA; rw [hgo]; exact rfl
      clear c0 c1 c2 hi hb hb1 h1
      go_wp2_with fail
      go_cut [28] (fun sv wx => sv = .bool (badA l i) ∧ Hid (Below W1.heap.size W1 wx))
      case first =>
        have C0 : ∀ q : BelOf W1, q.w'.cell? ⟨p, 0, none⟩ = some (.int .i64 o1) := fun q => (HCE.out q).1
        have C1 : ∀ q : BelOf W1, q.w'.cell? ⟨p, 1, none⟩ = some (.int .i64 o2) := fun q => (HCE.out q).2.1
        have C2 : ∀ q : BelOf W1, q.w'.cell? ⟨p, 2, none⟩ = some (.int .i64 o3) := fun q => (HCE.out q).2.2
        obtain ⟨vv, hvv⟩ : ∃ vv, validG (o1, o2, o3) = vv := ⟨_, rfl⟩
        rw [hvv] at KV HBAD
        cases vv with
        | false =>
          refine wp_region_quiet_bel (by assumption) (by kernel_rfl) ?_
          repeat (go_big_quiet_step (first | (go_at_call 83; with_reducible exact KV.out _)))
          refine wpQuiet_nil ?_
          rintro _ ⟨⟨wq, hq⟩, rfl⟩
          have HQ := hide hq
          clear hq
          go_wp2_with fail
          go_meet
          exact ⟨by rw [HBAD.out]; rfl, HQ⟩
        | true =>
          rcases Nat.eq_zero_or_pos i with hi0 | hi0
          · have hgt : ¬ (0 < i) := by omega
            have hgd : decide (0 < i) = false := decide_eq_false hgt
            have hb0 : Hid (badA l i = false) := hide (by rw [HBAD.out, decide_eq_false (by omega : ¬ 0 < i)]; rfl)
            clear HBAD hi0
            refine wp_region_quiet_bel (by assumption) (by kernel_rfl) ?_
            repeat (go_big_quiet_step (first | (go_at_call 83; with_reducible exact KV.out _)))
            refine wpQuiet_nil ?_
            rintro _ ⟨⟨wq, hq⟩, rfl⟩
            have HQ := hide hq
            clear hq
            go_wp2_with fail
            go_meet
            exact ⟨by rw [hb0.out], HQ⟩
          · have hgt : (0 : Int) < (i : Int) := by omega
            have hgd : decide (0 < i) = true := decide_eq_true hi0
            obtain ⟨m, hm⟩ : ∃ m : Nat, m = i - 1 := ⟨_, rfl⟩
            have hsub : ((i : Int) - 1) = (m : Int) := by omega
            have hw : wrap64 (m : Int) = (m : Int) := IntWalk.wrap64_in _ ⟨by omega, by omega⟩
            obtain ⟨b', off', he, hbb, e0, e1, e2⟩ := HLE.out m (by omega)
            injection he with he
            injection he with he1 he2
            subst he1 he2
            have hmn : (m : Int) < (n : Int) := by omega
            have hm0 : (0 : Int) ≤ (m : Int) := by omega
            have HBAD2 : Hid (badA l i = decide (0 ≤ cmpG (gA l m) (o1, o2, o3))) := hide (by rw [HBAD.out, decide_eq_true hi0, hm]; rfl)
            generalize gA l m = r at e0 e1 e2 HBAD2
            obtain ⟨r1, r2, r3⟩ := r
            have E0 : ∀ q : BelOf W1, q.w'.cell? ⟨b, off + m * 3, none⟩ = some (.int .i64 r1) := fun q => ((bel_next HG1.out q.h).cell (p := ⟨b, _, none⟩) HBW.out).trans e0
            have E1 : ∀ q : BelOf W1, q.w'.cell? ⟨b, off + m * 3 + 1, none⟩ = some (.int .i64 r2) := fun q => ((bel_next HG1.out q.h).cell (p := ⟨b, _, none⟩) HBW.out).trans e1
            have E2 : ∀ q : BelOf W1, q.w'.cell? ⟨b, off + m * 3 + 2, none⟩ = some (.int .i64 r3) := fun q => ((bel_next HG1.out q.h).cell (p := ⟨b, _, none⟩) HBW.out).trans e2
            have KC := hide (fun q : BelOf W1 => bel_call q ((compare_any (r1, r2, r3) (o1, o2, o3) q.w').mono fun _ _ ⟨h1, h2⟩ => ⟨h1, h2.below⟩))
            generalize cmpG (r1, r2, r3) (o1, o2, o3) = κ at KC HBAD2
            clear HBAD hm e0 e1 e2 hbb HLE HGX
            refine wp_region_quiet_bel (by assumption) (by kernel_rfl) ?_
            repeat (go_big_quiet_step (first | (go_at_call 83; with_reducible exact KV.out _) | (go_at_call 101; with_reducible exact KC.out _)))
            refine wpQuiet_nil ?_
            rintro _ ⟨⟨wq, hq⟩, rfl⟩
            have HQ := hide hq
            clear hq
            go_wp2_with fail
            go_meet
            exact ⟨by rw [HBAD2.out], HQ⟩
      case rest =>
        obtain ⟨rfl, HCB⟩ := hcut
        obtain ⟨w2, rfl⟩ : ∃ w2, w2 = wc := ⟨_, rfl⟩
        have HG2 := hide (bel_next HG1.out HCB.out)
        have HS : Hid (badA l i = false → (l.take i).any (fun h => belowG h (o1, o2, o3)) = false → ∀ j, j < i + 1 → badA l j = false ∧ (l.take j).any (fun h => belowG h (gA l j)) = false) := fun h h' j hj => by
          rcases Nat.lt_or_ge j i with q | q
          · exact HI.out j q
          · obtain rfl : j = i := by omega
            exact ⟨h, by rw [hgo]; exact h'⟩
        have HR : Hid (badA l i = true ∨ (l.take i).any (fun h => belowG h (o1, o2, o3)) = true → antiG l = false) := fun h => anti_no (by rw [HLEN.out]; exact hlt) (by rw [hgo]; exact h)
        generalize badA l i = bad at HS HR ⊢
        clear HBAD KV HLE HGX
        cases bad with
        | true =>
          have HR2 := hide (HR.out (Or.inl (by first | rfl | trivial)))
          go_wp2_with fail
          go_ret
          exact ⟨by rw [HR2.out]; rfl, HG2.out⟩
        | false =>
          have KO2 := hide (fun q : BelOf w2 => bel_call q (KO.out ⟨q.w', bel_next HCB.out q.h⟩))
          have C0 : ∀ q : BelOf w2, q.w'.cell? ⟨p, 0, none⟩ = some (.int .i64 o1) := fun q => (HCE.out ⟨q.w', bel_next HCB.out q.h⟩).1
          have C1 : ∀ q : BelOf w2, q.w'.cell? ⟨p, 1, none⟩ = some (.int .i64 o2) := fun q => (HCE.out ⟨q.w', bel_next HCB.out q.h⟩).2.1
          have C2 : ∀ q : BelOf w2, q.w'.cell? ⟨p, 2, none⟩ = some (.int .i64 o3) := fun q => (HCE.out ⟨q.w', bel_next HCB.out q.h⟩).2.2
          have ho1 : (0 : Int) ≤ (i : Int) := by omega
          have ho2 : (i : Int) ≤ (c : Int) := by have := HCN.out; omega
          generalize (l.take i).any (fun h => belowG h (o1, o2, o3)) = ov at HS HR KO2
          clear KO
          go_wp2_with fail
          refine wp_region_quiet_bel (by assumption) (by kernel_rfl) ?_
          repeat (go_big_quiet_step (first | (go_at_call 79; with_reducible exact KO2.out _)))
          refine wpQuiet_nil ?_
          rintro _ ⟨⟨wq, hq⟩, rfl⟩
          have HQ := hide (bel_next HG2.out hq)
          clear hq C0 C1 C2 KO2
          cases ov with
          | true =>
            have HR2 := hide (HR.out (Or.inr (by first | rfl | trivial)))
            go_wp2_with fail
            go_ret
            exact ⟨by rw [HR2.out]; rfl, HQ.out⟩
          | false =>
            have HS2 := hide (HS.out (by first | rfl | trivial) (by first | rfl | trivial))
            go_wp2_with fail
            go_roundw
            case rel => exact ⟨i + 1, by go_num, by have := HQ_.out; omega, HS2, HQ⟩
            case measure => have := HQ_.out; simp [intOf]; omega
    · obtain rfl : i = n := by omega
      have hd : ¬ (i : Int) < (i : Int) := by omega
      have HF := hide (anti_yes (l := l) (by rw [HLEN.out]; exact HI.out))
      clear hi hlt
      go_wp2_with fail
      go_ret
      exact ⟨by rw [HF.out]; rfl, HG.out⟩
end Go.Proofs.Ytpbenjpponbjjaa
