/- Contract of the specification's Made. -/
import Derived.Test.YtikfiofjhmeheaaN2
import Derived.Deep.RegionHeld3
import Derived.Deep.AppendLies
namespace Go.Proofs.Ytikfiofjhmeheaa
open Go.RowKit Go.Sort

/-- numbers in memory, nothing old has turned -/
def EndsI (w W : World) (a : Option Addr) (l : List Int) : Prop := IntsAt W.heap.size W a l.length l ∧ Below w.heap.size w W
theorem EndsI.drew {w W : World} {a : Option Addr} {l : List Int} (h : EndsI w W a l) : EndsI w W.drew a l :=
  ⟨h.1.now ((Gr.refl W).drew).below (Nat.le_refl _), h.2.trans (((Gr.refl W).drew).below.mono h.2.size)⟩
def EndsPost (w W : World) (l : List Int) (e : Ending) (w' : World) : Prop := ∃ a c, e = .returned (.slice a l.length c) ∧ EndsI w w' a l ∧ Below W.heap.size W w'
theorem refput_from {w W : World} {a : Option Addr} {c : Nat} {l : List Int} (h : EndsI w W a l) (x : Int) (hl : l.length ≤ 1000000) : Calls Try.prog 91 #[.slice a l.length c, .int .i64 x] W (EndsPost w W (insN l x)) :=
  (refput_any a l.length c x l W h.1 hl).mono fun _ _ ⟨a', c', he, ho⟩ => ⟨a', c', he, ⟨ho.ints, h.2.trans (ho.2.mono h.2.size)⟩, ho.2⟩
theorem take_succ_sp {xs : List Sp} {k : Nat} (h : k < xs.length) : xs.take (k + 1) = xs.take k ++ [(loA xs k, hiA xs k)] := by
  rw [List.take_succ_eq_append_getElem h, (loA_get h).1, (loA_get h).2]

/-- a row of spans of the call's own, and nothing old has turned -/
def OwnS (w W : World) (a : Option Addr) (c N : Nat) (out : List Sp) : Prop := out.length = N ∧ W.ownsRow w.heap.size 42 2 (.slice a N c) N (flat out) ∧ Below w.heap.size w W
theorem OwnS.nil (w : World) : OwnS w w none 0 0 [] := ⟨rfl, World.ownsRow_nil _ _ _ _, Below.refl _ _⟩
theorem OwnS.grown {w W W' : World} {a : Option Addr} {c N : Nat} {out : List Sp} (h : OwnS w W a c N out) (hg : Gr W W') : OwnS w W' a c N out :=
  ⟨h.1, h.2.1.kept (hg.grownBy none) (by cases hv : (Value.slice a N c).ownBlock with | none => exact .inl rfl | some g => exact .inr (by simp)), h.2.2.trans (hg.below.mono h.2.2.size)⟩
theorem OwnS.append {w W w1 : World} {a a' : Option Addr} {c c' N : Nat} {out : List Sp} {lo hi : Int} {t : Obj} (h : OwnS w W a c N out)
    (ho : w1.ownsRow w.heap.size 42 2 (.slice a' (N + 1) c') (N + 1) (flat out ++ [.int .i64 lo, .int .i64 hi])) (hg : (W.alloc t).drew.grownBy w1 (Value.slice a N c).ownBlock) :
    OwnS w w1 a' c' (N + 1) (out ++ [(lo, hi)]) := by
  refine ⟨by rw [List.length_append, h.1]; rfl, by rw [flat_append]; exact ho, ?_⟩
  have hb := h.2.2
  have hb2 := (hb.alloc hb.size t).trans ((((Gr.refl (W.alloc t)).drew).below).mono (by have := hb.size; simp; omega))
  exact hb2.grown hg (by have := hb2.size; exact this) (fun k e => (h.2.1.lt k e).1)
theorem OwnS.set {w W : World} {g c p : Nat} {out : List Sp} {v : Int} (h : OwnS w W (some ⟨g, 0, none⟩) c (p + 1) out) (hg : w.heap.size ≤ g) : OwnS w (W.setCell ⟨g, p * 2 + 1, none⟩ (.int .i64 v)) (some ⟨g, 0, none⟩) c (p + 1) (out.set p (loA out p, v)) := by
  obtain ⟨h1, h2⟩ := h.2.1.stored (p * 2 + 1) (.int .i64 v)
  refine ⟨by rw [List.length_set]; exact h.1, ?_, h.2.2.setCell (by exact hg) _⟩
  rw [flat_set out (loA out p, v) p (by rw [h.1]; omega) rfl]
  exact h1
theorem piece_nil (u v : Int) : pieceL [] u v = [] ++ [(u, v)] := by simp [pieceL]
theorem piece_set {out : List Sp} {p : Nat} {u v : Int} (h : out.length = p + 1) (hu : hiA out p = u) : pieceL out u v = out.set p (loA out p, v) := by
  have hne : out ≠ [] := fun e => by rw [e] at h; simp at h
  unfold pieceL
  rw [h, Nat.add_sub_cancel, if_pos ⟨hne, hu⟩]
theorem piece_app {out : List Sp} {p : Nat} {u v : Int} (h : out.length = p + 1) (hu : hiA out p ≠ u) : pieceL out u v = out ++ [(u, v)] := by
  unfold pieceL
  rw [h, Nat.add_sub_cancel, if_neg (fun hh => hu hh.2)]
/-- what Made leaves -/
def MadePost (w : World) (out : List Sp) (e : Ending) (w' : World) : Prop := ∃ a c, e = .returned (.slice a out.length c) ∧ OwnS w w' a c out.length out

set_option maxHeartbeats 8000000 in
set_option maxRecDepth 100000 in
theorem made_any (kind : Int) (hk : kind = 0 ∨ kind = 1 ∨ kind = 2) (A A' : Option Addr) (n cap m cap' : Nat) (xs ys : List Sp) (w : World) (hx : SpansAt w.heap.size w A n xs) (hy : SpansAt w.heap.size w A' m ys) (hn : n ≤ 10000) (hm : m ≤ 10000) :
    Calls Try.prog 63 #[.int .i64 kind, .slice A n cap, .slice A' m cap'] w (MadePost w (madeL kind xs ys)) := by
  have mixed := mixedOrders
  obtain ⟨i0, hi0, hz0, hz1, hz2⟩ := info_parts info42
  have HX := hide hx
  have HY := hide hy
  have HKI := hide hk
  clear hx hy hk
  go_enter Try.func63, Try.ntmps63
  go_wp2
  go_loopw [7, 8] (fun ve vi wr => ∃ (i : Nat) (a : Option Addr) (c : Nat) (u : List Int), vi = .int .i64 i ∧ ve = .slice a u.length c ∧ i ≤ n ∧ u.length ≤ 0 + 2 * i ∧ Hid (endsTo [] (xs.take i) = u) ∧ Hid (EndsI w wr a u)) (fun _ vi _ => n - (intOf vi).toNat)
  case atStart => exact ⟨0, none, 0, [], rfl, rfl, Nat.zero_le _, Nat.le_refl _, rfl, ⟨rfl, .inl rfl⟩, Below.refl _ _⟩
  case round =>
    obtain ⟨k, a, c, l, rfl, rfl, hk, hl, HE, HI⟩ := hrel
    by_cases hlt : k < n
    · as_aux_lemma =>
      have hlt' : (k : Int) < (n : Int) := by omega
      obtain ⟨b, off, rfl, hb, c0, c1⟩ := HX.out.at_ hlt
      have e0 := (HI.out.2.cell (p := ⟨b, off + k * 2, none⟩) hb).trans c0
      have e1 := (HI.out.2.cell (p := ⟨b, off + k * 2 + 1, none⟩) hb).trans c1
      obtain ⟨l1, hl1⟩ : ∃ l1, l1 = insN l (loA xs k) := ⟨_, rfl⟩
      have HP1 := hide (refput_from (c := c) HI.out.drew (loA xs k) (by omega))
      rw [← hl1] at HP1
      have hll : l1.length ≤ 0 + 2 * k + 1 := by rw [hl1]; have := insN_length l (loA xs k); omega
      have HL1 := hide hl1
      have hbw : b < wr.heap.size := by have := HI.out.2.size; omega
      have HE0 := hide e0
      have HE1 := hide e1
      clear hl1 c0 c1
      go_wp2_with fail
      go_region_held3 (fun w' => w'.cell? ⟨b, off + k * 2, none⟩ = some (.int .i64 (loA xs k)) ∧ w'.cell? ⟨b, off + k * 2 + 1, none⟩ = some (.int .i64 (hiA xs k)))
        (first | go_keep | exact ⟨(hB1.cell (p := ⟨b, off + k * 2, none⟩) hbw).trans HE0.out, (hB1.cell (p := ⟨b, off + k * 2 + 1, none⟩) hbw).trans HE1.out⟩ | exact ⟨(hB2.cell (p := ⟨b, off + k * 2, none⟩) hbw).trans HE0.out, (hB2.cell (p := ⟨b, off + k * 2 + 1, none⟩) hbw).trans HE1.out⟩)
        (first | (go_at_call 91; (with_reducible refine HP1.out.mono ?_); rintro e w2 ⟨a1, c1, rfl, hI1, hB1⟩) | (go_at_call 91; (with_reducible refine (refput_from hI1 (hiA xs k) (by omega)).mono ?_); rintro e w3 ⟨a2, c2, rfl, hI2, hB3⟩; have hB2 := hB1.trans (hB3.mono hB1.size)))
      go_wp2
      go_roundw
      case rel => exact ⟨k + 1, a2, c2, _, by go_num, rfl, by omega, by have := insN_length l1 (hiA xs k); omega, by rw [take_succ_sp (by rw [HX.out.1]; exact hlt), endsTo_snoc, HE.out, HL1.out]; rfl, hI2⟩
      case measure => simp [intOf]; omega
    · obtain rfl : k = n := by omega
      have hE := HE.out
      rw [List.take_of_length_le (by rw [HX.out.1]; exact Nat.le_refl _)] at hE
      have HL0 := hide hE
      clear hE HE hlt hk
      go_wp2
      go_loopw [7, 9] (fun ve vi wr => ∃ (i : Nat) (a : Option Addr) (c : Nat) (u : List Int), vi = .int .i64 i ∧ ve = .slice a u.length c ∧ i ≤ m ∧ u.length ≤ 2 * k + 2 * i ∧ Hid (endsTo l (ys.take i) = u) ∧ Hid (EndsI w wr a u)) (fun _ vi _ => m - (intOf vi).toNat)
      case atStart => exact ⟨0, a, c, l, rfl, rfl, Nat.zero_le _, by omega, rfl, HI⟩
      case round =>
        clear HI
        obtain ⟨j, a8, c8, lj, rfl, rfl, hj, hlj, HE, HI⟩ := hrel
        by_cases hlt : j < m
        · as_aux_lemma =>
          have hlt' : (j : Int) < (m : Int) := by omega
          obtain ⟨b, off, rfl, hb, c0, c1⟩ := HY.out.at_ hlt
          have e0 := (HI.out.2.cell (p := ⟨b, off + j * 2, none⟩) hb).trans c0
          have e1 := (HI.out.2.cell (p := ⟨b, off + j * 2 + 1, none⟩) hb).trans c1
          obtain ⟨l1, hl1⟩ : ∃ l1, l1 = insN lj (loA ys j) := ⟨_, rfl⟩
          have HP1 := hide (refput_from (c := c8) HI.out.drew (loA ys j) (by omega))
          rw [← hl1] at HP1
          have hll : l1.length ≤ 2 * k + 2 * j + 1 := by rw [hl1]; have := insN_length lj (loA ys j); omega
          have HL1 := hide hl1
          have hbw : b < wr.heap.size := by have := HI.out.2.size; omega
          have HE0 := hide e0
          have HE1 := hide e1
          clear hl1 c0 c1
          go_wp2_with fail
          go_region_held3 (fun w' => w'.cell? ⟨b, off + j * 2, none⟩ = some (.int .i64 (loA ys j)) ∧ w'.cell? ⟨b, off + j * 2 + 1, none⟩ = some (.int .i64 (hiA ys j)))
            (first | go_keep | exact ⟨(hB1.cell (p := ⟨b, off + j * 2, none⟩) hbw).trans HE0.out, (hB1.cell (p := ⟨b, off + j * 2 + 1, none⟩) hbw).trans HE1.out⟩ | exact ⟨(hB2.cell (p := ⟨b, off + j * 2, none⟩) hbw).trans HE0.out, (hB2.cell (p := ⟨b, off + j * 2 + 1, none⟩) hbw).trans HE1.out⟩)
            (first | (go_at_call 91; (with_reducible refine HP1.out.mono ?_); rintro e w2 ⟨a1, c1, rfl, hI1, hB1⟩) | (go_at_call 91; (with_reducible refine (refput_from hI1 (hiA ys j) (by omega)).mono ?_); rintro e w3 ⟨a9, c9, rfl, hI2, hB3⟩; have hB2 := hB1.trans (hB3.mono hB1.size)))
          go_wp2
          go_roundw
          case rel => exact ⟨j + 1, a9, c9, _, by go_num, rfl, by omega, by have := insN_length l1 (hiA ys j); omega, by rw [take_succ_sp (by rw [HY.out.1]; exact hlt), endsTo_snoc, HE.out, HL1.out]; rfl, hI2⟩
          case measure => simp [intOf]; omega
        · obtain rfl : j = m := by omega
          have hE2 : endsOf xs ys = lj := by
            have := HE.out
            rw [List.take_of_length_le (by rw [HY.out.1]; exact Nat.le_refl _)] at this
            rw [← this, ← HL0.out]
            rfl
          have HEL := hide hE2
          have HB0 := hide HI.out.2
          have HIA := hide HI.out.1
          clear hE2 HE HI HL0 hlt hj
          obtain ⟨wo, hwo⟩ : ∃ wo : World, wo = wr := ⟨_, rfl⟩
          subst hwo
          go_wp2
          go_loopw [10, 11] (fun vo vi wr => ∃ (q : Nat) (a : Option Addr) (c N : Nat) (out : List Sp), vi = .int .i64 q ∧ vo = .slice a N c ∧ q ≤ lj.length - 1 ∧ N ≤ q ∧ Hid (madeTo (fun x => keepB kind (inB xs x) (inB ys x)) lj q = out) ∧ Hid (OwnS wo wr a c N out)) (fun _ vi _ => lj.length - (intOf vi).toNat)
          case atStart => exact ⟨0, none, 0, 0, [], rfl, rfl, Nat.zero_le _, Nat.le_refl _, rfl, OwnS.nil wo⟩
          case round =>
            obtain ⟨q, a, c, N, out, rfl, rfl, hq, hN, HM, HO⟩ := hrel
            obtain ⟨q1, hq1⟩ : ∃ q1 : Nat, q1 = q + 1 := ⟨_, rfl⟩
            have eq1 : (q : Int) + 1 = (q1 : Int) := by omega
            by_cases hlt : q1 < lj.length
            · have hlt' : (q1 : Int) < (lj.length : Int) := by omega
              have hltq : (q : Int) < (lj.length : Int) := by omega
              obtain ⟨b, off, rfl, hb, c0⟩ := HIA.out.at_ (k := q) (by omega)
              have c1 : wo.cell? ⟨b, off + q1, none⟩ = some (.int .i64 (iA lj q1)) := by
                obtain ⟨b', off', e, _, h1⟩ := HIA.out.at_ hlt
                injection e with e
                injection e with e1 e2
                subst e1; subst e2
                exact h1
              have hbw : b < wr.heap.size := by have := HO.out.2.2.size; omega
              have e0 := (HO.out.2.2.cell (p := ⟨b, off + q, none⟩) hb).trans c0
              have e1 := (HO.out.2.2.cell (p := ⟨b, off + q1, none⟩) hb).trans c1
              have HS : Hid (madeTo (fun x => keepB kind (inB xs x) (inB ys x)) lj q1 = if keepB kind (inB xs (iA lj q)) (inB ys (iA lj q)) then pieceL out (iA lj q) (iA lj q1) else out) := by
                subst hq1
                show madeTo _ lj (q + 1) = _
                unfold madeTo
                rw [HM.out]
              have HE1 := hide e1
              have HQ1 := hide hq1
              clear c0 c1 hq1
              generalize iA lj q = u at e0 HS
              generalize iA lj q1 = v at e1 HE1 HS
              have hbel : Below w.heap.size w wr := HB0.out.trans (HO.out.2.2.mono HB0.out.size)
              obtain ⟨kb, hkb⟩ : ∃ kb, keepB kind (inB xs u) (inB ys u) = kb := ⟨_, rfl⟩
              have EC1 : Hid (∀ (p : Nat) (os : Array Obj), Calls Try.prog 77 #[.slice A k cap, .int .i64 u] (grow (wr.drewN p) os) fun e w'' => e = .returned (.bool (inB xs u)) ∧ ∃ p' : GrownBy, w'' = grow (wr.drewN p'.n) p'.os) := fun p os =>
                gr_call ((in_any A k cap u xs _ (HX.out.now (hbel.trans (((grown_gr wr p os).below).mono hbel.size)) (Nat.le_refl _)) (by omega)).mono fun _ _ ⟨he, hw⟩ => ⟨he, by rw [← hw]; exact Gr.refl _⟩)
              have EC2 : Hid (∀ (p : Nat) (os : Array Obj), Calls Try.prog 77 #[.slice A' j cap', .int .i64 u] (grow (wr.drewN p) os) fun e w'' => e = .returned (.bool (inB ys u)) ∧ ∃ p' : GrownBy, w'' = grow (wr.drewN p'.n) p'.os) := fun p os =>
                gr_call ((in_any A' j cap' u ys _ (HY.out.now (hbel.trans (((grown_gr wr p os).below).mono hbel.size)) (Nat.le_refl _)) (by omega)).mono fun _ _ ⟨he, hw⟩ => ⟨he, by rw [← hw]; exact Gr.refl _⟩)
              have EC3 : Hid (∀ (p : Nat) (os : Array Obj), Calls Try.prog 92 #[.int .i64 kind, .bool (inB xs u), .bool (inB ys u)] (grow (wr.drewN p) os) fun e w'' => e = .returned (.bool kb) ∧ ∃ p' : GrownBy, w'' = grow (wr.drewN p'.n) p'.os) := fun p os =>
                gr_call ((keeps_any kind (inB xs u) (inB ys u) _ HKI.out).mono fun _ _ ⟨he, hw⟩ => ⟨by rw [he, hkb], by rw [← hw]; exact Gr.refl _⟩)
              have HKB := hide hkb
              have l1 := fun p os => cell_grown (n := p) (os := os) (a := ⟨b, off + q, none⟩) hbw e0
              clear hkb hbel
              go_wp2_with fail
              refine wp_region_quiet_grown (by assumption) (by kernel_rfl) ?_
              repeat (first | go_big_quiet_step ((first | (go_at_call 92; with_reducible exact EC3.out _ _) | (go_at_call 77; with_reducible exact EC1.out _ _) | (go_at_call 77; with_reducible exact EC2.out _ _))) | quiet_step ((first | (go_at_call 92; with_reducible exact EC3.out _ _) | (go_at_call 77; with_reducible exact EC1.out _ _) | (go_at_call 77; with_reducible exact EC2.out _ _))))
              refine wpQuiet_nil ?_
              intro _ hw'
              obtain ⟨⟨nq, osq⟩, hw''⟩ := hw'
              subst hw''
              have HO2 := hide (HO.out.grown (grown_gr wr nq osq))
              have d0 := l1 nq osq
              have d1 := cell_grown (n := nq) (os := osq) (a := ⟨b, off + q1, none⟩) hbw e1
              have hbw2 : b < (grow (wr.drewN nq) osq).heap.size := by rw [size_grow]; show b < wr.heap.size + _; omega
              clear l1 EC1 EC2 EC3 e0 e1 HE1 HO hbw
              generalize grow (wr.drewN nq) osq = W at HO2 d0 d1 hbw2 ⊢
              clear nq osq
              cases kb
              · have HS2 : Hid (madeTo (fun x => keepB kind (inB xs x) (inB ys x)) lj q1 = out) := by show _ = out; rw [HS.out, HKB.out]; rfl
                go_wp2
                go_roundw
                case rel => exact ⟨q1, a, c, N, out, rfl, rfl, by omega, by have := HQ1.out; omega, HS2, HO2⟩
                case measure => have := HQ1.out; simp [intOf]; omega
              · have HS2 : Hid (madeTo (fun x => keepB kind (inB xs x) (inB ys x)) lj q1 = pieceL out u v) := by show _ = pieceL out u v; rw [HS.out, HKB.out]; rfl
                have hout := HO2.out.1
                have hwb : wo.heap.size ≤ W.heap.size := HO2.out.2.2.size
                have hne : (Value.slice a N c).ownBlock ≠ some b := fun e => by have := (HO2.out.2.1.lt b e).1; omega
                rcases Nat.eq_zero_or_pos N with rfl | hpos
                · as_aux_lemma =>
                  have ho : out = [] := List.eq_nil_of_length_eq_zero hout
                  have HS3 : Hid (madeTo (fun x => keepB kind (inB xs x) (inB ys x)) lj q1 = out ++ [(u, v)]) := by show _ = out ++ [(u, v)]; rw [HS2.out, ho]; exact piece_nil u v
                  clear ho hout
                  go_wp2_with fail
                  go_quiet (fail)
                  have HO3 := hide (HO2.out.grown ((Gr.refl W).drewN nq))
                  have f0 : (W.drewN nq).cell? ⟨b, off + q, none⟩ = some (.int .i64 u) := d0
                  have f1 : (W.drewN nq).cell? ⟨b, off + q1, none⟩ = some (.int .i64 v) := d1
                  have hbw3 : b < (W.drewN nq).heap.size := hbw2
                  have hwb3 : wo.heap.size ≤ (W.drewN nq).heap.size := hwb
                  clear d0 d1 hbw2 HO2 hwb
                  generalize W.drewN nq = W2 at HO3 f0 f1 hbw3 hwb3 ⊢
                  have HF0 := hide f0
                  have HF1 := hide f1
                  have hwq : IntKind.i64.wrap ((q : Int) + 1) = (q1 : Int) := by rw [IntKind.wrap_i64]; omega
                  have hwq2 : IntKind.i64.wrap (q1 : Int) = (q1 : Int) := by rw [IntKind.wrap_i64]; omega
                  have hq10 : (0 : Int) ≤ (q1 : Int) := Int.natCast_nonneg _
                  go_wp2_with fail
                  go_region_held3 (fun w' => w'.cell? ⟨b, off + q, none⟩ = some (.int .i64 u) ∧ w'.cell? ⟨b, off + q1, none⟩ = some (.int .i64 v))
                    (first | go_keep | exact ⟨(hgrow.cell_far ⟨b, off + q, none⟩ (by simp; omega) (Ne.symm hne)).trans ((World.cell?_alloc_lt W2 _ ⟨b, off + q, none⟩ hbw3).trans HF0.out), (hgrow.cell_far ⟨b, off + q1, none⟩ (by simp; omega) (Ne.symm hne)).trans ((World.cell?_alloc_lt W2 _ ⟨b, off + q1, none⟩ hbw3).trans HF1.out)⟩)
                    ((refine step_append_lies _ (by rfl) _ _ _ (by rfl) wo.heap.size 42 i0 _ 2 16 Try.underlying22 hi0 hz0 hz1 hz2 rfl (by omega) (.slice a 0 c) 0 (flat out) (by rfl) ((HO3.out.2.1.alloc _).drew) ⟨W2.heap.size, 0, none⟩ 1 1 [.int .i64 u, .int .i64 v] (by rfl) (by rfl) (World.news_of_block (cs := #[.int .i64 u, .int .i64 v]) (t := 42) (fr := (0, 0)) (heap_alloc_new W2 _)) (by simp [Value.oneCell']) (by omega) (by unfold maxLen; omega) (by omega) (by simp; omega) (W2.heap.size + 1) (by simp) ?_; intro gg c2 w1 hown1 hgrow hat hlt1))
                  go_wp2
                  go_roundw
                  case rel => exact ⟨q1, some ⟨gg, 0, none⟩, c2, 0 + 1, out ++ [(u, v)], rfl, rfl, by omega, by have := HQ1.out; omega, HS3, HO3.out.append hown1 hgrow⟩
                  case measure => have := HQ1.out; simp [intOf]; omega
                · as_aux_lemma =>
                  obtain ⟨p, rfl⟩ : ∃ p, N = p + 1 := ⟨N - 1, by omega⟩
                  obtain ⟨g, c', he, hg1, hg2⟩ := own_row HO2.out.2.1 (by omega)
                  injection he with he1 he2 he3
                  subst he1; subst he3
                  have hpl : p < out.length := by omega
                  have hce := HO2.out.2.1.cellAt (p * 2 + 1) (by omega)
                  rw [(flat_get out p hpl).2] at hce
                  have hgb : g ≠ b := by omega
                  have hw1 : IntKind.i64.wrap ((p : Int) + 1 - 1) = (p : Int) := by rw [IntKind.wrap_i64]; omega
                  have hpp : (p : Int) < (p : Int) + 1 := by omega
                  have hpp0 : decide ((0 : Int) < (p : Int) + 1) = true := decide_eq_true (by omega)
                  have hpp1 : decide ((p : Int) + 1 > 0) = true := decide_eq_true (by omega)
                  have E0 : ∀ nq, (W.drewN nq).cell? ⟨b, off + q, none⟩ = some (.int .i64 u) := fun _ => d0
                  have E2 : ∀ nq, (W.drewN nq).cell? ⟨g, p * 2 + 1, none⟩ = some (.int .i64 (hiA out p)) := fun _ => hce
                  have HOUT := hide hout
                  clear hout hce
                  by_cases hh : hiA out p = u
                  · have hd : (hiA out p == u) = true := by simp [hh]
                    have HS3 : Hid (madeTo (fun x => keepB kind (inB xs x) (inB ys x)) lj q1 = out.set p (loA out p, v)) := by show _ = out.set p _; rw [HS2.out]; exact piece_set HOUT.out hh
                    clear hh
                    go_wp2_with fail
                    go_quiet (fail)
                    have HO3 := hide (HO2.out.grown ((Gr.refl W).drewN nq))
                    have f1 : (W.drewN nq).cell? ⟨b, off + q1, none⟩ = some (.int .i64 v) := d1
                    have f2 := E2 nq
                    have f3 := HO3.out.2.1.frozenAt (p * 2 + 1)
                    clear d0 d1 hbw2 HO2 hwb E0 E2
                    generalize W.drewN nq = W2 at HO3 f1 f2 f3 ⊢
                    go_wp2
                    go_roundw
                    case rel => exact ⟨q1, some ⟨g, 0, none⟩, c, p + 1, out.set p (loA out p, v), rfl, rfl, by omega, by have := HQ1.out; omega, HS3, HO3.out.set hg1⟩
                    case measure => have := HQ1.out; simp [intOf]; omega
                  · have hd : (hiA out p == u) = false := by simp [hh]
                    have HS3 : Hid (madeTo (fun x => keepB kind (inB xs x) (inB ys x)) lj q1 = out ++ [(u, v)]) := by show _ = out ++ [(u, v)]; rw [HS2.out]; exact piece_app HOUT.out hh
                    clear hh
                    go_wp2_with fail
                    go_quiet (fail)
                    have HO3 := hide (HO2.out.grown ((Gr.refl W).drewN nq))
                    have f0 : (W.drewN nq).cell? ⟨b, off + q, none⟩ = some (.int .i64 u) := d0
                    have f1 : (W.drewN nq).cell? ⟨b, off + q1, none⟩ = some (.int .i64 v) := d1
                    have hbw3 : b < (W.drewN nq).heap.size := hbw2
                    have hwb3 : wo.heap.size ≤ (W.drewN nq).heap.size := hwb
                    clear d0 d1 hbw2 HO2 hwb E0 E2
                    generalize W.drewN nq = W2 at HO3 f0 f1 hbw3 hwb3 ⊢
                    have HF0 := hide f0
                    have HF1 := hide f1
                    have hwq : IntKind.i64.wrap ((q : Int) + 1) = (q1 : Int) := by rw [IntKind.wrap_i64]; omega
                    have hwq2 : IntKind.i64.wrap (q1 : Int) = (q1 : Int) := by rw [IntKind.wrap_i64]; omega
                    have hq10 : (0 : Int) ≤ (q1 : Int) := Int.natCast_nonneg _
                    go_wp2_with fail
                    go_region_held3 (fun w' => w'.cell? ⟨b, off + q, none⟩ = some (.int .i64 u) ∧ w'.cell? ⟨b, off + q1, none⟩ = some (.int .i64 v))
                      (first | go_keep | exact ⟨(hgrow.cell_far ⟨b, off + q, none⟩ (by simp; omega) (Ne.symm hne)).trans ((World.cell?_alloc_lt W2 _ ⟨b, off + q, none⟩ hbw3).trans HF0.out), (hgrow.cell_far ⟨b, off + q1, none⟩ (by simp; omega) (Ne.symm hne)).trans ((World.cell?_alloc_lt W2 _ ⟨b, off + q1, none⟩ hbw3).trans HF1.out)⟩)
                      ((refine step_append_lies _ (by rfl) _ _ _ (by rfl) wo.heap.size 42 i0 _ 2 16 Try.underlying22 hi0 hz0 hz1 hz2 rfl (by omega) (.slice (some ⟨g, 0, none⟩) (p + 1) c) (p + 1) (flat out) (by rfl) ((HO3.out.2.1.alloc _).drew) ⟨W2.heap.size, 0, none⟩ 1 1 [.int .i64 u, .int .i64 v] (by rfl) (by rfl) (World.news_of_block (cs := #[.int .i64 u, .int .i64 v]) (t := 42) (fr := (0, 0)) (heap_alloc_new W2 _)) (by simp [Value.oneCell']) (by omega) (by unfold maxLen; omega) (by omega) (by simp; omega) (W2.heap.size + 1) (by simp) ?_; intro gg c2 w1 hown1 hgrow hat hlt1))
                    go_wp2
                    go_roundw
                    case rel => exact ⟨q1, some ⟨gg, 0, none⟩, c2, (p + 1) + 1, out ++ [(u, v)], rfl, rfl, by omega, by have := HQ1.out; omega, HS3, HO3.out.append hown1 hgrow⟩
                    case measure => have := HQ1.out; simp [intOf]; omega
            · have hql : q = lj.length - 1 := by have := hq1; omega
              have HF : Hid (madeL kind xs ys = out) := by show madeL kind xs ys = out; unfold madeL; rw [HEL.out, ← hql]; exact HM.out
              clear hql hq1
              go_wp2
              go_ret
              unfold MadePost
              rw [HF.out, HO.out.1]
              exact ⟨a, c, rfl, HO.out.1, own_base HO.out.2.1 (by have := HB0.out.size; omega), HB0.out.trans (HO.out.2.2.mono HB0.out.size)⟩

    end Go.Proofs.Ytikfiofjhmeheaa
