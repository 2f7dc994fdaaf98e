/- Contracts of resize, Grow and Shrink. -/
import Derived.Test.YtikfiofjhmeheaaN7
namespace Go.Proofs.Ytikfiofjhmeheaa
open Go.RowKit Go.Sort

theorem OwnS.below {w W W' : World} {a : Option Addr} {c N : Nat} {out : List Sp} (h : OwnS w W a c N out) (hb : Below W.heap.size W W') : OwnS w W' a c N out :=
  ⟨h.1, h.2.1.kept (show W.grownBy W' none from ⟨hb.os, hb.tape, hb.output, hb.size, fun k hk _ => hb.block k hk⟩) (by cases hv : (Value.slice a N c).ownBlock with | none => exact .inl rfl | some g => exact .inr (by simp)), h.2.2.trans (hb.mono h.2.2.size)⟩
theorem OwnS.put {w W W' : World} {a a' : Option Addr} {c c' N : Nat} {out ys : List Sp} (h : OwnS w W a c N out) (ho : W'.ownsRow w.heap.size 42 2 (.slice a' ys.length c') ys.length (flat ys)) (hg : W.grownBy W' (Value.slice a N c).ownBlock) : OwnS w W' a' c' ys.length ys :=
  ⟨rfl, ho, h.2.2.grown hg h.2.2.size (fun j e => (h.2.1.lt j e).1)⟩

/-- what is asked of the function that changes a span -/
def ChangeCalls (w0 : World) (g : Nat) (cb : Array Value) (f : Sp → Sp) : Prop :=
  ∀ (a b : Int) (W : World), Below w0.heap.size w0 W → okB a b = true → Calls Try.prog g (#[.agg #[.int .i64 a, .int .i64 b]] ++ cb) W fun e w' => e = .returned (.agg #[.int .i64 (f (a, b)).1, .int .i64 (f (a, b)).2]) ∧ Below W.heap.size W w'

/-- is the set one, and the tolerance within its limits? -/
def tolB (xs : List Sp) (r : Int) : Bool := setB xs && decide (0 ≤ r ∧ r ≤ 1099511627776)
def tolV (f : Sp → Sp) (xs : List Sp) (r : Int) : List Sp := if tolB xs r then resTo f xs else []
def tolE (xs : List Sp) (r : Int) : Int := if tolB xs r then 0 else 2
theorem tol_no {f : Sp → Sp} {xs : List Sp} {r : Int} {w w' : World} (h : tolB xs r = false) (hb : Below w.heap.size w w') : SetPost (tolE xs r) (tolV f xs r) w (.returned (.tuple #[.slice none 0 0, .int .i64 2])) w' := by
  unfold tolE tolV
  rw [h]
  exact setpost_nil hb

set_option maxHeartbeats 4000000 in
set_option maxRecDepth 100000 in
theorem resize_any (g : Nat) (cb : Array Value) (f : Sp → Sp) (A : Option Addr) (n cap : Nat) (r : Int) (xs : List Sp) (w : World) (eg : ∀ args w, (callFunc g args).run Try.prog w = .ok (.enter g args) w) (hch : 0 ≤ r ∧ r ≤ 1099511627776 → ChangeCalls w g cb f) (hx : SpansAt w.heap.size w A n xs) :
    Calls Try.prog 79 #[.slice A n cap, .int .i64 r, .func (.func g) #[] cb] w (SetPost (tolE xs r) (tolV f xs r) w) := by
  have mixed := mixedOrders
  have HX := hide hx
  have HC := hide hch
  have HV := hide (Valid_any A n cap xs w hx)
  clear hx hch
  cases hv : setB xs
  · have HP : Hid (∀ w', Below w.heap.size w w' → SetPost (tolE xs r) (tolV f xs r) w (.returned (.tuple #[.slice none 0 0, .int .i64 2])) w') := fun w' hb => tol_no (by unfold tolB; rw [hv]; rfl) hb
    go_enter Try.func79, Try.ntmps79
    go_wp2_with (go_at_call 23; refine HV.out.mono ?_; rintro e w2 ⟨rfl, hG⟩)
    go_ret2
    exact HP.out _ hG.below
  · by_cases h0 : r < 0
    · have HP : Hid (∀ w', Below w.heap.size w w' → SetPost (tolE xs r) (tolV f xs r) w (.returned (.tuple #[.slice none 0 0, .int .i64 2])) w') := fun w' hb => tol_no (by unfold tolB; rw [hv, decide_eq_false (by omega)]; rfl) hb
      go_enter Try.func79, Try.ntmps79
      go_wp2_with (go_at_call 23; refine HV.out.mono ?_; rintro e w2 ⟨rfl, hG⟩)
      go_ret2
      exact HP.out _ hG.below
    · by_cases h1 : r > 1099511627776
      · have HP : Hid (∀ w', Below w.heap.size w w' → SetPost (tolE xs r) (tolV f xs r) w (.returned (.tuple #[.slice none 0 0, .int .i64 2])) w') := fun w' hb => tol_no (by unfold tolB; rw [hv, decide_eq_false (by omega)]; rfl) hb
        go_enter Try.func79, Try.ntmps79
        go_wp2_with (go_at_call 23; refine HV.out.mono ?_; rintro e w2 ⟨rfl, hG⟩)
        go_ret2
        exact HP.out _ hG.below
      · have HT : Hid (tolB xs r = true) := by show tolB xs r = true; unfold tolB; rw [hv, decide_eq_true (by omega)]; rfl
        have HS := hide (setB_true hv)
        go_enter Try.func79, Try.ntmps79
        go_wp2_with (go_at_call 23; refine HV.out.mono ?_; rintro e w2 ⟨rfl, hG⟩)
        have HG := hide hG
        clear hG HV
        go_loopw [8, 25] (fun vo vi wr => ∃ (k : Nat) (a : Option Addr) (c N : Nat) (out : List Sp), k ≤ n ∧ vi = .int .i64 k ∧ vo = .slice a N c ∧ N ≤ k ∧ Hid (resTo f (xs.take k) = out) ∧ Hid (OwnS w wr a c N out)) (fun _ vi _ => n - (intOf vi).toNat)
        case atStart => exact ⟨0, none, 0, 0, [], Nat.zero_le _, rfl, rfl, Nat.le_refl _, rfl, (OwnS.nil w).below HG.out.below⟩
        case round =>
          obtain ⟨k, a, c, N, out, hk, rfl, rfl, hN, HR, HO⟩ := hrel
          have hn : n ≤ 128 := by have := HS.out.1; have := HX.out.1; omega
          by_cases hlt : k < n
          · have hlt' : (k : Int) < (n : Int) := by omega
            obtain ⟨b, off, rfl, hb, c0, c1⟩ := HX.out.at_ hlt
            have e0 := (HO.out.2.2.cell (p := ⟨b, off + k * 2, none⟩) hb).trans c0
            have e1 := (HO.out.2.2.cell (p := ⟨b, off + k * 2 + 1, none⟩) hb).trans c1
            have HS2 : Hid (resTo f (xs.take (k + 1)) = resS f out (loA xs k, hiA xs k)) := by show resTo f (xs.take (k + 1)) = _; rw [take_succ_sp (by rw [HX.out.1]; exact hlt), resTo_snoc, HR.out]
            have HOK : Hid (okB (loA xs k) (hiA xs k) = true) := (HS.out.2 k (by rw [HX.out.1]; exact hlt)).1
            clear c0 c1
            generalize loA xs k = x at e0 HS2 HOK
            generalize hiA xs k = y at e1 HS2 HOK
            have HB1 := hide (HO.out.2.2.alloc HO.out.2.2.size (.cells #[.int .i64 x, .int .i64 y] 42))
            have HO1 := hide (HO.out.below ((Below.refl _ _).alloc (Nat.le_refl _) (.cells #[.int .i64 x, .int .i64 y] 42)))
            go_wp2_with fail
            refine (HC.out ⟨by omega, by omega⟩ x y _ HB1.out HOK.out).mono ?_
            rintro e w3 ⟨rfl, hb3⟩
            have HO3 := hide (HO1.out.below hb3)
            obtain ⟨u, v, hu⟩ : ∃ u v, f (x, y) = (u, v) := ⟨_, _, rfl⟩
            rw [hu]
            have HU := hide hu
            clear hb3 HB1 HO1 hu
            have HO4 := hide (HO3.out.below ((Below.refl _ _).alloc (Nat.le_refl _) (.cells #[.int .i64 u, .int .i64 v] 42)))
            by_cases huv : u < v
            · have hd : decide (u < v) = true := decide_eq_true huv
              have HS3 : Hid (resTo f (xs.take (k + 1)) = putL out (u, v)) := by show _ = putL out (u, v); rw [HS2.out]; unfold resS; rw [HU.out, if_pos huv]
              have hlen := putL_len out (u, v)
              have HL := hide hlen
              clear hlen huv
              go_wp2_with fail
              refine (put_any w.heap.size a N c out u v _ HO4.out.1 (by omega) (by have := HO4.out.2.2.size; exact this) HO4.out.2.1).mono ?_
              rintro e w5 ⟨a5, c5, rfl, ho5, hg5, _⟩
              have HO5 := hide (HO4.out.put ho5 hg5)
              clear ho5 hg5
              go_wp2
              go_roundw
              case rel => exact ⟨k + 1, a5, c5, _, _, by omega, by go_num, rfl, by have := HL.out; have := HO4.out.1; omega, HS3, HO5⟩
              case measure => simp [intOf]; omega
            · have hd : decide (u < v) = false := decide_eq_false huv
              have HS3 : Hid (resTo f (xs.take (k + 1)) = out) := by show _ = out; rw [HS2.out]; unfold resS; rw [HU.out, if_neg huv]
              clear huv
              go_wp2
              go_roundw
              case rel => exact ⟨k + 1, a, c, N, out, by omega, by go_num, rfl, by omega, HS3, HO4⟩
              case measure => simp [intOf]; omega
          · obtain rfl : k = n := by omega
            have hR := HR.out
            rw [List.take_of_length_le (by rw [HX.out.1]; exact Nat.le_refl _)] at hR
            have HR2 := hide hR
            clear hR
            go_wp2
            go_ret2
            unfold tolE tolV
            rw [HT.out, if_pos rfl, if_pos rfl, HR2.out]
            have hO := HO.out
            obtain ⟨rfl, h2, h3⟩ := hO
            exact ⟨a, c, rfl, h2, h3⟩

end Go.Proofs.Ytikfiofjhmeheaa

/- Contracts of Grow and Shrink. -/
namespace Go.Proofs.Ytikfiofjhmeheaa
open Go.RowKit Go.Sort

set_option maxHeartbeats 1000000 in
theorem grow1 (w0 : World) (Br : Nat) (r : Int) (hr : 0 ≤ r ∧ r ≤ 1099511627776) (hc : w0.cell? ⟨Br, 0, none⟩ = some (.int .i64 r)) (hl : Br < w0.heap.size) : ChangeCalls w0 80 #[.pointer (some ⟨Br, 0, none⟩)] (growF r) := by
  intro a b W hb hok
  obtain ⟨o1, o2, o3⟩ := okB_true hok
  have c0 := (hb.cell (p := ⟨Br, 0, none⟩) hl).trans hc
  have l0 : Br < W.heap.size := Nat.lt_of_lt_of_le hl hb.size
  obtain ⟨r1, r2⟩ := hr
  have HB : Hid (Below W.heap.size W W) := Below.refl _ _
  have m1 : (if a - r < -1099511627776 then (-1099511627776 : Int) else a - r) = (growF r (a, b)).1 := by unfold growF; dsimp only; omega
  have m2 : (if 1099511627776 < b + r then (1099511627776 : Int) else b + r) = (growF r (a, b)).2 := by unfold growF; dsimp only; omega
  clear hc hl hb hok
  generalize (growF r (a, b)).1 = u at m1 ⊢
  generalize (growF r (a, b)).2 = v at m2 ⊢
  go_enter Try.func80, Try.ntmps80
  go_wp2
  refine bodyPost_ret (v := .agg #[.int .i64 u, .int .i64 v]) (by simp [results, Try.results80, go_sem]) rfl ⟨rfl, ?_⟩
  exact ((Below.refl _ _).alloc (Nat.le_refl _) _).alloc (by simp) _

set_option maxHeartbeats 2000000 in
theorem shrink1 (w0 : World) (Br : Nat) (r : Int) (hr : 0 ≤ r ∧ r ≤ 1099511627776) (hc : w0.cell? ⟨Br, 0, none⟩ = some (.int .i64 r)) (hl : Br < w0.heap.size) : ChangeCalls w0 82 #[.pointer (some ⟨Br, 0, none⟩)] (shrinkF r) := by
  intro a b W hb hok
  obtain ⟨o1, o2, o3⟩ := okB_true hok
  have c0 := (hb.cell (p := ⟨Br, 0, none⟩) hl).trans hc
  have l0 : Br < W.heap.size := Nat.lt_of_lt_of_le hl hb.size
  obtain ⟨r1, r2⟩ := hr
  clear hc hl hb hok
  have n1 := World.new_ne W ⟨Br, 0, none⟩ c0
  by_cases h1 : -1099511627776 < a
  · by_cases h2 : b < 1099511627776
    · have HE : Hid ((shrinkF r (a, b)).1 = a + r ∧ (shrinkF r (a, b)).2 = b - r) := by unfold shrinkF; exact ⟨if_pos h1, if_pos h2⟩
      rw [HE.out.1, HE.out.2]
      go_enter Try.func82, Try.ntmps82
      go_wp2
      refine bodyPost_ret (v := .agg #[.int .i64 (a + r), .int .i64 (b - r)]) (by simp [results, Try.results82, go_sem]) rfl ⟨rfl, ?_⟩
      exact ((Below.refl _ _).alloc (Nat.le_refl _) _).alloc (by simp) _
    · have HE : Hid ((shrinkF r (a, b)).1 = a + r ∧ (shrinkF r (a, b)).2 = b) := by unfold shrinkF; exact ⟨if_pos h1, if_neg h2⟩
      rw [HE.out.1, HE.out.2]
      go_enter Try.func82, Try.ntmps82
      go_wp2
      refine bodyPost_ret (v := .agg #[.int .i64 (a + r), .int .i64 b]) (by simp [results, Try.results82, go_sem]) rfl ⟨rfl, ?_⟩
      exact ((Below.refl _ _).alloc (Nat.le_refl _) _).alloc (by simp) _
  · by_cases h2 : b < 1099511627776
    · have HE : Hid ((shrinkF r (a, b)).1 = a ∧ (shrinkF r (a, b)).2 = b - r) := by unfold shrinkF; exact ⟨if_neg h1, if_pos h2⟩
      rw [HE.out.1, HE.out.2]
      go_enter Try.func82, Try.ntmps82
      go_wp2
      refine bodyPost_ret (v := .agg #[.int .i64 a, .int .i64 (b - r)]) (by simp [results, Try.results82, go_sem]) rfl ⟨rfl, ?_⟩
      exact ((Below.refl _ _).alloc (Nat.le_refl _) _).alloc (by simp) _
    · have HE : Hid ((shrinkF r (a, b)).1 = a ∧ (shrinkF r (a, b)).2 = b) := by unfold shrinkF; exact ⟨if_neg h1, if_neg h2⟩
      rw [HE.out.1, HE.out.2]
      go_enter Try.func82, Try.ntmps82
      go_wp2
      refine bodyPost_ret (v := .agg #[.int .i64 a, .int .i64 b]) (by simp [results, Try.results82, go_sem]) rfl ⟨rfl, ?_⟩
      exact ((Below.refl _ _).alloc (Nat.le_refl _) _).alloc (by simp) _

set_option maxHeartbeats 1000000 in
theorem Grow_any (A : Option Addr) (n cap : Nat) (r : Int) (xs : List Sp) (w : World) (hx : SpansAt w.heap.size w A n xs) :
    Calls Try.prog 39 #[.slice A n cap, .int .i64 r] w (SetPost (tolE xs r) (tolV (growF r) xs r) w) := by
  have hG := (Gr.refl w).alloc (.cells #[.int .i64 r] 3)
  have HR := hide (resize_any 80 #[.pointer (some ⟨w.heap.size, 0, none⟩)] (growF r) A n cap r xs (w.alloc (.cells #[.int .i64 r] 3)) (enters_of Try.func80 (by kernel_rfl) rfl)
    (fun hr => grow1 _ w.heap.size r hr (by simp) (by simp)) (hx.gr hG))
  have HG := hide hG
  clear hx hG
  go_enter Try.func39, Try.ntmps39
  go_wp2_with fail
  refine HR.out.mono ?_
  rintro e w2 ⟨a, c, rfl, ho, hb⟩
  have HO := hide (own_base (base' := w.heap.size) ho (by simp))
  have HB := hide (HG.out.below.trans (hb.mono HG.out.size))
  clear ho hb HR HG
  go_wp2
  go_ret2
  exact ⟨a, c, rfl, HO.out, HB.out⟩

set_option maxHeartbeats 1000000 in
theorem Shrink_any (A : Option Addr) (n cap : Nat) (r : Int) (xs : List Sp) (w : World) (hx : SpansAt w.heap.size w A n xs) :
    Calls Try.prog 41 #[.slice A n cap, .int .i64 r] w (SetPost (tolE xs r) (tolV (shrinkF r) xs r) w) := by
  have hG := (Gr.refl w).alloc (.cells #[.int .i64 r] 3)
  have HR := hide (resize_any 82 #[.pointer (some ⟨w.heap.size, 0, none⟩)] (shrinkF r) A n cap r xs (w.alloc (.cells #[.int .i64 r] 3)) (enters_of Try.func82 (by kernel_rfl) rfl)
    (fun hr => shrink1 _ w.heap.size r hr (by simp) (by simp)) (hx.gr hG))
  have HG := hide hG
  clear hx hG
  go_enter Try.func41, Try.ntmps41
  go_wp2_with fail
  refine HR.out.mono ?_
  rintro e w2 ⟨a, c, rfl, ho, hb⟩
  have HO := hide (own_base (base' := w.heap.size) ho (by simp))
  have HB := hide (HG.out.below.trans (hb.mono HG.out.size))
  clear ho hb HR HG
  go_wp2
  go_ret2
  exact ⟨a, c, rfl, HO.out, HB.out⟩

end Go.Proofs.Ytikfiofjhmeheaa
