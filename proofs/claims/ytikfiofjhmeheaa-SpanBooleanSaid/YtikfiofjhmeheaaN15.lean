/- Contracts of the specification's Whole, Two, Not. -/
import Derived.Test.YtikfiofjhmeheaaN7
import Derived.Test.YtikfiofjhmeheaaN9
namespace Go.Proofs.Ytikfiofjhmeheaa
open Go.RowKit Go.Sort

theorem whole_any (w : World) : Calls Try.prog 75 #[] w fun e w' => e = .returned (.agg #[.int .i64 (-1099511627776), .int .i64 1099511627776]) ∧ Gr w w' := by
  go_enter Try.func75, Try.ntmps75
  go_wp2
  refine bodyPost_ret (v := .agg #[.int .i64 (-1099511627776), .int .i64 1099511627776]) (by simp [results, Try.results75, go_sem]) rfl ⟨rfl, ?_⟩
  exact (Gr.refl w).alloc _

def twoV (kind : Int) (xs ys : List Sp) : List Sp := if setB xs && setB ys && decide ((madeL kind xs ys).length ≤ 128) then madeL kind xs ys else []
def twoE (kind : Int) (xs ys : List Sp) : Int := if setB xs && setB ys then (if (madeL kind xs ys).length ≤ 128 then 0 else 8) else 2
theorem two_no {kind : Int} {xs ys : List Sp} {w w' : World} (h : (setB xs && setB ys) = false) (hb : Below w.heap.size w w') : SetPost (twoE kind xs ys) (twoV kind xs ys) w (.returned (.tuple #[.slice none 0 0, .int .i64 2])) w' := by
  unfold twoE twoV
  rw [h]
  exact setpost_nil hb

set_option maxHeartbeats 2000000 in
set_option maxRecDepth 100000 in
theorem refTwo_any (kind : Int) (hk : kind = 0 ∨ kind = 1 ∨ kind = 2) (A A' : Option Addr) (n cap m cap' : Nat) (xs ys : List Sp) (w : World) (hx : SpansAt w.heap.size w A n xs) (hy : SpansAt w.heap.size w A' m ys) :
    Calls Try.prog 26 #[.int .i64 kind, .slice A n cap, .slice A' m cap'] w (SetPost (twoE kind xs ys) (twoV kind xs ys) w) := by
  have HX := hide hx
  have HY := hide hy
  have HK := hide hk
  clear hx hy hk
  cases hv : setB xs
  · have HP : Hid (∀ w', Below w.heap.size w w' → SetPost (twoE kind xs ys) (twoV kind xs ys) w (.returned (.tuple #[.slice none 0 0, .int .i64 2])) w') := fun w' hb => two_no (by rw [hv]; rfl) hb
    go_enter Try.func26, Try.ntmps26
    go_wp2_with fail
    refine (refValid_any A n cap xs w HX.out).mono ?_
    rintro e w2 ⟨rfl, hG⟩
    rw [hv]
    go_wp2
    go_ret2
    exact HP.out _ hG.below
  · cases hv2 : setB ys
    · have HP : Hid (∀ w', Below w.heap.size w w' → SetPost (twoE kind xs ys) (twoV kind xs ys) w (.returned (.tuple #[.slice none 0 0, .int .i64 2])) w') := fun w' hb => two_no (by rw [hv, hv2]; rfl) hb
      have HV := hide hv2
      go_enter Try.func26, Try.ntmps26
      go_wp2_with fail
      refine (refValid_any A n cap xs w HX.out).mono ?_
      rintro e w2 ⟨rfl, hG⟩
      rw [hv]
      have HG := hide hG
      clear hG hv hv2
      go_wp2_with fail
      refine (refValid_any A' m cap' ys w2 (HY.out.gr HG.out)).mono ?_
      rintro e w3 ⟨rfl, hG⟩
      rw [HV.out]
      have HG2 := hide (HG.out.trans hG)
      clear hG
      go_wp2
      go_ret2
      exact HP.out _ HG2.out.below
    · have HV := hide hv
      have HV2 := hide hv2
      have hl1 : n ≤ 128 := by have := (setB_true hv).1; have := HX.out.1; omega
      have hl2 : m ≤ 128 := by have := (setB_true hv2).1; have := HY.out.1; omega
      clear hv hv2
      go_enter Try.func26, Try.ntmps26
      go_wp2_with fail
      refine (refValid_any A n cap xs w HX.out).mono ?_
      rintro e w2 ⟨rfl, hG⟩
      rw [HV.out]
      have HG := hide hG
      clear hG
      go_wp2_with fail
      refine (refValid_any A' m cap' ys w2 (HY.out.gr HG.out)).mono ?_
      rintro e w3 ⟨rfl, hG⟩
      rw [HV2.out]
      have HG2 := hide (HG.out.trans hG)
      clear hG HG
      go_wp2_with fail
      refine (made_any kind HK.out A A' n cap m cap' xs ys w3 (HX.out.gr HG2.out) (HY.out.gr HG2.out) (by omega) (by omega)).mono ?_
      rintro e w4 ⟨a, c, rfl, h⟩
      have HO := hide (own_base (base' := w.heap.size) h.2.1 HG2.out.size)
      have HB := hide (HG2.out.below.trans (h.2.2.mono HG2.out.size))
      have hml := (madeL_spec kind xs ys).2.2
      have hx1 := HX.out.1
      have hy1 := HY.out.1
      have hml2 : (madeL kind xs ys).length ≤ 512 := by omega
      obtain ⟨N, hN⟩ : ∃ N, N = (madeL kind xs ys).length := ⟨_, rfl⟩
      have HN := hide hN
      rw [← hN] at HO hml2 ⊢
      clear h hml hx1 hy1 hN
      by_cases hs : N ≤ 128
      · have hd : decide ((N : Int) > 128) = false := decide_eq_false (by omega)
        have hd2 : ¬ (128 : Int) < (N : Int) := by omega
        have HE : Hid (twoE kind xs ys = 0 ∧ twoV kind xs ys = madeL kind xs ys) := by
          unfold twoE twoV
          rw [HV.out, HV2.out, ← HN.out]
          exact ⟨by simp [hs], by simp [hs]⟩
        go_wp2
        go_ret2
        rw [HE.out.1, HE.out.2]
        exact ⟨a, c, by rw [← HN.out]; rfl, by rw [← HN.out]; exact HO.out, HB.out⟩
      · have hd : decide ((N : Int) > 128) = true := decide_eq_true (by omega)
        have hd2 : (128 : Int) < (N : Int) := by omega
        have HE : Hid (twoE kind xs ys = 8 ∧ twoV kind xs ys = []) := by
          unfold twoE twoV
          rw [HV.out, HV2.out, ← HN.out]
          exact ⟨by simp [hs], by simp [hs]⟩
        go_wp2
        go_ret2
        rw [HE.out.1, HE.out.2]
        exact setpost_nil HB.out

set_option maxHeartbeats 1000000 in
theorem refNot_any (A : Option Addr) (n cap : Nat) (xs : List Sp) (w : World) (hx : SpansAt w.heap.size w A n xs) :
    Calls Try.prog 30 #[.slice A n cap] w (SetPost (twoE 2 wholeL xs) (twoV 2 wholeL xs) w) := by
  have HX := hide hx
  clear hx
  go_enter Try.func30, Try.ntmps30
  go_wp2_with fail
  refine (whole_any w).mono ?_
  rintro e w2 ⟨rfl, hG⟩
  have HG := hide (hG.alloc (.cells #[.int .i64 (-1099511627776), .int .i64 1099511627776] 42))
  have hW : (w2.alloc (.cells #[.int .i64 (-1099511627776), .int .i64 1099511627776] 42)).heap[w2.heap.size]? = some (.cells #[.int .i64 (-1099511627776), .int .i64 1099511627776] 42 (0, 0)) := World.alloc_heap_new w2 _
  have HW := hide (spans_lit wholeL hW rfl)
  clear hG hW
  go_wp2_with fail
  refine (refTwo_any 2 (.inr (.inr rfl)) _ A 1 1 n cap wholeL xs _ HW.out (HX.out.gr HG.out)).mono ?_
  rintro e w3 ⟨a, c, rfl, ho, hb⟩
  have HO := hide (own_base (base' := w.heap.size) ho HG.out.size)
  have HB := hide (HG.out.below.trans (hb.mono HG.out.size))
  clear ho hb
  go_wp2
  go_ret2
  exact ⟨a, c, rfl, HO.out, HB.out⟩

end Go.Proofs.Ytikfiofjhmeheaa

/- Contracts of the specification's grown, Grow and Shrink. -/
namespace Go.Proofs.Ytikfiofjhmeheaa
open Go.RowKit Go.Sort

/-- one span wider, as the specification says it -/
def wideF (r : Int) (s : Sp) : Sp := (max (-1099511627776) (s.1 - r), min 1099511627776 (s.2 + r))
theorem grownL_eq (xs : List Sp) (r : Int) : grownL xs r = madeL 0 (xs.map (wideF r)) [] := rfl

set_option maxHeartbeats 4000000 in
set_option maxRecDepth 100000 in
theorem grown_any (A : Option Addr) (n cap : Nat) (r : Int) (hr : 0 ≤ r ∧ r ≤ 1099511627776) (xs : List Sp) (w : World) (hx : SpansAt w.heap.size w A n xs) (hok : ∀ s ∈ xs, okB s.1 s.2 = true) (hn : n ≤ 5000) :
    Calls Try.prog 81 #[.slice A n cap, .int .i64 r] w (MadePost w (grownL xs r)) := by
  have mixed := mixedOrders
  obtain ⟨i0, hi0, hz0, hz1, hz2⟩ := info_parts info42
  have HX := hide hx
  have HOK := hide hok
  obtain ⟨r1, r2⟩ := hr
  clear hx hok
  go_enter Try.func81, Try.ntmps81
  go_wp2
  go_loopw [5, 6] (fun vo vi wr => ∃ (k : Nat) (a : Option Addr) (c : Nat) (out : List Sp), k ≤ n ∧ vi = .int .i64 k ∧ vo = .slice a k c ∧ Hid ((xs.take k).map (wideF r) = out) ∧ Hid (OwnS w wr a c k out)) (fun _ vi _ => n - (intOf vi).toNat)
  case atStart => exact ⟨0, none, 0, [], Nat.zero_le _, rfl, rfl, rfl, OwnS.nil w⟩
  case round =>
    obtain ⟨k, a, c, out, hk, rfl, rfl, HR, HO⟩ := hrel
    by_cases hlt : k < n
    · as_aux_lemma =>
      have hlt' : (k : Int) < (n : Int) := by omega
      obtain ⟨b, off, rfl, hb, c0, c1⟩ := HX.out.at_ hlt
      have e0 := (HO.out.2.2.cell (p := ⟨b, off + k * 2, none⟩) hb).trans c0
      have e1 := (HO.out.2.2.cell (p := ⟨b, off + k * 2 + 1, none⟩) hb).trans c1
      have HS2 : Hid ((xs.take (k + 1)).map (wideF r) = out ++ [wideF r (loA xs k, hiA xs k)]) := by show (xs.take (k + 1)).map _ = _; rw [take_succ_sp (by rw [HX.out.1]; exact hlt), List.map_append, HR.out]; rfl
      have hokk := HOK.out (loA xs k, hiA xs k) (by rw [(loA_get (show k < xs.length by rw [HX.out.1]; exact hlt)).1, (loA_get (show k < xs.length by rw [HX.out.1]; exact hlt)).2]; exact List.getElem_mem _)
      clear c0 c1
      generalize loA xs k = x at e0 HS2 hokk
      generalize hiA xs k = y at e1 HS2 hokk
      obtain ⟨o1, o2, o3⟩ := okB_true hokk
      dsimp only at o1 o2 o3
      obtain ⟨u, v, hu⟩ : ∃ u v, wideF r (x, y) = (u, v) := ⟨_, _, rfl⟩
      rw [hu] at HS2
      have m1 : (if -1099511627776 < x - r then x - r else (-1099511627776 : Int)) = u := by unfold wideF at hu; injection hu with h1 h2; dsimp only at h1 h2; rw [← h1]; omega
      have m2 : (if y + r < 1099511627776 then y + r else (1099511627776 : Int)) = v := by unfold wideF at hu; injection hu with h1 h2; dsimp only at h1 h2; rw [← h2]; omega
      have m3 : (if x - r < -1099511627776 then (-1099511627776 : Int) else x - r) = u := by unfold wideF at hu; injection hu with h1 h2; dsimp only at h1 h2; rw [← h1]; omega
      have m4 : (if 1099511627776 < y + r then (1099511627776 : Int) else y + r) = v := by unfold wideF at hu; injection hu with h1 h2; dsimp only at h1 h2; rw [← h2]; omega
      have s1 : IntKind.i64.wrap (x - r) = x - r := by rw [IntKind.wrap_i64]; omega
      have s2 : IntKind.i64.wrap (y + r) = y + r := by rw [IntKind.wrap_i64]; omega
      have hwb : w.heap.size ≤ wr.heap.size := HO.out.2.2.size
      have hbw : b < wr.heap.size := by omega
      have hne : (Value.slice a k c).ownBlock ≠ some b := fun e => by have := (HO.out.2.1.lt b e).1; omega
      have hN1 : k + 1 ≤ maxLen := by unfold maxLen; omega
      have hN2 : (k + 1) * 16 ≤ 140737488355328 := by omega
      have HF0 := hide e0
      have HF1 := hide e1
      clear hu hokk
      go_wp2_with fail
      go_region_held3 (fun w' => w'.cell? ⟨b, off + k * 2, none⟩ = some (.int .i64 x) ∧ w'.cell? ⟨b, off + k * 2 + 1, none⟩ = some (.int .i64 y))
        (first | go_keep | exact ⟨(hgrow.cell_far ⟨b, off + k * 2, none⟩ (by simp; omega) (Ne.symm hne)).trans ((World.cell?_alloc_lt wr _ ⟨b, off + k * 2, none⟩ hbw).trans HF0.out), (hgrow.cell_far ⟨b, off + k * 2 + 1, none⟩ (by simp; omega) (Ne.symm hne)).trans ((World.cell?_alloc_lt wr _ ⟨b, off + k * 2 + 1, none⟩ hbw).trans HF1.out)⟩)
        ((refine step_append_lies _ (by rfl) _ _ _ (by rfl) w.heap.size 42 i0 _ 2 16 Try.underlying22 hi0 hz0 hz1 hz2 rfl (by omega) (.slice a k c) k (flat out) (by rfl) ((HO.out.2.1.alloc _).drew) ⟨wr.heap.size, 0, none⟩ 1 1 [.int .i64 u, .int .i64 v] (by rfl) (by rfl) (World.news_of_block (cs := #[.int .i64 u, .int .i64 v]) (t := 42) (fr := (0, 0)) (heap_alloc_new wr _)) (by simp [Value.oneCell']) (by omega) hN1 hN2 (by simp; omega) (wr.heap.size + 1) (by simp) ?_; intro gg c2 w1 hown1 hgrow hat hlt1))
      all_goals
        go_wp2
        go_roundw
        case rel => exact ⟨k + 1, some ⟨gg, 0, none⟩, c2, out ++ [(u, v)], by omega, by go_num, rfl, HS2, HO.out.append hown1 hgrow⟩
        case measure => simp [intOf]; omega
    · obtain rfl : k = n := by omega
      have hR := HR.out
      rw [List.take_of_length_le (by rw [HX.out.1]; exact Nat.le_refl _)] at hR
      have HR2 := hide hR
      clear hR
      go_wp2_with fail
      refine (made_any 0 (.inl rfl) a none k c 0 0 out [] wr (spans_of_own HO.out.2.1 HO.out.1) ⟨rfl, .inl rfl⟩ (by omega) (by omega)).mono ?_
      rintro e w2 ⟨a2, c2, rfl, h⟩
      have HO2 := hide h.2.1
      have HB2 := hide (HO.out.2.2.trans (h.2.2.mono HO.out.2.2.size))
      clear h
      go_wp2
      go_ret
      unfold MadePost
      rw [grownL_eq, HR2.out]
      exact ⟨a2, c2, rfl, rfl, own_base HO2.out HO.out.2.2.size, HB2.out⟩

end Go.Proofs.Ytikfiofjhmeheaa

/- Contracts of the specification's Grow and Shrink: the same answers as Grow's and Shrink's. -/
namespace Go.Proofs.Ytikfiofjhmeheaa
open Go.RowKit Go.Sort

theorem tol_set {xs : List Sp} {r : Int} (h : tolB xs r = true) : SetS xs ∧ xs.length ≤ 128 ∧ 0 ≤ r ∧ r ≤ 1099511627776 := by
  unfold tolB at h
  simp only [Bool.and_eq_true, decide_eq_true_eq] at h
  have := setB_set h.1
  exact ⟨this.1, this.2, h.2⟩
theorem madeW_length (xs : List Sp) (h : xs.length ≤ 128) : (madeL 2 wholeL xs).length ≤ 258 := by
  have := (madeL_spec 2 wholeL xs).2.2
  have e : wholeL.length = 1 := rfl
  omega
theorem madeW_ok (xs : List Sp) : SetS (madeL 2 wholeL xs) := madeL_set 2 fun z hz => by
  unfold keepB at hz
  rw [whole_in] at hz
  simp at hz
  exact hz.1
theorem grownL_length (xs : List Sp) (r : Int) : (grownL xs r).length ≤ 2 * xs.length := by
  have := (madeL_spec 0 (xs.map fun s => (max (-1099511627776) (s.1 - r), min 1099511627776 (s.2 + r))) []).2.2
  unfold grownL
  simp only [List.length_map, List.length_nil] at this
  omega

set_option maxHeartbeats 4000000 in
set_option maxRecDepth 100000 in
theorem refGrow_any (A : Option Addr) (n cap : Nat) (r : Int) (xs : List Sp) (w : World) (hx : SpansAt w.heap.size w A n xs) :
    Calls Try.prog 40 #[.slice A n cap, .int .i64 r] w (SetPost (tolE xs r) (tolV (growF r) xs r) w) := by
  have HX := hide hx
  have HV1 := hide (refValid_any A n cap xs w hx)
  clear hx
  cases hv : setB xs
  · have HVX := hide hv
    have HP : Hid (∀ w', Below w.heap.size w w' → SetPost (tolE xs r) (tolV (growF r) xs r) w (.returned (.tuple #[.slice none 0 0, .int .i64 2])) w') := fun w' hb => tol_no (by unfold tolB; rw [hv]; rfl) hb
    go_enter Try.func40, Try.ntmps40
    go_wp2_with fail
    refine HV1.out.mono ?_
    rintro e w2 ⟨rfl, hG⟩
    rw [HVX.out]
    have HB := hide hG.below
    clear hG
    go_wp2
    go_ret2
    exact HP.out _ HB.out
  · have HVX := hide hv
    by_cases h0 : r < 0
    · have HP : Hid (∀ w', Below w.heap.size w w' → SetPost (tolE xs r) (tolV (growF r) xs r) w (.returned (.tuple #[.slice none 0 0, .int .i64 2])) w') := fun w' hb => tol_no (by unfold tolB; rw [hv, decide_eq_false (by omega)]; rfl) hb
      go_enter Try.func40, Try.ntmps40
      go_wp2_with fail
      refine HV1.out.mono ?_
      rintro e w2 ⟨rfl, hG⟩
      rw [HVX.out]
      have HB := hide hG.below
      clear hG
      go_wp2
      go_ret2
      exact HP.out _ HB.out
    by_cases h1 : r > 1099511627776
    · have HP : Hid (∀ w', Below w.heap.size w w' → SetPost (tolE xs r) (tolV (growF r) xs r) w (.returned (.tuple #[.slice none 0 0, .int .i64 2])) w') := fun w' hb => tol_no (by unfold tolB; rw [hv, decide_eq_false (by omega)]; rfl) hb
      go_enter Try.func40, Try.ntmps40
      go_wp2_with fail
      refine HV1.out.mono ?_
      rintro e w2 ⟨rfl, hG⟩
      rw [HVX.out]
      have HB := hide hG.below
      clear hG
      go_wp2
      go_ret2
      exact HP.out _ HB.out
    · have hT : tolB xs r = true := by unfold tolB; rw [hv, decide_eq_true (by omega)]; rfl
      have HT := hide (tol_set hT)
      have HV : Hid (tolE xs r = 0 ∧ tolV (growF r) xs r = resTo (growF r) xs) := by unfold tolE tolV; rw [hT]; exact ⟨rfl, rfl⟩
      clear hT hv
      go_enter Try.func40, Try.ntmps40
      go_wp2_with fail
      refine HV1.out.mono ?_
      rintro e w2 ⟨rfl, hG⟩
      rw [HVX.out]
      have HG := hide hG
      clear hG HV1
      go_wp2_with fail
      refine (grown_any A n cap r ⟨HT.out.2.2.1, HT.out.2.2.2⟩ xs w2 (HX.out.gr HG.out) HT.out.1.2 (by have := HT.out.2.1; have := HX.out.1; omega)).mono ?_
      rintro e w3 ⟨a, c, rfl, h⟩
      have HE : Hid (grownL xs r = resTo (growF r) xs) := grow_same HT.out.1 HT.out.2.2.1
      rw [HE.out] at h ⊢
      have H := hide h
      clear h
      go_wp2
      go_ret2
      rw [HV.out.1, HV.out.2]
      exact ⟨a, c, rfl, own_base H.out.2.1 HG.out.size, HG.out.below.trans (H.out.2.2.mono HG.out.size)⟩

set_option maxHeartbeats 4000000 in
set_option maxRecDepth 100000 in
theorem refShrink_any (A : Option Addr) (n cap : Nat) (r : Int) (xs : List Sp) (w : World) (hx : SpansAt w.heap.size w A n xs) :
    Calls Try.prog 42 #[.slice A n cap, .int .i64 r] w (SetPost (tolE xs r) (tolV (shrinkF r) xs r) w) := by
  have HX := hide hx
  have HV1 := hide (refValid_any A n cap xs w hx)
  clear hx
  cases hv : setB xs
  · have HVX := hide hv
    have HP : Hid (∀ w', Below w.heap.size w w' → SetPost (tolE xs r) (tolV (shrinkF r) xs r) w (.returned (.tuple #[.slice none 0 0, .int .i64 2])) w') := fun w' hb => tol_no (by unfold tolB; rw [hv]; rfl) hb
    go_enter Try.func42, Try.ntmps42
    go_wp2_with fail
    refine HV1.out.mono ?_
    rintro e w2 ⟨rfl, hG⟩
    rw [HVX.out]
    have HB := hide hG.below
    clear hG
    go_wp2
    go_ret2
    exact HP.out _ HB.out
  · have HVX := hide hv
    by_cases h0 : r < 0
    · have HP : Hid (∀ w', Below w.heap.size w w' → SetPost (tolE xs r) (tolV (shrinkF r) xs r) w (.returned (.tuple #[.slice none 0 0, .int .i64 2])) w') := fun w' hb => tol_no (by unfold tolB; rw [hv, decide_eq_false (by omega)]; rfl) hb
      go_enter Try.func42, Try.ntmps42
      go_wp2_with fail
      refine HV1.out.mono ?_
      rintro e w2 ⟨rfl, hG⟩
      rw [HVX.out]
      have HB := hide hG.below
      clear hG
      go_wp2
      go_ret2
      exact HP.out _ HB.out
    by_cases h1 : r > 1099511627776
    · have HP : Hid (∀ w', Below w.heap.size w w' → SetPost (tolE xs r) (tolV (shrinkF r) xs r) w (.returned (.tuple #[.slice none 0 0, .int .i64 2])) w') := fun w' hb => tol_no (by unfold tolB; rw [hv, decide_eq_false (by omega)]; rfl) hb
      go_enter Try.func42, Try.ntmps42
      go_wp2_with fail
      refine HV1.out.mono ?_
      rintro e w2 ⟨rfl, hG⟩
      rw [HVX.out]
      have HB := hide hG.below
      clear hG
      go_wp2
      go_ret2
      exact HP.out _ HB.out
    · have hT : tolB xs r = true := by unfold tolB; rw [hv, decide_eq_true (by omega)]; rfl
      have HT := hide (tol_set hT)
      have HV : Hid (tolE xs r = 0 ∧ tolV (shrinkF r) xs r = resTo (shrinkF r) xs) := by unfold tolE tolV; rw [hT]; exact ⟨rfl, rfl⟩
      clear hT hv
      go_enter Try.func42, Try.ntmps42
      go_wp2_with fail
      refine HV1.out.mono ?_
      rintro e w2 ⟨rfl, hG⟩
      rw [HVX.out]
      have HG := hide hG
      clear hG HV1
      go_wp2_with fail
      refine (whole_any w2).mono ?_
      rintro e w3 ⟨rfl, hG⟩
      have HG3 := hide ((HG.out.trans hG).alloc (.cells #[.int .i64 (-1099511627776), .int .i64 1099511627776] 42))
      have hW : (w3.alloc (.cells #[.int .i64 (-1099511627776), .int .i64 1099511627776] 42)).heap[w3.heap.size]? = some (.cells #[.int .i64 (-1099511627776), .int .i64 1099511627776] 42 (0, 0)) := World.alloc_heap_new w3 _
      have HW := hide (spans_lit wholeL hW rfl)
      clear hG hW HG
      go_wp2_with fail
      generalize w3.alloc (.cells #[.int .i64 (-1099511627776), .int .i64 1099511627776] 42) = W3 at HG3 HW ⊢
      generalize w3.heap.size = bw at HW ⊢
      refine (made_any 2 (.inr (.inr rfl)) _ A 1 1 n cap wholeL xs W3 HW.out (HX.out.gr HG3.out) (by omega) (by have := HT.out.2.1; have := HX.out.1; omega)).mono ?_
      rintro e w4 ⟨a4, c4, rfl, h⟩
      have HS4 := hide (spans_of_own h.2.1 rfl)
      have HB4 := hide (HG3.out.below.trans (h.2.2.mono HG3.out.size))
      have HW4 := hide (HW.out.now h.2.2 (Nat.le_refl _))
      clear h HG3 HW
      have HLM := hide (madeW_length xs HT.out.2.1)
      have HMS := hide (madeW_ok xs)
      have HSS : Hid (madeL 2 wholeL (grownL (madeL 2 wholeL xs) r) = resTo (shrinkF r) xs) := shrink_same HT.out.1 HT.out.2.2.1
      generalize madeL 2 wholeL xs = ms at HS4 HLM HMS HSS ⊢
      go_wp2_with fail
      refine (grown_any a4 ms.length c4 r ⟨HT.out.2.2.1, HT.out.2.2.2⟩ ms w4 HS4.out HMS.out.2 (by have := HLM.out; omega)).mono ?_
      rintro e w5 ⟨a5, c5, rfl, h⟩
      have HS5 := hide (spans_of_own h.2.1 rfl)
      have HB5 := hide (HB4.out.trans (h.2.2.mono HB4.out.size))
      have HW5 := hide (HW4.out.now h.2.2 (Nat.le_refl _))
      have HLG := hide (grownL_length ms r)
      clear h HB4 HW4 HS4
      generalize grownL ms r = gs at HS5 HLG HSS ⊢
      go_wp2_with fail
      refine (made_any 2 (.inr (.inr rfl)) _ a5 1 1 gs.length c5 wholeL gs w5 HW5.out HS5.out (by omega) (by have := HLG.out; have := HLM.out; omega)).mono ?_
      rintro e w6 ⟨a6, c6, rfl, h⟩
      rw [HSS.out] at h ⊢
      have H := hide h
      have HB6 := hide (HB5.out.trans (h.2.2.mono HB5.out.size))
      clear h
      go_wp2
      go_ret2
      rw [HV.out.1, HV.out.2]
      exact ⟨a6, c6, rfl, own_base H.out.2.1 HB5.out.size, HB6.out⟩

end Go.Proofs.Ytikfiofjhmeheaa
