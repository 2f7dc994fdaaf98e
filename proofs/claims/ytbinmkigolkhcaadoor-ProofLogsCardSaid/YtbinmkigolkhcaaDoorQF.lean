/- logged: a log shows what the specification's does. -/
import Derived.Test.YtbinmkigolkhcaaDoorQE
import Derived.Test.YtbinmkigolkhcaaDoorKA
import Derived.Test.YtbinmkigolkhcaaDoorNA
set_option linter.unusedSimpArgs false
set_option linter.unusedVariables false
namespace Go.Proofs.YtbinmkigolkhcaaDoor
open Go.RowKit Go.Sort
attribute [local go_sem] Oper.semAt_some

/-- bytes of the call's own, raised or not -/
def OwnB (B : Nat) (w : World) (a : Option Addr) (n c : Nat) : Prop := ∃ xs : List Value, w.ownsRow B 5 1 (.slice a n c) n xs ∧ ∀ k, k < n → ∃ x : Int, xs[k]? = some (.int .u8 x)
theorem OwnB.at_ {B : Nat} {w : World} {a : Option Addr} {n c k : Nat} (h : OwnB B w a n c) (hk : k < n) :
    ∃ g x, a = some ⟨g, 0, none⟩ ∧ B ≤ g ∧ w.cell? ⟨g, k, none⟩ = some (.int .u8 x) ∧ w.frozen? ⟨g, k, none⟩ = false ∧ ∀ y : Int, OwnB B (w.setCell ⟨g, k, none⟩ (.int .u8 y)) (some ⟨g, 0, none⟩) n c := by
  obtain ⟨xs, ho, hp⟩ := h
  obtain ⟨x, hx⟩ := hp k hk
  rcases ho.2 with ⟨_, h0⟩ | ⟨g, cap, cur, hv, hb, _⟩
  · omega
  · injection hv with h1 h2 h3
    subst h1
    refine ⟨g, x, rfl, hb, (ho.cellAt k (by omega)).trans hx, ho.frozenAt k, fun y => ⟨_, (ho.stored k (.int .u8 y)).1, fun j hj => ?_⟩⟩
    have hl : xs.length = n := by have := ho.1; omega
    rw [List.getElem?_set]
    by_cases e : k = j
    · rw [if_pos e, if_pos (by omega)]
      exact ⟨y, rfl⟩
    · rw [if_neg e]
      exact hp j hj
theorem ownB_of {B : Nat} {w : World} {a : Option Addr} {n c : Nat} {l : List UInt8} (h : w.ownsRow B 5 1 (.slice a n c) n (cellsB l)) (hl : l.length = n) : OwnB B w a n c :=
  ⟨_, h, fun k hk => ⟨(l[k]'(by omega)).toNat, by unfold cellsB; rw [List.getElem?_map, List.getElem?_eq_getElem (by omega)]; rfl⟩⟩

set_option maxHeartbeats 4000000 in
set_option maxRecDepth 100000 in
theorem logged_any (w : World) (b : Nat) (ls : List (List UInt8)) (A : Option Addr) (q c : Nat) (i n : Int) (h : GoodLog 0 w b ls) (hx : ListsAt w.heap.size w A q ls) (hA : Adr A q c) (hq : q ≤ 4096) (hlg : longB ls = false) :
    Calls Tryd.prog 42 #[.pointer (some ⟨b, 0, none⟩), .agg #[.slice A q c], .int .i64 i, .int .i64 n] w (TrueP w) := by
  have mixed := mixedOrders
  have hsm : Small ls := fun l hl => Nat.le_trans (long_false hlg l hl) (by decide)
  have hlen := hx.1
  have hl : ls.length ≤ 4096 := by omega
  obtain ⟨p, hp⟩ : ∃ p, w.heap.size = p := ⟨_, rfl⟩
  have hb1 : Below w.heap.size w (w.alloc (.cells #[.slice A q c] 59)) := (Below.refl _ w).alloc (Nat.le_refl _) _
  have hc1 : Box1 (w.alloc (.cells #[.slice A q c] 59)) p (.slice A q c) := by rw [← hp]; exact heap_alloc_new w _
  obtain ⟨W, hW⟩ : ∃ W, w.alloc (.cells #[.slice A q c] 59) = W := ⟨_, rfl⟩
  rw [hW] at hb1 hc1
  have hg := h.stays hb1
  have hX := hx.now hb1 (Nat.le_refl _)
  have R1 : Hid (∀ w', Below W.heap.size W w' → Calls Tryd.prog 45 #[.pointer (some ⟨b, 0, none⟩), .int .i64 n] w' (RootP (rootAtV ls n) w')) := fun w' hb => RootAt_good (hg.stays hb) hl n
  have R2 : Hid (∀ w', Below W.heap.size W w' → Calls Tryd.prog 78 #[.agg #[.slice A q c], .int .i64 n] w' (RootP (rootAtV ls n) w')) := fun w' hb => rRootAt_any A q c ls w' (hX.now hb (Nat.le_refl _)) hA hq hsm n
  have L1 : Hid (∀ w', Below W.heap.size W w' → Calls Tryd.prog 49 #[.pointer (some ⟨b, 0, none⟩)] w' fun e w'' => e = .returned (.int .i64 q) ∧ w' = w'') := fun w' hb => by
    have := Len_good (hg.stays hb)
    rw [hlen] at this
    exact this
  have T1 : Hid (∀ w', Below W.heap.size W w' → Calls Tryd.prog 50 #[.pointer (some ⟨b, 0, none⟩)] w' fun e w'' => e = .returned (.int .u64 (rootV ls : Nat)) ∧ Below w'.heap.size w' w'') := fun w' hb => Root_good (hg.stays hb) hl
  have T2 : Hid (∀ w', Below W.heap.size W w' → Calls Tryd.prog 57 #[.slice A q c] w' fun e w'' => e = .returned (.int .u64 (rootV ls : Nat)) ∧ Below w'.heap.size w' w'') := fun w' hb => Top_any q q A c ls w' (Nat.le_refl _) (hX.now hb (Nat.le_refl _)) hA.1 (by omega) hsm
  have E1 : Hid (∀ w', Below W.heap.size W w' → Calls Tryd.prog 46 #[.pointer (some ⟨b, 0, none⟩), .int .i64 i] w' (EntP (entryV ls i) w')) := fun w' hb => Entry_good (hg.stays hb) hl i
  have E2 : Hid (∀ w', Below W.heap.size W w' → Calls Tryd.prog 79 #[.agg #[.slice A q c], .int .i64 i] w' (REntP (fun _ => True) (entryV ls i) w')) := fun w' hb => rEntry_any A q c ls w' (hX.now hb (Nat.le_refl _)) hq i
  have I1 : Hid (∀ w', Below W.heap.size W w' → Calls Tryd.prog 47 #[.pointer (some ⟨b, 0, none⟩), .int .i64 i, .int .i64 n] w' (TwoSteps (includeV ls i n) w')) := fun w' hb => Include_good (hg.stays hb) hl i n
  have I2 : Hid (∀ w', Below W.heap.size W w' → Calls Tryd.prog 80 #[.agg #[.slice A q c], .int .i64 i, .int .i64 n] w' (TwoSteps (includeV ls i n) w')) := fun w' hb => rInclude_any A q c ls w' (hX.now hb (Nat.le_refl _)) hA hq hsm hlg i n
  have X1 : Hid (∀ w', Below W.heap.size W w' → Calls Tryd.prog 48 #[.pointer (some ⟨b, 0, none⟩), .int .i64 i, .int .i64 n] w' (TwoHashes (lextV ls i n) w')) := fun w' hb => Extend_good (hg.stays hb) hl i n
  have X2 : Hid (∀ w', Below W.heap.size W w' → Calls Tryd.prog 81 #[.agg #[.slice A q c], .int .i64 i, .int .i64 n] w' (TwoHashes (lextV ls i n) w')) := fun w' hb => rExtend_any A q c ls w' (hX.now hb (Nat.le_refl _)) hA hq hsm hlg i n
  unfold RootP at R1 R2
  unfold EntP at E1
  unfold REntP at E2
  unfold TwoSteps at I1 I2
  unfold TwoHashes at X1 X2
  have hib : (includeV ls i n).1.length ≤ 1000000 ∧ StBound (includeV ls i n).1 := by
    unfold includeV
    split
    · exact ⟨by simp, fun s hs => by simp at hs⟩
    · exact ⟨by have := steps_len (ls.take n.toNat) i.toNat; rw [List.length_take] at this; simp only; omega, steps_bound _ _⟩
  have hxb : (lextV ls i n).1.length ≤ 1000000 ∧ ∀ p ∈ (lextV ls i n).1, p < 18446744073709551616 := by
    unfold lextV
    split
    · exact ⟨by simp, fun s hs => by simp at hs⟩
    · split
      · exact ⟨by simp, fun s hs => by simp at hs⟩
      · exact ⟨by have := growth_len (ls.take n.toNat) i.toNat true; rw [List.length_take] at this; simp only; omega, growth_bound _ _ _⟩
  have hyb : (entryV ls i).1.length ≤ 256 := by
    unfold entryV
    split
    · simp
    · exact get_small (by omega) (long_false hlg)
  obtain ⟨⟨x, e⟩, hr⟩ : ∃ X, rootAtV ls n = X := ⟨_, rfl⟩
  obtain ⟨⟨y, f⟩, hy⟩ : ∃ X, entryV ls i = X := ⟨_, rfl⟩
  obtain ⟨⟨S, g⟩, hS⟩ : ∃ X, includeV ls i n = X := ⟨_, rfl⟩
  obtain ⟨⟨H, k⟩, hH⟩ : ∃ X, lextV ls i n = X := ⟨_, rfl⟩
  obtain ⟨R, hR⟩ : ∃ R, rootV ls = R := ⟨_, rfl⟩
  rw [hr] at R1 R2
  rw [hy] at E1 E2 hyb
  rw [hS] at I1 I2 hib
  rw [hH] at X1 X2 hxb
  rw [hR] at T1 T2
  dsimp only at R1 R2 E1 E2 I1 I2 X1 X2 hib hxb hyb
  have HIB := hide hib
  have HXB := hide hxb
  have HYB := hide hyb
  have HBW := hide hb1
  have HP := hide hp
  have KK : Hid (∀ w', Below W.heap.size W w' → w'.cell? ⟨p, 0, none⟩ = some (.slice A q c)) := fun w' hb => (hc1.below hb).facts.1
  have u0 := hc1.facts.1
  clear h hx hA hq hlg hsm hlen hl hb1 hc1 hg hX hib hxb hyb hr hy hS hH hR
  go_enter Tryd.func42, Tryd.ntmps42
  go_wp2_with fail
  refine (R1.out _ (Below.refl _ _)).mono ?_
  rintro _ w1 ⟨rfl, hb⟩
  have HB1 := hide hb
  have u1 := KK.out w1 hb
  clear hb u0 hp hW
  go_wp2_with fail
  refine (R2.out _ HB1.out).mono ?_
  rintro _ w2 ⟨rfl, hb⟩
  have HB2 := hide (HB1.out.trans (hb.mono HB1.out.size))
  clear hb u1 HB1
  have zx : ((x : Int) != (x : Int)) = false := by simp
  have ze : (e != e) = false := by simp
  have zq : ((q : Int) != (q : Int)) = false := by simp
  have zR : ((R : Int) != (R : Int)) = false := by simp
  have HD := hide (HB2.out.trans (((Gr.refl w2).drew).below.mono HB2.out.size))
  go_wp2_with fail
  go_region_held3 (fun w' => w'.cell? ⟨p, 0, none⟩ = some (.slice A q c)) (first | exact KK.out _ HD.out | exact KK.out _ HB3.out | exact KK.out _ HB4.out) (first | (go_at_call 49; (with_reducible refine (L1.out _ HD.out).mono ?_); rintro _ w3 ⟨rfl, rfl⟩) | (go_at_call 50; (with_reducible refine (T1.out _ HD.out).mono ?_); rintro _ w3 ⟨rfl, hb3⟩; have HB3 := hide (HD.out.trans (hb3.mono HD.out.size)); clear hb3) | (go_at_call 57; (with_reducible refine (T2.out _ HB3.out).mono ?_); rintro _ w4 ⟨rfl, hb4⟩; have HB4 := hide (HB3.out.trans (hb4.mono HB3.out.size)); clear hb4))
  clear zx zq zR R1 R2 L1 T1 T2 HD HB2 HB3
  go_wp2_with fail
  refine (E1.out _ HB4.out).mono ?_
  rintro _ w5 ⟨a5, c5, rfl, ho, hb⟩
  have HB5 := hide (HB4.out.trans (hb.mono HB4.out.size))
  have HO5 := hide ho
  have H45 := hide hb
  have u5 := KK.out w5 HB5.out
  clear ho hb
  go_wp2_with fail
  refine (E2.out _ HB5.out).mono ?_
  rintro _ w6 ⟨a6, n6, c6, rfl, hy6, hb⟩
  have HB6 := hide (HB5.out.trans (hb.mono HB5.out.size))
  have ho6 := own_keep HO5.out hb (Nat.le_refl _)
  have hy5 := bytes_of_own ho6
  have HOB : Hid (OwnB w4.heap.size w6 a5 y.length c5) := ownB_of ho6 rfl
  have H46 := hide (H45.out.trans (hb.mono H45.out.size))
  obtain ⟨m, hm⟩ : ∃ m, y.length = m := ⟨_, rfl⟩
  rw [hm] at hy5 HOB
  (try rw [hm])
  have q1 := conv_any hy5 c5
  have q2 := conv_any hy6 c6
  obtain ⟨t1, ht1⟩ : ∃ s, strOfNums (numsB y) = s := ⟨_, rfl⟩
  rw [ht1] at q1 q2
  have zt : (t1.toList == t1.toList) = true := by simp
  have zf : (f != f) = false := by simp
  have HMB : Hid (m ≤ 256) := by show m ≤ 256; rw [← hm]; exact HYB.out
  clear ho6 hy5 hy6 hb ht1 HO5 H45 u5 E1 E2 hm
  go_wp2_with fail
  go_loopw [15] (fun vi wr => ∃ k : Nat, k ≤ m ∧ vi = .int .i64 k ∧ Hid (OwnB w4.heap.size wr a5 m c5 ∧ Below w4.heap.size w4 wr)) (fun vi _ => m - (intOf vi).toNat)
  case atStart => exact ⟨0, Nat.zero_le _, rfl, HOB.out, H46.out⟩
  case round =>
    obtain ⟨k, hk, rfl, HK⟩ := hrel
    obtain ⟨wk, rfl⟩ : ∃ wk, wk = wr := ⟨_, rfl⟩
    by_cases hlt : k < m
    · have hlt' : (k : Int) < (m : Int) := by omega
      have hm256 : (m : Int) ≤ 256 := by have := HMB.out; omega
      obtain ⟨g, x, rfl, hg, cg, fg, hset⟩ := HK.out.1.at_ hlt
      have HSET := hide hset
      have HG := hide hg
      have HLK := hide hlt
      have HBL := hide HK.out.2
      clear hset hg hlt hk
      go_wp2_with fail
      go_roundw
      case measure => have := HLK.out; simp [intOf]; omega
      exact ⟨k + 1, by have := HLK.out; omega, by go_num, HSET.out _, HBL.out.setCell (p := ⟨g, k, none⟩) HG.out _⟩
    · obtain rfl : k = m := by omega
      have HB7 := hide (HB4.out.trans (HK.out.2.mono HB4.out.size))
      obtain ⟨sn, hsn⟩ : ∃ n, S.length = n := ⟨_, rfl⟩
      obtain ⟨hn, hhn⟩ : ∃ n, H.length = n := ⟨_, rfl⟩
      rw [hsn] at I1 I2 HIB
      rw [hhn] at X1 X2 HXB
      have HSN := hide (And.intro hsn hhn)
      clear hlt hk HOB H46 zt hsn hhn
      go_wp2_with fail
      refine (I1.out _ HB7.out).mono ?_
      rintro _ w8 ⟨a8, c8, rfl, ho, hb⟩
      have HB8 := hide (HB7.out.trans (hb.mono HB7.out.size))
      have HS8 : Hid (StepsAt w8.heap.size w8 a8 sn S) := steps_of_own ho HIB.out.2
      have u8 := KK.out w8 HB8.out
      clear ho hb I1
      go_wp2_with fail
      refine (I2.out _ HB8.out).mono ?_
      rintro _ w9 ⟨a9, c9, rfl, ho, hb⟩
      have HB9 := hide (HB8.out.trans (hb.mono HB8.out.size))
      have HS9 : Hid (StepsAt w9.heap.size w9 a9 sn S) := steps_of_own ho HIB.out.2
      have HSS := hide (steps_same a8 sn c8 a9 c9 S w9 (HS8.out.now hb (Nat.le_refl _)) HS9.out HIB.out.1)
      have zg : ((g : Int) != g) = false := by simp
      clear ho hb I2 u8 HS8
      go_wp2_with fail
      refine HSS.out.mono ?_
      rintro _ w10 ⟨rfl, hb⟩
      have HB10 := hide (HB9.out.trans (hb.mono HB9.out.size))
      clear hb HSS
      go_wp2_with fail
      refine (X1.out _ HB10.out).mono ?_
      rintro _ w11 ⟨a11, c11, rfl, ho, hb⟩
      have HB11 := hide (HB10.out.trans (hb.mono HB10.out.size))
      have HH11 : Hid (HashesAt w11.heap.size w11 a11 hn H) := hashes_of_own ho HXB.out.2
      have u11 := KK.out w11 HB11.out
      clear ho hb X1
      go_wp2_with fail
      refine (X2.out _ HB11.out).mono ?_
      rintro _ w12 ⟨a12, c12, rfl, ho, hb⟩
      have HB12 := hide (HB11.out.trans (hb.mono HB11.out.size))
      have HH12 : Hid (HashesAt w12.heap.size w12 a12 hn H) := hashes_of_own ho HXB.out.2
      have HSS := hide (hashes_same a11 hn c11 a12 c12 H w12 (HH11.out.now hb (Nat.le_refl _)) HH12.out HXB.out.1)
      clear ho hb X2 u11 HH11
      go_wp2_with fail
      refine HSS.out.mono ?_
      rintro _ w13 ⟨rfl, hb⟩
      have HB13 := hide (HB12.out.trans (hb.mono HB12.out.size))
      clear hb HSS
      go_wp2_with fail
      go_ret
      exact ⟨by simp, HBW.out.trans (HB13.out.mono HBW.out.size)⟩
end Go.Proofs.YtbinmkigolkhcaaDoor
