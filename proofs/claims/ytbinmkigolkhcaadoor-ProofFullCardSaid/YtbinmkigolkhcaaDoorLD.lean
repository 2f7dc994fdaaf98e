/- ProofFull. -/
import Derived.Test.YtbinmkigolkhcaaDoorLB
set_option linter.unusedSimpArgs false
set_option linter.unusedVariables false
namespace Go.Proofs.YtbinmkigolkhcaaDoor
open Go.RowKit Go.Sort
attribute [local go_sem] Oper.semAt_some

def entF (k : Nat) : List UInt8 := [UInt8.ofNat (k % 256), UInt8.ofNat (k / 256 % 256)]
def fullN : Nat → List (List UInt8)
  | 0 => []
  | k + 1 => fullN k ++ [entF k]
theorem full_length : ∀ k, (fullN k).length = k
  | 0 => rfl
  | k + 1 => by rw [fullN, List.length_append, full_length k]; rfl
theorem full_get : ∀ k i, i < k → (fullN k).getD i [] = entF i
  | 0, i, h => by omega
  | k + 1, i, h => by
    rw [fullN, List.getD_eq_getElem?_getD]
    rcases Nat.lt_or_ge i k with h1 | h1
    · rw [List.getElem?_append_left (by rw [full_length]; exact h1), ← List.getD_eq_getElem?_getD, full_get k i h1]
    · obtain rfl : i = k := by omega
      rw [List.getElem?_append_right (by rw [full_length]; exact Nat.le_refl _), full_length, Nat.sub_self]
      rfl
theorem full_small : ∀ k, ∀ l ∈ fullN k, l.length ≤ 256
  | 0, l, h => by simp [fullN] at h
  | k + 1, l, h => by
    rw [fullN] at h
    rcases List.mem_append.1 h with h1 | h1
    · exact full_small k l h1
    · rw [List.mem_singleton] at h1; rw [h1]; simp [entF]
theorem half_pow (j : Nat) : halfN (2 ^ (j + 1)) = 2 ^ j := half_uniq (Nat.pow_lt_pow_right (by decide) (by omega)) (Nat.le_refl _)
theorem steps_exact : ∀ (j : Nat) (l : List (List UInt8)) (i : Nat), l.length = 2 ^ j → (stepsV l i).length = j
  | 0, l, i, h => by rw [steps_1 (by rw [h])]; rfl
  | j + 1, l, i, h => by
    have hp := Nat.two_pow_pos j
    have hs : (2 : Nat) ^ (j + 1) = 2 ^ j * 2 := Nat.pow_succ ..
    have hh : halfN l.length = 2 ^ j := by rw [h, half_pow]
    rcases Nat.lt_or_ge i (halfN l.length) with hk | hk
    · rw [steps_lo (by omega) hk, List.length_append, steps_exact j _ i (by rw [List.length_take, hh]; omega)]
      rfl
    · rw [steps_hi (by omega) hk, List.length_append, steps_exact j _ _ (by rw [List.length_drop, hh]; omega)]
      rfl
theorem addV_full {k : Nat} (h : k < 4096) : addV (fullN k) (entF k) = ((k, 0), fullN (k + 1)) := by
  unfold addV
  rw [if_neg (by simp [entF]), if_neg (by rw [full_length]; omega), full_length]
  rfl
theorem addV_over : addV (fullN 4096) [] = ((0, 8), fullN 4096) := by
  unfold addV
  rw [if_neg (by decide), if_pos (full_length 4096)]

theorem bytes_two {w : World} {k : Nat} (hk : k < 65536) : BytesAt (w.alloc (.cells #[.int .u8 ((k : Int) % 256), .int .u8 ((k : Int) / 256)] 5)).heap.size (w.alloc (.cells #[.int .u8 ((k : Int) % 256), .int .u8 ((k : Int) / 256)] 5)) (some ⟨w.heap.size, 0, none⟩) 2 (entF k) := by
  refine ⟨rfl, .inr ⟨w.heap.size, 0, rfl, by simp, fun i hi => ?_⟩⟩
  have hb := heap_alloc_new w (.cells #[.int .u8 ((k : Int) % 256), .int .u8 ((k : Int) / 256)] 5)
  rcases (by omega : i = 0 ∨ i = 1) with rfl | rfl
  · have e : (UInt8.ofNat (k % 256)).toNat = k % 256 := by simp
    unfold World.cell?
    rw [hb]
    show some (Value.int .u8 ((k : Int) % 256)) = some (.int .u8 ((UInt8.ofNat (k % 256)).toNat : Nat))
    rw [e]
    rfl
  · have e : (UInt8.ofNat (k / 256 % 256)).toNat = k / 256 := by simp; omega
    unfold World.cell?
    rw [hb]
    show some (Value.int .u8 ((k : Int) / 256)) = some (.int .u8 ((UInt8.ofNat (k / 256 % 256)).toNat : Nat))
    rw [e]
    rfl
theorem take_full (k : Nat) (h : k = 4096) : (fullN 4096).take k = fullN 4096 := List.take_of_length_le (by rw [full_length]; omega)
set_option maxHeartbeats 4000000 in
set_option maxRecDepth 100000 in
theorem full_law (i m : Nat) (w : World) (hE : Env w) (hi : i < 65536) (hm : m < 65536) :
    Calls Tryd.prog 15 #[.int .u16 i, .int .u16 m] w (TrueP w) := by
  have mixed := mixedOrders
  have HNW := hide (New_any w)
  have hg0 := new_good w
  obtain ⟨W1, hW1⟩ : ∃ W1, w.alloc (.cells #[.bool true, .slice none 0 0, .slice none 0 0] 65) = W1 := ⟨_, rfl⟩
  have hB1 : Below w.heap.size w W1 := by rw [← hW1]; exact (Below.refl _ w).alloc (Nat.le_refl _) _
  have hs1 : w.heap.size + 1 ≤ W1.heap.size := by rw [← hW1]; simp
  obtain ⟨p, hp⟩ : ∃ p, w.heap.size = p := ⟨_, rfl⟩
  rw [hW1] at HNW hg0
  rw [hp] at hg0 hB1 hs1 HNW
  have HI0 : Hid (LogInv p w W1 (fullN 0)) := ⟨hg0, hB1, hs1⟩
  have HE := hide hE
  have HP := hide hp
  have HIM := hide (And.intro hi hm)
  clear hE hg0 hB1 hs1 hW1 hp hi hm
  go_enter Tryd.func15, Tryd.ntmps15
  go_wp2_with fail
  refine HNW.out.mono ?_
  rintro e w2 ⟨rfl, rfl⟩
  clear HNW
  go_wp2_with fail
  go_loopw [6] (fun vi wr => ∃ k : Nat, k ≤ 4096 ∧ vi = .int .i64 k ∧ Hid (LogInv p w wr (fullN k))) (fun vi _ => 4096 - (intOf vi).toNat)
  case atStart => exact ⟨0, Nat.zero_le _, rfl, HI0⟩
  case round =>
    obtain ⟨k, hk, rfl, HI⟩ := hrel
    by_cases hlt : k < 4096
    · have hlt' : (k : Int) < 4096 := by omega
      have HC := hide (Add_good p wr (wr.alloc (.cells #[.int .u8 ((k : Int) % 256), .int .u8 ((k : Int) / 256)] 5)) p (fullN k) HI.out.1 ((Below.refl _ wr).alloc (Nat.le_refl _) _) (by rw [full_length]; omega) (some ⟨wr.heap.size, 0, none⟩) 2 2 (entF k) (bytes_two (by omega)) (fun _ a ha => .inr (by injection ha with ha; rw [← ha]; exact Nat.le_refl _)) (by rw [← HP.out]; exact HE.out.1) (by have := HI.out.2.2; simp; omega)
        (HE.out.after (by rw [HP.out]; exact HI.out.2.1.alloc (by have := HI.out.2.2; omega) _)).2)
      rw [addV_full hlt] at HC
      have HC1 : Hid (Calls Tryd.prog 44 #[.pointer (some ⟨p, 0, none⟩), .slice (some ⟨wr.heap.size, 0, none⟩) 2 2] (wr.alloc (.cells #[.int .u8 ((k : Int) % 256), .int .u8 ((k : Int) / 256)] 5)) fun e w' => e = .returned (.tuple #[.int .i64 (k : Nat), .int .i64 0]) ∧ Below p (wr.alloc (.cells #[.int .u8 ((k : Int) % 256), .int .u8 ((k : Int) / 256)] 5)) w' ∧ GoodLog p w' p (fullN (k + 1)) ∧ (wr.alloc (.cells #[.int .u8 ((k : Int) % 256), .int .u8 ((k : Int) / 256)] 5)).heap.size ≤ w'.heap.size) := HC.out
      have zk : ((k : Int) != (k : Int)) = false := by simp
      have HLT := hide hlt
      clear HC hlt hk
      go_wp2_with fail
      refine HC1.out.mono ?_
      rintro e w3 ⟨rfl, hb, hg, hs⟩
      have HI3 : Hid (LogInv p w w3 (fullN (k + 1))) := ⟨hg, (HI.out.2.1.alloc (by have := HI.out.2.2; omega) _).trans hb, by have := HI.out.2.2; simp at hs; omega⟩
      clear hb hg hs HC1
      go_wp2_with fail
      have hq := HLT.out
      exact ⟨⟨k + 1, by omega, by go_num, HI3⟩, by simp [intOf]; omega⟩
    · obtain rfl : k = 4096 := by omega
      obtain ⟨G, hG⟩ : ∃ G, fullN 4096 = G := ⟨_, rfl⟩
      have hGl : G.length = 4096 := by rw [← hG]; exact full_length 4096
      have C0 := hide (Add_good p wr wr p G (by rw [← hG]; exact HI.out.1) (Below.refl _ wr) (by omega) none 0 0 [] ⟨rfl, .inl rfl⟩ (fun h => by omega) (by rw [← HP.out]; exact HE.out.1) (by have := HI.out.2.2; omega) (HE.out.after (by rw [HP.out]; exact HI.out.2.1)).2)
      have hov : addV G [] = ((0, 8), G) := by rw [← hG]; exact addV_over
      rw [hov] at C0
      have C0' : Hid (Calls Tryd.prog 44 #[.pointer (some ⟨p, 0, none⟩), .slice none 0 0] wr fun e w' => e = .returned (.tuple #[.int .i64 0, .int .i64 8]) ∧ Below p wr w' ∧ GoodLog p w' p G ∧ wr.heap.size ≤ w'.heap.size) := C0.out
      obtain ⟨at_, hat⟩ : ∃ a, i % 4096 = a := ⟨_, rfl⟩
      obtain ⟨fr, hfr⟩ : ∃ f, 1 + m % 4096 = f := ⟨_, rfl⟩
      have ha1 : at_ < 4096 := by omega
      have hf1 : 1 ≤ fr ∧ fr ≤ 4096 := by omega
      have ea : (i : Int) % 4096 = (at_ : Int) := by omega
      have ef : 1 + (m : Int) % 4096 = (fr : Int) := by omega
      have e1 : includeV G at_ 4096 = (stepsV G at_, 0) := by
        unfold includeV
        rw [if_neg (by omega), Int.toNat_natCast]
        show (stepsV (G.take 4096) at_, (0 : Int)) = _
        rw [List.take_of_length_le (by omega)]
      have e2 : (stepsV G at_).length = 12 := steps_exact 12 G at_ (by rw [hGl])
      have hsm : ∀ l ∈ G, l.length ≤ 256 := by rw [← hG]; exact full_small 4096
      have e3 := include_taken (ls := G) (i := at_) (by omega) hsm (by omega)
      have e4 : G.getD at_ [] = entF at_ := by rw [← hG]; exact full_get 4096 at_ ha1
      rw [e4, hGl] at e3
      have e5 := lex_taken (ls := G) (m := fr) hf1.1 (by omega)
      rw [hGl] at e5
      have e6 := extend_taken (ls := G) (m := fr) hf1.1 (by omega) (by omega)
      rw [hGl] at e6
      have e7 : rootAtV G fr = (rootV (G.take fr), 0) := by
        unfold rootAtV
        rw [if_neg (by omega), Int.toNat_natCast]
      have hsb := steps_bound G at_
      have hgb := growth_bound G fr true
      have hgl := growth_len G fr true
      have hol := rootV_lt (G.take fr)
      obtain ⟨R, hR⟩ : ∃ R, rootV G = R := ⟨_, rfl⟩
      obtain ⟨O, hO⟩ : ∃ O, rootV (G.take fr) = O := ⟨_, rfl⟩
      obtain ⟨L, hL⟩ : ∃ L, stepsV G at_ = L := ⟨_, rfl⟩
      obtain ⟨GR, hGR⟩ : ∃ GR, growthV G fr true = GR := ⟨_, rfl⟩
      rw [hL] at e1 e2 e3 hsb
      rw [hR] at e3 e6
      rw [hO] at e6 e7 hol
      rw [hGR] at e5 e6 hgb hgl
      have HIN : Hid (∀ w9, LogInv p w w9 G → Calls Tryd.prog 47 #[.pointer (some ⟨p, 0, none⟩), .int .i64 at_, .int .i64 4096] w9 (TwoSteps (L, 0) w9)) := by
        intro w9 h
        have := Include_good h.1 (by omega) at_ 4096
        rw [e1] at this
        exact this
      have HRT : Hid (∀ w9, LogInv p w w9 G → Calls Tryd.prog 50 #[.pointer (some ⟨p, 0, none⟩)] w9 fun e w' => e = .returned (.int .u64 (R : Nat)) ∧ Below w9.heap.size w9 w') := by
        intro w9 h
        rw [← hR]
        exact Root_good h.1 (by omega)
      have HXT : Hid (∀ w9, LogInv p w w9 G → Calls Tryd.prog 48 #[.pointer (some ⟨p, 0, none⟩), .int .i64 fr, .int .i64 4096] w9 (TwoHashes (GR, 0) w9)) := by
        intro w9 h
        have := Extend_good h.1 (by omega) fr 4096
        rw [show ((4096 : Int)) = ((4096 : Nat) : Int) from rfl, e5] at this
        exact this
      have HRA : Hid (∀ w9, LogInv p w w9 G → Calls Tryd.prog 45 #[.pointer (some ⟨p, 0, none⟩), .int .i64 fr] w9 fun e w' => e = .returned (.tuple #[.int .u64 (O : Nat), .int .i64 0]) ∧ Below w9.heap.size w9 w') := by
        intro w9 h
        have := RootAt_good h.1 (by omega) fr
        rw [e7] at this
        exact this
      have HLN : Hid (∀ w9, LogInv p w w9 G → Calls Tryd.prog 49 #[.pointer (some ⟨p, 0, none⟩)] w9 fun e w' => e = .returned (.int .i64 4096) ∧ w9 = w') := by
        intro w9 h
        have := Len_good h.1
        rw [hGl] at this
        exact this
      have HID : Hid (∀ (w9 : World) A c (S : Option Addr) d, BytesAt w9.heap.size w9 A 2 (entF at_) → StepsAt w9.heap.size w9 S 12 L → Calls Tryd.prog 32 #[.slice A 2 c, .int .i64 at_, .int .i64 4096, .int .u64 R, .slice S 12 d] w9 fun e w' => e = .returned (.tuple #[.bool true, .int .i64 0]) ∧ Below w9.heap.size w9 w') := by
        intro w9 A c S d h h2
        have := Included_any A 2 c (entF at_) at_ 4096 R S 12 d L w9 h h2 (by omega)
        rw [show ((4096 : Int)) = ((4096 : Nat) : Int) from rfl, e3] at this
        exact this
      have HXD : Hid (∀ (w9 : World) A9 c9, HashesAt w9.heap.size w9 A9 GR.length GR → GR.length ≤ c9 → Calls Tryd.prog 36 #[.int .i64 fr, .int .i64 4096, .int .u64 O, .int .u64 R, .slice A9 GR.length c9] w9 fun e w' => e = .returned (.tuple #[.bool true, .int .i64 0]) ∧ Below w9.heap.size w9 w') := by
        intro w9 A9 c9 h h2
        have := Extended_any fr 4096 O R A9 GR.length c9 GR w9 h h2 (by omega) hol
        rw [show ((4096 : Int)) = ((4096 : Nat) : Int) from rfl, e6] at this
        exact this
      have HIG : Hid (LogInv p w wr G) := by rw [← hG]; exact HI.out
      have HSB := hide hsb
      have HGB := hide hgb
      have HL12 := hide e2
      have HEA := hide (And.intro ea ef)
      have HA1 := hide ha1
      have im1 : (i : Int) < 65536 := by have := HIM.out.1; omega
      have im2 : (m : Int) < 65536 := by have := HIM.out.2; omega
      clear hG hGl C0 hov hat hfr ha1 hf1 ea ef e1 e2 hsm e3 e4 e5 e6 e7 hsb hgb hgl hol hR hO hL hGR HI HI0 hk hlt
      go_wp2_with fail
      refine C0'.out.mono ?_
      rintro e w3 ⟨rfl, hb, hg, hs⟩
      have HI3 : Hid (LogInv p w w3 G) := ⟨hg, HIG.out.2.1.trans hb, Nat.le_trans HIG.out.2.2 hs⟩
      clear hb hg hs C0'
      go_wp2_with fail
      rw [HEA.out.1, HEA.out.2]
      have CI := hide (HIN.out w3 HI3.out)
      refine CI.out.mono ?_
      rintro e w4 ⟨a4, c4, rfl, ho, hb⟩
      have HI4 := hide (HI3.out.later hb)
      have ho' : w4.ownsRow w3.heap.size 41 2 (.slice a4 L.length c4) L.length (cellsS L) := ho
      have hst := steps_of_own ho' HSB.out
      rw [HL12.out] at hst
      have HST := hide hst
      have hA1 : (at_ : Int) < 4096 := by have := HA1.out; omega
      clear ho ho' hst hb CI
      (try dsimp only)
      rw [HL12.out]
      go_wp2_with fail
      have hal : Below w4.heap.size w4 (w4.alloc (.cells #[.int .u8 ((at_ : Int) % 256), .int .u8 ((at_ : Int) / 256)] 5)) := (Below.refl _ w4).alloc (Nat.le_refl _) _
      have HI5 := hide (HI4.out.later hal)
      have HST5 := hide (HST.out.now hal (Nat.le_refl _))
      have HBT : Hid (BytesAt (w4.alloc (.cells #[.int .u8 ((at_ : Int) % 256), .int .u8 ((at_ : Int) / 256)] 5)).heap.size (w4.alloc (.cells #[.int .u8 ((at_ : Int) % 256), .int .u8 ((at_ : Int) / 256)] 5)) (some ⟨w4.heap.size, 0, none⟩) 2 (entF at_)) := bytes_two (by have := HA1.out; omega)
      refine (HRT.out _ HI5.out).mono ?_
      rintro e w6 ⟨rfl, hb⟩
      have HI6 := hide (HI5.out.later hb)
      have CD := hide (HID.out w6 _ 2 a4 c4 (HBT.out.now hb (Nat.le_refl _)) (HST5.out.now hb (Nat.le_refl _)))
      clear hb hal
      go_wp2_with fail
      refine CD.out.mono ?_
      rintro e w7 ⟨rfl, hb⟩
      have HI7 := hide (HI6.out.later hb)
      have CX := hide (HXT.out w7 HI7.out)
      clear hb CD
      go_wp2_with fail
      refine CX.out.mono ?_
      rintro e w8 ⟨a8, c8, rfl, ho, hb⟩
      have HI8 := hide (HI7.out.later hb)
      have ho' : w8.ownsRow w7.heap.size 24 1 (.slice a8 GR.length c8) GR.length (cellsP GR) := ho
      have HH8 := hide (hashes_of_own ho' HGB.out)
      have HC8 := hide (own_addr ho').1
      have CA := hide (HRA.out w8 HI8.out)
      clear ho ho' hb CX
      (try dsimp only)
      go_wp2_with fail
      refine CA.out.mono ?_
      rintro e w9 ⟨rfl, hb⟩
      have HI9 := hide (HI8.out.later hb)
      have HH9 := hide (HH8.out.now hb (Nat.le_refl _))
      clear hb CA
      go_wp2_with fail
      refine (HRT.out _ HI9.out).mono ?_
      rintro e w10 ⟨rfl, hb⟩
      have HI10 := hide (HI9.out.later hb)
      have CE := hide (HXD.out w10 a8 c8 (HH9.out.now hb (Nat.le_refl _)) HC8.out)
      clear hb
      go_wp2_with fail
      refine CE.out.mono ?_
      rintro e w11 ⟨rfl, hb⟩
      have HI11 := hide (HI10.out.later hb)
      have CL := hide (HLN.out w11 HI11.out)
      have HAL := hide (alive_env (HE.out.after (by rw [HP.out]; exact HI11.out.2.1)))
      clear hb CE
      go_wp2_with fail
      refine CL.out.mono ?_
      rintro e w11 ⟨rfl, rfl⟩
      go_wp2_with fail
      refine HAL.out.mono ?_
      rintro e w12 ⟨rfl, hb⟩
      go_wp2_with fail
      go_ret
      exact ⟨rfl, by rw [HP.out]; exact HI11.out.2.1.trans (hb.mono (by have := HI11.out.2.2; omega))⟩
end Go.Proofs.YtbinmkigolkhcaaDoor
