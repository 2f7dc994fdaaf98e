/- The specification's way and proof. -/
import Derived.Test.YtbinmkigolkhcaaDoorHW
import Derived.Deep.AppendLies
set_option linter.unusedSimpArgs false
set_option linter.unusedVariables false
namespace Go.Proofs.YtbinmkigolkhcaaDoor
open Go.RowKit Go.Sort
attribute [local go_sem] Oper.semAt_some

set_option maxHeartbeats 4000000 in
set_option maxRecDepth 100000 in
theorem way_any : ∀ (N n i : Nat) (A : Option Addr) (c : Nat) (ls : List (List UInt8)) (w : World), n ≤ N → 1 ≤ n → i < n → n ≤ 1000000 → ListsAt w.heap.size w A n ls → n ≤ c → Small ls →
    Calls Tryd.prog 62 #[.slice A n c, .int .i64 i] w (StepsPost (stepsV ls i) w) := by
  have mixed := mixedOrders
  obtain ⟨i0, hi0, hz0, hz1, hz2⟩ := info_parts info41
  intro N
  induction N with
  | zero => intro n i A c ls w hN h1; omega
  | succ N ih =>
    intro n i A c ls w hN h1 hi hm hx hc hsm
    rcases Nat.lt_or_ge n 2 with hs | hs
    · obtain rfl : n = 1 := by omega
      rw [steps_1 hx.1]
      clear hsm
      go_enter Tryd.func62, Tryd.ntmps62
      go_wp2
      go_ret
      exact ⟨none, 0, rfl, World.ownsRow_nil _ _ _ _, Below.refl _ _⟩
    · obtain ⟨b, off, -, -, -, rfl, hb, -, -, -⟩ := hx.at_ (i := 0) (by omega)
      have HH := hide (refhalf_any n hs hm w)
      obtain ⟨p1, p2⟩ := halfN_lt hs
      have z1 : ¬ (n : Int) < 2 := by omega
      have hlen := hx.1
      have hd : Below w.heap.size w w.drew := ((Gr.refl w).drew).below
      rcases Nat.lt_or_ge i (halfN n) with hi2 | hi2
      · have HE := hide (steps_lo (l := ls) (i := i) (by omega) (by rw [hlen]; exact hi2))
        have HL := hide (steps_len (ls.take (halfN n)) i)
        rw [hlen] at HE
        obtain ⟨m, hmm⟩ : ∃ m, halfN n = m := ⟨_, rfl⟩
        rw [hmm] at p1 p2 HH HE hi2 HL
        have q1 : (i : Int) < (m : Int) := by omega
        have C1 := hide (ih m i (some ⟨b, off, none⟩) c (ls.take m) w.drew (by omega) p2 hi2 (by omega) ((hx.take (k := m) (by omega)).now hd (Nat.le_refl _)) (by omega) (hsm.take m))
        have C2 : Hid (∀ w1, Below w.heap.size w w1 → Calls Tryd.prog 57 #[.slice (some ⟨b, off + m, none⟩) (n - m) (c - m)] w1 fun e w' => e = .returned (.int .u64 (rootV (ls.drop m) : Nat)) ∧ Below w1.heap.size w1 w') := fun w1 hb1 => Top_any (n - m) (n - m) (some ⟨b, off + m, none⟩) (c - m) (ls.drop m) w1 (Nat.le_refl _) ((hx.drop (k := m) (by omega)).now hb1 (Nat.le_refl _)) (by omega) (by omega) (hsm.drop m)
        have hLb : (ls.take m).length ≤ 1000000 := by rw [List.length_take]; omega
        unfold StepsPost at C1 ⊢
        obtain ⟨L, hL⟩ : ∃ L, stepsV (ls.take m) i = L := ⟨_, rfl⟩
        rw [hL] at HE HL C1
        obtain ⟨r, hr⟩ : ∃ r, rootV (ls.drop m) = r := ⟨_, rfl⟩
        rw [hr] at C2
        rw [HE.out, hr]
        have hk := HL.out
        have HBB := hide (show L.length + 1 ≤ maxLen by unfold maxLen; omega)
        have HBC := hide (show (L.length + 1) * 16 ≤ 140737488355328 by omega)
        have g3 : (m : Int) ≤ (n : Int) := by omega
        have g4 : (m : Int) ≤ (c : Int) := by omega
        have hcm : ¬ c = m := by omega
        have HD := hide hd
        clear ih hN h1 hi hm hs p2 hi2 hmm hx hlen hb HL hL hr hk hd hLb hsm HE
        go_enter Tryd.func62, Tryd.ntmps62
        go_wp2_with fail
        refine HH.out.mono ?_
        rintro e w1 ⟨rfl, rfl⟩
        go_wp2_with fail
        go_region_held3 (fun w' => Hid (Below w.heap.size w w')) (first | exact HD | exact HB2 | exact HB3 | exact HB5 | exact (Below.refl _ _) | exact (HB3.out.alloc HB3.out.size _))
          (first | (go_at_call 62; (with_reducible refine C1.out.mono ?_); rintro e w2 ⟨a, c2, rfl, ho2, hb2⟩; have HO2 := hide ho2; have HB2 := hide (HD.out.trans (hb2.mono HD.out.size)); clear ho2 hb2) | (go_at_call 57; (with_reducible refine (C2.out _ HB2.out).mono ?_); rintro e w3 ⟨rfl, hb3⟩; have HO3 : Hid (w3.ownsRow w.heap.size 41 2 (.slice a L.length c2) L.length (cellsS L)) := own_keep HO2.out hb3 HD.out.size; have HB3 := hide (HB2.out.trans (hb3.mono HB2.out.size)); clear hb3) | (refine step_append_lies _ (by rfl) _ _ _ (by rfl) w.heap.size 41 i0 _ 2 16 Tryd.underlying33 hi0 hz0 hz1 hz2 rfl (by omega) (.slice a L.length c2) L.length (cellsS L) (by rfl) (HO3.out.alloc _) ⟨w3.heap.size, 0, none⟩ 1 1 [.int .u64 (r : Nat), .bool false] (by rfl) (by rfl) (World.news_of_block (cs := #[.int .u64 (r : Nat), .bool false]) (t := 41) (fr := (0, 0)) (heap_alloc_new w3 _)) (by simp [Value.oneCell']) (by omega) HBB.out HBC.out (by have := HB3.out.size; simp; omega) (w3.heap.size + 1) (by simp) ?_; intro g5 c5 w5 hown hgrow hat hlt5; have HOWN := hide hown; have HB5 := hide ((HB3.out.alloc HB3.out.size (.cells #[.int .u64 (r : Nat), .bool false] 41)).trans (below_own (HO3.out.alloc _) hgrow (Nat.le_refl _) (by have := HB3.out.size; simp; omega))); clear hown hgrow hat))
        go_wp2
        go_ret
        refine ⟨_, c5, by rw [List.length_append]; rfl, ?_, HB5.out⟩
        rw [List.length_append, cellsS_snoc]
        exact HOWN.out
      · have HE := hide (steps_hi (l := ls) (i := i) (by omega) (by rw [hlen]; exact hi2))
        have HL := hide (steps_len (ls.drop (halfN n)) (i - halfN n))
        rw [hlen] at HE
        obtain ⟨m, hmm⟩ : ∃ m, halfN n = m := ⟨_, rfl⟩
        rw [hmm] at p1 p2 HH HE hi2 HL
        have q1 : ¬ (i : Int) < (m : Int) := by omega
        have s1 : wrap64 ((i : Int) - (m : Int)) = ((i - m : Nat) : Int) := by rw [IntWalk.wrap64_in _ (by omega)]; omega
        have s2 : IntKind.i64.wrap ((i : Int) - (m : Int)) = ((i - m : Nat) : Int) := by rw [IntWalk.i64_in _ (by omega)]; omega
        obtain ⟨i2, hi3⟩ : ∃ i2, i - m = i2 := ⟨_, rfl⟩
        rw [hi3] at s1 s2 HE HL
        have C1 := hide (ih (n - m) i2 (some ⟨b, off + m, none⟩) (c - m) (ls.drop m) w.drew (by omega) (by omega) (by omega) (by omega) ((hx.drop (k := m) (by omega)).now hd (Nat.le_refl _)) (by omega) (hsm.drop m))
        have C2 : Hid (∀ w1, Below w.heap.size w w1 → Calls Tryd.prog 57 #[.slice (some ⟨b, off, none⟩) m c] w1 fun e w' => e = .returned (.int .u64 (rootV (ls.take m) : Nat)) ∧ Below w1.heap.size w1 w') := fun w1 hb1 => Top_any m m (some ⟨b, off, none⟩) c (ls.take m) w1 (Nat.le_refl _) ((hx.take (k := m) (by omega)).now hb1 (Nat.le_refl _)) (by omega) (by omega) (hsm.take m)
        have hLb : (ls.drop m).length ≤ 1000000 := by rw [List.length_drop]; omega
        unfold StepsPost at C1 ⊢
        obtain ⟨L, hL⟩ : ∃ L, stepsV (ls.drop m) i2 = L := ⟨_, rfl⟩
        rw [hL] at HE HL C1
        obtain ⟨r, hr⟩ : ∃ r, rootV (ls.take m) = r := ⟨_, rfl⟩
        rw [hr] at C2
        rw [HE.out, hr]
        have hk := HL.out
        have HBB := hide (show L.length + 1 ≤ maxLen by unfold maxLen; omega)
        have HBC := hide (show (L.length + 1) * 16 ≤ 140737488355328 by omega)
        have g3 : (m : Int) ≤ (n : Int) := by omega
        have g4 : (m : Int) ≤ (c : Int) := by omega
        have hcm : ¬ c = m := by omega
        have HD := hide hd
        clear ih hN h1 hi hm hs p2 hi2 hmm hx hlen hb HL hL hr hk hd hLb hsm HE hi3
        go_enter Tryd.func62, Tryd.ntmps62
        go_wp2_with fail
        refine HH.out.mono ?_
        rintro e w1 ⟨rfl, rfl⟩
        go_wp2_with fail
        go_region_held3 (fun w' => Hid (Below w.heap.size w w')) (first | exact HD | exact HB2 | exact HB3 | exact HB5 | exact (Below.refl _ _) | exact (HB3.out.alloc HB3.out.size _))
          (first | (go_at_call 62; (with_reducible refine C1.out.mono ?_); rintro e w2 ⟨a, c2, rfl, ho2, hb2⟩; have HO2 := hide ho2; have HB2 := hide (HD.out.trans (hb2.mono HD.out.size)); clear ho2 hb2) | (go_at_call 57; (with_reducible refine (C2.out _ HB2.out).mono ?_); rintro e w3 ⟨rfl, hb3⟩; have HO3 : Hid (w3.ownsRow w.heap.size 41 2 (.slice a L.length c2) L.length (cellsS L)) := own_keep HO2.out hb3 HD.out.size; have HB3 := hide (HB2.out.trans (hb3.mono HB2.out.size)); clear hb3) | (refine step_append_lies _ (by rfl) _ _ _ (by rfl) w.heap.size 41 i0 _ 2 16 Tryd.underlying33 hi0 hz0 hz1 hz2 rfl (by omega) (.slice a L.length c2) L.length (cellsS L) (by rfl) (HO3.out.alloc _) ⟨w3.heap.size, 0, none⟩ 1 1 [.int .u64 (r : Nat), .bool true] (by rfl) (by rfl) (World.news_of_block (cs := #[.int .u64 (r : Nat), .bool true]) (t := 41) (fr := (0, 0)) (heap_alloc_new w3 _)) (by simp [Value.oneCell']) (by omega) HBB.out HBC.out (by have := HB3.out.size; simp; omega) (w3.heap.size + 1) (by simp) ?_; intro g5 c5 w5 hown hgrow hat hlt5; have HOWN := hide hown; have HB5 := hide ((HB3.out.alloc HB3.out.size (.cells #[.int .u64 (r : Nat), .bool true] 41)).trans (below_own (HO3.out.alloc _) hgrow (Nat.le_refl _) (by have := HB3.out.size; simp; omega))); clear hown hgrow hat))
        go_wp2
        go_ret
        refine ⟨_, c5, by rw [List.length_append]; rfl, ?_, HB5.out⟩
        rw [List.length_append, cellsS_snoc]
        exact HOWN.out

set_option maxHeartbeats 4000000 in
set_option maxRecDepth 100000 in
theorem refproof_any : ∀ (N n i : Nat) (A : Option Addr) (c : Nat) (wh : Bool) (ls : List (List UInt8)) (w : World), n ≤ N → 1 ≤ i → i ≤ n → n ≤ 1000000 → ListsAt w.heap.size w A n ls → n ≤ c → Small ls →
    Calls Tryd.prog 63 #[.slice A n c, .int .i64 i, .bool wh] w (HashesPost (growthV ls i wh) w) := by
  have mixed := mixedOrders
  obtain ⟨i0, hi0, hz0, hz1, hz2⟩ := info_parts info24
  intro N
  induction N with
  | zero => intro n i A c wh ls w hN h1 hi; omega
  | succ N ih =>
    intro n i A c wh ls w hN h1 hi hm hx hc hsm
    have hlen := hx.1
    by_cases hs : i = n
    · subst hs
      rw [growth_all hlen.symm h1]
      have z1 : ((i : Int) == (i : Int)) = true := by simp
      cases wh
      · have HR := hide (Top_any i i A c ls w (Nat.le_refl _) hx hc hm hsm)
        rw [if_neg (by decide)]
        obtain ⟨r, hr⟩ : ∃ r, rootV ls = r := ⟨_, rfl⟩
        rw [hr] at HR ⊢
        clear ih hN h1 hi hm hx hc hr hlen hsm
        go_enter Tryd.func63, Tryd.ntmps63
        go_wp2_with fail
        refine HR.out.mono ?_
        rintro e w1 ⟨rfl, hb⟩
        have HB := hide hb
        clear hb
        go_wp2_with fail
        go_ret
        exact ⟨some ⟨w1.heap.size, 0, none⟩, 1, rfl, World.ownsRow_lit w1 #[.int .u64 r] 1 HB.out.size (by decide) rfl, HB.out.alloc HB.out.size _⟩
      · rw [if_pos rfl]
        clear ih hN h1 hi hm hx hc hlen hsm
        go_enter Tryd.func63, Tryd.ntmps63
        go_wp2_with fail
        go_ret
        exact ⟨none, 0, rfl, World.ownsRow_nil _ _ _ _, Below.refl _ _⟩
    · obtain ⟨b, off, -, -, -, rfl, hb, -, -, -⟩ := hx.at_ (i := 0) (by omega)
      have HH := hide (refhalf_any n (by omega) hm w)
      obtain ⟨p1, p2⟩ := halfN_lt (n := n) (by omega)
      have z1 : ((i : Int) == (n : Int)) = false := beq_eq_false_iff_ne.2 (by omega)
      have hd : Below w.heap.size w w.drew := ((Gr.refl w).drew).below
      rcases Nat.lt_or_ge (halfN n) i with hi2 | hi2
      · have HE := hide (growth_hi (l := ls) (m := i) (by omega) h1 (by rw [hlen]; exact hi2) wh)
        have HL := hide (growth_len (ls.drop (halfN n)) (i - halfN n) false)
        rw [hlen] at HE
        obtain ⟨m, hmm⟩ : ∃ m, halfN n = m := ⟨_, rfl⟩
        rw [hmm] at p1 p2 HH HE hi2 HL
        have q1 : ¬ (i : Int) ≤ (m : Int) := by omega
        have s1 : wrap64 ((i : Int) - (m : Int)) = ((i - m : Nat) : Int) := by rw [IntWalk.wrap64_in _ (by omega)]; omega
        have s2 : IntKind.i64.wrap ((i : Int) - (m : Int)) = ((i - m : Nat) : Int) := by rw [IntWalk.i64_in _ (by omega)]; omega
        obtain ⟨i2, hi3⟩ : ∃ i2, i - m = i2 := ⟨_, rfl⟩
        rw [hi3] at s1 s2 HE HL
        have C1 := hide (ih (n - m) i2 (some ⟨b, off + m, none⟩) (c - m) false (ls.drop m) w.drew (by omega) (by omega) (by omega) (by omega) ((hx.drop (k := m) (by omega)).now hd (Nat.le_refl _)) (by omega) (hsm.drop m))
        have C2 : Hid (∀ w1, Below w.heap.size w w1 → Calls Tryd.prog 57 #[.slice (some ⟨b, off, none⟩) m c] w1 fun e w' => e = .returned (.int .u64 (rootV (ls.take m) : Nat)) ∧ Below w1.heap.size w1 w') := fun w1 hb1 => Top_any m m (some ⟨b, off, none⟩) c (ls.take m) w1 (Nat.le_refl _) ((hx.take (k := m) (by omega)).now hb1 (Nat.le_refl _)) (by omega) (by omega) (hsm.take m)
        have hLb : (ls.drop m).length ≤ 1000000 := by rw [List.length_drop]; omega
        unfold HashesPost at C1 ⊢
        obtain ⟨L, hL⟩ : ∃ L, growthV (ls.drop m) i2 false = L := ⟨_, rfl⟩
        rw [hL] at HE HL C1
        obtain ⟨r, hr⟩ : ∃ r, rootV (ls.take m) = r := ⟨_, rfl⟩
        rw [hr] at C2
        rw [HE.out, hr]
        have hk := HL.out
        have HBB := hide (show L.length + 1 ≤ maxLen by unfold maxLen; omega)
        have HBC := hide (show (L.length + 1) * 8 ≤ 140737488355328 by omega)
        have g3 : (m : Int) ≤ (n : Int) := by omega
        have g4 : (m : Int) ≤ (c : Int) := by omega
        have hcm : ¬ c = m := by omega
        have HD := hide hd
        clear ih hN h1 hi hm hs p2 hi2 hmm hx hlen hb HL hL hr hk hd hLb hsm HE hi3
        go_enter Tryd.func63, Tryd.ntmps63
        go_wp2_with fail
        refine HH.out.mono ?_
        rintro e w1 ⟨rfl, rfl⟩
        go_wp2_with fail
        go_region_held3 (fun w' => Hid (Below w.heap.size w w')) (first | exact HD | exact HB2 | exact HB3 | exact HB5 | exact (Below.refl _ _) | exact (HB3.out.alloc HB3.out.size _))
          (first | (go_at_call 63; (with_reducible refine C1.out.mono ?_); rintro e w2 ⟨a, c2, rfl, ho2, hb2⟩; have HO2 := hide ho2; have HB2 := hide (HD.out.trans (hb2.mono HD.out.size)); clear ho2 hb2) | (go_at_call 57; (with_reducible refine (C2.out _ HB2.out).mono ?_); rintro e w3 ⟨rfl, hb3⟩; have HO3 : Hid (w3.ownsRow w.heap.size 24 1 (.slice a L.length c2) L.length (cellsP L)) := own_keep HO2.out hb3 HD.out.size; have HB3 := hide (HB2.out.trans (hb3.mono HB2.out.size)); clear hb3) | (refine step_append_lies _ (by rfl) _ _ _ (by rfl) w.heap.size 24 i0 _ 1 8 Tryd.underlying36 hi0 hz0 hz1 hz2 rfl (by omega) (.slice a L.length c2) L.length (cellsP L) (by rfl) (HO3.out.alloc _) ⟨w3.heap.size, 0, none⟩ 1 1 [.int .u64 (r : Nat)] (by rfl) (by rfl) (World.news_of_block (cs := #[.int .u64 (r : Nat)]) (t := 24) (fr := (0, 0)) (heap_alloc_new w3 _)) (by simp [Value.oneCell']) (by omega) HBB.out HBC.out (by have := HB3.out.size; simp; omega) (w3.heap.size + 1) (by simp) ?_; intro g5 c5 w5 hown hgrow hat hlt5; have HOWN := hide hown; have HB5 := hide ((HB3.out.alloc HB3.out.size (.cells #[.int .u64 (r : Nat)] 24)).trans (below_own (HO3.out.alloc _) hgrow (Nat.le_refl _) (by have := HB3.out.size; simp; omega))); clear hown hgrow hat))
        go_wp2
        go_ret
        refine ⟨_, c5, by rw [List.length_append]; rfl, ?_, HB5.out⟩
        rw [List.length_append, cellsP_snoc]
        exact HOWN.out
      · have HE := hide (growth_lo (l := ls) (m := i) h1 (by omega) (by rw [hlen]; exact hi2) wh)
        have HL := hide (growth_len (ls.take (halfN n)) i wh)
        rw [hlen] at HE
        obtain ⟨m, hmm⟩ : ∃ m, halfN n = m := ⟨_, rfl⟩
        rw [hmm] at p1 p2 HH HE hi2 HL
        have q1 : (i : Int) ≤ (m : Int) := by omega
        have C1 := hide (ih m i (some ⟨b, off, none⟩) c wh (ls.take m) w.drew (by omega) h1 hi2 (by omega) ((hx.take (k := m) (by omega)).now hd (Nat.le_refl _)) (by omega) (hsm.take m))
        have C2 : Hid (∀ w1, Below w.heap.size w w1 → Calls Tryd.prog 57 #[.slice (some ⟨b, off + m, none⟩) (n - m) (c - m)] w1 fun e w' => e = .returned (.int .u64 (rootV (ls.drop m) : Nat)) ∧ Below w1.heap.size w1 w') := fun w1 hb1 => Top_any (n - m) (n - m) (some ⟨b, off + m, none⟩) (c - m) (ls.drop m) w1 (Nat.le_refl _) ((hx.drop (k := m) (by omega)).now hb1 (Nat.le_refl _)) (by omega) (by omega) (hsm.drop m)
        have hLb : (ls.take m).length ≤ 1000000 := by rw [List.length_take]; omega
        unfold HashesPost at C1 ⊢
        obtain ⟨L, hL⟩ : ∃ L, growthV (ls.take m) i wh = L := ⟨_, rfl⟩
        rw [hL] at HE HL C1
        obtain ⟨r, hr⟩ : ∃ r, rootV (ls.drop m) = r := ⟨_, rfl⟩
        rw [hr] at C2
        rw [HE.out, hr]
        have hk := HL.out
        have HBB := hide (show L.length + 1 ≤ maxLen by unfold maxLen; omega)
        have HBC := hide (show (L.length + 1) * 8 ≤ 140737488355328 by omega)
        have g3 : (m : Int) ≤ (n : Int) := by omega
        have g4 : (m : Int) ≤ (c : Int) := by omega
        have hcm : ¬ c = m := by omega
        have HD := hide hd
        clear ih hN h1 hi hm hs p2 hi2 hmm hx hlen hb HL hL hr hk hd hLb hsm HE
        go_enter Tryd.func63, Tryd.ntmps63
        go_wp2_with fail
        refine HH.out.mono ?_
        rintro e w1 ⟨rfl, rfl⟩
        go_wp2_with fail
        go_region_held3 (fun w' => Hid (Below w.heap.size w w')) (first | exact HD | exact HB2 | exact HB3 | exact HB5 | exact (Below.refl _ _) | exact (HB3.out.alloc HB3.out.size _))
          (first | (go_at_call 63; (with_reducible refine C1.out.mono ?_); rintro e w2 ⟨a, c2, rfl, ho2, hb2⟩; have HO2 := hide ho2; have HB2 := hide (HD.out.trans (hb2.mono HD.out.size)); clear ho2 hb2) | (go_at_call 57; (with_reducible refine (C2.out _ HB2.out).mono ?_); rintro e w3 ⟨rfl, hb3⟩; have HO3 : Hid (w3.ownsRow w.heap.size 24 1 (.slice a L.length c2) L.length (cellsP L)) := own_keep HO2.out hb3 HD.out.size; have HB3 := hide (HB2.out.trans (hb3.mono HB2.out.size)); clear hb3) | (refine step_append_lies _ (by rfl) _ _ _ (by rfl) w.heap.size 24 i0 _ 1 8 Tryd.underlying36 hi0 hz0 hz1 hz2 rfl (by omega) (.slice a L.length c2) L.length (cellsP L) (by rfl) (HO3.out.alloc _) ⟨w3.heap.size, 0, none⟩ 1 1 [.int .u64 (r : Nat)] (by rfl) (by rfl) (World.news_of_block (cs := #[.int .u64 (r : Nat)]) (t := 24) (fr := (0, 0)) (heap_alloc_new w3 _)) (by simp [Value.oneCell']) (by omega) HBB.out HBC.out (by have := HB3.out.size; simp; omega) (w3.heap.size + 1) (by simp) ?_; intro g5 c5 w5 hown hgrow hat hlt5; have HOWN := hide hown; have HB5 := hide ((HB3.out.alloc HB3.out.size (.cells #[.int .u64 (r : Nat)] 24)).trans (below_own (HO3.out.alloc _) hgrow (Nat.le_refl _) (by have := HB3.out.size; simp; omega))); clear hown hgrow hat))
        go_wp2
        go_ret
        refine ⟨_, c5, by rw [List.length_append]; rfl, ?_, HB5.out⟩
        rw [List.length_append, cellsP_snoc]
        exact HOWN.out
end Go.Proofs.YtbinmkigolkhcaaDoor
