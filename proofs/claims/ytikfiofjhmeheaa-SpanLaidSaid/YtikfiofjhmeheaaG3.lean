/- The library's merge where the left stretch is one element. -/
import Derived.Test.YtikfiofjhmeheaaG2
import Derived.Test.YtikfiofjhmeheaaB1
namespace Go.Proofs.Ytikfiofjhmeheaa
open Go.RowKit Go.Sort

theorem TwoRuns.one_left {kf : Nat → Int} {a b i : Nat} {d : Nat → Nat} (h : TwoRuns kf a (a + 1) b d) (hi : a + 1 ≤ i ∧ i ≤ b) (h1 : a + 1 < i → kf (d (i - 1)) < kf (d a)) (h2 : i < b → kf (d a) ≤ kf (d i)) :
    PermOn a b d (rotF d a (a + 1) i) ∧ SortedOn kf a b (rotF d a (a + 1) i) := by
  refine ⟨(PermOn.rot d (by omega) hi.1).mono (Nat.le_refl _) hi.2, fun k k' g1 g2 g3 => ?_⟩
  have hl : ∀ k, a ≤ k → k < i - 1 → rotF d a (a + 1) i k = d (k + 1) := fun k u1 u2 => by unfold rotF; rw [if_pos (by omega)]; congr 1; omega
  have hm : rotF d a (a + 1) i (i - 1) = d a := by unfold rotF; rw [if_neg (by omega), if_pos (by omega)]; congr 1; omega
  have hr : ∀ k, i ≤ k → rotF d a (a + 1) i k = d k := fun k u1 => by unfold rotF; rw [if_neg (by omega), if_neg (by omega)]
  by_cases c1 : k' < i - 1
  · rw [hl k g1 (by omega), hl k' (by omega) c1]
    exact h.right _ _ (by omega) (by omega) (by omega)
  · by_cases c2 : k' = i - 1
    · subst c2
      rw [hl k g1 g2, hm]
      have h3 := h1 (by omega)
      by_cases c3 : k + 1 = i - 1
      · rw [c3]; exact .inl h3
      · have := h.right (k + 1) (i - 1) (by omega) (by omega) (by omega)
        unfold lexL at this ⊢
        omega
    · rw [hr k' (by omega)]
      by_cases c3 : k < i - 1
      · rw [hl k g1 c3]
        by_cases c4 : k + 1 = k'
        · omega
        · exact h.right _ _ (by omega) (by omega) g3
      · by_cases c4 : k = i - 1
        · subst c4
          rw [hm]
          have h3 := h2 (by omega)
          have h4 := h.low a k' (Nat.le_refl _) (by omega) (by omega) g3
          by_cases c5 : i = k'
          · subst c5; unfold lexL; omega
          · have := h.right i k' (by omega) (by omega) g3
            unfold lexL at this ⊢
            omega
        · rw [hr k (by omega)]
          exact h.right _ _ (by omega) g2 g3
theorem rot_one_start (d : Nat → Nat) (a : Nat) : rotF d a (a + 1) (a + 1) = d := by
  funext x
  unfold rotF
  repeat' split
  all_goals first | rfl | (exfalso; omega) | (congr 1; omega)
theorem rot_one_step (d : Nat → Nat) {a k : Nat} (h : a ≤ k) : swpF (rotF d a (a + 1) (k + 1)) k (k + 1) = rotF d a (a + 1) (k + 2) := by
  funext x
  unfold swpF rotF
  repeat' split
  all_goals first | rfl | (exfalso; omega) | (congr 1; omega)

set_option maxHeartbeats 4000000 in
set_option maxRecDepth 100000 in
theorem symLeft_any (g : Nat) (cb : Array Value) (kf : Nat → Int) (w0 w : World) (blk n cap a b : Nat) (d : Nat → Nat) (eg : ∀ args w, (callFunc g args).run Try.prog w = .ok (.enter g args) w) (hcmp : CmpOn w0 blk n g cb kf)
    (hR : Row w0 w blk n d) (hn : n ≤ 1000000) (hab : a + 1 < b) (hb : b ≤ n) (hT : TwoRuns kf a (a + 1) b d) (hdn : ∀ k, a ≤ k → k < b → d k < n) :
    Calls Try.prog 114 #[.slice (some ⟨blk, 0, none⟩) n cap, .int .i64 a, .int .i64 ((a + 1 : Nat) : Int), .int .i64 b, .func (.func g) #[] cb] w (InsPost w0 blk n kf a b d) := by
  have mixed := mixedOrders
  have HC := hide hcmp
  have HR := hide hR
  have HT := hide hT
  have HN := hide hdn
  clear hcmp hR hT hdn
  have e1 : ((a + 1 : Nat) : Int) - (a : Int) = 1 := by omega
  go_enter Try.func114, Try.ntmps114
  go_wp2
  clear e1
  go_loopw [10, 11] (fun vi vj wr => ∃ i j : Nat, a + 1 ≤ i ∧ i ≤ j ∧ j ≤ b ∧ vi = .int .i64 i ∧ vj = .int .i64 j ∧ Hid ((∀ k, k + 1 = i → a < k → kf (d k) < kf (d a)) ∧ (j < b → kf (d a) ≤ kf (d j))) ∧ Hid (Row w0 wr blk n d)) (fun vi vj _ => (intOf vj - intOf vi).toNat)
  case atStart => exact ⟨a + 1, b, Nat.le_refl _, by omega, Nat.le_refl _, rfl, rfl, ⟨fun k hk hk2 => by omega, fun h => by omega⟩, HR⟩
  case round =>
    obtain ⟨i, j, hai, hij, hjn, rfl, rfl, HI, R1⟩ := hrel
    by_cases hlt : i < j
    · obtain ⟨h, hh1, hh2, hh⟩ : ∃ h : Nat, i ≤ h ∧ h < j ∧ h = (i + j) / 2 := ⟨(i + j) / 2, by omega, by omega, rfl⟩
      have he : ((i : Int) + (j : Int)) / 2 = ((h : Nat) : Int) := by omega
      have hhn : (h : Int) < (n : Int) := by omega
      have han : (a : Int) < (n : Int) := by omega
      have l1 := fun q os => cell_grown (n := q) (os := os) (a := ⟨blk, h, none⟩) R1.out.ltW (R1.out.cell h (by omega))
      have l2 := fun q os => cell_grown (n := q) (os := os) (a := ⟨blk, a, none⟩) R1.out.ltW (R1.out.cell a (by omega))
      have EC : Hid (∀ (q : Nat) (os : Array Obj), Calls Try.prog g (#[.int .i64 (d h), .int .i64 (d a)] ++ cb) (grow (wr.drewN q) os) fun e w'' => e = .returned (.int .i64 (cmpV (kf (d h)) (kf (d a)))) ∧ ∃ p : GrownBy, w'' = grow (wr.drewN p.n) p.os) := fun q os =>
        gr_call (HC.out _ (d h) (d a) (R1.out.gr (grown_gr wr q os)).grown (HN.out h (by omega) (by omega)) (HN.out a (Nat.le_refl _) (by omega)))
      clear hh
      by_cases hlt2 : kf (d h) < kf (d a)
      · have hd2 : decide (cmpV (kf (d h)) (kf (d a)) < 0) = true := decide_eq_true (cmpV_neg.2 hlt2)
        have hI : Hid ((∀ k, k + 1 = h + 1 → a < k → kf (d k) < kf (d a)) ∧ (j < b → kf (d a) ≤ kf (d j))) := ⟨fun k hk _ => (by have e : k = h := (by omega); rw [e]; exact hlt2), HI.out.2⟩
        clear hlt2
        go_wp2_with fail
        refine wp_region_quiet_grown (by assumption) (by kernel_rfl) ?_
        repeat (first | go_big_quiet_step ((exact EC.out _ _)) | quiet_step ((exact EC.out _ _)))
        refine wpQuiet_nil ?_
        intro _ hw'
        obtain ⟨⟨nq, osq⟩, hw''⟩ := hw'
        subst hw''
        have R3 := hide (R1.out.gr (grown_gr wr nq osq))
        clear l1 l2 EC
        go_wp2
        go_roundw
        case rel => exact ⟨h + 1, j, by omega, by omega, hjn, by go_num, rfl, hI, R3⟩
        case measure => simp [intOf]; omega
      · have hd2 : decide (cmpV (kf (d h)) (kf (d a)) < 0) = false := decide_eq_false (fun h => hlt2 (cmpV_neg.1 h))
        have hI : Hid ((∀ k, k + 1 = i → a < k → kf (d k) < kf (d a)) ∧ (h < b → kf (d a) ≤ kf (d h))) := ⟨HI.out.1, fun _ => by omega⟩
        clear hlt2
        go_wp2_with fail
        refine wp_region_quiet_grown (by assumption) (by kernel_rfl) ?_
        repeat (first | go_big_quiet_step ((exact EC.out _ _)) | quiet_step ((exact EC.out _ _)))
        refine wpQuiet_nil ?_
        intro _ hw'
        obtain ⟨⟨nq, osq⟩, hw''⟩ := hw'
        subst hw''
        have R3 := hide (R1.out.gr (grown_gr wr nq osq))
        clear l1 l2 EC
        go_wp2
        go_roundw
        case rel => exact ⟨i, h, hai, hh1, by omega, rfl, rfl, hI, R3⟩
        case measure => simp [intOf]; omega
    · obtain rfl : i = j := by omega
      obtain ⟨q, hq⟩ : ∃ q, q + 1 = i := ⟨i - 1, by omega⟩
      have hqe : (i : Int) - 1 = (q : Int) := by omega
      have HP := hide (HT.out.one_left ⟨hai, hjn⟩ (fun h => HI.out.1 (i - 1) (by omega) (by omega)) HI.out.2)
      obtain ⟨wo, hwo⟩ : ∃ wo : World, wo = wr := ⟨_, rfl⟩
      subst hwo
      go_wp2
      go_loopw [13] (fun vk wr2 => ∃ k : Nat, a ≤ k ∧ k ≤ q ∧ vk = .int .i64 k ∧ Hid (Row w0 wr2 blk n (rotF d a (a + 1) (k + 1)))) (fun vk _ => q - (intOf vk).toNat)
      case atStart => exact ⟨a, Nat.le_refl _, by omega, rfl, by rw [rot_one_start]; exact R1⟩
      case round =>
        obtain ⟨k, hak, hkq, rfl, R2⟩ := hrel
        by_cases hk : k < q
        · have hk' : (k : Int) < (q : Int) := by omega
          have b1 : (k : Int) + 1 < (n : Int) := by omega
          have b2 : (k : Int) < (n : Int) := by omega
          have m1 := R2.out.cell k (by omega)
          have m2 := R2.out.cell (k + 1) (by omega)
          have f1 := R2.out.free k
          have f2 := R2.out.free (k + 1)
          have R4 := hide (R2.out.swap (i := k) (j := k + 1) (by omega) (by omega))
          rw [rot_one_step d hak] at R4
          generalize rotF d a (a + 1) (k + 1) k = x at m1 R4
          generalize rotF d a (a + 1) (k + 1) (k + 1) = y at m2 R4
          have m3 : (wr.setCell ⟨blk, k, none⟩ (.int .i64 y)).cell? ⟨blk, k + 1, none⟩ = some (.int .i64 y) := (World.cell?_setCell_other _ _ _ _ (by intro e'; simp only [Addr.mk.injEq] at e'; omega)).trans m2
          go_wp2_with fail
          go_big_region
          go_wp2
          go_roundw
          case rel => exact ⟨k + 1, by omega, by omega, by go_num, R4⟩
          case measure => simp [intOf]; omega
        · obtain rfl : k = q := by omega
          go_wp2
          go_end0
          have h2 := R2.out
          rw [hq] at h2
          exact ⟨rfl, _, h2, HP.out.1, HP.out.2⟩

end Go.Proofs.Ytikfiofjhmeheaa
