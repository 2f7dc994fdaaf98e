/- The library's merge where the right stretch is one element. -/
import Derived.Test.YtikfiofjhmeheaaG3
namespace Go.Proofs.Ytikfiofjhmeheaa
open Go.RowKit Go.Sort

theorem TwoRuns.one_right {kf : Nat → Int} {a m i : Nat} {d : Nat → Nat} (h : TwoRuns kf a m (m + 1) d) (hi : a ≤ i ∧ i ≤ m) (h1 : a < i → kf (d (i - 1)) ≤ kf (d m)) (h2 : i < m → kf (d m) < kf (d i)) :
    PermOn a (m + 1) d (rotF d i m (m + 1)) ∧ SortedOn kf a (m + 1) (rotF d i m (m + 1)) := by
  refine ⟨(PermOn.rot d hi.2 (by omega)).mono hi.1 (Nat.le_refl _), fun k k' g1 g2 g3 => ?_⟩
  have hl : ∀ k, k < i → rotF d i m (m + 1) k = d k := fun k u1 => by unfold rotF; rw [if_neg (by omega), if_neg (by omega)]
  have hm : rotF d i m (m + 1) i = d m := by unfold rotF; rw [if_pos (by omega)]; congr 1; omega
  have hr : ∀ k, i < k → k < m + 1 → rotF d i m (m + 1) k = d (k - 1) := fun k u1 u2 => by unfold rotF; rw [if_neg (by omega), if_pos (by omega)]; congr 1; omega
  by_cases c1 : k' < i
  · rw [hl k (by omega), hl k' c1]
    exact h.left _ _ g1 g2 (by omega)
  · by_cases c2 : k' = i
    · subst c2
      rw [hl k g2, hm]
      have h3 := h1 (by omega)
      have h4 := h.low k m g1 (by omega) (Nat.le_refl _) (by omega)
      by_cases c3 : k = k' - 1
      · rw [← c3] at h3
        unfold lexL
        omega
      · have := h.left k (k' - 1) g1 (by omega) (by omega)
        unfold lexL at this ⊢
        omega
    · rw [hr k' (by omega) g3]
      by_cases c3 : k < i
      · rw [hl k c3]
        by_cases c4 : k = k' - 1
        · omega
        · exact h.left _ _ g1 (by omega) (by omega)
      · by_cases c4 : k = i
        · subst c4
          rw [hm]
          have h3 := h2 (by omega)
          by_cases c5 : k = k' - 1
          · rw [← c5]; exact .inl h3
          · have := h.left k (k' - 1) g1 (by omega) (by omega)
            unfold lexL at this ⊢
            omega
        · rw [hr k (by omega) (by omega)]
          exact h.left _ _ (by omega) (by omega) (by omega)
theorem rot_last_start (d : Nat → Nat) (m : Nat) : rotF d m m (m + 1) = d := by
  funext x
  unfold rotF
  repeat' split
  all_goals first | rfl | (exfalso; omega) | (congr 1; omega)
theorem rot_last_step (d : Nat → Nat) {p m : Nat} (h : p < m) : swpF (rotF d (p + 1) m (m + 1)) (p + 1) p = rotF d p m (m + 1) := by
  funext x
  unfold swpF rotF
  repeat' split
  all_goals first | rfl | (exfalso; omega) | (congr 1; omega)

set_option maxHeartbeats 4000000 in
set_option maxRecDepth 100000 in
theorem symRight_any (g : Nat) (cb : Array Value) (kf : Nat → Int) (w0 w : World) (blk n cap a m : Nat) (d : Nat → Nat) (eg : ∀ args w, (callFunc g args).run Try.prog w = .ok (.enter g args) w) (hcmp : CmpOn w0 blk n g cb kf)
    (hR : Row w0 w blk n d) (hn : n ≤ 1000000) (ham : a + 1 < m) (hb : m + 1 ≤ n) (hT : TwoRuns kf a m (m + 1) d) (hdn : ∀ k, a ≤ k → k < m + 1 → d k < n) :
    Calls Try.prog 114 #[.slice (some ⟨blk, 0, none⟩) n cap, .int .i64 a, .int .i64 m, .int .i64 ((m + 1 : Nat) : Int), .func (.func g) #[] cb] w (InsPost w0 blk n kf a (m + 1) d) := by
  have mixed := mixedOrders
  have HC := hide hcmp
  have HR := hide hR
  have HT := hide hT
  have HN := hide hdn
  clear hcmp hR hT hdn
  have e0 : (((m : Int) - (a : Int)) == 1) = false := beq_eq_false_iff_ne.2 (by omega)
  have e1 : ((m + 1 : Nat) : Int) - (m : Int) = 1 := by omega
  go_enter Try.func114, Try.ntmps114
  go_wp2
  clear e0 e1
  go_loopw [14, 15] (fun vi vj wr => ∃ i j : Nat, a ≤ i ∧ i ≤ j ∧ j ≤ m ∧ vi = .int .i64 i ∧ vj = .int .i64 j ∧ Hid ((∀ k, k + 1 = i → a ≤ k → kf (d k) ≤ kf (d m)) ∧ (j < m → kf (d m) < kf (d j))) ∧ Hid (Row w0 wr blk n d)) (fun vi vj _ => (intOf vj - intOf vi).toNat)
  case atStart => exact ⟨a, m, Nat.le_refl _, by omega, Nat.le_refl _, rfl, rfl, ⟨fun k hk hk2 => by omega, fun h => by omega⟩, HR⟩
  case round =>
    obtain ⟨i, j, hai, hij, hjn, rfl, rfl, HI, R1⟩ := hrel
    by_cases hlt : i < j
    · obtain ⟨h, hh1, hh2, hh⟩ : ∃ h : Nat, i ≤ h ∧ h < j ∧ h = (i + j) / 2 := ⟨(i + j) / 2, by omega, by omega, rfl⟩
      have he : ((i : Int) + (j : Int)) / 2 = ((h : Nat) : Int) := by omega
      have hhn : (h : Int) < (n : Int) := by omega
      have hmn : (m : Int) < (n : Int) := by omega
      have l1 := fun q os => cell_grown (n := q) (os := os) (a := ⟨blk, h, none⟩) R1.out.ltW (R1.out.cell h (by omega))
      have l2 := fun q os => cell_grown (n := q) (os := os) (a := ⟨blk, m, none⟩) R1.out.ltW (R1.out.cell m (by omega))
      have EC : Hid (∀ (q : Nat) (os : Array Obj), Calls Try.prog g (#[.int .i64 (d m), .int .i64 (d h)] ++ cb) (grow (wr.drewN q) os) fun e w'' => e = .returned (.int .i64 (cmpV (kf (d m)) (kf (d h)))) ∧ ∃ p : GrownBy, w'' = grow (wr.drewN p.n) p.os) := fun q os =>
        gr_call (HC.out _ (d m) (d h) (R1.out.gr (grown_gr wr q os)).grown (HN.out m (by omega) (by omega)) (HN.out h (by omega) (by omega)))
      clear hh
      by_cases hlt2 : kf (d m) < kf (d h)
      · have hd2 : decide (cmpV (kf (d m)) (kf (d h)) < 0) = true := decide_eq_true (cmpV_neg.2 hlt2)
        have hI : Hid ((∀ k, k + 1 = i → a ≤ k → kf (d k) ≤ kf (d m)) ∧ (h < m → kf (d m) < kf (d h))) := ⟨HI.out.1, fun _ => hlt2⟩
        clear hlt2
        go_wp2_with fail
        refine wp_region_quiet_grown (by assumption) (by kernel_rfl) ?_
        repeat (first | go_big_quiet_step ((exact EC.out _ _)) | quiet_step ((exact EC.out _ _)))
        refine wpQuiet_nil ?_
        intro _ hw'
        obtain ⟨⟨nq, osq⟩, hw''⟩ := hw'
        subst hw''
        have R3 := hide (R1.out.gr (grown_gr wr nq osq))
        clear l1 l2 EC
        go_wp2
        go_roundw
        case rel => exact ⟨i, h, hai, hh1, by omega, rfl, rfl, hI, R3⟩
        case measure => simp [intOf]; omega
      · have hd2 : decide (cmpV (kf (d m)) (kf (d h)) < 0) = false := decide_eq_false (fun h => hlt2 (cmpV_neg.1 h))
        have hI : Hid ((∀ k, k + 1 = h + 1 → a ≤ k → kf (d k) ≤ kf (d m)) ∧ (j < m → kf (d m) < kf (d j))) := ⟨fun k hk _ => (by have e : k = h := (by omega); rw [e]; omega), HI.out.2⟩
        clear hlt2
        go_wp2_with fail
        refine wp_region_quiet_grown (by assumption) (by kernel_rfl) ?_
        repeat (first | go_big_quiet_step ((exact EC.out _ _)) | quiet_step ((exact EC.out _ _)))
        refine wpQuiet_nil ?_
        intro _ hw'
        obtain ⟨⟨nq, osq⟩, hw''⟩ := hw'
        subst hw''
        have R3 := hide (R1.out.gr (grown_gr wr nq osq))
        clear l1 l2 EC
        go_wp2
        go_roundw
        case rel => exact ⟨h + 1, j, by omega, by omega, hjn, by go_num, rfl, hI, R3⟩
        case measure => simp [intOf]; omega
    · obtain rfl : i = j := by omega
      have HP := hide (HT.out.one_right ⟨hai, hjn⟩ (fun h => HI.out.1 (i - 1) (by omega) (by omega)) HI.out.2)
      obtain ⟨wo, hwo⟩ : ∃ wo : World, wo = wr := ⟨_, rfl⟩
      subst hwo
      go_wp2
      go_loopw [17] (fun vk wr2 => ∃ k : Nat, i ≤ k ∧ k ≤ m ∧ vk = .int .i64 k ∧ Hid (Row w0 wr2 blk n (rotF d k m (m + 1)))) (fun vk _ => (intOf vk).toNat)
      case atStart => exact ⟨m, by omega, Nat.le_refl _, rfl, by rw [rot_last_start]; exact R1⟩
      case round =>
        obtain ⟨k, hik, hkm, rfl, R2⟩ := hrel
        by_cases hk : i < k
        · obtain ⟨p, rfl⟩ : ∃ q, k = q + 1 := ⟨k - 1, by omega⟩
          have hjd2 : decide ((i : Int) < (p : Int) + 1) = true := decide_eq_true (by omega)
          have hjz : (i : Int) < (p : Int) + 1 := by omega
          have b1 : (p : Int) + 1 < (n : Int) := by omega
          have b2 : (p : Int) < (n : Int) := by omega
          have m1 := R2.out.cell (p + 1) (by omega)
          have m2 := R2.out.cell p (by omega)
          have f1 := R2.out.free (p + 1)
          have f2 := R2.out.free p
          have R4 := hide (R2.out.swap (i := p + 1) (j := p) (by omega) (by omega))
          rw [rot_last_step d (by omega)] at R4
          generalize rotF d (p + 1) m (m + 1) (p + 1) = x at m1 R4
          generalize rotF d (p + 1) m (m + 1) p = y at m2 R4
          have m3 : (wr.setCell ⟨blk, p + 1, none⟩ (.int .i64 y)).cell? ⟨blk, p, none⟩ = some (.int .i64 y) := (World.cell?_setCell_other _ _ _ _ (by intro e'; simp only [Addr.mk.injEq] at e'; omega)).trans m2
          go_wp2_with fail
          go_big_region
          go_wp2
          go_roundw
          case rel => exact ⟨p, by omega, by omega, rfl, R4⟩
          case measure => simp [intOf]
        · obtain rfl : k = i := by omega
          have hjd2 : decide ((k : Int) < (k : Int)) = false := by simp
          go_wp2
          go_end0
          exact ⟨rfl, _, R2.out, HP.out.1, HP.out.2⟩

end Go.Proofs.Ytikfiofjhmeheaa
