/- The library's stable sort, at up to 1000000 indexes. -/
import Derived.Test.YtikfiofjhmeheaaG6
import Derived.Test.YtikfiofjhmeheaaG7
import Derived.Test.YtikfiofjhmeheaaS2
namespace Go.Proofs.Ytikfiofjhmeheaa
open Go.RowKit Go.Sort

theorem dvd_none {s c n : Nat} (h : s ∣ c) (h0 : 0 < c) (h1 : c < n) (h2 : n ≤ s) : False := by
  have := Nat.le_of_dvd h0 h
  omega

set_option maxHeartbeats 4000000 in
set_option maxRecDepth 100000 in
theorem stable_any (n : Nat) (hn : n ≤ 100000) : StableSaid n := by
  intro g cb kf w0 w blk cap eg hcmp hR
  have mixed := mixedOrders
  have HC := hide hcmp
  have HR := hide hR
  have HSYM := hide (sym_any g cb kf w0 blk n cap eg hcmp (by omega) n)
  clear hcmp hR
  go_enter Try.func106, Try.ntmps106
  go_wp2
  go_loopw [7, 8] (fun va vb wr => ∃ (A B t : Nat) (d : Nat → Nat), va = .int .i64 A ∧ vb = .int .i64 B ∧ A ≤ n ∧ Hid (A = 20 * t ∧ B = A + 20) ∧ Hid (Row w0 wr blk n d) ∧ Hid (Grp kf (B1 20 A) n d)) (fun va _ _ => n - (intOf va).toNat)
  case atStart => exact ⟨0, 20, 0, _, rfl, rfl, Nat.zero_le _, ⟨rfl, rfl⟩, HR, (Grp.start kf n).congr fun c _ _ => ⟨fun _ => .inr (by omega), fun _ => trivial⟩⟩
  case round =>
    obtain ⟨A, B, t, d, rfl, rfl, hAn, HE, R1, G1⟩ := hrel
    by_cases hlt : B ≤ n
    · have hE := HE.out
      have HI := hide (insertion_any g cb kf w0 wr blk n cap A B d eg HC.out R1.out (by omega) (by omega) hlt (G1.out.ups hlt fun c h1 h2 => .inr (by omega)) (fun k _ h => G1.out.small k (by omega)))
      have hlt' : (B : Int) ≤ (n : Int) := by omega
      obtain ⟨C, hC⟩ : ∃ C : Nat, C = B + 20 := ⟨_, rfl⟩
      have e1 : (B : Int) + 20 = (C : Int) := by omega
      have HCE := hide hC
      have HAB := hide (show A < B by omega)
      clear hE hC
      go_wp2_with fail
      refine HI.out.mono ?_
      rintro e w2 ⟨rfl, d', r1, r2, r3⟩
      have R2 := hide r1
      have G2 : Hid (Grp kf (B1 20 B) n d') := by
        obtain ⟨rfl, rfl⟩ := HE.out
        have := b1_step G1.out (by omega) hlt r2 r3
        rwa [Nat.mul_succ] at this
      have HE2 : Hid (B = 20 * (t + 1) ∧ C = B + 20) := ⟨by have := HE.out; omega, HCE.out⟩
      clear r1 r2 r3 HI
      go_wp2
      go_roundw
      case rel => exact ⟨B, C, t + 1, d', rfl, rfl, hlt, HE2, R2, G2⟩
      case measure => have := HAB.out; simp [intOf]; omega
    · have hlt' : ¬ (B : Int) ≤ (n : Int) := by omega
      have HI := hide (insertion_any g cb kf w0 wr blk n cap A n d eg HC.out R1.out (by omega) hAn (Nat.le_refl _) (G1.out.ups (Nat.le_refl _) fun c h1 h2 => .inr (by omega)) (fun k _ h => G1.out.small k h))
      go_wp2_with fail
      refine HI.out.mono ?_
      rintro e w2 ⟨rfl, d', r1, r2, r3⟩
      have R2 := hide r1
      have G2 : Hid (Grp kf (fun c => 20 ∣ c) n d') := by
        obtain ⟨rfl, rfl⟩ := HE.out
        exact b1_last G1.out (by omega) (by omega) hAn r2 r3
      clear r1 r2 r3 HI R1 G1 hlt hlt' HE hAn HR
      go_wp2_with fail
      go_loopw [6] (fun vs wr => ∃ (s : Nat) (d : Nat → Nat), vs = .int .i64 s ∧ 20 ≤ s ∧ s ≤ 2 * n + 20 ∧ Hid (Row w0 wr blk n d) ∧ Hid (Grp kf (fun c => s ∣ c) n d)) (fun vs _ => n - (intOf vs).toNat)
      case atStart => exact ⟨20, d', rfl, Nat.le_refl _, by omega, R2, G2⟩
      case round =>
        clear R2 G2
        obtain ⟨s, d, rfl, hs1, hs2, R1, G1⟩ := hrel
        by_cases hsn : s < n
        · have hsn' : (s : Int) < (n : Int) := by omega
          obtain ⟨T, hT⟩ : ∃ T : Nat, T = 2 * s := ⟨_, rfl⟩
          have eT : 2 * (s : Int) = (T : Int) := by omega
          have eT2 : (s : Int) * 2 = (T : Int) := by omega
          have HTE := hide hT
          have G2 : Hid (Grp kf (B2 s 0) n d) := b2_start G1.out
          clear hT G1
          obtain ⟨wo, hwo⟩ : ∃ wo : World, wo = wr := ⟨_, rfl⟩
          subst hwo
          go_wp2
          go_loopw [7, 8] (fun va vb wr => ∃ (A B t : Nat) (d : Nat → Nat), va = .int .i64 A ∧ vb = .int .i64 B ∧ A ≤ n ∧ Hid (A = 2 * s * t ∧ B = A + 2 * s) ∧ Hid (Row w0 wr blk n d) ∧ Hid (Grp kf (B2 s A) n d)) (fun va _ _ => n - (intOf va).toNat)
          case atStart => exact ⟨0, T, 0, d, rfl, rfl, Nat.zero_le _, ⟨rfl, by have := HTE.out; omega⟩, R1, G2⟩
          case round =>
            clear R1 G2
            obtain ⟨A, B, t, d, rfl, rfl, hAn, HE, R1, G1⟩ := hrel
            have hE := HE.out
            have hTE := HTE.out
            obtain ⟨M, hM⟩ : ∃ M : Nat, M = A + s := ⟨_, rfl⟩
            have eM : (A : Int) + (s : Int) = (M : Int) := by omega
            by_cases hlt : B ≤ n
            · have hlt' : (B : Int) ≤ (n : Int) := by omega
              obtain ⟨B', hB'⟩ : ∃ B' : Nat, B' = B + T := ⟨_, rfl⟩
              have eB : (B : Int) + (T : Int) = (B' : Int) := by omega
              have HRUN : Hid (TwoRuns kf A M B d) := by
                obtain ⟨rfl, rfl⟩ := HE.out
                subst hM
                exact b2_runs G1.out (by omega) (by omega) (by omega) hlt
              have HSY := hide (HSYM.out A M B d wr (by omega) (by omega) (by omega) hlt R1.out HRUN.out (fun k _ h => G1.out.small k (by omega)))
              have HAB := hide (show A < B by omega)
              have HB' := hide hB'
              clear hE hTE hM hB'
              go_wp2_with fail
              refine HSY.out.mono ?_
              rintro e w2 ⟨rfl, d', r1, r2, r3⟩
              have R2 := hide r1
              have G2 : Hid (Grp kf (B2 s B) n d') := by
                obtain ⟨rfl, rfl⟩ := HE.out
                have := b2_step G1.out (by omega) hlt r2 r3
                rwa [Nat.mul_succ] at this
              have HE2 : Hid (B = 2 * s * (t + 1) ∧ B' = B + 2 * s) := by
                refine ⟨?_, by have := HB'.out; have := HTE.out; omega⟩
                obtain ⟨rfl, rfl⟩ := HE.out
                rw [Nat.mul_succ]
              clear r1 r2 r3 HSY
              go_wp2
              go_roundw
              case rel => exact ⟨B, B', t + 1, d', rfl, rfl, hlt, HE2, R2, G2⟩
              case measure => have := HAB.out; simp [intOf]; omega
            · have hlt' : ¬ (B : Int) ≤ (n : Int) := by omega
              by_cases hMn : M < n
              · have hMn' : (M : Int) < (n : Int) := by omega
                have HRUN : Hid (TwoRuns kf A M n d) := by
                  obtain ⟨rfl, rfl⟩ := HE.out
                  subst hM
                  exact b2_runs G1.out (by omega) (by omega) (by omega) (Nat.le_refl _)
                have HSY := hide (HSYM.out A M n d wr (by omega) (by omega) hMn (Nat.le_refl _) R1.out HRUN.out (fun k _ h => G1.out.small k h))
                clear hE hTE hM
                go_wp2_with fail
                refine HSY.out.mono ?_
                rintro e w2 ⟨rfl, d', r1, r2, r3⟩
                have R2 := hide r1
                have G2 : Hid (Grp kf (fun c => T ∣ c) n d') := by
                  have h0 := HTE.out
                  subst h0
                  obtain ⟨rfl, rfl⟩ := HE.out
                  exact b2_last G1.out (by omega) (by omega) hAn r2 r3
                have HTB : Hid (20 ≤ T ∧ T ≤ 2 * n + 20 ∧ s < T) := by have := HTE.out; exact ⟨by omega, by omega, by omega⟩
                clear r1 r2 r3 HSY
                go_wp2
                go_roundw
                case rel => exact ⟨T, d', rfl, HTB.out.1, HTB.out.2.1, R2, G2⟩
                case measure => have := HTB.out.2.2; simp [intOf]; omega
              · have hMn' : ¬ (M : Int) < (n : Int) := by omega
                have G2 : Hid (Grp kf (fun c => T ∣ c) n d) := by
                  have h0 := HTE.out
                  subst h0
                  obtain ⟨rfl, rfl⟩ := HE.out
                  exact b2_alone G1.out (by omega) (by omega) hAn
                have HTB : Hid (20 ≤ T ∧ T ≤ 2 * n + 20 ∧ s < T) := by have := HTE.out; exact ⟨by omega, by omega, by omega⟩
                clear hE hTE hM
                go_wp2
                go_roundw
                case rel => exact ⟨T, d, rfl, HTB.out.1, HTB.out.2.1, R1, G2⟩
                case measure => have := HTB.out.2.2; simp [intOf]; omega
        · have hsn' : ¬ (s : Int) < (n : Int) := by omega
          have HF := hide (G1.out.fin fun c h0 h1 h2 => dvd_none h2 h0 h1 (by omega))
          go_wp2
          go_end0
          exact ⟨rfl, d, R1.out, HF.out.1, HF.out.2⟩

end Go.Proofs.Ytikfiofjhmeheaa
