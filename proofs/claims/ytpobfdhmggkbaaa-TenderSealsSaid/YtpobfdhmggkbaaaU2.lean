/- The hash. -/
import Derived.Test.YtpobfdhmggkbaaaU1
namespace Go.Proofs.Ytpobfdhmggkbaaa
open Go.RowKit

def mixS (p : Int × Int) : Int × Int := (IntKind.u64.wrap (((p.1.toNat ^^^ (p.2 % 256).toNat : Nat) : Int) * 1099511628211), p.2 / 256)
def mixI (p : Int × Int) : Nat → Int × Int
  | 0 => p
  | k + 1 => mixS (mixI p k)
theorem mixI_1 (p : Int × Int) (k : Nat) : (mixI p (k + 1)).1 = IntKind.u64.wrap ((((mixI p k).1.toNat ^^^ ((mixI p k).2 % 256).toNat : Nat) : Int) * 1099511628211) := by rw [mixI, mixS]
theorem mixI_2 (p : Int × Int) (k : Nat) : (mixI p (k + 1)).2 = (mixI p k).2 / 256 := by rw [mixI, mixS]
def mixed (h n : Int) : Int := (mixI (h, n) 8).1
theorem mixI_ok {h n : Int} (hh : natOk .u64 h = true) (hn : natOk .u64 n = true) : ∀ k, natOk .u64 (mixI (h, n) k).1 = true ∧ natOk .u64 (mixI (h, n) k).2 = true
  | 0 => ⟨hh, hn⟩
  | k + 1 => by
    refine ⟨wrap_u64_ok _, ?_⟩
    have := natOk_u64.1 (mixI_ok hh hn k).2
    refine natOk_u64.2 ?_
    show 0 ≤ (mixI (h, n) k).2 / 256 ∧ (mixI (h, n) k).2 / 256 ≤ _
    omega
theorem mixed_ok {h n : Int} (hh : natOk .u64 h = true) (hn : natOk .u64 n = true) : natOk .u64 (mixed h n) = true := (mixI_ok hh hn 8).1

theorem mixed_c (h n : Int) (hh : natOk .u64 h = true) (hn : natOk .u64 n = true) : CallA Try.prog 56 [.int .u64 h, .int .u64 n] [] (fun v H => v = .int .u64 (mixed h n) ∧ H = []) := by
  refine call_of_vc TYok mixedO Try.func56 rfl rfl (Nat.le_of_ble_eq_true rfl) ?_
  (repeat (first | (refine And.intro ?_ ?_; · with_reducible exact rfl) | (refine And.intro ?_ ?_; · (with_reducible refine lexOk ?_); kernel_rfl) | refine ⟨fun _ => ?_, fun h => absurd h (by decide)⟩ | refine ⟨fun h => absurd h (by decide), fun _ => ?_⟩ | (refine And.intro ?_ ?_; · (first | with_reducible exact rfl | with_reducible assumption | ((repeat' (with_reducible refine and_t ?_ ?_)) <;> (first | with_reducible exact rfl | decide | with_reducible assumption | ((with_reducible refine one_t ?_); rfl) | ((with_reducible refine live_t ?_); rfl) | ((with_reducible refine all_t ?_); rfl) | ((with_reducible refine isz_t ?_); rfl) | ((with_reducible refine len_t ?_); rfl) | ((with_reducible refine decide_eq_true ?_); omega) | ((with_reducible refine decide_eq_true ?_); simp only [List.getElem_toArray, List.getElem_cons_zero, List.getElem_cons_succ, siz3, siz4, siz5, siz22, siz26, siz27, siz37, siz45, siz72, siz90, siz110, siz112, siz114, siz137, siz139]; omega) | ((with_reducible refine i64_of ?_); omega) | ((with_reducible refine natOk_u64.2 ?_); omega) | ((with_reducible refine natOk_i64.2 ?_); omega)))))))
  refine loop_rule TYok mixedO (ι := Nat) (fun k => [(0, .int .u64 (mixI (h, n) k).1), (1, .int .u64 (mixI (h, n) k).2), (5, .int .i64 k)]) (fun _ => []) (fun k => k ≤ 8) (fun k => 8 - k) 0 (Nat.zero_le _) some ⟨⟨rfl, ⟨rfl, rfl⟩, Nat.le_refl _⟩, ⟨⟨rfl, .inr rfl⟩, ⟨rfl, .inr rfl⟩, ⟨rfl, .inr rfl⟩, trivial⟩, trivial⟩ ?_
  intro k hk
  obtain ⟨h1, h2⟩ := mixI_ok hh hn k
  have g1 := natOk_u64.1 h1
  have g2 := natOk_u64.1 h2
  (repeat (first | (refine And.intro ?_ ?_; · with_reducible exact rfl) | (refine And.intro ?_ ?_; · (with_reducible refine lexOk ?_); kernel_rfl) | refine ⟨fun _ => ?_, fun h => absurd h (by decide)⟩ | refine ⟨fun h => absurd h (by decide), fun _ => ?_⟩ | (refine And.intro ?_ ?_; · (first | with_reducible exact rfl | with_reducible assumption | ((repeat' (with_reducible refine and_t ?_ ?_)) <;> (first | with_reducible exact rfl | decide | with_reducible assumption | ((with_reducible refine one_t ?_); rfl) | ((with_reducible refine live_t ?_); rfl) | ((with_reducible refine all_t ?_); rfl) | ((with_reducible refine isz_t ?_); rfl) | ((with_reducible refine len_t ?_); rfl) | ((with_reducible refine decide_eq_true ?_); omega) | ((with_reducible refine decide_eq_true ?_); simp only [List.getElem_toArray, List.getElem_cons_zero, List.getElem_cons_succ, siz3, siz4, siz5, siz22, siz26, siz27, siz37, siz45, siz72, siz90, siz110, siz112, siz114, siz137, siz139]; omega) | ((with_reducible refine i64_of ?_); omega) | ((with_reducible refine natOk_u64.2 ?_); omega) | ((with_reducible refine natOk_i64.2 ?_); omega)))))))
  refine ⟨fun h3 => ?_, fun h3 => ?_⟩
  · have h3 := of_decide_eq_true h3
    (repeat (first | (refine And.intro ?_ ?_; · with_reducible exact rfl) | (refine And.intro ?_ ?_; · (with_reducible refine lexOk ?_); kernel_rfl) | refine ⟨fun _ => ?_, fun h => absurd h (by decide)⟩ | refine ⟨fun h => absurd h (by decide), fun _ => ?_⟩ | (refine And.intro ?_ ?_; · (first | with_reducible exact rfl | with_reducible assumption | ((repeat' (with_reducible refine and_t ?_ ?_)) <;> (first | with_reducible exact rfl | decide | with_reducible assumption | ((with_reducible refine one_t ?_); rfl) | ((with_reducible refine live_t ?_); rfl) | ((with_reducible refine all_t ?_); rfl) | ((with_reducible refine isz_t ?_); rfl) | ((with_reducible refine len_t ?_); rfl) | ((with_reducible refine decide_eq_true ?_); omega) | ((with_reducible refine decide_eq_true ?_); simp only [List.getElem_toArray, List.getElem_cons_zero, List.getElem_cons_succ, siz3, siz4, siz5, siz22, siz26, siz27, siz37, siz45, siz72, siz90, siz110, siz112, siz114, siz137, siz139]; omega) | ((with_reducible refine i64_of ?_); omega) | ((with_reducible refine natOk_u64.2 ?_); omega) | ((with_reducible refine natOk_i64.2 ?_); omega)))))))
    refine ⟨k + 1, by omega, by omega, some, ⟨rfl, ⟨rfl, rfl⟩, Nat.le_refl _⟩, ⟨⟨rfl, .inr (by rw [mixI_1]; rfl)⟩, ⟨rfl, .inr (by rw [mixI_2]; rfl)⟩, ⟨rfl, .inr rfl⟩, trivial⟩, trivial⟩
  · have h3 := of_decide_eq_false h3
    (repeat (first | (refine And.intro ?_ ?_; · with_reducible exact rfl) | (refine And.intro ?_ ?_; · (with_reducible refine lexOk ?_); kernel_rfl) | refine ⟨fun _ => ?_, fun h => absurd h (by decide)⟩ | refine ⟨fun h => absurd h (by decide), fun _ => ?_⟩ | (refine And.intro ?_ ?_; · (first | with_reducible exact rfl | with_reducible assumption | ((repeat' (with_reducible refine and_t ?_ ?_)) <;> (first | with_reducible exact rfl | decide | with_reducible assumption | ((with_reducible refine one_t ?_); rfl) | ((with_reducible refine live_t ?_); rfl) | ((with_reducible refine all_t ?_); rfl) | ((with_reducible refine isz_t ?_); rfl) | ((with_reducible refine len_t ?_); rfl) | ((with_reducible refine decide_eq_true ?_); omega) | ((with_reducible refine decide_eq_true ?_); simp only [List.getElem_toArray, List.getElem_cons_zero, List.getElem_cons_succ, siz3, siz4, siz5, siz22, siz26, siz27, siz37, siz45, siz72, siz90, siz110, siz112, siz114, siz137, siz139]; omega) | ((with_reducible refine i64_of ?_); omega) | ((with_reducible refine natOk_u64.2 ?_); omega) | ((with_reducible refine natOk_i64.2 ?_); omega)))))))
    refine ⟨some, .int _ _, [], ⟨⟨rfl, ⟨rfl, rfl⟩, Nat.le_refl _⟩, ⟨⟨rfl, .inr rfl⟩, trivial⟩, trivial⟩, ?_, rfl⟩
    obtain rfl : k = 8 := by omega
    rfl
end Go.Proofs.Ytpobfdhmggkbaaa
