/- The hash's add. -/
import Derived.Test.YtpobfdhmggkbaaaU2
namespace Go.Proofs.Ytpobfdhmggkbaaa
open Go.RowKit

theorem and255 {n : Int} (h : 0 ≤ n) : (((n.toNat &&& (255 : Int).toNat : Nat) : Int)).toNat = (n % 256).toNat := by
  have h1 : n.toNat &&& 255 = n.toNat % 256 := Nat.and_two_pow_sub_one_eq_mod n.toNat 8
  have h2 : (255 : Int).toNat = 255 := rfl
  rw [h2, h1]
  omega
theorem shr8 (n : Int) : n.fdiv (2 ^ (8 : Int).toNat) = n / 256 := by
  rw [Int.fdiv_eq_ediv_of_nonneg _ (by decide)]
  rfl
theorem and255_ok {n : Int} (h : 0 ≤ n) : natOk .u64 ((n.toNat &&& (255 : Int).toNat : Nat) : Int) = true := by
  have h1 : n.toNat &&& 255 = n.toNat % 256 := Nat.and_two_pow_sub_one_eq_mod n.toNat 8
  have h2 : (255 : Int).toNat = 255 := rfl
  rw [h2, h1]
  refine natOk_u64.2 ?_
  omega
def hashB (h : Int) : Blk := ⟨true, true, 112, 1, .cells [A.val (.int .u64 h)]⟩
theorem add_c (h n : Int) (hh : natOk .u64 h = true) (hn : natOk .u64 n = true) : CallA Try.prog 55 [.t (.a (.s (.ptr 0 0))), .int .u64 n] [⟨true, true, 112, 1, .cells [A.val (.int .u64 h)]⟩] (fun v H => v = .tup [] ∧ H = [⟨true, true, 112, 1, .cells [A.val (.int .u64 (mixed h n))]⟩]) := by
  refine call_of_vc TYok mixedO Try.func55 rfl rfl (Nat.le_of_ble_eq_true rfl) ?_
  (repeat (first | (refine And.intro ?_ ?_; · with_reducible exact rfl) | (refine And.intro ?_ ?_; · (with_reducible refine lexOk ?_); kernel_rfl) | refine ⟨fun _ => ?_, fun h => absurd h (by decide)⟩ | refine ⟨fun h => absurd h (by decide), fun _ => ?_⟩ | (refine And.intro ?_ ?_; · (first | with_reducible exact rfl | with_reducible assumption | ((repeat' (with_reducible refine and_t ?_ ?_)) <;> (first | with_reducible exact rfl | decide | with_reducible assumption | ((with_reducible refine one_t ?_); rfl) | ((with_reducible refine live_t ?_); rfl) | ((with_reducible refine all_t ?_); rfl) | ((with_reducible refine isz_t ?_); rfl) | ((with_reducible refine len_t ?_); rfl) | ((with_reducible refine decide_eq_true ?_); omega) | ((with_reducible refine decide_eq_true ?_); simp only [List.getElem_toArray, List.getElem_cons_zero, List.getElem_cons_succ, siz3, siz4, siz5, siz22, siz26, siz27, siz37, siz45, siz72, siz90, siz110, siz112, siz114, siz137, siz139]; omega) | ((with_reducible refine i64_of ?_); omega) | ((with_reducible refine natOk_u64.2 ?_); omega) | ((with_reducible refine natOk_i64.2 ?_); omega)))))))
  refine loop_rule TYok mixedO (ι := Nat) (fun k => [(0, .t (.a (.s (.ptr 0 0)))), (1, .int .u64 (mixI (h, n) k).2), (4, .int .i64 k)]) (fun k => [⟨true, true, 112, 1, .cells [A.val (.int .u64 (mixI (h, n) k).1)]⟩]) (fun k => k ≤ 8) (fun k => 8 - k) 0 (Nat.zero_le _) some ⟨⟨rfl, ⟨rfl, rfl⟩, Nat.le_refl _⟩, ⟨⟨rfl, .inr rfl⟩, ⟨rfl, .inr rfl⟩, ⟨rfl, .inr rfl⟩, trivial⟩, ⟨fun _ => rfl, rfl, rfl, fun _ => rfl, rfl, rfl⟩, trivial⟩ ?_
  intro k hk
  obtain ⟨h1, h2⟩ := mixI_ok hh hn k
  have g1 := natOk_u64.1 h1
  have g2 := natOk_u64.1 h2
  have g3 := and255_ok g2.1
  (repeat (first | (refine And.intro ?_ ?_; · with_reducible exact rfl) | (refine And.intro ?_ ?_; · (with_reducible refine lexOk ?_); kernel_rfl) | refine ⟨fun _ => ?_, fun h => absurd h (by decide)⟩ | refine ⟨fun h => absurd h (by decide), fun _ => ?_⟩ | (refine And.intro ?_ ?_; · (first | with_reducible exact rfl | with_reducible assumption | ((repeat' (with_reducible refine and_t ?_ ?_)) <;> (first | with_reducible exact rfl | decide | with_reducible assumption | ((with_reducible refine one_t ?_); rfl) | ((with_reducible refine live_t ?_); rfl) | ((with_reducible refine all_t ?_); rfl) | ((with_reducible refine isz_t ?_); rfl) | ((with_reducible refine len_t ?_); rfl) | ((with_reducible refine decide_eq_true ?_); omega) | ((with_reducible refine decide_eq_true ?_); simp only [List.getElem_toArray, List.getElem_cons_zero, List.getElem_cons_succ, siz3, siz4, siz5, siz22, siz26, siz27, siz37, siz45, siz72, siz90, siz110, siz112, siz114, siz137, siz139]; omega) | ((with_reducible refine i64_of ?_); omega) | ((with_reducible refine natOk_u64.2 ?_); omega) | ((with_reducible refine natOk_i64.2 ?_); omega)))))))
  refine ⟨fun h3 => ?_, fun h3 => ?_⟩
  · have h3 := of_decide_eq_true h3
    (repeat (first | (refine And.intro ?_ ?_; · with_reducible exact rfl) | (refine And.intro ?_ ?_; · (with_reducible refine lexOk ?_); kernel_rfl) | refine ⟨fun _ => ?_, fun h => absurd h (by decide)⟩ | refine ⟨fun h => absurd h (by decide), fun _ => ?_⟩ | (refine And.intro ?_ ?_; · (first | with_reducible exact rfl | with_reducible assumption | ((repeat' (with_reducible refine and_t ?_ ?_)) <;> (first | with_reducible exact rfl | decide | with_reducible assumption | ((with_reducible refine one_t ?_); rfl) | ((with_reducible refine live_t ?_); rfl) | ((with_reducible refine all_t ?_); rfl) | ((with_reducible refine isz_t ?_); rfl) | ((with_reducible refine len_t ?_); rfl) | ((with_reducible refine decide_eq_true ?_); omega) | ((with_reducible refine decide_eq_true ?_); simp only [List.getElem_toArray, List.getElem_cons_zero, List.getElem_cons_succ, siz3, siz4, siz5, siz22, siz26, siz27, siz37, siz45, siz72, siz90, siz110, siz112, siz114, siz137, siz139]; omega) | ((with_reducible refine i64_of ?_); omega) | ((with_reducible refine natOk_u64.2 ?_); omega) | ((with_reducible refine natOk_i64.2 ?_); omega)))))))
    refine ⟨k + 1, by omega, by omega, some, ⟨rfl, ⟨rfl, rfl⟩, Nat.le_refl _⟩, ⟨⟨rfl, .inr rfl⟩, ⟨rfl, .inr (by rw [mixI_2, ← shr8]; rfl)⟩, ⟨rfl, .inr rfl⟩, trivial⟩, ⟨fun _ => rfl, rfl, rfl, fun _ => rfl, rfl, ?_⟩, trivial⟩
    rw [mixI_1, ← and255 g2.1]
    rfl
  · have h3 := of_decide_eq_false h3
    (repeat (first | (refine And.intro ?_ ?_; · with_reducible exact rfl) | (refine And.intro ?_ ?_; · (with_reducible refine lexOk ?_); kernel_rfl) | refine ⟨fun _ => ?_, fun h => absurd h (by decide)⟩ | refine ⟨fun h => absurd h (by decide), fun _ => ?_⟩ | (refine And.intro ?_ ?_; · (first | with_reducible exact rfl | with_reducible assumption | ((repeat' (with_reducible refine and_t ?_ ?_)) <;> (first | with_reducible exact rfl | decide | with_reducible assumption | ((with_reducible refine one_t ?_); rfl) | ((with_reducible refine live_t ?_); rfl) | ((with_reducible refine all_t ?_); rfl) | ((with_reducible refine isz_t ?_); rfl) | ((with_reducible refine len_t ?_); rfl) | ((with_reducible refine decide_eq_true ?_); omega) | ((with_reducible refine decide_eq_true ?_); simp only [List.getElem_toArray, List.getElem_cons_zero, List.getElem_cons_succ, siz3, siz4, siz5, siz22, siz26, siz27, siz37, siz45, siz72, siz90, siz110, siz112, siz114, siz137, siz139]; omega) | ((with_reducible refine i64_of ?_); omega) | ((with_reducible refine natOk_u64.2 ?_); omega) | ((with_reducible refine natOk_i64.2 ?_); omega)))))))
    obtain rfl : k = 8 := by omega
    exact ⟨some, .tup [], [⟨true, true, 112, 1, .cells [A.val (.int .u64 (mixed h n))]⟩], ⟨⟨rfl, ⟨rfl, rfl⟩, Nat.le_refl _⟩, ⟨⟨rfl, .inr rfl⟩, trivial⟩, ⟨fun _ => rfl, rfl, rfl, fun _ => rfl, rfl, rfl⟩, trivial⟩, rfl, rfl⟩
end Go.Proofs.Ytpobfdhmggkbaaa
