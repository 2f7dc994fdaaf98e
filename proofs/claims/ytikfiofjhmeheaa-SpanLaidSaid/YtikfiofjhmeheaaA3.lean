/- Contracts of in, same, alike, containing. -/
import Derived.Test.YtikfiofjhmeheaaA2
namespace Go.Proofs.Ytikfiofjhmeheaa
open Go.RowKit Go.Sort

/-- has one of the spans the number x? -/
def inB (xs : List Sp) (x : Int) : Bool := xs.any fun s => hasB s.1 s.2 x
theorem getD_mem {xs : List Sp} {k : Nat} (h : k < xs.length) : xs.getD k (0, 0) ∈ xs := by
  simp [List.getD_eq_getElem?_getD, List.getElem?_eq_getElem h]
theorem mem_getD {xs : List Sp} {s : Sp} (h : s ∈ xs) : ∃ k, k < xs.length ∧ loA xs k = s.1 ∧ hiA xs k = s.2 := by
  obtain ⟨k, hk, rfl⟩ := List.mem_iff_getElem.1 h
  exact ⟨k, hk, by simp [loA, List.getD_eq_getElem?_getD, hk], by simp [hiA, List.getD_eq_getElem?_getD, hk]⟩
theorem inB_true {xs : List Sp} {x : Int} {k : Nat} (h : k < xs.length) (h1 : loA xs k ≤ x) (h2 : x < hiA xs k) : inB xs x = true :=
  List.any_eq_true.2 ⟨_, getD_mem h, decide_eq_true ⟨h1, h2⟩⟩
theorem inB_false {xs : List Sp} {x : Int} (h : ∀ k, k < xs.length → ¬ (loA xs k ≤ x ∧ x < hiA xs k)) : inB xs x = false := by
  rw [Bool.eq_false_iff]
  intro hh
  obtain ⟨s, hs, hb⟩ := List.any_eq_true.1 hh
  obtain ⟨k, hk, e1, e2⟩ := mem_getD hs
  have := of_decide_eq_true hb
  exact h k hk (by rw [e1, e2]; exact this)
theorem inB_iff {xs : List Sp} {x : Int} : inB xs x = true ↔ ∃ k, k < xs.length ∧ loA xs k ≤ x ∧ x < hiA xs k := by
  constructor
  · intro hh
    obtain ⟨s, hs, hb⟩ := List.any_eq_true.1 hh
    obtain ⟨k, hk, e1, e2⟩ := mem_getD hs
    have := of_decide_eq_true hb
    exact ⟨k, hk, by rw [e1, e2]; exact this⟩
  · rintro ⟨k, hk, h1, h2⟩
    exact inB_true hk h1 h2

set_option maxHeartbeats 400000 in
theorem in_any (A : Option Addr) (n cap : Nat) (x : Int) (xs : List Sp) (w : World) (hx : SpansAt w.heap.size w A n xs) (hn : n ≤ 1000000) :
    Calls Try.prog 77 #[.slice A n cap, .int .i64 x] w fun e w' => e = .returned (.bool (inB xs x)) ∧ w = w' := by
  have HL := hide hx.1
  have HX := hide hx
  clear hx
  go_enter Try.func77, Try.ntmps77
  go_wp2
  go_loop [5] (fun i => ∃ k : Nat, k ≤ n ∧ i = .int .i64 k ∧ Hid (∀ j, j < k → ¬ (loA xs j ≤ x ∧ x < hiA xs j))) (fun i => n - (intOf i).toNat)
  case atStart => exact ⟨0, Nat.zero_le _, rfl, fun j hj => absurd hj (Nat.not_lt_zero _)⟩
  case round =>
    obtain ⟨k, hk, rfl, HN⟩ := hrel
    by_cases hlt : k < n
    · obtain ⟨b, off, rfl, hb, c0, c1⟩ := HX.out.at_ hlt
      by_cases h1 : loA xs k ≤ x
      · by_cases h2 : x < hiA xs k
        · have H := hide (inB_true (x := x) (by rw [HL.out]; exact hlt) h1 h2)
          go_wp2
          go_ret
          exact ⟨ret_bool H.out.symm, rfl⟩
        · have HS : Hid (∀ j, j < k + 1 → ¬ (loA xs j ≤ x ∧ x < hiA xs j)) := by
            intro j hj
            rcases Nat.lt_or_ge j k with h | h
            · exact HN.out j h
            · obtain rfl : j = k := by omega
              omega
          go_wp2
          go_round
          case rel => exact ⟨k + 1, by omega, by go_num, HS⟩
          case measure => simp [intOf]; omega
      · have HS : Hid (∀ j, j < k + 1 → ¬ (loA xs j ≤ x ∧ x < hiA xs j)) := by
          intro j hj
          rcases Nat.lt_or_ge j k with h | h
          · exact HN.out j h
          · obtain rfl : j = k := by omega
            omega
        go_wp2
        go_round
        case rel => exact ⟨k + 1, by omega, by go_num, HS⟩
        case measure => simp [intOf]; omega
    · have H := hide (inB_false (xs := xs) (x := x) (fun j hj => HN.out j (by rw [HL.out] at hj; omega)))
      go_wp2
      go_ret
      exact ⟨ret_bool H.out.symm, rfl⟩

end Go.Proofs.Ytikfiofjhmeheaa
