/- The closers of conditions, as what is taken for granted of two small lemmas. -/
import Derived.Test.YtdepnhnpklbmiaaE16
import Derived.Test.YtdepnhnpklbmiaaT
import Derived.Test.YtdepnhnpklbmiaaE18
namespace Go.Proofs.Ytdepnhnpklbmiaa
open Go.RowKit
set_option linter.unusedSimpArgs false
set_option linter.unusedVariables false
theorem aC {A B : Prop} (k : B) (h : A := by (first | with_reducible exact rfl | ((with_reducible refine bkP ?_); rfl) | (first | with_reducible exact rfl | with_reducible assumption | ((repeat' (with_reducible refine and_t ?_ ?_)) <;> (first | with_reducible exact rfl | decide | with_reducible assumption | ((with_reducible first | refine one_t ?_ | refine live_t ?_ | refine all_t ?_ | refine beq_t ?_ | refine isz_t ?_ | refine len_t ?_); rfl) | ((with_reducible refine bs_t ?_ ?_ ?_) <;> first | exact of_decide_eq_true rfl | rfl) | ((with_reducible first | refine mk_t ?_ | refine ap_t (y := 1) rfl ?_ | refine decide_eq_true ?_); (try simp only [List.getElem_toArray, List.getElem_cons_succ, List.getElem_cons_zero, lenOf, List.length_cons, List.length_nil, List.length_set, siz3, byt3, siz72, byt72, siz4, byt4, siz5, byt5]) <;> omega) | ((with_reducible first | refine i64_of ?_ | refine natOk_u64.2 ?_ | refine natOk_i64.2 ?_); omega)))))) : A ∧ B := ⟨h, k⟩
theorem aK {A B D : Prop} (k : B) (h : A := by ((with_reducible refine lexOk ?_); kernel_rfl)) : (A ∧ B) ∨ D := .inl ⟨h, k⟩
theorem wI {P : Prop} (h : P := by (refine ⟨⟨rfl, ⟨rfl, rfl⟩, Nat.le_of_ble_eq_true rfl⟩, ?_, ?_⟩; (· (repeat (first | exact trivial | refine ⟨⟨rfl, .inr rfl⟩, ?_⟩ | (refine ⟨⟨rfl, .inr ?_⟩, ?_⟩; · rfl)))); (· (repeat (first | exact trivial | (refine And.intro ?_ ?_; · (first | exact ⟨fun _ => rfl, rfl, rfl, fun _ => rfl, rfl, rfl⟩ | exact ⟨fun _ => rfl, rfl, rfl, fun h => (by cases h), rfl, rfl⟩ | exact ⟨fun h => (by cases h), rfl, rfl, fun _ => rfl, rfl, rfl⟩ | exact ⟨fun h => (by cases h), rfl, rfl, fun h => (by cases h), rfl, rfl⟩ | rfl | exact trivial))))))) : P := h
theorem hI {P : Prop} (h : P := by (repeat (first | exact trivial | (refine And.intro ?_ ?_; · (first | exact ⟨fun _ => rfl, rfl, rfl, fun _ => rfl, rfl, rfl⟩ | exact ⟨fun _ => rfl, rfl, rfl, fun h => (by cases h), rfl, rfl⟩ | exact ⟨fun h => (by cases h), rfl, rfl, fun _ => rfl, rfl, rfl⟩ | exact ⟨fun h => (by cases h), rfl, rfl, fun h => (by cases h), rfl, rfl⟩ | rfl | exact trivial))))) : P := h
end Go.Proofs.Ytdepnhnpklbmiaa
