/- Collect, SortedFunc at quotes. -/
import Derived.Test.YtpbenjpponbjjaaGO
import Derived.Shelf.SlSortCmp.NoneTotal
namespace Go.Proofs.Ytpbenjpponbjjaa
open Go.RowKit Go.Lib Go.Sort Go.Shelf
abbrev valsV (Bs : Nat) : Value := .func (.func 110) #[] #[.pointer (some ⟨Bs, 0, none⟩)]
theorem Collect_any (A : Option Addr) (n c Bs : Nat) (l : List Qt) (w : World) (hx : QtAt w.heap.size w A n l) (hn : n ≤ 1000) (hBs : w.cell? ⟨Bs, 0, none⟩ = some (.slice A n c)) (hlt : Bs < w.heap.size) :
    Calls Try.prog 108 #[valsV Bs] w fun e w' => ∃ v, e = .returned v ∧ w'.ownsRow (w.heap.size + 1) 60 5 v n (cellsQ l) ∧ Below w.heap.size w w' := by
  have HA := hide (AppendSeq_any A n c Bs l w hx hn hBs hlt)
  clear hx hn hBs hlt
  go_enter Try.func108, Try.ntmps108
  go_wp2_with fail
  refine HA.out.mono ?_
  rintro e w2 ⟨v, rfl, ho, hb⟩
  obtain ⟨va, vc, rfl⟩ := own_slice ho
  have HO := hide ho
  have HB := hide hb
  clear ho hb HA
  go_wp2_with fail
  go_ret
  exact ⟨_, rfl, HO.out, HB.out⟩
theorem SortedFunc_any (A : Option Addr) (n c Bs : Nat) (l : List Qt) (w : World) (hx : QtAt w.heap.size w A n l) (hn : n ≤ 1000) (hBs : w.cell? ⟨Bs, 0, none⟩ = some (.slice A n c)) (hlt : Bs < w.heap.size) (hl : ∀ o ∈ l, 0 ≤ o.2.1 ∧ o.2.1 ≤ 1073741824) :
    Calls Try.prog 90 #[valsV Bs, .func (.func 92) #[] #[]] w fun e w' => ∃ A' c' l', e = .returned (.slice A' n c') ∧ QtAt w'.heap.size w' A' n l' ∧ l'.Perm l ∧ (∀ i j, i < j → j < n → (qA l' j).2.1 ≤ (qA l' i).2.1) ∧ Below w.heap.size w w' := by
  have HA := hide (Collect_any A n c Bs l w hx hn hBs hlt)
  have HLN := hide hx.len
  have HL := hide hl
  have HN := hide hn
  clear hx hn hBs hlt hl
  go_enter Try.func90, Try.ntmps90
  go_wp2_with fail
  refine HA.out.mono ?_
  rintro e w2 ⟨v, rfl, ho, hb⟩
  obtain ⟨va, vc, rfl⟩ := own_slice ho
  have hsz := hb.size
  have HB := hide hb
  have HS : Hid (Calls Try.prog 109 #[.slice va n vc, .func (.func 92) #[] #[]] w2 fun e w' => e = .returned (.tuple #[]) ∧ ∃ l', l'.Perm l ∧ (∀ i j, i < j → j < n → (qA l' j).2.1 ≤ (qA l' i).2.1) ∧ QtAt w'.heap.size w' va n l' ∧ Below w.heap.size w w') := by
    have hlen := HLN.out
    rcases ho.2 with ⟨e1, e2⟩ | ⟨g, cap, cur, e1, hg, _, _⟩
    · injection e1 with e1 e3 e4
      subst e1 e3 e4
      have hl0 : l = [] := List.eq_nil_of_length_eq_zero hlen
      refine (AnyF.slices_SortFunc_none Try.laysSort none 0 _ w2).mono ?_
      rintro e w3 ⟨rfl, rfl⟩
      exact ⟨rfl, [], by rw [hl0], fun i j _ hj => absurd hj (Nat.not_lt_zero _), ⟨rfl, .inl rfl⟩, HB.out⟩
    · injection e1 with e1 e3 e4
      subst e1 e4
      have hlt := (ho.lt g rfl).1
      refine (sortQ_any _ g n vc l HL.out w2 ho HN.out).mono ?_
      rintro e w3 ⟨rfl, l', h1, h2, h3, h4⟩
      exact ⟨rfl, l', h1, h2, h3, HB.out.grown h4 hsz (fun k e => by injection e with e; omega)⟩
  clear ho hb hsz HB HA
  go_wp2_with fail
  refine HS.out.mono ?_
  rintro e w3 ⟨rfl, l', h1, h2, h3, h4⟩
  have H1 := hide h1
  have H2 := hide h2
  have H3 := hide h3
  have H4 := hide h4
  clear h1 h2 h3 h4 HS
  go_wp2_with fail
  go_ret
  exact ⟨_, _, l', rfl, H3.out, H1.out, H2.out, H4.out⟩
end Go.Proofs.Ytpbenjpponbjjaa
