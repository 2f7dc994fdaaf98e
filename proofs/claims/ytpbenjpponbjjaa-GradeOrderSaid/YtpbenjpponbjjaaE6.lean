/- What makes or writes memory is sound. -/
import Derived.Test.YtpbenjpponbjjaaE5
import Derived.Laws.MakeOwn
import Derived.Laws.AppendOwn
import Derived.Maps.AppendAt
namespace Go.Proofs.Ytpbenjpponbjjaa.En
open Go.RowKit

theorem cellsOf_ok {ρ : Pl} {v : AV} {u : Value} (h : VRel ρ v u) {l : List A} (e : cellsOf v = some l) : LRel (ARel ρ) l u.cells.toList ∨ (∃ x, l = [x] ∧ ARel ρ x u ∧ (u.oneCell' = true → u.cells = #[u])) := by
  unfold cellsOf at e
  split at e <;> try (cases e; done)
  · rename_i x
    injection e with e
    subst e
    refine .inr ⟨x, rfl, h, fun h1 => ?_⟩
    cases u <;> first | rfl | (simp [Value.oneCell'] at h1)
  · rename_i l'
    injection e with e
    subst e
    obtain ⟨cs, rfl, hcs⟩ : ∃ cs : Array Value, u = .agg cs ∧ LRel (ARel ρ) l' cs.toList := h
    exact .inl hcs
theorem one_ok {ρ : Pl} {x : A} {u : Value} (h : ARel ρ x u) (h1 : x.one = true) : u.oneCell' = true := by
  cases x with
  | s x =>
    cases x with
    | v y =>
      obtain rfl : u = y := h
      exact h1
    | ptr b o =>
      obtain ⟨_, a, _, _, rfl⟩ := h
      rfl
    | slc b o n =>
      obtain ⟨_, a, c, rfl, _⟩ := h
      rfl
  | fn f a b =>
    obtain ⟨fi, ca, rfl, _⟩ := h
    rfl
theorem cells_one {ρ : Pl} {v : AV} {u : Value} (h : VRel ρ v u) {l : List A} (e : cellsOf v = some l) (ho : ∀ x ∈ l, x.one = true) : LRel (ARel ρ) l u.cells.toList ∧ ∀ y ∈ u.cells.toList, y.oneCell' = true := by
  have key : LRel (ARel ρ) l u.cells.toList := by
    rcases cellsOf_ok h e with h1 | ⟨x, rfl, h1, h2⟩
    · exact h1
    · rw [h2 (one_ok h1 (ho x (by simp)))]
      exact ⟨h1, trivial⟩
  refine ⟨key, fun y hy => ?_⟩
  obtain ⟨j, hj, rfl⟩ := List.mem_iff_getElem.1 hy
  have hlt : j < l.length := by rw [← key.length]; exact hj
  obtain ⟨u', h1, h2⟩ := key.get (List.getElem?_eq_getElem hlt)
  rw [List.getElem?_eq_getElem hj] at h1
  injection h1 with h1
  rw [h1]
  exact one_ok h2 (ho _ (List.getElem_mem hlt))
theorem toRow_ok {ρ : Pl} {k : RK} : ∀ {l : List A} {r : List Int} {us : List Value}, toRow k l = some r → LRel (ARel ρ) l us → us = r.map k.val
  | [], r, us, h, hu => by
    simp [toRow] at h
    subst h
    cases us
    · rfl
    · exact hu.elim
  | .s (.v (.int k' n)) :: l, r, us, h, hu => by
    cases us with
    | nil => exact hu.elim
    | cons u us =>
      obtain ⟨h1, h2⟩ := hu
      obtain rfl : u = .int k' n := h1
      unfold toRow at h
      split at h <;> try (cases h; done)
      rename_i k r' hr
      split at h <;> try (cases h; done)
      rename_i hk
      subst hk
      injection h with h
      subst h
      rw [toRow_ok hr h2]
      rfl
  | .s (.v (.bool b)) :: l, r, us, h, hu => by
    cases us with
    | nil => exact hu.elim
    | cons u us =>
      obtain ⟨h1, h2⟩ := hu
      obtain rfl : u = .bool b := h1
      unfold toRow at h
      split at h <;> try (cases h; done)
      rename_i r' hr
      injection h with h
      subst h
      rw [toRow_ok hr h2]
      cases b <;> rfl
  | .s (.v (.float _ _)) :: _, _, _, h, _ => by simp [toRow] at h
  | .s (.v (.complex _ _ _)) :: _, _, _, h, _ => by simp [toRow] at h
  | .s (.v (.string _)) :: _, _, _, h, _ => by simp [toRow] at h
  | .s (.v (.pointer _)) :: _, _, _, h, _ => by simp [toRow] at h
  | .s (.v (.slice _ _ _)) :: _, _, _, h, _ => by simp [toRow] at h
  | .s (.v (.map _)) :: _, _, _, h, _ => by simp [toRow] at h
  | .s (.v (.chan _)) :: _, _, _, h, _ => by simp [toRow] at h
  | .s (.v (.func _ _ _)) :: _, _, _, h, _ => by simp [toRow] at h
  | .s (.v .nilFunc) :: _, _, _, h, _ => by simp [toRow] at h
  | .s (.v (.iface _ _)) :: _, _, _, h, _ => by simp [toRow] at h
  | .s (.v .nilIface) :: _, _, _, h, _ => by simp [toRow] at h
  | .s (.v (.agg _)) :: _, _, _, h, _ => by simp [toRow] at h
  | .s (.v (.tuple _)) :: _, _, _, h, _ => by simp [toRow] at h
  | .s (.ptr _ _) :: _, _, _, h, _ => by simp [toRow] at h
  | .s (.slc _ _ _) :: _, _, _, h, _ => by simp [toRow] at h
  | .fn _ _ _ :: _, _, _, h, _ => by simp [toRow] at h
theorem getD_int (xs : List Int) (j : Nat) (h : j < xs.length) (k : RK) : (xs.map k.val)[j]? = some (k.val (xs.getD j 0)) := by
  simp [List.getElem?_map, List.getElem?_eq_getElem h, List.getD]
theorem rows_get {ρ : Pl} {k : RK} {xs : List Int} {us : List Value} (h : ∀ j, j < xs.length → us[j]? = some (k.val (xs.getD j 0))) (j : Nat) (x : A) (hx : (Body.rows k xs).get j = some (true, x)) : ∃ u, us[j]? = some u ∧ ARel ρ x u := by
  simp only [Body.get] at hx
  injection hx with hx
  injection hx with h1 h2
  subst h2
  exact ⟨_, h j (of_decide_eq_true h1), rfl⟩
theorem toPtrs_get {b : Nat} : ∀ {l : List A} {os : List Nat}, toPtrs b l = some os → l = ptrL b os
  | [], os, h => by
    simp only [toPtrs, Option.some.injEq] at h
    subst h
    rfl
  | x :: l, os, h => by
    unfold toPtrs at h
    split at h <;> try (cases h; done)
    · rename_i e
      cases e
    · rename_i b' o l' e
      injection e with e1 e2
      subst e1 e2
      split at h <;> try (cases h; done)
      rename_i hb
      obtain rfl := of_decide_eq_true hb
      split at h <;> try (cases h; done)
      rename_i r hr
      injection h with h
      subst h
      rw [toPtrs_get hr]
      rfl
theorem ptrs_get (b : Nat) (os : List Nat) (j : Nat) (x : A) : (Body.cells (ptrL b os)).get j = some (true, x) ↔ (Body.ptrs b os).get j = some (true, x) := by
  simp only [Body.get, ptrL]
  by_cases hj : j < os.length
  · simp [hj]
  · simp [hj]
theorem ptrBody_ok (l : List A) : (ptrBody l).live = true ∧ (ptrBody l).len = l.length ∧ ∀ j x, (ptrBody l).get j = some (true, x) → (Body.cells l).get j = some (true, x) := by
  unfold ptrBody
  split
  · split
    · rename_i os h
      have e := toPtrs_get h
      refine ⟨rfl, by rw [e]; simp [Body.len, ptrL], fun j x hx => ?_⟩
      rw [e]
      exact (ptrs_get _ os j x).2 hx
    · exact ⟨rfl, rfl, fun _ _ h => h⟩
  · exact ⟨rfl, rfl, fun _ _ h => h⟩
theorem viewB_ok {rk : Option RK} {l : List A} {B : Body} (h : mkBody rk l = some B) : (viewB rk l B).live = B.live ∧ (viewB rk l B).len = B.len ∧ ∀ j x, (viewB rk l B).get j = some (true, x) → B.get j = some (true, x) := by
  cases rk with
  | none =>
    unfold mkBody at h
    injection h with h
    subst h
    obtain ⟨h1, h2, h3⟩ := ptrBody_ok l
    exact ⟨h1, h2, h3⟩
  | some k => exact ⟨rfl, rfl, fun _ _ h => h⟩
theorem mkBody_ok {ρ : Pl} {rk : Option RK} {l : List A} {body : Body} {us : List Value} (h : mkBody rk l = some body) (hu : LRel (ARel ρ) l us) :
    body.live = true ∧ body.len = l.length ∧ ∀ j x, body.get j = some (true, x) → ∃ u, us[j]? = some u ∧ ARel ρ x u := by
  unfold mkBody at h
  split at h
  · injection h with h
    subst h
    refine ⟨rfl, rfl, fun j x hx => ?_⟩
    simp only [Body.get] at hx
    cases hl : l[j]? with
    | none => simp [hl] at hx
    | some y =>
      simp [hl] at hx
      subst hx
      exact hu.get hl
  · rename_i k
    split at h <;> try (cases h; done)
    rename_i r hr
    injection h with h
    subst h
    have e := toRow_ok hr hu
    have hlen : r.length = l.length := by rw [← hu.length, e, List.length_map]
    refine ⟨rfl, hlen, fun j x hx => ?_⟩
    subst e
    exact rows_get (fun j hj => getD_int r j hj k) j x hx

theorem setFold_get (off : Nat) : ∀ (vs : List Value) (k : Nat) (cells : Array Value) (m : Nat), off + k + vs.length ≤ cells.size →
    ((vs.zipIdx k).foldl (fun cs (x : Value × Nat) => cs.setIfInBounds (off + x.2) x.1) cells)[m]? = if off + k ≤ m ∧ m < off + k + vs.length then vs[m - (off + k)]? else cells[m]?
  | [], k, cells, m, _ => by
    rw [if_neg (by simp)]
    rfl
  | v :: vs, k, cells, m, h => by
    simp only [List.zipIdx_cons, List.foldl_cons]
    simp only [List.length_cons] at h
    rw [setFold_get off vs (k + 1) _ m (by simp; omega)]
    simp only [List.length_cons]
    by_cases h1 : off + (k + 1) ≤ m ∧ m < off + (k + 1) + vs.length
    · rw [if_pos h1, if_pos (by omega)]
      rw [show m - (off + k) = (m - (off + (k + 1))) + 1 by omega, List.getElem?_cons_succ]
    · rw [if_neg h1]
      by_cases h2 : m = off + k
      · subst h2
        rw [if_pos (by omega)]
        have h3 : off + k < cells.size := by omega
        simp [h3]
      · rw [if_neg (by omega), Array.getElem?_setIfInBounds_ne (by omega)]
theorem setFold {off : Nat} {vs cells : Array Value} (h : off + vs.size ≤ cells.size) :
    (vs.zipIdx.foldl (fun cs (x : Value × Nat) => cs.setIfInBounds (off + x.2) x.1) cells).toList = cells.toList.take off ++ vs.toList ++ cells.toList.drop (off + vs.size) := by
  apply List.ext_getElem?
  intro m
  rw [Array.getElem?_toList, ← Array.foldl_toList, Array.toList_zipIdx]
  rw [setFold_get off vs.toList 0 cells m (by simpa using h)]
  simp only [Array.length_toList, Nat.add_zero]
  rw [List.append_assoc]
  by_cases h1 : off ≤ m ∧ m < off + vs.size
  · rw [if_pos h1, List.getElem?_append_right (by simp; omega), List.length_take, List.getElem?_append_left (by simp; omega)]
    congr 1
    simp
    omega
  · rw [if_neg h1]
    by_cases h2 : m < off
    · rw [List.getElem?_append_left (by simp; omega), List.getElem?_take_of_lt h2, Array.getElem?_toList]
    · rw [List.getElem?_append_right (by simp; omega), List.length_take, List.getElem?_append_right (by simp; omega), List.getElem?_drop, Array.getElem?_toList]
      congr 1
      simp
      omega
theorem fill_ok {ρ : Pl} {place : Nat → Option (Nat × Nat)} : ∀ {parts : List (Nat × AV)} {rparts : List (Nat × Value)} {cells : List A} {rcells : Array Value} {l : List A}, aFill place cells parts = some l → LRel (ARel ρ) cells rcells.toList →
    rparts.length = parts.length → (∀ (j i : Nat) (x : AV), parts[j]? = some (i, x) → ∃ u, rparts[j]? = some (i, u) ∧ VRel ρ x u) → ∃ arr, Instr.fill place rcells rparts = some arr ∧ LRel (ARel ρ) l arr.toList ∧ arr.size = rcells.size
  | [], rparts, cells, rcells, l, h, hc, hlen, _ => by
    simp [aFill] at h
    subst h
    have : rparts = [] := List.eq_nil_of_length_eq_zero (by simpa using hlen)
    subst this
    exact ⟨rcells, rfl, hc, rfl⟩
  | (i, x) :: parts, [], _, _, _, _, _, hlen, _ => by simp at hlen
  | (i, x) :: parts, (i', u') :: rparts, cells, rcells, l, h, hc, hlen, hr => by
    obtain ⟨u, h1, h2⟩ := hr 0 i x (by simp)
    simp at h1
    obtain ⟨rfl, rfl⟩ := h1
    unfold aFill at h
    split at h <;> try (cases h; done)
    rename_i off size l' hp hcl
    split at h <;> try (cases h; done)
    rename_i hl
    obtain ⟨hl1, hl2, hl3⟩ := hl
    obtain ⟨k1, k2⟩ := cells_one h2 hcl (by simpa using hl3)
    have hsz : u'.cells.size = size := by rw [← hl1, ← k1.length]; simp
    have hrc : rcells.size = cells.length := by rw [← hc.length]; simp
    have hn : LRel (ARel ρ) (cells.take off ++ l' ++ cells.drop (off + size)) (u'.cells.zipIdx.foldl (fun cs (x : Value × Nat) => cs.setIfInBounds (off + x.2) x.1) rcells).toList := by
      rw [setFold (by omega), hsz]
      exact ((hc.take _).append k1).append (hc.drop _)
    obtain ⟨arr, g1, g2, g3⟩ := fill_ok (rparts := rparts) h hn (by simpa using hlen) (fun j i x hj => by simpa using hr (j + 1) i x (by simpa using hj))
    refine ⟨arr, ?_, g2, ?_⟩
    · unfold Instr.fill
      rw [hp]
      have c1 : ¬ u'.cells.size ≠ size := by simpa using hsz
      have c2 : ¬ off + u'.cells.size > rcells.size := by omega
      simp only [ne_eq, hsz, not_true_eq_false, decide_false, Bool.false_or]
      rw [if_neg (by simp; omega)]
      exact g1
    · rw [g3, ← Array.length_toList, setFold (by omega)]
      simp
      omega
section
variable {C : Cx} {P : Program} {T : TT} {ρ : Pl} {H : AH} {w : World}

theorem newVar_ok (_hT : TOk P T) (hI : Inv C ρ H w) {t : TypeId} {l : List A} {u : Value} (hl : LRel (ARel ρ) l u.cells.toList) {c : Bool} {v : AV} {H' : AH} (h : aNewVar T H t l = some (c, v, H')) :
    ∃ ρ' w', (newVar t u).run P w = .ok ⟨w.heap.size, 0, none⟩ w' ∧ Inv C ρ' H' w' ∧ Ext ρ ρ' ∧ VRel ρ' v (.pointer (some ⟨w.heap.size, 0, none⟩)) := by
  unfold aNewVar at h
  split at h <;> try (cases h; done)
  rename_i i hi
  split at h <;> try (cases h; done)
  rename_i body hb
  injection h with h
  injection h with h h'
  injection h' with h' h''
  subst h' h''
  obtain ⟨h1, h2, h3⟩ := mkBody_ok hb hl
  have hsz : u.cells.size = l.length := by rw [← hl.length]; simp
  obtain ⟨g1, g2⟩ := hI.alloc u.cells true t 1 body (fun j x hx => by have := h3 j x hx; simpa using this) (by omega) (fun _ => by omega)
  refine ⟨_, _, ?_, g1, g2, ?_⟩
  · simp [newVar, newRow]
  · exact ⟨by rw [upd_same], ⟨w.heap.size, 0, none⟩, by rw [upd_same], rfl, by simp [Addr.add]⟩
end
end Go.Proofs.Ytpbenjpponbjjaa.En
