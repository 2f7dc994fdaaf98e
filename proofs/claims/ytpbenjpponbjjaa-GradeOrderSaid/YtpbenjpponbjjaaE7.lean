/- What makes or writes memory is sound (2). -/
import Derived.Test.YtpbenjpponbjjaaE6
namespace Go.Proofs.Ytpbenjpponbjjaa.En
open Go.RowKit

theorem put_ok {ρ : Pl} {B B' : Body} {j : Nat} {x : A} {u : Value} (h : B.put j x = some (true, B')) (hx : ARel ρ x u) :
    B.live = true ∧ B'.live = true ∧ B'.len = B.len ∧ j < B.len ∧ ∀ i y, B'.get i = some (true, y) → (i = j ∧ j < B.len ∧ ARel ρ y u) ∨ (i ≠ j ∧ B.get i = some (true, y)) := by
  unfold Body.put at h
  split at h <;> try (cases h; done)
  · rename_i l
    split at h <;> try (cases h; done)
    rename_i hj
    have hj := of_decide_eq_true hj
    injection h with h
    injection h with _ h
    subst h
    refine ⟨rfl, rfl, by simp [Body.len], hj, fun i y hy => ?_⟩
    simp only [Body.get, List.getElem?_set] at hy
    by_cases hij : i = j
    · subst hij
      simp [hj] at hy
      subst hy
      exact .inl ⟨rfl, hj, hx⟩
    · rw [if_neg (fun e => hij e.symm)] at hy
      exact .inr ⟨hij, hy⟩
  · rename_i k xs k' n
    split at h <;> try (cases h; done)
    rename_i hk
    subst hk
    injection h with h
    injection h with hj h
    subst h
    have hj := of_decide_eq_true hj
    refine ⟨rfl, rfl, by simp [Body.len], hj, fun i y hy => ?_⟩
    simp only [Body.get, List.length_set] at hy
    injection hy with hy
    injection hy with hi hy
    have hi' := of_decide_eq_true hi
    by_cases hij : i = j
    · subst hij
      subst hy
      refine .inl ⟨rfl, hj, ?_⟩
      obtain rfl : u = .int k n := hx
      show _ = _
      simp [List.getD, hi', RK.val]
    · refine .inr ⟨hij, ?_⟩
      subst hy
      simp only [Body.get, hi]
      simp [List.getD, List.getElem?_set_ne (fun e => hij e.symm)]
  · rename_i xs b
    injection h with h
    injection h with hj h
    subst h
    have hj := of_decide_eq_true hj
    refine ⟨rfl, rfl, by simp [Body.len], hj, fun i y hy => ?_⟩
    simp only [Body.get, List.length_set] at hy
    injection hy with hy
    injection hy with hi hy
    have hi' := of_decide_eq_true hi
    by_cases hij : i = j
    · subst hij
      subst hy
      refine .inl ⟨rfl, hj, ?_⟩
      obtain rfl : u = .bool b := hx
      show _ = _
      cases b <;> simp [List.getD, hi', RK.val]
    · refine .inr ⟨hij, ?_⟩
      subst hy
      simp only [Body.get, hi]
      simp [List.getD, List.getElem?_set_ne (fun e => hij e.symm)]
  · rename_i p xs k n
    simp only [Option.some.injEq, Prod.mk.injEq, Bool.and_eq_true, decide_eq_true_eq] at h
    obtain ⟨⟨hk, hj⟩, rfl⟩ := h
    refine ⟨rfl, rfl, by simp [Body.len], hj, fun i y hy => ?_⟩
    simp only [Body.get, List.length_set] at hy
    injection hy with hy
    injection hy with hi hy
    have hi' := of_decide_eq_true hi
    by_cases hij : i = j
    · subst hij
      subst hy
      refine .inl ⟨rfl, hj, ?_⟩
      obtain rfl : u = .int k n := hx
      show _ = _
      rw [hk]
      simp [List.getD, hi', RK.val]
    · refine .inr ⟨hij, ?_⟩
      subst hy
      simp only [Body.get, hi]
      simp [List.getD, List.getElem?_set_ne (fun e => hij e.symm)]
  · rename_i p xs b
    simp only [Option.some.injEq, Prod.mk.injEq, Bool.and_eq_true, decide_eq_true_eq] at h
    obtain ⟨⟨hk, hj⟩, rfl⟩ := h
    refine ⟨rfl, rfl, by simp [Body.len], hj, fun i y hy => ?_⟩
    simp only [Body.get, List.length_set] at hy
    injection hy with hy
    injection hy with hi hy
    have hi' := of_decide_eq_true hi
    by_cases hij : i = j
    · subst hij
      subst hy
      refine .inl ⟨rfl, hj, ?_⟩
      obtain rfl : u = .bool b := hx
      show _ = _
      rw [hk]
      cases b <;> simp [List.getD, hi', RK.val]
    · refine .inr ⟨hij, ?_⟩
      subst hy
      simp only [Body.get, hi]
      simp [List.getD, List.getElem?_set_ne (fun e => hij e.symm)]

section
variable {C : Cx} {P : Program} {T : TT} {ρ : Pl}

theorem puts_ok {b : Nat} {a : Addr} : ∀ {l : List A} {us : List Value} {H : AH} {w : World} {blk : Blk} {o i : Nat} {B' : Body}, Inv C ρ H w → H[b]? = some blk → blk.rw = true → blk.body.live = true → (ρ b).addr = some a → blk.body.puts (o + i) l = some (true, B') → LRel (ARel ρ) l us →
    ∃ w', (storeCells (a.add o) us i).run P w = .ok () w' ∧ Inv C ρ (H.set b { blk with body := B' }) w'
  | [], us, H, w, blk, o, i, B', hI, hb, _, _, _, h, hu => by
    cases us with
    | cons _ _ => exact hu.elim
    | nil =>
      simp [Body.puts] at h
      subst h
      refine ⟨w, rfl, ?_⟩
      have : H.set b { blk with body := blk.body } = H := by
        apply List.ext_getElem?
        intro j
        rw [List.getElem?_set]
        split
        · rename_i e
          subst e
          split
          · exact hb.symm
          · rename_i h
            rw [List.getElem?_eq_none (by omega)] at hb
            cases hb
        · rfl
      rw [this]
      exact hI
  | x :: l, us, H, w, blk, o, i, B', hI, hb, hr, hl, ha, h, hu => by
    cases us with
    | nil => exact hu.elim
    | cons u us =>
      obtain ⟨hx, hus⟩ := hu
      unfold Body.puts at h
      split at h <;> try (cases h; done)
      rename_i c B1 hp
      split at h <;> try (cases h; done)
      rename_i d B2 hq
      injection h with h
      injection h with h h'
      subst h'
      simp only [Bool.and_eq_true] at h
      obtain ⟨⟨rfl, h1⟩, rfl⟩ := h
      obtain ⟨_, l1, l2, l3, l4⟩ := put_ok hp hx
      have hB := hI.blk b blk hb hl
      have hsp := (hB.lt a ha).1
      obtain ⟨ho0, arr, harr, hcap, hln, _⟩ := hB.own hr a ha
      have hcell : w.cell? (a.add (o + i)) = arr[o + i]? := by
        rw [addr_add' hsp, ho0, Nat.zero_add]
        simp [World.cell?, harr]
      have hlt : o + i < arr.size := by omega
      have hfr : w.frozen? (a.add (o + i)) = false := by
        rw [addr_add' hsp, ho0, Nat.zero_add]
        simp [World.frozen?, harr]
      have hone := one_ok hx h1
      have hs : (store ((a.add o).add i) u).run P w = .ok () (w.setCell (a.add (o + i)) u) := by
        rw [addr_add_add a hsp, run_store P w _ _ _ hone, hcell, Array.getElem?_eq_getElem hlt]
        simp [hfr]
      have hI1 := hI.set hb hl hr ha (o + i) u B1 l1 l2 l4
      have hbl := (List.getElem?_eq_some_iff.1 hb).1
      have hb1 : (H.set b { blk with body := B1 })[b]? = some { blk with body := B1 } := by simp [hbl]
      obtain ⟨w', g1, g2⟩ := puts_ok (us := us) (o := o) (i := i + 1) hI1 hb1 hr l1 ha (by rw [← Nat.add_assoc]; exact hq) hus
      refine ⟨w', by simp only [storeCells, Sem.run_bind, hs, Result.andThen_ok]; exact g1, ?_⟩
      simpa [List.set_set] using g2

variable {H : AH} {w : World}
theorem puts_one : ∀ {l : List A} {B B' : Body} {o : Nat}, B.puts o l = some (true, B') → ∀ x ∈ l, x.one = true
  | [], _, _, _, _ => by simp
  | x :: l, B, B', o, h => by
    unfold Body.puts at h
    split at h <;> try (cases h; done)
    rename_i c B1 hp
    split at h <;> try (cases h; done)
    rename_i d B2 hq
    injection h with h
    injection h with h h'
    subst h'
    simp only [Bool.and_eq_true] at h
    obtain ⟨⟨rfl, h1⟩, rfl⟩ := h
    intro y hy
    rcases List.mem_cons.1 hy with rfl | hy
    · exact h1
    · exact puts_one hq y hy
theorem store_ok (hT : TOk P T) (hI : Inv C ρ H w) {t : TypeId} {p x : AV} {u1 u2 : Value} (h1 : VRel ρ p u1) (h2 : VRel ρ x u2) {c : Bool} {H' : AH} (h : aStore T H t p x = some (c, H')) (hc : c = true) :
    ∃ w', (Instr.storeAt t u1 u2).run P w = .ok () w' ∧ Inv C ρ H' w' := by
  subst hc
  unfold aStore at h
  split at h <;> try (cases h; done)
  rename_i b o
  obtain ⟨hon, a, ha, hs, rfl⟩ : (ρ b).on = true ∧ ∃ a, (ρ b).addr = some a ∧ a.spot = none ∧ u1 = .pointer (some (a.add o)) := h1
  split at h <;> try (cases h; done)
  rename_i i blk l hi hb hl
  split at h <;> try (cases h; done)
  rename_i d body hp
  injection h with h
  injection h with h h'
  subst h'
  simp only [Bool.and_eq_true] at h
  obtain ⟨⟨⟨rfl, hr⟩, hlv⟩, hlen⟩ := h
  have hlen := of_decide_eq_true hlen
  obtain ⟨k1, k2⟩ := cells_one h2 hl (puts_one hp)
  obtain ⟨w', g1, g2⟩ := puts_ok (P := P) (i := 0) hI hb hr hlv ha (by simpa using hp) k1
  refine ⟨w', ?_, g2⟩
  have hsz : u2.cells.size = i.size := by rw [← hlen, ← k1.length]; simp
  simp [Instr.storeAt, Instr.sureAddr, storeVar, hsz, hT.sizeOf hi, g1]

theorem lrel_repl {l : List A} {us : List Value} (h : LRel (ARel ρ) l us) : ∀ n, LRel (ARel ρ) (repl n l) (List.replicate n us).flatten
  | 0 => trivial
  | n + 1 => by
    rw [List.replicate_succ, List.flatten_cons]
    exact h.append (lrel_repl h n)
theorem made_list (z : Array Value) : ∀ n, (Array.range (n * z.size)).toList.map (fun i => z[i % z.size]!) = (List.replicate n z.toList).flatten := by
  intro n
  apply List.ext_getElem?
  intro j
  induction n generalizing j with
  | zero => simp
  | succ n ih =>
    rw [List.replicate_succ, List.flatten_cons]
    by_cases h : j < z.size
    · rw [List.getElem?_append_left (by simpa using h)]
      have : j < (n + 1) * z.size := Nat.lt_of_lt_of_le h (by rw [Nat.add_mul]; omega)
      simp [this, Nat.mod_eq_of_lt h, h]
    · rw [List.getElem?_append_right (by simpa using h)]
      rw [← ih]
      simp only [Array.length_toList, List.getElem?_map, Array.toList_range]
      by_cases h2 : j < (n + 1) * z.size
      · have h3 : j - z.size < n * z.size := by rw [Nat.add_mul] at h2; omega
        rw [List.getElem?_range h2, List.getElem?_range h3]
        simp only [Option.map_some]
        rw [Nat.mod_eq_sub_mod (by omega)]
      · have h3 : ¬ j - z.size < n * z.size := by rw [Nat.add_mul] at h2; omega
        rw [List.getElem?_eq_none (by simpa using h2), List.getElem?_eq_none (by simpa using h3)]

theorem repl_length (l : List A) : ∀ n, (repl n l).length = n * l.length
  | 0 => by simp [repl]
  | n + 1 => by simp [repl, repl_length l n, Nat.add_mul, Nat.add_comm]

theorem zerosRel {t : TypeId} {i : TI} {info : TypeInfo} {z : Value} (h : TOk1 P t i info z) : LRel (ARel ρ) (i.zero.map A.val) z.cells.toList := by
  rw [h.zeros]
  exact lrel_val ρ i.zero

theorem buildSlice_ok (hT : TOk P T) (hI : Inv C ρ H w) {t : TypeId} {len : Nat} {parts : List (Nat × AV)} {rparts : Array (Nat × Value)} (hlen : rparts.size = parts.length)
    (hr : ∀ (j i : Nat) (x : AV), parts[j]? = some (i, x) → ∃ u, rparts.toList[j]? = some (i, u) ∧ VRel ρ x u) {c : Bool} {v : AV} {H' : AH} (h : aBuildSlice T H t len parts = some (c, v, H')) (hc : c = true) :
    ∃ u' ρ' w', (Instr.buildSlice t len rparts).run P w = .ok u' w' ∧ Inv C ρ' H' w' ∧ Ext ρ ρ' ∧ VRel ρ' v u' := by
  subst hc
  unfold aBuildSlice at h
  split at h <;> try (cases h; done)
  rename_i i hi
  split at h <;> try (cases h; done)
  rename_i e hd
  split at h <;> try (cases h; done)
  rename_i j hj
  split at h <;> try (cases h; done)
  rename_i l hf
  split at h <;> try (cases h; done)
  rename_i body hb
  injection h with h
  injection h with h h'
  injection h' with h' h''
  subst h' h''
  have hck := of_decide_eq_true h
  have hu := hT.un hi
  rw [hd] at hu
  obtain ⟨info, z, K⟩ := hT e j hj
  have hz := zerosRel (ρ := ρ) K
  have hzs : z.cells.size = j.size := by rw [← K.len, ← K.zeros]; simp
  have hcells : LRel (ARel ρ) (repl len (j.zero.map A.val)) ((Array.range (len * j.size)).map (fun k => z.cells[k % z.cells.size]!)).toList := by
    have := lrel_repl hz len
    rw [← made_list, hzs] at this
    simpa [hzs] using this
  obtain ⟨arr, g1, g2, g3⟩ := fill_ok (rparts := rparts.toList) hf hcells (by simpa using hlen) hr
  obtain ⟨m1, m2, m3⟩ := mkBody_ok hb g2
  obtain ⟨v1, v2, v3⟩ := viewB_ok hb
  have hasz : arr.size = l.length := by rw [← g2.length]; simp
  obtain ⟨k1, k2⟩ := hI.alloc arr true e j.size (viewB j.rk l body) (fun q x hx => by have := m3 q x (v3 q x hx); simpa using this) (by omega) (fun _ => by omega)
  have hlj : len * j.size = arr.size := by omega
  refine ⟨.slice (some ⟨w.heap.size, 0, none⟩) len len, _, _, ?_, k1, k2, by rw [upd_same], some ⟨w.heap.size, 0, none⟩, len, rfl, Nat.le_refl _, ?_, .inl ⟨⟨w.heap.size, 0, none⟩, by rw [upd_same], rfl, by simp [Addr.add], by rw [upd_same]; exact ⟨by show 0 + len * j.size ≤ arr.size; omega, fun _ => hlj⟩⟩⟩
  · have hno : ¬ len * j.size > 2 ^ 24 := by omega
    by_cases h0 : len * j.size = 0
    · have he : (Array.range (len * j.size)).map (fun k => z.cells[k % z.cells.size]!) = (#[] : Array Value) := by simp [h0]
      rw [he] at g1
      simp [Instr.buildSlice, run_underlying hu, hT.sizeOf hj, h0, g1, newRow, Array.range_zero']
    · simp [Instr.buildSlice, run_underlying hu, hT.sizeOf hj, hno, h0, zeroValue, typeInfo, K.inf, K.zero, g1, newRow]
  · unfold maxLen
    omega

theorem places_ok (hT : TOk P T) : ∀ {fs : List Field} {pl : List (Nat × Nat)}, places T fs = some pl → ∀ w, (fs.mapM fun f => Prod.mk f.offset <$> sizeOf f.type).run P w = .ok pl w
  | [], pl, h, w => by
    simp [places] at h
    subst h
    rfl
  | f :: fs, pl, h, w => by
    unfold places at h
    split at h <;> try (cases h; done)
    rename_i i l hi hl
    injection h with h
    subst h
    simp [List.mapM_cons, hT.sizeOf hi, places_ok hT hl w]
theorem build_ok (hT : TOk P T) {t : TypeId} {parts : List (Nat × AV)} {rparts : Array (Nat × Value)} (hlen : rparts.size = parts.length)
    (hr : ∀ (j i : Nat) (x : AV), parts[j]? = some (i, x) → ∃ u, rparts.toList[j]? = some (i, u) ∧ VRel ρ x u) {c : Bool} {v : AV} (h : aBuild T t parts = some (c, v)) :
    ∃ u, VRel ρ v u ∧ ∀ w', (Instr.build t rparts).run P w' = .ok u w' := by
  unfold aBuild at h
  split at h <;> try (cases h; done)
  rename_i i hi
  obtain ⟨info, z, K⟩ := hT t i hi
  have hz := zerosRel (ρ := ρ) K
  have hu := hT.un hi
  split at h <;> try (cases h; done)
  · rename_i fs hd
    rw [hd] at hu
    split at h <;> try (cases h; done)
    rename_i pl hp
    split at h <;> try (cases h; done)
    rename_i l hf
    injection h with h
    injection h with h h'
    subst h'
    obtain ⟨arr, g1, g2, g3⟩ := fill_ok (rparts := rparts.toList) hf hz (by simpa using hlen) hr
    refine ⟨.agg arr, ⟨arr, rfl, g2⟩, fun w' => ?_⟩
    simp [Instr.build, run_underlying hu, zeroValue, typeInfo, K.inf, K.zero, Array.mapM_eq_mapM_toList, places_ok hT hp, g1]
  · rename_i n e hd
    rw [hd] at hu
    split at h <;> try (cases h; done)
    rename_i j hj
    split at h <;> try (cases h; done)
    rename_i l hf
    injection h with h
    injection h with h h'
    subst h'
    obtain ⟨arr, g1, g2, g3⟩ := fill_ok (rparts := rparts.toList) hf hz (by simpa using hlen) hr
    refine ⟨.agg arr, ⟨arr, rfl, g2⟩, fun w' => ?_⟩
    simp [Instr.build, run_underlying hu, zeroValue, typeInfo, K.inf, K.zero, hT.sizeOf hj, g1]

theorem replicate_flatten_one (k : RK) (zs : List Value) (hz : ∀ u ∈ zs, u = k.val 0) : ∀ n, (List.replicate n zs).flatten = List.replicate (n * zs.length) (k.val 0) := by
  intro n
  have e : zs = List.replicate zs.length (k.val 0) := List.eq_replicate_iff.2 ⟨rfl, hz⟩
  rw [e, List.flatten_replicate_replicate]
  simp
theorem makeSlice_ok (hT : TOk P T) (hI : Inv C ρ H w) {t : TypeId} {p q : AV} {u1 u2 : Value} (h1 : VRel ρ p u1) (h2 : VRel ρ q u2) {c : Bool} {v : AV} {H' : AH} (h : aMakeSlice T H t p q = some (c, v, H')) (hc : c = true) :
    ∃ u' ρ' w', (Instr.makeSlice t u1 u2).run P w = .ok u' w' ∧ Inv C ρ' H' w' ∧ Ext ρ ρ' ∧ VRel ρ' v u' := by
  subst hc
  unfold aMakeSlice at h
  split at h <;> try (cases h; done)
  rename_i k1 n k2 m
  obtain rfl : u1 = .int k1 n := h1
  obtain rfl : u2 = .int k2 m := h2
  split at h <;> try (cases h; done)
  rename_i i hi
  split at h <;> try (cases h; done)
  rename_i e hd
  split at h <;> try (cases h; done)
  rename_i j hj
  have hu := hT.un hi
  rw [hd] at hu
  obtain ⟨info, z, K⟩ := hT e j hj
  have hz := zerosRel (ρ := ρ) K
  have hzs : z.cells.size = j.size := by rw [← K.len, ← K.zeros]; simp
  have main : ∀ body : Body, (n = m ∧ 0 ≤ n ∧ n * j.bytes ≤ 281474976710656 ∧ n ≤ 9223372036854775807) → body.len = n.toNat * j.size →
      (∀ q x, body.get q = some (true, x) → ∃ u, (madeCells z.cells (n.toNat * j.size))[q]? = some u ∧ ARel ρ x u) →
      ∃ u' ρ' w', (Instr.makeSlice t (.int k1 n) (.int k2 m)).run P w = .ok u' w' ∧ Inv C ρ' (H ++ [⟨true, true, e, j.size, body⟩]) w' ∧ Ext ρ ρ' ∧ VRel ρ' (.t (.a (.s (.slc H.length 0 n.toNat)))) u' := by
    rintro body ⟨rfl, hn0, hnb, hnm⟩ hbl hbc
    have hr := run_make (P := P) w t e info z hu K.inf K.zero k1 k2 n n hn0 (Int.le_refl _) (by rw [K.bytes, Int.mul_comm]; exact hnb) hnm
    rw [K.size] at hr
    obtain ⟨g1, g2⟩ := hI.alloc (madeCells z.cells (n.toNat * j.size)) true e j.size body hbc (by rw [size_madeCells, hbl]; exact Nat.le_refl _) (fun _ => by rw [size_madeCells, hbl])
    refine ⟨_, _, _, hr, g1, g2, by rw [upd_same], some ⟨w.heap.size, 0, none⟩, n.toNat, rfl, Nat.le_refl _, by unfold maxLen; omega, .inl ⟨⟨w.heap.size, 0, none⟩, by rw [upd_same], rfl, by simp [Addr.add], by rw [upd_same, size_madeCells]; exact ⟨by show 0 + n.toNat * j.size ≤ n.toNat * j.size; omega, fun _ => rfl⟩⟩⟩
  have hmade : (madeCells z.cells (n.toNat * j.size)).toList = (List.replicate n.toNat z.cells.toList).flatten := by
    rw [← made_list, hzs]
    simp [madeCells, hzs]
  split at h
  · rename_i k hk
    injection h with h
    injection h with h h'
    injection h' with h' h''
    subst h' h''
    refine main _ (of_decide_eq_true h) (by simp [Body.len]) fun q x hx => ?_
    have := rows_get (ρ := ρ) (us := (madeCells z.cells (n.toNat * j.size)).toList) (fun q hq => ?_) q x hx
    · simpa using this
    · rw [hmade, replicate_flatten_one k _ (by rw [K.zeros]; exact K.rk k hk), K.zeros, K.len]
      simp at hq
      simp [hq, List.getD]
  · injection h with h
    injection h with h h'
    injection h' with h' h''
    subst h' h''
    refine main _ (of_decide_eq_true h) (by simp [Body.len, repl_length, K.len]) fun q x hx => ?_
    have hrel := lrel_repl hz n.toNat
    rw [← hmade] at hrel
    simp only [Body.get] at hx
    cases hl : (repl n.toNat (j.zero.map A.val))[q]? with
    | none => simp [hl] at hx
    | some y =>
      simp [hl] at hx
      subst hx
      have := hrel.get hl
      simpa using this
end
end Go.Proofs.Ytpbenjpponbjjaa.En
