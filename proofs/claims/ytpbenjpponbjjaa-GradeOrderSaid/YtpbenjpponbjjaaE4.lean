/- What leaves the memory alone is sound (2). -/
import Derived.Test.YtpbenjpponbjjaaE3
import Derived.ChangeKeysEq
namespace Go.Proofs.Ytpbenjpponbjjaa.En
open Go.RowKit

def Agree (ρ : Pl) (H : AH) (w w' : World) : Prop := ∀ (i : Nat) b a, H[i]? = some b → b.body.live = true → (ρ i).addr = some a → w'.heap[a.block]? = w.heap[a.block]?
theorem Agree.refl (ρ : Pl) (H : AH) (w : World) : Agree ρ H w w := fun _ _ _ _ _ _ => rfl
def ERel (ρ : Pl) (N : Nat) (D : List Deferred) (E : Env) (a : Act) : Prop := a.tmps.size = N ∧ a.defers = D ∧ ∀ t, VRel ρ (E.get t) (a.tmps.getD t undef)

theorem lrel_val (ρ : Pl) : ∀ l : List Value, LRel (ARel ρ) (l.map A.val) l
  | [] => trivial
  | _ :: l => ⟨rfl, lrel_val ρ l⟩
theorem ofValue_ok (ρ : Pl) (v : Value) : VRel ρ (AV.ofValue v) v := by
  cases v <;> first | rfl | trivial | exact ⟨_, rfl, lrel_val ρ _⟩
theorem ev_ok {ρ : Pl} {N : Nat} {D : List Deferred} {E : Env} {a : Act} (h : ERel ρ N D E a) (x : Operand) : VRel ρ (ev E x) (a.eval x) := by
  cases x with
  | tmp t => exact h.2.2 t
  | const v => exact ofValue_ok ρ v
  | global g => trivial
  | func f => exact ⟨#[], #[], rfl, trivial, trivial⟩
theorem gets_spec {B : Body} : ∀ {n o : Nat} {l : List A}, B.gets o n = some (true, l) → l.length = n ∧ ∀ j x, l[j]? = some x → B.get (o + j) = some (true, x)
  | 0, o, l, h => by
    simp [Body.gets] at h
    subst h
    exact ⟨rfl, by simp⟩
  | n + 1, o, l, h => by
    unfold Body.gets at h
    split at h <;> try (cases h; done)
    rename_i c x d l' h1 h2
    injection h with h
    injection h with h h'
    subst h'
    rw [Bool.and_eq_true] at h
    obtain ⟨rfl, rfl⟩ := h
    obtain ⟨h3, h4⟩ := gets_spec h2
    refine ⟨by simp [h3], fun j y hy => ?_⟩
    cases j with
    | zero =>
      simp at hy
      subst hy
      exact h1
    | succ j =>
      simp at hy
      have := h4 j y hy
      rwa [show o + (j + 1) = o + 1 + j by omega]
theorem getT_get {rk : Option RK} {B : Body} {j : Nat} {x : A} (h : B.getT rk j = some (true, x)) : B.get j = some (true, x) := by
  cases B with
  | recs p xs =>
    cases rk with
    | none => cases h
    | some k =>
    simp only [Body.getT, Option.some.injEq, Prod.mk.injEq, Bool.and_eq_true, decide_eq_true_eq] at h
    obtain ⟨⟨h1, h2⟩, rfl⟩ := h
    simp only [Body.get, h1, h2, decide_true]
  | _ => exact h
theorem recCells_get {xs : List Int} : ∀ {p : List RK} {o j : Nat} {x : A}, (recCells xs o p)[j]? = some x → j < p.length ∧ x = .s (.v ((p.getD j .bool).val (xs.getD (o + j) 0)))
  | [], o, j, x, h => by simp [recCells] at h
  | k :: r, o, 0, x, h => by
    simp [recCells] at h
    subst h
    simp
  | k :: r, o, j + 1, x, h => by
    simp only [recCells, List.getElem?_cons_succ] at h
    obtain ⟨h1, h2⟩ := recCells_get h
    refine ⟨by simp; omega, ?_⟩
    rw [h2, show o + 1 + j = o + (j + 1) by omega]
    simp
theorem recCells_len {xs : List Int} : ∀ {p : List RK} {o : Nat}, (recCells xs o p).length = p.length
  | [], _ => rfl
  | k :: r, o => by simp [recCells, recCells_len]
theorem getsT_spec {B : Body} {n o : Nat} {l : List A} (h : B.getsT o n = some (true, l)) : l.length = n ∧ ∀ j x, l[j]? = some x → B.get (o + j) = some (true, x) := by
  cases B with
  | recs p xs =>
    simp only [Body.getsT, Option.some.injEq, Prod.mk.injEq, Bool.and_eq_true, decide_eq_true_eq] at h
    obtain ⟨⟨⟨h1, h2⟩, h3⟩, rfl⟩ := h
    refine ⟨by rw [recCells_len, h3], fun j x hj => ?_⟩
    obtain ⟨h4, rfl⟩ := recCells_get hj
    have h5 : (o + j) % p.length = j := by
      rw [Nat.add_mod, h1, Nat.zero_add, Nat.mod_mod, Nat.mod_eq_of_lt h4]
    have h6 : decide (o + j < xs.length) = true := decide_eq_true (by omega)
    simp only [Body.get, h5, h6]
  | _ => exact gets_spec h
theorem get_live {B : Body} {j : Nat} {r : Bool × A} (h : B.get j = some r) : B.live = true := by
  cases B <;> first | rfl | (simp [Body.get] at h)
theorem cells_list {ρ : Pl} {w : World} {a : Addr} (hs : a.spot = none) : ∀ {l : List A} {o : Nat}, (∀ j x, l[j]? = some x → ∃ u, w.cell? (a.add (o + j)) = some u ∧ ARel ρ x u) →
    ∃ us : List Value, LRel (ARel ρ) l us ∧ ∀ j u, us[j]? = some u → w.cell? ((a.add o).add j) = some u
  | [], o, _ => ⟨[], trivial, by simp⟩
  | x :: l, o, h => by
    obtain ⟨u, h1, h2⟩ := h 0 x (by simp)
    obtain ⟨us, h3, h4⟩ := cells_list hs (l := l) (o := o + 1) fun j y hy => by
      have := h (j + 1) y (by simpa using hy)
      rwa [show o + 1 + j = o + (j + 1) by omega]
    refine ⟨u :: us, ⟨h2, h3⟩, fun j v hv => ?_⟩
    rw [addr_add_add a hs]
    cases j with
    | zero =>
      simp at hv
      subst hv
      exact h1
    | succ j =>
      have := h4 j v (by simpa using hv)
      rw [addr_add_add a hs] at this
      rwa [show o + (j + 1) = o + 1 + j by omega]

section
variable {P : Program} {T : TT} {ρ : Pl} {H : AH} {w : World}

theorem cell_agree {a : Addr} {w' : World} (h : w'.heap[a.block]? = w.heap[a.block]?) (j : Nat) : w'.cell? (a.add j) = w.cell? (a.add j) := World.cell?_of_block (by rw [addr_add_block]; exact h)

theorem load_ok (hT : TOk P T) (hB : ∀ (i : Nat) b, H[i]? = some b → b.body.live = true → BRel ρ i b w) {t : TypeId} {p : AV} {u1 : Value} (h1 : VRel ρ p u1) {c : Bool} {v : AV} (h : aLoad T H t p = some (c, v)) (hc : c = true) :
    ∃ u, VRel ρ v u ∧ ∀ w', Agree ρ H w w' → (Instr.loadAt t u1).run P w' = .ok u w' := by
  subst hc
  unfold aLoad at h
  split at h <;> try (cases h; done)
  rename_i b o
  obtain ⟨_, a, ha, hs, rfl⟩ : (ρ b).on = true ∧ ∃ a, (ρ b).addr = some a ∧ a.spot = none ∧ u1 = .pointer (some (a.add o)) := h1
  split at h <;> try (cases h; done)
  rename_i i blk hi hb
  split at h
  · rename_i hag
    split at h <;> try (cases h; done)
    rename_i c l hg
    injection h with h
    injection h with h h'
    subst h h'
    obtain ⟨hl, hx⟩ := getsT_spec hg
    have hcell : ∀ j x, l[j]? = some x → ∃ u, w.cell? (a.add (o + j)) = some u ∧ ARel ρ x u := fun j x hjx => by
      obtain ⟨a', u, h1, h2, h3⟩ := (hB b blk hb (get_live (hx j x hjx))).cell _ _ (hx j x hjx)
      rw [ha] at h1
      injection h1 with h1
      subst h1
      exact ⟨u, h2, h3⟩
    obtain ⟨us, h3, h4⟩ := cells_list hs hcell
    refine ⟨.agg us.toArray, ⟨us.toArray, rfl, by simpa using h3⟩, fun w' hw => ?_⟩
    have h5 : ∀ j u, us[j]? = some u → w'.cell? ((a.add o).add j) = some u := fun j u hu => by
      rw [← h4 j u hu]
      have hlt : j < us.length := (List.getElem?_eq_some_iff.1 hu).1
      have hlv : blk.body.live = true := get_live (hx j _ (List.getElem?_eq_getElem (by have := h3.length; omega)))
      rw [addr_add_add a hs]
      exact cell_agree (hw b blk a hb hlv ha) _
    have h6 := run_loadCells_list (P := P) w' (a.add o) us h5
    have h7 : us.length = i.size := by rw [h3.length, hl]
    rw [h7] at h6
    simp [Instr.loadAt, Instr.sureAddr, loadVar, hT.isAgg hi, hag, hT.sizeOf hi, h6]
  · rename_i hag
    split at h <;> try (cases h; done)
    rename_i c x hg
    injection h with h
    injection h with h h'
    subst h h'
    have hg := getT_get hg
    obtain ⟨a', u, h1, h2, h3⟩ := (hB b blk hb (get_live hg)).cell _ _ hg
    rw [ha] at h1
    injection h1 with h1
    subst h1
    refine ⟨u, h3, fun w' hw => ?_⟩
    have h5 : w'.cell? (a.add o) = some u := (cell_agree (hw b blk a hb (get_live hg) ha) o).trans h2
    simp [Instr.loadAt, Instr.sureAddr, loadVar, hT.isAgg hi, hag, h5]

theorem fieldAddr_ok (hT : TOk P T) {s : TypeId} {f : Nat} {p : AV} {u1 : Value} (h1 : VRel ρ p u1) {c : Bool} {v : AV} (h : aFieldAddr T s f p = some (c, v)) :
    ∃ u, VRel ρ v u ∧ ∀ w', (Instr.fieldAt s u1 f).run P w' = .ok u w' := by
  unfold aFieldAddr at h
  split at h <;> try (cases h; done)
  rename_i b o
  obtain ⟨hon, a, ha, hs, rfl⟩ : (ρ b).on = true ∧ ∃ a, (ρ b).addr = some a ∧ a.spot = none ∧ u1 = .pointer (some (a.add o)) := h1
  split at h <;> try (cases h; done)
  rename_i i hi
  split at h <;> try (cases h; done)
  rename_i fs hd
  split at h <;> try (cases h; done)
  rename_i fd hf
  split at h <;> try (cases h; done)
  rename_i j hj
  split at h <;> try (cases h; done)
  rename_i hz
  injection h with h
  injection h with h h'
  subst h'
  have hu := hT.un hi
  rw [hd] at hu
  refine ⟨.pointer (some (a.add (o + fd.offset))), ⟨hon, a, ha, hs, rfl⟩, fun w' => ?_⟩
  simp [Instr.fieldAt, run_underlying hu, hf, Instr.sureAddr, fieldPlace, hT.sizeOf hj, addr_add_add a hs]
  intro h0
  exact absurd h0 (by rintro h0; exact hz h0)

theorem indexAddr_ok (hT : TOk P T) {t : TypeId} {p q : AV} {u1 u2 : Value} (h1 : VRel ρ p u1) (h2 : VRel ρ q u2) {c : Bool} {v : AV} (h : aIndexAddr T t p q = some (c, v)) (hc : c = true) :
    ∃ u, VRel ρ v u ∧ ∀ w', (Instr.indexAt t u1 u2).run P w' = .ok u w' := by
  subst hc
  unfold aIndexAddr at h
  split at h
  · rename_i b o n k x
    obtain ⟨hon, ad, cp, rfl, hn, _, hsl⟩ : (ρ b).on = true ∧ ∃ ad c, u1 = .slice ad n c ∧ n ≤ c ∧ c ≤ maxLen ∧ SlAt (ρ b) o n ad c := h1
    obtain rfl : u2 = .int k x := h2
    split at h <;> try (cases h; done)
    rename_i i hi
    split at h <;> try (cases h; done)
    rename_i e hd
    split at h <;> try (cases h; done)
    rename_i j hj
    injection h with h
    injection h with h h'
    subst h'
    have hx := of_decide_eq_true h
    have hu := hT.un hi
    rw [hd] at hu
    rcases hsl with ⟨a, ha, hs, rfl, _⟩ | ⟨h0, _⟩
    · refine ⟨.pointer (some (a.add (o + x.toNat * j.size))), ⟨hon, a, ha, hs, rfl⟩, fun w' => ?_⟩
      simp [Instr.indexAt, asIntOf, run_underlying hu, hx.1, hx.2, hT.sizeOf hj, addr_add_add a hs]
    · omega
  · rename_i b o k x
    obtain ⟨hon, a, ha, hs, rfl⟩ : (ρ b).on = true ∧ ∃ a, (ρ b).addr = some a ∧ a.spot = none ∧ u1 = .pointer (some (a.add o)) := h1
    obtain rfl : u2 = .int k x := h2
    split at h <;> try (cases h; done)
    rename_i i hi
    split at h <;> try (cases h; done)
    rename_i n e hd
    split at h <;> try (cases h; done)
    rename_i j hj
    injection h with h
    injection h with h h'
    subst h'
    have hx := of_decide_eq_true h
    have hu := hT.un hi
    rw [hd] at hu
    refine ⟨.pointer (some (a.add (o + x.toNat * j.size))), ⟨hon, a, ha, hs, rfl⟩, fun w' => ?_⟩
    simp [Instr.indexAt, asIntOf, run_underlying hu, hx.1, hx.2, Instr.sureAddr, hT.sizeOf hj, addr_add_add a hs]
  · cases h

theorem field_ok (hT : TOk P T) {t : TypeId} {f : Nat} {p : AV} {u1 : Value} (h1 : VRel ρ p u1) {c : Bool} {v : AV} (h : aField T t f p = some (c, v)) :
    ∃ u, VRel ρ v u ∧ ∀ w', (Instr.field t u1 f).run P w' = .ok u w' := by
  unfold aField at h
  split at h <;> try (cases h; done)
  rename_i l
  obtain ⟨cs, rfl, hcs⟩ : ∃ cs : Array Value, u1 = .agg cs ∧ LRel (ARel ρ) l cs.toList := h1
  split at h <;> try (cases h; done)
  rename_i i hi
  split at h <;> try (cases h; done)
  rename_i fs hd
  split at h <;> try (cases h; done)
  rename_i fd hf
  split at h <;> try (cases h; done)
  rename_i j hj
  have hu := hT.un hi
  rw [hd] at hu
  split at h
  · rename_i hag
    injection h with h
    injection h with h h'
    subst h'
    refine ⟨.agg (cs.extract fd.offset (fd.offset + j.size)), ⟨_, rfl, ?_⟩, fun w' => ?_⟩
    · rw [Array.toList_extract, List.extract_eq_take_drop, Nat.add_sub_cancel_left]
      exact (hcs.drop _).take _
    · simp [Instr.field, run_underlying hu, hf, asAgg, Go.part, hT.isAgg hj, hag, hT.sizeOf hj]
  · rename_i hag
    split at h <;> try (cases h; done)
    rename_i x hx
    injection h with h
    injection h with h h'
    subst h'
    obtain ⟨u, h3, h4⟩ := hcs.get hx
    refine ⟨u, h4, fun w' => ?_⟩
    have h5 : cs[fd.offset]? = some u := by simpa using h3
    simp [Instr.field, run_underlying hu, hf, asAgg, Go.part, hT.isAgg hj, hag, h5]

theorem run_equalIn_boo (w : World) (d : Nat) (t : TypeId) (a b : Bool) (h : P.underlying t = some .bool) : (Op.equalIn (d + 1) t (.bool a) (.bool b)).run P w = .ok (a == b) w := by
  simp [Op.equalIn, run_underlying h]
theorem eqCells_ok (hT : TOk P T) {xs ys : Array Value} {d : Nat} : ∀ {fs : List Field} {l l' : List A} {c r : Bool}, LRel (ARel ρ) l xs.toList → LRel (ARel ρ) l' ys.toList → eqCells T fs l l' = some (c, r) → c = true → ∀ w, (Op.eqFields (d + 1) xs ys fs).run P w = .ok r w
  | [], l, l', c, r, _, _, h, _, w => by
    simp only [eqCells, Option.some.injEq, Prod.mk.injEq] at h
    obtain ⟨_, rfl⟩ := h
    rfl
  | f :: fs, l, l', c, r, h1, h2, h, hc, w => by
    unfold eqCells at h
    split at h <;> try (cases h; done)
    rename_i j hj
    split at h <;> try (cases h; done)
    rotate_left
    · rename_i hd
      split at h <;> try (cases h; done)
      rename_i a b hx hy
      split at h <;> try (cases h; done)
      rename_i c' r' hr
      injection h with h
      injection h with hc' hr'
      subst hr'
      rw [hc] at hc'
      simp only [Bool.and_eq_true, bne_iff_ne] at hc'
      obtain ⟨hn, hcc⟩ := hc'
      obtain ⟨u, h3, h4⟩ := h1.get hx
      obtain ⟨u', h5, h6⟩ := h2.get hy
      obtain rfl : u = .bool a := h4
      obtain rfl : u' = .bool b := h6
      have h3 : xs[f.offset]? = some (.bool a) := by simpa using h3
      have h5 : ys[f.offset]? = some (.bool b) := by simpa using h5
      have hag : aggOf j.d = false := by rw [hd]; rfl
      have hu := hT.un hj
      rw [hd] at hu
      have ih := eqCells_ok hT h1 h2 hr hcc w (d := d)
      simp only [Op.eqFields, if_pos hn, Sem.run_bind, Go.part, hT.isAgg hj, hag, h3, h5, Result.andThen_ok, Sem.run_pure, Bool.false_eq_true, if_false, run_equalIn_boo w d f.type a b hu]
      cases hab : a == b
      · simp
      · simpa using ih
    rename_i kk hd
    split at h <;> try (cases h; done)
    rename_i k a k' b hx hy
    split at h <;> try (cases h; done)
    rename_i c' r' hr
    injection h with h
    injection h with hc' hr'
    subst hr'
    rw [hc] at hc'
    simp only [Bool.and_eq_true, decide_eq_true_eq, bne_iff_ne] at hc'
    obtain ⟨⟨rfl, hn⟩, hcc⟩ := hc'
    obtain ⟨u, h3, h4⟩ := h1.get hx
    obtain ⟨u', h5, h6⟩ := h2.get hy
    obtain rfl : u = .int k a := h4
    obtain rfl : u' = .int k b := h6
    have h3 : xs[f.offset]? = some (.int k a) := by simpa using h3
    have h5 : ys[f.offset]? = some (.int k b) := by simpa using h5
    have hag : aggOf j.d = false := by rw [hd]; rfl
    have hu := hT.un hj
    rw [hd] at hu
    have ih := eqCells_ok hT h1 h2 hr hcc w (d := d)
    simp only [Op.eqFields, if_pos hn, Sem.run_bind, Go.part, hT.isAgg hj, hag, h3, h5, Result.andThen_ok, Sem.run_pure, Bool.false_eq_true, if_false, run_equalIn_int w d f.type k kk a b hu]
    cases hab : a == b
    · simp
    · simpa using ih
theorem eqRow_ok (hT : TOk P T) {e : TypeId} {j : TI} {kk : IntKind} (hj : T e = some j) (hd : j.d = .int kk) {xs ys : Array Value} {d : Nat} (w : World) : ∀ {l l' : List A} {c r : Bool} (i n : Nat), LRel (ARel ρ) l (xs.toList.drop i) → LRel (ARel ρ) l' (ys.toList.drop i) → eqRow l l' = some (c, r) → c = true → l.length = n →
    (Op.eqItems (d + 1) e 1 xs ys (List.range' i n)).run P w = .ok r w
  | [], [], c, r, i, n, _, _, h, _, hn => by
    simp only [eqRow, Option.some.injEq, Prod.mk.injEq] at h
    obtain ⟨_, rfl⟩ := h
    subst hn
    rfl
  | [], _ :: _, _, _, _, _, _, _, h, _, _ => by simp [eqRow] at h
  | x :: l, l', c, r, i, n, h1, h2, h, hc, hn => by
    unfold eqRow at h
    split at h <;> try (cases h; done)
    · rename_i hq
      cases hq
    rename_i k a l1 k' b l1' hx
    injection hx with hx hx'
    subst hx hx'
    subst hn
    split at h <;> try (cases h; done)
    rename_i c' r' hr
    injection h with h
    injection h with hc' hr'
    subst hr'
    rw [hc] at hc'
    simp only [Bool.and_eq_true, decide_eq_true_eq] at hc'
    obtain ⟨rfl, hcc⟩ := hc'
    have get : ∀ {zs : Array Value} {y : A} {m : List A} {v : Value}, LRel (ARel ρ) (y :: m) (zs.toList.drop i) → (ARel ρ y v → True) → ∃ u, zs[i]? = some u ∧ ARel ρ y u ∧ LRel (ARel ρ) m (zs.toList.drop (i + 1)) := fun {zs y m v} hz _ => by
      cases hdr : zs.toList.drop i with
      | nil => rw [hdr] at hz; exact hz.elim
      | cons u us =>
        rw [hdr] at hz
        refine ⟨u, ?_, hz.1, ?_⟩
        · have : (zs.toList.drop i)[0]? = some u := by rw [hdr]; rfl
          rw [List.getElem?_drop] at this
          simpa using this
        · have : zs.toList.drop (i + 1) = us := by rw [← List.drop_drop, hdr]; rfl
          rw [this]
          exact hz.2
    obtain ⟨u, p1, p2, p3⟩ := get (v := .int k a) h1 (fun _ => trivial)
    obtain ⟨u', q1, q2, q3⟩ := get (v := .int k a) h2 (fun _ => trivial)
    obtain rfl : u = .int k a := p2
    obtain rfl : u' = .int k b := q2
    have hag : aggOf j.d = false := by rw [hd]; rfl
    have hu := hT.un hj
    rw [hd] at hu
    have ih := eqRow_ok hT hj hd w (d := d) (i + 1) l.length p3 q3 hr hcc rfl
    rw [List.length_cons, List.range'_succ]
    simp only [Op.eqItems, Sem.run_bind, Go.part, hT.isAgg hj, hag, Nat.mul_one, p1, q1, Result.andThen_ok, Sem.run_pure, Bool.false_eq_true, if_false, run_equalIn_int w d e k kk a b hu]
    cases hab : a == b
    · simp
    · simpa using ih
theorem eqA_ok (hT : TOk P T) {op : BinOp} {xt : TypeId} {x y : Operand} {p q : AV} {u1 u2 : Value} (h1 : VRel ρ p u1) (h2 : VRel ρ q u2) {c : Bool} {v : AV} (h : aEqA T op xt p q = some (c, v)) (hc : c = true) :
    ∃ u, VRel ρ v u ∧ ∀ w, (do eqGuard op xt x y u1 u2; binOp op xt u1 u2 : Sem Value).run P w = .ok u w := by
  unfold aEqA at h
  split at h <;> try (cases h; done)
  rename_i l l'
  obtain ⟨xs, rfl, hx⟩ : ∃ cs : Array Value, u1 = .agg cs ∧ LRel (ARel ρ) l cs.toList := h1
  obtain ⟨ys, rfl, hy⟩ : ∃ cs : Array Value, u2 = .agg cs ∧ LRel (ARel ρ) l' cs.toList := h2
  split at h <;> try (cases h; done)
  rename_i i hi
  split at h <;> try (cases h; done)
  · rename_i fs hd
    split at h <;> try (cases h; done)
    rename_i c' r hr
    have hu := hT.un hi
    rw [hd] at hu
    obtain ⟨info, z, hk⟩ := hT _ _ hi
    have hf : P.fieldsOf xt = fs := by simp [Program.fieldsOf, hu]
    have hu' : P.underlying xt = some (.struct (P.fieldsOf xt)) := by rw [hf]; exact hu
    split at h <;> try (cases h; done)
    all_goals
      injection h with h
      injection h with h h'
      subst h h'
      refine ⟨_, rfl, fun w => ?_⟩
      have hq := eqCells_ok hT (d := 9998) hx hy hr hc w
      simp only [Sem.run_bind, run_eqGuard_agg w _ xt x y xs ys hk.eqs.1, Result.andThen_ok, run_eql_struct, run_neq_struct, run_equalIn_agg w 9999 xt xs ys hu' hk.eqs.2, hf, hq]
  · rename_i n e hd
    split at h <;> try (cases h; done)
    rename_i j hj
    split at h <;> try (cases h; done)
    rename_i kk hjd
    split at h <;> try (cases h; done)
    rename_i c' r hr
    have hu := hT.un hi
    rw [hd] at hu
    obtain ⟨info, z, hk⟩ := hT _ _ hi
    obtain ⟨infoe, ze, hke⟩ := hT _ _ hj
    split at h <;> try (cases h; done)
    all_goals
      injection h with h
      injection h with h h'
      subst h h'
      simp only [Bool.and_eq_true, decide_eq_true_eq] at hc
      obtain ⟨⟨hc1, hc2⟩, hc3⟩ := hc
      have hce : P.cellsOf e = 1 := by simp [Program.cellsOf, hke.inf, hke.size, hc3]
      refine ⟨_, rfl, fun w => ?_⟩
      have hq := eqRow_ok hT hj hjd w (d := 9998) (xs := xs) (ys := ys) 0 n (by simpa using hx) (by simpa using hy) hr hc1 hc2
      simp only [Sem.run_bind, run_eqGuard_agg w _ xt x y xs ys hk.eqs.1, Result.andThen_ok, run_eql_struct, run_neq_struct, run_equalIn_array (w := w) 9999 xs ys hu hke.inf, hce, List.range_eq_range', hq]

theorem extract_ok {i : Nat} {p : AV} {u1 : Value} (h1 : VRel ρ p u1) {c : Bool} {v : AV} (h : aExtract i p = some (c, v)) :
    ∃ u, VRel ρ v u ∧ ∀ w', (Instr.extract u1 i).run P w' = .ok u w' := by
  unfold aExtract at h
  split at h <;> try (cases h; done)
  rename_i l
  obtain ⟨vs, rfl, hcs⟩ : ∃ vs : Array Value, u1 = .tuple vs ∧ LRel (ATRel ρ) l vs.toList := h1
  split at h <;> try (cases h; done)
  rename_i x hx
  injection h with h
  injection h with h h'
  subst h'
  obtain ⟨u, h3, h4⟩ := hcs.get hx
  have h5 : vs[i]? = some u := by simpa using h3
  exact ⟨u, h4, fun w' => by simp [Instr.extract, h5]⟩

theorem len_ok (hT : TOk P T) {t ty : TypeId} {p : AV} {u1 : Value} (h1 : VRel ρ p u1) {c : Bool} {v : AV} (h : aLen T t p = some (c, v)) :
    ∃ u, VRel ρ v u ∧ ∀ w', (Builtin.len_ #[t] ty #[u1]).run P w' = .ok u w' := by
  unfold aLen at h
  split at h <;> try (cases h; done)
  · rename_i b o n
    obtain ⟨_, ad, cp, rfl, _⟩ : (ρ b).on = true ∧ ∃ ad c, u1 = .slice ad n c ∧ n ≤ c ∧ c ≤ maxLen ∧ SlAt (ρ b) o n ad c := h1
    split at h <;> try (cases h; done)
    rename_i i hi
    split at h <;> try (cases h; done)
    rename_i e hd
    injection h with h
    injection h with h h'
    subst h'
    have hu := hT.un hi
    rw [hd] at hu
    exact ⟨_, rfl, fun w' => by simp [Builtin.len_, run_underlying hu, goInt]⟩
  · obtain rfl : u1 = .slice none 0 0 := h1
    split at h <;> try (cases h; done)
    rename_i i hi
    split at h <;> try (cases h; done)
    rename_i e hd
    injection h with h
    injection h with h h'
    subst h'
    have hu := hT.un hi
    rw [hd] at hu
    exact ⟨_, rfl, fun w' => by simp [Builtin.len_, run_underlying hu, goInt]⟩

theorem min_ok {ts : Array TypeId} {ty : TypeId} {p q : AV} {u1 u2 : Value} (h1 : VRel ρ p u1) (h2 : VRel ρ q u2) {c : Bool} {v : AV} (h : aMin p q = some (c, v)) :
    ∃ u, VRel ρ v u ∧ ∀ w', (Builtin.min_ ts ty #[u1, u2]).run P w' = .ok u w' := by
  unfold aMin at h
  split at h <;> try (cases h; done)
  rename_i k a k' b
  obtain rfl : u1 = .int k a := h1
  obtain rfl : u2 = .int k' b := h2
  split at h <;> try (cases h; done)
  injection h with h
  injection h with h h'
  subst h'
  exact ⟨_, rfl, fun w' => by rw [run_min_int2]; congr 2; omega⟩
theorem max_ok {ts : Array TypeId} {ty : TypeId} {p q : AV} {u1 u2 : Value} (h1 : VRel ρ p u1) (h2 : VRel ρ q u2) {c : Bool} {v : AV} (h : aMax p q = some (c, v)) :
    ∃ u, VRel ρ v u ∧ ∀ w', (Builtin.max_ ts ty #[u1, u2]).run P w' = .ok u w' := by
  unfold aMax at h
  split at h <;> try (cases h; done)
  rename_i k a k' b
  obtain rfl : u1 = .int k a := h1
  obtain rfl : u2 = .int k' b := h2
  split at h <;> try (cases h; done)
  injection h with h
  injection h with h h'
  subst h'
  exact ⟨_, rfl, fun w' => by rw [run_max_int2]; congr 2; omega⟩

theorem slAt_sub {B : Base} {o n l h c sz : Nat} {ad : Option Addr} (hsz : B.sz = sz) (hs : SlAt B o n ad c) (h1 : l ≤ h) (h2 : h ≤ n) (h3 : n ≤ c) :
    SlAt B (o + l * sz) (h - l) (if c = l then ad else ad.map (·.add (l * sz))) (c - l) := by
  subst hsz
  rcases hs with ⟨a, ha, hsp, rfl, hr⟩ | ⟨h0, hr⟩
  · by_cases hcl : c = l
    · exact .inr ⟨by omega, .inl (by omega)⟩
    · rw [if_neg hcl]
      refine .inl ⟨a, ha, hsp, by simp [addr_add_add a hsp], ?_⟩
      obtain ⟨g1, g2⟩ := hr
      have e : l * B.sz + (c - l) * B.sz = c * B.sz := by rw [← Nat.add_mul]; congr 1; omega
      refine ⟨by omega, fun h0 => ?_⟩
      have := g2 (by omega)
      have h9 : l * B.sz = 0 := by omega
      omega
  · refine .inr ⟨by omega, ?_⟩
    rcases hr with hr | hr
    · exact .inl (by omega)
    · exact .inr hr

def ORel (ρ : Pl) : Option AV → Option Value → Prop
  | none, none => True
  | some x, some y => VRel ρ x y
  | _, _ => False
theorem slice_ok (hT : TOk P T) (hB : ∀ (i : Nat) b, H[i]? = some b → b.body.live = true → BRel ρ i b w) {t : TypeId} {p : AV} {lo hi : Option AV} {u1 : Value} {vl vh : Option Value} (h1 : VRel ρ p u1)
    (hlo : ORel ρ lo vl) (hhi : ORel ρ hi vh) {c : Bool} {v : AV} (h : aSlice T H t p lo hi = some (c, v)) (hc : c = true) :
    ∃ u, VRel ρ v u ∧ ∀ w', (Instr.sliceAt t u1 vl vh none).run P w' = .ok u w' := by
  subst hc
  unfold aSlice at h
  split at h <;> try (cases h; done)
  rename_i b o n
  obtain ⟨hon, ad, cp, rfl, hn, hml, hsl⟩ : (ρ b).on = true ∧ ∃ ad c, u1 = .slice ad n c ∧ n ≤ c ∧ c ≤ maxLen ∧ SlAt (ρ b) o n ad c := h1
  split at h <;> try (cases h; done)
  rename_i i blk hi' hb
  split at h <;> try (cases h; done)
  rename_i e hd
  split at h <;> try (cases h; done)
  rename_i j hj
  have hu := hT.un hi'
  rw [hd] at hu
  have hu' : P.underlying t = some (.slice (P.elem t)) := by simp [Program.elem, hu]
  have he : P.elem t = e := by simp [Program.elem, hu]
  have hsz : blk.body.live = true → (blk.sz == j.size) = true → (ρ b).sz = j.size := fun h1 h2 => by
    rw [(hB b blk hb h1).sz]
    exact beq_iff_eq.1 h2
  have fin : blk.body.live = true → (blk.sz == j.size) = true → ∀ l h' : Nat, l ≤ h' → h' ≤ n → VRel ρ (.t (.a (.s (.slc b (o + l * j.size) (h' - l))))) (sliced ad l h' cp j.size) := fun g1 g2 l h' g3 g4 =>
    ⟨hon, _, _, rfl, by omega, by omega, slAt_sub (hsz g1 g2) hsl g3 g4 hn⟩
  split at h <;> try (cases h; done)
  · cases vl <;> try (exact hlo.elim)
    cases vh <;> try (exact hhi.elim)
    injection h with h
    injection h with h h'
    subst h'
    rw [Bool.and_eq_true] at h
    refine ⟨_, ?_, fun w' => by rw [run_sliceAt_slice _ _ _ _ _ _ hu', run_slice_all _ _ _ _ _ hu', he, hT.sizeOf hj]; rfl⟩
    have := fin h.1 h.2 0 n (by omega) (by omega)
    simpa using this
  · cases vl <;> try (exact hlo.elim)
    cases vh <;> try (exact hhi.elim)
    rename_i k l u
    obtain rfl : u = .int k l := hlo
    injection h with h
    injection h with h h'
    subst h'
    simp only [Bool.and_eq_true] at h
    have hx := of_decide_eq_true h.2
    refine ⟨_, ?_, fun w' => by rw [run_sliceAt_slice _ _ _ _ _ _ hu', run_slice_l _ _ _ _ _ hu' _ _ hx.1 hx.2, he, hT.sizeOf hj]; rfl⟩
    exact fin h.1.1 h.1.2 l.toNat n (by omega) (by omega)
  · cases vl <;> try (exact hlo.elim)
    cases vh <;> try (exact hhi.elim)
    rename_i k l u
    obtain rfl : u = .int k l := hhi
    injection h with h
    injection h with h h'
    subst h'
    simp only [Bool.and_eq_true] at h
    have hx := of_decide_eq_true h.2
    refine ⟨_, ?_, fun w' => by rw [run_sliceAt_slice _ _ _ _ _ _ hu', run_slice_h _ _ _ _ _ hu' _ _ hx.1 (by omega), he, hT.sizeOf hj]; rfl⟩
    have := fin h.1.1 h.1.2 0 l.toNat (by omega) (by omega)
    simpa using this
  · cases vl <;> try (exact hlo.elim)
    cases vh <;> try (exact hhi.elim)
    rename_i k l k' m u u'
    obtain rfl : u = .int k l := hlo
    obtain rfl : u' = .int k' m := hhi
    injection h with h
    injection h with h h'
    subst h'
    simp only [Bool.and_eq_true] at h
    have hx := of_decide_eq_true h.2
    refine ⟨_, ?_, fun w' => by rw [run_sliceAt_slice _ _ _ _ _ _ hu', run_slice_lh _ _ _ _ _ hu' _ _ _ _ hx.1 hx.2.1 (by omega), he, hT.sizeOf hj]; rfl⟩
    exact fin h.1.1 h.1.2 l.toNat m.toNat (by omega) (by omega)

theorem un_ok {op : UnOp} {p : AV} {u1 : Value} (h1 : VRel ρ p u1) {c : Bool} {v : AV} (h : aUn op p = some (c, v)) (hc : c = true) : ∃ u, VRel ρ v u ∧ ∀ w', (Op.unary op u1).run P w' = .ok u w' := by
  subst hc
  unfold aUn at h
  split at h <;> try (cases h; done)
  · rename_i b
    obtain rfl : u1 = .bool b := h1
    split at h <;> try (cases h; done)
    injection h with h
    injection h with h h'
    subst h'
    exact ⟨_, rfl, fun w' => by simp [Op.unary]⟩
  · rename_i n
    obtain rfl : u1 = .int .i64 n := h1
    split at h <;> try (cases h; done)
    injection h with h
    injection h with h h'
    subst h'
    exact ⟨_, rfl, fun w' => by simp [Op.unary, Op.intArith, i64_wrap h]⟩
theorem conv_ok (hT : TOk P T) {src dst : TypeId} {p : AV} {u1 : Value} (h1 : VRel ρ p u1) {c : Bool} {v : AV} (h : aConv T src dst p = some (c, v)) : ∃ u, VRel ρ v u ∧ ∀ w', (convert src dst u1).run P w' = .ok u w' := by
  unfold aConv at h
  split at h <;> try (cases h; done)
  rename_i k' n
  obtain rfl : u1 = .int k' n := h1
  split at h <;> try (cases h; done)
  rename_i i0 i hs hi
  split at h <;> try (cases h; done)
  rename_i k hd
  injection h with h
  injection h with h h'
  subst h'
  have hu := hT.un hi
  have hus := hT.un hs
  rw [hd] at hu
  refine ⟨_, rfl, fun w' => ?_⟩
  have h2 : P.intKind dst = k := by simp [Program.intKind, hu]
  rw [run_convert_int _ _ _ _ _ (by rw [hus]; rfl) (by rw [h2]; exact hu), h2]
theorem pick_ok {p q r : AV} {u1 u2 u3 : Value} (h1 : VRel ρ p u1) (h2 : VRel ρ q u2) (h3 : VRel ρ r u3) {c : Bool} {v : AV} (h : aPick p q r = some (c, v)) (hc : c = true) :
    ∃ b, u1 = .bool b ∧ VRel ρ v (if b then u2 else u3) := by
  subst hc
  unfold aPick at h
  split at h
  · rename_i b x y
    obtain rfl : u2 = .bool x := h2
    obtain rfl : u3 = .bool y := h3
    injection h with h
    injection h with h h'
    subst h'
    exact ⟨b, h1, by cases b <;> rfl⟩
  · rename_i b k x k' y
    obtain rfl : u2 = .int k x := h2
    obtain rfl : u3 = .int k' y := h3
    split at h <;> try (cases h; done)
    rename_i hk
    subst hk
    injection h with h
    injection h with h h'
    subst h'
    exact ⟨b, h1, by cases b <;> rfl⟩
  · rename_i b _
    injection h with h
    injection h with h h'
    subst h'
    refine ⟨b, h1, ?_⟩
    cases b
    · exact h3
    · cases h
  · rename_i b _ _
    injection h with h
    injection h with h h'
    subst h'
    refine ⟨b, h1, ?_⟩
    cases b
    · cases h
    · exact h2
  · cases h
theorem nil_ok {p : AV} {u1 : Value} (h1 : VRel ρ p u1) {c : Bool} {v : AV} (h : aNil p = some (c, v)) : v = p ∧ ∃ a, u1 = .pointer (some a) := by
  unfold aNil at h
  split at h <;> try (cases h; done)
  rename_i b o
  obtain ⟨_, a, _, _, rfl⟩ : (ρ b).on = true ∧ ∃ a, (ρ b).addr = some a ∧ a.spot = none ∧ u1 = .pointer (some (a.add o)) := h1
  injection h with h
  injection h with h h'
  exact ⟨h'.symm, _, rfl⟩
theorem sOf_ok {x : AV} {s : S} {u : Value} (h : sOf x = some s) (hx : VRel ρ x u) : SRel ρ s u := by
  unfold sOf at h
  split at h <;> try (cases h; done)
  injection h with h
  subst h
  exact hx
theorem sOfs_ok {α : Type} {f : α → AV} {g : α → Value} (hfg : ∀ x, VRel ρ (f x) (g x)) : ∀ {l : List α} {ss : List S}, (l.map f).mapM sOf = some ss → LRel (SRel ρ) ss (l.map g)
  | [], ss, h => by
    simp at h
    subst h
    trivial
  | x :: l, ss, h => by
    simp only [List.map_cons, List.mapM_cons] at h
    cases h1 : sOf (f x) with
    | none => simp [h1] at h
    | some s =>
      cases h2 : (l.map f).mapM sOf with
      | none => simp [h1, h2] at h
      | some ss' =>
        simp [h1, h2] at h
        subst h
        exact ⟨sOf_ok h1 (hfg x), sOfs_ok hfg h2⟩
end
end Go.Proofs.Ytpbenjpponbjjaa.En
