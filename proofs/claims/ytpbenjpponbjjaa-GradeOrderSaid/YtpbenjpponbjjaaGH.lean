/- gather. -/
import Derived.Test.YtpbenjpponbjjaaGG
import Derived.Deep.AppendLies
import Derived.Deep.RegionHeldLaw
import Derived.Laws.OwnMore
namespace Go.Proofs.Ytpbenjpponbjjaa
open Go.RowKit Go.Sort Go.BigFrame
theorem info_parts {t : TypeId} {z : Value} {n m : Nat} (h : (Try.prog.info? t).map (fun i => (i.zero, i.size, i.bytes)) = some (some z, n, m)) : ∃ i, Try.prog.info? t = some i ∧ i.zero = some z ∧ i.size = n ∧ i.bytes = m := by
  cases hi : Try.prog.info? t with
  | none => rw [hi] at h; cases h
  | some i =>
    rw [hi] at h
    simp at h
    exact ⟨i, rfl, h.1, h.2.1, h.2.2⟩
theorem own_slice {w : World} {base : Nat} {e : TypeId} {size n : Nat} {v : Value} {xs : List Value} (h : w.ownsRow base e size v n xs) : ∃ a c, v = .slice a n c := by
  rcases h.2 with ⟨rfl, rfl⟩ | ⟨g, cap, cur, rfl, _⟩
  · exact ⟨_, _, rfl⟩
  · exact ⟨_, _, rfl⟩
/-- .. and of a plain one -/
theorem wpList_append_run {P : Program} {w w' : World} {ops : Array Oper} {rest : List Oper} {o : Oper} {a : Act} {Q : Exit → Act → World → Prop} (hgd : o.guard = none) (s x : Operand) (t : TypeId)
    (ho : o.op = .call { callee := .builtin .append, args := #[s, x], argTypes := #[t, t] }) (v u r : Value) (hs : a.eval s = v) (hx : a.eval x = u)
    (hr : (Builtin.append_ #[t, t] o.type #[v, u]).run P w = .ok r w') (h : wpList P ops Q rest (a.put o.dst r) w') : wpList P ops Q (o :: rest) a w := by
  refine wpList_plain hgd fun K hK => ?_
  unfold Oper.wp execOp
  simp only [ho, resolve, invoke, builtin, Sem.run_bind, Sem.run_pure, Result.andThen_ok, List.map_toArray, List.map_cons, List.map_nil, hs, hx, hr]
  exact hK _ _ h
theorem info23 : ∃ i, Try.prog.info? 23 = some i ∧ i.zero = some (.agg #[.int .i64 0, .int .i64 0, .int .i64 0]) ∧ i.size = 3 ∧ i.bytes = 24 := info_parts (by kernel_rfl)
def gC (g : Gd) : List Value := [.int .i64 g.1, .int .i64 g.2.1, .int .i64 g.2.2]
def cellsG (l : List Gd) : List Value := l.flatMap gC
theorem cellsG_len : ∀ l : List Gd, (cellsG l).length = l.length * 3
  | [] => rfl
  | o :: l => by
    show (gC o ++ cellsG l).length = _
    rw [List.length_append, cellsG_len l, List.length_cons]
    show 3 + _ = _
    omega
theorem cellsG_append (l m : List Gd) : cellsG (l ++ m) = cellsG l ++ cellsG m := List.flatMap_append
theorem addr_add (g o j : Nat) : (⟨g, o, none⟩ : Addr).add j = ⟨g, o + j, none⟩ := by
  unfold Addr.add
  split
  · rename_i h
    subst h
    rfl
  · rfl
/-- a grade appended to a row of its own: the run -/
theorem app_runG {w : World} {B : Nat} {v : Value} {l : List Gd} (h : w.ownsRow B 23 3 v l.length (cellsG l)) (hB : B ≤ w.heap.size) (hn : l.length ≤ 1000000) (o : Gd) {q : Nat} (hq : w.heap[q]? = some (.cells #[.int .i64 o.1, .int .i64 o.2.1, .int .i64 o.2.2] 23 (0, 0))) (c : Nat) (ty : TypeId) :
    ∃ v' w', (Builtin.append_ #[27, 27] ty #[v, .slice (some ⟨q, 0, none⟩) 1 c]).run Try.prog w = .ok v' w' ∧ w'.ownsRow B 23 3 v' (l ++ [o]).length (cellsG (l ++ [o])) ∧ w.grownBy w' v.ownBlock ∧ (v'.ownBlock = v.ownBlock ∨ v'.ownBlock = some w.heap.size) := by
  obtain ⟨i0, hi0, hz0, hz1, hz2⟩ := info23
  obtain ⟨v', w', h1, h2, h3, -, h5⟩ := run_append_own_at (P := Try.prog) w B 27 ty 23 i0 (.agg #[.int .i64 0, .int .i64 0, .int .i64 0]) 3 24 Try.underlying27 hi0 hz0 hz1 hz2 rfl (by decide) v l.length (cellsG l) h ⟨q, 0, none⟩ 1 c (gC o) rfl
    (fun j u hu => by
      rw [addr_add, Nat.zero_add]
      simp only [World.cell?, hq]
      simpa [gC] using hu) (by intro u hu; simp [gC] at hu; rcases hu with rfl | rfl | rfl <;> rfl) (by unfold maxLen; omega) (by omega) hB
  exact ⟨v', w', h1, by rw [List.length_append, cellsG_append]; exact h2, h3, h5⟩
/-- a row that is its own, in a world in which only what is older has been kept -/
theorem own_grown {w w' : World} {B : Nat} {v : Value} {n : Nat} {xs : List Value} {e : TypeId} {k : Nat} (h : w.ownsRow B e k v n xs) (hb : Below w.heap.size w w') : w'.ownsRow B e k v n xs := by
  refine ⟨h.1, h.2.imp id ?_⟩
  rintro ⟨g, cap, cur, h1, h2, h3, h4⟩
  exact ⟨g, cap, cur, h1, h2, (hb.block g (Array.getElem?_eq_some_iff.1 h3).1).trans h3, h4⟩
def gI (i : Nat) : Gd := ((i : Int) / 12 / 12, (i : Int) / 12 % 12, (i : Int) % 12)
def preG (p : Gd → Bool) (i : Nat) : List Gd := ((List.range i).map gI).filter p
theorem preG_succ (p : Gd → Bool) (i : Nat) : preG p (i + 1) = if p (gI i) then preG p i ++ [gI i] else preG p i := by
  unfold preG
  rw [List.range_succ, List.map_append, List.filter_append]
  cases h : p (gI i) <;> simp [h]
theorem preG_len (p : Gd → Bool) (i : Nat) : (preG p i).length ≤ i := by
  unfold preG
  exact Nat.le_trans (List.length_filter_le _ _) (by simp)
def allG : List Gd := (List.range 1728).map gI
set_option maxHeartbeats 2000000 in
theorem gather_any (fn : Nat) (x : Value) (p : Gd → Bool) (w : World) (hent : ∀ args w, (callFunc fn args).run Try.prog w = .ok (.enter fn args) w)
    (hcb : ∀ i, i < 1728 → ∀ w1, Below w.heap.size w w1 → Calls Try.prog fn #[gdV (gI i), x] w1 fun e w' => e = .returned (.bool (p (gI i))) ∧ Below w1.heap.size w1 w') :
    Calls Try.prog 77 #[.func (.func fn) #[] #[x]] w fun e w' => ∃ A c, e = .returned (.slice A (allG.filter p).length c) ∧ w'.ownsRow w.heap.size 23 3 (.slice A (allG.filter p).length c) (allG.filter p).length (cellsG (allG.filter p)) ∧ Below w.heap.size w w' := by
  have mixed := mixedOrders
  have HCB := hide hcb
  clear hcb
  go_enter Try.func77, Try.ntmps77
  go_wp2_with fail
  go_loopw [6, 3] (fun vi vs wr => ∃ i : Nat, vi = .int .i64 i ∧ i ≤ 1728 ∧ Hid (wr.ownsRow w.heap.size 23 3 vs (preG p i).length (cellsG (preG p i))) ∧ Hid (Below w.heap.size w wr)) (fun vi _ _ => 1728 - (intOf vi).toNat)
  case atStart => exact ⟨0, rfl, Nat.zero_le _, World.ownsRow_nil _ _ _ _, Below.refl _ _⟩
  case round =>
    obtain ⟨i, rfl, hi, HO, HG⟩ := hrel
    by_cases hlt : i < 1728
    · have hlt' : (i : Int) < 1728 := by omega
      have HC := hide (HCB.out i hlt)
      have HIN := hide hlt
      have HS := hide (preG_succ p i)
      obtain ⟨q, hq⟩ : ∃ q, p (gI i) = q := ⟨_, rfl⟩
      rw [hq] at HC HS
      have hb0 : w.heap.size ≤ wr.heap.size := HG.out.size
      have HB0 := hide hb0
      obtain ⟨W1, hW1⟩ : ∃ W1, wr.alloc (.cells #[.int .i64 (gI i).1, .int .i64 (gI i).2.1, .int .i64 (gI i).2.2] 23) = W1 := ⟨_, rfl⟩
      obtain ⟨z, hz⟩ : ∃ z, wr.heap.size = z := ⟨_, rfl⟩
      have hb1 : Below wr.heap.size wr W1 := by rw [← hW1]; exact (Below.refl _ _).alloc (Nat.le_refl _) _
      have h1 : W1.heap[z]? = some (.cells #[.int .i64 (gI i).1, .int .i64 (gI i).2.1, .int .i64 (gI i).2.2] 23 (0, 0)) := by rw [← hW1, ← hz]; exact heap_alloc_new _ _
      have HG1 := hide (HG.out.trans (hb1.mono hb0))
      have HO1 := hide (own_grown HO.out hb1)
      have HC1 := hide (HC.out W1 HG1.out)
      have H1 := hide h1
      have hl := preG_len p i
      have hB1 := Nat.le_trans hb0 hb1.size
      obtain ⟨o, ho⟩ : ∃ o, gI i = o := ⟨_, rfl⟩
      have e1 : Hid ((i : Int) / 12 / 12 = o.1) := by rw [← ho]; rfl
      have e2 : Hid ((i : Int) / 12 % 12 = o.2.1) := by rw [← ho]; rfl
      have e3 : Hid ((i : Int) % 12 = o.2.2) := by rw [← ho]; rfl
      rw [ho] at HC1 H1 HS hW1
      have HW1 := hide hW1
      have HZ := hide hz
      have HLN : Hid ((preG p i).length ≤ 1728) := hide (by omega)
      have HBB := hide hB1
      clear HC hi hlt hq hb0 hb1 h1 hl hB1 ho hW1 hz
      go_wp2_with fail
      rw [e1.out, e2.out, e3.out, HW1.out, HZ.out]
      refine HC1.out.mono ?_
      rintro e w2 ⟨rfl, hb2⟩
      have HG2 := hide (bel_next HG1.out hb2)
      have HO2 := hide (own_grown HO1.out hb2)
      have H2 := hide ((hb2.block z (Array.getElem?_eq_some_iff.1 H1.out).1).trans H1.out)
      have HB2 := hide (Nat.le_trans HBB.out hb2.size)
      clear hb2 HC1 HBB HO1 HG1 HW1 HZ e1 e2 e3
      cases q with
      | false =>
        go_wp2_with fail
        go_roundw
        case rel => exact ⟨i + 1, by go_num, HIN.out, by rw [HS.out]; exact HO2, HG2⟩
        case measure => have := HIN.out; simp [intOf]; omega
      | true =>
        obtain ⟨c0, c1, c2⟩ := box3 H2.out
        obtain ⟨W3, hW3⟩ : ∃ W3, w2.alloc (.cells #[.int .i64 o.1, .int .i64 o.2.1, .int .i64 o.2.2] 23) = W3 := ⟨_, rfl⟩
        obtain ⟨y, hy⟩ : ∃ y, w2.heap.size = y := ⟨_, rfl⟩
        have hb3 : Below w2.heap.size w2 W3 := by rw [← hW3]; exact (Below.refl _ _).alloc (Nat.le_refl _) _
        have h3 : W3.heap[y]? = some (.cells #[.int .i64 o.1, .int .i64 o.2.1, .int .i64 o.2.2] 23 (0, 0)) := by rw [← hW3, ← hy]; exact heap_alloc_new _ _
        obtain ⟨v4, W4, hap, hown, hgr, hat⟩ := app_runG (own_grown HO2.out hb3) (Nat.le_trans HB2.out hb3.size) (by have := HLN.out; omega) o h3 1 27
        have HG4 : Hid (Below w.heap.size w W4) := (bel_next HG2.out hb3).grown hgr (Nat.le_trans HB2.out hb3.size) (fun k hk => (HO2.out.lt k hk).1)
        have HO4 := hide hown
        clear hown hgr hat hb3 h3
        go_wp2_with (at_builtin; refine wpList_append_run rfl (.tmp 21) (.tmp 23) 27 rfl _ _ _ rfl rfl hap ?_)
        go_roundw
        case rel => exact ⟨i + 1, by go_num, HIN.out, by rw [HS.out]; exact HO4, HG4⟩
        case measure => have := HIN.out; simp [intOf]; omega
    · obtain rfl : i = 1728 := by omega
      obtain ⟨A, c, rfl⟩ := own_slice HO.out
      have hlt' : ¬ (1728 : Int) < 1728 := by omega
      have HF : Hid (preG p 1728 = allG.filter p) := rfl
      clear hi hlt
      rw [HF.out] at HO ⊢
      go_wp2_with fail
      go_ret
      exact ⟨A, c, rfl, HO.out, HG.out⟩
end Go.Proofs.Ytpbenjpponbjjaa
