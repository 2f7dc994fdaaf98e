/- Contract of put: one more span behind a row of spans, or the last one made wider. -/
import Derived.Test.YtfahlgjolihmkaaDoorD2
namespace Go.Proofs.YtfahlgjolihmkaaDoor
open Go.RowKit Go.Sort

/-- the cells of a list of spans -/
def flat (xs : List Sp) : List Value := xs.flatMap fun s => [.int .i64 s.1, .int .i64 s.2]
theorem flat_length (xs : List Sp) : (flat xs).length = xs.length * 2 := by
  induction xs with
  | nil => rfl
  | cons s xs ih =>
    have : flat (s :: xs) = .int .i64 s.1 :: .int .i64 s.2 :: flat xs := rfl
    rw [this, List.length_cons, List.length_cons, ih, List.length_cons]
    omega
theorem flat_append (xs ys : List Sp) : flat (xs ++ ys) = flat xs ++ flat ys := by simp [flat]
theorem flat_get (xs : List Sp) : ∀ i, i < xs.length → (flat xs)[i * 2]? = some (.int .i64 (loA xs i)) ∧ (flat xs)[i * 2 + 1]? = some (.int .i64 (hiA xs i)) := by
  induction xs with
  | nil => intro i hi; simp at hi
  | cons s xs ih =>
    intro i hi
    have : flat (s :: xs) = .int .i64 s.1 :: .int .i64 s.2 :: flat xs := rfl
    rw [this]
    cases i with
    | zero => exact ⟨rfl, rfl⟩
    | succ i =>
      have h := ih i (by simpa using hi)
      rw [show (i + 1) * 2 = i * 2 + 1 + 1 from by omega, show i * 2 + 1 + 1 + 1 = i * 2 + 1 + 1 + 1 from rfl]
      simp only [List.getElem?_cons_succ]
      exact h
theorem flat_set (xs : List Sp) (s : Sp) : ∀ i, i < xs.length → s.1 = loA xs i → flat (xs.set i s) = (flat xs).set (i * 2 + 1) (.int .i64 s.2) := by
  induction xs with
  | nil => intro i hi; simp at hi
  | cons t xs ih =>
    intro i hi he
    have h1 : ∀ (t : Sp) (xs : List Sp), flat (t :: xs) = .int .i64 t.1 :: .int .i64 t.2 :: flat xs := fun _ _ => rfl
    cases i with
    | zero =>
      have he : s.1 = t.1 := he
      rw [List.set_cons_zero, h1, h1, he]
      rfl
    | succ i =>
      rw [List.set_cons_succ, h1, h1, ih i (by simpa using hi) he, show (i + 1) * 2 + 1 = i * 2 + 1 + 1 + 1 from by omega]
      rfl
/-- one more span, of which none begins before it -/
def putL (xs : List Sp) (s : Sp) : List Sp := if xs = [] ∨ hiA xs (xs.length - 1) < s.1 then xs ++ [s] else xs.set (xs.length - 1) (loA xs (xs.length - 1), max (hiA xs (xs.length - 1)) s.2)

theorem info42 : (Tryd.prog.info? 41).map (fun i => (i.zero, i.size, i.bytes)) = some (some (.agg #[.int .i64 0, .int .i64 0]), 2, 16) := by kernel_rfl

/-- what put leaves: the new row, in the old one's block or in a new one -/
def PutPost (n₀ : Nat) (v : Value) (ys : List Sp) (w : World) (e : Ending) (w' : World) : Prop :=
  ∃ (a : Option Addr) (c : Nat), e = .returned (.slice a ys.length c) ∧ w'.ownsRow n₀ 41 2 (.slice a ys.length c) ys.length (flat ys) ∧ w.grownBy w' v.ownBlock ∧
    ((Value.slice a ys.length c).ownBlock = v.ownBlock ∨ ∃ g, (Value.slice a ys.length c).ownBlock = some g ∧ w.heap.size ≤ g)

theorem own_row {w : World} {base : Nat} {e : TypeId} {size n : Nat} {v : Value} {xs : List Value} (h : w.ownsRow base e size v n xs) (hn : n ≠ 0) : ∃ g c, v = .slice (some ⟨g, 0, none⟩) n c ∧ base ≤ g ∧ g < w.heap.size := by
  rcases h.2 with ⟨_, h0⟩ | ⟨g, cap, cur, hv, hb, hg, _⟩
  · exact absurd h0 hn
  · exact ⟨g, cap, hv, hb, lt_of_heap hg⟩
theorem loA_set {xs : List Sp} {i : Nat} {s : Sp} (h : i < xs.length) : loA (xs.set i s) i = s.1 ∧ hiA (xs.set i s) i = s.2 := by simp [loA, hiA, List.getD_eq_getElem?_getD, h]

/-- the append, from a world that has only grown -/
theorem putpost_append {n₀ : Nat} {v : Value} {k : Nat} {xs : List Sp} {lo hi : Int} {w W1 w2 : World} {tmp : Obj} {v1 : Value} (hk : xs.length = k) (hp : putL xs (lo, hi) = xs ++ [(lo, hi)]) (hG : Gr w W1)
    (hown : w2.ownsRow n₀ 41 2 v1 (k + 1) (flat xs ++ [.int .i64 lo, .int .i64 hi])) (hgrow : (W1.alloc tmp).grownBy w2 v.ownBlock) (hat : v1.ownBlock = v.ownBlock ∨ v1.ownBlock = some (W1.alloc tmp).heap.size) :
    PutPost n₀ v (putL xs (lo, hi)) w (.returned v1) w2 := by
  obtain ⟨a, c, rfl⟩ := own_slice hown
  have hl : (putL xs (lo, hi)).length = k + 1 := by rw [hp, List.length_append, hk]; rfl
  refine ⟨a, c, by rw [hl], ?_, ((hG.alloc tmp).grownBy v.ownBlock).trans hgrow, ?_⟩
  · rw [hl, hp, flat_append]
    exact hown
  · rw [hl]
    rcases hat with e | e
    · exact .inl e
    · exact .inr ⟨_, e, by have := hG.size; simp; omega⟩

/-- the store into the last span, from a world that has only grown -/
theorem putpost_set {n₀ g kp c : Nat} {xs : List Sp} {lo hi m : Int} {w W2 : World} (hk : xs.length = kp + 1) (hp : putL xs (lo, hi) = xs.set kp (loA xs kp, max (hiA xs kp) hi)) (hm : m = max (hiA xs kp) hi) (hG : Gr w W2)
    (ho : W2.ownsRow n₀ 41 2 (.slice (some ⟨g, 0, none⟩) (kp + 1) c) (kp + 1) (flat xs)) :
    PutPost n₀ (.slice (some ⟨g, 0, none⟩) (kp + 1) c) (putL xs (lo, hi)) w (.returned (.slice (some ⟨g, 0, none⟩) (kp + 1) c)) (W2.setCell ⟨g, kp * 2 + 1, none⟩ (.int .i64 m)).drew := by
  have hl : (putL xs (lo, hi)).length = kp + 1 := by rw [hp, List.length_set, hk]
  obtain ⟨h1, h2⟩ := ho.stored (kp * 2 + 1) (.int .i64 m)
  refine ⟨some ⟨g, 0, none⟩, c, by rw [hl], ?_, ?_, .inl (by rw [hl])⟩
  · rw [hl, hp, flat_set xs (loA xs kp, max (hiA xs kp) hi) kp (by omega) rfl, ← hm]
    exact h1
  · have h3 := (hG.grownBy (some g)).trans h2
    exact ⟨h3.os, h3.tape, h3.output, h3.size, h3.block⟩

set_option maxHeartbeats 2000000 in
set_option maxRecDepth 100000 in
theorem put_any (n₀ : Nat) (a : Option Addr) (k c : Nat) (xs : List Sp) (lo hi : Int) (w : World) (hk : xs.length = k) (hk2 : k ≤ 1000000) (hn₀ : n₀ ≤ w.heap.size) (ho : w.ownsRow n₀ 41 2 (.slice a k c) k (flat xs)) :
    Calls Tryd.prog 38 #[.slice a k c, .agg #[.int .i64 lo, .int .i64 hi]] w (PutPost n₀ (.slice a k c) (putL xs (lo, hi)) w) := by
  have mixed := mixedOrders
  obtain ⟨i0, hi0, hz0, hz1, hz2⟩ := info_parts info42
  have HO := hide ho
  by_cases hk0 : k = 0
  · subst hk0
    have hx : xs = [] := List.eq_nil_of_length_eq_zero hk
    subst hx
    have HP : Hid (putL [] (lo, hi) = [] ++ [(lo, hi)]) := rfl
    clear hk ho
    go_enter Tryd.func38, Tryd.ntmps38
    go_wp2_with fail
    go_quiet (fail)
    have HG := hide (((Gr.refl w).alloc (.cells #[.int .i64 lo, .int .i64 hi] 41)).drewN nq)
    have ho1 : ((w.alloc (.cells #[.int .i64 lo, .int .i64 hi] 41)).drewN nq).ownsRow n₀ 41 2 (.slice a 0 c) 0 (flat []) := HO.out.alloc _
    have e0 : ((w.alloc (.cells #[.int .i64 lo, .int .i64 hi] 41)).drewN nq).cell? ⟨w.heap.size, 0, none⟩ = some (.int .i64 lo) := (by show (w.alloc _).cell? _ = _; simp)
    have e1 : ((w.alloc (.cells #[.int .i64 lo, .int .i64 hi] 41)).drewN nq).cell? ⟨w.heap.size, 1, none⟩ = some (.int .i64 hi) := (by show (w.alloc _).cell? _ = _; simp)
    generalize (w.alloc (.cells #[.int .i64 lo, .int .i64 hi] 41)).drewN nq = W1 at HG ho1 e0 e1 ⊢
    have hb3 : n₀ ≤ (W1.alloc (.cells #[.int .i64 lo, .int .i64 hi] 41)).heap.size := by have := HG.out.size; simp; omega
    have HO1 := hide ho1
    clear ho1
    go_wp2_with (at_builtin; refine wpList_append_own_at _ rfl (.tmp 21) (.tmp 23) _ rfl n₀ 41 i0 (.agg #[.int .i64 0, .int .i64 0]) 2 16 Tryd.underlying22 hi0 hz0 hz1 hz2 rfl (by decide) _ _ _ rfl (HO1.out.alloc _) ⟨W1.heap.size, 0, none⟩ 1 1 [.int .i64 lo, .int .i64 hi] rfl rfl (cell_two_new _ _ _ _) (by simp [Value.oneCell']) (by decide) (by decide) hb3 ?_; intro v1 w5 hown1 hgrow1 hnil1 hat1)
    go_ret
    exact putpost_append rfl HP.out HG.out hown1 hgrow1 hat1
  · obtain ⟨g, c', he, hg1, hg2⟩ := own_row ho hk0
    injection he with he1 he2 he3
    subst he1; subst he3
    obtain ⟨kp, rfl⟩ : ∃ kp, k = kp + 1 := ⟨k - 1, by omega⟩
    have hkp : kp < xs.length := by omega
    have hce := ho.cellAt (kp * 2 + 1) (by omega)
    rw [(flat_get xs kp hkp).2] at hce
    have hlen : xs.length - 1 = kp := by omega
    have HLEN := hide hlen
    have HK := hide hk
    have hkk : (kp : Int) < (kp : Int) + 1 := by omega
    clear hk hlen hk0
    go_enter Tryd.func38, Tryd.ntmps38
    go_wp2_with fail
    have HG := hide ((Gr.refl w).alloc (.cells #[.int .i64 lo, .int .i64 hi] 41))
    have ho1 : (w.alloc (.cells #[.int .i64 lo, .int .i64 hi] 41)).ownsRow n₀ 41 2 (.slice (some ⟨g, 0, none⟩) (kp + 1) c) (kp + 1) (flat xs) := HO.out.alloc _
    have e0 : (w.alloc (.cells #[.int .i64 lo, .int .i64 hi] 41)).cell? ⟨w.heap.size, 0, none⟩ = some (.int .i64 lo) := (by simp)
    have e1 : (w.alloc (.cells #[.int .i64 lo, .int .i64 hi] 41)).cell? ⟨w.heap.size, 1, none⟩ = some (.int .i64 hi) := (by simp)
    have e2 : (w.alloc (.cells #[.int .i64 lo, .int .i64 hi] 41)).cell? ⟨g, kp * 2 + 1, none⟩ = some (.int .i64 (hiA xs kp)) := (World.cell?_alloc_lt _ _ _ hg2).trans hce
    have hsz : w.heap.size < (w.alloc (.cells #[.int .i64 lo, .int .i64 hi] 41)).heap.size := by simp
    clear hce
    generalize w.alloc (.cells #[.int .i64 lo, .int .i64 hi] 41) = W1 at HG ho1 e0 e1 e2 hsz ⊢
    generalize w.heap.size = bb at e0 e1 hsz hg2 ⊢
    have E0 : ∀ nq, (W1.drewN nq).cell? ⟨bb, 0, none⟩ = some (.int .i64 lo) := fun _ => e0
    have E1 : ∀ nq, (W1.drewN nq).cell? ⟨bb, 1, none⟩ = some (.int .i64 hi) := fun _ => e1
    have E2 : ∀ nq, (W1.drewN nq).cell? ⟨g, kp * 2 + 1, none⟩ = some (.int .i64 (hiA xs kp)) := fun _ => e2
    by_cases hlt : hiA xs kp < lo
    · have hd : decide (hiA xs kp < lo) = true := decide_eq_true hlt
      have HP : Hid (putL xs (lo, hi) = xs ++ [(lo, hi)]) := by show putL xs (lo, hi) = _; unfold putL; rw [HLEN.out, if_pos (.inr hlt)]
      go_quiet (fail)
      have HG2 := hide (HG.out.drewN nq)
      have HO1 : Hid ((W1.drewN nq).ownsRow n₀ 41 2 (.slice (some ⟨g, 0, none⟩) (kp + 1) c) (kp + 1) (flat xs)) := ho1
      have d0 := E0 nq
      have d1 := E1 nq
      clear E0 E1 E2 e0 e1 e2 ho1 HO ho
      have hsz2 : bb < (W1.drewN nq).heap.size := hsz
      generalize W1.drewN nq = W2 at HG2 HO1 d0 d1 hsz2 ⊢
      have hb3 : n₀ ≤ (W2.alloc (.cells #[.int .i64 lo, .int .i64 hi] 41)).heap.size := by have := HG2.out.size; simp; omega
      have hb1 : kp + 1 + 1 ≤ maxLen := by unfold maxLen; omega
      have hb2 : (kp + 1 + 1) * 16 ≤ 140737488355328 := by omega
      go_wp2_with (at_builtin; refine wpList_append_own_at _ rfl (.tmp 21) (.tmp 23) _ rfl n₀ 41 i0 (.agg #[.int .i64 0, .int .i64 0]) 2 16 Tryd.underlying22 hi0 hz0 hz1 hz2 rfl (by decide) _ _ _ rfl (HO1.out.alloc _) ⟨W2.heap.size, 0, none⟩ 1 1 [.int .i64 lo, .int .i64 hi] rfl rfl (cell_two_new _ _ _ _) (by simp [Value.oneCell']) hb1 hb2 hb3 ?_; intro v1 w5 hown1 hgrow1 hnil1 hat1)
      go_ret
      exact putpost_append HK.out HP.out HG2.out hown1 hgrow1 hat1
    · have hd : decide (hiA xs kp < lo) = false := decide_eq_false hlt
      have HP : Hid (putL xs (lo, hi) = xs.set kp (loA xs kp, max (hiA xs kp) hi)) := by
        show putL xs (lo, hi) = _
        unfold putL
        rw [HLEN.out, if_neg]
        rintro (h | h)
        · rw [h] at hkp; simp at hkp
        · exact hlt h
      go_quiet (fail)
      have HG2 := hide (HG.out.drewN nq)
      have HO1 : Hid ((W1.drewN nq).ownsRow n₀ 41 2 (.slice (some ⟨g, 0, none⟩) (kp + 1) c) (kp + 1) (flat xs)) := ho1
      have d0 := E0 nq
      have d1 := E1 nq
      have d2 := E2 nq
      have d3 := HO1.out.frozenAt (kp * 2 + 1)
      clear E0 E1 E2 e0 e1 e2 ho1 HO ho
      have hsz2 : bb < (W1.drewN nq).heap.size := hsz
      generalize W1.drewN nq = W2 at HG2 HO1 d0 d1 d2 d3 hsz2 ⊢
      go_wp2_with fail
      go_region
      all_goals go_wp2
      all_goals go_ret
      all_goals exact putpost_set HK.out HP.out (by omega) HG2.out HO1.out

end Go.Proofs.YtfahlgjolihmkaaDoor
