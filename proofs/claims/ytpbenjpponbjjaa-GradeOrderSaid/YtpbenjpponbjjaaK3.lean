/- Width of three known grades, as walks ask for it. -/
import Derived.Test.YtpbenjpponbjjaaK2
set_option linter.unusedSimpArgs false
set_option linter.unusedVariables false
namespace Go.Proofs.Ytpbenjpponbjjaa.En
open Go.RowKit
/-- a slice that came in -/
structure RIn where
  ty : TypeId
  sz : Nat
  A : Option Addr
  n : Nat
  cap : Nat
  fl : List Int
  k : RK
/-- the numbers of a kind -/
def RK.fit : RK → Int → Prop
  | .int .i64, x => -9223372036854775808 ≤ x ∧ x ≤ 9223372036854775807
  | .int k, x => k.min ≤ x ∧ x ≤ k.max
  | .bool, x => x = 0 ∨ x = 1
def RIn.blk (r : RIn) : Blk := ⟨false, false, r.ty, r.sz, .rows r.k r.fl⟩
def RIn.base (r : RIn) : Base := ⟨true, true, if r.n = 0 then none else r.A, r.cap * r.sz, r.sz⟩
structure RIn.ok (W : World) (r : RIn) : Prop where
  len : r.fl.length = r.sz * r.n
  le : r.n ≤ r.cap
  big : r.cap ≤ 9223372036854775807
  at_ : 0 < r.n → ∃ b off, r.A = some ⟨b, off, none⟩ ∧ b < W.heap.size ∧ ∀ j, j < r.fl.length → W.cell? ⟨b, off + j, none⟩ = some (r.k.val (r.fl.getD j 0))
  fits : ∀ j, j < r.fl.length → r.k.fit (r.fl.getD j 0)
def plOf (l : List RIn) : Pl := fun i => match l[i]? with
  | some r => r.base
  | none => ⟨false, false, none, 0, 0⟩
theorem plOf_some {l : List RIn} {i : Nat} {r : RIn} (h : l[i]? = some r) : plOf l i = r.base := by simp [plOf, h]
def insOf : List RIn → AH
  | [] => []
  | r :: l => r.blk :: insOf l
theorem insOf_get : ∀ {l : List RIn} {i : Nat} {b : Blk}, (insOf l)[i]? = some b → ∃ r, l[i]? = some r ∧ b = r.blk
  | [], _, _, h => by simp [insOf] at h
  | r :: l, 0, b, h => by
    simp [insOf] at h
    exact ⟨r, rfl, h.symm⟩
  | r :: l, i + 1, b, h => by
    simp [insOf] at h
    simpa using insOf_get h
theorem insOf_len : ∀ l : List RIn, (insOf l).length = l.length
  | [] => rfl
  | r :: l => by simp [insOf, insOf_len l]
theorem insOf_ro : ∀ l : List RIn, allRo (insOf l) = true
  | [] => rfl
  | r :: l => by simp [insOf, allRo, RIn.blk, insOf_ro l]
theorem insOf_bodies (L : Nat) : ∀ l : List RIn, okBodies L (insOf l) = true
  | [] => rfl
  | r :: l => by simp [insOf, okBodies, RIn.blk, Body.ok, insOf_bodies L l]
def cxW (W : World) : Cx := ⟨W, fun k => W.heap.size ≤ k, fun _ h => h⟩
theorem inv_of {W : World} {l : List RIn} (h : ∀ r ∈ l, r.ok W) : Inv (cxW W) (plOf l) (insOf l) W := by
  refine ⟨fun i b hb _ => ?_, fun i hi => ?_, fun i hi => ?_, fun i j bi bj _ hi hj _ _ hr => ?_, fun i b hb _ hr => ?_, rfl, rfl, rfl, Nat.le_refl _, fun _ _ _ => rfl⟩
  · obtain ⟨r, hr, rfl⟩ := insOf_get hb
    have ho := h r (List.mem_of_getElem? hr)
    have e := plOf_some hr
    have ha : ∀ a, r.base.addr = some a → 0 < r.n ∧ r.A = some a := by
      intro a ha
      simp only [RIn.base] at ha
      split at ha
      · cases ha
      · exact ⟨by omega, ha⟩
    refine ⟨by rw [e]; rfl, fun hw => (by cases hw), by rw [e]; rfl, ?_, ?_, fun hw => (by cases hw), fun hw => (by cases hw)⟩
    · rw [e]
      intro a hba
      obtain ⟨h1, h2⟩ := ha a hba
      obtain ⟨b, off, h3, h4, _⟩ := ho.at_ h1
      rw [h2] at h3
      injection h3 with h3
      subst h3
      exact ⟨rfl, h4⟩
    · rw [e]
      intro j x hx
      simp only [RIn.blk, Body.get] at hx
      injection hx with hx
      injection hx with h1 h2
      have h1 := of_decide_eq_true h1
      subst h2
      have hn : 0 < r.n := by
        rcases Nat.eq_zero_or_pos r.n with h0 | h0
        · have := ho.len
          rw [h0] at this
          omega
        · exact h0
      obtain ⟨b, off, h3, h4, h5⟩ := ho.at_ hn
      refine ⟨⟨b, off, none⟩, _, ?_, by rw [addr_add]; exact h5 j h1, rfl⟩
      simp only [RIn.base]
      rw [if_neg (by omega), h3]
  · rw [insOf_len] at hi
    rw [plOf_some (List.getElem?_eq_getElem hi)]
    rfl
  · rw [insOf_len] at hi
    simp [plOf, List.getElem?_eq_none hi]
  · obtain ⟨r, _, rfl⟩ := insOf_get hi
    cases hr
  · obtain ⟨r, _, rfl⟩ := insOf_get hb
    cases hr
theorem slc_of {W : World} {l : List RIn} {i : Nat} {r : RIn} (hi : l[i]? = some r) (h : r.ok W) : VRel (plOf l) (.t (.a (.s (.slc i 0 r.n)))) (.slice r.A r.n r.cap) := by
  show (plOf l i).on = true ∧ ∃ ad c, _
  rw [plOf_some hi]
  have hml : maxLen = 9223372036854775807 := by decide
  refine ⟨rfl, r.A, r.cap, rfl, h.le, by rw [hml]; exact h.big, ?_⟩
  rcases Nat.eq_zero_or_pos r.n with h0 | h0
  · exact .inr ⟨h0, .inr ⟨rfl, by simp [RIn.base, h0]⟩⟩
  · obtain ⟨b, off, h1, _, _⟩ := h.at_ h0
    refine .inl ⟨⟨b, off, none⟩, by simp only [RIn.base]; rw [if_neg (by omega), h1], rfl, by rw [addr_add]; exact h1, ?_, fun _ => rfl⟩
    simp only [RIn.base]
    omega

theorem Inv.ints {C : Cx} {ρ : Pl} {H : AH} {w : World} (h : Inv C ρ H w) {b n : Nat} {blk : Blk} {xs : List Int} (hb : H[b]? = some blk) (hbd : blk.body = .rows (.int .i64) xs) (hl : xs.length = n) {u : Value} (hu : SRel ρ (.slc b 0 n) u) :
    ∃ ad c, u = .slice ad n c ∧ n ≤ c ∧ c ≤ maxLen ∧ IntsAt w.heap.size w ad n xs ∧ (0 < n → ∀ a, ad = some a → a.block < w.heap.size) ∧ (blk.rw = true → ad = none → n = 0 ∧ c = 0) := by
  obtain ⟨hon, ad, c, rfl, h1, h2, hat⟩ := hu
  have hlv : blk.body.live = true := by rw [hbd]; rfl
  have hB := h.blk b blk hb hlv
  refine ⟨ad, c, rfl, h1, h2, ⟨hl, ?_⟩, ?_, ?_⟩
  · rcases hat with ⟨a, ha, hsp, rfl, _⟩ | ⟨hn, _⟩
    · by_cases h0 : n = 0
      · exact .inl h0
      · refine .inr ⟨a.block, a.off, ?_, (hB.lt a ha).2, fun i hi => ?_⟩
        · rw [addr_add' hsp, Nat.add_zero]
        · obtain ⟨a', u', h3, h4, h5⟩ := hB.cell i (.s (.v (.int .i64 (xs.getD i 0)))) (by rw [hbd]; show some (decide (i < xs.length), _) = _; rw [decide_eq_true (by omega)]; rfl)
          rw [ha] at h3
          injection h3 with h3
          subst h3
          rw [addr_add' hsp] at h4
          have h5 : u' = .int .i64 (xs.getD i 0) := h5
          rw [h4, h5]
          rfl
    · exact .inl hn
  · intro h0 a' e
    rcases hat with ⟨a, ha, hsp, rfl, _⟩ | ⟨hn, _⟩
    · injection e with e
      subst e
      rw [addr_add_block]
      exact (hB.lt a ha).2
    · omega
  · intro hr e
    subst e
    rcases hat with ⟨a, _, _, h3, _⟩ | ⟨hn, hc⟩
    · cases h3
    · refine ⟨hn, hc.elim id fun ⟨he, _⟩ => ?_⟩
      rw [hB.rw hr] at he
      cases he

def wIn (A : Option Addr) (c : Nat) : RIn := ⟨23, 3, A, 3, c, [0, 0, 1, 0, 1, 0, 0, 1, 1], .int .i64⟩
def wH0 : AH := [⟨false, false, 23, 3, .rows (.int .i64) [0, 0, 1, 0, 1, 0, 0, 1, 1]⟩]
def wGood : Option (Rs × AH) → Bool
  | some (.ret (.tup [.a (.s (.v (.int .i64 x))), .a (.s (.slc q 0 n)), .a (.s (.v (.int .i64 y)))]), H) => decide (x = 2 ∧ n = 2 ∧ y = 0) && (match H[q]? with
    | some blk => match blk.body with
      | .rows (.int .i64) xs => decide (xs = [0, 1])
      | _ => false
    | none => false)
  | _ => false
theorem width_run : wGood (callR Try.prog TY false noDF repK 60 20 38 [.t (.a (.s (.slc 0 0 3)))] wH0) = true := by kernel_rfl
theorem width_c : ∃ q H', (∃ blk, H'[q]? = some blk ∧ blk.body = .rows (.int .i64) [0, 1]) ∧ CallA Try.prog 38 [.t (.a (.s (.slc 0 0 3)))] wH0 (fun v H => v = .tup [.a (.s (.v (.int .i64 2))), .a (.s (.slc q 0 2)), .a (.s (.v (.int .i64 0)))] ∧ H = H') := by
  have h := width_run
  obtain ⟨r, hr⟩ : ∃ r, callR Try.prog TY false noDF repK 60 20 38 [.t (.a (.s (.slc 0 0 3)))] wH0 = r := ⟨_, rfl⟩
  rw [hr] at h
  unfold wGood at h
  split at h <;> try (cases h; done)
  rename_i x q n y H
  rw [Bool.and_eq_true] at h
  obtain ⟨h1, h2⟩ := h
  obtain ⟨rfl, rfl, rfl⟩ := of_decide_eq_true h1
  split at h2 <;> try (cases h2; done)
  rename_i blk hb
  split at h2 <;> try (cases h2; done)
  rename_i xs hbd
  obtain rfl := of_decide_eq_true h2
  exact ⟨q, H, ⟨blk, hb, hbd⟩, callR_ok TYok mixedO repK_ok 60 20 _ _ _ _ _ hr⟩
end Go.Proofs.Ytpbenjpponbjjaa.En
