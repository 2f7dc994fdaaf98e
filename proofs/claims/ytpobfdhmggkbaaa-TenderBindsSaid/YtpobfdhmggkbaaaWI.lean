/- Show of the offers that were sealed, be they none or some. -/
import Derived.Test.YtpobfdhmggkbaaaWG
import Derived.BigQuiet
namespace Go.Proofs.Ytpobfdhmggkbaaa
open Go.RowKit Go.Sort Go.BigFrame
theorem showed_nil {v : TdV} (i : Nat) : v.showed i [] = { v with shown := v.shown.set i true } := by
  unfold TdV.showed
  simp
theorem Show_good {W : World} {b : Nat} {v : TdV} (h : TdAt W b v) {lots : Nat} (hl : v.lots = lots) (h1 : 1 ≤ lots) (h2 : lots ≤ 12) (hs : v.state = 1) (i : Nat) {B : Nat} {u : Value} (l : List Ofr) (hr : W.ownsRow B 72 3 u l.length (cellsO l)) (hn : l = [] → u = .slice none 0 0) (salt : Nat) (hok : ∀ o ∈ l, okI o) (hsm : l.length ≤ 300) (hsa : salt < 18446744073709551616) (hE : showE v lots i (sealW l salt) l = 0) (hi : i < 8) (hcn : v.count + l.length ≤ 16) :
    Calls Try.prog 42 #[tp b, .int .i64 i, u, .int .u64 (salt : Nat)] W fun e w' => e = .returned (.int .i64 0) ∧ TdAt w' b (v.showed i l) ∧ W.grownBy w' (some b) := by
  have hml : maxLen = 9223372036854775807 := by decide
  by_cases he : l = []
  · have hu := hn he
    subst he
    subst hu
    rw [showed_nil]
    exact Show_nil h hl h1 h2 hs i salt (sealW [] salt) (fun w1 hb => Seal_w w1 none 0 0 [] salt ⟨rfl, .inl rfl⟩ (by decide) (by decide) (by intro o ho; cases ho) (by decide) hsa) hE hi
  · obtain ⟨A, c, rfl, hc1, hc2, hof, hA1, hA2⟩ := off_of_row hr
    rw [hml] at hc2
    cases A with
    | none => exact absurd (hA2 rfl).1 he
    | some a =>
      obtain ⟨-, hob, hae⟩ := hA1 a rfl
      obtain ⟨g, hg⟩ : ∃ g, a.block = g := ⟨_, rfl⟩
      rw [hg] at hae hob
      subst hae
      have hgb : g ≠ b := fun e => own_not hr h.heap (by decide) (by rw [← e]; exact hob)
      exact Show_ok h hl h1 h2 hs i g 0 l.length c l hof ⟨List.length_pos_iff.2 he, by omega⟩ salt (sealW l salt) (fun w1 hb => Seal_w w1 _ l.length c l salt (hof.now hb (Nat.le_refl _)) hc1 hc2 hok hsm hsa) hE hi hcn hgb
theorem bdK_fit {S : Nat → List Ofr} {sl : Nat → Nat} {t lt k : Nat} {v : TdV} (h : BdK S sl t lt k v) {d : Nat} (hd : d < 4) :
    v.given.getD d false = true ∧ v.seals.getD d 0 = sealW (S d) (sl d) := by
  rw [h.given, h.seals]
  have hcase : d = 0 ∨ d = 1 ∨ d = 2 ∨ d = 3 := by omega
  rcases hcase with rfl | rfl | rfl | rfl <;> exact ⟨rfl, rfl⟩
theorem good_none {lt d : Nat} {l : List Ofr} (h : ∀ o ∈ l, validB lt o = true ∧ o.1 = (d : Int)) : hasO (badB lt d) l = false := by
  unfold hasO
  rw [List.any_eq_false]
  intro o ho
  obtain ⟨h1, h2⟩ := h o ho
  unfold badB
  simp [h1, h2]
theorem bdK_show {S : Nat → List Ofr} {sl : Nat → Nat} {t lt k : Nat} {v : TdV} (h : BdK S sl t lt k v) (hk : k < 4) {d : Nat} (hd : (k + t) % 4 = d) (hS : ∀ o ∈ S d, validB lt o = true ∧ o.1 = (d : Int)) (h2 : (S d).length ≤ 2) (hc : v.count + (S d).length ≤ 16) :
    showE v lt d (sealW (S d) (sl d)) (S d) = 0 ∧ (∀ M x, M ≠ sealW (S d) (sl d) → showE v lt d M x = 11) ∧ (∀ M x, showE (v.showed d (S d)) lt d M x = 7) := by
  have hd4 : d < 4 := by omega
  obtain ⟨g1, g2⟩ := bdK_fit h hd4
  have g3 : v.shown.getD d false = false := by
    rw [h.shown d (by omega), List.any_eq_false]
    intro i hi
    have : i < k := by simpa using hi
    simp
    omega
  have hb := good_none hS
  refine ⟨?_, fun M x hM => ?_, fun M x => ?_⟩
  · unfold showE
    rw [if_neg (by omega), Int.toNat_natCast, g1, g2, g3, hb, if_neg (by decide), if_neg (by decide), if_neg (fun q => q rfl), if_neg (by omega), if_neg (by decide), if_neg (by omega)]
  · unfold showE
    rw [if_neg (by omega), Int.toNat_natCast, g1, g2, g3, if_neg (by decide), if_neg (by decide), if_pos hM]
  · have g4 : (v.showed d (S d)).given.getD d false = true := g1
    have g5 : (v.showed d (S d)).shown.getD d false = true := by
      show (v.shown.set d true).getD d false = true
      rw [List.getD_eq_getElem?_getD, List.getElem?_set, if_pos rfl, if_pos (by have := h.slen; omega)]
      rfl
    unfold showE
    rw [if_neg (by omega), Int.toNat_natCast, g4, g5, if_neg (by decide), if_pos rfl]
theorem bdK_count {S : Nat → List Ofr} {sl : Nat → Nat} {t lt k : Nat} {v : TdV} (h : BdK S sl t lt k v) (hk : k ≤ 4) (hS : ∀ j, (S j).length ≤ 2) : v.count ≤ 8 := by
  have hflat : ∀ m, ((List.range m).flatMap fun i => S ((i + t) % 4)).length ≤ 2 * m := by
    intro m
    induction m with
    | zero => simp
    | succ m ih =>
      have e : ([m].flatMap fun i => S ((i + t) % 4)) = S ((m + t) % 4) := by simp
      rw [List.range_succ, List.flatMap_append, List.length_append, e]
      have := hS ((m + t) % 4)
      omega
  have := hflat k
  rw [h.count]
  omega
theorem bdK_miss {S : Nat → List Ofr} {sl : Nat → Nat} {t lt : Nat} {v : TdV} (h : BdK S sl t lt 4 v) : missV v = [] := by
  have hg := h.given
  have hs : ∀ j, j < 4 → v.shown.getD j false = true := fun j hj => by
    rw [h.shown j (by omega), List.any_eq_true]
    refine ⟨(j + 4 - t % 4) % 4, by simp; omega, ?_⟩
    rw [beq_iff_eq]
    omega
  have s0 := hs 0 (by decide)
  have s1 := hs 1 (by decide)
  have s2 := hs 2 (by decide)
  have s3 := hs 3 (by decide)
  simp only [List.getD_eq_getElem?_getD] at s0 s1 s2 s3
  simp [missV, missTo, hg, s0, s1, s2, s3]
/-- a world in which nothing old has turned -/
structure BelOf (w : World) where
  w' : World
  h : Below w.heap.size w w'
instance belInh (w : World) : Inhabited (BelOf w) := ⟨⟨w, Below.refl _ w⟩⟩
/-- a region that draws its order, whose operations only read, and whose callees leave all that was there: walked once -/
theorem wp_region_quiet_bel {P : Program} {id : Nat} {Q : Exit → Act → World → Prop} {a : Act} {w : World} {l : List Oper} (hm : P.follows .mixedOrders = true) (hB : Region.lexB .any l.toArray = true)
    (h : wpQuiet P l.toArray (fun w1 => ∃ p : BelOf w, w1 = p.w') (fun a' => ∀ w1, (∃ p : BelOf w, w1 = p.w') → Q .normal a' w1) l a) : (Code.region id l.toArray true).wp P Q a w :=
  wp_region_quiet (C := fun w1 => ∃ p : BelOf w, w1 = p.w') hm hB ⟨⟨_, (Below.refl _ w).drew⟩, rfl⟩ (by simpa using h)
theorem bel_call {P : Program} {f : FuncId} {args : Array Value} {w : World} {v : Value} (q : BelOf w) (h : Calls P f args q.w' fun e w2 => e = .returned v ∧ Below q.w'.heap.size q.w' w2) : Calls P f args q.w' fun e w2 => e = .returned v ∧ ∃ p : BelOf w, w2 = p.w' :=
  h.mono fun _ w2 ⟨he, hb⟩ => ⟨he, ⟨w2, q.h.trans (hb.mono q.h.size)⟩, rfl⟩
theorem bel_next {w w1 w2 : World} (h : Hid (Below w.heap.size w w1)) (k : Below w1.heap.size w1 w2) : Hid (Below w.heap.size w w2) := h.out.trans (k.mono h.out.size)
theorem len_B (S : Nat → List Ofr) (t : Nat) : ((List.range 4).flatMap S).length = ((List.range 4).flatMap fun i => S ((i + t) % 4)).length := by
  have ht : (t % 4 = 0 ∨ t % 4 = 1 ∨ t % 4 = 2 ∨ t % 4 = 3) := by omega
  rcases ht with h | h | h | h
  · have e1 : (1 + t) % 4 = 1 := by omega
    have e2 : (2 + t) % 4 = 2 := by omega
    have e3 : (3 + t) % 4 = 3 := by omega
    simp [List.range_succ, List.flatMap_append, e1, e2, e3, h]
  · have e1 : (1 + t) % 4 = 2 := by omega
    have e2 : (2 + t) % 4 = 3 := by omega
    have e3 : (3 + t) % 4 = 0 := by omega
    simp [List.range_succ, List.flatMap_append, e1, e2, e3, h]
    omega
  · have e1 : (1 + t) % 4 = 3 := by omega
    have e2 : (2 + t) % 4 = 0 := by omega
    have e3 : (3 + t) % 4 = 1 := by omega
    simp [List.range_succ, List.flatMap_append, e1, e2, e3, h]
    omega
  · have e1 : (1 + t) % 4 = 0 := by omega
    have e2 : (2 + t) % 4 = 1 := by omega
    have e3 : (3 + t) % 4 = 2 := by omega
    simp [List.range_succ, List.flatMap_append, e1, e2, e3, h]
    omega
end Go.Proofs.Ytpobfdhmggkbaaa
