/- Contracts found by walks, as contracts over a memory told by numbers. -/
import Derived.Test.YtdepnhnpklbmiaaE16
import Derived.Test.YtdepnhnpklbmiaaB7
namespace Go.Proofs.Ytdepnhnpklbmiaa
open Go.RowKit Go.Sort

theorem callA_below {P : Program} {g : FuncId} {args : List AV} {H : AH} {K : AV → AH → Prop} (he : Enters P g)
    (h : ∀ (C : Cx) (ρ : Pl) (w : World) (ra : Array Value), Inv C ρ H w → LRel (VRel ρ) args ra.toList → Calls P g ra w fun e w' => ∃ u v, e = .returned u ∧ K v H ∧ Below w.heap.size w w' ∧ VRel ρ v u) : CallA P g args H K :=
  ⟨he, fun C ρ w ra hI hra => (h C ρ w ra hI hra).mono fun _ _ ⟨u, v, h1, h2, h3, h4⟩ => ⟨u, v, H, ρ, h1, h2, hI.below h3, ExtN.refl _ _, Nat.le_refl _, h4⟩⟩

/-- a row of ints, as the walks know it -/
theorem Inv.ints {C : Cx} {ρ : Pl} {H : AH} {w : World} (h : Inv C ρ H w) {b n : Nat} {blk : Blk} {xs : List Int} (hb : H[b]? = some blk) (hbd : blk.body = .rows (.int .i64) xs) (hl : xs.length = n) {u : Value} (hu : SRel ρ (.slc b 0 n) u) :
    ∃ ad c, u = .slice ad n c ∧ n ≤ c ∧ c ≤ maxLen ∧ IntsAt w.heap.size w ad n xs ∧ (0 < n → ∀ a, ad = some a → a.block < w.heap.size) ∧ (blk.rw = true → ad = none → n = 0 ∧ c = 0) := by
  obtain ⟨hon, ad, c, rfl, h1, h2, hat⟩ := hu
  have hlv : blk.body.live = true := by rw [hbd]; rfl
  have hB := h.blk b blk hb hlv
  refine ⟨ad, c, rfl, h1, h2, ⟨hl, ?_⟩, ?_, ?_⟩
  · rcases hat with ⟨a, ha, hsp, rfl, _⟩ | ⟨hn, _⟩
    · by_cases h0 : n = 0
      · exact .inl h0
      · refine .inr ⟨a.block, a.off, ?_, (hB.lt a ha).2, fun i hi => ?_⟩
        · rw [addr_add' hsp, Nat.add_zero]
        · obtain ⟨a', u', h3, h4, h5⟩ := hB.cell i (.s (.v (.int .i64 (xs.getD i 0)))) (by rw [hbd]; show some (decide (i < xs.length), _) = _; rw [decide_eq_true (by omega)]; rfl)
          rw [ha] at h3
          injection h3 with h3
          subst h3
          rw [addr_add' hsp] at h4
          have h5 : u' = .int .i64 (xs.getD i 0) := h5
          rw [h4, h5]
          rfl
    · exact .inl hn
  · intro h0 a' e
    rcases hat with ⟨a, ha, hsp, rfl, _⟩ | ⟨hn, _⟩
    · injection e with e
      subst e
      rw [addr_add_block]
      exact (hB.lt a ha).2
    · omega
  · intro hr e
    subst e
    rcases hat with ⟨a, _, _, h3, _⟩ | ⟨hn, hc⟩
    · cases h3
    · refine ⟨hn, hc.elim id fun ⟨he, _⟩ => ?_⟩
      rw [hB.rw hr] at he
      cases he

/-- a curve as an argument -/
abbrev cuA (f v : Int) (b n : Nat) : AV := .t (.agg [.s (.v (.int .i64 f)), .s (.v (.int .i64 v)), .s (.slc b 0 n)])
theorem cu_arg {ρ : Pl} {f v : Int} {b n : Nat} {u : Value} (h : VRel ρ (cuA f v b n) u) : ∃ u3, u = .agg #[.int .i64 f, .int .i64 v, u3] ∧ SRel ρ (.slc b 0 n) u3 := by
  obtain ⟨⟨cs⟩, rfl, hl⟩ := h
  match cs, hl with
  | [x, y, z], ⟨hx, hy, hz, _⟩ =>
    have hx : x = .int .i64 f := hx
    have hy : y = .int .i64 v := hy
    subst hx hy
    exact ⟨z, rfl, hz⟩
theorem args1 {ρ : Pl} {x : AV} {ra : Array Value} (h : LRel (VRel ρ) [x] ra.toList) : ∃ u, ra = #[u] ∧ VRel ρ x u := by
  obtain ⟨l⟩ := ra
  match l, h with
  | [u], ⟨h1, _⟩ => exact ⟨u, rfl, h1⟩
theorem args2 {ρ : Pl} {x y : AV} {ra : Array Value} (h : LRel (VRel ρ) [x, y] ra.toList) : ∃ u v, ra = #[u, v] ∧ VRel ρ x u ∧ VRel ρ y v := by
  obtain ⟨l⟩ := ra
  match l, h with
  | [u, v], ⟨h1, h2, _⟩ => exact ⟨u, v, rfl, h1, h2⟩
theorem args3 {ρ : Pl} {x y z : AV} {ra : Array Value} (h : LRel (VRel ρ) [x, y, z] ra.toList) : ∃ u v t, ra = #[u, v, t] ∧ VRel ρ x u ∧ VRel ρ y v ∧ VRel ρ z t := by
  obtain ⟨l⟩ := ra
  match l, h with
  | [u, v, t], ⟨h1, h2, h3, _⟩ => exact ⟨u, v, t, rfl, h1, h2, h3⟩

/-- a row that a call has made -/
theorem Inv.own_row {C : Cx} {ρ : Pl} {H : AH} {w w' : World} (h : Inv C ρ H w) (hb : Below w.heap.size w w') {e : TypeId} {ad0 : Option Addr} {n cap : Nat} {xs : List Int} (ho : w'.ownsRow w.heap.size e 1 (.slice ad0 n cap) n (xs.map (Value.int .i64))) :
    ∃ B, Inv C (upd ρ H.length B) (H ++ [⟨true, false, e, 1, .rows (.int .i64) xs⟩]) w' ∧ Ext ρ (upd ρ H.length B) ∧ SRel (upd ρ H.length B) (.slc H.length 0 n) (.slice ad0 n cap) := by
  have hoff := h.off H.length (Nat.le_refl _)
  have hI' := h.below hb
  obtain ⟨hlen, hcase⟩ := ho
  have hlen : xs.length = n := by simpa using hlen
  obtain ⟨B, hon, hext, hsz, hadr, hsl⟩ : ∃ B : Base, B.on = true ∧ B.ext = false ∧ B.sz = 1 ∧
      ((B.addr = none ∧ B.cap = 0 ∧ xs = []) ∨ ∃ g cur, B.addr = some ⟨g, 0, none⟩ ∧ w.heap.size ≤ g ∧ w'.heap[g]? = some (.cells cur e (0, 0)) ∧ cur.size = B.cap ∧ xs.length ≤ cur.size ∧ ∀ j, j < xs.length → cur[j]? = some (.int .i64 (xs.getD j 0))) ∧
      (∃ ad c, Value.slice ad0 n cap = .slice ad n c ∧ n ≤ c ∧ c ≤ maxLen ∧ SlAt B 0 n ad c) := by
    rcases hcase with ⟨hv, hn⟩ | ⟨g, cp, cur, hv, hg, hhp, hle, hmx, hcs, htk⟩
    · injection hv with h1 h2 h3
      subst h1 h3
      refine ⟨⟨true, false, none, 0, 1⟩, rfl, rfl, rfl, .inl ⟨rfl, rfl, List.eq_nil_of_length_eq_zero (by omega)⟩, none, 0, rfl, by omega, Nat.zero_le _, .inr ⟨hn, .inl rfl⟩⟩
    · injection hv with h1 h2 h3
      subst h1 h3
      refine ⟨⟨true, false, some ⟨g, 0, none⟩, cap, 1⟩, rfl, rfl, rfl, .inr ⟨g, cur, rfl, hg, hhp, by simpa using hcs, by simp at hcs; omega, fun j hj => ?_⟩, some ⟨g, 0, none⟩, cap, rfl, hle, hmx, .inl ⟨⟨g, 0, none⟩, rfl, rfl, by rw [addr_adde], by show 0 + cap * 1 ≤ cap; omega, fun _ => by show cap * 1 = cap; omega⟩⟩
      have h4 : (cur.toList.take (n * 1))[j]? = (xs.map (Value.int .i64))[j]? := by rw [htk]
      rw [List.getElem?_take, if_pos (by omega), List.getElem?_map, List.getElem?_eq_getElem hj] at h4
      simp only [Array.getElem?_toList] at h4
      rw [h4, List.getD_eq_getElem?_getD, List.getElem?_eq_getElem hj]
      rfl
  have he := ext_upd B hoff
  have hne : ∀ {i : Nat} {b}, H[i]? = some b → i ≠ H.length := fun hb => by
    have := (List.getElem?_eq_some_iff.1 hb).1
    omega
  refine ⟨B, ⟨?_, on_append hI'.on hon, ?_, ?_, ?_, hI'.os, hI'.tape, hI'.output, hI'.size, hI'.kept⟩, he, ?_⟩
  · intro i b hb' hl'
    rcases getElem?_append_one hb' with ⟨h1, _⟩ | ⟨rfl, rfl⟩
    · exact (hI'.blk i b h1 hl').keep he (Nat.le_refl _) fun _ _ => rfl
    · refine ⟨by rw [upd_same]; exact hon, fun _ => by rw [upd_same]; exact hext, by rw [upd_same]; exact hsz, ?_, ?_, ?_, ?_⟩
      · rw [upd_same]
        intro a ha
        rcases hadr with ⟨h1, _⟩ | ⟨g, cur, h1, _, h2, _⟩
        · rw [h1] at ha
          cases ha
        · rw [h1] at ha
          injection ha with ha
          subst ha
          exact ⟨rfl, (Array.getElem?_eq_some_iff.1 h2).1⟩
      · rw [upd_same]
        intro j x hx
        have hx : some (decide (j < xs.length), A.s (S.v ((RK.int .i64).val (xs.getD j 0)))) = some (true, x) := hx
        injection hx with hx
        injection hx with hj hx
        have hj := of_decide_eq_true hj
        subst hx
        rcases hadr with ⟨_, _, h1⟩ | ⟨g, cur, h1, _, h2, _, _, h3⟩
        · subst h1
          exact absurd hj (Nat.not_lt_zero _)
        · refine ⟨_, _, h1, ?_, rfl⟩
          rw [addr_adde, Nat.zero_add]
          have := cell_of_heap' h2 j
          rw [this]
          exact h3 j hj
      · rw [upd_same]
        intro _ a ha
        rcases hadr with ⟨h1, _⟩ | ⟨g, cur, h1, _, h2, h3, h4, _⟩
        · rw [h1] at ha
          cases ha
        · rw [h1] at ha
          injection ha with ha
          subst ha
          exact ⟨rfl, cur, h2, h3, h4, fun h => by cases h⟩
      · rw [upd_same]
        intro _ ha
        rcases hadr with ⟨_, h1, _⟩ | ⟨g, cur, h1, _⟩
        · exact h1
        · rw [h1] at ha
          cases ha
  · intro i hi
    simp at hi
    rw [upd_other _ _ (by omega)]
    exact hI'.off i (by omega)
  · have hnw : ∀ {a : Addr}, B.addr = some a → w.heap.size ≤ a.block := fun ha => by
      rcases hadr with ⟨h1, _⟩ | ⟨g, cur, h1, hg, _⟩
      · rw [h1] at ha
        cases ha
      · rw [h1] at ha
        injection ha with ha
        subst ha
        exact hg
    intro i j bi bj hij hi hj li lj hr a a' ha ha'
    rcases getElem?_append_one hi with ⟨h1, _⟩ | ⟨rfl, rfl⟩ <;> rcases getElem?_append_one hj with ⟨h2, _⟩ | ⟨rfl, rfl⟩
    · rw [upd_other _ _ (hne h1)] at ha
      rw [upd_other _ _ (hne h2)] at ha'
      exact h.sep i j bi bj hij h1 h2 li lj hr a a' ha ha'
    · rw [upd_other _ _ (hne h1)] at ha
      rw [upd_same] at ha'
      have := ((h.blk i bi h1 li).lt a ha).2
      have := hnw ha'
      omega
    · rw [upd_other _ _ (hne h2)] at ha'
      rw [upd_same] at ha
      have := ((h.blk j bj h2 lj).lt a' ha').2
      have := hnw ha
      omega
    · exact absurd rfl hij
  · intro i b hb' hl' hr a ha
    rcases getElem?_append_one hb' with ⟨h1, _⟩ | ⟨rfl, rfl⟩
    · rw [upd_other _ _ (hne h1)] at ha
      exact h.own i b h1 hl' hr a ha
    · rw [upd_same] at ha
      rcases hadr with ⟨h1, _⟩ | ⟨g, cur, h1, hg, _⟩
      · rw [h1] at ha
        cases ha
      · rw [h1] at ha
        injection ha with ha
        subst ha
        exact C.all _ (Nat.le_trans h.size hg)
  · refine ⟨by rw [upd_same]; exact hon, ?_⟩
    rw [upd_same]
    exact hsl
end Go.Proofs.Ytdepnhnpklbmiaa
