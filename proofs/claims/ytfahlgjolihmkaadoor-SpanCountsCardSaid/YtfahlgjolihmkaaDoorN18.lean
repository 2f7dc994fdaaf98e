/- How many spans a set that is made of two needs at most, and when two such sets are the same. -/
import Derived.Test.YtfahlgjolihmkaaDoorN14
import Derived.Test.YtfahlgjolihmkaaDoorN6
import Derived.Test.YtfahlgjolihmkaaDoorV3
import Derived.Test.YtfahlgjolihmkaaDoorZ5
namespace Go.Proofs.YtfahlgjolihmkaaDoor

theorem sub_length : ∀ {l m : List Int}, l.Nodup → (∀ x ∈ l, x ∈ m) → l.length ≤ m.length
  | [], _, _, _ => by simp
  | a :: l, m, hn, h => by
    obtain ⟨h1, h2⟩ := List.nodup_cons.1 hn
    have ha := h a (by simp)
    have := sub_length (m := m.erase a) h2 fun x hx => (List.mem_erase_of_ne (fun e => h1 (by rw [← e]; exact hx))).2 (h x (by simp [hx]))
    rw [List.length_erase_of_mem ha] at this
    have hp : 0 < m.length := List.length_pos_of_mem ha
    simp only [List.length_cons]
    omega
theorem starts_nodup {xs : List Sp} (h : Canon xs) : (xs.map (·.1)).Nodup := by
  unfold List.Nodup
  rw [List.pairwise_map]
  exact (canon_asc h).imp fun {s t} hst e => by omega
theorem start_mem {xs : List Sp} {z : Int} (h1 : memS xs z) (h2 : ¬ memS xs (z - 1)) : z ∈ xs.map (·.1) := by
  obtain ⟨s, hs, p, q⟩ := h1
  refine List.mem_map.2 ⟨s, hs, ?_⟩
  rcases ltOrLe s.1 z with h | h
  · exact absurd ⟨s, hs, by omega, by omega⟩ h2
  · omega
theorem end_mem {xs : List Sp} {z : Int} (h1 : ¬ memS xs z) (h2 : memS xs (z - 1)) : z ∈ xs.map (·.2) := by
  obtain ⟨s, hs, p, q⟩ := h2
  refine List.mem_map.2 ⟨s, hs, ?_⟩
  rcases ltOrLe z s.2 with h | h
  · exact absurd ⟨s, hs, by omega, h⟩ h1
  · omega
theorem start_of {xs : List Sp} (h : Canon xs) {z : Int} (hz : z ∈ xs.map (·.1)) : memS xs z ∧ ¬ memS xs (z - 1) := by
  obtain ⟨s, hs, rfl⟩ := List.mem_map.1 hz
  exact ⟨⟨s, hs, Int.le_refl _, h.1 s hs⟩, (canon_gap h hs).1⟩
theorem len_le {xs : List Sp} {m : List Int} (h : Canon xs) (hm : ∀ z, memS xs z → ¬ memS xs (z - 1) → z ∈ m) : xs.length ≤ m.length := by
  have := sub_length (starts_nodup h) fun z hz => hm z (start_of h hz).1 (start_of h hz).2
  simpa using this
theorem inF {xs : List Sp} {z : Int} : inB xs z = false ↔ ¬ memS xs z := by
  rw [← inB_mem]
  simp

theorem or_length {xs ys : List Sp} (hx : SetS xs) (hy : SetS ys) : (combL (fun p q => p || q) xs ys).length ≤ xs.length + ys.length := by
  obtain ⟨h1, h2, _⟩ := combL_spec (fun p q => p || q) hx hy
  have := len_le (m := xs.map (·.1) ++ ys.map (·.1)) h1.1 fun z hz hz1 => by
    obtain ⟨p, q, r⟩ := (h2 z).1 hz
    have hn : ¬ memS xs (z - 1) ∧ ¬ memS ys (z - 1) := by
      refine ⟨fun h => hz1 ?_, fun h => hz1 ?_⟩
      · have := hx.mem ((inB_mem _ _).2 h)
        exact (h2 _).2 ⟨this.1, this.2, by simp [(inB_mem _ _).2 h]⟩
      · have := hy.mem ((inB_mem _ _).2 h)
        exact (h2 _).2 ⟨this.1, this.2, by simp [(inB_mem _ _).2 h]⟩
    rw [List.mem_append]
    simp only [Bool.or_eq_true] at r
    rcases r with r | r
    · exact .inl (start_mem ((inB_mem _ _).1 r) hn.1)
    · exact .inr (start_mem ((inB_mem _ _).1 r) hn.2)
  simpa using this
theorem and_length {xs ys : List Sp} (hx : SetS xs) (hy : SetS ys) : (combL (fun p q => p && q) xs ys).length ≤ xs.length + ys.length := by
  obtain ⟨h1, h2, _⟩ := combL_spec (fun p q => p && q) hx hy
  have := len_le (m := xs.map (·.1) ++ ys.map (·.1)) h1.1 fun z hz hz1 => by
    obtain ⟨p, q, r⟩ := (h2 z).1 hz
    simp only [Bool.and_eq_true] at r
    rw [List.mem_append]
    by_cases h : memS xs (z - 1)
    · by_cases h' : memS ys (z - 1)
      · have := hx.mem ((inB_mem _ _).2 h)
        exact absurd ((h2 _).2 ⟨this.1, this.2, by simp [(inB_mem _ _).2 h, (inB_mem _ _).2 h']⟩) hz1
      · exact .inr (start_mem ((inB_mem _ _).1 r.2) h')
    · exact .inl (start_mem ((inB_mem _ _).1 r.1) h)
  simpa using this
theorem sub_length2 {xs ys : List Sp} (hx : SetS xs) (hy : SetS ys) : (combL (fun p q => p && !q) xs ys).length ≤ xs.length + ys.length := by
  obtain ⟨h1, h2, _⟩ := combL_spec (fun p q => p && !q) hx hy
  have := len_le (m := xs.map (·.1) ++ ys.map (·.2)) h1.1 fun z hz hz1 => by
    obtain ⟨p, q, r⟩ := (h2 z).1 hz
    simp only [Bool.and_eq_true, Bool.not_eq_true'] at r
    rw [List.mem_append]
    by_cases h : memS xs (z - 1)
    · by_cases h' : memS ys (z - 1)
      · exact .inr (end_mem (inF.1 r.2) h')
      · have := hx.mem ((inB_mem _ _).2 h)
        exact absurd ((h2 _).2 ⟨this.1, this.2, by simp [(inB_mem _ _).2 h, inF.2 h']⟩) hz1
    · exact .inl (start_mem ((inB_mem _ _).1 r.1) h)
  simpa using this
theorem not_length {xs : List Sp} (hx : SetS xs) : (combL (fun p _ => !p) xs []).length ≤ xs.length + 1 := by
  obtain ⟨h1, h2, _⟩ := combL_spec (fun p _ => !p) hx ⟨Canon.nil, by simp⟩
  have := len_le (m := (-1099511627776) :: xs.map (·.2)) h1.1 fun z hz hz1 => by
    obtain ⟨p, q, r⟩ := (h2 z).1 hz
    simp only [Bool.not_eq_true'] at r
    rw [List.mem_cons]
    by_cases h : memS xs (z - 1)
    · exact .inr (end_mem (inF.1 r) h)
    · rcases ltOrLe (z - 1) (-1099511627776) with h3 | h3
      · exact .inl (by omega)
      · exact absurd ((h2 _).2 ⟨h3, by omega, by simp [inF.2 h]⟩) hz1
  simpa using this

/-- is z within the whole? -/
def wholeP (z : Int) : Prop := -1099511627776 ≤ z ∧ z < 1099511627776
theorem inB_comb (keep : Bool → Bool → Bool) {xs ys : List Sp} (hx : SetS xs) (hy : SetS ys) {z : Int} (hz : wholeP z) : inB (combL keep xs ys) z = keep (inB xs z) (inB ys z) := by
  rw [Bool.eq_iff_iff, inB_mem, (combL_spec keep hx hy).2.1 z]
  exact ⟨fun h => h.2.2, fun h => ⟨hz.1, hz.2, h⟩⟩
theorem set_ext {xs ys : List Sp} (hx : SetS xs) (hy : SetS ys) (h : ∀ z, wholeP z → inB xs z = inB ys z) : xs = ys :=
  canon_ext hx.1 hy.1 fun z => by
    rw [← inB_mem, ← inB_mem]
    constructor
    · intro hz; rw [← h z (hx.mem hz)]; exact hz
    · intro hz; rw [h z (hy.mem hz)]; exact hz
theorem comb_set (keep : Bool → Bool → Bool) {xs ys : List Sp} (hx : SetS xs) (hy : SetS ys) : SetS (combL keep xs ys) := (combL_spec keep hx hy).1
theorem nil_SetS : SetS [] := ⟨Canon.nil, by simp⟩

/-- where the answer fits -/
theorem com_fits {keep : Bool → Bool → Bool} {xs ys : List Sp} (hx : SetS xs) (hy : SetS ys) (lx : xs.length ≤ 128) (ly : ys.length ≤ 128) (h : (combL keep xs ys).length ≤ 128) : comE keep xs ys = 0 ∧ comV keep xs ys = combL keep xs ys := by
  unfold comE comV
  rw [set_setB hx lx, set_setB hy ly]
  exact ⟨by simp [h], by simp [h]⟩
theorem com_full {keep : Bool → Bool → Bool} {xs ys : List Sp} (hx : SetS xs) (hy : SetS ys) (lx : xs.length ≤ 128) (ly : ys.length ≤ 128) (h : ¬ (combL keep xs ys).length ≤ 128) : comE keep xs ys = 8 ∧ comV keep xs ys = [] := by
  unfold comE comV
  rw [set_setB hx lx, set_setB hy ly]
  exact ⟨by simp [h], by simp [h]⟩

end Go.Proofs.YtfahlgjolihmkaaDoor

/- Contracts of the laws' own helpers: sets, or, and, not, has, within. -/
namespace Go.Proofs.YtfahlgjolihmkaaDoor
open Go.RowKit Go.Sort

/-- what a helper hands back: a list of spans in new memory -/
def SpsPost (w : World) (ys : List Sp) (e : Ending) (w' : World) : Prop := ∃ a c, e = .returned (.slice a ys.length c) ∧ SpansAt w'.heap.size w' a ys.length ys ∧ Below w.heap.size w w'
/-- .. and whether it is all right -/
def PairPost (w : World) (ys : List Sp) (ok : Bool) (e : Ending) (w' : World) : Prop := ∃ a c, e = .returned (.tuple #[.slice a ys.length c, .bool ok]) ∧ SpansAt w'.heap.size w' a ys.length ys ∧ Below w.heap.size w w'

theorem OwnS.append2 {w W w1 : World} {a a' : Option Addr} {c c' N : Nat} {out : List Sp} {lo hi : Int} {t : Obj} (h : OwnS w W a c N out)
    (ho : w1.ownsRow w.heap.size 41 2 (.slice a' (N + 1) c') (N + 1) (flat out ++ [.int .i64 lo, .int .i64 hi])) (hg : (W.alloc t).grownBy w1 (Value.slice a N c).ownBlock) :
    OwnS w w1 a' c' (N + 1) (out ++ [(lo, hi)]) := by
  refine ⟨by rw [List.length_append, h.1]; rfl, by rw [flat_append]; exact ho, ?_⟩
  have hb := h.2.2
  have hb2 := hb.alloc hb.size t
  exact hb2.grown hg (by have := hb2.size; exact this) (fun k e => (h.2.1.lt k e).1)

set_option maxHeartbeats 4000000 in
set_option maxRecDepth 100000 in
theorem sets_any (A : Option Addr) (n cap : Nat) (xs : List Sp) (w : World) (hx : SpansAt w.heap.size w A n xs) (hn : n ≤ maxLen) :
    Calls Tryd.prog 12 #[.slice A n cap] w fun e w' => ∃ zs, SetS zs ∧ zs.length ≤ 60 ∧ SpsPost w zs e w' := by
  have mixed := mixedOrders
  obtain ⟨i0, hi0, hz0, hz1, hz2⟩ := info_parts info42
  have HX := hide hx
  have hn2 : (n : Int) ≤ 9223372036854775807 := by unfold maxLen at hn; omega
  clear hx hn
  go_enter Tryd.func12, Tryd.ntmps12
  go_wp2
  go_loopw [3, 4] (fun vo vi wr => ∃ (k : Nat) (a : Option Addr) (c N : Nat) (out : List Sp), k ≤ n ∧ vi = .int .i64 k ∧ vo = .slice a N c ∧ N ≤ 60 ∧ Hid (∀ s ∈ out, okB s.1 s.2 = true) ∧ Hid (OwnS w wr a c N out)) (fun _ vi _ => n - (intOf vi).toNat)
  case atStart => exact ⟨0, none, 0, 0, [], Nat.zero_le _, rfl, rfl, Nat.zero_le _, by simp [Hid], OwnS.nil w⟩
  case round =>
    obtain ⟨k, a, c, N, out, hk, rfl, rfl, hN, HR, HO⟩ := hrel
    by_cases hlt : k < n
    · have hlt' : (k : Int) < (n : Int) := by omega
      have hd0 : decide ((k : Int) < (n : Int)) = true := decide_eq_true hlt'
      by_cases h60 : N < 60
      · have h60' : (N : Int) < 60 := by omega
        have hd1 : decide ((N : Int) < 60) = true := decide_eq_true h60'
        obtain ⟨b, off, rfl, hb, c0, c1⟩ := HX.out.at_ hlt
        have e0 := (HO.out.2.2.cell (p := ⟨b, off + k * 2, none⟩) hb).trans c0
        have e1 := (HO.out.2.2.cell (p := ⟨b, off + k * 2 + 1, none⟩) hb).trans c1
        clear c0 c1
        generalize loA xs k = x at e0
        generalize hiA xs k = y at e1
        have E0 : ∀ nq, (wr.drewN nq).cell? ⟨b, off + k * 2, none⟩ = some (.int .i64 x) := fun _ => e0
        have E1 : ∀ nq, (wr.drewN nq).cell? ⟨b, off + k * 2 + 1, none⟩ = some (.int .i64 y) := fun _ => e1
        have HE0 := hide e0
        have HE1 := hide e1
        clear e0 e1
        by_cases h1 : -1099511627776 ≤ x
        · have g1 : decide (-1099511627776 ≤ x) = true := decide_eq_true h1
          by_cases h2 : x < y
          · have g2 : decide (x < y) = true := decide_eq_true h2
            by_cases h3 : y ≤ 1099511627776
            · as_aux_lemma =>
              have g3 : decide (y ≤ 1099511627776) = true := decide_eq_true h3
              have HR2 : Hid (∀ s ∈ out ++ [(x, y)], okB s.1 s.2 = true) := fun s hs => by
                rcases List.mem_append.1 hs with hs | hs
                · exact HR.out s hs
                · rw [List.mem_singleton.1 hs]; exact okB_mk ⟨h1, h2, h3⟩
              clear h1 h2 h3
              go_wp2_with fail
              go_quiet (fail)
              have HO3 := hide (HO.out.below (drewN_below wr nq))
              have f0 := E0 nq
              have f1 := E1 nq
              clear E0 E1 HE0 HE1 g1 g2 g3
              generalize wr.drewN nq = W2 at HO3 f0 f1 ⊢
              have HB1 : Hid (N + 1 ≤ maxLen) := by show _ ≤ _; unfold maxLen; omega
              have HB2 : Hid ((N + 1) * 16 ≤ 140737488355328) := by show _ ≤ _; omega
              have HB3 : Hid (w.heap.size ≤ (W2.alloc (.cells #[.int .i64 x, .int .i64 y] 41)).heap.size) := by show _ ≤ _; have := HO3.out.2.2.size; simp; omega
              go_wp2_with (at_builtin; refine wpList_append_own_at _ rfl (.tmp 45) (.tmp 50) _ rfl w.heap.size 41 i0 (.agg #[.int .i64 0, .int .i64 0]) 2 16 Tryd.underlying22 hi0 hz0 hz1 hz2 rfl (by decide) _ _ _ rfl (HO3.out.2.1.alloc _) ⟨W2.heap.size, 0, none⟩ 1 1 [.int .i64 x, .int .i64 y] rfl rfl (cell_two_new _ _ _ _) (by simp [Value.oneCell']) HB1.out HB2.out HB3.out ?_; intro v5 w5 hown5 hgrow5 hnil5 hat5; obtain ⟨a5, c5, rfl⟩ := own_slice hown5)
              have HO5 := hide (HO3.out.append2 hown5 hgrow5)
              clear hown5 hgrow5 hnil5 hat5
              go_roundw
              case rel => exact ⟨k + 1, a5, c5, N + 1, out ++ [(x, y)], by omega, by go_num, rfl, by omega, HR2, HO5⟩
              case measure => simp [intOf]; omega
            · as_aux_lemma =>
              have g3 : decide (y ≤ 1099511627776) = false := decide_eq_false h3
              go_wp2_with fail
              go_quiet (fail)
              have HO3 := hide (HO.out.below (drewN_below wr nq))
              go_wp2
              go_roundw
              case rel => exact ⟨k + 1, a, c, N, out, by omega, by go_num, rfl, hN, HR, HO3⟩
              case measure => simp [intOf]; omega
          · as_aux_lemma =>
            have g2 : decide (x < y) = false := decide_eq_false h2
            go_wp2_with fail
            go_quiet (fail)
            have HO3 := hide (HO.out.below (drewN_below wr nq))
            go_wp2
            go_roundw
            case rel => exact ⟨k + 1, a, c, N, out, by omega, by go_num, rfl, hN, HR, HO3⟩
            case measure => simp [intOf]; omega
        · as_aux_lemma =>
          have g1 : decide (-1099511627776 ≤ x) = false := decide_eq_false h1
          go_wp2_with fail
          go_quiet (fail)
          have HO3 := hide (HO.out.below (drewN_below wr nq))
          go_wp2
          go_roundw
          case rel => exact ⟨k + 1, a, c, N, out, by omega, by go_num, rfl, hN, HR, HO3⟩
          case measure => simp [intOf]; omega
      · have h60' : ¬ (N : Int) < 60 := by omega
        have hd1 : decide ((N : Int) < 60) = false := decide_eq_false h60'
        go_wp2_with fail
        refine (ofAll_any a N c out wr (spans_of_own HO.out.2.1 HO.out.1)).mono ?_
        rintro e w2 ⟨a2, c2, rfl, ho, hb⟩
        have HO2 := hide (spans_of_own ho rfl)
        have HB2 := hide (HO.out.2.2.trans (hb.mono HO.out.2.2.size))
        have HL : Hid ((ofV out).length ≤ 60) := by have h1 := ofV_length out; have h2 := HO.out.1; show (ofV out).length ≤ 60; omega
        have HS := hide (ofV_set out)
        clear ho hb
        generalize ofV out = zs at HO2 HL HS ⊢
        generalize checkE out = ce
        go_wp2
        go_ret
        exact ⟨zs, HS.out, HL.out, a2, c2, rfl, HO2.out, HB2.out⟩
    · have hlt' : ¬ (k : Int) < (n : Int) := by omega
      have hd0 : decide ((k : Int) < (n : Int)) = false := decide_eq_false hlt'
      go_wp2_with fail
      refine (ofAll_any a N c out wr (spans_of_own HO.out.2.1 HO.out.1)).mono ?_
      rintro e w2 ⟨a2, c2, rfl, ho, hb⟩
      have HO2 := hide (spans_of_own ho rfl)
      have HB2 := hide (HO.out.2.2.trans (hb.mono HO.out.2.2.size))
      have HL : Hid ((ofV out).length ≤ 60) := by have h1 := ofV_length out; have h2 := HO.out.1; show (ofV out).length ≤ 60; omega
      have HS := hide (ofV_set out)
      clear ho hb
      generalize ofV out = zs at HO2 HL HS ⊢
      generalize checkE out = ce
      go_wp2
      go_ret
      exact ⟨zs, HS.out, HL.out, a2, c2, rfl, HO2.out, HB2.out⟩

set_option maxHeartbeats 1000000 in
theorem has_any (A : Option Addr) (n cap : Nat) (x : Int) (xs : List Sp) (w : World) (hx : SpansAt w.heap.size w A n xs) (hs : setB xs = true) :
    Calls Tryd.prog 18 #[.slice A n cap, .int .i64 x] w fun e w' => e = .returned (.bool (inB xs x)) ∧ Gr w w' := by
  have HC := Has_any A n cap x xs w hx
  unfold hasV at HC
  rw [hs] at HC
  simp only [Bool.true_and, if_true] at HC
  have HC2 := hide HC
  clear hx HC hs
  generalize inB xs x = bb at HC2 ⊢
  cases bb
  all_goals
    go_enter Tryd.func18, Tryd.ntmps18
    go_wp2_with fail
    refine HC2.out.mono ?_
    rintro e w2 ⟨rfl, hG⟩
    have HG := hide hG
    clear hG HC2
    go_wp2
    go_ret
    exact ⟨rfl, HG.out⟩

/-- is every number of the one in the other? -/
def inAll (xs ys : List Sp) : Bool := decide ((combL (fun p q => p && !q) xs ys).length = 0)
theorem inAll_iff {xs ys : List Sp} (hx : SetS xs) (hy : SetS ys) : inAll xs ys = true ↔ ∀ z, memS xs z → memS ys z := by
  obtain ⟨h1, h2, _⟩ := combL_spec (fun p q => p && !q) hx hy
  unfold inAll
  rw [decide_eq_true_eq, List.length_eq_zero_iff]
  constructor
  · intro h z hz
    have hw := hx.mem ((inB_mem _ _).2 hz)
    apply Classical.byContradiction
    intro hn
    have := (h2 z).2 ⟨hw.1, hw.2, by simp [(inB_mem _ _).2 hz, inF.2 hn]⟩
    rw [h] at this
    exact memS_nil z this
  · intro h
    refine canon_ext h1.1 Canon.nil fun z => ⟨fun hz => ?_, fun hz => absurd hz (memS_nil z)⟩
    obtain ⟨_, _, r⟩ := (h2 z).1 hz
    simp only [Bool.and_eq_true, Bool.not_eq_true'] at r
    exact absurd (h z ((inB_mem _ _).1 r.1)) (inF.1 r.2)

end Go.Proofs.YtfahlgjolihmkaaDoor

/- Growing and shrinking are adjoint, and two tolerances act like their sum. -/
namespace Go.Proofs.YtfahlgjolihmkaaDoor

theorem adjoint {xs ys : List Sp} (hx : SetS xs) (hy : SetS ys) {r : Int} (hr : 0 ≤ r) : inAll (resTo (growF r) xs) ys = inAll xs (resTo (shrinkF r) ys) := by
  obtain ⟨g1, g2⟩ := grow_spec hx hr
  obtain ⟨s1, s2⟩ := shrink_spec hy hr
  rw [Bool.eq_iff_iff, inAll_iff g1 hy, inAll_iff hx s1]
  constructor
  · intro h y hm
    have hw := hx.mem ((inB_mem _ _).2 hm)
    exact (s2 y).2 ⟨hw.1, hw.2, fun z z1 z2 z3 z4 => h z ((g2 z).2 ⟨z1, z2, y, hm, by omega, by omega⟩)⟩
  · intro h z hz
    obtain ⟨z1, z2, y, hm, z3, z4⟩ := (g2 z).1 hz
    obtain ⟨_, _, hall⟩ := (s2 y).1 (h y hm)
    exact hall z z1 z2 (by omega) (by omega)
/-- a number between two others, near both -/
theorem between (z x r q : Int) (hr : 0 ≤ r) (hq : 0 ≤ q) (h1 : z - (r + q) ≤ x) (h2 : x ≤ z + (r + q)) : ∃ y, (z - q ≤ y ∧ y ≤ z + q) ∧ (y - r ≤ x ∧ x ≤ y + r) ∧ (min z x ≤ y ∧ y ≤ max z x) := by
  rcases ltOrLe z x with h | h
  · exact ⟨min x (z + q), by omega, by omega, by omega⟩
  · exact ⟨max x (z - q), by omega, by omega, by omega⟩
theorem grow_twice {xs : List Sp} (hx : SetS xs) {r q : Int} (hr : 0 ≤ r) (hq : 0 ≤ q) : resTo (growF q) (resTo (growF r) xs) = resTo (growF (r + q)) xs := by
  obtain ⟨g1, g2⟩ := grow_spec hx hr
  obtain ⟨h1, h2⟩ := grow_spec g1 hq
  obtain ⟨k1, k2⟩ := grow_spec hx (show 0 ≤ r + q by omega)
  refine canon_ext h1.1 k1.1 fun z => ?_
  rw [h2 z, k2 z]
  refine and_congr_right fun z1 => and_congr_right fun z2 => ?_
  constructor
  · rintro ⟨y, hy, y1, y2⟩
    obtain ⟨_, _, x, hx', x1, x2⟩ := (g2 y).1 hy
    exact ⟨x, hx', by omega, by omega⟩
  · rintro ⟨x, hx', x1, x2⟩
    have hw := hx.mem ((inB_mem _ _).2 hx')
    obtain ⟨y, ⟨y1, y2⟩, ⟨y3, y4⟩, y5, y6⟩ := between z x r q hr hq (by omega) (by omega)
    exact ⟨y, (g2 y).2 ⟨by omega, by omega, x, hx', y3, y4⟩, y1, y2⟩
theorem shrink_twice {xs : List Sp} (hx : SetS xs) {r q : Int} (hr : 0 ≤ r) (hq : 0 ≤ q) : resTo (shrinkF q) (resTo (shrinkF r) xs) = resTo (shrinkF (r + q)) xs := by
  obtain ⟨g1, g2⟩ := shrink_spec hx hr
  obtain ⟨h1, h2⟩ := shrink_spec g1 hq
  obtain ⟨k1, k2⟩ := shrink_spec hx (show 0 ≤ r + q by omega)
  refine canon_ext h1.1 k1.1 fun z => ?_
  rw [h2 z, k2 z]
  refine and_congr_right fun z1 => and_congr_right fun z2 => ?_
  constructor
  · intro hall x w1 w2 x1 x2
    obtain ⟨y, ⟨y1, y2⟩, ⟨y3, y4⟩, y5, y6⟩ := between z x r q hr hq (by omega) (by omega)
    exact ((g2 y).1 (hall y (by omega) (by omega) y1 y2)).2.2 x w1 w2 y3 y4
  · intro hall y w1 w2 y1 y2
    exact (g2 y).2 ⟨w1, w2, fun x v1 v2 x1 x2 => hall x v1 v2 (by omega) (by omega)⟩
theorem tol_good {xs : List Sp} (hx : SetS xs) (hl : xs.length ≤ 128) {r : Int} (hr : 0 ≤ r ∧ r ≤ 1099511627776) (f : Sp → Sp) : tolE xs r = 0 ∧ tolV f xs r = resTo f xs := by
  have h : tolB xs r = true := by unfold tolB; rw [set_setB hx hl, decide_eq_true hr]; rfl
  unfold tolE tolV
  rw [h]
  exact ⟨rfl, rfl⟩
theorem tol_bad {xs : List Sp} {r : Int} (hr : ¬ (0 ≤ r ∧ r ≤ 1099511627776)) (f : Sp → Sp) : tolE xs r = 2 ∧ tolV f xs r = [] := by
  have h : tolB xs r = false := by unfold tolB; rw [decide_eq_false hr]; simp
  unfold tolE tolV
  rw [h]
  exact ⟨rfl, rfl⟩

end Go.Proofs.YtfahlgjolihmkaaDoor
