/- The specification's Levels, Follow, Included. -/
import Derived.Test.YtbinmkigolkhcaaDoorHY
import Derived.Test.YtbinmkigolkhcaaDoorPS
set_option linter.unusedSimpArgs false
set_option linter.unusedVariables false
namespace Go.Proofs.YtbinmkigolkhcaaDoor
open Go.RowKit Go.Sort
attribute [local go_sem] Oper.semAt_some

theorem info23z : (Tryd.prog.info? 23).map (fun i => (i.zero, i.size, i.bytes)) = some (some (.slice none 0 0), 1, 24) := by kernel_rfl
/-- the byte string of a level -/
def levF (l : List UInt8) (ss : List St) : Nat → List UInt8
  | 0 => leafB l
  | i + 1 => stepB (followV l (ss.take i)) (stH ss i, stL ss i)
def levsV (l : List UInt8) (ss : List St) : Nat → List (List UInt8)
  | 0 => []
  | k + 1 => levsV l ss k ++ [levF l ss k]
theorem levs_length (l : List UInt8) (ss : List St) : ∀ k, (levsV l ss k).length = k
  | 0 => rfl
  | k + 1 => by rw [levsV, List.length_append, levs_length l ss k]; rfl
theorem levs_get (l : List UInt8) (ss : List St) : ∀ (k i : Nat), i < k → (levsV l ss k).getD i [] = levF l ss i
  | 0, i, h => by omega
  | k + 1, i, h => by
    rw [levsV, List.getD_eq_getElem?_getD]
    rcases Nat.lt_or_ge i k with h1 | h1
    · rw [List.getElem?_append_left (by rw [levs_length]; exact h1), ← List.getD_eq_getElem?_getD, levs_get l ss k i h1]
    · obtain rfl : i = k := by omega
      rw [List.getElem?_append_right (by rw [levs_length]; exact Nat.le_refl _), levs_length, Nat.sub_self]
      rfl
theorem mix_lev (l : List UInt8) (ss : List St) : ∀ i, i ≤ ss.length → mixV (levF l ss i) = followV l (ss.take i)
  | 0, _ => rfl
  | i + 1, h => (follow_take (by omega)).symm
theorem levF_length {l : List UInt8} {ss : List St} {k : Nat} (hl : l.length ≤ k) (hk : 17 ≤ k) : ∀ i, (levF l ss i).length ≤ k + 1
  | 0 => by
    show (leafB l).length ≤ _
    unfold leafB
    rw [List.length_cons]
    omega
  | i + 1 => by
    show (stepB _ _).length ≤ _
    rw [stepB_length]
    omega
/-- one byte string in memory of its own -/
def EntL (w : World) (v : Value) (l : List UInt8) : Prop := ∃ a c, v = .slice a l.length c ∧ l.length ≤ 100000 ∧ w.ownsRow 0 5 1 (.slice a l.length c) l.length (cellsB l)
def EachL (w : World) : List Value → List (List UInt8) → Prop
  | [], [] => True
  | v :: vs, l :: ls => EntL w v l ∧ EachL w vs ls
  | _, _ => False
theorem EntL.kept {w w' : World} {v : Value} {l : List UInt8} (h : EntL w v l) (hk : Keeps5 w w') : EntL w' v l := by
  obtain ⟨a, c, rfl, h1, h2⟩ := h
  refine ⟨a, c, rfl, h1, own_same h2 fun k hb => ?_⟩
  obtain ⟨cur, hc⟩ := own_block h2 hb
  rw [hc]
  exact hk k cur hc
theorem EachL.kept {w w' : World} (hk : Keeps5 w w') : ∀ {vs : List Value} {ls : List (List UInt8)}, EachL w vs ls → EachL w' vs ls
  | [], [], _ => trivial
  | v :: vs, l :: ls, h => ⟨h.1.kept hk, EachL.kept hk h.2⟩
  | [], _ :: _, h => h.elim
  | _ :: _, [], h => h.elim
theorem EachL.snoc {w : World} {v : Value} {l : List UInt8} (hv : EntL w v l) : ∀ {vs : List Value} {ls : List (List UInt8)}, EachL w vs ls → EachL w (vs ++ [v]) (ls ++ [l])
  | [], [], _ => ⟨hv, trivial⟩
  | u :: vs, m :: ls, h => ⟨h.1, EachL.snoc hv h.2⟩
  | [], _ :: _, h => h.elim
  | _ :: _, [], h => h.elim
theorem EachL.at_ {w : World} : ∀ {vs : List Value} {ls : List (List UInt8)}, EachL w vs ls → ∀ i, i < ls.length → ∃ v, vs[i]? = some v ∧ EntL w v (ls.getD i [])
  | [], [], _, i, h => by simp at h
  | v :: vs, l :: ls, h, 0, _ => ⟨v, rfl, h.1⟩
  | v :: vs, l :: ls, h, i + 1, hi => EachL.at_ h.2 i (by simpa using hi)
  | [], _ :: _, h, _, _ => h.elim
  | _ :: _, [], h, _, _ => h.elim
theorem keeps_below {w w' : World} (hb : Below w.heap.size w w') : Keeps5 w w' := fun k cur hc => (hb.block k (Array.getElem?_eq_some_iff.1 hc).1).trans hc
/-- a list of byte strings of the call's own -/
def OwnLists (base : Nat) (w : World) (a : Option Addr) (n c : Nat) (ls : List (List UInt8)) : Prop := ls.length = n ∧ ∃ vs, w.ownsRow base 23 1 (.slice a n c) n vs ∧ EachL w vs ls
theorem OwnLists.later {base : Nat} {w w' : World} {a : Option Addr} {n c : Nat} {ls : List (List UInt8)} (h : OwnLists base w a n c ls) (hb : Below w.heap.size w w') : OwnLists base w' a n c ls := by
  obtain ⟨h1, vs, h2, h3⟩ := h
  exact ⟨h1, vs, own_keep h2 hb (Nat.le_refl _), h3.kept (keeps_below hb)⟩
theorem OwnLists.at_ {base : Nat} {w : World} {a : Option Addr} {n c i : Nat} {ls : List (List UInt8)} (h : OwnLists base w a n c ls) (hi : i < n) :
    ∃ g Ai ci, a = some ⟨g, 0, none⟩ ∧ base ≤ g ∧ g < w.heap.size ∧ w.cell? ⟨g, i, none⟩ = some (.slice Ai (ls.getD i []).length ci) ∧ BytesAt w.heap.size w Ai (ls.getD i []).length (ls.getD i []) ∧ (ls.getD i []).length ≤ 100000 := by
  obtain ⟨h1, vs, h2, h3⟩ := h
  rcases h2.2 with ⟨_, h0⟩ | ⟨g, cap, cur, hv, hb, hg, _⟩
  · omega
  · injection hv with e1 e2 e3
    subst e1
    obtain ⟨v, hv, a, c, rfl, hn, hr⟩ := h3.at_ i (by omega)
    have c0 := h2.cells (g := g) rfl i _ hv
    rw [add_here, Nat.zero_add] at c0
    exact ⟨g, a, c, rfl, hb, (Array.getElem?_eq_some_iff.1 hg).1, c0, bytes_of_own hr, hn⟩
/-- one byte string more: the list's row has grown, in the world where the element was laid -/
theorem OwnLists.grown {base : Nat} {w3 w5 : World} {a a2 b : Option Addr} {n c c2 d : Nat} {ls : List (List UInt8)} {l : List UInt8} {vs : List Value}
    (h1 : ls.length = n) (h3 : EachL w3 vs ls) (hn : EntL w3 (.slice b l.length d) l) (hr : w3.ownsRow base 23 1 (.slice a n c) n vs) (hg : w3.grownBy w5 (Value.slice a n c).ownBlock)
    (ho : w5.ownsRow base 23 1 (.slice a2 (n + 1) c2) (n + 1) (vs ++ [.slice b l.length d])) : OwnLists base w5 a2 (n + 1) c2 (ls ++ [l]) := by
  refine ⟨by rw [List.length_append, h1]; rfl, _, ho, EachL.snoc (hn.kept ?_) (h3.kept ?_)⟩
  · exact fun k cur hc => grown_keeps hr hg k cur 5 hc (by decide)
  · exact fun k cur hc => grown_keeps hr hg k cur 5 hc (by decide)

def LevelsPost (l : List UInt8) (ss : List St) (m : Nat) (w : World) (e : Ending) (w' : World) : Prop :=
  ∃ a c, e = .returned (.slice a (m + 1) c) ∧ OwnLists w.heap.size w' a (m + 1) c (levsV l ss (m + 1)) ∧ Below w.heap.size w w'

set_option maxHeartbeats 4000000 in
set_option maxRecDepth 100000 in
theorem Levels_any (A : Option Addr) (n cn : Nat) (l : List UInt8) (S : Option Addr) (m d : Nat) (ss : List St) (w : World) (hx : BytesAt w.heap.size w A n l) (hn : n ≤ 50000) (hs : StepsAt w.heap.size w S m ss) (hm : m ≤ 1000000) :
    Calls Tryd.prog 53 #[.slice A n cn, .slice S m d] w (LevelsPost l ss m w) := by
  have mixed := mixedOrders
  obtain ⟨i0, hi0, hz0, hz1, hz2⟩ := info_parts info23z
  have HL := hide (LeafBytes_any A n cn l w hx (by omega))
  have HS := hide hs
  have hlen := hs.1
  have HN := hide (show l.length = n ∧ n ≤ 50000 ∧ m ≤ 1000000 ∧ ss.length = m from ⟨hx.1, hn, hm, hlen⟩)
  clear hx hs hn hm hlen
  go_enter Tryd.func53, Tryd.ntmps53
  go_wp2_with fail
  refine HL.out.mono ?_
  rintro e w1 ⟨a1, c1, rfl, ho1, hb1⟩
  have HO1 : Hid (OwnLists w.heap.size (w1.alloc (.cells #[.slice a1 (n + 1) c1] 23)) (some ⟨w1.heap.size, 0, none⟩) (0 + 1) 1 (levsV l ss (0 + 1))) := by
    have e1 : (leafB l).length = n + 1 := by unfold leafB; rw [List.length_cons, HN.out.1]
    refine ⟨rfl, _, World.ownsRow_lit w1 #[.slice a1 (n + 1) c1] 1 hb1.size (by decide) rfl, ⟨⟨a1, c1, by show Value.slice a1 (n + 1) c1 = .slice a1 (leafB l).length c1; rw [e1], by show (leafB l).length ≤ 100000; rw [e1]; have := HN.out.2.1; omega, ?_⟩, trivial⟩⟩
    show (w1.alloc _).ownsRow 0 5 1 (.slice a1 (leafB l).length c1) (leafB l).length (cellsB (leafB l))
    rw [e1]
    exact (own_zero ho1).alloc _
  have HB1 := hide (hb1.alloc hb1.size (.cells #[.slice a1 (n + 1) c1] 23))
  clear ho1 hb1 HL
  go_wp2_with fail
  go_loopw [5, 6] (fun vo vi wr => ∃ (i : Nat) (a : Option Addr) (c : Nat), i ≤ m ∧ vi = .int .i64 i ∧ vo = .slice a (i + 1) c ∧ Hid (OwnLists w.heap.size wr a (i + 1) c (levsV l ss (i + 1)) ∧ Below w.heap.size w wr)) (fun _ vi _ => m - (intOf vi).toNat)
  case atStart => exact ⟨0, _, 1, Nat.zero_le _, rfl, rfl, HO1.out, HB1.out⟩
  case round =>
    obtain ⟨i, a, c, hi, rfl, rfl, HI⟩ := hrel
    by_cases hlt : i < m
    · have hlt' : (i : Int) < (m : Int) := by omega
      have hLi := levs_get l ss (i + 1) i (Nat.lt_succ_self i)
      obtain ⟨g, Ai, ci, rfl, hgb, hgl, cg, hBi, hni⟩ := HI.out.1.at_ (i := i) (Nat.lt_succ_self i)
      rw [hLi] at cg hBi hni
      obtain ⟨b, off, rfl, hb, c0, c1, hh⟩ := (HS.out.below HI.out.2).at_ hlt
      have HM := hide (refMix_any Ai _ ci _ wr hBi (by omega))
      have hmx := mix_lev l ss i (by have := HN.out.2.2.2; omega)
      have hfl := follow_lt l (ss.take i)
      have hnext : levF l ss (i + 1) = stepB (followV l (ss.take i)) (stH ss i, stL ss i) := rfl
      obtain ⟨f, hf⟩ : ∃ f, followV l (ss.take i) = f := ⟨_, rfl⟩
      rw [hf] at hmx hfl hnext
      rw [hmx] at HM
      obtain ⟨q, hq⟩ : ∃ q, (levF l ss i).length = q := ⟨_, rfl⟩
      rw [hq] at cg HM
      obtain ⟨x, hxx⟩ : ∃ x, stH ss i = x := ⟨_, rfl⟩
      obtain ⟨y, hyy⟩ : ∃ y, stL ss i = y := ⟨_, rfl⟩
      rw [hxx] at c0 hh hnext
      rw [hyy] at c1 hnext
      have HNX := hide hnext
      obtain ⟨-, vs, hvs, hev⟩ := HI.out.1
      have HVS := hide hvs
      have HEV := hide hev
      have HBW := hide HI.out.2
      have HLV := hide (show levsV l ss (i + 1 + 1) = levsV l ss (i + 1) ++ [levF l ss (i + 1)] from rfl)
      have HQ := hide (show i + 1 ≤ m ∧ i < m by omega)
      have hbb1 : i + 1 + 1 ≤ maxLen := by unfold maxLen; have := HN.out.2.2.1; omega
      have hbb2 : (i + 1 + 1) * 24 ≤ 140737488355328 := by have := HN.out.2.2.1; omega
      have g1 : (i : Int) < (i : Int) + 1 := by omega
      cases y
      · have HX : Hid (∀ w2, Calls Tryd.prog 61 #[.int .u64 f, .int .u64 x] w2 (RowP 17 (nodeB f x) w2)) := fun w2 => NodeBytes_any f x hfl hh w2
        have hst : stepB f (x, false) = nodeB f x := rfl
        rw [hst] at HNX
        clear hi hlt hLi hBi hni hmx hfl hnext hf hq hxx hyy hvs hev hh hst hgl hgb HI
        go_wp2_with fail
        refine HM.out.mono ?_
        rintro e w2 ⟨rfl, rfl⟩
        go_wp2_with fail
        refine (HX.out _).mono ?_
        rintro e w3 ⟨a3, c3, rfl, ho3, hb3⟩
        have HV3 : Hid (w3.ownsRow w.heap.size 23 1 (.slice (some ⟨g, 0, none⟩) (i + 1) c) (i + 1) vs) := own_keep HVS.out hb3 (Nat.le_refl _)
        have HE3 := hide (HEV.out.kept (keeps_below hb3))
        have HB3 := hide (HBW.out.trans (hb3.mono HBW.out.size))
        have hnl : (levF l ss (i + 1)).length = 17 := by rw [HNX.out]; exact stepB_length f (x, false)
        have HN3 : Hid (EntL (w3.alloc (.cells #[.slice a3 17 c3] 23)) (.slice a3 (levF l ss (i + 1)).length c3) (levF l ss (i + 1))) := by
          refine ⟨a3, c3, rfl, by rw [hnl]; decide, ?_⟩
          rw [hnl, HNX.out]
          exact (own_zero ho3).alloc _
        have HNL := hide hnl
        have hb4 : w.heap.size ≤ (w3.alloc (.cells #[.slice a3 17 c3] 23)).heap.size := by have := HB3.out.size; simp; omega
        clear ho3 hb3 hnl
        go_wp2_with (at_builtin; refine wpList_append_own_at _ rfl (.tmp 37) (.tmp 45) _ rfl w.heap.size 23 i0 (.slice none 0 0) 1 24 Tryd.underlying22 hi0 hz0 hz1 hz2 rfl (by decide) _ _ _ rfl (HV3.out.alloc _) ⟨w3.heap.size, 0, none⟩ 1 1 [.slice a3 17 c3] rfl rfl (cell_one_at _ _ rfl) (by simp [Value.oneCell']) hbb1 hbb2 hb4 ?_; intro v1 w5 hown1 hgrow1 hnil1 hat1)
        obtain ⟨a2, c2, rfl⟩ := own_slice hown1
        have hB5 := (HB3.out.alloc HB3.out.size (.cells #[.slice a3 17 c3] 23)).trans (below_own (HV3.out.alloc _) hgrow1 (Nat.le_refl _) hb4)
        have hO5 : OwnLists w.heap.size w5 a2 (i + 1 + 1) c2 (levsV l ss (i + 1 + 1)) := by
          rw [HLV.out]
          refine OwnLists.grown (levs_length l ss (i + 1)) (HE3.out.kept (keeps_below ((Below.refl _ w3).alloc (Nat.le_refl _) _))) HN3.out (HV3.out.alloc _) hgrow1 ?_
          rw [HNL.out]
          exact hown1
        have hqq := HQ.out
        refine ⟨⟨i + 1, a2, c2, by omega, by go_num, rfl, hO5, hB5⟩, by simp [intOf]; omega⟩
      · have HX : Hid (∀ w2, Calls Tryd.prog 61 #[.int .u64 x, .int .u64 f] w2 (RowP 17 (nodeB x f) w2)) := fun w2 => NodeBytes_any x f hh hfl w2
        have hst : stepB f (x, true) = nodeB x f := rfl
        rw [hst] at HNX
        clear hi hlt hLi hBi hni hmx hfl hnext hf hq hxx hyy hvs hev hh hst hgl hgb HI
        go_wp2_with fail
        refine HM.out.mono ?_
        rintro e w2 ⟨rfl, rfl⟩
        go_wp2_with fail
        refine (HX.out _).mono ?_
        rintro e w3 ⟨a3, c3, rfl, ho3, hb3⟩
        have HV3 : Hid (w3.ownsRow w.heap.size 23 1 (.slice (some ⟨g, 0, none⟩) (i + 1) c) (i + 1) vs) := own_keep HVS.out hb3 (Nat.le_refl _)
        have HE3 := hide (HEV.out.kept (keeps_below hb3))
        have HB3 := hide (HBW.out.trans (hb3.mono HBW.out.size))
        have hnl : (levF l ss (i + 1)).length = 17 := by rw [HNX.out]; exact stepB_length f (x, true)
        have HN3 : Hid (EntL (w3.alloc (.cells #[.slice a3 17 c3] 23)) (.slice a3 (levF l ss (i + 1)).length c3) (levF l ss (i + 1))) := by
          refine ⟨a3, c3, rfl, by rw [hnl]; decide, ?_⟩
          rw [hnl, HNX.out]
          exact (own_zero ho3).alloc _
        have HNL := hide hnl
        have hb4 : w.heap.size ≤ (w3.alloc (.cells #[.slice a3 17 c3] 23)).heap.size := by have := HB3.out.size; simp; omega
        clear ho3 hb3 hnl
        go_wp2_with (at_builtin; refine wpList_append_own_at _ rfl (.tmp 27) (.tmp 35) _ rfl w.heap.size 23 i0 (.slice none 0 0) 1 24 Tryd.underlying22 hi0 hz0 hz1 hz2 rfl (by decide) _ _ _ rfl (HV3.out.alloc _) ⟨w3.heap.size, 0, none⟩ 1 1 [.slice a3 17 c3] rfl rfl (cell_one_at _ _ rfl) (by simp [Value.oneCell']) hbb1 hbb2 hb4 ?_; intro v1 w5 hown1 hgrow1 hnil1 hat1)
        obtain ⟨a2, c2, rfl⟩ := own_slice hown1
        have hB5 := (HB3.out.alloc HB3.out.size (.cells #[.slice a3 17 c3] 23)).trans (below_own (HV3.out.alloc _) hgrow1 (Nat.le_refl _) hb4)
        have hO5 : OwnLists w.heap.size w5 a2 (i + 1 + 1) c2 (levsV l ss (i + 1 + 1)) := by
          rw [HLV.out]
          refine OwnLists.grown (levs_length l ss (i + 1)) (HE3.out.kept (keeps_below ((Below.refl _ w3).alloc (Nat.le_refl _) _))) HN3.out (HV3.out.alloc _) hgrow1 ?_
          rw [HNL.out]
          exact hown1
        have hqq := HQ.out
        refine ⟨⟨i + 1, a2, c2, by omega, by go_num, rfl, hO5, hB5⟩, by simp [intOf]; omega⟩
    · obtain rfl : i = m := by omega
      go_wp2_with fail
      go_ret
      exact ⟨a, c, rfl, HI.out.1, HI.out.2⟩

set_option maxHeartbeats 1000000 in
theorem refFollow_any (A : Option Addr) (n cn : Nat) (l : List UInt8) (S : Option Addr) (m d : Nat) (ss : List St) (w : World) (hx : BytesAt w.heap.size w A n l) (hn : n ≤ 50000) (hs : StepsAt w.heap.size w S m ss) (hm : m ≤ 1000000) :
    Calls Tryd.prog 35 #[.slice A n cn, .slice S m d] w fun e w' => e = .returned (.int .u64 (followV l ss : Nat)) ∧ Below w.heap.size w w' := by
  have HL := hide (Levels_any A n cn l S m d ss w hx hn hs hm)
  have hlen := hs.1
  have hmx := mix_lev l ss m (by omega)
  rw [← hlen, List.take_length, hlen] at hmx
  have HMX := hide hmx
  unfold LevelsPost at HL
  obtain ⟨p, hp⟩ : ∃ p, m + 1 = p := ⟨_, rfl⟩
  rw [hp] at HL
  have s1 : wrap64 ((p : Int) - 1) = (m : Int) := by rw [IntWalk.wrap64_in _ (by omega)]; omega
  have g1 : (m : Int) < (p : Int) := by omega
  have HP := hide hp
  clear hx hn hs hm hlen hmx hp
  go_enter Tryd.func35, Tryd.ntmps35
  go_wp2_with fail
  refine HL.out.mono ?_
  rintro e w1 ⟨a, c, rfl, ho, hb⟩
  have hLi := levs_get l ss p m (by have := HP.out; omega)
  obtain ⟨g, Ai, ci, rfl, hgb, hgl, cg, hBi, hni⟩ := ho.at_ (i := m) (by have := HP.out; omega)
  rw [hLi] at cg hBi hni
  have HM := hide (refMix_any Ai _ ci _ w1 hBi (by omega))
  rw [HMX.out] at HM
  obtain ⟨q, hq⟩ : ∃ q, (levF l ss m).length = q := ⟨_, rfl⟩
  rw [hq] at cg HM
  have HB := hide hb
  clear ho hLi hgb hgl hBi hni hb hq HL
  go_wp2_with fail
  refine HM.out.mono ?_
  rintro e w2 ⟨rfl, rfl⟩
  go_wp2_with fail
  go_ret
  exact ⟨rfl, HB.out⟩

set_option maxHeartbeats 2000000 in
set_option maxRecDepth 100000 in
theorem refIncluded_any (A : Option Addr) (n c : Nat) (l : List UInt8) (i j : Int) (r : Nat) (S : Option Addr) (m d : Nat) (ss : List St) (w : World) (hx : BytesAt w.heap.size w A n l) (hs : StepsAt w.heap.size w S m ss) (hm : m ≤ 1000000) :
    Calls Tryd.prog 33 #[.slice A n c, .int .i64 i, .int .i64 j, .int .u64 r, .slice S m d] w (TwoPost (includedV l i j r ss) w) := by
  have HP := hide (place_any i j w)
  have hlen := hx.1
  cases hp : placeB i j
  · have e : includedV l i j r ss = (false, 2) := if_pos hp
    rw [e]
    rw [hp] at HP
    clear e hp hx hs
    go_enter Tryd.func33, Tryd.ntmps33
    go_wp2_with fail
    refine HP.out.mono ?_
    rintro e w1 ⟨rfl, rfl⟩
    go_wp2_with fail
    go_ret2
    exact ⟨rfl, Below.refl _ _⟩
  · rw [hp] at HP
    by_cases hn : 256 < n
    · have e : includedV l i j r ss = (false, 3) := by
        unfold includedV
        rw [if_neg (by rw [hp]; decide), if_pos (by omega)]
      have q : (256 : Int) < (n : Int) := by omega
      rw [e]
      clear e hp hx hs hn
      go_enter Tryd.func33, Tryd.ntmps33
      go_wp2_with fail
      refine HP.out.mono ?_
      rintro e w1 ⟨rfl, rfl⟩
      go_wp2_with fail
      go_ret2
      exact ⟨rfl, Below.refl _ _⟩
    · have q : ¬ (256 : Int) < (n : Int) := by omega
      unfold placeB at hp
      have hpp := of_decide_eq_true hp
      obtain ⟨i', rfl⟩ : ∃ k : Nat, i = k := ⟨i.toNat, by omega⟩
      obtain ⟨j', rfl⟩ : ∃ k : Nat, j = k := ⟨j.toNat, by omega⟩
      have e : includedV l i' j' r ss = (leadB ss (sidesV i' j') && decide (followV l ss = r), 0) := by
        unfold includedV
        rw [if_neg (by unfold placeB; rw [hp]; decide), if_neg (by omega)]
        rfl
      rw [e]
      have HL := hide (refSides_any i' j' S m d ss w (by omega) (by omega) hs hm)
      have HF : Hid (∀ w1, Below w.heap.size w w1 → Calls Tryd.prog 35 #[.slice A n c, .slice S m d] w1 fun e w' => e = .returned (.int .u64 (followV l ss : Nat)) ∧ Below w1.heap.size w1 w') :=
        fun w1 hb => refFollow_any A n c l S m d ss w1 (hx.now hb (Nat.le_refl _)) (by omega) (hs.now hb (Nat.le_refl _)) hm
      obtain ⟨F, hF⟩ : ∃ F, followV l ss = F := ⟨_, rfl⟩
      rw [hF] at HF ⊢
      clear e hp hpp hx hs hn hlen hF
      cases hB : leadB ss (sidesV i' j')
      · rw [hB] at HL
        clear hB HF
        go_enter Tryd.func33, Tryd.ntmps33
        go_wp2_with fail
        refine HP.out.mono ?_
        rintro e w1 ⟨rfl, rfl⟩
        go_wp2_with fail
        refine HL.out.mono ?_
        rintro e w2 ⟨rfl, hb2⟩
        go_wp2_with fail
        go_ret2
        exact ⟨rfl, hb2⟩
      · rw [hB] at HL
        clear hB
        go_enter Tryd.func33, Tryd.ntmps33
        go_wp2_with fail
        refine HP.out.mono ?_
        rintro e w1 ⟨rfl, rfl⟩
        go_wp2_with fail
        refine HL.out.mono ?_
        rintro e w2 ⟨rfl, hb2⟩
        have HB := hide hb2
        clear hb2
        go_wp2_with fail
        refine (HF.out w2 HB.out).mono ?_
        rintro e w3 ⟨rfl, hb3⟩
        go_wp2_with fail
        go_ret2
        refine ⟨?_, HB.out.trans (hb3.mono HB.out.size)⟩
        show Ending.returned (.tuple #[.bool ((F : Int) == (r : Int)), .int .i64 0]) = .returned (.tuple #[.bool (true && decide (F = r)), .int .i64 0])
        have : ((F : Int) == (r : Int)) = (true && decide (F = r)) := by
          rw [Bool.true_and]
          by_cases h : F = r
          · subst h; simp
          · rw [decide_eq_false h]; exact beq_eq_false_iff_ne.2 (by omega)
        rw [this]
end Go.Proofs.YtbinmkigolkhcaaDoor
