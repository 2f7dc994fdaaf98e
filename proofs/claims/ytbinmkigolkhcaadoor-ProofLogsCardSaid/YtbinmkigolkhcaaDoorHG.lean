/- growth; Include and Extend of a list. -/
import Derived.Test.YtbinmkigolkhcaaDoorPT
import Derived.Test.YtbinmkigolkhcaaDoorMA
import Derived.Test.YtbinmkigolkhcaaDoorHA
set_option linter.unusedSimpArgs false
set_option linter.unusedVariables false
namespace Go.Proofs.YtbinmkigolkhcaaDoor
open Go.RowKit Go.Sort
attribute [local go_sem] Oper.semAt_some

def HashesPost (hs : List Nat) (w : World) (e : Ending) (w' : World) : Prop :=
  ∃ a c, e = .returned (.slice a hs.length c) ∧ w'.ownsRow w.heap.size 24 1 (.slice a hs.length c) hs.length (cellsP hs) ∧ Below w.heap.size w w'
theorem cellsP_snoc (ps : List Nat) (r : Nat) : cellsP (ps ++ [r]) = cellsP ps ++ [.int .u64 r] := by unfold cellsP; rw [List.map_append]; rfl
theorem hashes_of_own {W : World} {base k c : Nat} {a : Option Addr} {hs : List Nat} (h : W.ownsRow base 24 1 (.slice a k c) k (cellsP hs)) (hb : ∀ p ∈ hs, p < 18446744073709551616) : HashesAt W.heap.size W a k hs := by
  have hl : hs.length = k := by have := h.1; unfold cellsP at this; simpa using this
  refine ⟨hl, hb, ?_⟩
  rcases h.2 with ⟨_, h0⟩ | ⟨g, cap, cur, hv, hb, hg, hr⟩
  · exact .inl h0
  · injection hv with h1 h2 h3
    subst h1
    refine .inr ⟨g, 0, rfl, (Array.getElem?_eq_some_iff.1 hg).1, fun i hi => ?_⟩
    rw [Nat.zero_add]
    have e : (⟨g, 0, none⟩ : Addr).add i = ⟨g, i, none⟩ := by
      by_cases h0 : i = 0
      · subst h0; rfl
      · simp [Addr.add, h0]
    have c0 := h.cells (g := g) rfl i (.int .u64 (hashA hs i : Nat)) (by
      unfold cellsP hashA
      rw [List.getElem?_map, List.getElem?_eq_getElem (by omega), List.getD_eq_getElem?_getD, List.getElem?_eq_getElem (by omega)]
      rfl)
    rw [e] at c0
    exact c0

set_option maxHeartbeats 2000000 in
set_option maxRecDepth 100000 in
theorem growth_any : ∀ (N n m : Nat) (A : Option Addr) (c : Nat) (wh : Bool) (ls : List (List UInt8)) (w : World), n ≤ N → 1 ≤ m → m ≤ n → n ≤ 1000000 → ListsAt w.heap.size w A n ls → n ≤ c →
    Calls Tryd.prog 65 #[.slice A n c, .int .i64 m, .bool wh] w (HashesPost (growthV ls m wh) w) := by
  have mixed := mixedOrders
  obtain ⟨i0, hi0, hz0, hz1, hz2⟩ := info_parts info24
  intro N
  induction N with
  | zero => intro n m A c wh ls w hN h1 hi; omega
  | succ N ih =>
    intro n i A c wh ls w hN h1 hi hm hx hc
    have hlen := hx.1
    by_cases hs : i = n
    · subst hs
      rw [growth_all hlen.symm h1]
      have z1 : ((i : Int) == (i : Int)) = true := by simp
      cases wh
      · have HR := hide (rootOf_any i i A c ls w (Nat.le_refl _) hx hc hm)
        rw [if_neg (by decide)]
        obtain ⟨r, hr⟩ : ∃ r, rootV ls = r := ⟨_, rfl⟩
        rw [hr] at HR ⊢
        clear ih hN h1 hi hm hx hc hr hlen
        go_enter Tryd.func65, Tryd.ntmps65
        go_wp2_with fail
        refine HR.out.mono ?_
        rintro e w1 ⟨rfl, hb⟩
        have HB := hide hb
        clear hb
        go_wp2_with fail
        go_ret
        exact ⟨some ⟨w1.heap.size, 0, none⟩, 1, rfl, World.ownsRow_lit w1 #[.int .u64 r] 1 HB.out.size (by decide) rfl, HB.out.alloc HB.out.size _⟩
      · rw [if_pos rfl]
        clear ih hN h1 hi hm hx hc hlen
        go_enter Tryd.func65, Tryd.ntmps65
        go_wp2_with fail
        go_ret
        exact ⟨none, 0, rfl, World.ownsRow_nil _ _ _ _, Below.refl _ _⟩
    · obtain ⟨b, off, -, -, -, rfl, hb, -, -, -⟩ := hx.at_ (i := 0) (by omega)
      have HH := hide (halves_any b off n c (by omega) hc hm w)
      obtain ⟨p1, p2⟩ := halfN_lt (n := n) (by omega)
      have z1 : ((i : Int) == (n : Int)) = false := beq_eq_false_iff_ne.2 (by omega)
      rcases Nat.lt_or_ge (halfN n) i with hi2 | hi2
      · have HE := hide (growth_hi (l := ls) (m := i) (by omega) h1 (by rw [hlen]; exact hi2) wh)
        have HL := hide (growth_len (ls.drop (halfN n)) (i - halfN n) false)
        rw [hlen] at HE
        obtain ⟨m, hmm⟩ : ∃ m, halfN n = m := ⟨_, rfl⟩
        rw [hmm] at p1 p2 HH HE hi2 HL
        have HT := hide (hx.take (k := m) (by omega))
        have HD := hide (hx.drop (k := m) (by omega))
        have s1 : wrap64 ((i : Int) - (m : Int)) = ((i - m : Nat) : Int) := by rw [IntWalk.wrap64_in _ (by omega)]; omega
        obtain ⟨i2, hi3⟩ : ∃ i2, i - m = i2 := ⟨_, rfl⟩
        rw [hi3] at s1 HE HL
        have IH : Hid (∀ w1, ListsAt w1.heap.size w1 (some ⟨b, off + m, none⟩) (n - m) (ls.drop m) → _) := fun w1 h => ih (n - m) i2 (some ⟨b, off + m, none⟩) (c - m) false (ls.drop m) w1 (by omega) (by omega) (by omega) (by omega) h (by omega)
        have RO : Hid (∀ w1, ListsAt w1.heap.size w1 (some ⟨b, off, none⟩) m (ls.take m) → _) := fun w1 h => rootOf_any m m (some ⟨b, off, none⟩) m (ls.take m) w1 (Nat.le_refl _) h (Nat.le_refl _) (by omega)
        have q1 : ¬ (i : Int) ≤ (m : Int) := by omega
        have HB : Hid ((ls.drop m).length ≤ 1000000) := by show _ ≤ _; rw [List.length_drop]; omega
        clear ih hN h1 hi hm hs p1 p2 hi2 hmm hx hc hlen hb hi3
        unfold HashesPost at IH ⊢
        obtain ⟨L, hL⟩ : ∃ L, growthV (ls.drop m) i2 false = L := ⟨_, rfl⟩
        rw [hL] at HE HL
        have IH : Hid (∀ w1, ListsAt w1.heap.size w1 (some ⟨b, off + m, none⟩) (n - m) (ls.drop m) → Calls Tryd.prog 65 #[.slice (some ⟨b, off + m, none⟩) (n - m) (c - m), .int .i64 i2, .bool false] w1 (HashesPost L w1)) := by
          intro w1 h
          rw [← hL]
          exact IH.out w1 h
        obtain ⟨r, hr⟩ : ∃ r, rootV (ls.take m) = r := ⟨_, rfl⟩
        rw [HE.out, hr]
        have RO : Hid (∀ w1, ListsAt w1.heap.size w1 (some ⟨b, off, none⟩) m (ls.take m) → Calls Tryd.prog 55 #[.slice (some ⟨b, off, none⟩) m m] w1 fun e w' => e = .returned (.int .u64 (r : Nat)) ∧ Below w1.heap.size w1 w') := by
          intro w1 h
          rw [← hr]
          exact RO.out w1 h
        have hk := HL.out
        have hk2 := HB.out
        have hbb1 : L.length + 1 ≤ maxLen := by unfold maxLen; omega
        have hbb2 : (L.length + 1) * 8 ≤ 140737488355328 := by omega
        have HBB := hide hbb1
        have HBC := hide hbb2
        clear HE HL HB hL hr hk hk2 hbb1 hbb2
        go_enter Tryd.func65, Tryd.ntmps65
        go_wp2_with fail
        refine HH.out.mono ?_
        rintro e w1 ⟨rfl, k, rfl⟩
        have hb1 := ((Gr.refl w).drewN k).below
        obtain ⟨w1, hw1⟩ : ∃ w1, w.drewN k = w1 := ⟨_, rfl⟩
        rw [hw1] at hb1 ⊢
        have HB1 := hide hb1
        have C1 := hide (IH.out w1 (HD.out.now hb1 (Nat.le_refl _)))
        clear hb1 hw1 HH IH
        go_wp2_with fail
        refine C1.out.mono ?_
        rintro e w2 ⟨a, c2, rfl, ho, hb⟩
        have HB2 := hide (HB1.out.trans (hb.mono HB1.out.size))
        have HSZ := hide HB1.out.size
        have HO := hide ho
        have C2 := hide (RO.out w2 (HT.out.now HB2.out (Nat.le_refl _)))
        clear ho hb C1 RO
        go_wp2_with fail
        refine C2.out.mono ?_
        rintro e w3 ⟨rfl, hb3⟩
        have HB3 := hide (HB2.out.trans (hb3.mono HB2.out.size))
        have HO3 : Hid (w3.ownsRow w.heap.size 24 1 (.slice a L.length c2) L.length (cellsP L)) := own_keep HO.out hb3 HSZ.out
        have hb4 : w.heap.size ≤ (w3.alloc (.cells #[.int .u64 r] 24)).heap.size := by have := HB3.out.size; simp; omega
        clear hb3 C2 HO
        go_wp2_with (at_builtin; refine wpList_append_own_at _ rfl (.tmp 39) (.tmp 42) _ rfl w.heap.size 24 i0 (.int .u64 0) 1 8 Tryd.underlying36 hi0 hz0 hz1 hz2 rfl (by decide) _ _ _ rfl (HO3.out.alloc _) ⟨w3.heap.size, 0, none⟩ 1 1 [.int .u64 r] rfl rfl (cell_one_at _ _ rfl) (by simp [Value.oneCell']) HBB.out HBC.out hb4 ?_; intro v1 w5 hown1 hgrow1 hnil1 hat1)
        obtain ⟨a2, c3, rfl⟩ := own_slice hown1
        go_ret
        refine ⟨a2, c3, by rw [List.length_append]; rfl, ?_, ?_⟩
        · rw [List.length_append, cellsP_snoc]
          exact hown1
        · have h1 := HB3.out.alloc HB3.out.size (.cells #[.int .u64 r] 24)
          refine h1.trans ⟨hgrow1.os, hgrow1.tape, hgrow1.output, hgrow1.size, fun k hk => hgrow1.block k (Nat.lt_of_lt_of_le hk h1.size) fun e => ?_⟩
          have := (own_lt HO3.out k e.symm).1
          omega
      · have HE := hide (growth_lo (l := ls) (m := i) h1 (by omega) (by rw [hlen]; exact hi2) wh)
        have HL := hide (growth_len (ls.take (halfN n)) i wh)
        rw [hlen] at HE
        obtain ⟨m, hmm⟩ : ∃ m, halfN n = m := ⟨_, rfl⟩
        rw [hmm] at p1 p2 HH HE hi2 HL
        have HT := hide (hx.take (k := m) (by omega))
        have HD := hide (hx.drop (k := m) (by omega))
        have IH : Hid (∀ w1, ListsAt w1.heap.size w1 (some ⟨b, off, none⟩) m (ls.take m) → _) := fun w1 h => ih m i (some ⟨b, off, none⟩) m wh (ls.take m) w1 (by omega) h1 hi2 (by omega) h (Nat.le_refl _)
        have RO : Hid (∀ w1, ListsAt w1.heap.size w1 (some ⟨b, off + m, none⟩) (n - m) (ls.drop m) → _) := fun w1 h => rootOf_any (n - m) (n - m) (some ⟨b, off + m, none⟩) (c - m) (ls.drop m) w1 (Nat.le_refl _) h (by omega) (by omega)
        have q1 : (i : Int) ≤ (m : Int) := by omega
        have HB : Hid ((ls.take m).length ≤ 1000000) := by show _ ≤ _; rw [List.length_take]; omega
        clear ih hN h1 hi hm hs p1 p2 hi2 hmm hx hc hlen hb
        unfold HashesPost at IH ⊢
        obtain ⟨L, hL⟩ : ∃ L, growthV (ls.take m) i wh = L := ⟨_, rfl⟩
        rw [hL] at HE HL
        have IH : Hid (∀ w1, ListsAt w1.heap.size w1 (some ⟨b, off, none⟩) m (ls.take m) → Calls Tryd.prog 65 #[.slice (some ⟨b, off, none⟩) m m, .int .i64 i, .bool wh] w1 (HashesPost L w1)) := by
          intro w1 h
          rw [← hL]
          exact IH.out w1 h
        obtain ⟨r, hr⟩ : ∃ r, rootV (ls.drop m) = r := ⟨_, rfl⟩
        rw [HE.out, hr]
        have RO : Hid (∀ w1, ListsAt w1.heap.size w1 (some ⟨b, off + m, none⟩) (n - m) (ls.drop m) → Calls Tryd.prog 55 #[.slice (some ⟨b, off + m, none⟩) (n - m) (c - m)] w1 fun e w' => e = .returned (.int .u64 (r : Nat)) ∧ Below w1.heap.size w1 w') := by
          intro w1 h
          rw [← hr]
          exact RO.out w1 h
        have hk := HL.out
        have hk2 := HB.out
        have hbb1 : L.length + 1 ≤ maxLen := by unfold maxLen; omega
        have hbb2 : (L.length + 1) * 8 ≤ 140737488355328 := by omega
        have HBB := hide hbb1
        have HBC := hide hbb2
        clear HE HL HB hL hr hk hk2 hbb1 hbb2
        go_enter Tryd.func65, Tryd.ntmps65
        go_wp2_with fail
        refine HH.out.mono ?_
        rintro e w1 ⟨rfl, k, rfl⟩
        have hb1 := ((Gr.refl w).drewN k).below
        obtain ⟨w1, hw1⟩ : ∃ w1, w.drewN k = w1 := ⟨_, rfl⟩
        rw [hw1] at hb1 ⊢
        have HB1 := hide hb1
        have C1 := hide (IH.out w1 (HT.out.now hb1 (Nat.le_refl _)))
        clear hb1 hw1 HH IH
        go_wp2_with fail
        refine C1.out.mono ?_
        rintro e w2 ⟨a, c2, rfl, ho, hb⟩
        have HB2 := hide (HB1.out.trans (hb.mono HB1.out.size))
        have HSZ := hide HB1.out.size
        have HO := hide ho
        have C2 := hide (RO.out w2 (HD.out.now HB2.out (Nat.le_refl _)))
        clear ho hb C1 RO
        go_wp2_with fail
        refine C2.out.mono ?_
        rintro e w3 ⟨rfl, hb3⟩
        have HB3 := hide (HB2.out.trans (hb3.mono HB2.out.size))
        have HO3 : Hid (w3.ownsRow w.heap.size 24 1 (.slice a L.length c2) L.length (cellsP L)) := own_keep HO.out hb3 HSZ.out
        have hb4 : w.heap.size ≤ (w3.alloc (.cells #[.int .u64 r] 24)).heap.size := by have := HB3.out.size; simp; omega
        clear hb3 C2 HO
        go_wp2_with (at_builtin; refine wpList_append_own_at _ rfl (.tmp 29) (.tmp 32) _ rfl w.heap.size 24 i0 (.int .u64 0) 1 8 Tryd.underlying36 hi0 hz0 hz1 hz2 rfl (by decide) _ _ _ rfl (HO3.out.alloc _) ⟨w3.heap.size, 0, none⟩ 1 1 [.int .u64 r] rfl rfl (cell_one_at _ _ rfl) (by simp [Value.oneCell']) HBB.out HBC.out hb4 ?_; intro v1 w5 hown1 hgrow1 hnil1 hat1)
        obtain ⟨a2, c3, rfl⟩ := own_slice hown1
        go_ret
        refine ⟨a2, c3, by rw [List.length_append]; rfl, ?_, ?_⟩
        · rw [List.length_append, cellsP_snoc]
          exact hown1
        · have h1 := HB3.out.alloc HB3.out.size (.cells #[.int .u64 r] 24)
          refine h1.trans ⟨hgrow1.os, hgrow1.tape, hgrow1.output, hgrow1.size, fun k hk => hgrow1.block k (Nat.lt_of_lt_of_le hk h1.size) fun e => ?_⟩
          have := (own_lt HO3.out k e.symm).1
          omega

def TwoHashes (x : List Nat × Int) (w : World) (e : Ending) (w' : World) : Prop :=
  ∃ a c, e = .returned (.tuple #[.slice a x.1.length c, .int .i64 x.2]) ∧ w'.ownsRow w.heap.size 24 1 (.slice a x.1.length c) x.1.length (cellsP x.1) ∧ Below w.heap.size w w'
def pIncludeV (ls : List (List UInt8)) (i : Int) : List St × Int := if longB ls = true then ([], 3) else if i < 0 ∨ (ls.length : Int) ≤ i then ([], 6) else (stepsV ls i.toNat, 0)
def extendV (ls : List (List UInt8)) (m : Int) : List Nat × Int := if longB ls = true then ([], 3) else if m < 1 ∨ (ls.length : Int) < m then ([], 2) else (growthV ls m.toNat true, 0)

set_option maxHeartbeats 2000000 in
set_option maxRecDepth 100000 in
theorem pInclude_any (A : Option Addr) (n c : Nat) (ls : List (List UInt8)) (i : Int) (w : World) (hx : ListsAt w.heap.size w A n ls) (hn : n ≤ 4096) (hc : n ≤ c) :
    Calls Tryd.prog 28 #[.slice A n c, .int .i64 i] w (TwoSteps (pIncludeV ls i) w) := by
  have mixed := mixedOrders
  have HW := hide (isWithin_any A n c ls w hx hn)
  have hlen := hx.1
  unfold pIncludeV
  rw [hlen]
  cases hb : longB ls
  · rw [hb] at HW
    rw [if_neg (by decide)]
    rcases Int.lt_or_le i 0 with h | h
    · rw [if_pos (.inl h)]
      clear hb hx hlen hn hc
      go_enter Tryd.func28, Tryd.ntmps28
      go_wp2_with fail
      refine HW.out.mono ?_
      rintro e w1 ⟨rfl, rfl⟩
      go_wp2_with fail
      go_ret2
      exact ⟨none, 0, rfl, World.ownsRow_nil _ _ _ _, Below.refl _ _⟩
    · have g1 : ¬ i < 0 := by omega
      rcases Int.lt_or_le i (n : Int) with h2 | h2
      · rw [if_neg (by omega)]
        obtain ⟨i', rfl⟩ : ∃ k : Nat, i = k := ⟨i.toNat, by omega⟩
        rw [Int.toNat_natCast]
        have g2 : ¬ (n : Int) ≤ (i' : Int) := by omega
        have HS := hide (stepsOf_any n n i' A c ls w (Nat.le_refl _) (by omega) (by omega) (by omega) hx hc)
        unfold StepsPost at HS
        obtain ⟨L, hL⟩ : ∃ L, stepsV ls i' = L := ⟨_, rfl⟩
        rw [hL] at HS ⊢
        clear hb hx hlen hn hc h h2 hL
        go_enter Tryd.func28, Tryd.ntmps28
        go_wp2_with fail
        refine HW.out.mono ?_
        rintro e w1 ⟨rfl, rfl⟩
        go_wp2_with fail
        refine HS.out.mono ?_
        rintro e w2 ⟨a, c2, rfl, ho, hb⟩
        have HO := hide ho
        have HB := hide hb
        clear ho hb HS
        go_wp2_with fail
        go_ret2
        exact ⟨a, c2, rfl, HO.out, HB.out⟩
      · rw [if_pos (.inr h2)]
        clear hb hx hlen hn hc h
        go_enter Tryd.func28, Tryd.ntmps28
        go_wp2_with fail
        refine HW.out.mono ?_
        rintro e w1 ⟨rfl, rfl⟩
        go_wp2_with fail
        go_ret2
        exact ⟨none, 0, rfl, World.ownsRow_nil _ _ _ _, Below.refl _ _⟩
  · rw [hb] at HW
    rw [if_pos rfl]
    clear hb hx hlen hn hc
    go_enter Tryd.func28, Tryd.ntmps28
    go_wp2_with fail
    refine HW.out.mono ?_
    rintro e w1 ⟨rfl, rfl⟩
    go_wp2_with fail
    go_ret2
    exact ⟨none, 0, rfl, World.ownsRow_nil _ _ _ _, Below.refl _ _⟩
set_option maxHeartbeats 2000000 in
set_option maxRecDepth 100000 in
theorem pExtend_any (A : Option Addr) (n c : Nat) (ls : List (List UInt8)) (i : Int) (w : World) (hx : ListsAt w.heap.size w A n ls) (hn : n ≤ 4096) (hc : n ≤ c) :
    Calls Tryd.prog 30 #[.slice A n c, .int .i64 i] w (TwoHashes (extendV ls i) w) := by
  have mixed := mixedOrders
  have HW := hide (isWithin_any A n c ls w hx hn)
  have hlen := hx.1
  unfold extendV
  rw [hlen]
  cases hb : longB ls
  · rw [hb] at HW
    rw [if_neg (by decide)]
    rcases Int.lt_or_le i 1 with h | h
    · rw [if_pos (.inl h)]
      clear hb hx hlen hn hc
      go_enter Tryd.func30, Tryd.ntmps30
      go_wp2_with fail
      refine HW.out.mono ?_
      rintro e w1 ⟨rfl, rfl⟩
      go_wp2_with fail
      go_ret2
      exact ⟨none, 0, rfl, World.ownsRow_nil _ _ _ _, Below.refl _ _⟩
    · have g1 : ¬ i < 1 := by omega
      rcases Int.lt_or_le (n : Int) i with h2 | h2
      · rw [if_pos (.inr h2)]
        clear hb hx hlen hn hc h
        go_enter Tryd.func30, Tryd.ntmps30
        go_wp2_with fail
        refine HW.out.mono ?_
        rintro e w1 ⟨rfl, rfl⟩
        go_wp2_with fail
        go_ret2
        exact ⟨none, 0, rfl, World.ownsRow_nil _ _ _ _, Below.refl _ _⟩
      · rw [if_neg (by omega)]
        obtain ⟨i', rfl⟩ : ∃ k : Nat, i = k := ⟨i.toNat, by omega⟩
        rw [Int.toNat_natCast]
        have g2 : ¬ (n : Int) < (i' : Int) := by omega
        have HS := hide (growth_any n n i' A c true ls w (Nat.le_refl _) (by omega) (by omega) (by omega) hx hc)
        unfold HashesPost at HS
        obtain ⟨L, hL⟩ : ∃ L, growthV ls i' true = L := ⟨_, rfl⟩
        rw [hL] at HS ⊢
        clear hb hx hlen hn hc h h2 hL
        go_enter Tryd.func30, Tryd.ntmps30
        go_wp2_with fail
        refine HW.out.mono ?_
        rintro e w1 ⟨rfl, rfl⟩
        go_wp2_with fail
        refine HS.out.mono ?_
        rintro e w2 ⟨a, c2, rfl, ho, hb⟩
        have HO := hide ho
        have HB := hide hb
        clear ho hb HS
        go_wp2_with fail
        go_ret2
        exact ⟨a, c2, rfl, HO.out, HB.out⟩
  · rw [hb] at HW
    rw [if_pos rfl]
    clear hb hx hlen hn hc
    go_enter Tryd.func30, Tryd.ntmps30
    go_wp2_with fail
    refine HW.out.mono ?_
    rintro e w1 ⟨rfl, rfl⟩
    go_wp2_with fail
    go_ret2
    exact ⟨none, 0, rfl, World.ownsRow_nil _ _ _ _, Below.refl _ _⟩
end Go.Proofs.YtbinmkigolkhcaaDoor
