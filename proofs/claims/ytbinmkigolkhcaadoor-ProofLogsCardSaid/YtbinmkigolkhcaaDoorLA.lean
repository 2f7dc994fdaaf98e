/- A log whose peaks are those of its entries; Add, RootAt, Extend, Root of it. -/
import Derived.Test.YtbinmkigolkhcaaDoorMB
import Derived.Test.YtbinmkigolkhcaaDoorPV
import Derived.Test.YtbinmkigolkhcaaDoorHG
set_option linter.unusedSimpArgs false
set_option linter.unusedVariables false
namespace Go.Proofs.YtbinmkigolkhcaaDoor
open Go.RowKit Go.Sort
attribute [local go_sem] Oper.semAt_some

/-- a log of the entries ls, its footprint between B and the heap's end -/
def GoodLog (B : Nat) (w : World) (b : Nat) (ls : List (List UInt8)) : Prop := MyLog B w b ls (peaksV ls)
theorem GoodLog.stays {B : Nat} {w w' : World} {b : Nat} {ls : List (List UInt8)} (h : GoodLog B w b ls) (hk : Below w.heap.size w w') : GoodLog B w' b ls := MyLog.stays h hk
theorem peaks_len64 {ls : List (List UInt8)} (h : ls.length ≤ 4096) : (peaksV ls).length ≤ 13 := peaks_len 13 ls (Nat.lt_of_le_of_lt h (by decide))
/-- what Add answers, and the entries behind it -/
def addV (ls : List (List UInt8)) (l : List UInt8) : (Nat × Int) × List (List UInt8) :=
  if 256 < l.length then ((0, 3), ls) else if ls.length = 4096 then ((0, 8), ls) else ((ls.length, 0), ls ++ [l])
def AddG (B b : Nat) (x : (Nat × Int) × List (List UInt8)) (w : World) (e : Ending) (w' : World) : Prop :=
  e = .returned (.tuple #[.int .i64 (x.1.1 : Nat), .int .i64 x.1.2]) ∧ Below B w w' ∧ GoodLog B w' b x.2 ∧ w.heap.size ≤ w'.heap.size

theorem Add_long (F : Nat → Prop) (w : World) (b : Nat) (ls : List (List UInt8)) (ps : List Nat) (Ae : Option Addr) (ce : Nat) (Ap : Option Addr) (cp : Nat) (h : LogAt F w b ls ps Ae ce Ap cp) (A : Option Addr) (n c : Nat) (hn : 256 < n) :
    Calls Tryd.prog 44 #[.pointer (some ⟨b, 0, none⟩), .slice A n c] w fun e w' => e = .returned (.tuple #[.int .i64 0, .int .i64 3]) ∧ w = w' := by
  have HM := hide (isMade_any b w h.c0)
  have HTL := hide (isTooLong_any A n c w)
  rw [decide_eq_true (by omega)] at HTL
  clear h hn
  go_enter Tryd.func44, Tryd.ntmps44
  go_wp2_with fail
  refine HM.out.mono ?_
  rintro e w1 ⟨rfl, rfl⟩
  go_wp2_with fail
  refine HTL.out.mono ?_
  rintro e w2 ⟨rfl, rfl⟩
  go_wp2_with fail
  go_ret2
  exact ⟨rfl, rfl⟩
theorem Add_full (F : Nat → Prop) (w : World) (b : Nat) (ls : List (List UInt8)) (ps : List Nat) (Ae : Option Addr) (ce : Nat) (Ap : Option Addr) (cp : Nat) (h : LogAt F w b ls ps Ae ce Ap cp) (hl : ls.length = 4096) (A : Option Addr) (n c : Nat) (hn : n ≤ 256) :
    Calls Tryd.prog 44 #[.pointer (some ⟨b, 0, none⟩), .slice A n c] w fun e w' => e = .returned (.tuple #[.int .i64 0, .int .i64 8]) ∧ w = w' := by
  have HM := hide (isMade_any b w h.c0)
  have HTL := hide (isTooLong_any A n c w)
  rw [decide_eq_false (by omega)] at HTL
  have c1 := h.c1
  rw [hl] at c1
  clear h hn hl
  go_enter Tryd.func44, Tryd.ntmps44
  go_wp2_with fail
  refine HM.out.mono ?_
  rintro e w1 ⟨rfl, rfl⟩
  go_wp2_with fail
  refine HTL.out.mono ?_
  rintro e w2 ⟨rfl, rfl⟩
  go_wp2_with fail
  go_ret2
  exact ⟨rfl, rfl⟩
theorem Add_good (B : Nat) (w0 w : World) (b : Nat) (ls : List (List UInt8)) (h0 : GoodLog B w0 b ls) (hw : Below w0.heap.size w0 w) (hl : ls.length ≤ 4096)
    (A : Option Addr) (n c : Nat) (l : List UInt8) (hx : BytesAt w.heap.size w A n l) (hA : 0 < n → ∀ a, A = some a → a.block < B ∨ w0.heap.size ≤ a.block) (hB : 1 < B) (hBw : B ≤ w.heap.size) (hT : TabAt 1 Lib.deBruijn64tab w) :
    Calls Tryd.prog 44 #[.pointer (some ⟨b, 0, none⟩), .slice A n c] w (AddG B b (addV ls l) w) := by
  obtain ⟨F, Ae, ce, Ap, cp, hlg0, hF⟩ := h0
  have hlg := hlg0.stays hw
  have hlen := hx.1
  have hs := hw.size
  have hgl : GoodLog B w b ls := ⟨F, Ae, ce, Ap, cp, hlg, fun k hk => ⟨(hF k hk).1, Nat.lt_of_lt_of_le (hF k hk).2 hs⟩⟩
  unfold addV
  rcases Nat.lt_or_ge 256 n with h1 | h1
  · rw [if_pos (by omega)]
    refine (Add_long F w b ls _ Ae ce Ap cp hlg A n c h1).mono ?_
    rintro e w' ⟨rfl, rfl⟩
    exact ⟨rfl, Below.refl _ _, hgl, Nat.le_refl _⟩
  · rw [if_neg (by omega)]
    by_cases h2 : ls.length = 4096
    · rw [if_pos h2]
      refine (Add_full F w b ls _ Ae ce Ap cp hlg h2 A n c h1).mono ?_
      rintro e w' ⟨rfl, rfl⟩
      exact ⟨rfl, Below.refl _ _, hgl, Nat.le_refl _⟩
    · rw [if_neg h2]
      have hF1 : ¬ F 1 := fun h => by have := (hF 1 h).1; omega
      have hp := peaks_len64 hl
      obtain ⟨r1, r2⟩ := peaks_raise ls.length ls l (Nat.le_refl _) (Nat.lt_of_le_of_lt hl (by decide))
      refine (Add_any F w b ls (peaksV ls) Ae ce Ap cp hlg (by omega) (by omega) A n c l hx (by omega) _ rfl r1 (fun h0 a ha hFa => by
        rcases hA h0 a ha with h3 | h3
        · have := (hF _ hFa).1
          omega
        · have := (hF _ hFa).2
          omega) hF1 (by omega) hT).mono ?_
      rw [← r2]
      rintro e w' ⟨rfl, hm, Ae', ce', Ap', cp', h'⟩
      refine ⟨?_, hm.below (fun k hk => (hF k hk).1) hBw, ⟨_, Ae', ce', Ap', cp', h'.tight, fun k hk => ⟨?_, hk.2⟩⟩, hm.size⟩
      · rw [List.length_append]
        rfl
      · rcases hk.1 with h | h
        · exact (hF k h).1
        · omega
theorem new_good (w : World) : GoodLog w.heap.size (w.alloc (.cells #[.bool true, .slice none 0 0, .slice none 0 0] 65)) w.heap.size [] :=
  ⟨_, _, _, _, _, New_log w, fun k hk => ⟨Nat.le_of_eq hk.symm, by rw [hk]; simp⟩⟩
theorem Len_good {B : Nat} {w : World} {b : Nat} {ls : List (List UInt8)} (h : GoodLog B w b ls) : Calls Tryd.prog 49 #[.pointer (some ⟨b, 0, none⟩)] w fun e w' => e = .returned (.int .i64 ls.length) ∧ w = w' := by
  obtain ⟨F, Ae, ce, Ap, cp, hl, -⟩ := h
  exact Len_any F w b ls _ Ae ce Ap cp hl
theorem Root_none (b : Nat) (w : World) (h : Calls Tryd.prog 49 #[.pointer (some ⟨b, 0, none⟩)] w fun e w' => e = .returned (.int .i64 (0 : Nat)) ∧ w = w') : Calls Tryd.prog 50 #[.pointer (some ⟨b, 0, none⟩)] w fun e w' => e = .returned (.int .u64 (0 : Nat)) ∧ Below w.heap.size w w' := by
  have HL := hide h
  clear h
  refine (callsIn_wide (n := 10)).1 ?_
  refine callsIn_of_wp_marks Tryd.func50 rfl trivial ?_ rfl
  simp only [Tryd.ntmps50, List.size_toArray, List.length_cons, List.length_nil, Nat.reduceAdd, Nat.reduceSub, Array.replicate_succ, Array.replicate_zero, List.push_toArray, List.append_toArray, List.nil_append, List.cons_append]
  gi_wp2_with fail
  refine ⟨trivial, (callsIn_wide (n := 9).2 HL.out).mono ?_⟩
  rintro e w2 ⟨rfl, rfl⟩
  gi_wp2_with fail
  exact ⟨_, results_tmp rfl _ _ _, rfl, Below.refl _ _⟩
theorem Root_good {B : Nat} {w : World} {b : Nat} {ls : List (List UInt8)} (h : GoodLog B w b ls) (hl : ls.length ≤ 4096) : Calls Tryd.prog 50 #[.pointer (some ⟨b, 0, none⟩)] w fun e w' => e = .returned (.int .u64 (rootV ls : Nat)) ∧ Below w.heap.size w w' := by
  have h' := h
  obtain ⟨F, Ae, ce, Ap, cp, hlg, -⟩ := h
  rcases Nat.eq_zero_or_pos ls.length with h0 | h0
  · obtain rfl : ls = [] := List.eq_nil_of_length_eq_zero h0
    exact Root_none b w (Len_good h')
  · have hp := peaks_len64 hl
    have := Root_any F w b ls (peaksV ls) Ae ce Ap cp hlg h0 (peaks_pos h0) (by omega)
    rw [rp_peaks ls.length ls (Nat.le_refl _) h0] at this
    exact this
theorem Include_good {B : Nat} {w : World} {b : Nat} {ls : List (List UInt8)} (h : GoodLog B w b ls) (hl : ls.length ≤ 4096) (i n : Int) : Calls Tryd.prog 47 #[.pointer (some ⟨b, 0, none⟩), .int .i64 i, .int .i64 n] w (TwoSteps (includeV ls i n) w) := by
  obtain ⟨F, Ae, ce, Ap, cp, hlg, -⟩ := h
  exact Include_any F w b ls _ Ae ce Ap cp hlg hl i n

def rootAtV (ls : List (List UInt8)) (n : Int) : Nat × Int := if n < 0 ∨ (ls.length : Int) < n then (0, 6) else (rootV (ls.take n.toNat), 0)
theorem own_addr {w : World} {base n c : Nat} {e : TypeId} {A : Option Addr} {xs : List Value} (h : w.ownsRow base e 1 (.slice A n c) n xs) : n ≤ c ∧ ((A = none ∧ n = 0 ∧ c = 0) ∨ ∃ g, A = some ⟨g, 0, none⟩) := by
  rcases h.2 with ⟨e, h0⟩ | ⟨g, cap, cur, hv, _, hg, hle, _⟩
  · injection e with e1 e2 e3
    exact ⟨by omega, .inl ⟨e1, h0, e3⟩⟩
  · injection hv with h1 h2 h3
    subst h1; subst h3
    exact ⟨hle, .inr ⟨g, rfl⟩⟩
set_option maxHeartbeats 2000000 in
set_option maxRecDepth 100000 in
theorem RootAt_good {B : Nat} {w : World} {b : Nat} {ls : List (List UInt8)} (h : GoodLog B w b ls) (hl : ls.length ≤ 4096) (n : Int) : Calls Tryd.prog 45 #[.pointer (some ⟨b, 0, none⟩), .int .i64 n] w (RootP (rootAtV ls n) w) := by
  have mixed := mixedOrders
  obtain ⟨F, Ae, ce, Ap, cp, hlg, -⟩ := h
  have HM := hide (isMade_any b w hlg.c0)
  have c1 := hlg.c1
  have HL := hide hlg.lists
  obtain ⟨hcap, hadr⟩ : ls.length ≤ ce ∧ ((Ae = none ∧ ls.length = 0 ∧ ce = 0) ∨ ∃ g, Ae = some ⟨g, 0, none⟩) := by
    obtain ⟨vs, ho, -⟩ := hlg.ents
    exact own_addr ho
  clear hlg
  unfold rootAtV
  obtain ⟨m, hm⟩ : ∃ m, ls.length = m := ⟨_, rfl⟩
  rw [hm] at c1 HL hcap hadr hl ⊢
  rcases Int.lt_or_le n 0 with h1 | h1
  · rw [if_pos (.inl h1)]
    clear hm hcap hadr hl HL
    go_enter Tryd.func45, Tryd.ntmps45
    go_wp2_with fail
    refine HM.out.mono ?_
    rintro e w1 ⟨rfl, rfl⟩
    go_wp2_with fail
    go_ret2
    exact ⟨rfl, Below.refl _ _⟩
  rcases Int.lt_or_le (m : Int) n with h2 | h2
  · rw [if_pos (.inr h2)]
    have g1 : ¬ n < 0 := by omega
    clear hm hcap hadr hl HL h1
    go_enter Tryd.func45, Tryd.ntmps45
    go_wp2_with fail
    refine HM.out.mono ?_
    rintro e w1 ⟨rfl, rfl⟩
    go_wp2_with fail
    go_ret2
    exact ⟨rfl, Below.refl _ _⟩
  rw [if_neg (by omega)]
  obtain ⟨n', rfl⟩ : ∃ k : Nat, n = k := ⟨n.toNat, by omega⟩
  rw [Int.toNat_natCast]
  have g1 : ¬ (n' : Int) < 0 := by omega
  have g2 : ¬ (m : Int) < (n' : Int) := by omega
  rcases hadr with ⟨rfl, h3, h4⟩ | ⟨g, rfl⟩
  · subst h3 h4
    obtain rfl : n' = 0 := by omega
    have HC := hide (rootOf_any 0 0 none 0 (ls.take 0) w (Nat.le_refl _) ⟨by simp, .inl rfl⟩ (Nat.le_refl _) (by omega))
    obtain ⟨r, hr⟩ : ∃ r, rootV (ls.take 0) = r := ⟨_, rfl⟩
    rw [hr] at HC ⊢
    clear hm hcap hl HL h1 h2 g1 g2 hr
    go_enter Tryd.func45, Tryd.ntmps45
    go_wp2_with fail
    refine HM.out.mono ?_
    rintro e w1 ⟨rfl, rfl⟩
    go_wp2_with fail
    refine HC.out.mono ?_
    rintro e w2 ⟨rfl, hb⟩
    go_wp2_with fail
    go_ret2
    exact ⟨rfl, hb⟩
  · have HC := hide (rootOf_any n' n' (some ⟨g, 0, none⟩) n' (ls.take n') w (Nat.le_refl _) (HL.out.take (by omega)) (Nat.le_refl _) (by omega))
    obtain ⟨r, hr⟩ : ∃ r, rootV (ls.take n') = r := ⟨_, rfl⟩
    rw [hr] at HC ⊢
    have g5 : (n' : Int) ≤ (ce : Int) := by omega
    have hmm : (m : Int) ≤ 4096 := by omega
    clear hm hcap hl HL h1 h2 hr
    go_enter Tryd.func45, Tryd.ntmps45
    go_wp2_with fail
    refine HM.out.mono ?_
    rintro e w1 ⟨rfl, rfl⟩
    go_wp2_with fail
    refine HC.out.mono ?_
    rintro e w2 ⟨rfl, hb⟩
    go_wp2_with fail
    go_ret2
    exact ⟨rfl, hb⟩

def lextV (ls : List (List UInt8)) (m n : Int) : List Nat × Int := if n < 1 ∨ (ls.length : Int) < n then ([], 6) else if m < 1 ∨ n < m then ([], 2) else (growthV (ls.take n.toNat) m.toNat true, 0)
set_option maxHeartbeats 2000000 in
set_option maxRecDepth 100000 in
theorem Extend_good {B : Nat} {w : World} {b : Nat} {ls : List (List UInt8)} (h : GoodLog B w b ls) (hl : ls.length ≤ 4096) (m n : Int) : Calls Tryd.prog 48 #[.pointer (some ⟨b, 0, none⟩), .int .i64 m, .int .i64 n] w (TwoHashes (lextV ls m n) w) := by
  have mixed := mixedOrders
  obtain ⟨F, Ae, ce, Ap, cp, hlg, -⟩ := h
  have HM := hide (isMade_any b w hlg.c0)
  have c1 := hlg.c1
  have HL := hide hlg.lists
  obtain ⟨hcap, hadr⟩ : ls.length ≤ ce ∧ ((Ae = none ∧ ls.length = 0 ∧ ce = 0) ∨ ∃ g, Ae = some ⟨g, 0, none⟩) := by
    obtain ⟨vs, ho, -⟩ := hlg.ents
    exact own_addr ho
  clear hlg
  unfold lextV
  obtain ⟨q, hq⟩ : ∃ m, ls.length = m := ⟨_, rfl⟩
  rw [hq] at c1 HL hcap hadr hl ⊢
  rcases Int.lt_or_le n 1 with h1 | h1
  · rw [if_pos (.inl h1)]
    clear hq hcap hadr hl HL
    go_enter Tryd.func48, Tryd.ntmps48
    go_wp2_with fail
    refine HM.out.mono ?_
    rintro e w1 ⟨rfl, rfl⟩
    go_wp2_with fail
    go_ret2
    exact ⟨none, 0, rfl, World.ownsRow_nil _ _ _ _, Below.refl _ _⟩
  have g1 : ¬ n < 1 := by omega
  rcases Int.lt_or_le (q : Int) n with h2 | h2
  · rw [if_pos (.inr h2)]
    clear hq hcap hadr hl HL h1
    go_enter Tryd.func48, Tryd.ntmps48
    go_wp2_with fail
    refine HM.out.mono ?_
    rintro e w1 ⟨rfl, rfl⟩
    go_wp2_with fail
    go_ret2
    exact ⟨none, 0, rfl, World.ownsRow_nil _ _ _ _, Below.refl _ _⟩
  rw [if_neg (by omega)]
  have g2 : ¬ (q : Int) < n := by omega
  rcases Int.lt_or_le m 1 with h3 | h3
  · rw [if_pos (.inl h3)]
    clear hq hcap hadr hl HL h1 h2
    go_enter Tryd.func48, Tryd.ntmps48
    go_wp2_with fail
    refine HM.out.mono ?_
    rintro e w1 ⟨rfl, rfl⟩
    go_wp2_with fail
    go_ret2
    exact ⟨none, 0, rfl, World.ownsRow_nil _ _ _ _, Below.refl _ _⟩
  have g3 : ¬ m < 1 := by omega
  rcases Int.lt_or_le n m with h4 | h4
  · rw [if_pos (.inr h4)]
    clear hq hcap hadr hl HL h1 h2 h3
    go_enter Tryd.func48, Tryd.ntmps48
    go_wp2_with fail
    refine HM.out.mono ?_
    rintro e w1 ⟨rfl, rfl⟩
    go_wp2_with fail
    go_ret2
    exact ⟨none, 0, rfl, World.ownsRow_nil _ _ _ _, Below.refl _ _⟩
  rw [if_neg (by omega)]
  obtain ⟨n', rfl⟩ : ∃ k : Nat, n = k := ⟨n.toNat, by omega⟩
  obtain ⟨m', rfl⟩ : ∃ k : Nat, m = k := ⟨m.toNat, by omega⟩
  rw [Int.toNat_natCast, Int.toNat_natCast]
  have g4 : ¬ (n' : Int) < (m' : Int) := by omega
  rcases hadr with ⟨rfl, h5, h6⟩ | ⟨g, rfl⟩
  · omega
  have HC := hide (growth_any n' n' m' (some ⟨g, 0, none⟩) n' true (ls.take n') w (Nat.le_refl _) (by omega) (by omega) (by omega) (HL.out.take (by omega)) (Nat.le_refl _))
  unfold HashesPost at HC
  obtain ⟨L, hL⟩ : ∃ L, growthV (ls.take n') m' true = L := ⟨_, rfl⟩
  rw [hL] at HC ⊢
  have g5 : (n' : Int) ≤ (ce : Int) := by omega
  have hmm : (q : Int) ≤ 4096 := by omega
  clear hq hcap hl HL h1 h2 h3 h4 hL
  go_enter Tryd.func48, Tryd.ntmps48
  go_wp2_with fail
  refine HM.out.mono ?_
  rintro e w1 ⟨rfl, rfl⟩
  go_wp2_with fail
  refine HC.out.mono ?_
  rintro e w2 ⟨a, c, rfl, ho, hb⟩
  have HO := hide ho
  have HB := hide hb
  clear ho hb HC
  go_wp2_with fail
  go_ret2
  exact ⟨a, c, rfl, HO.out, HB.out⟩
end Go.Proofs.YtbinmkigolkhcaaDoor
