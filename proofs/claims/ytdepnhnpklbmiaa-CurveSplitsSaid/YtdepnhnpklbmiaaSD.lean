/- The specification's Split. -/
import Derived.Test.YtdepnhnpklbmiaaAA
import Derived.Test.YtdepnhnpklbmiaaA8
import Derived.Test.YtdepnhnpklbmiaaRV
import Derived.Test.YtdepnhnpklbmiaaW19
import Derived.Deep.CutBlock
import Derived.BigQuiet
namespace Go.Proofs.Ytdepnhnpklbmiaa
open Go.RowKit Go.Sort Go.BigFrame

theorem info64 : (Try.prog.info? 64).map (fun i => (i.zero, i.size, i.bytes)) = some (some (.agg #[.int .i64 0, .slice none 0 0]), 2, 32) := by kernel_rfl
theorem split_err {cs : Nat → Cu} {n : Nat} {total : Int} {e : Int} (h : splitE cs n total = e) (he : e ≠ 0) : splitX cs n total = [] ∧ splitC cs n total = 0 ∧ splitP cs n total = 0 := by
  unfold splitX splitC splitP
  rw [h]
  exact ⟨if_neg he, if_neg he, if_neg he⟩
theorem split_bad {cs : Nat → Cu} {n : Nat} {total : Int} {e : Int} (h : splitE cs n total = e) (he : e ≠ 0) (w w' : World) (hb : Below w.heap.size w w') : SplitPost cs n total w (.returned (.tuple #[.slice none 0 0, .int .i64 0, .int .i64 0, .int .i64 e])) w' := by
  obtain ⟨h1, h2, h3⟩ := split_err h he
  exact ⟨none, 0, 0, by rw [h, h2, h3], by rw [h1]; exact ⟨rfl, .inl rfl⟩, hb⟩
theorem results43 (W : World) (x0 x1 x2 x3 a b c d : Value) (rest : List Value) :
    (results Try.f43 (x0 :: x1 :: x2 :: x3 :: a :: b :: c :: d :: rest).toArray).run Try.prog W = .ok (.tuple #[a, b, c, d]) W := by
  simp [results, Try.results43, go_sem]
theorem cell_one_new3 (W : World) (u : Value) (j : Nat) (x : Value) (h : [u][j]? = some x) : (W.alloc (.cells #[u] 3)).cell? ((⟨W.heap.size, 0, none⟩ : Addr).add j) = some x := by
  have a0 := heap_alloc_new W (.cells #[u] 3)
  have d0 := cell_of_heap' a0 0
  simp at d0
  match j, h with
  | 0, h => simp at h; subst h; simp [Addr.add]
  | j + 1, h => simp at h
theorem cell_two_new64 (W : World) (u v : Value) (j : Nat) (x : Value) (h : [u, v][j]? = some x) : (W.alloc (.cells #[u, v] 64)).cell? ((⟨W.heap.size, 0, none⟩ : Addr).add j) = some x := by
  have a0 := heap_alloc_new W (.cells #[u, v] 64)
  have d0 := cell_of_heap' a0 0
  have d1 := cell_of_heap' a0 1
  simp at d0 d1
  match j, h with
  | 0, h => simp at h; subst h; simp [Addr.add]
  | 1, h => simp at h; subst h; simp [Addr.add]
  | j + 2, h => simp at h

set_option maxHeartbeats 6000000 in
set_option maxRecDepth 100000 in
theorem refSplit_any (A : Option Addr) (n cap : Nat) (cs : Nat → Cu) (ss : Nat → Option Addr × Nat × Nat) (total : Int) (w : World) (hx : CurvesAt w.heap.size w A n cs ss) (hcap : n ≤ cap) (hm : ∀ i, i < n → (ss i).2.1 ≤ (ss i).2.2 ∧ (ss i).2.2 ≤ 9223372036854775807) (ht : -9223372036854775808 ≤ total ∧ total ≤ 9223372036854775807) :
    Calls Try.prog 43 #[.slice A n cap, .int .i64 total] w (SplitPost cs n total w) := by
  have mixed := mixedOrders
  obtain ⟨i0, hi0, hz0, hz1, hz2⟩ := info_parts info64
  by_cases h8 : 8 < n
  · have hd : (8 : Int) < (n : Int) := by omega
    have HE : Hid (splitE cs n total = 3) := if_pos (by omega)
    clear hx hm
    go_enter Try.func43, Try.ntmps43
    go_wp2_with fail
    refine bodyPost_ret (results43 _ _ _ _ _ _ _ _ _ _) rfl ?_
    exact split_bad HE.out (by decide) _ _ (Below.refl _ _)
  have hd : ¬ (8 : Int) < (n : Int) := by omega
  have HX := hide hx
  have HM := hide hm
  have HT := hide ht
  have HC := hide hcap
  obtain ⟨p, hp⟩ : ∃ p, w.heap.size = p := ⟨_, rfl⟩
  clear hx hm ht hcap
  go_enter Try.func43, Try.ntmps43
  go_wp2_with fail
  go_loopw [8, 9, 10, 12] (fun vlo vhi vr vi wr => ∃ (i : Nat) (L : List Rw) (a : Option Addr) (c : Nat), i ≤ n ∧ vi = .int .i64 i ∧ vr = .slice a i c ∧ vlo = .int .i64 (sumTo (fun j => (cs j).fr) i) ∧ vhi = .int .i64 (sumTo (fun j => (cs j).fr + ((cs j).sl.length : Int)) i) ∧ Hid (RowsW p wr a i c L) ∧ Hid (AreR cs L) ∧ Hid (∀ j, j < i → okC (cs j) = true) ∧ Hid (Below p w wr)) (fun _ _ _ vi _ => n - (intOf vi).toNat)
  case atStart => exact ⟨0, [], none, 0, Nat.zero_le _, rfl, rfl, by simp [sumTo], by simp [sumTo], RowsW.nil _ _, fun i r h => by simp at h, fun j h => absurd h (Nat.not_lt_zero _), Below.refl _ _⟩
  case round =>
    obtain ⟨i, L, a, c, hi, rfl, rfl, rfl, rfl, HR, HAR, HOK, HB⟩ := hrel
    by_cases hin : i < n
    · as_aux_lemma =>
        have hin' : (i : Int) < (n : Int) := by omega
        obtain ⟨b, off, rfl, hb, c0, c1, c2⟩ := HX.out.at_ hin
        rw [hp] at hb
        have hsz := HB.out.size
        rw [hp] at hsz
        have KB : Hid (∀ W', Below wr.heap.size wr W' → W'.cell? ⟨b, off + i * 3, none⟩ = some (.int .i64 (cs i).fr) ∧ W'.cell? ⟨b, off + i * 3 + 1, none⟩ = some (.int .i64 (cs i).fst) ∧ W'.cell? ⟨b, off + i * 3 + 2, none⟩ = some (.slice (ss i).1 (ss i).2.1 (ss i).2.2)) := fun W' h => by
          have h2 := HB.out.trans (h.mono hsz)
          exact ⟨(h2.cell (p := ⟨b, off + i * 3, none⟩) hb).trans c0, (h2.cell (p := ⟨b, off + i * 3 + 1, none⟩) hb).trans c1, (h2.cell (p := ⟨b, off + i * 3 + 2, none⟩) hb).trans c2⟩
        have hcu := HX.out.cu i hin
        have hmi := HM.out i hin
        have HSL : Hid (∀ W', Below wr.heap.size wr W' → IntsAt W'.heap.size W' (ss i).1 (ss i).2.1 (cs i).sl) := fun W' h => by
          have h2 := HB.out.trans (h.mono hsz)
          rw [← hp] at h2
          exact (hcu.now h2 (Nat.le_refl _)).sl
        have HS1 : Hid (sumTo (fun j => (cs j).fr) (i + 1) = sumTo (fun j => (cs j).fr) i + (cs i).fr) := rfl
        have HS2 : Hid (sumTo (fun j => (cs j).fr + ((cs j).sl.length : Int)) (i + 1) = sumTo (fun j => (cs j).fr + ((cs j).sl.length : Int)) i + ((cs i).fr + ((cs i).sl.length : Int))) := rfl
        have hr1 := sumTo_range (f := fun j => (cs j).fr) (M := 1048576) i (fun j hj => okC_fr (HOK.out j hj))
        have hr2 := sumTo_range (f := fun j => (cs j).fr + ((cs j).sl.length : Int)) (M := 1048640) i (fun j hj => by have := okC_fr (HOK.out j hj); have := okC_len (HOK.out j hj); omega)
        have HBAD : Hid (okC (cs i) = false → splitE cs n total = 2) := fun h => by
          show _ = _
          unfold splitE
          rw [if_neg (by omega), if_neg (by omega), if_pos]
          rcases hh : allOk cs n with _ | _
          · rfl
          · rw [(allOk_iff cs n).1 hh i hin] at h
            cases h
        have HOK2 : Hid (okC (cs i) = true → ∀ j, j < i + 1 → okC (cs j) = true) := fun h j hj => by
          rcases Nat.lt_or_ge j i with q | q
          · exact HOK.out j q
          · obtain rfl : j = i := by omega
            exact h
        have hlen := hcu.sl.1
        have HV := hide (refValid_any (cs i) (ss i).1 (ss i).2.1 (ss i).2.2 wr (HSL.out wr (Below.refl _ _)) (by omega))
        have HAR2 : Hid (∀ r : Rw, r.1 = cs i → AreR cs (L ++ [r])) := fun r h => HAR.out.snoc (by rw [HR.out.len]; exact h)
        generalize hci : cs i = ci at KB HSL HS1 HS2 HBAD HOK2 hlen HV HAR2
        generalize ss i = si at KB HSL HV hlen hmi
        obtain ⟨Ai, ni, ki⟩ := si
        have KB : Hid (∀ W', Below wr.heap.size wr W' → W'.cell? ⟨b, off + i * 3, none⟩ = some (.int .i64 ci.fr) ∧ W'.cell? ⟨b, off + i * 3 + 1, none⟩ = some (.int .i64 ci.fst) ∧ W'.cell? ⟨b, off + i * 3 + 2, none⟩ = some (.slice Ai ni ki)) := KB
        have HSL : Hid (∀ W', Below wr.heap.size wr W' → IntsAt W'.heap.size W' Ai ni ci.sl) := HSL
        have hmi : ni ≤ ki ∧ ki ≤ 9223372036854775807 := hmi
        have hlen : ci.sl.length = ni := hlen
        have HV : Hid (Calls Try.prog 20 #[.agg #[.int .i64 ci.fr, .int .i64 ci.fst, .slice Ai ni ki]] wr fun e w' => e = .returned (.bool (okC ci)) ∧ Gr wr w') := HV
        obtain ⟨S1, hS1⟩ : ∃ S, sumTo (fun j => (cs j).fr) i = S := ⟨_, rfl⟩
        obtain ⟨S2, hS2⟩ : ∃ S, sumTo (fun j => (cs j).fr + ((cs j).sl.length : Int)) i = S := ⟨_, rfl⟩
        rw [hS1] at HS1 hr1 ⊢
        rw [hS2] at HS2 hr2 ⊢
        obtain ⟨k0, k1, k2⟩ := KB.out wr (Below.refl _ _)
        have HMI := hide hmi
        have HLEN := hide hlen
        have HR1 := hide hr1
        have HR2 := hide hr2
        clear hcu c0 c1 c2 hmi hlen hr1 hr2 hS1 hS2 hci
        go_wp2_with fail
        refine HV.out.mono ?_
        rintro e w5 ⟨rfl, hg⟩
        have hb5 := hg.below
        obtain ⟨l0, l1, l2⟩ := KB.out w5 hb5
        have HB5 := hide hb5
        clear hg hb5 k0 k1 k2 HV
        by_cases hok : okC ci = true
        · rw [hok]
          have HO := hide (Out_w ci Ai ni ki w5 (HSL.out w5 HB5.out) HMI.out.1 HMI.out.2 hok)
          have HOC := hide hok
          clear hok
          go_wp2_with fail
          refine HO.out.mono ?_
          rintro e w6 ⟨ad, k6, rfl, hk6, hk7, hint, had, hb⟩
          have HB6 : Hid (Below wr.heap.size wr w6) := HB5.out.trans (hb.mono HB5.out.size)
          have HRW := hide (HR.out.later HB6.out)
          have hlt6 : ad.block < w6.heap.size := by
            rcases hint.2 with h0 | ⟨b2, off2, e, hb2, -⟩
            · omega
            · injection e with e
              rw [e]
              exact hb2
          have hne6 : Value.ownBlock (.slice a i c) ≠ some ad.block := by
            intro e
            have h1 := (HRW.out.own.lt _ e).2
            have h2 := (HR.out.own.lt _ e).2
            have := HB5.out.size
            omega
          have HI6 := hide hint
          have HN6 := hide hne6
          have HK6 := hide (And.intro hk6 hk7)
          have HL6 := hide hlt6
          obtain ⟨W7, hW7⟩ : ∃ W, w6.alloc (.cells #[.int .i64 ci.fr, .slice (some ad) (ni + 1) k6] 64) = W := ⟨_, rfl⟩
          have hb7 : Below w6.heap.size w6 W7 := by rw [← hW7]; exact (Below.refl _ _).alloc (Nat.le_refl _) _
          have HB7 : Hid (Below wr.heap.size wr W7) := HB6.out.trans (hb7.mono HB6.out.size)
          have HR7 := hide (HRW.out.later hb7)
          have HNEW : Hid (∀ j u, [Value.int .i64 ci.fr, Value.slice (some ad) (ni + 1) k6][j]? = some u → W7.cell? ((⟨w6.heap.size, 0, none⟩ : Addr).add j) = some u) := by
            intro j u h
            rw [← hW7]
            exact cell_two_new64 _ _ _ _ _ h
          have HBB : Hid (i + 1 ≤ maxLen) := hide (by unfold maxLen; omega)
          have HBC : Hid ((i + 1) * 32 ≤ 140737488355328) := hide (by omega)
          have HSZ : Hid (p ≤ W7.heap.size) := by have := HB7.out.size; show p ≤ _; omega
          have HI7 : Hid (IntsAt W7.heap.size W7 (some ad) (ni + 1) (vals ci (ni + 1))) := HI6.out.now hb7 (Nat.le_refl _)
          have HL7 : Hid (ad.block < W7.heap.size) := by have := hb7.size; show _ < _; omega
          clear hint hb hne6 hk6 hk7 hlt6 hb7 l0 l1 l2 HO had
          subst hW7
          go_wp2_with (
            at_builtin; refine wpList_append_own_at _ rfl (.tmp 35) (.tmp 41) _ rfl p 64 i0 (.agg #[.int .i64 0, .slice none 0 0]) 2 32 Try.underlying87 hi0 hz0 hz1 hz2 rfl (by decide) _ _ _ rfl HR7.out.own ⟨w6.heap.size, 0, none⟩ 1 1 [.int .i64 ci.fr, .slice (some ad) (ni + 1) k6] rfl rfl HNEW.out (by intro u hu; simp at hu; rcases hu with rfl | rfl <;> rfl) HBB.out HBC.out HSZ.out ?_; intro v8 w8 hown8 hgrow8 hnil8 hat8; obtain ⟨a8, c8, rfl⟩ := own_slice hown8; have HR8 : Hid (RowsW p w8 a8 (i + 1) c8 (L ++ [((ci, ad, k6) : Rw)])) := hide (RowsW.snocN HR7.out HLEN.out HI7.out HK6.out HL7.out HN6.out hown8 hgrow8 hat8); have HB8 : Hid (Below p w w8) := hide ((HB.out.trans (HB7.out.mono hsz)).grown hgrow8 HSZ.out (fun k e => (HR7.out.own.lt k e).1)); clear hown8 hgrow8 hnil8 hat8
            have e8 : (L ++ [((ci, ad, k6) : Rw)])[i]? = some (ci, ad, k6) := by
              have := get_snoc L ((ci, ad, k6) : Rw)
              rwa [HR.out.len] at this
            obtain ⟨g8, rfl, h81, h82, h83, h84, d0, d1, -⟩ := HR8.out.atN e8 HLEN.out
            have hfr := okC_fr HOC.out
            have hl64 := okC_len HOC.out
            rw [HLEN.out] at hl64
            have hr1 := HR1.out
            have hr2 := HR2.out
            obtain ⟨q, hq⟩ : ∃ q, i + 1 = q := ⟨_, rfl⟩
            rw [hq] at HR8 ⊢
            have i8 : (i : Int) < (q : Int) := by omega
            have HTO : Hid (Calls Try.prog 65 #[.agg #[.int .i64 ci.fr, .slice (some ad) (ni + 1) k6]] w8 fun e w' => e = .returned (.int .i64 (ci.fr + ni)) ∧ Gr w8 w') := by
              have := To_v ci.fr (some ad) (ni + 1) k6 w8 (by omega) (by omega)
              rwa [show ci.fr + ((ni + 1 : Nat) : Int) - 1 = ci.fr + ni by omega] at this
            have hw1 : IntKind.i64.wrap (S1 + ci.fr) = S1 + ci.fr := by rw [IntKind.wrap_i64]; omega
            have hw2 : IntKind.i64.wrap (S2 + (ci.fr + ni)) = S2 + (ci.fr + ni) := by rw [IntKind.wrap_i64]; omega
            have HT1 : Hid (sumTo (fun j => (cs j).fr) (i + 1) = S1 + ci.fr) := HS1.out
            have HT2 : Hid (sumTo (fun j => (cs j).fr + ((cs j).sl.length : Int)) (i + 1) = S2 + (ci.fr + ni)) := by show _ = _; rw [HS2.out, HLEN.out]
            have HARN := hide (HAR2.out (ci, ad, k6) rfl)
            have HOKN := hide (HOK2.out HOC.out)
            clear hfr hl64 hr1 hr2 h81 h82 h83 h84 e8 HBAD HV HSL KB HS1 HS2 HAR2 HOK2 HI6 HI7 HN6 HK6 HL6 HL7 HNEW HBB HBC HRW HR7 HR HB HB6 HB7 HB5)
          refine HTO.out.mono ?_
          rintro e w9 ⟨rfl, hg9⟩
          have HR9 := hide (HR8.out.later hg9.below)
          have HB9 : Hid (Below p w w9) := HB8.out.trans (hg9.below.mono (by have := HB8.out.size; rw [hp] at this; exact this))
          clear HTO hg9 d0 d1 HR8 HB8
          go_wp2_with fail
          go_roundw
          case rel => exact ⟨q, _, _, _, by omega, by congr 1; omega, rfl, by rw [← hq, HT1.out], by rw [← hq, HT2.out], HR9, HARN, by rw [← hq]; exact HOKN, HB9⟩
          case measure => simp [intOf]; omega
        · have hok : okC ci = false := by simpa using hok
          rw [hok]
          have HE := hide (HBAD.out hok)
          clear hok
          go_wp2_with fail
          refine bodyPost_ret (results43 _ _ _ _ _ _ _ _ _ _) rfl ?_
          exact split_bad HE.out (by decide) _ _ (by rw [hp]; exact HB.out.trans (HB5.out.mono hsz))
    · as_aux_lemma =>
        obtain rfl : n = i := by omega
        have hnn : ¬ (n : Int) < (n : Int) := by omega
        have hsz := HB.out.size
        rw [hp] at hsz
        by_cases hn0 : n = 0
        · have hz : ((n : Int) == 0) = true := by simp [hn0]
          have HE : Hid (splitE cs n total = 2) := by
            show _ = _
            unfold splitE
            rw [if_neg (by omega), if_pos hn0]
          clear hn0
          go_wp2_with fail
          refine bodyPost_ret (results43 _ _ _ _ _ _ _ _ _ _) rfl ?_
          exact split_bad HE.out (by decide) _ _ (by rw [hp]; exact HB.out)
        have hz : ((n : Int) == 0) = false := beq_eq_false_iff_ne.2 (by omega)
        have hal : allOk cs n = true := (allOk_iff cs n).2 HOK.out
        have hE : splitE cs n total = if total < sumTo (fun j => (cs j).fr) n ∨ sumTo (fun j => (cs j).fr + ((cs j).sl.length : Int)) n < total then 10 else 0 := by
          unfold splitE
          rw [if_neg (by omega), if_neg hn0, if_neg (by rw [hal]; decide)]
        obtain ⟨S1, hS1⟩ : ∃ S, sumTo (fun j => (cs j).fr) n = S := ⟨_, rfl⟩
        obtain ⟨S2, hS2⟩ : ∃ S, sumTo (fun j => (cs j).fr + ((cs j).sl.length : Int)) n = S := ⟨_, rfl⟩
        rw [hS1, hS2] at hE ⊢
        clear hS1 hS2
        by_cases h1 : total < S1
        · have HE : Hid (splitE cs n total = 10) := by show _ = _; rw [hE, if_pos (.inl h1)]
          clear hn0 hE hal
          go_wp2_with fail
          refine bodyPost_ret (results43 _ _ _ _ _ _ _ _ _ _) rfl ?_
          exact split_bad HE.out (by decide) _ _ (by rw [hp]; exact HB.out)
        by_cases h2 : S2 < total
        · have HE : Hid (splitE cs n total = 10) := by show _ = _; rw [hE, if_pos (.inr h2)]
          clear hn0 hE hal
          go_wp2_with fail
          refine bodyPost_ret (results43 _ _ _ _ _ _ _ _ _ _) rfl ?_
          exact split_bad HE.out (by decide) _ _ (by rw [hp]; exact HB.out)
        have hE : splitE cs n total = 0 := by rw [hE, if_neg (by omega)]
        obtain ⟨M, HF, hpr, hval⟩ := found hE
        have HX2 : Hid (splitX cs n total = (List.range n).map (fun j => (cs j).fr + (kV cs n total j : Int)) ∧ splitC cs n total = sumTo (fun j => valK (cs j) (kV cs n total j)) n ∧ splitP cs n total = priceV cs n total) := ⟨if_pos hE, if_pos hE, if_pos hE⟩
        obtain ⟨K, hK⟩ : ∃ K, kV cs n total = K := ⟨_, rfl⟩
        rw [hK] at HF HX2 hpr hval
        rw [← hpr, ← hval] at HX2
        have HF := hide HF
        have HE := hide hE
        clear hE hpr hval hK hal
        -- the rest is laid out
        obtain ⟨r0, hr0⟩ : ∃ r, L[0]? = some r := ⟨L[0]'(by rw [HR.out.len]; omega), List.getElem?_eq_getElem _⟩
        obtain ⟨g, rfl, hg1, hg2, hg3, hg4, -, -, -⟩ := HR.out.at_ hr0
        have HNEW : Hid (∀ j u, (cellsR L)[j]? = some u → wr.cell? ((⟨g, 0, none⟩ : Addr).add j) = some u) := fun j u h => HR.out.own.cells (g := g) rfl j u h
        have HLN : Hid ((cellsR L).length = n * 2) := by show _ = _; rw [cellsR_length, HR.out.len]
        have HBB : Hid (0 + n ≤ maxLen) := hide (by unfold maxLen; omega)
        have HBC : Hid ((0 + n) * 32 ≤ 140737488355328) := hide (by omega)
        have HHD : Hid (¬ 8 < n) := h8
        obtain ⟨p2, hp2⟩ : ∃ p2, wr.heap.size = p2 := ⟨_, rfl⟩
        clear hr0 hg4
        go_wp2_with (
          at_builtin; refine wpList_append_own_at _ rfl (.tmp 68) (.tmp 69) _ rfl p2 64 i0 (.agg #[.int .i64 0, .slice none 0 0]) 2 32 Try.underlying87 hi0 hz0 hz1 hz2 rfl (by decide) (.slice none 0 0) 0 [] rfl (World.ownsRow_nil _ _ _ _) ⟨g, 0, none⟩ n c (cellsR L) rfl HLN.out HNEW.out (cellsR_one L) HBB.out HBC.out (by rw [hp2]; exact Nat.le_refl _) ?_; intro v5 w5 hown5 hgrow5 hnil5 hat5; obtain ⟨a5, c5, rfl⟩ := own_slice hown5
          have hbl5 : Below wr.heap.size wr w5 := (Below.refl _ _).grown hgrow5 (Nat.le_refl _) (fun k e => by cases e)
          simp only [Nat.zero_add] at hown5 ⊢
          obtain ⟨g5, rfl, hsp⟩ := SpI2.start (a' := a5) (c' := c5) HR.out HAR.out (by omega) (by rw [hp2]; exact hown5) hbl5
          have HSP := hide hsp
          rw [hp2] at HSP
          have hg5 : p2 ≤ g5 := (hown5.lt _ rfl).1
          have hgg : g5 ≠ g := by omega
          have HN := hide (And.intro (show 0 < n by omega) (show n ≤ 8 by omega))
          have hw2 : IntKind.i64.wrap ((n : Int) - 2) = (n : Int) - 2 := by rw [IntKind.wrap_i64]; omega
          have hw3 : wrap64 ((n : Int) - 2) = (n : Int) - 2 := by rw [IntWalk.wrap64_in _ (by omega)]
          clear hown5 hgrow5 hnil5 hat5 hbl5 hsp HNEW HLN HBB HBC HHD)
        obtain ⟨W2, rfl⟩ : ∃ W2, W2 = wr := ⟨_, rfl⟩
        go_loopw [13] (fun vi wr => ∃ (m : Nat) (L5 : List Rw), m + 1 ≤ n ∧ vi = .int .i64 ((n : Int) - 2 - m) ∧ Hid (SpI2 cs n p2 W2 wr g5 c5 L5 m)) (fun vi _ => (intOf vi + 1).toNat)
        case atStart => exact ⟨0, L, by omega, by congr 1; omega, HSP⟩
        case round =>
          clear HSP hw2 hw3
          obtain ⟨m, L5, hmn, rfl, HSP⟩ := hrel
          by_cases hm1 : m + 1 < n
          · as_aux_lemma =>
              obtain ⟨i, hi2⟩ : ∃ i : Nat, i + 2 + m = n := ⟨n - 2 - m, by omega⟩
              rw [show (n : Int) - 2 - m = i by omega]
              obtain ⟨i1, hi1⟩ : ∃ i1 : Nat, i + 1 = i1 := ⟨_, rfl⟩
              have hw1 : IntKind.i64.wrap ((i : Int) + 1) = (i1 : Int) := by rw [IntKind.wrap_i64]; omega
              have q1 : (i : Int) < (n : Int) := by omega
              have q2 : (i1 : Int) < (n : Int) := by omega
              obtain ⟨⟨ci, ad1, k1⟩, e1⟩ : ∃ r, L[i]? = some r := ⟨L[i]'(by rw [HR.out.len]; omega), List.getElem?_eq_getElem _⟩
              obtain ⟨⟨cj, ad2, k2⟩, e2⟩ : ∃ r, L5[i1]? = some r := ⟨L5[i1]'(by rw [HSP.out.rows.len]; omega), List.getElem?_eq_getElem _⟩
              obtain ⟨⟨ck, ad3, k3⟩, e3⟩ : ∃ r, L5[i]? = some r := ⟨L5[i]'(by rw [HSP.out.rows.len]; omega), List.getElem?_eq_getElem _⟩
              have hci : ci = cs i := HAR.out i _ e1
              have hcj : cj = restC cs n i1 := by
                have := HSP.out.are i1 _ e2
                rwa [if_pos (by omega)] at this
              obtain ⟨ni, hni⟩ : ∃ k, ci.sl.length = k := ⟨_, rfl⟩
              obtain ⟨nj, hnj⟩ : ∃ k, cj.sl.length = k := ⟨_, rfl⟩
              have hsz2 := HSP.out.bl.size
              have HLT : Hid (∀ W', Below wr.heap.size wr W' → Below W2.heap.size W2 W') := fun W' h => by
                rw [hp2]
                exact HSP.out.bl.trans (h.mono (by omega))
              have KK : Hid (∀ W', Below wr.heap.size wr W' → W'.cell? ⟨g, i * 2, none⟩ = some (.int .i64 ci.fr) ∧ W'.cell? ⟨g, i * 2 + 1, none⟩ = some (.slice (some ad1) (ni + 1) k1) ∧ W'.cell? ⟨g5, i1 * 2, none⟩ = some (.int .i64 cj.fr) ∧ W'.cell? ⟨g5, i1 * 2 + 1, none⟩ = some (.slice (some ad2) (nj + 1) k2) ∧ (∃ v, W'.cell? ⟨g5, i * 2, none⟩ = some v) ∧ (∃ v, W'.cell? ⟨g5, i * 2 + 1, none⟩ = some v) ∧ W'.frozen? ⟨g5, i * 2, none⟩ = false ∧ W'.frozen? ⟨g5, i * 2 + 1, none⟩ = false) := fun W' h => by
                obtain ⟨x, ex, -, -, -, -, a1, a2, -⟩ := (HR.out.later (HLT.out W' h)).atN e1 hni
                injection ex with ex; injection ex with ex; subst ex
                obtain ⟨x, ex, -, -, -, -, a3, a4, -⟩ := (HSP.out.rows.later h).atN e2 hnj
                injection ex with ex; injection ex with ex; subst ex
                obtain ⟨x, ex, -, -, -, -, a5, a6, a7⟩ := (HSP.out.rows.later h).atN e3 rfl
                injection ex with ex; injection ex with ex; subst ex
                exact ⟨a1, a2, a3, a4, ⟨_, a5⟩, ⟨_, a6⟩, a7 _, a7 _⟩
              have hwd1 : Wd 1 ci := by rw [hci]; exact wd_ok (HOK.out i (by omega))
              have hwd2 : Wd (n - i1) cj := by rw [hcj]; exact rest_wd HOK.out (by omega)
              have r1 := HR.out.row i _ e1
              have r2 := HSP.out.rows.row i1 _ e2
              have HJO : Hid (∀ W', Below wr.heap.size wr W' → Calls Try.prog 67 #[.agg #[.int .i64 ci.fr, .slice (some ad1) (ni + 1) k1], .agg #[.int .i64 cj.fr, .slice (some ad2) (nj + 1) k2]] W' (fun e w' => ∃ ad c, e = .returned (.agg #[.int .i64 (ci.fr + cj.fr), .slice (some ad) (ni + nj + 1) c]) ∧ ni + nj + 1 ≤ c ∧ c ≤ maxLen ∧ IntsAt w'.heap.size w' (some ad) (ni + nj + 1) (vals (joinC ci cj) (ni + nj + 1)) ∧ W'.heap.size ≤ ad.block ∧ Below W'.heap.size W' w')) := fun W' h => by
                have a1 := (r1.later (HLT.out W' h))
                have a2 := (r2.later h)
                have b1 := a1.ints
                have b2 := a2.ints
                have b3 := a1.cap
                have b4 := a2.cap
                dsimp only at b1 b2 b3 b4
                rw [hni] at b1 b3
                rw [hnj] at b2 b4
                unfold maxLen at b3 b4
                exact Joined_w (p := 1) (q := n - i1) (by decide) (by omega) ci cj _ ni k1 _ nj k2 W' hni hnj b1 b2 b3.1 b4.1 (by omega) (by omega) hwd1 hwd2
              have HJN : Hid (joinC ci cj = restC cs n i) := by
                show _ = _
                rw [hci, hcj, rest_step cs (i := i) (by omega), hi1]
              have HJL : Hid ((joinC ci cj).sl.length = ni + nj) := by
                show (sortI (ci.sl ++ cj.sl)).length = _
                rw [sortI_length, List.length_append, hni, hnj]
              have HJF : Hid ((joinC ci cj).fr = ci.fr + cj.fr) := rfl
              have KS : Hid (∀ W' u v, Below wr.heap.size wr W' → ((W'.setCell ⟨g5, i * 2, none⟩ u).setCell ⟨g5, i * 2 + 1, none⟩ v).cell? ⟨g, i * 2, none⟩ = some (.int .i64 ci.fr) ∧ ((W'.setCell ⟨g5, i * 2, none⟩ u).setCell ⟨g5, i * 2 + 1, none⟩ v).cell? ⟨g, i * 2 + 1, none⟩ = some (.slice (some ad1) (ni + 1) k1) ∧ ((W'.setCell ⟨g5, i * 2, none⟩ u).setCell ⟨g5, i * 2 + 1, none⟩ v).cell? ⟨g5, i1 * 2, none⟩ = some (.int .i64 cj.fr) ∧ ((W'.setCell ⟨g5, i * 2, none⟩ u).setCell ⟨g5, i * 2 + 1, none⟩ v).cell? ⟨g5, i1 * 2 + 1, none⟩ = some (.slice (some ad2) (nj + 1) k2) ∧ (∃ x, ((W'.setCell ⟨g5, i * 2, none⟩ u).setCell ⟨g5, i * 2 + 1, none⟩ v).cell? ⟨g5, i * 2, none⟩ = some x) ∧ (∃ x, ((W'.setCell ⟨g5, i * 2, none⟩ u).setCell ⟨g5, i * 2 + 1, none⟩ v).cell? ⟨g5, i * 2 + 1, none⟩ = some x) ∧ ((W'.setCell ⟨g5, i * 2, none⟩ u).setCell ⟨g5, i * 2 + 1, none⟩ v).frozen? ⟨g5, i * 2, none⟩ = false ∧ ((W'.setCell ⟨g5, i * 2, none⟩ u).setCell ⟨g5, i * 2 + 1, none⟩ v).frozen? ⟨g5, i * 2 + 1, none⟩ = false) := fun W' u v h => by
                obtain ⟨a0, a1, a2, a3, a4, a5, a6, a7⟩ := KK.out W' h
                refine ⟨(two_set (.inl hgg)).trans a0, (two_set (.inl hgg)).trans a1, (two_set (.inr (by omega))).trans a2, (two_set (.inr (by omega))).trans a3, set_some (set_some a4), set_some (set_some a5), ?_, ?_⟩
                · rw [World.frozen?_setCell, World.frozen?_setCell]
                  exact a6
                · rw [World.frozen?_setCell, World.frozen?_setCell]
                  exact a7
              have K0 := hide (KK.out wr (Below.refl _ _))
              have K1 := hide (KK.out wr.drew ((Below.refl wr.heap.size wr).drew))
              have HJ1 := hide (HJO.out wr.drew ((Below.refl wr.heap.size wr).drew))
              have HI2 := hide hi2
              clear r1 r2 hwd1 hwd2 e1 e2 e3 hni hnj hci hcj hi2 hsz2 hm1 hmn hi1
              obtain ⟨k10, k11, k12, k13, ⟨v4, k14⟩, ⟨v5, k15⟩, k16, k17⟩ := K0.out
              go_wp2_with fail
              go_region_held3 (fun w' => w'.cell? ⟨g, i * 2, none⟩ = some (.int .i64 ci.fr) ∧ w'.cell? ⟨g, i * 2 + 1, none⟩ = some (.slice (some ad1) (ni + 1) k1) ∧ w'.cell? ⟨g5, i1 * 2, none⟩ = some (.int .i64 cj.fr) ∧ w'.cell? ⟨g5, i1 * 2 + 1, none⟩ = some (.slice (some ad2) (nj + 1) k2) ∧ (∃ v, w'.cell? ⟨g5, i * 2, none⟩ = some v) ∧ (∃ v, w'.cell? ⟨g5, i * 2 + 1, none⟩ = some v) ∧ w'.frozen? ⟨g5, i * 2, none⟩ = false ∧ w'.frozen? ⟨g5, i * 2 + 1, none⟩ = false)
                (first | exact K1.out | exact KK.out _ hb6 | exact KS.out _ _ _ hb6)
                (first | (go_at_call 67; (with_reducible refine HJ1.out.mono ?_); rintro e w6 ⟨ad6, k6, rfl, hk6, hk7, hint6, had6, hb6'⟩; have hb6 : Below wr.heap.size wr w6 := ((Below.refl _ wr).drew).trans hb6'; obtain ⟨l0, l1, l2, l3, ⟨v6, l4⟩, ⟨v7, l5⟩, l6, l7⟩ := KK.out w6 hb6))
              have hi2 := HI2.out
              have HSN : Hid (SpI2 cs n p2 W2 ((w6.setCell ⟨g5, i * 2, none⟩ (.int .i64 (ci.fr + cj.fr))).setCell ⟨g5, i * 2 + 1, none⟩ (.slice (some ad6) (ni + nj + 1) k6)) g5 c5 (L5.set i (joinC ci cj, ad6, k6)) (m + 1)) := by
                have hlt6 : ad6.block < w6.heap.size := by
                  rcases hint6.2 with h0 | ⟨b2, off2, e, hb2, -⟩
                  · omega
                  · injection e with e
                    rw [e]
                    exact hb2
                have hlt5 : g5 < wr.heap.size := (HSP.out.rows.own.lt _ rfl).2
                have hsd : wr.drew.heap.size = wr.heap.size := rfl
                exact (HSP.out.later hp2 hb6).stored hg5 hi2 HJN.out HJL.out hint6 ⟨hk6, hk7⟩ hlt6 (by omega)
              clear hk6 hk7 hint6 had6 hb6' l0 l1 l2 l3 l4 l5 l6 l7 k10 k11 k12 k13 k14 k15 k16 k17 HJO HJ1 KK KS K0 K1 HLT HJN HJL HJF hb6
              have hw5 : IntKind.i64.wrap ((i : Int) - 1) = (n : Int) - 2 - ((m + 1 : Nat) : Int) := by rw [IntKind.wrap_i64]; omega
              have hw6 : wrap64 ((i : Int) - 1) = (n : Int) - 2 - ((m + 1 : Nat) : Int) := by rw [IntWalk.wrap64_in _ (by omega)]; omega
              go_wp2_with fail
              go_roundw
              case rel => exact ⟨m + 1, _, by omega, by congr 1 <;> omega, HSN⟩
              case measure => simp [intOf]; omega
          · as_aux_lemma =>
              obtain rfl : m = n - 1 := by omega
              have hneg : (n : Int) - 2 - ((n - 1 : Nat) : Int) = -1 := by omega
              rw [hneg]
              have HRE : Hid (∀ (j : Nat) (r : Rw), L5[j]? = some r → r.1 = restC cs n j) := fun j r e => by
                have := HSP.out.are j r e
                rwa [if_pos (by omega)] at this
              have HRT := hide HSP.out.rows
              have HRB : Hid (Below W2.heap.size W2 wr) := by show Below _ _ _; rw [hp2]; exact HSP.out.bl
              have HRR := hide (HR.out.later HRB.out)
              have HBW : Hid (Below p w wr) := HB.out.trans (HRB.out.mono hsz)
              clear HSP HRB HR HB
              go_wp2_with fail
              obtain ⟨W3, rfl⟩ : ∃ W3, W3 = wr := ⟨_, rfl⟩
              obtain ⟨p3, hp3⟩ : ∃ p3, W3.heap.size = p3 := ⟨_, rfl⟩
              go_loopw [14, 15, 16, 17] (fun vo vl vp vi wr => ∃ (i : Nat) (a : Option Addr) (co : Nat), i ≤ n ∧ vi = .int .i64 i ∧ vo = .slice a i co ∧ vl = .int .i64 (total - sumTo (fun j => (cs j).fr + (K j : Int)) i) ∧ vp = .int .i64 (prF cs K i) ∧ Hid (wr.ownsRow p3 3 1 (.slice a i co) i (((List.range i).map (fun j => (cs j).fr + (K j : Int))).map (Value.int .i64))) ∧ Hid (Below p3 W3 wr)) (fun _ _ _ vi _ => n - (intOf vi).toNat)
              case atStart => exact ⟨0, none, 0, Nat.zero_le _, rfl, rfl, by simp [sumTo], rfl, World.ownsRow_nil _ _ _ _, Below.refl _ _⟩
              case round =>
                obtain ⟨i, a, co, hi5, rfl, rfl, rfl, rfl, HO, HB⟩ := hrel
                by_cases hin5 : i < n
                · as_aux_lemma =>
                    have q1 : (i : Int) < (n : Int) := by omega
                    obtain ⟨⟨ci, ad1, k1⟩, e1⟩ : ∃ r, L[i]? = some r := ⟨L[i]'(by rw [HRR.out.len]; omega), List.getElem?_eq_getElem _⟩
                    obtain ⟨⟨ck, ad3, k3⟩, e3⟩ : ∃ r, L5[i]? = some r := ⟨L5[i]'(by rw [HRT.out.len]; omega), List.getElem?_eq_getElem _⟩
                    have hci : ci = cs i := HAR.out i _ e1
                    have hck : ck = restC cs n i := HRE.out i _ e3
                    obtain ⟨ni, hni⟩ : ∃ k, ci.sl.length = k := ⟨_, rfl⟩
                    obtain ⟨nk, hnk⟩ : ∃ k, ck.sl.length = k := ⟨_, rfl⟩
                    obtain ⟨lv, hlv⟩ : ∃ q, total - sumTo (fun j => (cs j).fr + (K j : Int)) i = q := ⟨_, rfl⟩
                    rw [hlv]
                    have hl := HF.out.left i hin5
                    rw [hlv, ← hck] at hl
                    have hki := HF.out.kle i hin5
                    rw [← hci, hni] at hki
                    have hmi := HF.out.mle i hin5
                    rw [← hck, hnk] at hmi
                    have hokc : okC ci = true := by rw [hci]; exact HOK.out i hin5
                    have hfr := okC_fr hokc
                    have hn64 := okC_len hokc
                    rw [hni] at hn64
                    have hwk : Wd (n - i) ck := by rw [hck]; exact rest_wd HOK.out hin5
                    have hkfr := hwk.fr
                    have hklen := hwk.len
                    rw [hnk] at hklen
                    have hkb : (-8388608 : Int) ≤ ck.fr ∧ ck.fr ≤ 8388608 := by omega
                    have hlvb : -9000000 ≤ lv ∧ lv ≤ 9000000 := by omega
                    have HVI : Hid (∀ t, t ≤ ni → -1125899906842624 ≤ valK ci t ∧ valK ci t ≤ 1125899906842624) := fun t h => okC_val hokc (by omega)
                    have r1 := HRR.out.row i _ e1
                    have r3 := HRT.out.row i _ e3
                    have KK : Hid (∀ W', Below W3.heap.size W3 W' → W'.cell? ⟨g, i * 2, none⟩ = some (.int .i64 ci.fr) ∧ W'.cell? ⟨g, i * 2 + 1, none⟩ = some (.slice (some ad1) (ni + 1) k1) ∧ W'.cell? ⟨g5, i * 2, none⟩ = some (.int .i64 ck.fr) ∧ W'.cell? ⟨g5, i * 2 + 1, none⟩ = some (.slice (some ad3) (nk + 1) k3)) := fun W' h => by
                      obtain ⟨x, ex, -, -, -, -, a1, a2, -⟩ := (HRR.out.later h).atN e1 hni
                      injection ex with ex; injection ex with ex; subst ex
                      obtain ⟨x, ex, -, -, -, -, a3, a4, -⟩ := (HRT.out.later h).atN e3 hnk
                      injection ex with ex; injection ex with ex; subst ex
                      exact ⟨a1, a2, a3, a4⟩
                    have HTO : Hid (∀ W', Calls Try.prog 65 #[.agg #[.int .i64 ci.fr, .slice (some ad1) (ni + 1) k1]] W' fun e w' => e = .returned (.int .i64 (ci.fr + ni)) ∧ Gr W' w') := fun W' => by
                      have := To_v ci.fr (some ad1) (ni + 1) k1 W' (by omega) (by omega)
                      rwa [show ci.fr + ((ni + 1 : Nat) : Int) - 1 = ci.fr + ni by omega] at this
                    have HV1 : Hid (∀ (W' : World) (t : Nat) (y : Int), Below W3.heap.size W3 W' → t ≤ ni → y = ci.fr + t → Calls Try.prog 54 #[.agg #[.int .i64 ci.fr, .slice (some ad1) (ni + 1) k1], .int .i64 y] W' fun e w' => e = .returned (.int .i64 (valK ci t)) ∧ Gr W' w') := fun W' t y h ht hy => by
                      have b1 := (r1.later h).ints
                      dsimp only at b1
                      rw [hni] at b1
                      have := Value_v ci.fr y (some ad1) (ni + 1) k1 t _ W' b1 (by omega) (by omega) (by omega) hy
                      rwa [vals_at (by omega)] at this
                    have HV3 : Hid (∀ (W' : World), Below W3.heap.size W3 W' → Calls Try.prog 54 #[.agg #[.int .i64 ck.fr, .slice (some ad3) (nk + 1) k3], .int .i64 lv] W' fun e w' => e = .returned (.int .i64 (valK ck (M i))) ∧ Gr W' w') := fun W' h => by
                      have b1 := (r3.later h).ints
                      dsimp only at b1
                      rw [hnk] at b1
                      have := Value_v ck.fr lv (some ad3) (nk + 1) k3 (M i) _ W' b1 (by omega) (by omega) (by omega) hl
                      rwa [vals_at (by omega)] at this
                    have HLT : Hid (∀ W', Below p3 W3 W' → Below W3.heap.size W3 W') := fun W' h => by rw [hp3]; exact h
                    have HSZ : Hid (p3 ≤ wr.heap.size) := by
                      have := HB.out.size
                      rw [hp3] at this
                      exact this
                    have HNB := hide (And.intro hfr (And.intro hn64 (And.intro hlvb (And.intro hki (And.intro hmi (And.intro hl hklen))))))
                    have HCI := hide hci
                    have HCK := hide hck
                    have HNI := hide hni
                    have HNK := hide hnk
                    have HLV := hide hlv
                    have HWK := hide hwk
                    clear e1 e3 r1 r3 hci hck hni hnk hlv hl hki hmi hokc hfr hn64 hkfr hklen hkb hlvb hwk
                    obtain ⟨k10, k11, -, -⟩ := KK.out _ (HLT.out _ HB.out)
                    go_upto_block 6 with fail
                    go_cut [18] (fun sv wx => sv = .int .i64 (ci.fr + (K i : Int)) ∧ Hid (Below p3 W3 wx) ∧ Hid (Below wr.heap.size wr wx))
                    case first =>
                      as_aux_lemma =>
                        go_wp2_with fail
                        clear k10 k11
                        obtain ⟨W4, rfl⟩ : ∃ W4, W4 = wr := ⟨_, rfl⟩
                        go_loopw [18, 19] (fun vx vy wr => ∃ t : Nat, t ≤ K i ∧ vx = .int .i64 lv ∧ vy = .int .i64 (ci.fr + (t : Int)) ∧ Hid (Below p3 W3 wr) ∧ Hid (Below W4.heap.size W4 wr)) (fun _ vy _ => (ci.fr + (K i : Int) + 1 - intOf vy).toNat)
                        case atStart => exact ⟨0, Nat.zero_le _, rfl, by congr 1; omega, HB, Below.refl _ _⟩
                        case round =>
                          obtain ⟨t, htk, rfl, rfl, HBt, HGt⟩ := hrel
                          obtain ⟨hfr, hn64, hlvb, hki, hmi, hl, hklen⟩ := HNB.out
                          obtain ⟨k0, k1', -, -⟩ := KK.out wr (HLT.out _ HBt.out)
                          obtain ⟨i1, hi1⟩ : ∃ i1 : Nat, i + 1 = i1 := ⟨_, rfl⟩
                          have hw1 : IntKind.i64.wrap ((i : Int) + 1) = (i1 : Int) := by rw [IntKind.wrap_i64]; omega
                          obtain ⟨y, hy⟩ : ∃ y, ci.fr + (t : Int) = y := ⟨_, rfl⟩
                          rw [hy]
                          have hyle : y ≤ ci.fr + (ni : Int) := by omega
                          by_cases hlast : i1 < n
                          · as_aux_lemma =>
                              have q2 : (i1 : Int) < (n : Int) := by omega
                              obtain ⟨⟨cj, ad2, k2⟩, e2⟩ : ∃ r, L5[i1]? = some r := ⟨L5[i1]'(by rw [HRT.out.len]; omega), List.getElem?_eq_getElem _⟩
                              have hcj : cj = restC cs n i1 := HRE.out i1 _ e2
                              obtain ⟨nj, hnj⟩ : ∃ k, cj.sl.length = k := ⟨_, rfl⟩
                              have hwj : Wd (n - i1) cj := by rw [hcj]; exact rest_wd HOK.out hlast
                              have r2 := HRT.out.row i1 _ e2
                              have KJ : Hid (∀ W', Below W3.heap.size W3 W' → W'.cell? ⟨g5, i1 * 2, none⟩ = some (.int .i64 cj.fr) ∧ W'.cell? ⟨g5, i1 * 2 + 1, none⟩ = some (.slice (some ad2) (nj + 1) k2)) := fun W' h => by
                                obtain ⟨x, ex, -, -, -, -, a3, a4, -⟩ := (HRT.out.later h).atN e2 hnj
                                injection ex with ex; injection ex with ex; subst ex
                                exact ⟨a3, a4⟩
                              have hjl := hwj.len
                              rw [hnj] at hjl
                              have hjf := hwj.fr
                              have hji : (n : Int) ≤ 8 := by have := HN.out.2; omega
                              have hkj : ck.fr = ci.fr + cj.fr := by
                                rw [HCK.out, rest_step cs (i := i) (by omega), HCI.out, hcj, ← hi1]
                                rfl
                              obtain ⟨z, hz2⟩ : ∃ q, lv - y = q := ⟨_, rfl⟩
                              have hzz : z = cj.fr + (M i : Int) - (t : Int) := by omega
                              have hw2 : IntKind.i64.wrap (lv - y) = z := by rw [IntKind.wrap_i64]; omega
                              obtain ⟨hkm, -⟩ := HF.out.kM i (by omega)
                              have hg3' : g < W3.heap.size := by
                                obtain ⟨q', eq', -, hq', -⟩ := HRR.out.at_ (i := i) (List.getElem?_eq_getElem (by rw [HRR.out.len]; omega))
                                injection eq' with eq'; injection eq' with eq'; subst eq'
                                exact hq'
                              have hg5' : g5 < W3.heap.size := (HRT.out.own.lt _ rfl).2
                              have HGS := hide (And.intro hg3' hg5')
                              have HHA : Hid (∀ w1, Calls Try.prog 53 #[.agg #[.int .i64 cj.fr, .slice (some ad2) (nj + 1) k2], .int .i64 z] w1 fun e w' => e = .returned (.bool (decide (M i - t ≤ nj))) ∧ Gr w1 w') := fun w1 => by
                                have := has_v cj.fr z (some ad2) (nj + 1) k2 w1 (by omega) (by omega)
                                rwa [show decide (cj.fr ≤ z ∧ z ≤ cj.fr + ((nj + 1 : Nat) : Int) - 1) = decide (M i - t ≤ nj) from decide_eq_decide.2 (by omega)] at this
                              have HCJ := hide (hcj.trans (by rw [hi1] : restC cs n i1 = restC cs n (i + 1)))
                              have hE7 : Hid (∀ w7, Gr wr w7 → (Below p3 W3 w7 ∧ Below W4.heap.size W4 w7) ∧ Below W3.heap.size W3 w7 ∧ p3 ≤ w7.heap.size ∧ W4.heap.size ≤ w7.heap.size) := fun w7 hg7 => by
                                have s1 := HBt.out.size
                                rw [hp3] at s1
                                have s2 := HGt.out.size
                                have s3 := hg7.below.size
                                exact ⟨⟨HBt.out.trans (hg7.below.mono s1), HGt.out.trans (hg7.below.mono s2)⟩, HLT.out _ (HBt.out.trans (hg7.below.mono s1)), by omega, by omega⟩
                              have HVJ : Hid (∀ (W' : World), Below W3.heap.size W3 W' → M i - t ≤ nj → Calls Try.prog 54 #[.agg #[.int .i64 cj.fr, .slice (some ad2) (nj + 1) k2], .int .i64 z] W' fun e w' => e = .returned (.int .i64 (valK cj (M i - t))) ∧ Gr W' w') := fun W' h hle => by
                                have b1 := (r2.later h).ints
                                dsimp only at b1
                                rw [hnj] at b1
                                have := Value_v cj.fr z (some ad2) (nj + 1) k2 (M i - t) _ W' b1 (by omega) (by omega) (by omega) (by omega)
                                rwa [vals_at (by omega)] at this
                              have HNJ := hide hnj
                              have HWJ := hide hwj
                              have HY := hide hy
                              have HZ := hide (And.intro hkm (And.intro htk hki))
                              have HI1 := hide hi1
                              clear e2 hcj hnj hwj r2 hjl hjf hji hkj hz2 hzz hkm hg3' hg5' hfr hn64 hlvb hki hmi hl hklen htk hlast hi1 hy
                              by_cases hm7 : M i - t ≤ nj
                              · as_aux_lemma =>
                                  rw [decide_eq_true hm7] at HHA
                                  obtain ⟨v1, hv1⟩ : ∃ q, valK ci t = q := ⟨_, rfl⟩
                                  obtain ⟨v2, hv2⟩ : ∃ q, valK cj (M i - t) = q := ⟨_, rfl⟩
                                  obtain ⟨v3, hv3⟩ : ∃ q, valK ck (M i) = q := ⟨_, rfl⟩
                                  obtain ⟨hkm, htk, hki⟩ := HZ.out
                                  have hb1 := HVI.out t (by omega)
                                  have hb2 := HWJ.out.val (M i - t) (by rw [HNJ.out]; exact hm7)
                                  have hn8 := HN.out.2
                                  rw [hv1] at hb1
                                  rw [hv2] at hb2
                                  have hb3 : -9007199254740992 ≤ v2 ∧ v2 ≤ 9007199254740992 := by
                                    have h1 : ((n - i1 : Nat) : Int) ≤ 8 := by omega
                                    omega
                                  obtain ⟨sm, hsm⟩ : ∃ q, v1 + v2 = q := ⟨_, rfl⟩
                                  have hw9 : IntKind.i64.wrap (v1 + v2) = sm := by rw [IntKind.wrap_i64]; omega
                                  obtain ⟨be, hbe⟩ : ∃ be, (sm == v3) = be := ⟨_, rfl⟩
                                  have hi1n : i + 1 < n := by have := HI1.out; omega
                                  have HBE : Hid ((be = true → t = K i) ∧ (be = false → t + 1 ≤ K i)) := by
                                    have e1 := HF.out.eq i hi1n
                                    have e2 := HF.out.ne i hi1n t
                                    rw [← HCI.out, ← HCK.out, ← HCJ.out] at e1 e2
                                    rw [HNJ.out] at e2
                                    rcases Nat.lt_or_ge t (K i) with q | q
                                    · have h3 := e2 q hm7
                                      rw [hv1, hv2, hv3] at h3
                                      have h4 : be = false := by rw [← hbe]; exact beq_eq_false_iff_ne.2 (by omega)
                                      exact ⟨fun h => absurd (h4.symm.trans h) (by decide), fun _ => q⟩
                                    · obtain rfl : t = K i := by omega
                                      rw [hv1, hv2, hv3] at e1
                                      have h4 : be = true := by rw [← hbe]; exact beq_iff_eq.2 (by omega)
                                      exact ⟨fun _ => rfl, fun h => absurd (h4.symm.trans h) (by decide)⟩
                                  have HA1 : Hid (∀ w1, Below W3.heap.size W3 w1 → Calls Try.prog 54 #[.agg #[.int .i64 ci.fr, .slice (some ad1) (ni + 1) k1], .int .i64 y] w1 fun e w' => e = .returned (.int .i64 v1) ∧ Gr w1 w') := fun w1 h => by
                                    have := HV1.out w1 t y h (by omega) HY.out.symm
                                    rwa [hv1] at this
                                  have HA2 : Hid (∀ w1, Below W3.heap.size W3 w1 → Calls Try.prog 54 #[.agg #[.int .i64 cj.fr, .slice (some ad2) (nj + 1) k2], .int .i64 z] w1 fun e w' => e = .returned (.int .i64 v2) ∧ Gr w1 w') := fun w1 h => by
                                    have := HVJ.out w1 h hm7
                                    rwa [hv2] at this
                                  have HA3 : Hid (∀ w1, Below W3.heap.size W3 w1 → Calls Try.prog 54 #[.agg #[.int .i64 ck.fr, .slice (some ad3) (nk + 1) k3], .int .i64 lv] w1 fun e w' => e = .returned (.int .i64 v3) ∧ Gr w1 w') := fun w1 h => by
                                    have := HV3.out w1 h
                                    rwa [hv3] at this
                                  clear hm7 hv1 hv2 hv3 hkm htk hki hb1 hb2 hb3 hn8 hsm hi1n
                                  go_wp2_with fail
                                  refine (HTO.out _).mono ?_
                                  rintro e w7 ⟨rfl, hg7⟩
                                  obtain ⟨HB7, hb7, hs7, hs7'⟩ := hE7.out w7 hg7
                                  obtain ⟨l0, l1, l2, l3⟩ := KK.out w7 hb7
                                  obtain ⟨l4, l5⟩ := KJ.out w7 hb7
                                  have hgs := HGS.out
                                  have hss := hb7.size
                                  have E0 := fun n os => cell_grown (a := ⟨g, i * 2, none⟩) (show g < _ by omega) l0 n os
                                  have E1 := fun n os => cell_grown (a := ⟨g, i * 2 + 1, none⟩) (show g < _ by omega) l1 n os
                                  have E2 := fun n os => cell_grown (a := ⟨g5, i * 2, none⟩) (show g5 < _ by omega) l2 n os
                                  have E3 := fun n os => cell_grown (a := ⟨g5, i * 2 + 1, none⟩) (show g5 < _ by omega) l3 n os
                                  have E4 := fun n os => cell_grown (a := ⟨g5, i1 * 2, none⟩) (show g5 < _ by omega) l4 n os
                                  have E5 := fun n os => cell_grown (a := ⟨g5, i1 * 2 + 1, none⟩) (show g5 < _ by omega) l5 n os
                                  have HG7 := hide hg7
                                  have hbg : ∀ n os, Below W3.heap.size W3 (grow (w7.drewN n) os) := fun n os => hb7.trans ((show Gr w7 (grow (w7.drewN n) os) from ⟨n, os, rfl⟩).below.mono hss)
                                  have HG1 : Hid (∀ n os, Calls Try.prog 53 #[.agg #[.int .i64 cj.fr, .slice (some ad2) (nj + 1) k2], .int .i64 z] (grow (w7.drewN n) os) fun e w'' => e = .returned (.bool true) ∧ ∃ p : GrownBy, w'' = grow (w7.drewN p.n) p.os) := fun n os => Calls.grown_of ((HHA.out _).mono fun _ _ h => ⟨h.1, h.2⟩)
                                  have HG2 : Hid (∀ n os, Calls Try.prog 54 #[.agg #[.int .i64 ci.fr, .slice (some ad1) (ni + 1) k1], .int .i64 y] (grow (w7.drewN n) os) fun e w'' => e = .returned (.int .i64 v1) ∧ ∃ p : GrownBy, w'' = grow (w7.drewN p.n) p.os) := fun n os => Calls.grown_of ((HA1.out _ (hbg n os)).mono fun _ _ h => ⟨h.1, h.2⟩)
                                  have HG3 : Hid (∀ n os, Calls Try.prog 54 #[.agg #[.int .i64 cj.fr, .slice (some ad2) (nj + 1) k2], .int .i64 z] (grow (w7.drewN n) os) fun e w'' => e = .returned (.int .i64 v2) ∧ ∃ p : GrownBy, w'' = grow (w7.drewN p.n) p.os) := fun n os => Calls.grown_of ((HA2.out _ (hbg n os)).mono fun _ _ h => ⟨h.1, h.2⟩)
                                  have HG4 : Hid (∀ n os, Calls Try.prog 54 #[.agg #[.int .i64 ck.fr, .slice (some ad3) (nk + 1) k3], .int .i64 lv] (grow (w7.drewN n) os) fun e w'' => e = .returned (.int .i64 v3) ∧ ∃ p : GrownBy, w'' = grow (w7.drewN p.n) p.os) := fun n os => Calls.grown_of ((HA3.out _ (hbg n os)).mono fun _ _ h => ⟨h.1, h.2⟩)
                                  clear hb7 hs7 hs7' hgs hss hg7 l0 l1 l2 l3 l4 l5 k0 k1' HHA hbg HA1 HA2 HA3 HB7
                                  go_wp2_with fail
                                  refine wp_region_quiet_grown (by assumption) (by kernel_rfl) ?_
                                  repeat (go_big_quiet_step (first | (go_at_call 53; with_reducible exact HG1.out _ _) | (go_at_call 54; with_reducible exact HG2.out _ _) | (go_at_call 54; with_reducible exact HG3.out _ _) | (go_at_call 54; with_reducible exact HG4.out _ _)))
                                  refine wpQuiet_nil ?_
                                  intro _ hw'
                                  obtain ⟨⟨nq, osq⟩, hw''⟩ := hw'
                                  subst hw''
                                  have HB9 : Hid (Below p3 W3 (grow (w7.drewN nq) osq) ∧ Below W4.heap.size W4 (grow (w7.drewN nq) osq)) := by
                                    refine (hE7.out (grow (w7.drewN nq) osq) ?_).1
                                    exact HG7.out.trans ⟨nq, osq, rfl⟩
                                  generalize grow (w7.drewN nq) osq = w9 at HB9 ⊢
                                  clear E0 E1 E2 E3 E4 E5 HG1 HG2 HG3 HG4 hbe
                                  cases be
                                  · have HZ2 : Hid (t + 1 ≤ K i) := HBE.out.2 rfl
                                    have hw8 : IntKind.i64.wrap (y + 1) = ci.fr + ((t + 1 : Nat) : Int) := by
                                      have h1 := HY.out
                                      have h2 := HNB.out.1
                                      have h3 := HZ2.out
                                      have h4 := HNB.out.2.2.2.1
                                      have h5 := HNB.out.2.1
                                      rw [IntKind.wrap_i64]
                                      omega
                                    go_wp2_with fail
                                    go_roundw
                                    case rel => exact ⟨t + 1, HZ2.out, rfl, by congr 1 <;> (first | rfl | omega), HB9.out.1, HB9.out.2⟩
                                    case measure => have h1 := HY.out; have := HZ2.out; simp [intOf]; omega
                                  · have HY2 : Hid (y = ci.fr + (K i : Int)) := by
                                      have h1 := HBE.out.1 rfl
                                      show _ = _
                                      rw [← h1]
                                      exact HY.out.symm
                                    go_wp2_with fail
                                    go_meet
                                    exact ⟨by rw [HY2.out], HB9.out.1, HB9.out.2⟩
                              · as_aux_lemma =>
                                  rw [decide_eq_false hm7] at HHA
                                  have HZ2 : Hid (t + 1 ≤ K i) := by
                                    have h1 := HF.out.kM i (by have := HI1.out; omega)
                                    have h2 := HF.out.mle i1 (by omega)
                                    have h3 := HCJ.out
                                    have h4 := HNJ.out
                                    have h5 := HZ.out.2.1
                                    rw [h3] at h4
                                    rw [← HI1.out] at h2
                                    show _ ≤ _
                                    rcases Nat.lt_or_ge t (K i) with q | q
                                    · exact q
                                    · exfalso
                                      have : t = K i := by omega
                                      rw [this] at hm7
                                      omega
                                  clear hm7
                                  go_wp2_with fail
                                  refine (HTO.out _).mono ?_
                                  rintro e w7 ⟨rfl, hg7⟩
                                  obtain ⟨HB7, hb7, hs7, hs7'⟩ := hE7.out w7 hg7
                                  obtain ⟨l0, l1, l2, l3⟩ := KK.out w7 hb7
                                  obtain ⟨l4, l5⟩ := KJ.out w7 hb7
                                  have hgs := HGS.out
                                  have hss := hb7.size
                                  have E0 := fun n os => cell_grown (a := ⟨g, i * 2, none⟩) (show g < _ by omega) l0 n os
                                  have E1 := fun n os => cell_grown (a := ⟨g, i * 2 + 1, none⟩) (show g < _ by omega) l1 n os
                                  have E2 := fun n os => cell_grown (a := ⟨g5, i * 2, none⟩) (show g5 < _ by omega) l2 n os
                                  have E3 := fun n os => cell_grown (a := ⟨g5, i * 2 + 1, none⟩) (show g5 < _ by omega) l3 n os
                                  have E4 := fun n os => cell_grown (a := ⟨g5, i1 * 2, none⟩) (show g5 < _ by omega) l4 n os
                                  have E5 := fun n os => cell_grown (a := ⟨g5, i1 * 2 + 1, none⟩) (show g5 < _ by omega) l5 n os
                                  have HB7 := hide HB7
                                  have HG7 := hide hg7
                                  have HG1 : Hid (∀ n os, Calls Try.prog 53 #[.agg #[.int .i64 cj.fr, .slice (some ad2) (nj + 1) k2], .int .i64 z] (grow (w7.drewN n) os) fun e w'' => e = .returned (.bool false) ∧ ∃ p : GrownBy, w'' = grow (w7.drewN p.n) p.os) := fun n os => Calls.grown_of ((HHA.out _).mono fun _ _ h => ⟨h.1, h.2⟩)
                                  clear hb7 hs7 hs7' hgs hss hg7 l0 l1 l2 l3 l4 l5 k0 k1' HHA
                                  go_wp2_with fail
                                  refine wp_region_quiet_grown (by assumption) (by kernel_rfl) ?_
                                  repeat (go_big_quiet_step (first | (go_at_call 53; with_reducible exact HG1.out _ _)))
                                  refine wpQuiet_nil ?_
                                  intro _ hw'
                                  obtain ⟨⟨nq, osq⟩, hw''⟩ := hw'
                                  subst hw''
                                  have HB9 : Hid (Below p3 W3 (grow (w7.drewN nq) osq) ∧ Below W4.heap.size W4 (grow (w7.drewN nq) osq)) := by
                                    obtain ⟨n7, o7, e7⟩ := HG7.out
                                    refine (hE7.out (grow (w7.drewN nq) osq) ?_).1
                                    exact HG7.out.trans ⟨nq, osq, rfl⟩
                                  generalize grow (w7.drewN nq) osq = w9 at HB9 ⊢
                                  clear E0 E1 E2 E3 E4 E5 HG1
                                  have hw8 : IntKind.i64.wrap (y + 1) = ci.fr + ((t + 1 : Nat) : Int) := by
                                    have h1 := HY.out
                                    have h2 := HNB.out.1
                                    have h3 := HZ2.out
                                    have h4 := HNB.out.2.2.2.1
                                    have h5 := HNB.out.2.1
                                    rw [IntKind.wrap_i64]
                                    omega
                                  go_wp2_with fail
                                  go_roundw
                                  case rel => exact ⟨t + 1, HZ2.out, rfl, by congr 1 <;> (first | rfl | omega), HB9.out.1, HB9.out.2⟩
                                  case measure => have h1 := HY.out; have := HZ2.out; simp [intOf]; omega
                          · as_aux_lemma =>
                              have q2 : ¬ (i1 : Int) < (n : Int) := by omega
                              have hlv2 : lv = ci.fr + (K i : Int) := by
                                have h1 := HF.out.last
                                obtain rfl : i = n - 1 := by omega
                                rw [HLV.out, ← HCI.out] at h1
                                exact h1
                              have HL2 := hide hlv2
                              clear hlv2
                              clear hfr hn64 hlvb hki hmi hl hklen hlast
                              go_wp2_with fail
                              refine (HTO.out _).mono ?_
                              rintro e w7 ⟨rfl, hg7⟩
                              have HB7 : Hid (Below p3 W3 w7 ∧ Below W4.heap.size W4 w7) := by
                                have s1 := HBt.out.size
                                have s2 := HGt.out.size
                                exact ⟨HBt.out.trans (hg7.below.mono (by omega)), HGt.out.trans (hg7.below.mono s2)⟩
                              clear hg7 k0 k1'
                              go_wp2_with fail
                              go_meet
                              exact ⟨by rw [HL2.out], HB7.out.1, HB7.out.2⟩
                    case rest =>
                      as_aux_lemma =>
                        obtain ⟨rfl, HB6, HG6⟩ := hcut
                        obtain ⟨w6, rfl⟩ : ∃ w6, w6 = wc := ⟨_, rfl⟩
                        obtain ⟨xv, hxv⟩ : ∃ q, ci.fr + (K i : Int) = q := ⟨_, rfl⟩
                        rw [hxv]
                        have HO6 := hide (own_below HO.out HG6.out)
                        have HSR : Hid ((List.range (i + 1)).map (fun j => (cs j).fr + (K j : Int)) = (List.range i).map (fun j => (cs j).fr + (K j : Int)) ++ [xv]) := by
                          show _ = _
                          rw [List.range_succ, List.map_append, ← hxv, HCI.out]
                          rfl
                        obtain ⟨R, hR⟩ : ∃ R, (List.range i).map (fun j => (cs j).fr + (K j : Int)) = R := ⟨_, rfl⟩
                        rw [hR] at HO6 HSR
                        clear k10 k11 HO HB HG6 hR
                        go_upto_region 33 with fail
                        go_cut [14] (fun sv wx => ∃ a8 c8, sv = .slice a8 (i + 1) c8 ∧ Hid (wx.ownsRow p3 3 1 (.slice a8 (i + 1) c8) (i + 1) ((R ++ [xv]).map (Value.int .i64))) ∧ Hid (Below p3 W3 wx))
                        case first =>
                          as_aux_lemma =>
                            obtain ⟨i3, hi3, hy0, hy1, hy2⟩ := info_parts info3
                            have HBB : Hid (i + 1 ≤ maxLen) := hide (by unfold maxLen; omega)
                            have HBC : Hid ((i + 1) * 8 ≤ 140737488355328) := hide (by omega)
                            have HS6 : Hid (p3 ≤ w6.heap.size) := by have := HB6.out.size; rw [hp3] at this; exact this
                            have HNEW : Hid (∀ j u, [Value.int .i64 xv][j]? = some u → (w6.alloc (.cells #[.int .i64 xv] 3)).cell? ((⟨w6.heap.size, 0, none⟩ : Addr).add j) = some u) := cell_one_new3 w6 _
                            have HS7 : Hid (p3 ≤ (w6.alloc (.cells #[.int .i64 xv] 3)).heap.size) := by have := HS6.out; show _ ≤ _; rw [World.size_alloc]; omega
                            go_wp2_with (
                              at_builtin; refine wpList_append_own_at _ rfl (.tmp 155) (.tmp 157) _ rfl p3 3 i3 (.int .i64 0) 1 8 Try.underlying22 hi3 hy0 hy1 hy2 rfl (by decide) _ _ _ rfl (HO6.out.alloc _) ⟨w6.heap.size, 0, none⟩ 1 1 [.int .i64 xv] rfl rfl HNEW.out (by intro u hu; simp at hu; rw [hu]; rfl) HBB.out HBC.out HS7.out ?_; intro v8 w8 hown8 hgrow8 hnil8 hat8; obtain ⟨a8, c8, rfl⟩ := own_slice hown8
                              have HO8 : Hid (w8.ownsRow p3 3 1 (.slice a8 (i + 1) c8) (i + 1) ((R ++ [xv]).map (Value.int .i64))) := by show World.ownsRow _ _ _ _ _ _ _; rw [List.map_append]; exact hown8
                              have HB8 : Hid (Below p3 W3 w8) := hide ((HB6.out.alloc HS6.out _).grown hgrow8 HS7.out (fun k e => (HO6.out.lt k e).1))
                              clear hown8 hgrow8 hnil8 hat8)
                            go_meet
                            exact ⟨a8, c8, rfl, HO8, HB8⟩
                        case rest =>
                          as_aux_lemma =>
                            obtain ⟨a8, c8, rfl, HO8, HB8⟩ := hcut
                            obtain ⟨w8, rfl⟩ : ∃ w8, w8 = wc := ⟨_, rfl⟩
                            obtain ⟨hfr, hn64, hlvb, hki, hmi, hl, hklen⟩ := HNB.out
                            obtain ⟨l0, l1, -, -⟩ := KK.out w8 (HLT.out _ HB8.out)
                            have hw1 : IntKind.i64.wrap (lv - xv) = lv - xv := by rw [IntKind.wrap_i64]; omega
                            have HLN : Hid (total - sumTo (fun j => (cs j).fr + (K j : Int)) (i + 1) = lv - xv) := by
                              show total - (sumTo (fun j => (cs j).fr + (K j : Int)) i + ((cs i).fr + (K i : Int))) = _
                              have h1 := HLV.out
                              have h2 := HCI.out
                              rw [← h2]
                              omega
                            have HRI : Hid ((List.range (i + 1)).map (fun j => (cs j).fr + (K j : Int)) = R ++ [xv]) := HSR.out
                            have hii : i + 1 ≤ n := by omega
                            by_cases hk0 : K i = 0
                            · as_aux_lemma =>
                                have hlt : ¬ ci.fr < xv := by omega
                                have HPR : Hid (prF cs K (i + 1) = prF cs K i) := if_pos hk0
                                have HII := hide hii
                                clear hfr hn64 hlvb hki hmi hl hklen hk0 hxv hii
                                go_wp2_with fail
                                go_roundw
                                case rel => exact ⟨i + 1, a8, c8, HII.out, by go_num, rfl, by rw [HLN.out], by rw [HPR.out], by rw [HRI.out]; exact HO8.out, HB8.out⟩
                                case measure => have := HII.out; simp [intOf]; omega
                            · as_aux_lemma =>
                                have hlt : ci.fr < xv := by omega
                                obtain ⟨k, hk⟩ : ∃ k, K i = k + 1 := ⟨K i - 1, by omega⟩
                                obtain ⟨sv, hsv⟩ : ∃ q, iA ci.sl k = q := ⟨_, rfl⟩
                                obtain ⟨v1, hv1⟩ : ∃ q, valK ci (k + 1) = q := ⟨_, rfl⟩
                                obtain ⟨v2, hv2⟩ : ∃ q, valK ci k = q := ⟨_, rfl⟩
                                have hvs : v1 - v2 = sv := by
                                  rw [← hv1, ← hv2, ← hsv]
                                  show valK ci k + iA ci.sl k - valK ci k = _
                                  omega
                                have hvb1 := HVI.out (k + 1) (by omega)
                                have hvb2 := HVI.out k (by omega)
                                rw [hv1] at hvb1
                                rw [hv2] at hvb2
                                have hw2 : IntKind.i64.wrap (v1 - v2) = sv := by rw [IntKind.wrap_i64]; omega
                                obtain ⟨x1, hx1⟩ : ∃ q, xv - 1 = q := ⟨_, rfl⟩
                                have hw3 : IntKind.i64.wrap (xv - 1) = x1 := by rw [IntKind.wrap_i64]; omega
                                obtain ⟨pp, hpp⟩ : ∃ q, prF cs K i = q := ⟨_, rfl⟩
                                have HPR : Hid (prF cs K (i + 1) = max pp sv) := by
                                  show _ = _
                                  unfold prF
                                  rw [if_neg hk0, hpp, hk, ← HCI.out, ← hsv]
                                  rfl
                                have hs8 : W3.heap.size ≤ w8.heap.size := (HLT.out _ HB8.out).size
                                have hg3' : g < W3.heap.size := by
                                  obtain ⟨q', eq', -, hq', -⟩ := HRR.out.at_ (i := i) (List.getElem?_eq_getElem (by rw [HRR.out.len]; omega))
                                  injection eq' with eq'; injection eq' with eq'; subst eq'
                                  exact hq'
                                have hg8 : g < w8.heap.size := by omega
                                have HC1 : Hid (∀ w1, Gr w8 w1 → Calls Try.prog 54 #[.agg #[.int .i64 ci.fr, .slice (some ad1) (ni + 1) k1], .int .i64 xv] w1 fun e w' => e = .returned (.int .i64 v1) ∧ Gr w1 w') := fun w1 h => by
                                  have := HV1.out w1 (k + 1) xv (HLT.out _ (HB8.out.trans (h.below.mono (by omega)))) (by omega) (by omega)
                                  rwa [hv1] at this
                                have HC2 : Hid (∀ w1, Gr w8 w1 → Calls Try.prog 54 #[.agg #[.int .i64 ci.fr, .slice (some ad1) (ni + 1) k1], .int .i64 x1] w1 fun e w' => e = .returned (.int .i64 v2) ∧ Gr w1 w') := fun w1 h => by
                                  have := HV1.out w1 k x1 (HLT.out _ (HB8.out.trans (h.below.mono (by omega)))) (by omega) (by omega)
                                  rwa [hv2] at this
                                have E0 := fun n os => cell_grown (a := ⟨g, i * 2, none⟩) hg8 l0 n os
                                have E1 := fun n os => cell_grown (a := ⟨g, i * 2 + 1, none⟩) hg8 l1 n os
                                have HG1 : Hid (∀ n os, Calls Try.prog 54 #[.agg #[.int .i64 ci.fr, .slice (some ad1) (ni + 1) k1], .int .i64 xv] (grow (w8.drewN n) os) fun e w'' => e = .returned (.int .i64 v1) ∧ ∃ p : GrownBy, w'' = grow (w8.drewN p.n) p.os) := fun n os => Calls.grown_of ((HC1.out _ ⟨n, os, rfl⟩).mono fun _ _ h => ⟨h.1, h.2⟩)
                                have HG2 : Hid (∀ n os, Calls Try.prog 54 #[.agg #[.int .i64 ci.fr, .slice (some ad1) (ni + 1) k1], .int .i64 x1] (grow (w8.drewN n) os) fun e w'' => e = .returned (.int .i64 v2) ∧ ∃ p : GrownBy, w'' = grow (w8.drewN p.n) p.os) := fun n os => Calls.grown_of ((HC2.out _ ⟨n, os, rfl⟩).mono fun _ _ h => ⟨h.1, h.2⟩)
                                have HII := hide hii
                                have HS8 : Hid (p3 ≤ w8.heap.size) := by show _ ≤ _; omega
                                clear hfr hn64 hlvb hki hmi hl hklen hk0 hxv hii hsv hv1 hv2 hvs hvb1 hvb2 hx1 hs8 hg3' hg8 hk
                                rw [hpp]
                                clear hpp
                                clear HC1 HC2
                                go_wp2_with fail
                                clear l0 l1
                                refine wp_region_quiet_grown (by assumption) (by kernel_rfl) ?_
                                repeat (go_big_quiet_step (first | (go_at_call 54; with_reducible exact HG1.out _ _) | (go_at_call 54; with_reducible exact HG2.out _ _)))
                                refine wpQuiet_nil ?_
                                intro _ hw'
                                obtain ⟨⟨nq, osq⟩, hw''⟩ := hw'
                                subst hw''
                                have HB9 : Hid (Below p3 W3 (grow (w8.drewN nq) osq)) := HB8.out.trans ((show Gr w8 (grow (w8.drewN nq) osq) from ⟨nq, osq, rfl⟩).below.mono HS8.out)
                                have HO9 := hide (own_below HO8.out (show Gr w8 (grow (w8.drewN nq) osq) from ⟨nq, osq, rfl⟩).below)
                                generalize grow (w8.drewN nq) osq = w9 at HB9 HO9 ⊢
                                clear E0 E1 HG1 HG2 HO8 HB8
                                go_wp2_with fail
                                go_roundw
                                case rel => exact ⟨i + 1, a8, c8, HII.out, by go_num, rfl, by rw [HLN.out], by rw [HPR.out], by rw [HRI.out]; exact HO9.out, HB9.out⟩
                                case measure => have := HII.out; simp [intOf]; omega
                · as_aux_lemma =>
                    obtain rfl : n = i := by omega
                    obtain ⟨⟨ck, ad3, k3⟩, e3⟩ : ∃ r, L5[0]? = some r := ⟨L5[0]'(by rw [HRT.out.len]; omega), List.getElem?_eq_getElem _⟩
                    have hck : ck = restC cs n 0 := HRE.out 0 _ e3
                    obtain ⟨nk, hnk⟩ : ∃ k, ck.sl.length = k := ⟨_, rfl⟩
                    have hwk : Wd (n - 0) ck := by rw [hck]; exact rest_wd HOK.out (by omega)
                    have hkfr := hwk.fr
                    have hklen := hwk.len
                    have hmi := HF.out.mle 0 (by omega)
                    rw [← hck, hnk] at hmi
                    rw [hnk] at hklen
                    have hl := HF.out.left 0 (by omega)
                    rw [← hck] at hl
                    have hlb : Below W3.heap.size W3 wr := by rw [hp3]; exact HB.out
                    obtain ⟨x, ex, -, -, -, -, k10, k11, -⟩ := (HRT.out.later hlb).atN e3 hnk
                    injection ex with ex; injection ex with ex; subst ex
                    have b1 := ((HRT.out.row 0 _ e3).later hlb).ints
                    dsimp only at b1
                    rw [hnk] at b1
                    have hvv : splitC cs n total = valK ck (M 0) := by rw [hck]; exact HX2.out.2.1
                    have HV : Hid (Calls Try.prog 54 #[.agg #[.int .i64 ck.fr, .slice (some ad3) (nk + 1) k3], .int .i64 total] wr fun e w' => e = .returned (.int .i64 (splitC cs n total)) ∧ Gr wr w') := by
                      have := Value_v ck.fr total (some ad3) (nk + 1) k3 (M 0) _ wr b1 (by omega) (by omega) (by omega) (by simpa [sumTo] using hl)
                      rw [vals_at (by omega)] at this
                      rw [hvv]
                      exact this
                    have q0 : (0 : Int) < (n : Int) := by omega
                    rw [show prF cs K n = splitP cs n total from HX2.out.2.2.symm]
                    simp only [Nat.zero_mul, Nat.zero_add] at k10 k11
                    clear b1 hl hkfr hklen hmi hck hnk hwk e3 hvv
                    go_wp2_with fail
                    refine HV.out.mono ?_
                    rintro e w9 ⟨rfl, hg9⟩
                    have HG9 := hide hg9
                    clear hg9 k10 k11 HV
                    go_wp2_with fail
                    refine bodyPost_ret (results43 _ _ _ _ _ _ _ _ _ _) rfl ?_
                    refine ⟨a, n, co, by rw [HE.out], ?_, ?_⟩
                    · rw [HX2.out.1]
                      exact ints_of_own (own_below HO.out HG9.out.below)
                    · rw [hp]
                      have hs3 := HBW.out.size
                      have hs4 := HB.out.size
                      exact (HBW.out.trans (HB.out.mono (by omega))).trans (HG9.out.below.mono (by omega))
end Go.Proofs.Ytdepnhnpklbmiaa
