/- Contracts of before and of Meet. -/
import Derived.Test.YtdepnhnpklbmiaaA7
namespace Go.Proofs.Ytdepnhnpklbmiaa
open Go.RowKit Go.Sort

/-- the slope before the k-th number -/
def befV (c : Cu) (k : Nat) : Int := if k = 0 then -1048576 else iA c.sl (k - 1)
set_option maxHeartbeats 2000000 in
set_option maxRecDepth 100000 in
theorem before_any (b : Nat) (c : Cu) (A : Option Addr) (n cap k : Nat) (v : Int) (w : World) (hw : WkAt w b 0 c A n cap (c.fr + k) v) (hx : IntsAt w.heap.size w A n c.sl) (_h0 : -1048576 ≤ c.fr) (_h1 : c.fr ≤ 1048576) (hn : n ≤ 1000) (hk : k ≤ n) :
    Calls Try.prog 76 #[.pointer (some ⟨b, 0, none⟩)] w fun e w' => e = .returned (.int .i64 (befV c k)) ∧ ∃ q, w' = w.drewN q := by
  have mixed := mixedOrders
  have HW := hide hw
  have HX := hide hx
  obtain ⟨x, hxx⟩ : ∃ x, c.fr + (k : Int) = x := ⟨_, rfl⟩
  rw [hxx] at HW
  have E0 : ∀ nq, (w.drewN nq).cell? ⟨b, 0, none⟩ = some (.int .i64 c.fr) := fun _ => HW.out.c0
  have E2 : ∀ nq, (w.drewN nq).cell? ⟨b, 2, none⟩ = some (.slice A n cap) := fun _ => by simpa using HW.out.c2
  have E3 : ∀ nq, (w.drewN nq).cell? ⟨b, 3, none⟩ = some (.int .i64 x) := fun _ => by simpa using HW.out.c3
  clear hw hx
  by_cases hk0 : k = 0
  · have hb : (x == c.fr) = true := beq_iff_eq.2 (by omega)
    have HV : Hid (befV c k = -1048576) := if_pos hk0
    generalize c.fr = ff at *
    clear hxx hk0
    go_enter Try.func76, Try.ntmps76
    go_wp2_with fail
    go_quiet (fail)
    go_wp2_with fail
    go_ret
    exact ⟨ret_int HV.out.symm, nq, rfl⟩
  · have hb : (x == c.fr) = false := beq_eq_false_iff_ne.2 (by omega)
    have HV : Hid (befV c k = iA c.sl (k - 1)) := if_neg hk0
    have hkl : k - 1 < n := by omega
    obtain ⟨b2, off2, rfl, hb2, e0⟩ := HX.out.at_ hkl
    have hw1 : IntKind.i64.wrap (x - c.fr) = (k : Int) := by rw [IntKind.wrap_i64]; omega
    have hw2 : IntKind.i64.wrap ((k : Int) - 1) = ((k - 1 : Nat) : Int) := by rw [IntKind.wrap_i64]; omega
    have hkl' : ((k - 1 : Nat) : Int) < (n : Int) := by omega
    have E5 : ∀ nq, (w.drewN nq).cell? ⟨b2, off2 + (k - 1), none⟩ = some (.int .i64 (iA c.sl (k - 1))) := fun _ => e0
    obtain ⟨z, hz⟩ : ∃ z, iA c.sl (k - 1) = z := ⟨_, rfl⟩
    rw [hz] at E5 HV
    obtain ⟨k1, hk1⟩ : ∃ q, k - 1 = q := ⟨_, rfl⟩
    rw [hk1] at E5 hw2 hkl'
    generalize c.fr = ff at *
    clear hxx hk0 hkl hb2 e0 _h0 _h1 hk hz hk1
    go_enter Try.func76, Try.ntmps76
    go_wp2_with fail
    go_quiet (fail)
    have F0 : ∀ nq', ((w.drewN nq).drewN nq').cell? ⟨b, 0, none⟩ = some (.int .i64 ff) := fun _ => E0 0
    have F2 : ∀ nq', ((w.drewN nq).drewN nq').cell? ⟨b, 2, none⟩ = some (.slice (some ⟨b2, off2, none⟩) n cap) := fun _ => E2 0
    have F3 : ∀ nq', ((w.drewN nq).drewN nq').cell? ⟨b, 3, none⟩ = some (.int .i64 x) := fun _ => E3 0
    have F5 : ∀ nq', ((w.drewN nq).drewN nq').cell? ⟨b2, off2 + k1, none⟩ = some (.int .i64 z) := fun _ => E5 0
    have HQ : Hid (∀ nq', ∃ q, (w.drewN nq).drewN nq' = w.drewN q) := fun nq' => ⟨nq + nq', World.drewN_drewN _ _ _⟩
    generalize w.drewN nq = w1 at F0 F2 F3 F5 HQ ⊢
    clear E0 E2 E3 E5
    go_wp2_with fail
    go_quiet (fail)
    go_wp2_with fail
    go_ret
    exact ⟨ret_int HV.out.symm, HQ.out _⟩

theorem results44 (W : World) (x0 x1 x2 x3 a b c d : Value) (rest : List Value) :
    (results Try.f44 (x0 :: x1 :: x2 :: x3 :: a :: b :: c :: d :: rest).toArray).run Try.prog W = .ok (.tuple #[a, b, c, d]) W := by
  simp [results, Try.results44, go_sem]

/-- where the least sum is had first -/
structure MeetOk (a b : Cu) (i j : Nat) : Prop where
  oa : okC a = true
  ob : okC b = true
  la : i ≤ a.sl.length
  lb : j ≤ b.sl.length
  at_ : a.fr + (i : Int) = b.fr + j
  low : i = 0 ∨ j = 0 ∨ iA a.sl (i - 1) + iA b.sl (j - 1) < 0
  high : i = a.sl.length ∨ j = b.sl.length ∨ 0 ≤ iA a.sl i + iA b.sl j
/-- the error, if there is one -/
def MeetE (a b : Cu) (c : Int) : Prop := ((okC a = false ∨ okC b = false) ∧ c = 2) ∨ (okC a = true ∧ okC b = true ∧ min (a.fr + (a.sl.length : Int)) (b.fr + (b.sl.length : Int)) < max a.fr b.fr ∧ c = 6)
def MeetPost (a b : Cu) (w : World) (e : Ending) (w' : World) : Prop :=
  ((∃ c : Int, MeetE a b c ∧ e = .returned (.tuple #[.int .i64 0, .int .i64 0, .int .i64 0, .int .i64 c])) ∨ ∃ i j, MeetOk a b i j ∧ e = .returned (.tuple #[.int .i64 (valK a i + valK b j), .int .i64 (a.fr + i), .int .i64 (max (befV a i) (-(aftV b j))), .int .i64 0])) ∧ Below w.heap.size w w'
structure MI (w W : World) (g8 g9 : Nat) (a : Cu) (A1 : Option Addr) (n1 k1 : Nat) (b : Cu) (A2 : Option Addr) (n2 k2 : Nat) (i j : Nat) : Prop where
  u : OnWay W g8 0 a A1 n1 k1 i
  v : OnWay W g9 0 b A2 n2 k2 j
  below : Below w.heap.size w W
theorem MI.gr {w W W' : World} {g8 g9 : Nat} {a : Cu} {A1 : Option Addr} {n1 k1 : Nat} {b : Cu} {A2 : Option Addr} {n2 k2 i j : Nat} (h : MI w W g8 g9 a A1 n1 k1 b A2 n2 k2 i j) (hG : Gr W W') : MI w W' g8 g9 a A1 n1 k1 b A2 n2 k2 i j :=
  ⟨h.u.gr hG, h.v.gr hG, h.below.trans (hG.below.mono h.below.size)⟩

set_option maxHeartbeats 16000000 in
set_option maxRecDepth 100000 in
theorem Meet_any (a b : Cu) (A1 : Option Addr) (n1 k1 : Nat) (A2 : Option Addr) (n2 k2 : Nat) (w : World) (ha : CuAt w.heap.size w a A1 n1 k1) (hb : CuAt w.heap.size w b A2 n2 k2) (h1 : n1 ≤ 9223372036854775807) (h2 : n2 ≤ 9223372036854775807) :
    Calls Try.prog 44 #[.agg #[.int .i64 a.fr, .int .i64 a.fst, .slice A1 n1 k1], .agg #[.int .i64 b.fr, .int .i64 b.fst, .slice A2 n2 k2]] w (MeetPost a b w) := by
  have mixed := mixedOrders
  obtain ⟨W1, hW1⟩ : ∃ W1, (w.alloc (.cells #[.int .i64 a.fr, .int .i64 a.fst, .slice A1 n1 k1] 24)).alloc (.cells #[.int .i64 b.fr, .int .i64 b.fst, .slice A2 n2 k2] 24) = W1 := ⟨_, rfl⟩
  obtain ⟨p, hp⟩ : ∃ p, w.heap.size = p := ⟨_, rfl⟩
  have hG1 : Gr w W1 := by rw [← hW1]; exact ((Gr.refl w).alloc _).alloc _
  have hs1 : W1.heap.size = p + 2 := by rw [← hW1, ← hp]; simp
  have ua : W1.heap[p]? = some (.cells #[.int .i64 a.fr, .int .i64 a.fst, .slice A1 n1 k1] 24 (0, 0)) := by
    rw [← hW1, ← hp]
    exact (Below.heap_alloc _ _ _ (by simp)).trans (heap_alloc_new w _)
  have ub : W1.heap[p + 1]? = some (.cells #[.int .i64 b.fr, .int .i64 b.fst, .slice A2 n2 k2] 24 (0, 0)) := by
    rw [← hW1, ← hp]
    simpa using heap_alloc_new (w.alloc (.cells #[.int .i64 a.fr, .int .i64 a.fst, .slice A1 n1 k1] 24)) (.cells #[.int .i64 b.fr, .int .i64 b.fst, .slice A2 n2 k2] 24)
  have HAX := hide ha
  have HBX := hide hb
  have HG1 := hide hG1
  have HVA := hide (Valid_any a A1 n1 k1 W1 (ha.sl.gr hG1) h1)
  have HVB := hide (fun W2 (hg : Gr W1 W2) => Valid_any b A2 n2 k2 W2 ((hb.sl.gr hG1).gr hg) h2)
  have HUA := hide ua
  have HUB := hide ub
  have a0 := cell_of_heap' ua 0
  have a1 := cell_of_heap' ua 1
  have a2 := cell_of_heap' ua 2
  simp at a0 a1 a2
  clear ha hb hG1 ua ub
  go_enter Try.func44, Try.ntmps44
  go_wp2_with fail
  try rw [hp]
  refine HVA.out.mono ?_
  rintro e w2 ⟨rfl, hG2⟩
  have HG2 := hide hG2
  have hs2 : p + 2 ≤ w2.heap.size := by have := hG2.size; omega
  have hb2 := (hG2.block (k := p + 1) (by omega)).trans HUB.out
  have b0 := cell_of_heap' hb2 0
  have b1 := cell_of_heap' hb2 1
  have b2 := cell_of_heap' hb2 2
  simp at b0 b1 b2
  have HVB2 := hide (HVB.out w2 hG2)
  cases hva : okC a
  · have HB2 : Hid (Below w.heap.size w w2) := HG1.out.below.trans (hG2.below.mono HG1.out.size)
    have HNV : Hid (okC a = false) := hide hva
    clear hb2 hG2 HVB2 HVB HVA hva
    go_wp2_with fail
    refine bodyPost_ret (results44 _ _ _ _ _ _ _ _ _ _) rfl ?_
    exact ⟨.inl ⟨2, .inl ⟨.inl HNV.out, rfl⟩, rfl⟩, HB2.out⟩
  have HVAA := hide hva
  clear hb2 hG2 a0 a1 a2 hva
  go_wp2_with fail
  refine HVB2.out.mono ?_
  rintro e w3 ⟨rfl, hG3⟩
  have HG3 := hide (HG2.out.trans hG3)
  have hs3 : p + 2 ≤ w3.heap.size := by have := hG3.size; omega
  have HB3 : Hid (Below w.heap.size w w3) := HG1.out.below.trans (HG3.out.below.mono HG1.out.size)
  cases hvb : okC b
  · have HNV : Hid (okC b = false) := hide hvb
    clear hG3 HVB2 HVB HVA hvb
    go_wp2_with fail
    refine bodyPost_ret (results44 _ _ _ _ _ _ _ _ _ _) rfl ?_
    exact ⟨.inl ⟨2, .inl ⟨.inr HNV.out, rfl⟩, rfl⟩, HB3.out⟩
  have HVBB := hide hvb
  clear hvb HVB2 HVB HVA b0 b1 b2 hG3
  have ha3 := (HG3.out.block (k := p) (by omega)).trans HUA.out
  have hb3 := (HG3.out.block (k := p + 1) (by omega)).trans HUB.out
  have HA3 := hide ha3
  have HB33 := hide hb3
  have a0 := cell_of_heap' ha3 0
  have a1 := cell_of_heap' ha3 1
  have a2 := cell_of_heap' ha3 2
  have b0 := cell_of_heap' hb3 0
  have b1 := cell_of_heap' hb3 1
  have b2 := cell_of_heap' hb3 2
  simp at a0 a1 a2 b0 b1 b2
  have hla : a.sl.length = n1 := HAX.out.sl.1
  have hlb : b.sl.length = n2 := HBX.out.sl.1
  have hn1 : n1 ≤ 64 := by have := okC_len HVAA.out; omega
  have hn2 : n2 ≤ 64 := by have := okC_len HVBB.out; omega
  have hcv : CurvesAt (w3.alloc (.cells #[.int .i64 a.fr, .int .i64 a.fst, .slice A1 n1 k1, .int .i64 b.fr, .int .i64 b.fst, .slice A2 n2 k2] 24)).heap.size (w3.alloc (.cells #[.int .i64 a.fr, .int .i64 a.fst, .slice A1 n1 k1, .int .i64 b.fr, .int .i64 b.fst, .slice A2 n2 k2] 24)) (some ⟨w3.heap.size, 0, none⟩) 2 (fun i => if i = 0 then a else b) (fun i => if i = 0 then (A1, n1, k1) else (A2, n2, k2)) := by
    have hB4 := HB3.out.alloc HB3.out.size (.cells #[.int .i64 a.fr, .int .i64 a.fst, .slice A1 n1 k1, .int .i64 b.fr, .int .i64 b.fst, .slice A2 n2 k2] 24)
    refine ⟨.inr ⟨w3.heap.size, 0, rfl, by simp, fun i hi => ?_⟩, fun i hi => ?_⟩
    · rcases (show i = 0 ∨ i = 1 by omega) with rfl | rfl
      · exact ⟨by simp, by simp, by simp⟩
      · exact ⟨by simp, by simp, by simp⟩
    · rcases (show i = 0 ∨ i = 1 by omega) with rfl | rfl
      · exact HAX.out.now hB4 (Nat.le_refl _)
      · exact HBX.out.now hB4 (Nat.le_refl _)
  have HD := hide (domain_any _ _ _ _ hcv (fun i hi => by
    rcases (show i = 0 ∨ i = 1 by omega) with rfl | rfl
    · exact HVAA.out
    · exact HVBB.out))
  have HD2 : Hid (Calls Try.prog 62 #[.slice (some ⟨w3.heap.size, 0, none⟩) 2 2] (w3.alloc (.cells #[.int .i64 a.fr, .int .i64 a.fst, .slice A1 n1 k1, .int .i64 b.fr, .int .i64 b.fst, .slice A2 n2 k2] 24)) fun e w' => e = .returned (.tuple #[.int .i64 (max a.fr b.fr), .int .i64 (min (a.fr + (n1 : Nat)) (b.fr + (n2 : Nat)))]) ∧ Gr (w3.alloc (.cells #[.int .i64 a.fr, .int .i64 a.fst, .slice A1 n1 k1, .int .i64 b.fr, .int .i64 b.fst, .slice A2 n2 k2] 24)) w') := HD
  obtain ⟨lo, hlo⟩ : ∃ q, max a.fr b.fr = q := ⟨_, rfl⟩
  obtain ⟨hi, hhi⟩ : ∃ q, min (a.fr + (n1 : Nat)) (b.fr + (n2 : Nat)) = q := ⟨_, rfl⟩
  rw [hlo, hhi] at HD2
  clear HD
  have HLO := hide hlo
  have HHI := hide hhi
  clear hcv ha3 hb3 hlo hhi
  go_wp2_with fail
  refine HD2.out.mono ?_
  rintro e wb ⟨rfl, hGb⟩
  have HGb : Hid (Gr w3 wb) := ((Gr.refl w3).alloc _).trans hGb
  have hsb : p + 2 ≤ wb.heap.size := by have := HGb.out.size; omega
  have HBb : Hid (Below w.heap.size w wb) := HB3.out.trans (HGb.out.below.mono HB3.out.size)
  have hab := (HGb.out.block (k := p) (by omega)).trans HA3.out
  have hbb := (HGb.out.block (k := p + 1) (by omega)).trans HB33.out
  have HAb := hide hab
  have HBBb := hide hbb
  clear hGb HD2 a0 a1 a2 b0 b1 b2
  by_cases hlh : hi < lo
  · have hd : decide (hi < lo) = true := decide_eq_true hlh
    have HNV : Hid (min (a.fr + (a.sl.length : Int)) (b.fr + (b.sl.length : Int)) < max a.fr b.fr) := by rw [hla, hlb]; have h1 := HLO.out; have h2 := HHI.out; exact hide (by omega)
    clear hab hbb
    go_wp2_with fail
    refine bodyPost_ret (results44 _ _ _ _ _ _ _ _ _ _) rfl ?_
    exact ⟨.inl ⟨6, .inr ⟨HVAA.out, HVBB.out, HNV.out, rfl⟩, rfl⟩, HBb.out⟩
  have hd : decide (hi < lo) = false := decide_eq_false hlh
  obtain ⟨ka, hka⟩ : ∃ k : Nat, (lo - a.fr).toNat = k := ⟨_, rfl⟩
  obtain ⟨kb, hkb⟩ : ∃ k : Nat, (lo - b.fr).toNat = k := ⟨_, rfl⟩
  have hloA : lo = a.fr + ka := by have := HLO.out; omega
  have hloB : lo = b.fr + kb := by have := HLO.out; omega
  have hkan : ka ≤ n1 := by have := HLO.out; have := HHI.out; omega
  have hkbn : kb ≤ n2 := by have := HLO.out; have := HHI.out; omega
  have HKA := hide (show (lo - a.fr).toNat = ka ∧ lo = a.fr + ka ∧ ka ≤ n1 from ⟨hka, hloA, hkan⟩)
  have HKB := hide (show (lo - b.fr).toNat = kb ∧ lo = b.fr + kb ∧ kb ≤ n2 from ⟨hkb, hloB, hkbn⟩)
  obtain ⟨va, hva⟩ : ∃ q, valK a ka = q := ⟨_, rfl⟩
  obtain ⟨vb, hvb⟩ : ∃ q, valK b kb = q := ⟨_, rfl⟩
  have SB : Hid (∀ W, Below wb.heap.size wb W → (W.cell? ⟨p, 0, none⟩ = some (.int .i64 a.fr) ∧ W.cell? ⟨p, 1, none⟩ = some (.int .i64 a.fst) ∧ W.cell? ⟨p, 2, none⟩ = some (.slice A1 n1 k1) ∧ W.cell? ⟨p + 1, 0, none⟩ = some (.int .i64 b.fr) ∧ W.cell? ⟨p + 1, 1, none⟩ = some (.int .i64 b.fst) ∧ W.cell? ⟨p + 1, 2, none⟩ = some (.slice A2 n2 k2) ∧ Below wb.heap.size wb W)) := fun W h => by
    have h1 := (h.block p (by omega)).trans hab
    have h2 := (h.block (p + 1) (by omega)).trans hbb
    have c0 := cell_of_heap' h1 0
    have c1 := cell_of_heap' h1 1
    have c2 := cell_of_heap' h1 2
    have d0 := cell_of_heap' h2 0
    have d1 := cell_of_heap' h2 1
    have d2 := cell_of_heap' h2 2
    simp at c0 c1 c2 d0 d1 d2
    exact ⟨c0, c1, c2, d0, d1, d2, h⟩
  have HA1 : Hid (∀ W, (W.cell? ⟨p, 0, none⟩ = some (.int .i64 a.fr) ∧ W.cell? ⟨p, 1, none⟩ = some (.int .i64 a.fst) ∧ W.cell? ⟨p, 2, none⟩ = some (.slice A1 n1 k1) ∧ W.cell? ⟨p + 1, 0, none⟩ = some (.int .i64 b.fr) ∧ W.cell? ⟨p + 1, 1, none⟩ = some (.int .i64 b.fst) ∧ W.cell? ⟨p + 1, 2, none⟩ = some (.slice A2 n2 k2) ∧ Below wb.heap.size wb W) → Calls Try.prog 51 #[.agg #[.int .i64 a.fr, .int .i64 a.fst, .slice A1 n1 k1], .int .i64 lo] W fun e w' => e = .returned (.agg #[.int .i64 a.fr, .int .i64 a.fst, .slice A1 n1 k1, .int .i64 lo, .int .i64 va]) ∧ Below W.heap.size W w') := fun W hS => by
    have hh := HAX.out.now (HBb.out.trans (hS.2.2.2.2.2.2.mono HBb.out.size)) (Nat.le_refl _)
    have := at_any a A1 n1 k1 ka W HVAA.out hh.sl hh.old hkan
    rw [← hloA, hva] at this
    exact this
  have HA2 : Hid (∀ W, (W.cell? ⟨p, 0, none⟩ = some (.int .i64 a.fr) ∧ W.cell? ⟨p, 1, none⟩ = some (.int .i64 a.fst) ∧ W.cell? ⟨p, 2, none⟩ = some (.slice A1 n1 k1) ∧ W.cell? ⟨p + 1, 0, none⟩ = some (.int .i64 b.fr) ∧ W.cell? ⟨p + 1, 1, none⟩ = some (.int .i64 b.fst) ∧ W.cell? ⟨p + 1, 2, none⟩ = some (.slice A2 n2 k2) ∧ Below wb.heap.size wb W) → Calls Try.prog 51 #[.agg #[.int .i64 b.fr, .int .i64 b.fst, .slice A2 n2 k2], .int .i64 lo] W fun e w' => e = .returned (.agg #[.int .i64 b.fr, .int .i64 b.fst, .slice A2 n2 k2, .int .i64 lo, .int .i64 vb]) ∧ Below W.heap.size W w') := fun W hS => by
    have hh := HBX.out.now (HBb.out.trans (hS.2.2.2.2.2.2.mono HBb.out.size)) (Nat.le_refl _)
    have := at_any b A2 n2 k2 kb W HVBB.out hh.sl hh.old hkbn
    rw [← hloB, hvb] at this
    exact this
  have KC : Hid (∀ W w', (W.cell? ⟨p, 0, none⟩ = some (.int .i64 a.fr) ∧ W.cell? ⟨p, 1, none⟩ = some (.int .i64 a.fst) ∧ W.cell? ⟨p, 2, none⟩ = some (.slice A1 n1 k1) ∧ W.cell? ⟨p + 1, 0, none⟩ = some (.int .i64 b.fr) ∧ W.cell? ⟨p + 1, 1, none⟩ = some (.int .i64 b.fst) ∧ W.cell? ⟨p + 1, 2, none⟩ = some (.slice A2 n2 k2) ∧ Below wb.heap.size wb W) → Below W.heap.size W w' → (w'.cell? ⟨p, 0, none⟩ = some (.int .i64 a.fr) ∧ w'.cell? ⟨p, 1, none⟩ = some (.int .i64 a.fst) ∧ w'.cell? ⟨p, 2, none⟩ = some (.slice A1 n1 k1) ∧ w'.cell? ⟨p + 1, 0, none⟩ = some (.int .i64 b.fr) ∧ w'.cell? ⟨p + 1, 1, none⟩ = some (.int .i64 b.fst) ∧ w'.cell? ⟨p + 1, 2, none⟩ = some (.slice A2 n2 k2) ∧ Below wb.heap.size wb w')) := fun W w' hS hb => SB.out w' (hS.2.2.2.2.2.2.trans (hb.mono hS.2.2.2.2.2.2.size))
  have KA : Hid (∀ W o, (W.cell? ⟨p, 0, none⟩ = some (.int .i64 a.fr) ∧ W.cell? ⟨p, 1, none⟩ = some (.int .i64 a.fst) ∧ W.cell? ⟨p, 2, none⟩ = some (.slice A1 n1 k1) ∧ W.cell? ⟨p + 1, 0, none⟩ = some (.int .i64 b.fr) ∧ W.cell? ⟨p + 1, 1, none⟩ = some (.int .i64 b.fst) ∧ W.cell? ⟨p + 1, 2, none⟩ = some (.slice A2 n2 k2) ∧ Below wb.heap.size wb W) → ((W.alloc o).cell? ⟨p, 0, none⟩ = some (.int .i64 a.fr) ∧ (W.alloc o).cell? ⟨p, 1, none⟩ = some (.int .i64 a.fst) ∧ (W.alloc o).cell? ⟨p, 2, none⟩ = some (.slice A1 n1 k1) ∧ (W.alloc o).cell? ⟨p + 1, 0, none⟩ = some (.int .i64 b.fr) ∧ (W.alloc o).cell? ⟨p + 1, 1, none⟩ = some (.int .i64 b.fst) ∧ (W.alloc o).cell? ⟨p + 1, 2, none⟩ = some (.slice A2 n2 k2) ∧ Below wb.heap.size wb (W.alloc o))) := fun W o hS => SB.out _ (hS.2.2.2.2.2.2.alloc hS.2.2.2.2.2.2.size _)
  have KAd : Hid (∀ (W : World) (o : Obj), (W.drew.cell? ⟨p, 0, none⟩ = some (.int .i64 a.fr) ∧ W.drew.cell? ⟨p, 1, none⟩ = some (.int .i64 a.fst) ∧ W.drew.cell? ⟨p, 2, none⟩ = some (.slice A1 n1 k1) ∧ W.drew.cell? ⟨p + 1, 0, none⟩ = some (.int .i64 b.fr) ∧ W.drew.cell? ⟨p + 1, 1, none⟩ = some (.int .i64 b.fst) ∧ W.drew.cell? ⟨p + 1, 2, none⟩ = some (.slice A2 n2 k2) ∧ Below wb.heap.size wb W.drew) → ((W.alloc o).drew.cell? ⟨p, 0, none⟩ = some (.int .i64 a.fr) ∧ (W.alloc o).drew.cell? ⟨p, 1, none⟩ = some (.int .i64 a.fst) ∧ (W.alloc o).drew.cell? ⟨p, 2, none⟩ = some (.slice A1 n1 k1) ∧ (W.alloc o).drew.cell? ⟨p + 1, 0, none⟩ = some (.int .i64 b.fr) ∧ (W.alloc o).drew.cell? ⟨p + 1, 1, none⟩ = some (.int .i64 b.fst) ∧ (W.alloc o).drew.cell? ⟨p + 1, 2, none⟩ = some (.slice A2 n2 k2) ∧ Below wb.heap.size wb (W.alloc o).drew)) := fun W o hS => SB.out _ (hS.2.2.2.2.2.2.alloc hS.2.2.2.2.2.2.size o)
  have KD : Hid (∀ W g j v, wb.heap.size ≤ g → (W.cell? ⟨p, 0, none⟩ = some (.int .i64 a.fr) ∧ W.cell? ⟨p, 1, none⟩ = some (.int .i64 a.fst) ∧ W.cell? ⟨p, 2, none⟩ = some (.slice A1 n1 k1) ∧ W.cell? ⟨p + 1, 0, none⟩ = some (.int .i64 b.fr) ∧ W.cell? ⟨p + 1, 1, none⟩ = some (.int .i64 b.fst) ∧ W.cell? ⟨p + 1, 2, none⟩ = some (.slice A2 n2 k2) ∧ Below wb.heap.size wb W) → ((W.setCell ⟨g, j, none⟩ v).cell? ⟨p, 0, none⟩ = some (.int .i64 a.fr) ∧ (W.setCell ⟨g, j, none⟩ v).cell? ⟨p, 1, none⟩ = some (.int .i64 a.fst) ∧ (W.setCell ⟨g, j, none⟩ v).cell? ⟨p, 2, none⟩ = some (.slice A1 n1 k1) ∧ (W.setCell ⟨g, j, none⟩ v).cell? ⟨p + 1, 0, none⟩ = some (.int .i64 b.fr) ∧ (W.setCell ⟨g, j, none⟩ v).cell? ⟨p + 1, 1, none⟩ = some (.int .i64 b.fst) ∧ (W.setCell ⟨g, j, none⟩ v).cell? ⟨p + 1, 2, none⟩ = some (.slice A2 n2 k2) ∧ Below wb.heap.size wb (W.setCell ⟨g, j, none⟩ v))) := fun W g j v hg hS => SB.out _ (hS.2.2.2.2.2.2.setCell (p := ⟨g, j, none⟩) hg v)
  have K0 := hide (SB.out wb.drew ((Below.refl _ wb).drew))
  obtain ⟨q0, q1, q2, q3, q4, q5, -⟩ := SB.out wb (Below.refl _ _)
  have HZ10 : Hid ((wb.alloc (.cells #[.int .i64 0, .int .i64 0, .slice none 0 0, .int .i64 0, .int .i64 0] 61)).drew.heap[wb.heap.size]? = some (.cells #[.int .i64 0, .int .i64 0, .slice none 0 0, .int .i64 0, .int .i64 0] 61)) := heap_alloc_new wb (.cells #[.int .i64 0, .int .i64 0, .slice none 0 0, .int .i64 0, .int .i64 0] 61)
  have HZ20 : Hid (((wb.alloc (.cells #[.int .i64 0, .int .i64 0, .slice none 0 0, .int .i64 0, .int .i64 0] 61)).alloc (.cells #[.int .i64 0, .int .i64 0, .slice none 0 0, .int .i64 0, .int .i64 0] 61)).drew.heap[wb.heap.size]? = some (.cells #[.int .i64 0, .int .i64 0, .slice none 0 0, .int .i64 0, .int .i64 0] 61)) := keep_alloc (heap_alloc_new wb (.cells #[.int .i64 0, .int .i64 0, .slice none 0 0, .int .i64 0, .int .i64 0] 61)) (.cells #[.int .i64 0, .int .i64 0, .slice none 0 0, .int .i64 0, .int .i64 0] 61)
  have HZ21 : Hid (((wb.alloc (.cells #[.int .i64 0, .int .i64 0, .slice none 0 0, .int .i64 0, .int .i64 0] 61)).alloc (.cells #[.int .i64 0, .int .i64 0, .slice none 0 0, .int .i64 0, .int .i64 0] 61)).drew.heap[wb.heap.size + 1]? = some (.cells #[.int .i64 0, .int .i64 0, .slice none 0 0, .int .i64 0, .int .i64 0] 61)) := by
    have := heap_alloc_new (wb.alloc (.cells #[.int .i64 0, .int .i64 0, .slice none 0 0, .int .i64 0, .int .i64 0] 61)) (.cells #[.int .i64 0, .int .i64 0, .slice none 0 0, .int .i64 0, .int .i64 0] 61)
    rw [World.size_alloc] at this
    exact this
  have HZ30 : Hid (∀ W : World, (W.alloc (.cells #[.int .i64 0, .int .i64 0, .slice none 0 0, .int .i64 0, .int .i64 0] 61)).heap[W.heap.size]? = some (.cells #[.int .i64 0, .int .i64 0, .slice none 0 0, .int .i64 0, .int .i64 0] 61)) := fun W => heap_alloc_new W (.cells #[.int .i64 0, .int .i64 0, .slice none 0 0, .int .i64 0, .int .i64 0] 61)
  have HZ31 : Hid (∀ W : World, ((W.alloc (.cells #[.int .i64 0, .int .i64 0, .slice none 0 0, .int .i64 0, .int .i64 0] 61)).alloc (.cells #[.int .i64 0, .int .i64 0, .slice none 0 0, .int .i64 0, .int .i64 0] 61)).heap[W.heap.size]? = some (.cells #[.int .i64 0, .int .i64 0, .slice none 0 0, .int .i64 0, .int .i64 0] 61)) := fun W => keep_alloc (heap_alloc_new W (.cells #[.int .i64 0, .int .i64 0, .slice none 0 0, .int .i64 0, .int .i64 0] 61)) (.cells #[.int .i64 0, .int .i64 0, .slice none 0 0, .int .i64 0, .int .i64 0] 61)
  have HZ32 : Hid (∀ W : World, ((W.alloc (.cells #[.int .i64 0, .int .i64 0, .slice none 0 0, .int .i64 0, .int .i64 0] 61)).alloc (.cells #[.int .i64 0, .int .i64 0, .slice none 0 0, .int .i64 0, .int .i64 0] 61)).heap[W.heap.size + 1]? = some (.cells #[.int .i64 0, .int .i64 0, .slice none 0 0, .int .i64 0, .int .i64 0] 61)) := fun W => by
    have := heap_alloc_new (W.alloc (.cells #[.int .i64 0, .int .i64 0, .slice none 0 0, .int .i64 0, .int .i64 0] 61)) (.cells #[.int .i64 0, .int .i64 0, .slice none 0 0, .int .i64 0, .int .i64 0] 61)
    rw [World.size_alloc] at this
    exact this
  have HVV := hide (show valK a ka = va ∧ valK b kb = vb from ⟨hva, hvb⟩)
  have HLEN := hide (show a.sl.length = n1 ∧ b.sl.length = n2 ∧ n1 ≤ 64 ∧ n2 ≤ 64 ∧ ¬ hi < lo from ⟨hla, hlb, hn1, hn2, hlh⟩)
  clear hab hbb hka hkb hloA hloB hkan hkbn hva hvb hla hlb hn1 hn2
  go_upto_region 6 with fail
  go_cut [10, 11] (fun s8 s9 wx => ∃ g8 g9 : Nat, s8 = .pointer (some ⟨g8, 0, none⟩) ∧ s9 = .pointer (some ⟨g9, 0, none⟩) ∧ Hid (TwoWk wb wx a b A1 n1 k1 A2 n2 k2 lo va vb g8 g9))
  case first =>
    go_region_held3 (fun w' => (w'.cell? ⟨p, 0, none⟩ = some (.int .i64 a.fr) ∧ w'.cell? ⟨p, 1, none⟩ = some (.int .i64 a.fst) ∧ w'.cell? ⟨p, 2, none⟩ = some (.slice A1 n1 k1) ∧ w'.cell? ⟨p + 1, 0, none⟩ = some (.int .i64 b.fr) ∧ w'.cell? ⟨p + 1, 1, none⟩ = some (.int .i64 b.fst) ∧ w'.cell? ⟨p + 1, 2, none⟩ = some (.slice A2 n2 k2) ∧ Below wb.heap.size wb w'))
      (first | with_reducible exact K0.out | with_reducible exact hS1 | with_reducible exact (KA.out _ _ hS1) | with_reducible exact (KA.out _ _ (KA.out _ _ hS1)) | with_reducible exact hS2 | with_reducible exact (KA.out _ _ hS2) | with_reducible exact (KA.out _ _ (KA.out _ _ hS2)) | with_reducible exact (KD.out _ _ _ _ (by omega) (KD.out _ _ _ _ (by omega) (KD.out _ _ _ _ (by omega) (KD.out _ _ _ _ (by omega) (KD.out _ _ _ _ (by omega) hS2))))) | with_reducible exact (KA.out _ _ (KD.out _ _ _ _ (by omega) (KD.out _ _ _ _ (by omega) (KD.out _ _ _ _ (by omega) (KD.out _ _ _ _ (by omega) (KD.out _ _ _ _ (by omega) hS2)))))) | with_reducible exact (KA.out _ _ (KA.out _ _ (KD.out _ _ _ _ (by omega) (KD.out _ _ _ _ (by omega) (KD.out _ _ _ _ (by omega) (KD.out _ _ _ _ (by omega) (KD.out _ _ _ _ (by omega) hS2))))))) | with_reducible exact (KD.out _ _ _ _ (by omega) (KD.out _ _ _ _ (by omega) (KD.out _ _ _ _ (by omega) (KD.out _ _ _ _ (by omega) (KD.out _ _ _ _ (by omega) (KD.out _ _ _ _ (by omega) (KD.out _ _ _ _ (by omega) (KD.out _ _ _ _ (by omega) (KD.out _ _ _ _ (by omega) (KD.out _ _ _ _ (by omega) hS2)))))))))) | with_reducible exact (KA.out _ _ (KD.out _ _ _ _ (by omega) (KD.out _ _ _ _ (by omega) (KD.out _ _ _ _ (by omega) (KD.out _ _ _ _ (by omega) (KD.out _ _ _ _ (by omega) (KD.out _ _ _ _ (by omega) (KD.out _ _ _ _ (by omega) (KD.out _ _ _ _ (by omega) (KD.out _ _ _ _ (by omega) (KD.out _ _ _ _ (by omega) hS2))))))))))) | with_reducible exact (KA.out _ _ (KA.out _ _ (KD.out _ _ _ _ (by omega) (KD.out _ _ _ _ (by omega) (KD.out _ _ _ _ (by omega) (KD.out _ _ _ _ (by omega) (KD.out _ _ _ _ (by omega) (KD.out _ _ _ _ (by omega) (KD.out _ _ _ _ (by omega) (KD.out _ _ _ _ (by omega) (KD.out _ _ _ _ (by omega) (KD.out _ _ _ _ (by omega) hS2)))))))))))) | with_reducible exact (KA.out _ _ (by assumption)) | with_reducible exact (KAd.out _ _ (by assumption)))
      (first | (go_at_call 51; (with_reducible refine (HA1.out _ (by assumption)).mono ?_); rintro e w1 ⟨rfl, hb1⟩; have hS1 := KC.out _ _ (by assumption) hb1; have hle1 := hS1.2.2.2.2.2.2.size; (try (have hq1 := keep_below (by first | with_reducible exact HZ10.out | with_reducible exact HZ20.out) hb1; have hl1 := (Array.getElem?_eq_some_iff.1 hq1).1; have hx1 := Nat.ne_of_lt hl1; have hx2 := Nat.ne_of_gt hl1)); (try (have hq2 := keep_below (by with_reducible exact HZ21.out) hb1))) | (go_at_call 51; (with_reducible refine (HA2.out _ (by assumption)).mono ?_); rintro e w2 ⟨rfl, hb2⟩; have hS2 := KC.out _ _ (by assumption) hb2; have hle2 := hS2.2.2.2.2.2.2.size; (try (have hr1 := keep_below (by first | with_reducible exact hq1 | with_reducible exact keep_alloc hq1 _) hb2; have hr1a := keep_alloc hr1 (.cells #[.int .i64 0, .int .i64 0, .slice none 0 0, .int .i64 0, .int .i64 0] 61); obtain ⟨r1c0, r1c1, r1c2, r1c3, r1c4, r1f0, r1f1, r1f2, r1f3, r1f4⟩ := zcells hr1; obtain ⟨r1ac0, r1ac1, r1ac2, r1ac3, r1ac4, r1af0, r1af1, r1af2, r1af3, r1af4⟩ := zcells hr1a; have hn1 := (Array.getElem?_eq_some_iff.1 hr1).1; have hx3 := Nat.ne_of_lt hn1; have hx4 := Nat.ne_of_gt hn1)); (try (have hr2 := keep_below (by with_reducible exact hq2) hb2; obtain ⟨r2c0, r2c1, r2c2, r2c3, r2c4, r2f0, r2f1, r2f2, r2f3, r2f4⟩ := zcells hr2)); (try (have hr3 := keep_below (by first | with_reducible exact HZ30.out w1 | with_reducible exact HZ31.out w1) hb2; have hr3a := keep_alloc hr3 (.cells #[.int .i64 0, .int .i64 0, .slice none 0 0, .int .i64 0, .int .i64 0] 61); obtain ⟨r3c0, r3c1, r3c2, r3c3, r3c4, r3f0, r3f1, r3f2, r3f3, r3f4⟩ := zcells hr3; obtain ⟨r3ac0, r3ac1, r3ac2, r3ac3, r3ac4, r3af0, r3af1, r3af2, r3af3, r3af4⟩ := zcells hr3a; have hn3 := (Array.getElem?_eq_some_iff.1 hr3).1; have hx5 := Nat.ne_of_lt hn3; have hx6 := Nat.ne_of_gt hn3)); have hs0 := HZ30.out w2; have hs1 := HZ31.out w2; have hs2 := HZ32.out w2; obtain ⟨s0c0, s0c1, s0c2, s0c3, s0c4, s0f0, s0f1, s0f2, s0f3, s0f4⟩ := zcells hs0; obtain ⟨s1c0, s1c1, s1c2, s1c3, s1c4, s1f0, s1f1, s1f2, s1f3, s1f4⟩ := zcells hs1; obtain ⟨s2c0, s2c1, s2c2, s2c3, s2c4, s2f0, s2f1, s2f2, s2f3, s2f4⟩ := zcells hs2; (try (have hr4 := keep_below (by with_reducible exact HZ32.out w1) hb2; obtain ⟨r4c0, r4c1, r4c2, r4c3, r4c4, r4f0, r4f1, r4f2, r4f3, r4f4⟩ := zcells hr4))))
    all_goals
      go_wp2_with fail
      go_meet
      refine ⟨_, _, rfl, rfl, ?_⟩
      exact hide ⟨wk_of_heap (by (first | with_reducible exact fresh_at _ _ (by simp [World.setCell]) | with_reducible exact keep_alloc (fresh_at _ _ (by simp)) _ | with_reducible exact (set5_raw hr1 _ _ _ _ _) | with_reducible exact keep_alloc (set5_raw hr1 _ _ _ _ _) _ | with_reducible exact (set5_keep (by omega) (set5_raw hr1 _ _ _ _ _) _ _ _ _ _) | with_reducible exact keep_alloc (set5_keep (by omega) (set5_raw hr1 _ _ _ _ _) _ _ _ _ _) _ | with_reducible exact (set5_raw (set5_keep (by omega) hr1 _ _ _ _ _) _ _ _ _ _) | with_reducible exact keep_alloc (set5_raw (set5_keep (by omega) hr1 _ _ _ _ _) _ _ _ _ _) _ | with_reducible exact (set5_raw hr2 _ _ _ _ _) | with_reducible exact keep_alloc (set5_raw hr2 _ _ _ _ _) _ | with_reducible exact (set5_keep (by omega) (set5_raw hr2 _ _ _ _ _) _ _ _ _ _) | with_reducible exact keep_alloc (set5_keep (by omega) (set5_raw hr2 _ _ _ _ _) _ _ _ _ _) _ | with_reducible exact (set5_raw (set5_keep (by omega) hr2 _ _ _ _ _) _ _ _ _ _) | with_reducible exact keep_alloc (set5_raw (set5_keep (by omega) hr2 _ _ _ _ _) _ _ _ _ _) _ | with_reducible exact (set5_raw hr3 _ _ _ _ _) | with_reducible exact keep_alloc (set5_raw hr3 _ _ _ _ _) _ | with_reducible exact (set5_keep (by omega) (set5_raw hr3 _ _ _ _ _) _ _ _ _ _) | with_reducible exact keep_alloc (set5_keep (by omega) (set5_raw hr3 _ _ _ _ _) _ _ _ _ _) _ | with_reducible exact (set5_raw (set5_keep (by omega) hr3 _ _ _ _ _) _ _ _ _ _) | with_reducible exact keep_alloc (set5_raw (set5_keep (by omega) hr3 _ _ _ _ _) _ _ _ _ _) _ | with_reducible exact (set5_raw hr4 _ _ _ _ _) | with_reducible exact keep_alloc (set5_raw hr4 _ _ _ _ _) _ | with_reducible exact (set5_keep (by omega) (set5_raw hr4 _ _ _ _ _) _ _ _ _ _) | with_reducible exact keep_alloc (set5_keep (by omega) (set5_raw hr4 _ _ _ _ _) _ _ _ _ _) _ | with_reducible exact (set5_raw (set5_keep (by omega) hr4 _ _ _ _ _) _ _ _ _ _) | with_reducible exact keep_alloc (set5_raw (set5_keep (by omega) hr4 _ _ _ _ _) _ _ _ _ _) _)), wk_of_heap (by (first | with_reducible exact fresh_at _ _ (by simp [World.setCell]) | with_reducible exact keep_alloc (fresh_at _ _ (by simp)) _ | with_reducible exact (set5_raw hr1 _ _ _ _ _) | with_reducible exact keep_alloc (set5_raw hr1 _ _ _ _ _) _ | with_reducible exact (set5_keep (by omega) (set5_raw hr1 _ _ _ _ _) _ _ _ _ _) | with_reducible exact keep_alloc (set5_keep (by omega) (set5_raw hr1 _ _ _ _ _) _ _ _ _ _) _ | with_reducible exact (set5_raw (set5_keep (by omega) hr1 _ _ _ _ _) _ _ _ _ _) | with_reducible exact keep_alloc (set5_raw (set5_keep (by omega) hr1 _ _ _ _ _) _ _ _ _ _) _ | with_reducible exact (set5_raw hr2 _ _ _ _ _) | with_reducible exact keep_alloc (set5_raw hr2 _ _ _ _ _) _ | with_reducible exact (set5_keep (by omega) (set5_raw hr2 _ _ _ _ _) _ _ _ _ _) | with_reducible exact keep_alloc (set5_keep (by omega) (set5_raw hr2 _ _ _ _ _) _ _ _ _ _) _ | with_reducible exact (set5_raw (set5_keep (by omega) hr2 _ _ _ _ _) _ _ _ _ _) | with_reducible exact keep_alloc (set5_raw (set5_keep (by omega) hr2 _ _ _ _ _) _ _ _ _ _) _ | with_reducible exact (set5_raw hr3 _ _ _ _ _) | with_reducible exact keep_alloc (set5_raw hr3 _ _ _ _ _) _ | with_reducible exact (set5_keep (by omega) (set5_raw hr3 _ _ _ _ _) _ _ _ _ _) | with_reducible exact keep_alloc (set5_keep (by omega) (set5_raw hr3 _ _ _ _ _) _ _ _ _ _) _ | with_reducible exact (set5_raw (set5_keep (by omega) hr3 _ _ _ _ _) _ _ _ _ _) | with_reducible exact keep_alloc (set5_raw (set5_keep (by omega) hr3 _ _ _ _ _) _ _ _ _ _) _ | with_reducible exact (set5_raw hr4 _ _ _ _ _) | with_reducible exact keep_alloc (set5_raw hr4 _ _ _ _ _) _ | with_reducible exact (set5_keep (by omega) (set5_raw hr4 _ _ _ _ _) _ _ _ _ _) | with_reducible exact keep_alloc (set5_keep (by omega) (set5_raw hr4 _ _ _ _ _) _ _ _ _ _) _ | with_reducible exact (set5_raw (set5_keep (by omega) hr4 _ _ _ _ _) _ _ _ _ _) | with_reducible exact keep_alloc (set5_raw (set5_keep (by omega) hr4 _ _ _ _ _) _ _ _ _ _) _)), by omega, by omega, by omega, by (first | with_reducible exact (hS2).2.2.2.2.2.2 | with_reducible exact ((KA.out _ _ hS2)).2.2.2.2.2.2 | with_reducible exact ((KA.out _ _ (KA.out _ _ hS2))).2.2.2.2.2.2 | with_reducible exact ((KD.out _ _ _ _ (by omega) (KD.out _ _ _ _ (by omega) (KD.out _ _ _ _ (by omega) (KD.out _ _ _ _ (by omega) (KD.out _ _ _ _ (by omega) hS2)))))).2.2.2.2.2.2 | with_reducible exact ((KA.out _ _ (KD.out _ _ _ _ (by omega) (KD.out _ _ _ _ (by omega) (KD.out _ _ _ _ (by omega) (KD.out _ _ _ _ (by omega) (KD.out _ _ _ _ (by omega) hS2))))))).2.2.2.2.2.2 | with_reducible exact ((KA.out _ _ (KA.out _ _ (KD.out _ _ _ _ (by omega) (KD.out _ _ _ _ (by omega) (KD.out _ _ _ _ (by omega) (KD.out _ _ _ _ (by omega) (KD.out _ _ _ _ (by omega) hS2)))))))).2.2.2.2.2.2 | with_reducible exact ((KD.out _ _ _ _ (by omega) (KD.out _ _ _ _ (by omega) (KD.out _ _ _ _ (by omega) (KD.out _ _ _ _ (by omega) (KD.out _ _ _ _ (by omega) (KD.out _ _ _ _ (by omega) (KD.out _ _ _ _ (by omega) (KD.out _ _ _ _ (by omega) (KD.out _ _ _ _ (by omega) (KD.out _ _ _ _ (by omega) hS2))))))))))).2.2.2.2.2.2 | with_reducible exact ((KA.out _ _ (KD.out _ _ _ _ (by omega) (KD.out _ _ _ _ (by omega) (KD.out _ _ _ _ (by omega) (KD.out _ _ _ _ (by omega) (KD.out _ _ _ _ (by omega) (KD.out _ _ _ _ (by omega) (KD.out _ _ _ _ (by omega) (KD.out _ _ _ _ (by omega) (KD.out _ _ _ _ (by omega) (KD.out _ _ _ _ (by omega) hS2)))))))))))).2.2.2.2.2.2 | with_reducible exact ((KA.out _ _ (KA.out _ _ (KD.out _ _ _ _ (by omega) (KD.out _ _ _ _ (by omega) (KD.out _ _ _ _ (by omega) (KD.out _ _ _ _ (by omega) (KD.out _ _ _ _ (by omega) (KD.out _ _ _ _ (by omega) (KD.out _ _ _ _ (by omega) (KD.out _ _ _ _ (by omega) (KD.out _ _ _ _ (by omega) (KD.out _ _ _ _ (by omega) hS2))))))))))))).2.2.2.2.2.2)⟩
  case rest =>
    obtain ⟨g8, g9, rfl, rfl, HT⟩ := hcut
    have HBc : Hid (Below w.heap.size w wc) := HBb.out.trans (HT.out.below.mono HBb.out.size)
    have hwr : w.heap.size ≤ wb.heap.size := HBb.out.size
    have ho8 := HT.out.o8
    have ho9 := HT.out.o9
    have HNE := hide (show g8 ≠ g9 ∧ w.heap.size ≤ g8 ∧ w.heap.size ≤ g9 from ⟨HT.out.ne, by omega, by omega⟩)
    have hl8 := HT.out.u.lt
    have hl9 := HT.out.v.lt
    have HS0 : Hid (MI w wc g8 g9 a A1 n1 k1 b A2 n2 k2 (ka + 0) (kb + 0)) := by
      have hu : WkAt wc g8 0 a A1 n1 k1 (a.fr + ((ka + 0 : Nat) : Int)) (valK a (ka + 0)) := by
        have h := HT.out.u
        rw [Nat.add_zero, HVV.out.1, ← HKA.out.2.1]
        exact h
      have hv : WkAt wc g9 0 b A2 n2 k2 (b.fr + ((kb + 0 : Nat) : Int)) (valK b (kb + 0)) := by
        have h := HT.out.v
        rw [Nat.add_zero, HVV.out.2, ← HKB.out.2.1]
        exact h
      exact ⟨⟨hu, HAX.out.sl.now HBc.out (Nat.le_refl _), fun hz ad e => by have := HAX.out.old hz ad e; omega, HKA.out.2.2⟩, ⟨hv, HBX.out.sl.now HBc.out (Nat.le_refl _), fun hz ad e => by have := HBX.out.old hz ad e; omega, HKB.out.2.2⟩, HBc.out⟩
    have HLW0 : Hid (ka + 0 = 0 ∨ kb + 0 = 0 ∨ iA a.sl (ka + 0 - 1) + iA b.sl (kb + 0 - 1) < 0) := by
      have := HLO.out
      have := HKA.out
      have := HKB.out
      show _ ∨ _
      omega
    clear ho8 ho9 hl8 hl9 hwr SB HA1 HA2 KC KA KAd KD K0 HZ10 HZ20 HZ21 HZ30 HZ31 HZ32 q0 q1 q2 q3 q4 q5
    go_wp2_with fail
    go_loopg [] ((hi - lo).toNat) (fun f wr => ∃ j : Nat, (j : Int) ≤ hi - lo ∧ f = (hi - lo).toNat - j ∧ Hid (MI w wr g8 g9 a A1 n1 k1 b A2 n2 k2 (ka + j) (kb + j)) ∧ Hid (ka + j = 0 ∨ kb + j = 0 ∨ iA a.sl (ka + j - 1) + iA b.sl (kb + j - 1) < 0))
    case atStart => exact ⟨0, by omega, rfl, HS0, HLW0⟩
    case round =>
      obtain ⟨j, hj, rfl, HI, HLW⟩ := hrel
      have g3 := HI.out.u.wk.c3
      simp only [Nat.zero_add] at g3
      obtain ⟨xx, hxx⟩ : ∃ q, a.fr + ((ka + j : Nat) : Int) = q := ⟨_, rfl⟩
      rw [hxx] at g3
      have hk1 := HKA.out
      have hk2 := HKB.out
      have hle := HLEN.out
      have hxl : xx = lo + j := by omega
      have hh := HHI.out
      by_cases hlt : xx < hi
      · have hd2 : decide (xx < hi) = true := decide_eq_true hlt
        have hjn1 : ka + j < n1 := by omega
        have hjn2 : kb + j < n2 := by omega
        have hr1 := okC_sl HVAA.out (k := ka + j) (by omega)
        have hr2 := okC_sl HVBB.out (k := kb + j) (by omega)
        have hfa := okC_fr HVAA.out
        have hfb := okC_fr HVBB.out
        have HF8 := hide (fun W (hG : Gr wr W) => after_any g8 0 a A1 n1 k1 (ka + j) (valK a (ka + j)) W (HI.out.u.wk.gr hG) (HI.out.u.sl.gr hG) hfa.1 hfa.2 (by omega) (by omega))
        have HF9 := hide (fun W (hG : Gr wr W) => after_any g9 0 b A2 n2 k2 (kb + j) (valK b (kb + j)) W (HI.out.v.wk.gr hG) (HI.out.v.sl.gr hG) hfb.1 hfb.2 (by omega) (by omega))
        have ha8 : aftV a (ka + j) = iA a.sl (ka + j) := if_neg (by omega)
        have ha9 : aftV b (kb + j) = iA b.sl (kb + j) := if_neg (by omega)
        rw [ha8] at HF8
        rw [ha9] at HF9
        have HSG : Hid (∀ s8 s9, iA a.sl (ka + j) = s8 → iA b.sl (kb + j) = s9 → (s8 + s9 < 0 → ka + (j + 1) = 0 ∨ kb + (j + 1) = 0 ∨ iA a.sl (ka + (j + 1) - 1) + iA b.sl (kb + (j + 1) - 1) < 0)) := fun s8 s9 e8 e9 h => by
          rw [show ka + (j + 1) - 1 = ka + j by omega, show kb + (j + 1) - 1 = kb + j by omega, e8, e9]
          exact .inr (.inr h)
        obtain ⟨s8, hs8⟩ : ∃ q, iA a.sl (ka + j) = q := ⟨_, rfl⟩
        obtain ⟨s9, hs9⟩ : ∃ q, iA b.sl (kb + j) = q := ⟨_, rfl⟩
        have HSG := hide (HSG.out s8 s9 hs8 hs9)
        have HS89 := hide (show iA a.sl (ka + j) = s8 ∧ iA b.sl (kb + j) = s9 from ⟨hs8, hs9⟩)
        rw [hs8] at HF8 hr1
        rw [hs9] at HF9 hr2
        obtain ⟨sz, hsz⟩ : ∃ q, s8 + s9 = q := ⟨_, rfl⟩
        rw [hsz] at HSG
        have hwz : IntKind.i64.wrap (s8 + s9) = sz := by rw [IntKind.wrap_i64]; omega
        have HSZ := hide hsz
        have HJN := hide (show ka + j < n1 ∧ kb + j < n2 ∧ (j : Int) + 1 ≤ hi - lo from ⟨hjn1, hjn2, by omega⟩)
        have HC8 := hide (HF8.out wr (Gr.refl wr))
        clear hs8 hs9 hsz hr1 hr2 hfa hfb ha8 ha9 hk1 hk2 hle hxl hh hxx hjn1 hjn2
        go_wp2_with fail
        refine HC8.out.mono ?_
        rintro e w4 ⟨rfl, hG4⟩
        have HC9 := hide (HF9.out w4 hG4)
        have HG4 := hide hG4
        clear HC8 HF8 HF9 hG4 g3
        go_wp2_with fail
        refine HC9.out.mono ?_
        rintro e w5 ⟨rfl, hG5⟩
        have HM := hide (HI.out.gr (HG4.out.trans hG5))
        clear HC9 hG5 HG4
        by_cases hneg : sz < 0
        · have hd3 : decide (sz < 0) = true := decide_eq_true hneg
          have HLW2 := hide (HSG.out hneg)
          have HS8 := hide (onway_step HVAA.out HM.out.u HJN.out.1)
          go_wp2_with fail
          refine HS8.out.mono ?_
          rintro e w9 ⟨rfl, ho, hk9⟩
          have hB9 := hk9.below HM.out.below HNE.out.2.1 HM.out.below.size
          have HM9 : Hid (MI w w9 g8 g9 a A1 n1 k1 b A2 n2 k2 (ka + j + 1) (kb + j)) := ⟨ho, HM.out.v.shift (hk9.block g9 (by exact HM.out.v.wk.lt) (Ne.symm HNE.out.1)) hk9.size (HBX.out.sl.now hB9 (Nat.le_refl _)), hB9⟩
          have HS9 := hide (onway_step HVBB.out HM9.out.v HJN.out.2.1)
          clear ho hk9 HS8 hB9
          go_wp2_with fail
          refine HS9.out.mono ?_
          rintro e w10 ⟨rfl, ho, hk10⟩
          have hB10 := hk10.below HM9.out.below HNE.out.2.2 HM9.out.below.size
          have HMa : Hid (MI w w10 g8 g9 a A1 n1 k1 b A2 n2 k2 (ka + (j + 1)) (kb + (j + 1))) := ⟨HM9.out.u.shift (hk10.block g8 (by exact HM9.out.u.wk.lt) HNE.out.1) hk10.size (HAX.out.sl.now hB10 (Nat.le_refl _)), ho, hB10⟩
          clear ho hk10 HS9 hB10
          go_wp2_with fail
          go_roundg ((hi - lo).toNat - (j + 1))
          case measure => have := HJN.out.2.2; omega
          case rel => exact ⟨j + 1, by have := HJN.out.2.2; omega, rfl, HMa, HLW2⟩
        · have hd3 : decide (sz < 0) = false := decide_eq_false hneg
          have HNG := hide hneg
          have hmi := HM.out
          have hl8 := hmi.u.wk.lt
          have hl9 := hmi.v.wk.lt
          have e3 := hmi.u.wk.c3
          have e4 := hmi.u.wk.c4
          have e5 := hmi.v.wk.c4
          simp only [Nat.zero_add] at e3 e4 e5
          have hfa := okC_fr HVAA.out
          have hfb := okC_fr HVBB.out
          have hlen := HLEN.out
          have hk1 := HKA.out
          have hk2 := HKB.out
          have HF9 := hide (fun W (hG : Gr w5 W) => after_any g9 0 b A2 n2 k2 (kb + j) (valK b (kb + j)) W (hmi.v.wk.gr hG) (hmi.v.sl.gr hG) hfb.1 hfb.2 (by omega) hmi.v.le)
          have HB8 := hide (fun W (hG : Gr w5 W) => before_any g8 a A1 n1 k1 (ka + j) (valK a (ka + j)) W (hmi.u.wk.gr hG) (hmi.u.sl.gr hG) hfa.1 hfa.2 (by omega) hmi.u.le)
          have hva := okC_val HVAA.out (k := ka + j) (by have := hmi.u.le; omega)
          have hvb := okC_val HVBB.out (k := kb + j) (by have := hmi.v.le; omega)
          have hafr : -1048576 ≤ aftV b (kb + j) ∧ aftV b (kb + j) ≤ 1048576 := by
            unfold aftV
            split
            · omega
            · exact okC_sl HVBB.out (by have := hmi.v.le; omega)
          have HOK : Hid (MeetOk a b (ka + j) (kb + j)) := ⟨HVAA.out, HVBB.out, by have := hmi.u.le; omega, by have := hmi.v.le; omega, by omega, HLW.out, by rw [HS89.out.1, HS89.out.2, HSZ.out]; have := HNG.out; omega⟩
          have HBW := hide hmi.below
          have HRT : Hid (∀ (W : World) (vv xx mm : Int), valK a (ka + j) + valK b (kb + j) = vv → a.fr + ((ka + j : Nat) : Int) = xx → max (befV a (ka + j)) (-(aftV b (kb + j))) = mm → Gr w5 W → MeetPost a b w (.returned (.tuple #[.int .i64 vv, .int .i64 xx, .int .i64 mm, .int .i64 0])) W) := fun W vv xx mm h1 h2 h3 hG => ⟨.inr ⟨ka + j, kb + j, HOK.out, by rw [h1, h2, h3]⟩, HBW.out.trans (hG.below.mono HBW.out.size)⟩
          obtain ⟨za, hza⟩ : ∃ q, valK a (ka + j) = q := ⟨_, rfl⟩
          obtain ⟨zb, hzb⟩ : ∃ q, valK b (kb + j) = q := ⟨_, rfl⟩
          obtain ⟨zx, hzx⟩ : ∃ q, a.fr + ((ka + j : Nat) : Int) = q := ⟨_, rfl⟩
          obtain ⟨zf, hzf⟩ : ∃ q, aftV b (kb + j) = q := ⟨_, rfl⟩
          obtain ⟨ze, hze⟩ : ∃ q, befV a (ka + j) = q := ⟨_, rfl⟩
          rw [hza] at hva e4
          rw [hzb] at hvb e5
          rw [hzx] at e3
          rw [hzf] at hafr HF9
          rw [hze] at HB8
          rw [hza, hzb, hzx, hzf, hze] at HRT
          obtain ⟨zs, hzs⟩ : ∃ q, za + zb = q := ⟨_, rfl⟩
          have hws : IntKind.i64.wrap (za + zb) = zs := by rw [IntKind.wrap_i64]; omega
          have hwn : IntKind.i64.wrap (-zf) = -zf := by rw [IntKind.wrap_i64]; omega
          have E3 := fun n os => cell_grown (a := ⟨g8, 3, none⟩) hl8 e3 n os
          have E4 := fun n os => cell_grown (a := ⟨g8, 4, none⟩) hl8 e4 n os
          have E5 := fun n os => cell_grown (a := ⟨g9, 4, none⟩) hl9 e5 n os
          have HZS := hide hzs
          clear hmi hl8 hl9 e3 e4 e5 hfa hfb hlen hk1 hk2 hva hvb hafr hza hzb hzx hzf hze hzs
          go_wp2_with fail
          go_quiet_grown (first | (go_at_call 76; refine Calls.grown_of ((HB8.out _ ⟨_, _, rfl⟩).mono fun _ _ h => ⟨h.1, h.2.choose, #[], by rw [grow_empty]; exact h.2.choose_spec⟩)) | (go_at_call 63; refine Calls.grown_of ((HF9.out _ ⟨_, _, rfl⟩).mono fun _ _ h => ⟨h.1, h.2⟩)))
          clear E3 E4 E5 HB8 HF9
          go_wp2_with fail
          refine bodyPost_ret (results44 _ _ _ _ _ _ _ _ _ _) rfl ?_
          exact HRT.out _ _ _ _ HZS.out rfl rfl ⟨_, _, rfl⟩
      · have hd2 : decide (xx < hi) = false := decide_eq_false hlt
        have HEN : Hid (ka + j = n1 ∨ kb + j = n2) := by show _ ∨ _; omega
        clear hk1 hk2 hle hxl hh hxx
        have hmi := HI.out
        have hl8 := hmi.u.wk.lt
        have hl9 := hmi.v.wk.lt
        have e3 := hmi.u.wk.c3
        have e4 := hmi.u.wk.c4
        have e5 := hmi.v.wk.c4
        simp only [Nat.zero_add] at e3 e4 e5
        have hfa := okC_fr HVAA.out
        have hfb := okC_fr HVBB.out
        have hlen := HLEN.out
        have hk1 := HKA.out
        have hk2 := HKB.out
        have HF9 := hide (fun W (hG : Gr wr W) => after_any g9 0 b A2 n2 k2 (kb + j) (valK b (kb + j)) W (hmi.v.wk.gr hG) (hmi.v.sl.gr hG) hfb.1 hfb.2 (by omega) hmi.v.le)
        have HB8 := hide (fun W (hG : Gr wr W) => before_any g8 a A1 n1 k1 (ka + j) (valK a (ka + j)) W (hmi.u.wk.gr hG) (hmi.u.sl.gr hG) hfa.1 hfa.2 (by omega) hmi.u.le)
        have hva := okC_val HVAA.out (k := ka + j) (by have := hmi.u.le; omega)
        have hvb := okC_val HVBB.out (k := kb + j) (by have := hmi.v.le; omega)
        have hafr : -1048576 ≤ aftV b (kb + j) ∧ aftV b (kb + j) ≤ 1048576 := by
          unfold aftV
          split
          · omega
          · exact okC_sl HVBB.out (by have := hmi.v.le; omega)
        have HOK : Hid (MeetOk a b (ka + j) (kb + j)) := ⟨HVAA.out, HVBB.out, by have := hmi.u.le; omega, by have := hmi.v.le; omega, by omega, HLW.out, by have := HEN.out; have := HLEN.out; omega⟩
        have HBW := hide hmi.below
        have HRT : Hid (∀ (W : World) (vv xx mm : Int), valK a (ka + j) + valK b (kb + j) = vv → a.fr + ((ka + j : Nat) : Int) = xx → max (befV a (ka + j)) (-(aftV b (kb + j))) = mm → Gr wr W → MeetPost a b w (.returned (.tuple #[.int .i64 vv, .int .i64 xx, .int .i64 mm, .int .i64 0])) W) := fun W vv xx mm h1 h2 h3 hG => ⟨.inr ⟨ka + j, kb + j, HOK.out, by rw [h1, h2, h3]⟩, HBW.out.trans (hG.below.mono HBW.out.size)⟩
        obtain ⟨za, hza⟩ : ∃ q, valK a (ka + j) = q := ⟨_, rfl⟩
        obtain ⟨zb, hzb⟩ : ∃ q, valK b (kb + j) = q := ⟨_, rfl⟩
        obtain ⟨zx, hzx⟩ : ∃ q, a.fr + ((ka + j : Nat) : Int) = q := ⟨_, rfl⟩
        obtain ⟨zf, hzf⟩ : ∃ q, aftV b (kb + j) = q := ⟨_, rfl⟩
        obtain ⟨ze, hze⟩ : ∃ q, befV a (ka + j) = q := ⟨_, rfl⟩
        rw [hza] at hva e4
        rw [hzb] at hvb e5
        rw [hzx] at e3
        rw [hzf] at hafr HF9
        rw [hze] at HB8
        rw [hza, hzb, hzx, hzf, hze] at HRT
        obtain ⟨zs, hzs⟩ : ∃ q, za + zb = q := ⟨_, rfl⟩
        have hws : IntKind.i64.wrap (za + zb) = zs := by rw [IntKind.wrap_i64]; omega
        have hwn : IntKind.i64.wrap (-zf) = -zf := by rw [IntKind.wrap_i64]; omega
        have E3 := fun n os => cell_grown (a := ⟨g8, 3, none⟩) hl8 e3 n os
        have E4 := fun n os => cell_grown (a := ⟨g8, 4, none⟩) hl8 e4 n os
        have E5 := fun n os => cell_grown (a := ⟨g9, 4, none⟩) hl9 e5 n os
        have HZS := hide hzs
        clear hmi hl8 hl9 e3 e4 e5 hfa hfb hlen hk1 hk2 hva hvb hafr hza hzb hzx hzf hze hzs
        go_wp2_with fail
        go_quiet_grown (first | (go_at_call 76; refine Calls.grown_of ((HB8.out _ ⟨_, _, rfl⟩).mono fun _ _ h => ⟨h.1, h.2.choose, #[], by rw [grow_empty]; exact h.2.choose_spec⟩)) | (go_at_call 63; refine Calls.grown_of ((HF9.out _ ⟨_, _, rfl⟩).mono fun _ _ h => ⟨h.1, h.2⟩)))
        clear E3 E4 E5 HB8 HF9
        go_wp2_with fail
        refine bodyPost_ret (results44 _ _ _ _ _ _ _ _ _ _) rfl ?_
        exact HRT.out _ _ _ _ HZS.out rfl rfl ⟨_, _, rfl⟩

end Go.Proofs.Ytdepnhnpklbmiaa
