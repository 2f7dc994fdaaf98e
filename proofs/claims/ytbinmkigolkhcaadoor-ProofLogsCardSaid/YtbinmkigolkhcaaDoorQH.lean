/- ProofLogs. -/
import Derived.Test.YtbinmkigolkhcaaDoorQG
set_option linter.unusedSimpArgs false
set_option linter.unusedVariables false
namespace Go.Proofs.YtbinmkigolkhcaaDoor
open Go.RowKit Go.Sort
attribute [local go_sem] Oper.semAt_some

/-- a log and a list that says the same -/
structure Twin (C F : Nat → Prop) (w : World) (b : Nat) (ls : List (List UInt8)) (A : Option Addr) (q c : Nat) : Prop where
  lg : ∃ Ae ce Ap cp, LogC C F w b ls Ae ce Ap cp
  li : ListsC C w A q ls
  ad : Adr A q c
  few : ls.length ≤ 4000
  lo : longB ls = false
theorem Twin.now {C F : Nat → Prop} {w w' : World} {b : Nat} {ls : List (List UInt8)} {A : Option Addr} {q c : Nat} (h : Twin C F w b ls A q c) (hb : Below w.heap.size w w') : Twin C F w' b ls A q c := by
  obtain ⟨Ae, ce, Ap, cp, hl⟩ := h.lg
  exact ⟨⟨Ae, ce, Ap, cp, hl.now hb⟩, h.li.now hb, h.ad, h.few, h.lo⟩
theorem Twin.mods {C F G : Nat → Prop} {w w' : World} {b : Nat} {ls : List (List UInt8)} {A : Option Addr} {q c : Nat} (h : Twin C F w b ls A q c) (hm : Mods G w w') (hF : ∀ k, F k → ¬ G k) (hC : ∀ k, C k → ¬ G k) : Twin C F w' b ls A q c := by
  obtain ⟨Ae, ce, Ap, cp, hl⟩ := h.lg
  exact ⟨⟨Ae, ce, Ap, cp, hl.mods hm hF hC⟩, h.li.mods hm hC, h.ad, h.few, h.lo⟩
theorem Twin.fl {C F : Nat → Prop} {w : World} {b : Nat} {ls : List (List UInt8)} {A : Option Addr} {q c : Nat} (h : Twin C F w b ls A q c) : (∀ k, F k → k < w.heap.size) ∧ (∀ k, C k → k < w.heap.size) ∧ (∀ k, C k → ¬ F k) := by
  obtain ⟨Ae, ce, Ap, cp, hl⟩ := h.lg
  exact ⟨hl.fl, hl.cl, hl.cf⟩
theorem Twin.logged {C F : Nat → Prop} {w : World} {b : Nat} {ls : List (List UInt8)} {A : Option Addr} {q c : Nat} (h : Twin C F w b ls A q c) (i n : Int) : Calls Tryd.prog 42 #[.pointer (some ⟨b, 0, none⟩), .agg #[.slice A q c], .int .i64 i, .int .i64 n] w (TrueP w) := by
  obtain ⟨Ae, ce, Ap, cp, hl⟩ := h.lg
  exact logged_any w b ls A q c i n hl.good h.li.lists h.ad (by have := h.li.1; have := h.few; omega) h.lo
theorem logN_long {ls : List (List UInt8)} (h : longB ls = false) (es : List (List UInt8)) (i : Nat) : longB (logN ls es i) = false := by
  obtain ⟨m, h1, -, h3⟩ := logN_more ls es i
  refine long_no fun j hj => ?_
  rw [h1]
  rw [h1] at hj
  have : (ls ++ m).getD j [] ∈ ls ++ m := mem_getD hj
  rcases List.mem_append.1 this with h4 | h4
  · exact long_false h _ h4
  · exact h3 _ h4
def AddT (C F : Nat → Prop) (b : Nat) (ls : List (List UInt8)) (w : World) (e : Ending) (w' : World) : Prop :=
  ∃ A q c C' F', e = .returned (.tuple #[.agg #[.slice A q c], .bool true]) ∧ Mods F w w' ∧ Twin C' F' w' b ls A q c ∧ (∀ k, C k → C' k) ∧ (∀ k, C' k → C k ∨ w.heap.size ≤ k) ∧ (∀ k, F' k → F k ∨ w.heap.size ≤ k)
theorem Twin.added {C F : Nat → Prop} {w : World} {b : Nat} {ls : List (List UInt8)} {A : Option Addr} {q c : Nat} (h : Twin C F w b ls A q c) {B : Option Addr} {m d : Nat} {ms : List (List UInt8)} (hm : ListsC C w B m ms) (hsz : ls.length + m ≤ 4000) (hE : Env w) (hF1 : ¬ F 1) :
    Calls Tryd.prog 41 #[.pointer (some ⟨b, 0, none⟩), .agg #[.slice A q c], .slice B m d] w (AddT C F b (logN ls ms m) w) := by
  obtain ⟨Ae, ce, Ap, cp, hl⟩ := h.lg
  refine (added_any C F w b ls Ae ce Ap cp A q c B m d ms hl h.li h.ad hm hsz hE.1 hE.2 hF1).mono ?_
  rintro e w' ⟨A', q', c', C', F', Ae', ce', Ap', cp', rfl, k1, k2, k3, k4, k5, k6, k7⟩
  exact ⟨A', q', c', C', F', rfl, k1, ⟨⟨Ae', ce', Ap', cp', k2⟩, k3, k4, by have := logN_len ls ms m; omega, logN_long h.lo ms m⟩, k5, k6, k7⟩
def CopyT (C : Nat → Prop) (ls : List (List UInt8)) (A : Option Addr) (q c : Nat) (w : World) (e : Ending) (w' : World) : Prop :=
  ∃ b F, e = .returned (.pointer (some ⟨b, 0, none⟩)) ∧ Below w.heap.size w w' ∧ Twin C F w' b ls A q c ∧ ∀ k, F k → w.heap.size ≤ k
theorem Twin.size {C F : Nat → Prop} {w : World} {b : Nat} {ls : List (List UInt8)} {A : Option Addr} {q c : Nat} (h : Twin C F w b ls A q c) : ls.length = q := h.li.1
theorem Twin.copy {C F : Nat → Prop} {w : World} {b : Nat} {ls : List (List UInt8)} {A : Option Addr} {q c : Nat} (h : Twin C F w b ls A q c) : Calls Tryd.prog 43 #[.pointer (some ⟨b, 0, none⟩)] w (CopyT C ls A q c w) := by
  obtain ⟨Ae, ce, Ap, cp, hl⟩ := h.lg
  refine (copy_any C F w b ls Ae ce Ap cp hl (by have := h.few; omega)).mono ?_
  rintro e w' ⟨b2, F2, Ae', ce', Ap', cp', rfl, k1, k2, k3⟩
  exact ⟨b2, F2, rfl, k1, ⟨⟨Ae', ce', Ap', cp', k2⟩, h.li.now k1, h.ad, h.few, h.lo⟩, k3⟩
theorem args_clean {w : World} {A : Option Addr} {n : Nat} {ls : List (List UInt8)} (h : ListsIn w.heap.size w A n ls) (hs : ∀ l ∈ ls, l.length ≤ 400) : ListsC (fun k => k < w.heap.size) w A n ls := by
  refine ⟨h.1, ?_⟩
  rcases h.2 with h0 | ⟨b, off, e, hb, hx⟩
  · exact .inl h0
  · refine .inr ⟨b, off, e, hb, hb, fun i hi => ?_⟩
    obtain ⟨Ai, ni, ci, h1, h2, h3, h4⟩ := hx i hi
    refine ⟨Ai, ni, ci, h1, ⟨h2, fun h0 a ha => ?_⟩, ?_⟩
    · rcases h2.2 with h5 | ⟨b2, off2, e2, h6, -⟩
      · omega
      · rw [ha] at e2
        injection e2 with e2
        rw [e2]
        exact h6
    · have := h2.1
      have hl := h.1
      have := hs (ls.getD i []) (mem_getD (by omega))
      omega

set_option maxHeartbeats 4000000 in
set_option maxRecDepth 100000 in
theorem logs_law (A : Option Addr) (n0 c0 : Nat) (ls : List (List UInt8)) (B : Option Addr) (n1 c1 : Nat) (bs : List (List UInt8)) (D : Option Addr) (n2 c2 : Nat) (ds : List (List UInt8)) (i n : Int) (w : World) (hE : Env w)
    (hx : ListsIn w.heap.size w A n0 ls) (hn0 : n0 ≤ 9223372036854775807) (hy : ListsIn w.heap.size w B n1 bs) (hn1 : n1 ≤ 9223372036854775807) (hz : ListsIn w.heap.size w D n2 ds) (hn2 : n2 ≤ 9223372036854775807) :
    Calls Tryd.prog 7 #[.slice A n0 c0, .slice B n1 c1, .slice D n2 c2, .int .i64 i, .int .i64 n] w (TrueP w) := by
  have mixed := mixedOrders
  have HF0 := hide (few_any A n0 c0 ls w hx hn0)
  have HF1 := hide (few_any B n1 c1 bs w hy hn1)
  have HF2 := hide (few_any D n2 c2 ds w hz hn2)
  by_cases hall : ¬ (fewB ls = true ∧ fewB bs = true ∧ fewB ds = true)
  · as_aux_lemma =>
    have HA := hide (alive_env hE)
    cases hf0 : fewB ls <;> cases hf1 : fewB bs <;> cases hf2 : fewB ds <;> rw [hf0] at HF0 <;> rw [hf1] at HF1 <;> rw [hf2] at HF2 <;> (try (exfalso; exact hall ⟨hf0, hf1, hf2⟩))
    all_goals
      clear hx hy hz hn0 hn1 hn2 hE hall hf0 hf1 hf2
      go_enter Tryd.func7, Tryd.ntmps7
      go_wp2_with fail
      refine HF0.out.mono ?_
      rintro e w1 ⟨rfl, rfl⟩
      go_wp2_with fail
      (try (refine HF1.out.mono ?_; rintro e w1 ⟨rfl, rfl⟩; go_wp2_with fail))
      (try (refine HF2.out.mono ?_; rintro e w1 ⟨rfl, rfl⟩; go_wp2_with fail))
      refine HA.out.mono ?_
      rintro e w1 ⟨rfl, hb⟩
      go_wp2_with fail
      go_ret
      exact ⟨rfl, hb⟩
  · obtain ⟨hf0, hf1, hf2⟩ := Classical.not_not.1 hall
    clear hall
    rw [hf0] at HF0
    rw [hf1] at HF1
    rw [hf2] at HF2
    obtain ⟨s0, t0⟩ := few_true hf0
    obtain ⟨s1, t1⟩ := few_true hf1
    obtain ⟨s2, t2⟩ := few_true hf2
    obtain ⟨p, hp⟩ : ∃ p, w.heap.size = p := ⟨_, rfl⟩
    have HNW := hide (New_any w)
    have hlog := New_log w
    have hB1 : Below w.heap.size w (w.alloc (.cells #[.bool true, .slice none 0 0, .slice none 0 0] 65)) := (Below.refl _ w).alloc (Nat.le_refl _) _
    have hsz1 : (w.alloc (.cells #[.bool true, .slice none 0 0, .slice none 0 0] 65)).heap.size = p + 1 := by rw [← hp]; simp
    obtain ⟨W1, hW1⟩ : ∃ W1, w.alloc (.cells #[.bool true, .slice none 0 0, .slice none 0 0] 65) = W1 := ⟨_, rfl⟩
    rw [hW1] at HNW hlog hB1 hsz1
    have x0 := args_clean hx t0
    have x1 := args_clean hy t1
    have x2 := args_clean hz t2
    have e0 : 1 < w.heap.size := hE.1
    rw [hp] at HNW hlog x0 x1 x2 e0
    have hT1 : Twin (fun k => k < p) (fun k => k = p) W1 p [] none 0 0 :=
      ⟨⟨none, 0, none, 0, ⟨hlog, fun g j v e => (by cases e), fun k hk => (by omega), fun k hk => (by omega), fun k hk e => (by omega)⟩⟩, ⟨rfl, .inl rfl⟩, ⟨Nat.le_refl _, .inl ⟨rfl, rfl, rfl⟩⟩, by simp, rfl⟩
    have HCA := hide (hT1.added (d := c0) (x0.now hB1) (by have := hx.1; simp; omega) (hE.after hB1) (by omega))
    unfold AddT at HCA
    have HX1 := hide x1
    have HX2 := hide x2
    have HE := hide hE
    have HP := hide hp
    have HBW1 := hide hB1
    have HS1 := hide (And.intro hsz1 e0)
    have HNN := hide (And.intro s0 (And.intro s1 (And.intro s2 (And.intro hx.1 (And.intro hy.1 hz.1)))))
    clear hx hy hz hn0 hn1 hn2 hE hf0 hf1 hf2 s0 s1 s2 t0 t1 t2 hlog hB1 hsz1 hT1 x0 x1 x2 e0 hp
    go_enter Tryd.func7, Tryd.ntmps7
    go_wp2_with fail
    refine HF0.out.mono ?_
    rintro _ w1 ⟨rfl, rfl⟩
    go_wp2_with fail
    refine HF1.out.mono ?_
    rintro _ w1 ⟨rfl, rfl⟩
    go_wp2_with fail
    refine HF2.out.mono ?_
    rintro _ w1 ⟨rfl, rfl⟩
    go_wp2_with fail
    refine HNW.out.mono ?_
    rintro _ w1 ⟨rfl, rfl⟩
    clear hW1 HF0 HF1 HF2 HNW
    go_wp2_with fail
    refine HCA.out.mono ?_
    rintro _ w2 ⟨A', q', c', C1, F1, rfl, m2, T2, k1, k2, k3⟩
    have HB2 : Hid (Below w.heap.size w w2) := HBW1.out.trans (m2.below (fun k hk => by have := HP.out; omega) HBW1.out.size)
    have HT2 := hide T2
    have HK1 := hide (And.intro k1 (And.intro k2 k3))
    clear m2 T2 k1 k2 k3 HCA
    go_upto_region 7 with (fail)
    have hb3 : Below w2.heap.size w2 (w2.alloc (.cells #[.slice A' q' c'] 59)) := (Below.refl _ w2).alloc (Nat.le_refl _) _
    have hx3 : Box1 (w2.alloc (.cells #[.slice A' q' c'] 59)) w2.heap.size (.slice A' q' c') := heap_alloc_new w2 _
    obtain ⟨w3, hw3⟩ : ∃ w3, w2.alloc (.cells #[.slice A' q' c'] 59) = w3 := ⟨_, rfl⟩
    obtain ⟨r, hr⟩ : ∃ r, w2.heap.size = r := ⟨_, rfl⟩
    rw [hw3] at hb3 hx3 ⊢
    have HB3 := hide (HB2.out.trans (hb3.mono HB2.out.size))
    have HT3 := hide (HT2.out.now hb3)
    have hfl := HT2.out.fl
    rw [hr] at hx3 hfl
    (try rw [hr])
    have HRF := hide hfl
    obtain ⟨lA, hlA⟩ : ∃ lA, logN [] ls n0 = lA := ⟨_, rfl⟩
    have hlA4 := logN_len [] ls n0
    rw [hlA] at HT3 hlA4
    have HLA : Hid (lA.length ≤ 100) := by show lA.length ≤ 100; have := HNN.out; simp at hlA4; omega
    have hx3f := hx3.facts.1
    have HX3 := hide hx3
    clear hb3 hx3 hw3 hr hfl hlA hlA4 HT2 HB2
    go_wp2_with fail
    refine (HT3.out.logged i n).mono ?_
    rintro _ w4 ⟨rfl, hb⟩
    have HB4 := hide (HB3.out.trans (hb.mono HB3.out.size))
    have HT4 := hide (HT3.out.now hb)
    have HX4 := hide (HX3.out.below hb)
    have hx4f := HX4.out.facts.1
    clear hb hx3f HX3 HT3 HB3
    go_wp2_with fail
    refine (HT4.out.logged i q').mono ?_
    rintro _ w5 ⟨rfl, hb⟩
    have HB5 := hide (HB4.out.trans (hb.mono HB4.out.size))
    have HT5 := hide (HT4.out.now hb)
    have HX5 := hide (HX4.out.below hb)
    clear hb hx4f HX4 HT4 HB4
    have HCP := hide HT5.out.copy
    unfold CopyT at HCP
    go_wp2_with fail
    refine HCP.out.mono ?_
    rintro _ w6 ⟨bd, Fd, rfl, hb, Td, hFd⟩
    have HB6 := hide (HB5.out.trans (hb.mono HB5.out.size))
    have HT6 := hide (HT5.out.now hb)
    have HX6 := hide (HX5.out.below hb)
    have HTD := hide Td
    have HFD : Hid ((∀ k, F1 k → ¬ Fd k) ∧ (∀ k, Fd k → ¬ F1 k) ∧ ∀ k, Fd k → w.heap.size ≤ k) := ⟨fun k h1 h2 => by have := HT5.out.fl.1 k h1; have := hFd k h2; omega, fun k h2 h1 => by have := HT5.out.fl.1 k h1; have := hFd k h2; omega, fun k h2 => Nat.le_trans HB5.out.size (hFd k h2)⟩
    have hx6f := HX6.out.facts.1
    clear hb Td hFd HCP HX5 HT5 HB5
    have HY6 : Hid (ListsC C1 w6 B n1 bs) := (HX1.out.now HB6.out).wider fun k hk => HK1.out.1 k hk
    have HZ6 : Hid (ListsC C1 w6 D n2 ds) := (HX2.out.now HB6.out).wider fun k hk => HK1.out.1 k hk
    have HNF : Hid (¬ F1 1 ∧ ¬ Fd 1) := by
      have h1 := HS1.out
      have hpw := HP.out
      refine ⟨fun h => ?_, fun h => ?_⟩
      · rcases HK1.out.2.2 1 h with e | e <;> omega
      · have := HFD.out.2.2 1 h
        omega
    have hcb := HT6.out.added (d := c1) HY6.out (by have := HLA.out; have := HNN.out; omega) (HE.out.after HB6.out) HNF.out.1
    have HCB := hide hcb
    unfold AddT at HCB
    clear hcb
    go_wp2_with fail
    refine HCB.out.mono ?_
    rintro _ w7 ⟨A2, q2, c2', C2, F2, rfl, m7, T7, j1, j2, j3⟩
    have hF1p : ∀ k, F1 k → w.heap.size ≤ k := fun k hk => by
      have h1 := HS1.out
      have hpw := HP.out
      rcases HK1.out.2.2 k hk with e | e <;> omega
    have HB7 := hide (HB6.out.trans (m7.below hF1p HB6.out.size))
    have hcf1 := HT6.out.fl.2.2
    have HD7 := hide (HTD.out.mods m7 HFD.out.2.1 hcf1)
    have HZ7 := hide (HZ6.out.mods m7 hcf1)
    have HX7 := hide (HX6.out.same (m7.same r HX6.out.lt (fun h => by have := HRF.out.1 r h; omega)))
    have HT7 := hide T7
    have HJ := hide (And.intro j1 (And.intro j2 j3))
    have HW67 := hide (And.intro m7.size HTD.out.fl)
    clear m7 T7 j1 j2 j3 hF1p hcf1 HCB hx6f HX6 HT6 HY6 HZ6 HTD HB6
    go_upto_region 13 with (fail)
    have hb8 : Below w7.heap.size w7 (w7.alloc (.cells #[.slice A2 q2 c2'] 59)) := (Below.refl _ w7).alloc (Nat.le_refl _) _
    have hx8 : Box1 (w7.alloc (.cells #[.slice A2 q2 c2'] 59)) w7.heap.size (.slice A2 q2 c2') := heap_alloc_new w7 _
    obtain ⟨w8, hw8⟩ : ∃ w8, w7.alloc (.cells #[.slice A2 q2 c2'] 59) = w8 := ⟨_, rfl⟩
    obtain ⟨s, hs⟩ : ∃ s, w7.heap.size = s := ⟨_, rfl⟩
    rw [hw8] at hb8 hx8 ⊢
    have HB8 := hide (HB7.out.trans (hb8.mono HB7.out.size))
    have HT8 := hide (HT7.out.now hb8)
    have HD8 := hide (HD7.out.now hb8)
    have HZ8 := hide (HZ7.out.now hb8)
    have HX8 := hide (HX7.out.below hb8)
    rw [hs] at hx8
    (try rw [hs])
    have HS8 := hide hx8
    have HSS : Hid (w6.heap.size ≤ s) := by show _ ≤ s; rw [← hs]; exact HW67.out.1
    have hx8f := HX8.out.facts.1
    obtain ⟨lB, hlB⟩ : ∃ lB, logN lA bs n1 = lB := ⟨_, rfl⟩
    have hcc := HD8.out.added (d := c2) HZ8.out (by have := HLA.out; have := HNN.out; omega) (HE.out.after HB8.out) HNF.out.2
    have HCC := hide hcc
    unfold AddT at HCC
    rw [hlB] at HT8
    clear hb8 hx8 hw8 hs hcc hlB HT7 HD7 HZ7 HX7 HB7
    go_wp2_with fail
    refine HCC.out.mono ?_
    rintro _ w9 ⟨A3, q3, c3, C3, F3, rfl, m9, T9, l1, l2, l3⟩
    have HB9 := hide (HB8.out.trans (m9.below HFD.out.2.2 HB8.out.size))
    have HT9 := hide (HT8.out.mods m9 (fun k hk hd => by
      rcases HJ.out.2.2 k hk with e | e
      · exact HFD.out.1 k e hd
      · have := HW67.out.2.1 k hd
        omega) (fun k hk hd => by
      rcases HJ.out.2.1 k hk with e | e
      · exact HW67.out.2.2.2 k e hd
      · have := HW67.out.2.1 k hd
        omega))
    have HS9 := hide (HS8.out.same (m9.same s HS8.out.lt (fun h => by have := HW67.out.2.1 s h; have := HSS.out; omega)))
    have HD9 := hide T9
    clear m9 T9 l1 l2 l3 HCC hx8f HX8 HT8 HD8 HZ8 HS8 HB8
    go_upto_region 16 with (fail)
    have hb10 : Below w9.heap.size w9 (w9.alloc (.cells #[.slice A3 q3 c3] 59)) := (Below.refl _ w9).alloc (Nat.le_refl _) _
    have hx10 : Box1 (w9.alloc (.cells #[.slice A3 q3 c3] 59)) w9.heap.size (.slice A3 q3 c3) := heap_alloc_new w9 _
    obtain ⟨w10, hw10⟩ : ∃ w10, w9.alloc (.cells #[.slice A3 q3 c3] 59) = w10 := ⟨_, rfl⟩
    obtain ⟨t, ht⟩ : ∃ t, w9.heap.size = t := ⟨_, rfl⟩
    rw [hw10] at hb10 hx10 ⊢
    have HB10 := hide (HB9.out.trans (hb10.mono HB9.out.size))
    have HT10 := hide (HT9.out.now hb10)
    have HD10 := hide (HD9.out.now hb10)
    have HS10 := hide (HS9.out.below hb10)
    rw [ht] at hx10
    (try rw [ht])
    have HX10 := hide hx10
    have KS : Hid (∀ w', Below w10.heap.size w10 w' → w'.cell? ⟨s, 0, none⟩ = some (.slice A2 q2 c2')) := fun w' hb => (HS10.out.below hb).facts.1
    have KT : Hid (∀ w', Below w10.heap.size w10 w' → w'.cell? ⟨t, 0, none⟩ = some (.slice A3 q3 c3)) := fun w' hb => (HX10.out.below hb).facts.1
    have LS : Hid (∀ (i n : Int) w', Below w10.heap.size w10 w' → Calls Tryd.prog 42 #[.pointer (some ⟨p, 0, none⟩), .agg #[.slice A2 q2 c2'], .int .i64 i, .int .i64 n] w' (TrueP w')) := fun i n w' hb => (HT10.out.now hb).logged i n
    have LT : Hid (∀ (i n : Int) w', Below w10.heap.size w10 w' → Calls Tryd.prog 42 #[.pointer (some ⟨bd, 0, none⟩), .agg #[.slice A3 q3 c3], .int .i64 i, .int .i64 n] w' (TrueP w')) := fun i n w' hb => (HD10.out.now hb).logged i n
    have hu1 := KS.out w10 (Below.refl _ _)
    clear hb10 hx10 hw10 ht HT9 HD9 HS9 HB9 HT10 HD10 HS10 HX10
    go_wp2_with fail
    refine (LS.out i n _ (Below.refl _ _)).mono ?_
    rintro _ w11 ⟨rfl, hb⟩
    have HB11 := hide hb
    have hu2 := KT.out w11 hb
    clear hb hu1
    go_wp2_with fail
    refine (LT.out i n _ HB11.out).mono ?_
    rintro _ w12 ⟨rfl, hb⟩
    have HB12 := hide (HB11.out.trans (hb.mono HB11.out.size))
    have hu3 := KS.out w12 HB12.out
    clear hb hu2 HB11
    go_wp2_with fail
    refine (LS.out i n0 _ HB12.out).mono ?_
    rintro _ w13 ⟨rfl, hb⟩
    have HB13 := hide (HB12.out.trans (hb.mono HB12.out.size))
    have hu4 := KT.out w13 HB13.out
    clear hb hu3 HB12
    go_wp2_with fail
    refine (LT.out i n0 _ HB13.out).mono ?_
    rintro _ w14 ⟨rfl, hb⟩
    have HB14 := hide (HB10.out.trans ((HB13.out.trans (hb.mono HB13.out.size)).mono HB10.out.size))
    have HAL := hide (alive_env (HE.out.after HB14.out))
    clear hb hu4 HB13 KS KT LS LT
    go_wp2_with fail
    refine HAL.out.mono ?_
    rintro _ w15 ⟨rfl, hb⟩
    go_wp2_with fail
    go_ret
    exact ⟨rfl, HB14.out.trans (hb.mono HB14.out.size)⟩
end Go.Proofs.YtbinmkigolkhcaaDoor
