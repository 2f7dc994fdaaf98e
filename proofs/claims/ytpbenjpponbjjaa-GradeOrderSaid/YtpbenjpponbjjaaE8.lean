/- append is sound. -/
import Derived.Test.YtpbenjpponbjjaaE7
set_option linter.unusedSimpArgs false
set_option linter.unusedVariables false
namespace Go.Proofs.Ytpbenjpponbjjaa.En
open Go.RowKit

theorem Inv.kill {C : Cx} {ρ : Pl} {H : AH} {w : World} (h : Inv C ρ H w) (b : Nat) (blk : Blk) : Inv C ρ (H.set b { blk with body := .dead }) w := by
  have hget : ∀ (i : Nat) c, (H.set b { blk with body := .dead })[i]? = some c → c.body.live = true → H[i]? = some c ∧ i ≠ b := fun i c hc hl => by
    rw [List.getElem?_set] at hc
    split at hc
    · split at hc
      · injection hc with hc
        subst hc
        cases hl
      · cases hc
    · rename_i e
      exact ⟨hc, fun e' => e e'.symm⟩
  exact ⟨fun i c hc hl => h.blk i c (hget i c hc hl).1 hl, fun i hi => h.on i (by simpa using hi), fun i hi => h.off i (by simpa using hi), fun i j bi bj hij hi hj li lj => h.sep i j bi bj hij (hget i bi hi li).1 (hget j bj hj lj).1 li lj,
    fun i c hc hl => h.own i c (hget i c hc hl).1 hl, h.os, h.tape, h.output, h.size, h.kept⟩

/-- a block of one's own known by a new number -/
theorem Inv.adopt {C : Cx} {ρ : Pl} {H : AH} {w w' : World} (h : Inv C ρ H w) {g g2 : Nat} (ho : w'.os = w.os) (ht : w'.tape = w.tape) (hp : w'.output = w.output) (hs : w.heap.size ≤ w'.heap.size) (hk : ∀ k, k < w.heap.size → k ≠ g → k ≠ g2 → w'.heap[k]? = w.heap[k]?)
    (hown : C.own g) (hown2 : C.own g2) (hfree : ∀ (i : Nat) b a, H[i]? = some b → b.body.live = true → (ρ i).addr = some a → a.block ≠ g ∧ a.block ≠ g2) {arr : Array Value} {ty : TypeId} (hg : w'.heap[g]? = some (.cells arr ty (0, 0))) (fix : Bool) (sz : Nat) (body : Body)
    (hc : ∀ j x, body.get j = some (true, x) → ∃ u, arr[j]? = some u ∧ ARel ρ x u) (hl : body.len ≤ arr.size) (hf : fix = true → arr.size = body.len) :
    Inv C (upd ρ H.length ⟨true, false, some ⟨g, 0, none⟩, arr.size, sz⟩) (H ++ [⟨true, fix, ty, sz, body⟩]) w' ∧ Ext ρ (upd ρ H.length ⟨true, false, some ⟨g, 0, none⟩, arr.size, sz⟩) := by
  have hoff := h.off H.length (Nat.le_refl _)
  have he := ext_upd ⟨true, false, some ⟨g, 0, none⟩, arr.size, sz⟩ hoff
  have hglt : g < w'.heap.size := (Array.getElem?_eq_some_iff.1 hg).1
  have hold : ∀ (i : Nat) b, H[i]? = some b → b.body.live = true → BRel (upd ρ H.length ⟨true, false, some ⟨g, 0, none⟩, arr.size, sz⟩) i b w' := fun i b hb hl =>
    (h.blk i b hb hl).keep he hs fun a ha => hk _ ((h.blk i b hb hl).lt a ha).2 (hfree i b a hb hl ha).1 (hfree i b a hb hl ha).2
  have hne : ∀ {i : Nat} {b}, H[i]? = some b → i ≠ H.length := fun hb => by
    have := (List.getElem?_eq_some_iff.1 hb).1
    omega
  refine ⟨⟨?_, on_append h.on rfl, ?_, ?_, ?_, ho.trans h.os, ht.trans h.tape, hp.trans h.output, Nat.le_trans h.size hs, ?_⟩, he⟩
  · intro i b hb hl'
    rcases getElem?_append_one hb with ⟨h1, _⟩ | ⟨rfl, rfl⟩
    · exact hold i b h1 hl'
    · refine ⟨by rw [upd_same], fun _ => by rw [upd_same], by rw [upd_same], ?_, ?_, ?_, ?_⟩
      · rw [upd_same]
        intro a ha
        injection ha with ha
        subst ha
        exact ⟨rfl, hglt⟩
      · rw [upd_same]
        intro j x hx
        obtain ⟨u, h1, h2⟩ := hc j x hx
        refine ⟨_, u, rfl, ?_, h2.mono he⟩
        rw [addr_add, Nat.zero_add]
        simp only [World.cell?, hg]
        simpa using h1
      · rw [upd_same]
        intro _ a ha
        injection ha with ha
        subst ha
        exact ⟨rfl, arr, hg, rfl, hl, hf⟩
      · rw [upd_same]
        intro _ ha
        cases ha
  · intro i hi
    simp at hi
    rw [upd_other _ _ (by omega)]
    exact h.off i (by omega)
  · intro i j bi bj hij hi hj li lj hr a a' ha ha'
    rcases getElem?_append_one hi with ⟨h1, _⟩ | ⟨rfl, rfl⟩ <;> rcases getElem?_append_one hj with ⟨h2, _⟩ | ⟨rfl, rfl⟩
    · rw [upd_other _ _ (hne h1)] at ha
      rw [upd_other _ _ (hne h2)] at ha'
      exact h.sep i j bi bj hij h1 h2 li lj hr a a' ha ha'
    · rw [upd_other _ _ (hne h1)] at ha
      rw [upd_same] at ha'
      injection ha' with ha'
      subst ha'
      exact (hfree i bi a h1 li ha).1
    · rw [upd_other _ _ (hne h2)] at ha'
      rw [upd_same] at ha
      injection ha with ha
      subst ha
      exact fun e => (hfree j bj a' h2 lj ha').1 e.symm
    · exact absurd rfl hij
  · intro i b hb hl' hr a ha
    rcases getElem?_append_one hb with ⟨h1, _⟩ | ⟨rfl, rfl⟩
    · rw [upd_other _ _ (hne h1)] at ha
      exact h.own i b h1 hl' hr a ha
    · rw [upd_same] at ha
      injection ha with ha
      subst ha
      exact hown
  · intro k hk' ho'
    rw [hk k (Nat.lt_of_lt_of_le hk' h.size) (fun e => ho' (by rw [e]; exact hown)) (fun e => ho' (by rw [e]; exact hown2))]
    exact h.kept k hk' ho'

section
variable {C : Cx} {P : Program} {T : TT} {ρ : Pl} {H : AH} {w : World}

theorem append_empty (ad : Option Addr) {t ty e : TypeId} {i : TypeInfo} (hu : P.underlying t = some (.slice e)) (hi : P.info? e = some i) (a : Addr) (m c : Nat) (hm : 0 < m) (hb : m * i.bytes ≤ 140737488355328) :
    (Builtin.append_ #[t, t] ty #[.slice ad 0 0, .slice (some a) m c]).run P w = (Builtin.append_ #[t, t] ty #[.slice none 0 0, .slice (some a) m c]).run P w := by
  cases ad with
  | none => rfl
  | some x =>
    have hn : ¬ m = 0 := by omega
    have h2 : ¬ Builtin.nextslicecap m 0 * i.bytes > 2 ^ 48 := by
      have : Builtin.nextslicecap m 0 = m := by unfold Builtin.nextslicecap; rw [if_pos (by omega)]
      rw [this]
      omega
    have h2' : ¬ (281474976710656 < Builtin.nextslicecap m 0 * i.bytes) := by simpa using h2
    simp [Builtin.append_, run_underlying hu, sizeOf, typeInfo, hi, Builtin.lenOf, hn, h2', Builtin.firstCells, loadCells, loadCellsFrom]

/-- the cells of a slice that is read -/
theorem rowOf_ok (hI : Inv C ρ H w) {k : RK} {size : Nat} {x : AV} {u : Value} (hx : VRel ρ x u) {ys : List Int} (h : rowOf H k size x = some (true, ys)) (hn : 0 < lenOf x) :
    ∃ a c, u = .slice (some a) (lenOf x) c ∧ ys.length = lenOf x * size ∧ ∀ j v, (ys.map k.val)[j]? = some v → w.cell? (a.add j) = some v := by
  unfold rowOf at h
  split at h <;> try (cases h; done)
  rename_i b o n
  obtain ⟨_, ad, c, rfl, hnc, _, hsl⟩ : (ρ b).on = true ∧ ∃ ad c, u = .slice ad n c ∧ n ≤ c ∧ c ≤ maxLen ∧ SlAt (ρ b) o n ad c := hx
  split at h <;> try (cases h; done)
  rename_i blk hb
  split at h <;> try (cases h; done)
  rename_i k' xs hbd
  split at h <;> try (cases h; done)
  rename_i hk
  subst hk
  injection h with h
  injection h with h h'
  subst h'
  have hle := of_decide_eq_true h
  have hn' : 0 < n := hn
  rcases hsl with ⟨a, ha, hs, rfl, _⟩ | ⟨h0, _⟩
  · refine ⟨_, c, rfl, by simp [lenOf]; omega, fun j v hv => ?_⟩
    have hj : j < n * size := by
      have := (List.getElem?_eq_some_iff.1 hv).1
      simp at this
      omega
    have hB := hI.blk b blk hb (by rw [hbd]; rfl)
    have hoj : o + j < xs.length := by omega
    obtain ⟨a', u', h1, h2, h3⟩ := hB.cell (o + j) (.s (.v (k.val (xs.getD (o + j) 0)))) (by rw [hbd]; simp [Body.get, hoj])
    rw [ha] at h1
    injection h1 with h1
    subst h1
    rw [addr_add_add a hs, h2]
    obtain rfl : u' = k.val (xs.getD (o + j) 0) := h3
    rw [← hv]
    simp [List.getElem?_drop, hj, List.getD, hoj]
  · omega

theorem rows_arr {k : RK} {xs : List Int} {cur : Array Value} {m : Nat} (h : cur.toList.take m = xs.map k.val) (j : Nat) (x : A) (hx : (Body.rows k xs).get j = some (true, x)) : ∃ u, cur[j]? = some u ∧ ARel ρ x u := by
  obtain ⟨u, h1, h2⟩ := rows_get (ρ := ρ) (us := xs.map k.val) (fun q hq => getD_int xs q hq k) j x hx
  refine ⟨u, ?_, h2⟩
  rw [← h, List.getElem?_take] at h1
  split at h1
  · simpa using h1
  · cases h1
theorem append_ok (hT : TOk P T) (hI : Inv C ρ H w) {t ty : TypeId} {p x : AV} {u1 u2 : Value} (h1 : VRel ρ p u1) (h2 : VRel ρ x u2) {c : Bool} {v : AV} {H' : AH} (h : aAppend T H t p x = some (c, v, H')) (hc : c = true) :
    ∃ u' ρ' w', (Builtin.append_ #[t, t] ty #[u1, u2]).run P w = .ok u' w' ∧ Inv C ρ' H' w' ∧ Ext ρ ρ' ∧ VRel ρ' v u' := by
  subst hc
  unfold aAppend at h
  split at h <;> try (cases h; done)
  · obtain rfl : u1 = .slice none 0 0 := h1
    split at h <;> try (cases h; done)
    rename_i i hi
    split at h <;> try (cases h; done)
    rename_i e hd
    split at h <;> try (cases h; done)
    rename_i j hj
    split at h <;> try (cases h; done)
    rename_i k hk
    split at h <;> try (cases h; done)
    rename_i c ys hr
    injection h with h
    injection h with h h'
    injection h' with h' h''
    subst h' h''
    rw [Bool.and_eq_true] at h
    obtain ⟨rfl, h⟩ := h
    obtain ⟨g1, g2, g3, g4⟩ := of_decide_eq_true h
    have hu := hT.un hi
    rw [hd] at hu
    obtain ⟨info, z, K⟩ := hT e j hj
    obtain ⟨a, c, rfl, hyl, hyc⟩ := rowOf_ok hI h2 hr g1
    generalize lenOf x = m at *
    obtain ⟨v', w', r1, r2, r3, r4, r5⟩ := run_append_own_at (P := P) w 0 t ty e info z j.size j.bytes hu K.inf K.zero K.size K.bytes (by rw [← K.len, ← K.zeros]; simp) g4 (.slice none 0 0) 0 [] (World.ownsRow_nil _ _ _ _) a m c (ys.map k.val) (by simpa using hyl) hyc
      (by intro y hy; obtain ⟨n, _, rfl⟩ := List.mem_map.1 hy; cases k <;> rfl) (by unfold maxLen; omega) (by rw [Nat.zero_add]; exact g2) (Nat.zero_le _)
    rcases r2.2 with ⟨r6, r7⟩ | ⟨g, cap, cur, rfl, _, hg, hnc, hcm, hcs, htk⟩
    · omega
    · have hgs : g = w.heap.size := by
        rcases r5 with r5 | r5
        · simp [Value.ownBlock] at r5
        · simpa [Value.ownBlock] using r5
      subst hgs
      rw [List.nil_append] at htk
      have hB := hI.adopt (g := w.heap.size) (g2 := w.heap.size) (w' := w') r3.os r3.tape r3.output r3.size (fun q hq hne _ => r3.block q hq (by simp [Value.ownBlock])) (C.all _ hI.size) (C.all _ hI.size) (fun q b a' hq hl ha => ⟨Nat.ne_of_lt ((hI.blk q b hq hl).lt a' ha).2, Nat.ne_of_lt ((hI.blk q b hq hl).lt a' ha).2⟩) hg false j.size (.rows k ys)
        (rows_arr htk)
        (by
          have e1 := congrArg List.length htk
          simp at e1
          simp [Body.len]
          omega) (by simp)
      refine ⟨_, _, _, r1, hB.1, hB.2, by rw [upd_same], some ⟨w.heap.size, 0, none⟩, cap, by rw [Nat.zero_add], by omega, hcm, .inl ⟨⟨w.heap.size, 0, none⟩, by rw [upd_same], rfl, by simp [Addr.add], by rw [upd_same]; exact ⟨by show 0 + cap * j.size ≤ cur.size; omega, fun _ => hcs.symm⟩⟩⟩
  · rename_i b n
    obtain ⟨hon, ad, cp, rfl, hnc0, hml0, hsl⟩ : (ρ b).on = true ∧ ∃ ad c, u1 = .slice ad n c ∧ n ≤ c ∧ c ≤ maxLen ∧ SlAt (ρ b) 0 n ad c := h1
    split at h <;> try (cases h; done)
    rename_i i blk hi hb
    split at h <;> try (cases h; done)
    rename_i e hd
    split at h <;> try (cases h; done)
    rename_i j hj
    split at h <;> try (cases h; done)
    rename_i k k' xs hk hbd
    split at h <;> try (cases h; done)
    rename_i c ys hr
    split at h <;> try (cases h; done)
    rename_i hkk
    subst hkk
    injection h with h
    injection h with h h'
    injection h' with h' h''
    subst h' h''
    simp only [Bool.and_eq_true, beq_iff_eq] at h
    obtain ⟨⟨⟨⟨rfl, hrw⟩, hty⟩, hsz⟩, h⟩ := h
    obtain ⟨g1, g0, g2, g3, g4⟩ := of_decide_eq_true h
    have hu := hT.un hi
    rw [hd] at hu
    obtain ⟨info, z, K⟩ := hT e j hj
    obtain ⟨a, c, rfl, hyl, hyc⟩ := rowOf_ok hI h2 hr g1
    generalize lenOf x = m at *
    have hlv : blk.body.live = true := by rw [hbd]; rfl
    have hB0 := hI.blk b blk hb hlv
    have hone : ∀ y ∈ ys.map k.val, y.oneCell' = true := by intro y hy; obtain ⟨n, _, rfl⟩ := List.mem_map.1 hy; cases k <;> rfl
    have hzs : z.cells.size = j.size := by rw [← K.len, ← K.zeros]; simp
    -- the old slice, or nothing
    have hrun : ∃ v0 : Value, (Builtin.append_ #[t, t] ty #[.slice ad n cp, .slice (some a) m c]).run P w = (Builtin.append_ #[t, t] ty #[v0, .slice (some a) m c]).run P w ∧ w.ownsRow 0 e j.size v0 n (xs.map k.val) ∧
        (v0.ownBlock = none ∨ ∃ a0, (ρ b).addr = some a0 ∧ v0.ownBlock = some a0.block) := by
      rcases hsl with ⟨a0, ha0, hs0, rfl, hcap⟩ | ⟨h0, hc0⟩
      · obtain ⟨q1, q2⟩ := hcap
        have q2 := q2 rfl
        rw [hB0.sz, hsz] at q1 q2
        obtain ⟨p1, arr, p2, p3, p4, _⟩ := hB0.own hrw a0 ha0
        have ea : a0.add 0 = ⟨a0.block, 0, none⟩ := by rw [addr_add' hs0, p1]
        refine ⟨_, rfl, ⟨by simp [g0], .inr ⟨a0.block, cp, arr, by rw [ea], Nat.zero_le _, by rw [p2, hty], hnc0, hml0, by omega, ?_⟩⟩, .inr ⟨a0, ha0, by rw [ea]; rfl⟩⟩
        apply List.ext_getElem?
        intro q
        rw [g0, List.getElem?_take]
        by_cases hq : q < xs.length
        · rw [if_pos hq]
          obtain ⟨a1, u, f1, f2, f3⟩ := hB0.cell q (.s (.v (k.val (xs.getD q 0)))) (by rw [hbd]; simp [Body.get, hq])
          rw [ha0] at f1
          injection f1 with f1
          subst f1
          obtain rfl : u = k.val (xs.getD q 0) := f3
          rw [getD_int xs q hq k, ← f2, addr_add' hs0, p1]
          simp [World.cell?, p2]
        · rw [if_neg hq, List.getElem?_eq_none (by simp; omega)]
      · subst h0
        have hc1 : cp = 0 := by
          rcases hc0 with hc0 | hc0
          · exact hc0
          · rw [hB0.rw hrw] at hc0
            exact absurd hc0.1 (by decide)
        subst hc1
        have hx0 : xs = [] := List.eq_nil_of_length_eq_zero (by omega)
        subst hx0
        exact ⟨.slice none 0 0, append_empty ad hu K.inf a m c g1 (by rw [K.bytes]; simpa using g2), World.ownsRow_nil _ _ _ _, .inl rfl⟩
    obtain ⟨v0, hrun, hown, hblock⟩ := hrun
    obtain ⟨v', w', r1, r2, r3, r4, r5⟩ := run_append_own_at (P := P) w 0 t ty e info z j.size j.bytes hu K.inf K.zero K.size K.bytes hzs g4 v0 n (xs.map k.val) hown a m c (ys.map k.val) (by simpa using hyl) hyc
      hone (by unfold maxLen; omega) g2 (Nat.zero_le _)
    rcases r2.2 with ⟨r6, r7⟩ | ⟨g, cap, cur, rfl, _, hg, hnc, hcm, hcs, htk⟩
    · omega
    · rw [← List.map_append] at htk
      have hK := hI.kill b blk
      have hblt := (List.getElem?_eq_some_iff.1 hb).1
      have hgg : (∃ a0, (ρ b).addr = some a0 ∧ g = a0.block) ∨ g = w.heap.size := by
        rcases r5 with r5 | r5
        · rcases hblock with hbl | ⟨a0, ha0, hbl⟩
          · rw [hbl] at r5
            simp [Value.ownBlock] at r5
          · rw [hbl] at r5
            simp [Value.ownBlock] at r5
            exact .inl ⟨a0, ha0, r5⟩
        · exact .inr (by simpa [Value.ownBlock] using r5)
      have hownC : C.own g := by
        rcases hgg with ⟨a0, ha0, rfl⟩ | rfl
        · exact hI.own b blk hb hlv hrw a0 ha0
        · exact C.all _ hI.size
      -- the block of the old slice
      obtain ⟨g2, hg2o, hg2f, hg2k⟩ : ∃ g2, C.own g2 ∧ (∀ (q : Nat) b' a', q ≠ b → H[q]? = some b' → b'.body.live = true → (ρ q).addr = some a' → a'.block ≠ g2) ∧ (∀ q, q < w.heap.size → q ≠ g2 → w'.heap[q]? = w.heap[q]?) := by
        rcases hblock with hbl | ⟨a0, ha0, hbl⟩
        · exact ⟨w.heap.size, C.all _ hI.size, fun q b' a' _ hq hl ha => Nat.ne_of_lt ((hI.blk q b' hq hl).lt a' ha).2, fun q hq _ => r3.block q hq (by rw [hbl]; simp)⟩
        · exact ⟨a0.block, hI.own b blk hb hlv hrw a0 ha0, fun q b' a' hqb hq hl ha => fun e => hI.sep b q blk b' (fun e => hqb e.symm) hb hq hlv hl hrw a0 a' ha0 ha e.symm, fun q hq hne => r3.block q hq (by rw [hbl]; simpa using hne)⟩
      have hgf : ∀ (q : Nat) b' a', q ≠ b → H[q]? = some b' → b'.body.live = true → (ρ q).addr = some a' → a'.block ≠ g := fun q b' a' hqb hq hl ha => by
        rcases hgg with ⟨a0, ha0, rfl⟩ | rfl
        · exact fun e => hI.sep b q blk b' (fun e => hqb e.symm) hb hq hlv hl hrw a0 a' ha0 ha e.symm
        · exact Nat.ne_of_lt ((hI.blk q b' hq hl).lt a' ha).2
      have hB := hK.adopt (g := g) (g2 := g2) (w' := w') r3.os r3.tape r3.output r3.size (fun q hq _ hne => hg2k q hq hne) hownC hg2o
        (fun q b' a' hq hl ha => by
          rw [List.getElem?_set] at hq
          split at hq
          · injection hq with hq
            subst hq
            cases hl
          · rename_i hqb
            have hqb' : q ≠ b := fun e => hqb e.symm
            exact ⟨hgf q b' a' hqb' hq hl ha, hg2f q b' a' hqb' hq hl ha⟩) hg false j.size (.rows k (xs ++ ys))
        (rows_arr htk)
        (by
          have e1 := congrArg List.length htk
          simp at e1
          simp [Body.len]
          omega) (by simp)
      have hlen : (H.set b { blk with body := .dead }).length = H.length := by simp
      rw [hlen] at hB
      refine ⟨_, _, _, hrun.trans r1, hB.1, hB.2, by rw [upd_same], some ⟨g, 0, none⟩, cap, rfl, hnc, hcm, .inl ⟨⟨g, 0, none⟩, by rw [upd_same], rfl, by simp [Addr.add], by rw [upd_same]; exact ⟨by show 0 + cap * j.size ≤ cur.size; omega, fun _ => hcs.symm⟩⟩⟩
theorem cells_vals {b : Nat} {blk : Blk} {l : List A} (hB : BRel ρ b blk w) (hbd : ∀ k x, l[k]? = some x → blk.body.get k = some (true, x)) : ∃ us : List Value, (∀ a, (ρ b).addr = some a → ∀ (j : Nat) v, us[j]? = some v → w.cell? (a.add j) = some v) ∧ LRel (ARel ρ) l us := by
  have key : ∀ (k : Nat), k ≤ l.length → ∃ us : List Value, us.length = k ∧ (∀ a, (ρ b).addr = some a → ∀ (j : Nat) v, us[j]? = some v → w.cell? (a.add j) = some v) ∧ ∀ (j : Nat) x, j < k → l[j]? = some x → ∃ u, us[j]? = some u ∧ ARel ρ x u := by
    intro k
    induction k with
    | zero => exact fun _ => ⟨[], rfl, fun _ _ j v h => by simp at h, fun j _ h => absurd h (Nat.not_lt_zero j)⟩
    | succ k ih =>
      intro hk
      obtain ⟨us, h1, h2, h3⟩ := ih (by omega)
      obtain ⟨a, u, g1, g2, g3⟩ := hB.cell k l[k] (hbd k _ (List.getElem?_eq_getElem (show k < l.length by omega)))
      refine ⟨us ++ [u], by simp [h1], fun a' ha' j v hv => ?_, fun j x hj hx => ?_⟩
      · rw [g1] at ha'
        injection ha' with ha'
        subst ha'
        rcases getElem?_append_one hv with ⟨h4, _⟩ | ⟨rfl, rfl⟩
        · exact h2 a g1 j v h4
        · rw [h1]
          exact g2
      · by_cases e : j = k
        · subst e
          rw [List.getElem?_eq_getElem (show j < l.length by omega)] at hx
          injection hx with hx
          subst hx
          exact ⟨u, by simp [h1], g3⟩
        · obtain ⟨u', h4, h5⟩ := h3 j x (by omega) hx
          exact ⟨u', by rw [List.getElem?_append_left (by rw [h1]; omega)]; exact h4, h5⟩
  obtain ⟨us, h1, h2, h3⟩ := key l.length (Nat.le_refl _)
  exact ⟨us, h2, LRel.of_get h1 fun j x hx => h3 j x (List.getElem?_eq_some_iff.1 hx).1 hx⟩
theorem cellRow_ok (hI : Inv C ρ H w) {size : Nat} {x : AV} {u : Value} (hx : VRel ρ x u) {l : List A} (h : cellRow H size x = some (true, l)) (ho : l.all A.one = true) (hn : 0 < lenOf x) :
    ∃ a c us, u = .slice (some a) (lenOf x) c ∧ us.length = lenOf x * size ∧ (∀ (j : Nat) v, us[j]? = some v → w.cell? (a.add j) = some v) ∧ LRel (ARel ρ) l us ∧ ∀ y ∈ us, y.oneCell' = true := by
  unfold cellRow at h
  split at h <;> try (cases h; done)
  rename_i b o n
  obtain ⟨_, ad, c, rfl, hnc, _, hsl⟩ : (ρ b).on = true ∧ ∃ ad c, u = .slice ad n c ∧ n ≤ c ∧ c ≤ maxLen ∧ SlAt (ρ b) o n ad c := hx
  split at h <;> try (cases h; done)
  rename_i blk hb
  obtain ⟨l0, hlv, hbd, hle, rfl⟩ : ∃ l0 : List A, blk.body.live = true ∧ (∀ k x, l0[k]? = some x → blk.body.get k = some (true, x)) ∧ o + n * size ≤ l0.length ∧ l = (l0.drop o).take (n * size) := by
    split at h <;> try (cases h; done)
    · rename_i l0 hbd
      injection h with h
      injection h with h h'
      exact ⟨l0, by rw [hbd]; rfl, fun k x hk => by rw [hbd]; simp [Body.get, hk], of_decide_eq_true h, h'.symm⟩
    · rename_i p os hbd
      injection h with h
      injection h with h h'
      refine ⟨ptrL p os, by rw [hbd]; rfl, fun k x hk => ?_, by simpa [ptrL] using of_decide_eq_true h, h'.symm⟩
      rw [hbd]
      exact (ptrs_get p os k x).1 (by simp [Body.get, hk])
  have hn' : 0 < n := hn
  rcases hsl with ⟨a, ha, hs, rfl, _⟩ | ⟨h0, _⟩
  · have hB := hI.blk b blk hb hlv
    obtain ⟨us0, g1, g2⟩ := cells_vals hB hbd
    have hlu := g2.length
    have hrel := (g2.drop o).take (n * size)
    refine ⟨_, c, (us0.drop o).take (n * size), rfl, by simp [lenOf]; omega, fun j v hv => ?_, hrel, fun y hy => ?_⟩
    · rw [List.getElem?_take] at hv
      split at hv
      · rw [List.getElem?_drop] at hv
        rw [addr_add_add a hs]
        exact g1 a ha _ _ hv
      · cases hv
    · obtain ⟨j, hj, rfl⟩ := List.mem_iff_getElem.1 hy
      have hlen := hrel.length
      have hjl : j < ((l0.drop o).take (n * size)).length := by rw [← hlen]; exact hj
      obtain ⟨u, h1, h2⟩ := hrel.get (List.getElem?_eq_getElem hjl)
      rw [List.getElem?_eq_getElem hj] at h1
      injection h1 with h1
      rw [h1]
      exact one_ok h2 (List.all_eq_true.1 ho _ (List.getElem_mem hjl))
  · omega
theorem cells_arr {l : List A} {us : List Value} {cur : Array Value} {m : Nat} (hl : LRel (ARel ρ) l us) (h : cur.toList.take m = us) (j : Nat) (x : A) (hx : (Body.cells l).get j = some (true, x)) : ∃ u, cur[j]? = some u ∧ ARel ρ x u := by
  simp only [Body.get, Option.map_eq_some_iff, Prod.mk.injEq, true_and] at hx
  obtain ⟨y, hy, rfl⟩ := hx
  obtain ⟨u, h1, h2⟩ := hl.get hy
  refine ⟨u, ?_, h2⟩
  rw [← h, List.getElem?_take] at h1
  split at h1
  · simpa using h1
  · cases h1
theorem append_cells_ok (hT : TOk P T) (hI : Inv C ρ H w) {t ty : TypeId} {p x : AV} {u1 u2 : Value} (h1 : VRel ρ p u1) (h2 : VRel ρ x u2) {c : Bool} {v : AV} {H' : AH} (h : aAppendC T H t p x = some (c, v, H')) (hc : c = true) :
    ∃ u' ρ' w', (Builtin.append_ #[t, t] ty #[u1, u2]).run P w = .ok u' w' ∧ Inv C ρ' H' w' ∧ Ext ρ ρ' ∧ VRel ρ' v u' := by
  subst hc
  unfold aAppendC at h
  split at h <;> try (cases h; done)
  · obtain rfl : u1 = .slice none 0 0 := h1
    split at h <;> try (cases h; done)
    rename_i i hi
    split at h <;> try (cases h; done)
    rename_i e hd
    split at h <;> try (cases h; done)
    rename_i j hj
    split at h <;> try (cases h; done)
    rename_i c l hr
    injection h with h
    injection h with h h'
    injection h' with h' h''
    subst h' h''
    simp only [Bool.and_eq_true] at h
    obtain ⟨⟨rfl, hall⟩, h⟩ := h
    obtain ⟨g1, g2, g3, g4⟩ := of_decide_eq_true h
    have hu := hT.un hi
    rw [hd] at hu
    obtain ⟨info, z, K⟩ := hT e j hj
    obtain ⟨a, c, us, rfl, hyl, hyc, hrel, hone⟩ := cellRow_ok hI h2 hr hall g1
    generalize lenOf x = m at *
    obtain ⟨v', w', r1, r2, r3, r4, r5⟩ := run_append_own_at (P := P) w 0 t ty e info z j.size j.bytes hu K.inf K.zero K.size K.bytes (by rw [← K.len, ← K.zeros]; simp) g4 (.slice none 0 0) 0 [] (World.ownsRow_nil _ _ _ _) a m c (us) (by simpa using hyl) hyc
      hone (by unfold maxLen; omega) (by rw [Nat.zero_add]; exact g2) (Nat.zero_le _)
    rcases r2.2 with ⟨r6, r7⟩ | ⟨g, cap, cur, rfl, _, hg, hnc, hcm, hcs, htk⟩
    · omega
    · have hgs : g = w.heap.size := by
        rcases r5 with r5 | r5
        · simp [Value.ownBlock] at r5
        · simpa [Value.ownBlock] using r5
      subst hgs
      rw [List.nil_append] at htk
      have hB := hI.adopt (g := w.heap.size) (g2 := w.heap.size) (w' := w') r3.os r3.tape r3.output r3.size (fun q hq hne _ => r3.block q hq (by simp [Value.ownBlock])) (C.all _ hI.size) (C.all _ hI.size) (fun q b a' hq hl ha => ⟨Nat.ne_of_lt ((hI.blk q b hq hl).lt a' ha).2, Nat.ne_of_lt ((hI.blk q b hq hl).lt a' ha).2⟩) hg false j.size (ptrBody l)
        (fun q x hx => cells_arr hrel htk q x ((ptrBody_ok l).2.2 q x hx))
        (by
          have e1 := congrArg List.length htk
          have e2 := hrel.length
          have e3 := (ptrBody_ok l).2.1
          simp at e1
          omega) (by simp)
      refine ⟨_, _, _, r1, hB.1, hB.2, by rw [upd_same], some ⟨w.heap.size, 0, none⟩, cap, by rw [Nat.zero_add], by omega, hcm, .inl ⟨⟨w.heap.size, 0, none⟩, by rw [upd_same], rfl, by simp [Addr.add], by rw [upd_same]; exact ⟨by show 0 + cap * j.size ≤ cur.size; omega, fun _ => hcs.symm⟩⟩⟩
  · rename_i b n
    obtain ⟨hon, ad, cp, rfl, hnc0, hml0, hsl⟩ : (ρ b).on = true ∧ ∃ ad c, u1 = .slice ad n c ∧ n ≤ c ∧ c ≤ maxLen ∧ SlAt (ρ b) 0 n ad c := h1
    split at h <;> try (cases h; done)
    rename_i i blk hi hb
    split at h <;> try (cases h; done)
    rename_i e hd
    split at h <;> try (cases h; done)
    rename_i j hj
    split at h <;> try (cases h; done)
    rename_i l0 hbd
    split at h <;> try (cases h; done)
    rename_i c l hr
    injection h with h
    injection h with h h'
    injection h' with h' h''
    subst h' h''
    simp only [Bool.and_eq_true, beq_iff_eq] at h
    obtain ⟨⟨⟨⟨⟨rfl, hall⟩, hrw⟩, hty⟩, hsz⟩, h⟩ := h
    obtain ⟨g1, g0, g2, g3, g4⟩ := of_decide_eq_true h
    have hu := hT.un hi
    rw [hd] at hu
    obtain ⟨info, z, K⟩ := hT e j hj
    obtain ⟨a, c, us, rfl, hyl, hyc, hrel, hone⟩ := cellRow_ok hI h2 hr hall g1
    generalize lenOf x = m at *
    have hlv : blk.body.live = true := by rw [hbd]; rfl
    have hB0 := hI.blk b blk hb hlv
    obtain ⟨us0, hus0, hrel0⟩ := cells_vals (l := l0) hB0 (fun k x hk => by rw [hbd]; simp [Body.get, hk])
    have hzs : z.cells.size = j.size := by rw [← K.len, ← K.zeros]; simp
    -- the old slice, or nothing
    have hrun : ∃ v0 : Value, (Builtin.append_ #[t, t] ty #[.slice ad n cp, .slice (some a) m c]).run P w = (Builtin.append_ #[t, t] ty #[v0, .slice (some a) m c]).run P w ∧ w.ownsRow 0 e j.size v0 n (us0) ∧
        (v0.ownBlock = none ∨ ∃ a0, (ρ b).addr = some a0 ∧ v0.ownBlock = some a0.block) := by
      rcases hsl with ⟨a0, ha0, hs0, rfl, hcap⟩ | ⟨h0, hc0⟩
      · obtain ⟨q1, q2⟩ := hcap
        have q2 := q2 rfl
        rw [hB0.sz, hsz] at q1 q2
        obtain ⟨p1, arr, p2, p3, p4, _⟩ := hB0.own hrw a0 ha0
        have ea : a0.add 0 = ⟨a0.block, 0, none⟩ := by rw [addr_add' hs0, p1]
        refine ⟨_, rfl, ⟨by have := hrel0.length; omega, .inr ⟨a0.block, cp, arr, by rw [ea], Nat.zero_le _, by rw [p2, hty], hnc0, hml0, by omega, ?_⟩⟩, .inr ⟨a0, ha0, by rw [ea]; rfl⟩⟩
        apply List.ext_getElem?
        intro q
        have hlu : us0.length = l0.length := hrel0.length
        rw [g0, List.getElem?_take]
        by_cases hq : q < l0.length
        · rw [if_pos hq]
          have hq2 : us0[q]? = some us0[q] := List.getElem?_eq_getElem (by omega)
          have f2 := hus0 a0 ha0 q _ hq2
          rw [hq2, ← f2, addr_add' hs0, p1]
          simp [World.cell?, p2]
        · rw [if_neg hq, List.getElem?_eq_none (by omega)]
      · subst h0
        have hc1 : cp = 0 := by
          rcases hc0 with hc0 | hc0
          · exact hc0
          · rw [hB0.rw hrw] at hc0
            exact absurd hc0.1 (by decide)
        subst hc1
        have hx0 : us0 = [] := List.eq_nil_of_length_eq_zero (by have := hrel0.length; omega)
        subst hx0
        exact ⟨.slice none 0 0, append_empty ad hu K.inf a m c g1 (by rw [K.bytes]; simpa using g2), World.ownsRow_nil _ _ _ _, .inl rfl⟩
    obtain ⟨v0, hrun, hown, hblock⟩ := hrun
    obtain ⟨v', w', r1, r2, r3, r4, r5⟩ := run_append_own_at (P := P) w 0 t ty e info z j.size j.bytes hu K.inf K.zero K.size K.bytes hzs g4 v0 n (us0) hown a m c (us) (by simpa using hyl) hyc
      hone (by unfold maxLen; omega) g2 (Nat.zero_le _)
    rcases r2.2 with ⟨r6, r7⟩ | ⟨g, cap, cur, rfl, _, hg, hnc, hcm, hcs, htk⟩
    · omega
    · have hK := hI.kill b blk
      have hblt := (List.getElem?_eq_some_iff.1 hb).1
      have hgg : (∃ a0, (ρ b).addr = some a0 ∧ g = a0.block) ∨ g = w.heap.size := by
        rcases r5 with r5 | r5
        · rcases hblock with hbl | ⟨a0, ha0, hbl⟩
          · rw [hbl] at r5
            simp [Value.ownBlock] at r5
          · rw [hbl] at r5
            simp [Value.ownBlock] at r5
            exact .inl ⟨a0, ha0, r5⟩
        · exact .inr (by simpa [Value.ownBlock] using r5)
      have hownC : C.own g := by
        rcases hgg with ⟨a0, ha0, rfl⟩ | rfl
        · exact hI.own b blk hb hlv hrw a0 ha0
        · exact C.all _ hI.size
      -- the block of the old slice
      obtain ⟨g2, hg2o, hg2f, hg2k⟩ : ∃ g2, C.own g2 ∧ (∀ (q : Nat) b' a', q ≠ b → H[q]? = some b' → b'.body.live = true → (ρ q).addr = some a' → a'.block ≠ g2) ∧ (∀ q, q < w.heap.size → q ≠ g2 → w'.heap[q]? = w.heap[q]?) := by
        rcases hblock with hbl | ⟨a0, ha0, hbl⟩
        · exact ⟨w.heap.size, C.all _ hI.size, fun q b' a' _ hq hl ha => Nat.ne_of_lt ((hI.blk q b' hq hl).lt a' ha).2, fun q hq _ => r3.block q hq (by rw [hbl]; simp)⟩
        · exact ⟨a0.block, hI.own b blk hb hlv hrw a0 ha0, fun q b' a' hqb hq hl ha => fun e => hI.sep b q blk b' (fun e => hqb e.symm) hb hq hlv hl hrw a0 a' ha0 ha e.symm, fun q hq hne => r3.block q hq (by rw [hbl]; simpa using hne)⟩
      have hgf : ∀ (q : Nat) b' a', q ≠ b → H[q]? = some b' → b'.body.live = true → (ρ q).addr = some a' → a'.block ≠ g := fun q b' a' hqb hq hl ha => by
        rcases hgg with ⟨a0, ha0, rfl⟩ | rfl
        · exact fun e => hI.sep b q blk b' (fun e => hqb e.symm) hb hq hlv hl hrw a0 a' ha0 ha e.symm
        · exact Nat.ne_of_lt ((hI.blk q b' hq hl).lt a' ha).2
      have hB := hK.adopt (g := g) (g2 := g2) (w' := w') r3.os r3.tape r3.output r3.size (fun q hq _ hne => hg2k q hq hne) hownC hg2o
        (fun q b' a' hq hl ha => by
          rw [List.getElem?_set] at hq
          split at hq
          · injection hq with hq
            subst hq
            cases hl
          · rename_i hqb
            have hqb' : q ≠ b := fun e => hqb e.symm
            exact ⟨hgf q b' a' hqb' hq hl ha, hg2f q b' a' hqb' hq hl ha⟩) hg false j.size (.cells (l0 ++ l))
        (cells_arr (hrel0.append hrel) htk)
        (by
          have e1 := congrArg List.length htk
          have e2 := hrel.length
          have e3 := hrel0.length
          simp at e1
          simp [Body.len]
          omega) (by simp)
      have hlen : (H.set b { blk with body := .dead }).length = H.length := by simp
      rw [hlen] at hB
      refine ⟨_, _, _, hrun.trans r1, hB.1, hB.2, by rw [upd_same], some ⟨g, 0, none⟩, cap, rfl, hnc, hcm, .inl ⟨⟨g, 0, none⟩, by rw [upd_same], rfl, by simp [Addr.add], by rw [upd_same]; exact ⟨by show 0 + cap * j.size ≤ cur.size; omega, fun _ => hcs.symm⟩⟩⟩
/-- records as cells -/
def recList (p : List RK) (xs : List Int) : List A := (List.range xs.length).map fun j => .s (.v ((p.getD (j % p.length) .bool).val (xs.getD j 0)))
theorem recList_len (p : List RK) (xs : List Int) : (recList p xs).length = xs.length := by simp [recList]
theorem recList_get (p : List RK) (xs : List Int) (j : Nat) (x : A) : (Body.cells (recList p xs)).get j = some (true, x) ↔ (Body.recs p xs).get j = some (true, x) := by
  simp only [Body.get, recList]
  by_cases hj : j < xs.length
  · simp [hj]
  · simp [hj]
theorem recList_one (p : List RK) (xs : List Int) : (recList p xs).all A.one = true := by
  refine List.all_eq_true.2 fun x hx => ?_
  obtain ⟨j, _, rfl⟩ := List.mem_map.1 hx
  cases p.getD (j % p.length) .bool <;> rfl
theorem toRec_get : ∀ {p : List RK} {l : List A} {ys : List Int}, toRec p l = some ys → ys.length = p.length ∧ l.length = p.length ∧ ∀ j, j < p.length → l[j]? = some (.s (.v ((p.getD j .bool).val (ys.getD j 0))))
  | [], [], ys, h => by
    simp only [toRec, Option.some.injEq] at h
    subst h
    exact ⟨rfl, rfl, fun j hj => absurd hj (Nat.not_lt_zero j)⟩
  | [], _ :: _, ys, h => by simp [toRec] at h
  | k :: p, [], ys, h => by cases k <;> simp [toRec] at h
  | k :: p, x :: l, ys, h => by
    unfold toRec at h
    split at h <;> try (cases h; done)
    · rename_i e1 e2
      first
        | (cases e1; done)
        | (cases e2; done)
    · rename_i k1 p1 k' n l1 e1 e2
      injection e1 with e1 e1'
      injection e2 with e2 e2'
      subst e1 e1' e2 e2'
      split at h <;> try (cases h; done)
      rename_i hk
      obtain rfl := of_decide_eq_true hk
      split at h <;> try (cases h; done)
      rename_i r hr
      injection h with h
      subst h
      obtain ⟨h1, h2, h3⟩ := toRec_get hr
      refine ⟨by simp [h1], by simp [h2], fun j hj => ?_⟩
      cases j with
      | zero => simp [RK.val]
      | succ j => simpa using h3 j (by simpa using hj)
    · rename_i p1 b l1 e1 e2
      injection e1 with e1 e1'
      injection e2 with e2 e2'
      subst e1 e1' e2 e2'
      split at h <;> try (cases h; done)
      rename_i r hr
      injection h with h
      subst h
      obtain ⟨h1, h2, h3⟩ := toRec_get hr
      refine ⟨by simp [h1], by simp [h2], fun j hj => ?_⟩
      cases j with
      | zero => cases b <;> simp [RK.val]
      | succ j => simpa using h3 j (by simpa using hj)
theorem Inv.view {b : Nat} {blk : Blk} {B : Body} (hI : Inv C ρ H w) (hb : H[b]? = some blk) (hlv : blk.body.live = true) (hlen : B.len = blk.body.len) (hget : ∀ j x, B.get j = some (true, x) → blk.body.get j = some (true, x)) : Inv C ρ (H.set b { blk with body := B }) w := by
  have hbl := (List.getElem?_eq_some_iff.1 hb).1
  have back : ∀ (i : Nat) c, (H.set b { blk with body := B })[i]? = some c → c.body.live = true → ∃ c0, H[i]? = some c0 ∧ c0.body.live = true ∧ c0.rw = c.rw ∧ BRel ρ i c w := fun i c hc hl => by
    rw [List.getElem?_set] at hc
    split at hc
    · rename_i e
      subst e
      injection hc with hc
      subst hc
      have h0 := hI.blk b blk hb hlv
      refine ⟨blk, hb, hlv, rfl, ⟨h0.on, h0.rw, h0.sz, h0.lt, fun j x hx => h0.cell j x (hget j x hx), fun hr a ha => ?_, h0.nil⟩⟩
      obtain ⟨q1, arr, q2, q3, q4, q5⟩ := h0.own hr a ha
      exact ⟨q1, arr, q2, q3, by rw [hlen]; exact q4, fun hf => (q5 hf).trans hlen.symm⟩
    · exact ⟨c, hc, hl, rfl, hI.blk i c hc hl⟩
  refine ⟨fun i c hc hl => ?_, fun i hi => hI.on i (by simpa using hi), fun i hi => hI.off i (by simpa using hi), fun i j bi bj hij hi hj li lj hr => ?_, fun i c hc hl hr => ?_, hI.os, hI.tape, hI.output, hI.size, hI.kept⟩
  · obtain ⟨_, _, _, _, h⟩ := back i c hc hl
    exact h
  · obtain ⟨c1, g1, g2, g3, _⟩ := back i bi hi li
    obtain ⟨c2, g4, g5, _, _⟩ := back j bj hj lj
    exact hI.sep i j c1 c2 hij g1 g4 g2 g5 (by rw [g3]; exact hr)
  · obtain ⟨c1, g1, g2, g3, _⟩ := back i c hc hl
    exact hI.own i c1 g1 g2 (by rw [g3]; exact hr)
theorem append_recs_ok (hT : TOk P T) (hI : Inv C ρ H w) {t ty : TypeId} {p x : AV} {u1 u2 : Value} (h1 : VRel ρ p u1) (h2 : VRel ρ x u2) {c : Bool} {v : AV} {H' : AH} (h : aAppendR T H t p x = some (c, v, H')) (hc : c = true) :
    ∃ u' ρ' w', (Builtin.append_ #[t, t] ty #[u1, u2]).run P w = .ok u' w' ∧ Inv C ρ' H' w' ∧ Ext ρ ρ' ∧ VRel ρ' v u' := by
  subst hc
  unfold aAppendR at h
  split at h <;> try (cases h; done)
  rename_i b n
  split at h <;> try (cases h; done)
  rename_i i blk hi hb
  split at h <;> try (cases h; done)
  rename_i e hd
  split at h <;> try (cases h; done)
  rename_i j hj
  split at h <;> try (cases h; done)
  rename_i q xs hbd
  split at h <;> try (cases h; done)
  rename_i c l hr
  split at h <;> try (cases h; done)
  rename_i ys hys
  simp only [Option.some.injEq, Prod.mk.injEq, Bool.and_eq_true, beq_iff_eq, decide_eq_true_eq] at h
  obtain ⟨⟨⟨⟨⟨rfl, hrw⟩, hty⟩, hsz⟩, hq, g1, g0, g2, g3, g4⟩, rfl, rfl⟩ := h
  have hbl := (List.getElem?_eq_some_iff.1 hb).1
  have hlv : blk.body.live = true := by rw [hbd]; rfl
  obtain ⟨y1, y2, y3⟩ := toRec_get hys
  -- as cells
  have hI1 := hI.view hb hlv (B := .cells (recList q xs)) (by rw [hbd]; exact recList_len q xs) (fun j x hx => by rw [hbd]; exact (recList_get q xs j x).1 hx)
  have hb1 : (H.set b { blk with body := .cells (recList q xs) })[b]? = some { blk with body := .cells (recList q xs) } := by
    rw [List.getElem?_set, if_pos rfl, if_pos hbl]
  have hr1 : cellRow (H.set b { blk with body := .cells (recList q xs) }) j.size x = some (true, l) := by
    unfold cellRow at hr ⊢
    split at hr <;> try (cases hr; done)
    rename_i b2 o2 n2
    split at hr <;> try (cases hr; done)
    rename_i blk2 hb2
    have hne : b ≠ b2 := fun e => by
      subst e
      rw [hb] at hb2
      injection hb2 with hb2
      subst hb2
      rw [hbd] at hr
      cases hr
    try dsimp only
    rw [List.getElem?_set, if_neg hne, hb2]
    exact hr
  have hone : l.all A.one = true := List.all_eq_true.2 fun y hy => by
    obtain ⟨k, hk⟩ := List.getElem?_of_mem hy
    have hkl := (List.getElem?_eq_some_iff.1 hk).1
    rw [y3 k (by omega)] at hk
    injection hk with hk
    subst hk
    cases q.getD k .bool <;> rfl
  have hap : aAppendC T (H.set b { blk with body := .cells (recList q xs) }) t (.t (.a (.s (.slc b 0 n)))) x = some (true, .t (.a (.s (.slc H.length 0 (n + lenOf x)))), H.set b { blk with body := .dead } ++ [⟨true, false, e, j.size, .cells (recList q xs ++ l)⟩]) := by
    have hdec : decide (0 < lenOf x ∧ n * j.size = (recList q xs).length ∧ (n + lenOf x) * j.bytes ≤ 140737488355328 ∧ n + lenOf x ≤ 9223372036854775807 ∧ 0 < j.size) = true := decide_eq_true ⟨g1, by rw [recList_len]; exact g0, g2, g3, g4⟩
    unfold aAppendC
    split
    · rename_i heq
      cases heq
    · rename_i b' n' heq
      cases heq
      rw [hi, hb1]
      simp only [hd, hj, hr1, hone, hdec]
      simp only [hrw, hty, hsz, beq_self_eq_true, Bool.and_self, List.set_set, List.length_set]
    · rename_i hne
      exact absurd rfl (hne b n)
  obtain ⟨u', ρ', w', r1, r2, r3, r4⟩ := append_cells_ok hT hI1 (p := .t (.a (.s (.slc b 0 n)))) h1 h2 (ty := ty) hap rfl
  refine ⟨u', ρ', w', r1, ?_, r3, r4⟩
  have hnew : (H.set b { blk with body := .dead } ++ [⟨true, false, e, j.size, .cells (recList q xs ++ l)⟩])[H.length]? = some ⟨true, false, e, j.size, .cells (recList q xs ++ l)⟩ := by
    rw [List.getElem?_append_right (by simp)]
    simp
  have hv := r2.view hnew rfl (B := .recs q (xs ++ ys)) (by simp [Body.len, recList_len, y1, y2]) (fun k y hy => by
    simp only [Body.get] at hy ⊢
    injection hy with hy
    injection hy with hk hy
    have hk := of_decide_eq_true hk
    rw [List.length_append] at hk
    subst hy
    by_cases hlt : k < xs.length
    · rw [List.getElem?_append_left (by rw [recList_len]; exact hlt)]
      have e1 : (xs ++ ys).getD k 0 = xs.getD k 0 := by simp [List.getD, List.getElem?_append_left hlt]
      rw [e1]
      have := (recList_get q xs k (.s (.v ((q.getD (k % q.length) .bool).val (xs.getD k 0))))).2 (by simp only [Body.get, decide_eq_true hlt])
      simpa only [Body.get] using this
    · have hge : xs.length ≤ k := by omega
      rw [List.getElem?_append_right (by rw [recList_len]; exact hge), recList_len]
      have e1 : (xs ++ ys).getD k 0 = ys.getD (k - xs.length) 0 := by simp [List.getD, List.getElem?_append_right hge]
      have e2 : k % q.length = k - xs.length := by
        have e3 : k = (k - xs.length) + q.length * n := by
          rw [hq, Nat.mul_comm, g0]
          omega
        rw [e3, Nat.add_mul_mod_self_left, ← e3]
        exact Nat.mod_eq_of_lt (by omega)
      rw [e1, e2, y3 _ (by omega)]
      rfl)
  have hset : (H.set b { blk with body := .dead } ++ [(⟨true, false, e, j.size, .cells (recList q xs ++ l)⟩ : Blk)]).set H.length (Blk.mk true false e j.size (.recs q (xs ++ ys))) = H.set b { blk with body := .dead } ++ [(⟨true, false, e, j.size, .recs q (xs ++ ys)⟩ : Blk)] := by
    rw [List.set_append_right _ _ (by simp)]
    simp
  rw [hset] at hv
  exact hv
theorem append_ptrs0_ok (hT : TOk P T) (hI : Inv C ρ H w) {t ty : TypeId} {p x : AV} {u1 u2 : Value} (h1 : VRel ρ p u1) (h2 : VRel ρ x u2) {c : Bool} {v : AV} {H' : AH} (h : aAppendP0 T H t p x = some (c, v, H')) (hc : c = true) :
    ∃ u' ρ' w', (Builtin.append_ #[t, t] ty #[u1, u2]).run P w = .ok u' w' ∧ Inv C ρ' H' w' ∧ Ext ρ ρ' ∧ VRel ρ' v u' := by
  subst hc
  unfold aAppendP0 at h
  split at h <;> try (cases h; done)
  rename_i b n
  split at h <;> try (cases h; done)
  rename_i i blk hi hb
  split at h <;> try (cases h; done)
  rename_i e hd
  split at h <;> try (cases h; done)
  rename_i j hj
  split at h <;> try (cases h; done)
  rename_i q xs hbd
  split at h <;> try (cases h; done)
  rename_i c l hr
  split at h <;> try (cases h; done)
  rename_i ys hys
  simp only [Option.some.injEq, Prod.mk.injEq, Bool.and_eq_true, beq_iff_eq, decide_eq_true_eq] at h
  obtain ⟨⟨⟨⟨⟨rfl, hrw⟩, hty⟩, hsz⟩, g1, g0, g2, g3, g4⟩, rfl, rfl⟩ := h
  have hbl := (List.getElem?_eq_some_iff.1 hb).1
  have hlv : blk.body.live = true := by rw [hbd]; rfl
  have hl := toPtrs_get hys
  have hxl : (ptrL q xs).length = xs.length := by simp [ptrL]
  -- as cells
  have hI1 := hI.view hb hlv (B := .cells (ptrL q xs)) (by rw [hbd]; exact hxl) (fun j x hx => by rw [hbd]; exact (ptrs_get q xs j x).1 hx)
  have hb1 : (H.set b { blk with body := .cells (ptrL q xs) })[b]? = some { blk with body := .cells (ptrL q xs) } := by
    rw [List.getElem?_set, if_pos rfl, if_pos hbl]
  have hr1 : cellRow (H.set b { blk with body := .cells (ptrL q xs) }) j.size x = some (true, l) := by
    unfold cellRow at hr ⊢
    split at hr <;> try (cases hr; done)
    rename_i b2 o2 n2
    split at hr <;> try (cases hr; done)
    rename_i blk2 hb2
    by_cases hne : b = b2
    · subst hne
      rw [hb] at hb2
      injection hb2 with hb2
      subst hb2
      rw [hbd] at hr
      try dsimp only
      rw [hb1]
      dsimp only at hr ⊢
      rw [hxl]
      exact hr
    · try dsimp only
      rw [List.getElem?_set, if_neg hne, hb2]
      exact hr
  have hone : l.all A.one = true := by
    rw [hl]
    refine List.all_eq_true.2 fun y hy => ?_
    obtain ⟨k, _, rfl⟩ := List.mem_map.1 hy
    rfl
  have hap : aAppendC T (H.set b { blk with body := .cells (ptrL q xs) }) t (.t (.a (.s (.slc b 0 n)))) x = some (true, .t (.a (.s (.slc H.length 0 (n + lenOf x)))), H.set b { blk with body := .dead } ++ [⟨true, false, e, j.size, .cells (ptrL q xs ++ l)⟩]) := by
    have hdec : decide (0 < lenOf x ∧ n * j.size = (ptrL q xs).length ∧ (n + lenOf x) * j.bytes ≤ 140737488355328 ∧ n + lenOf x ≤ 9223372036854775807 ∧ 0 < j.size) = true := decide_eq_true ⟨g1, by rw [hxl]; exact g0, g2, g3, g4⟩
    unfold aAppendC
    split
    · rename_i heq
      cases heq
    · rename_i b' n' heq
      cases heq
      rw [hi, hb1]
      simp only [hd, hj, hr1, hone, hdec]
      simp only [hrw, hty, hsz, beq_self_eq_true, Bool.and_self, List.set_set, List.length_set]
    · rename_i hne
      exact absurd rfl (hne b n)
  obtain ⟨u', ρ', w', r1, r2, r3, r4⟩ := append_cells_ok hT hI1 (p := .t (.a (.s (.slc b 0 n)))) h1 h2 (ty := ty) hap rfl
  refine ⟨u', ρ', w', r1, ?_, r3, r4⟩
  have hnew : (H.set b { blk with body := .dead } ++ [⟨true, false, e, j.size, .cells (ptrL q xs ++ l)⟩])[H.length]? = some ⟨true, false, e, j.size, .cells (ptrL q xs ++ l)⟩ := by
    rw [List.getElem?_append_right (by simp)]
    simp
  have hap2 : ptrL q xs ++ l = ptrL q (xs ++ ys) := by rw [hl]; simp [ptrL]
  have hv := r2.view hnew rfl (B := .ptrs q (xs ++ ys)) (by show _ = (ptrL q xs ++ l).length; rw [hap2]; simp [Body.len, ptrL]) (fun k y hy => by
    show (Body.cells (ptrL q xs ++ l)).get k = _
    rw [hap2]
    exact (ptrs_get q (xs ++ ys) k y).2 hy)
  have hset : (H.set b { blk with body := .dead } ++ [(⟨true, false, e, j.size, .cells (ptrL q xs ++ l)⟩ : Blk)]).set H.length (Blk.mk true false e j.size (.ptrs q (xs ++ ys))) = H.set b { blk with body := .dead } ++ [(⟨true, false, e, j.size, .ptrs q (xs ++ ys)⟩ : Blk)] := by
    rw [List.set_append_right _ _ (by simp)]
    simp
  rw [hset] at hv
  exact hv
/-- append to a slice that begins within a block -/
theorem run_append_off (w : World) (t ty e : TypeId) (i : TypeInfo) (z : Value) (ht : P.underlying t = some (.slice e)) (hi : P.info? e = some i) (hz : i.zero = some z) (hzs : z.cells.size = i.size)
    (g o n cap : Nat) (cur : Array Value) (ty2 : TypeId) (hg : w.heap[g]? = some (.cells cur ty2 (0, 0))) (hcap : o + cap * i.size ≤ cur.size) (xs : List Value) (hlx : xs.length = n * i.size) (hxs : ∀ j u, xs[j]? = some u → w.cell? ((⟨g, o, none⟩ : Addr).add j) = some u) (hnc : n ≤ cap) (hcm : cap ≤ maxLen)
    (a : Addr) (m c : Nat) (news : List Value) (hl : news.length = m * i.size) (hnews : ∀ j u, news[j]? = some u → w.cell? (a.add j) = some u) (h1 : ∀ u ∈ news, u.oneCell' = true)
    (h63 : n + m ≤ maxLen) (hbytes : (n + m) * i.bytes ≤ 140737488355328) :
    ∃ a' cap' w', (Builtin.append_ #[t, t] ty #[.slice (some ⟨g, o, none⟩) n cap, .slice (some a) m c]).run P w = .ok (.slice (some a') (n + m) cap') w' ∧ a'.spot = none ∧ n + m ≤ cap' ∧ cap' ≤ maxLen ∧
      (∀ j u, (xs ++ news)[j]? = some u → w'.cell? (a'.add j) = some u) ∧ w.grownBy w' (some g) ∧ (a'.block = g ∨ a'.block = w.heap.size) ∧ a'.block < w'.heap.size := by
  have hgl := (Array.getElem?_eq_some_iff.1 hg).1
  by_cases hroom : n + m ≤ cap
  · have hmul : (n + m) * i.size ≤ cap * i.size := Nat.mul_le_mul_right _ hroom
    rw [Nat.add_mul] at hmul
    have hfit : o + n * i.size + news.length ≤ cur.size := by rw [hl]; omega
    have hf := run_firstCells_some (P := P) w i.size m a m c news hl hnews
    have hst := run_storeCells_at P g (o + n * i.size) ty2 news 0 cur w hg (by simpa using hfit) h1
    simp only [Nat.add_zero] at hst
    have had : (⟨g, o, none⟩ : Addr).add (n * i.size) = ⟨g, o + n * i.size, none⟩ := addr_add _ _ _
    refine ⟨⟨g, o, none⟩, cap, w.setRow g (cur.toList.take (o + n * i.size) ++ news ++ cur.toList.drop (o + n * i.size + news.length)).toArray, ?_, rfl, hroom, hcm, ?_, ⟨rfl, rfl, rfl, by simp, fun k _ hk => setRow_other w g k _ (fun e => hk (by rw [e]))⟩, .inl rfl, by simpa using hgl⟩
    · simp [Builtin.append_, run_underlying ht, sizeOf, typeInfo, hi, Builtin.lenOf, hroom, hf, had, hst]
    · intro j u hu
      rw [addr_add, cell_of_row _ g _ _ ty2 (0, 0) (setRow_heap w g cur _ ty2 _ hg)]
      rw [List.getElem?_append] at hu
      split at hu
      · rename_i hj
        have h2 := hxs j u hu
        rw [addr_add, cell_of_row w g _ cur ty2 (0, 0) hg] at h2
        simp only [List.getElem?_toArray]
        rw [List.append_assoc, List.getElem?_append_left (by simp; omega), List.getElem?_take, if_pos (by omega)]
        simpa using h2
      · rename_i hj
        have hj2 := (List.getElem?_eq_some_iff.1 hu).1
        simp only [List.getElem?_toArray]
        rw [List.append_assoc, List.getElem?_append_right (by simp; omega), List.getElem?_append_left (by simp; omega)]
        rw [← hu]
        congr 1
        simp
        omega
  · have hr := run_append_grow (P := P) w t ty e i z ht hi hz ⟨g, o, none⟩ n cap xs hlx hxs a m c news hl hnews (by omega) (by simp only [maxLen] at h63; omega) (growslice_fits (by omega) hbytes)
    have hge := grownCap_ge w (n + m) cap e
    have hcm2 : grownCap w (n + m) cap e ≤ maxLen := grownCap_le_maxLen w (n + m) cap e h63
    refine ⟨_, _, _, hr, rfl, hge, hcm2, ?_, ⟨rfl, rfl, rfl, by simp, fun k hk _ => heap_alloc_old w.drew _ hk⟩, .inr rfl, by simp⟩
    intro j u hu
    rw [addr_add, Nat.zero_add]
    have hh := heap_alloc_new w.drew (.cells (xs.toArray ++ news.toArray ++ Builtin.zeroCells z.cells (grownCap w (n + m) cap e - (n + m))) e)
    have hsz : w.drew.heap.size = w.heap.size := rfl
    rw [hsz] at hh
    rw [cell_of_row _ _ _ _ e (0, 0) hh]
    have hj := (List.getElem?_eq_some_iff.1 hu).1
    have hx : (xs.toArray ++ news.toArray) = (xs ++ news).toArray := by simp
    rw [hx, Array.getElem?_append_left (by simpa using hj)]
    simpa using hu
/-- a block known by a new number, only to be read -/
theorem Inv.adoptR {C : Cx} {ρ : Pl} {H : AH} {w w' : World} (h : Inv C ρ H w) {g : Nat} (hg : w.grownBy w' (some g)) (hown : C.own g)
    (hfree : ∀ (i : Nat) b a, H[i]? = some b → b.body.live = true → (ρ i).addr = some a → a.block ≠ g) {a' : Addr} (hsp : a'.spot = none) (hlt : a'.block < w'.heap.size) (hnew : a'.block = g ∨ a'.block = w.heap.size) (ty : TypeId) (sz capn : Nat) (body : Body)
    (hc : ∀ j x, body.get j = some (true, x) → ∃ u, w'.cell? (a'.add j) = some u ∧ ARel ρ x u) :
    Inv C (upd ρ H.length ⟨true, true, some a', capn, sz⟩) (H ++ [⟨false, false, ty, sz, body⟩]) w' ∧ Ext ρ (upd ρ H.length ⟨true, true, some a', capn, sz⟩) := by
  have hoff := h.off H.length (Nat.le_refl _)
  have he := ext_upd ⟨true, true, some a', capn, sz⟩ hoff
  have hold : ∀ (i : Nat) b, H[i]? = some b → b.body.live = true → BRel (upd ρ H.length ⟨true, true, some a', capn, sz⟩) i b w' := fun i b hb hl =>
    (h.blk i b hb hl).keep he hg.size fun a ha => hg.block _ ((h.blk i b hb hl).lt a ha).2 (fun e => by injection e with e; exact hfree i b a hb hl ha e)
  have hne : ∀ {i : Nat} {b}, H[i]? = some b → i ≠ H.length := fun hb => by
    have := (List.getElem?_eq_some_iff.1 hb).1
    omega
  have hfar : ∀ (i : Nat) b a, H[i]? = some b → b.body.live = true → (ρ i).addr = some a → a.block ≠ a'.block := fun i b a hb hl ha e => by
    rcases hnew with q | q
    · exact hfree i b a hb hl ha (e.trans q)
    · have := ((h.blk i b hb hl).lt a ha).2
      omega
  refine ⟨⟨?_, on_append h.on rfl, ?_, ?_, ?_, hg.os.trans h.os, hg.tape.trans h.tape, hg.output.trans h.output, Nat.le_trans h.size hg.size, ?_⟩, he⟩
  · intro i b hb hl'
    rcases getElem?_append_one hb with ⟨h1, _⟩ | ⟨rfl, rfl⟩
    · exact hold i b h1 hl'
    · refine ⟨by rw [upd_same], fun e => (by cases e), by rw [upd_same], ?_, ?_, fun e => (by cases e), fun e => (by cases e)⟩
      · rw [upd_same]
        intro a ha
        injection ha with ha
        subst ha
        exact ⟨hsp, hlt⟩
      · rw [upd_same]
        intro j x hx
        obtain ⟨u, h1, h2⟩ := hc j x hx
        exact ⟨_, u, rfl, h1, h2.mono he⟩
  · intro i hi
    simp at hi
    rw [upd_other _ _ (by omega)]
    exact h.off i (by omega)
  · intro i j bi bj hij hi hj li lj hr a a2 ha ha2
    rcases getElem?_append_one hi with ⟨h1, _⟩ | ⟨rfl, rfl⟩ <;> rcases getElem?_append_one hj with ⟨h2, _⟩ | ⟨rfl, rfl⟩
    · rw [upd_other _ _ (hne h1)] at ha
      rw [upd_other _ _ (hne h2)] at ha2
      exact h.sep i j bi bj hij h1 h2 li lj hr a a2 ha ha2
    · rw [upd_other _ _ (hne h1)] at ha
      rw [upd_same] at ha2
      injection ha2 with ha2
      subst ha2
      exact hfar i bi a h1 li ha
    · cases hr
    · exact absurd rfl hij
  · intro i b hb hl' hr a ha
    rcases getElem?_append_one hb with ⟨h1, _⟩ | ⟨rfl, rfl⟩
    · rw [upd_other _ _ (hne h1)] at ha
      exact h.own i b h1 hl' hr a ha
    · cases hr
  · intro k hk' ho'
    rw [hg.block k (Nat.lt_of_lt_of_le hk' h.size) (fun e => by injection e with e; subst e; exact ho' hown)]
    exact h.kept k hk' ho'
theorem append_off_ok (hT : TOk P T) (hI : Inv C ρ H w) {t ty : TypeId} {p x : AV} {u1 u2 : Value} (h1 : VRel ρ p u1) (h2 : VRel ρ x u2) {c : Bool} {v : AV} {H' : AH} (h : aAppendO T H t p x = some (c, v, H')) (hc : c = true) :
    ∃ u' ρ' w', (Builtin.append_ #[t, t] ty #[u1, u2]).run P w = .ok u' w' ∧ Inv C ρ' H' w' ∧ Ext ρ ρ' ∧ VRel ρ' v u' := by
  subst hc
  unfold aAppendO at h
  split at h <;> try (cases h; done)
  rename_i b o n
  obtain ⟨hon, ad, cp, rfl, hnc0, hml0, hsl⟩ : (ρ b).on = true ∧ ∃ ad c, u1 = .slice ad n c ∧ n ≤ c ∧ c ≤ maxLen ∧ SlAt (ρ b) o n ad c := h1
  split at h <;> try (cases h; done)
  rename_i i blk hi hb
  split at h <;> try (cases h; done)
  rename_i e hd
  split at h <;> try (cases h; done)
  rename_i j hj
  split at h <;> try (cases h; done)
  rename_i k k' xs hk hbd
  split at h <;> try (cases h; done)
  rename_i c ys hr
  split at h <;> try (cases h; done)
  rename_i hkk
  subst hkk
  injection h with h
  injection h with h h'
  injection h' with h' h''
  subst h' h''
  simp only [Bool.and_eq_true, beq_iff_eq] at h
  obtain ⟨⟨⟨⟨rfl, hrw⟩, hty⟩, hsz⟩, h⟩ := h
  obtain ⟨g1, g5, g0, g2, g3, g4⟩ := of_decide_eq_true h
  have hu := hT.un hi
  rw [hd] at hu
  obtain ⟨info, z, K⟩ := hT e j hj
  obtain ⟨a, c, rfl, hyl, hyc⟩ := rowOf_ok hI h2 hr g1
  generalize lenOf x = m at *
  have hlv : blk.body.live = true := by rw [hbd]; rfl
  have hB0 := hI.blk b blk hb hlv
  have hone : ∀ y ∈ ys.map k.val, y.oneCell' = true := by intro y hy; obtain ⟨n, _, rfl⟩ := List.mem_map.1 hy; cases k <;> rfl
  have hzs : z.cells.size = j.size := by rw [← K.len, ← K.zeros]; simp
  rcases hsl with ⟨a0, ha0, hs0, rfl, hcap⟩ | ⟨h0, hc0⟩
  · obtain ⟨q1, _⟩ := hcap
    rw [hB0.sz, hsz] at q1
    obtain ⟨p1, arr, p2, p3, p4, _⟩ := hB0.own hrw a0 ha0
    have ea : a0.add o = ⟨a0.block, o, none⟩ := by rw [addr_add' hs0, p1, Nat.zero_add]
    rw [ea]
    have hlen : ((xs.drop o).take (n * j.size)).length = n * j.size := by simp; omega
    have hcell : ∀ q u, (((xs.drop o).take (n * j.size)).map k.val)[q]? = some u → w.cell? ((⟨a0.block, o, none⟩ : Addr).add q) = some u := fun q u hu => by
      have hq : q < n * j.size := by
        have := (List.getElem?_eq_some_iff.1 hu).1
        rw [List.length_map, hlen] at this
        exact this
      obtain ⟨a1, u', f1, f2, f3⟩ := hB0.cell (o + q) (.s (.v (k.val (xs.getD (o + q) 0)))) (by rw [hbd]; simp [Body.get]; omega)
      rw [ha0] at f1
      injection f1 with f1
      subst f1
      obtain rfl : u' = k.val (xs.getD (o + q) 0) := f3
      rw [addr_add]
      rw [addr_add' hs0, p1, Nat.zero_add] at f2
      rw [f2, ← hu]
      have hoq : o + q < xs.length := by omega
      simp [List.getElem?_drop, hq, List.getD, hoq]
    obtain ⟨a', cap', w', r1, r2, r3, r4, r5, r6, r7, r8⟩ := run_append_off (P := P) w t ty e info z hu K.inf K.zero (by rw [K.size]; exact hzs) a0.block o n cp arr blk.ty p2 (by rw [K.size, p3]; exact q1) (((xs.drop o).take (n * j.size)).map k.val) (by rw [K.size, List.length_map]; exact hlen) hcell hnc0 hml0
      a m c (ys.map k.val) (by rw [K.size]; simpa using hyl) hyc hone (by unfold maxLen; omega) (by rw [K.bytes]; exact g2)
    have hK := hI.kill b blk
    have hblt := (List.getElem?_eq_some_iff.1 hb).1
    rw [← List.map_append] at r5
    have hB := hK.adoptR (g := a0.block) (w' := w') r6 (hI.own b blk hb hlv hrw a0 ha0)
      (fun q b' a2 hq hl ha => by
        rw [List.getElem?_set] at hq
        split at hq
        · injection hq with hq
          subst hq
          cases hl
        · rename_i hqb
          exact fun e => hI.sep b q blk b' hqb hb hq hlv hl hrw a0 a2 ha0 ha e.symm) (a' := a') r2 r8 (by simpa using r7) e j.size (cap' * j.size) (.rows k ((xs.drop o).take (n * j.size) ++ ys))
      (fun q y hy => by
        obtain ⟨u, f1, f2⟩ := rows_get (ρ := ρ) (us := ((xs.drop o).take (n * j.size) ++ ys).map k.val) (fun q hq => getD_int _ q hq k) q y hy
        exact ⟨u, r5 q u f1, f2⟩)
    have hl2 : (H.set b { blk with body := .dead }).length = H.length := by simp
    rw [hl2] at hB
    refine ⟨_, _, _, r1, hB.1, hB.2, by rw [upd_same], some a', cap', rfl, r3, r4, .inl ⟨a', by rw [upd_same], r2, by rw [addr_add' r2]; obtain ⟨ab, ao, as⟩ := a'; simp only at r2; subst r2; rfl, ?_⟩⟩
    rw [upd_same]
    exact ⟨by show 0 + cap' * j.size ≤ cap' * j.size; omega, fun _ => rfl⟩
  · omega
theorem append_ptrs_ok (hT : TOk P T) (hI : Inv C ρ H w) {t ty : TypeId} {p x : AV} {u1 u2 : Value} (h1 : VRel ρ p u1) (h2 : VRel ρ x u2) {c : Bool} {v : AV} {H' : AH} (h : aAppendP T H t p x = some (c, v, H')) (hc : c = true) :
    ∃ u' ρ' w', (Builtin.append_ #[t, t] ty #[u1, u2]).run P w = .ok u' w' ∧ Inv C ρ' H' w' ∧ Ext ρ ρ' ∧ VRel ρ' v u' := by
  unfold aAppendP at h
  split at h
  · rename_i r hr
    rw [h] at hr
    exact append_ptrs0_ok hT hI h1 h2 hr hc
  · exact append_off_ok hT hI h1 h2 h hc
theorem append2_ok (hT : TOk P T) (hI : Inv C ρ H w) {t ty : TypeId} {p x : AV} {u1 u2 : Value} (h1 : VRel ρ p u1) (h2 : VRel ρ x u2) {c : Bool} {v : AV} {H' : AH} (h : (match aAppend T H t p x with | some r => some r | none => match aAppendC T H t p x with | some r => some r | none => match aAppendR T H t p x with | some r => some r | none => aAppendP T H t p x) = some (c, v, H')) (hc : c = true) :
    ∃ u' ρ' w', (Builtin.append_ #[t, t] ty #[u1, u2]).run P w = .ok u' w' ∧ Inv C ρ' H' w' ∧ Ext ρ ρ' ∧ VRel ρ' v u' := by
  split at h
  · rename_i r hr
    rw [h] at hr
    exact append_ok hT hI h1 h2 hr hc
  · split at h
    · rename_i r hr
      rw [h] at hr
      exact append_cells_ok hT hI h1 h2 hr hc
    · split at h
      · rename_i r hr
        rw [h] at hr
        exact append_recs_ok hT hI h1 h2 hr hc
      · exact append_ptrs_ok hT hI h1 h2 h hc
theorem append0_ok (hT : TOk P T) (hI : Inv C ρ H w) {t ty : TypeId} {p x : AV} {u1 u2 : Value} (h1 : VRel ρ p u1) (h2 : VRel ρ x u2) (h0 : zeroLen x = true) {c : Bool} {v : AV} {H' : AH} (h : aAppend0 T H t p = some (c, v, H')) :
    ∃ u' ρ' w', (Builtin.append_ #[t, t] ty #[u1, u2]).run P w = .ok u' w' ∧ Inv C ρ' H' w' ∧ Ext ρ ρ' ∧ VRel ρ' v u' := by
  unfold zeroLen at h0
  split at h0 <;> try (cases h0; done)
  rename_i b o n
  obtain rfl : n = 0 := by
    cases n with
    | zero => rfl
    | succ m => cases h0
  obtain ⟨_, ad, c0, rfl, _, _, _⟩ : (ρ b).on = true ∧ ∃ ad c, u2 = .slice ad 0 c ∧ 0 ≤ c ∧ c ≤ maxLen ∧ SlAt (ρ b) o 0 ad c := h2
  unfold aAppend0 at h
  split at h <;> try (cases h; done)
  rename_i b1 o1 n1
  split at h <;> try (cases h; done)
  rename_i i hi
  split at h <;> try (cases h; done)
  rename_i e hd
  split at h <;> try (cases h; done)
  rename_i j hj
  injection h with h
  injection h with h h'
  injection h' with h' h''
  subst h' h''
  have h1' := h1
  obtain ⟨_, ad1, c1, rfl, hle, _, _⟩ : (ρ b1).on = true ∧ ∃ ad c, u1 = .slice ad n1 c ∧ n1 ≤ c ∧ c ≤ maxLen ∧ SlAt (ρ b1) o1 n1 ad c := h1
  have hu := hT.un hi
  rw [hd] at hu
  refine ⟨.slice ad1 n1 c1, ρ, w, ?_, hI, Ext.refl ρ, h1'⟩
  have hfc : (Builtin.firstCells j.size 0 (.slice ad 0 c0)).run P w = .ok #[] w := by
    cases ad with
    | none => simp [Builtin.firstCells]
    | some a =>
      have := run_loadCells_list (P := P) w a [] (fun j u h => by simp at h)
      simp only [List.length_nil] at this
      simp [Builtin.firstCells, this]
  cases ad1 <;> simp [Builtin.append_, run_underlying hu, hT.sizeOf hj, Builtin.lenOf, hfc, hle, storeCells]
end
end Go.Proofs.Ytpbenjpponbjjaa.En
