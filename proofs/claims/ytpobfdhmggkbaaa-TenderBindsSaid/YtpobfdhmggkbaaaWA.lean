/- The engine's contracts, as walks ask for them: rows of offers, awards. -/
import Derived.Test.YtpobfdhmggkbaaaUL
import Derived.Test.YtpobfdhmggkbaaaV10
import Derived.Test.YtpobfdhmggkbaaaZE
import Derived.Test.YtpobfdhmggkbaaaA1
import Derived.Test.YtpobfdhmggkbaaaV5
import Derived.Test.YtpobfdhmggkbaaaF
namespace Go.Proofs.Ytpobfdhmggkbaaa
open Go.RowKit
theorem rin_ints {W : World} {A : Option Addr} {n cap : Nat} {xs : List Int} (h : IntsAt W.heap.size W A n xs) (hc : n ≤ cap) (hb : cap ≤ 9223372036854775807) (hf : ∀ j, j < n → -9223372036854775808 ≤ iA xs j ∧ iA xs j ≤ 9223372036854775807) :
    (RIn.mk 3 1 A n cap xs (.int .i64)).ok W := by
  have hl := h.1
  refine ⟨by show xs.length = 1 * n; omega, hc, hb, fun h0 => ?_, fun j hj => hf j (by rw [← hl]; exact hj)⟩
  have h0 : 0 < n := h0
  rcases h.2 with e | ⟨b, off, e, hlt, hx⟩
  · omega
  · exact ⟨b, off, e, hlt, fun j hj => hx j (by rw [← hl]; exact hj)⟩
/-- the numbers of offers -/
def flatO (l : List Ofr) : List Int := l.flatMap fun o => [o.1, o.2.1, o.2.2]
theorem flatO_len : ∀ l : List Ofr, (flatO l).length = 3 * l.length
  | [] => rfl
  | o :: l => by
    show ([o.1, o.2.1, o.2.2] ++ flatO l).length = _
    rw [List.length_append, flatO_len l, List.length_cons]
    simp only [List.length_cons, List.length_nil]
    omega
theorem flatO_at : ∀ (l : List Ofr) (i : Nat), i < l.length → (flatO l).getD (i * 3) 0 = (oA l i).1 ∧ (flatO l).getD (i * 3 + 1) 0 = (oA l i).2.1 ∧ (flatO l).getD (i * 3 + 2) 0 = (oA l i).2.2
  | [], i, h => absurd h (Nat.not_lt_zero _)
  | q :: l, 0, _ => ⟨rfl, rfl, rfl⟩
  | q :: l, i + 1, h => by
    have := flatO_at l i (by simpa using h)
    rw [show (i + 1) * 3 = i * 3 + 1 + 1 + 1 by omega]
    exact this
/-- an offer's numbers are ints -/
def okI (o : Ofr) : Prop := (-9223372036854775808 ≤ o.1 ∧ o.1 ≤ 9223372036854775807) ∧ (-9223372036854775808 ≤ o.2.1 ∧ o.2.1 ≤ 9223372036854775807) ∧ (-9223372036854775808 ≤ o.2.2 ∧ o.2.2 ≤ 9223372036854775807)
theorem rin_off {W : World} {A : Option Addr} {n cap : Nat} {l : List Ofr} (h : OffAt W.heap.size W A n l) (hc : n ≤ cap) (hb : cap ≤ 9223372036854775807) (hf : ∀ o ∈ l, okI o) :
    (RIn.mk 72 3 A n cap (flatO l) (.int .i64)).ok W := by
  have hl := h.len
  have hdiv : ∀ j, j < (flatO l).length → ∃ q r, j = q * 3 + r ∧ r < 3 ∧ q < n := fun j hj => by
    rw [flatO_len] at hj
    exact ⟨j / 3, j % 3, by omega, by omega, by omega⟩
  refine ⟨by show (flatO l).length = 3 * n; rw [flatO_len, hl], hc, hb, fun h0 => ?_, fun j hj => ?_⟩
  · have h0 : 0 < n := h0
    rcases h.row with e | ⟨b, off, e, hlt, hx⟩
    · omega
    · refine ⟨b, off, e, hlt, fun j hj => ?_⟩
      obtain ⟨q, r, rfl, hr, hq⟩ := hdiv j hj
      obtain ⟨x0, x1, x2⟩ := hx q hq
      obtain ⟨y0, y1, y2⟩ := flatO_at l q (by omega)
      have hcase : r = 0 ∨ r = 1 ∨ r = 2 := by omega
      rcases hcase with rfl | rfl | rfl
      · show _ = some (Value.int .i64 ((flatO l).getD (q * 3 + 0) 0))
        rw [Nat.add_zero, y0]
        exact x0
      · show _ = some (Value.int .i64 ((flatO l).getD (q * 3 + 1) 0))
        rw [y1, ← Nat.add_assoc]
        exact x1
      · show _ = some (Value.int .i64 ((flatO l).getD (q * 3 + 2) 0))
        rw [y2, ← Nat.add_assoc]
        exact x2
  · obtain ⟨q, r, rfl, hr, hq⟩ := hdiv j hj
    obtain ⟨y0, y1, y2⟩ := flatO_at l q (by omega)
    have hm : oA l q ∈ l := by
      unfold oA
      rw [List.getD_eq_getElem?_getD, List.getElem?_eq_getElem (by omega)]
      exact List.getElem_mem _
    obtain ⟨f0, f1, f2⟩ := hf _ hm
    have hcase : r = 0 ∨ r = 1 ∨ r = 2 := by omega
    rcases hcase with rfl | rfl | rfl
    · show RK.fit (.int .i64) ((flatO l).getD (q * 3 + 0) 0)
      rw [Nat.add_zero, y0]
      exact f0
    · show RK.fit (.int .i64) ((flatO l).getD (q * 3 + 1) 0)
      rw [y1]
      exact f1
    · show RK.fit (.int .i64) ((flatO l).getD (q * 3 + 2) 0)
      rw [y2]
      exact f2
theorem calls_of {W : World} {g : FuncId} {l : List RIn} {args : List AV} {ra : Array Value} {K : AV → Prop} (h : CallA Try.prog g args (insOf l) (fun v H => K v ∧ H = insOf l)) (hl : ∀ r ∈ l, r.ok W) (hra : LRel (VRel (plOf l)) args ra.toList)
    (hk : okL some l.length args = true) : Calls Try.prog g ra W (fun e w' => ∃ u v ρ, e = .returned u ∧ K v ∧ VRel ρ v u ∧ Below W.heap.size W w') := by
  refine (call_pure h (insOf_ro l) (inv_of hl) (by rw [renL_some]; exact hra) (by rw [insOf_len]; exact hk) (heapW_pre _ _ _ (fun q b hb => ⟨b, by rw [Nat.zero_add]; exact hb, id, rfl, rfl, id, rfl⟩) (insOf_bodies _ l)) (rngB_some _ (Nat.le_refl _))).mono ?_
  rintro e w' ⟨u, v, H1, ρ', rfl, ⟨hv, _⟩, _, hr, hb⟩
  exact ⟨u, v, ρ', rfl, hv, hr, hb⟩
/-- are two rows of numbers the same? -/
theorem same_w (w : World) (A : Option Addr) (n c : Nat) (xs : List Int) (A' : Option Addr) (n' c' : Nat) (ys : List Int) (h : IntsAt w.heap.size w A n xs) (h' : IntsAt w.heap.size w A' n' ys) (h1 : n ≤ c) (h2 : n' ≤ c') (h3 : c ≤ 9223372036854775807) (h4 : c' ≤ 9223372036854775807)
    (f : ∀ j, j < n → -9223372036854775808 ≤ iA xs j ∧ iA xs j ≤ 9223372036854775807) (f' : ∀ j, j < n' → -9223372036854775808 ≤ iA ys j ∧ iA ys j ≤ 9223372036854775807) :
    Calls Try.prog 22 #[.slice A n c, .slice A' n' c'] w (fun e w' => e = .returned (.bool (decide (xs = ys))) ∧ Below w.heap.size w w') := by
  have r1 := rin_ints h h1 h3 f
  have r2 := rin_ints h' h2 h4 f'
  have hc := same_c xs ys (by have := h.1; omega)
  have e1 := h.1
  have e2 := h'.1
  refine (calls_of (ra := #[.slice A n c, .slice A' n' c']) (l := [⟨3, 1, A, n, c, xs, .int .i64⟩, ⟨3, 1, A', n', c', ys, .int .i64⟩]) hc (by
    intro r hr
    simp at hr
    rcases hr with rfl | rfl
    · exact r1
    · exact r2) ⟨by rw [e1]; exact slc_of (i := 0) rfl r1, by rw [e2]; exact slc_of (i := 1) rfl r2, trivial⟩ rfl).mono ?_
  rintro e w' ⟨u, v, ρ, rfl, rfl, hr, hg⟩
  have hr : u = .bool (decide (xs = ys)) := hr
  exact ⟨by rw [hr], hg⟩
theorem flatO_inj : ∀ {l m : List Ofr}, flatO l = flatO m → l = m
  | [], [], _ => rfl
  | [], o :: m, h => by cases h
  | o :: l, [], h => by cases h
  | (a, b, c) :: l, (a', b', c') :: m, h => by
    have h : a :: b :: c :: flatO l = a' :: b' :: c' :: flatO m := h
    injection h with h1 h
    injection h with h2 h
    injection h with h3 h
    rw [h1, h2, h3, flatO_inj h]
theorem offers_w (w : World) (A : Option Addr) (n c : Nat) (l : List Ofr) (A' : Option Addr) (n' c' : Nat) (m : List Ofr) (h : OffAt w.heap.size w A n l) (h' : OffAt w.heap.size w A' n' m) (h1 : n ≤ c) (h2 : n' ≤ c') (h3 : c ≤ 9223372036854775807) (h4 : c' ≤ 9223372036854775807)
    (f : ∀ o ∈ l, okI o) (f' : ∀ o ∈ m, okI o) :
    Calls Try.prog 20 #[.slice A n c, .slice A' n' c'] w (fun e w' => e = .returned (.bool (decide (l = m))) ∧ Below w.heap.size w w') := by
  have r1 := rin_off h h1 h3 f
  have r2 := rin_off h' h2 h4 f'
  have e1 := h.len
  have e2 := h'.len
  have hc := offers_c (flatO l) (flatO m) n n' (by rw [flatO_len, e1]) (by rw [flatO_len, e2]) (by omega)
  refine (calls_of (ra := #[.slice A n c, .slice A' n' c']) (l := [⟨72, 3, A, n, c, flatO l, .int .i64⟩, ⟨72, 3, A', n', c', flatO m, .int .i64⟩]) hc (by
    intro r hr
    simp at hr
    rcases hr with rfl | rfl
    · exact r1
    · exact r2) ⟨slc_of (i := 0) rfl r1, slc_of (i := 1) rfl r2, trivial⟩ rfl).mono ?_
  rintro e w' ⟨u, v, ρ, rfl, rfl, hr, hg⟩
  have hr : u = .bool (decide (flatO l = flatO m)) := hr
  refine ⟨?_, hg⟩
  rw [hr]
  congr 2
  exact decide_eq_decide.2 ⟨flatO_inj, fun h => by rw [h]⟩
theorem alive_w (w : World) : Calls Try.prog 16 #[] w (fun e w' => e = .returned (.bool true) ∧ Below w.heap.size w w') := by
  refine (calls_of (ra := #[]) (l := []) (K := fun v => v = .boo true) alive_c (by intro r hr; cases hr) trivial rfl).mono ?_
  rintro e w' ⟨u, v, ρ, rfl, rfl, hr, hg⟩
  have hr : u = .bool true := hr
  exact ⟨by rw [hr], hg⟩
theorem Inv.ints {C : Cx} {ρ : Pl} {H : AH} {w : World} (h : Inv C ρ H w) {b n : Nat} {blk : Blk} {xs : List Int} (hb : H[b]? = some blk) (hbd : blk.body = .rows (.int .i64) xs) (hl : xs.length = n) {u : Value} (hu : SRel ρ (.slc b 0 n) u) :
    ∃ ad c, u = .slice ad n c ∧ n ≤ c ∧ c ≤ maxLen ∧ IntsAt w.heap.size w ad n xs ∧ (0 < n → ∀ a, ad = some a → a.block < w.heap.size) ∧ (blk.rw = true → ad = none → n = 0 ∧ c = 0) := by
  obtain ⟨hon, ad, c, rfl, h1, h2, hat⟩ := hu
  have hlv : blk.body.live = true := by rw [hbd]; rfl
  have hB := h.blk b blk hb hlv
  refine ⟨ad, c, rfl, h1, h2, ⟨hl, ?_⟩, ?_, ?_⟩
  · rcases hat with ⟨a, ha, hsp, rfl, _⟩ | ⟨hn, _⟩
    · by_cases h0 : n = 0
      · exact .inl h0
      · refine .inr ⟨a.block, a.off, ?_, (hB.lt a ha).2, fun i hi => ?_⟩
        · rw [addr_add' hsp, Nat.add_zero]
        · obtain ⟨a', u', h3, h4, h5⟩ := hB.cell i (.s (.v (.int .i64 (xs.getD i 0)))) (by rw [hbd]; show some (decide (i < xs.length), _) = _; rw [decide_eq_true (by omega)]; rfl)
          rw [ha] at h3
          injection h3 with h3
          subst h3
          rw [addr_add' hsp] at h4
          have h5 : u' = .int .i64 (xs.getD i 0) := h5
          rw [h4, h5]
          rfl
    · exact .inl hn
  · intro h0 a' e
    rcases hat with ⟨a, ha, hsp, rfl, _⟩ | ⟨hn, _⟩
    · injection e with e
      subst e
      rw [addr_add_block]
      exact (hB.lt a ha).2
    · omega
  · intro hr e
    subst e
    rcases hat with ⟨a, _, _, h3, _⟩ | ⟨hn, hc⟩
    · cases h3
    · refine ⟨hn, hc.elim id fun ⟨he, _⟩ => ?_⟩
      rw [hB.rw hr] at he
      cases he

/-- the seal of offers -/
def sealW (l : List Ofr) (salt : Nat) : Nat := (sealV (flatO l) salt l.length).toNat
theorem sealV_okW (fl : List Int) (n : Nat) {key : Int} (hk : natOk .u64 key = true) : natOk .u64 (sealV fl key n) = true := sealN_ok (mixed_ok (natOk_u64.2 (by decide)) hk) n
theorem Seal_w (w : World) (A : Option Addr) (n c : Nat) (l : List Ofr) (salt : Nat) (h : OffAt w.heap.size w A n l) (h1 : n ≤ c) (h3 : c ≤ 9223372036854775807) (f : ∀ o ∈ l, okI o) (hn : n ≤ 300) (hs : salt < 18446744073709551616) :
    Calls Try.prog 28 #[.slice A n c, .int .u64 (salt : Nat)] w (fun e w' => e = .returned (.int .u64 (sealW l salt : Nat)) ∧ Below w.heap.size w w') := by
  have r1 := rin_off h h1 h3 f
  have e1 := h.len
  have hk : natOk .u64 (salt : Int) = true := natOk_u64.2 (by omega)
  have hc := Seal_c (flatO l) n (salt : Int) (by rw [flatO_len, e1]) hn hk
  refine (calls_of (ra := #[.slice A n c, .int .u64 (salt : Nat)]) (l := [⟨72, 3, A, n, c, flatO l, .int .i64⟩]) hc (by
    intro r hr
    simp at hr
    subst hr
    exact r1) ⟨slc_of (i := 0) rfl r1, rfl, trivial⟩ rfl).mono ?_
  rintro e w' ⟨u, v, ρ, rfl, rfl, hr, hg⟩
  have hr : u = .int .u64 (sealV (flatO l) (salt : Int) n) := hr
  refine ⟨?_, hg⟩
  rw [hr]
  unfold sealW
  rw [e1]
  have h0 : 0 ≤ sealV (flatO l) (salt : Int) n := by
    have := natOk_u64.1 (sealV_okW (flatO l) n hk)
    omega
  rw [Int.toNat_of_nonneg h0]
theorem sealW_lt (l : List Ofr) (salt : Nat) (hs : salt < 18446744073709551616) : sealW l salt < 18446744073709551616 := by
  have hk : natOk .u64 (salt : Int) = true := natOk_u64.2 (by omega)
  have := natOk_u64.1 (sealV_okW (flatO l) l.length hk)
  unfold sealW
  omega
/-- the award of valid offers -/
theorem Decide_w (w : World) (A : Option Addr) (n c : Nat) (l : List Ofr) (lots : Int) (h : OffAt w.heap.size w A n l) (h1 : n ≤ c) (h3 : c ≤ 9223372036854775807) (f : ∀ o ∈ l, okI o) :
    Calls Try.prog 23 #[.int .i64 lots, .slice A n c] w (fun e w' => ∃ aw, e = .returned (.tuple #[aw, .int .i64 (checkV lots (flatO l) n)]) ∧ AwAt w.heap.size w' aw (decT lots (flatO l) n) (decP lots (flatO l) n) (decW lots (flatO l) n) ∧ Below w.heap.size w w') := by
  have r1 := rin_off h h1 h3 f
  have e1 := h.len
  have hc := Decide_c lots (flatO l) n (by rw [flatO_len, e1])
  have hl : ∀ r ∈ [(⟨72, 3, A, n, c, flatO l, .int .i64⟩ : RIn)], r.ok w := by
    intro r hr
    simp at hr
    subst hr
    exact r1
  refine (call_pure hc (insOf_ro [(⟨72, 3, A, n, c, flatO l, .int .i64⟩ : RIn)]) (inv_of hl) (ra := #[.int .i64 lots, .slice A n c]) (by rw [renL_some]; exact ⟨rfl, slc_of (i := 0) rfl r1, trivial⟩) rfl (heapW_pre _ _ _ (fun q b hb => ⟨b, by rw [Nat.zero_add]; exact hb, id, rfl, rfl, id, rfl⟩) (insOf_bodies _ [(⟨72, 3, A, n, c, flatO l, .int .i64⟩ : RIn)])) (rngB_some _ (Nat.le_refl _))).mono ?_
  rintro e w' ⟨u, v, H1, ρ', rfl, ⟨rfl, rfl⟩, hI, ⟨⟨us⟩, rfl, hr⟩, hb⟩
  match us, hr with
  | [x, y], ⟨⟨⟨cs⟩, hx, hr⟩, hy, _⟩ =>
    subst hx
    match cs, hr with
    | [s1, s2, s3], ⟨k1, k2, k3, _⟩ =>
      have hy : y = .int .i64 (checkV lots (flatO l) n) := hy
      have k3 : s3 = .int .i64 (decW lots (flatO l) n) := k3
      have k1 : SRel ρ' (.slc 1 0 (decT lots (flatO l) n).length) s1 := k1
      have k2 : SRel ρ' (.slc 2 0 (decP lots (flatO l) n).length) s2 := k2
      subst hy k3
      obtain ⟨a1, c1, rfl, p1, p2, p3, _⟩ := hI.ints (b := 1) (blk := numR true (decT lots (flatO l) n)) rfl rfl rfl k1
      obtain ⟨a2, c2, rfl, q1, q2, q3, _⟩ := hI.ints (b := 2) (blk := numR true (decP lots (flatO l) n)) rfl rfl rfl k2
      have own : ∀ {b m : Nat} {ad : Option Addr} {c : Nat} {xs : List Int}, ([offR (flatO l), numR true (decT lots (flatO l) n), numR true (decP lots (flatO l) n)] : AH)[b]? = some (numR true xs) → SRel ρ' (.slc b 0 m) (.slice ad m c) → ∀ a, ad = some a → 0 < m → w.heap.size ≤ a.block := by
        rintro b m ad c xs hb ⟨_, ad', c', e, _, _, hs⟩ a ha h0
        injection e with e1 e2 e3
        subst e1
        rcases hs with ⟨a0, ha0, hsp, had, _⟩ | ⟨hz, _⟩
        · have ho := hI.own b (numR true xs) hb rfl rfl a0 ha0
          rw [ha] at had
          injection had with had
          rw [had, addr_add' hsp]
          exact ho
        · omega
      have hml : maxLen = 9223372036854775807 := by decide
      rw [hml] at p2 q2
      refine ⟨_, rfl, ⟨a1, _, c1, a2, _, c2, rfl, p1, p2, q1, q2, p3, q3, fun a e h => own (b := 1) rfl k1 a e h, fun a e h => own (b := 2) rfl k2 a e h⟩, hb⟩
end Go.Proofs.Ytpobfdhmggkbaaa
