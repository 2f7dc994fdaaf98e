/- Contracts of cmp.Compare, of the keys, and of the comparison that inOrder hands to the sort. -/
import Derived.Test.YtfahlgjolihmkaaDoorD2
import Derived.Test.YtfahlgjolihmkaaDoorZ1
namespace Go.Proofs.YtfahlgjolihmkaaDoor
open Go.RowKit Go.Sort

theorem isNaN_any (x : Int) (w : World) : Calls Tryd.prog 66 #[.int .i64 x] w fun e w' => e = .returned (.bool false) ∧ w = w' := by
  have h : (x != x) = false := by simp
  go_enter Tryd.func66, Tryd.ntmps66
  go_wp2
  go_ret
  exact ⟨rfl, rfl⟩

/-- what cmp.Compare says of two numbers -/
def cmpV (x y : Int) : Int := if x < y then -1 else if y < x then 1 else 0
theorem cmpV_neg {x y : Int} : cmpV x y < 0 ↔ x < y := by unfold cmpV; split <;> (try split) <;> omega

set_option maxHeartbeats 400000 in
theorem compare_any (x y : Int) (w : World) : Calls Tryd.prog 54 #[.int .i64 x, .int .i64 y] w fun e w' => e = .returned (.int .i64 (cmpV x y)) ∧ w = w' := by
  by_cases h1 : x < y
  · have H : Hid (cmpV x y = -1) := by show cmpV x y = -1; unfold cmpV; rw [if_pos h1]
    go_enter Tryd.func54, Tryd.ntmps54
    go_wp2_with (go_at_call 66; refine (isNaN_any _ _).mono ?_; rintro e w' ⟨rfl, rfl⟩)
    go_ret
    exact ⟨ret_int H.out.symm, rfl⟩
  · by_cases h2 : y < x
    · have H : Hid (cmpV x y = 1) := by show cmpV x y = 1; unfold cmpV; rw [if_neg h1, if_pos h2]
      go_enter Tryd.func54, Tryd.ntmps54
      go_wp2_with (go_at_call 66; refine (isNaN_any _ _).mono ?_; rintro e w' ⟨rfl, rfl⟩)
      go_ret
      exact ⟨ret_int H.out.symm, rfl⟩
    · have H : Hid (cmpV x y = 0) := by show cmpV x y = 0; unfold cmpV; rw [if_neg h1, if_neg h2]
      go_enter Tryd.func54, Tryd.ntmps54
      go_wp2_with (go_at_call 66; refine (isNaN_any _ _).mono ?_; rintro e w' ⟨rfl, rfl⟩)
      go_ret
      exact ⟨ret_int H.out.symm, rfl⟩

/-- what is asked of the key: a function of the two ends -/
def KeyCalls (g : Nat) (kf : Int → Int → Int) : Prop := (∀ args w, (callFunc g args).run Tryd.prog w = .ok (.enter g args) w) ∧ ∀ (a b : Int) (W : World), Calls Tryd.prog g #[.agg #[.int .i64 a, .int .i64 b]] W fun e w' => e = .returned (.int .i64 (kf a b)) ∧ Gr W w'

theorem key66 : KeyCalls 37 (fun a _ => a) := ⟨enters_of Tryd.func37 (by kernel_rfl) rfl, fun a b W => by
  go_enter Tryd.func37, Tryd.ntmps37
  go_wp2
  go_ret
  exact ⟨rfl, (Gr.refl _).alloc _⟩⟩
/-- the key of the i-th span -/
def keyA (kf : Int → Int → Int) (xs : List Sp) (i : Nat) : Int := kf (loA xs i) (hiA xs i)

set_option maxHeartbeats 2000000 in
set_option maxRecDepth 100000 in
theorem cmp_any (g : Nat) (kf : Int → Int → Int) (hk : KeyCalls g kf) (A : Option Addr) (n cap Bk Bl i j B : Nat) (xs : List Sp) (w : World) (hi : i < n) (hj : j < n) (hB : B ≤ w.heap.size) (hx : SpansAt B w A n xs)
    (h1 : w.cell? ⟨Bk, 0, none⟩ = some (.func (.func g) #[] #[])) (h2 : w.cell? ⟨Bl, 0, none⟩ = some (.slice A n cap)) (l1 : Bk < w.heap.size) (l2 : Bl < w.heap.size) :
    Calls Tryd.prog 53 #[.int .i64 i, .int .i64 j, .pointer (some ⟨Bk, 0, none⟩), .pointer (some ⟨Bl, 0, none⟩)] w fun e w' => e = .returned (.int .i64 (cmpV (keyA kf xs i) (keyA kf xs j))) ∧ Gr w w' := by
  have mixed := mixedOrders
  have eg := hk.1
  have HK := hide hk.2
  obtain ⟨b, off, rfl, hb, c0, c1⟩ := hx.at_ hi
  obtain ⟨c2, c3⟩ := hx.at2 hj
  have hi' : (i : Int) < (n : Int) := by omega
  have hj' : (j : Int) < (n : Int) := by omega
  have E1 := fun q os => cell_grown (n := q) (os := os) (a := ⟨Bk, 0, none⟩) l1 h1
  have E2 := fun q os => cell_grown (n := q) (os := os) (a := ⟨Bl, 0, none⟩) l2 h2
  have E3 := fun q os => cell_grown (n := q) (os := os) (a := ⟨b, off + i * 2, none⟩) (Nat.lt_of_lt_of_le hb hB) c0
  have E4 := fun q os => cell_grown (n := q) (os := os) (a := ⟨b, off + i * 2 + 1, none⟩) (Nat.lt_of_lt_of_le hb hB) c1
  have E5 := fun q os => cell_grown (n := q) (os := os) (a := ⟨b, off + j * 2, none⟩) (Nat.lt_of_lt_of_le hb hB) c2
  have E6 := fun q os => cell_grown (n := q) (os := os) (a := ⟨b, off + j * 2 + 1, none⟩) (Nat.lt_of_lt_of_le hb hB) c3
  have EC : Hid (∀ (x y : Int) (q : Nat) (os : Array Obj), Calls Tryd.prog 54 #[.int .i64 x, .int .i64 y] (grow (w.drewN q) os) fun e w'' => e = .returned (.int .i64 (cmpV x y)) ∧ ∃ p : GrownBy, w'' = grow (w.drewN p.n) p.os) := fun x y q os =>
    gr_call ((compare_any x y _).mono fun _ _ ⟨he, hw⟩ => ⟨he, by rw [← hw]; exact Gr.refl _⟩)
  clear hx c0 c1 c2 c3 h1 h2 hk
  go_enter Tryd.func53, Tryd.ntmps53
  go_wp2_with fail
  refine wp_region_quiet_grown (by assumption) (by kernel_rfl) ?_
  repeat (first | go_big_quiet_step ((first | (go_at_call 54; exact EC.out _ _ _ _) | exact gr_call (HK.out _ _ _))) | quiet_step ((first | (go_at_call 54; exact EC.out _ _ _ _) | exact gr_call (HK.out _ _ _))))
  refine wpQuiet_nil ?_
  intro _ hw'
  obtain ⟨⟨nq, osq⟩, hw''⟩ := hw'
  subst hw''
  go_wp2
  go_ret
  exact ⟨rfl, grown_gr _ _ _⟩

end Go.Proofs.YtfahlgjolihmkaaDoor
/- Plain facts about sorting indexes by a key, equal ones by index. -/
namespace Go.Proofs.YtfahlgjolihmkaaDoor

/-- u comes before v: by the key, then by the index -/
def lexL (kf : Nat → Int) (u v : Nat) : Prop := kf u < kf v ∨ (kf u = kf v ∧ u < v)
theorem lexL.trans {kf : Nat → Int} {u v w : Nat} (h : lexL kf u v) (k : lexL kf v w) : lexL kf u w := by
  unfold lexL at *
  omega
theorem lexL.irrefl {kf : Nat → Int} {u : Nat} (h : lexL kf u u) : False := by
  unfold lexL at h
  omega

def swpF (d : Nat → Nat) (i j : Nat) : Nat → Nat := fun k => if k = i then d j else if k = j then d i else d k
theorem swpF_left (d : Nat → Nat) (i j : Nat) : swpF d i j i = d j := by simp [swpF]
theorem swpF_right (d : Nat → Nat) (i j : Nat) : swpF d i j j = d i := by
  unfold swpF
  split
  · rename_i h; rw [h]
  · simp
theorem swpF_other (d : Nat → Nat) {i j k : Nat} (h1 : k ≠ i) (h2 : k ≠ j) : swpF d i j k = d k := by simp [swpF, h1, h2]

/-- on [a, b) the one is the other one, reordered; elsewhere they are the same -/
def PermOn (a b : Nat) (d d' : Nat → Nat) : Prop := ∃ s : Nat → Nat, (∀ k, a ≤ k → k < b → a ≤ s k ∧ s k < b) ∧ (∀ k k', a ≤ k → k < b → a ≤ k' → k' < b → s k = s k' → k = k') ∧ (∀ k, a ≤ k → k < b → d' k = d (s k)) ∧ ∀ k, (k < a ∨ b ≤ k) → d' k = d k
theorem PermOn.refl (a b : Nat) (d : Nat → Nat) : PermOn a b d d := ⟨id, fun _ h1 h2 => ⟨h1, h2⟩, fun _ _ _ _ _ _ h => h, fun _ _ _ => rfl, fun _ _ => rfl⟩
theorem PermOn.trans {a b : Nat} {d e f : Nat → Nat} (h : PermOn a b d e) (k : PermOn a b e f) : PermOn a b d f := by
  obtain ⟨s, s1, s2, s3, s4⟩ := h
  obtain ⟨t, t1, t2, t3, t4⟩ := k
  refine ⟨fun x => s (t x), fun x h1 h2 => ?_, fun x y h1 h2 h3 h4 he => ?_, fun x h1 h2 => ?_, fun x hx => (t4 x hx).trans (s4 x hx)⟩
  · have := t1 x h1 h2
    exact s1 _ this.1 this.2
  · have ht := t1 x h1 h2
    have hu := t1 y h3 h4
    exact t2 x y h1 h2 h3 h4 (s2 _ _ ht.1 ht.2 hu.1 hu.2 he)
  · have := t1 x h1 h2
    rw [t3 x h1 h2, s3 _ this.1 this.2]
theorem PermOn.mono {a b a' b' : Nat} {d e : Nat → Nat} (h : PermOn a b d e) (ha : a' ≤ a) (hb : b ≤ b') : PermOn a' b' d e := by
  obtain ⟨s, s1, s2, s3, s4⟩ := h
  refine ⟨fun x => if a ≤ x ∧ x < b then s x else x, fun x h1 h2 => ?_, fun x y h1 h2 h3 h4 he => ?_, fun x h1 h2 => ?_, fun x hx => s4 x (by omega)⟩
  · dsimp only
    split
    · rename_i h
      have := s1 x h.1 h.2
      omega
    · omega
  · dsimp only at he
    split at he
    · rename_i hx
      have hsx := s1 x hx.1 hx.2
      split at he
      · rename_i hy
        exact s2 x y hx.1 hx.2 hy.1 hy.2 he
      · omega
    · rename_i hx
      split at he
      · rename_i hy
        have hsy := s1 y hy.1 hy.2
        omega
      · exact he
  · dsimp only
    split
    · rename_i h
      exact s3 x h.1 h.2
    · rename_i h
      exact s4 x (by omega)
theorem PermOn.swp {a b i j : Nat} (d : Nat → Nat) (hi : a ≤ i ∧ i < b) (hj : a ≤ j ∧ j < b) : PermOn a b d (swpF d i j) := by
  refine ⟨fun k => if k = i then j else if k = j then i else k, fun k h1 h2 => ?_, fun k k' h1 h2 h3 h4 he => ?_, fun k _ _ => ?_, fun k hk => swpF_other d (by omega) (by omega)⟩
  · dsimp only
    split
    · omega
    · split <;> omega
  · dsimp only at he
    split at he <;> split at he <;> (try split at he) <;> (try split at he) <;> omega
  · dsimp only
    unfold swpF
    split
    · rfl
    · split <;> rfl
/-- what holds of all values there still does -/
theorem PermOn.all {a b : Nat} {d e : Nat → Nat} (h : PermOn a b d e) {Q : Nat → Prop} (hq : ∀ k, a ≤ k → k < b → Q (d k)) : ∀ k, a ≤ k → k < b → Q (e k) := by
  obtain ⟨s, s1, _, s3, _⟩ := h
  intro k h1 h2
  have := s1 k h1 h2
  rw [s3 k h1 h2]
  exact hq _ this.1 this.2
theorem PermOn.out {a b : Nat} {d e : Nat → Nat} (h : PermOn a b d e) {k : Nat} (hk : k < a ∨ b ≤ k) : e k = d k := by
  obtain ⟨_, _, _, _, s4⟩ := h
  exact s4 k hk

/-- sorted on [a, b) -/
def SortedOn (kf : Nat → Int) (a b : Nat) (d : Nat → Nat) : Prop := ∀ k k', a ≤ k → k < k' → k' < b → lexL kf (d k) (d k')

/-- the outer loop of the insertion sort -/
structure OuterP (kf : Nat → Int) (a b i : Nat) (d dk : Nat → Nat) : Prop where
  some_ : a < b → i ≤ b ∧ PermOn a i d dk ∧ SortedOn kf a i dk
  none_ : ¬ a < b → dk = d
theorem OuterP.start (kf : Nat → Int) (a b : Nat) (d : Nat → Nat) : OuterP kf a b (a + 1) d d :=
  ⟨fun h => ⟨by omega, PermOn.refl _ _ _, fun k k' h1 h2 h3 => by omega⟩, fun _ => rfl⟩
/-- the inner loop -/
structure InnerP (kf : Nat → Int) (a i j : Nat) (d dj : Nat → Nat) : Prop where
  perm : PermOn a (i + 1) d dj
  rest : ∀ k k', a ≤ k → k < k' → k' < i + 1 → k ≠ j → k' ≠ j → lexL kf (dj k) (dj k')
  after : ∀ k, j < k → k < i + 1 → lexL kf (dj j) (dj k)
  idx : ∀ k, a ≤ k → k < i + 1 → k ≠ j → dj k < dj j
theorem OuterP.inner {kf : Nat → Int} {a b i : Nat} {d dk : Nat → Nat} (h : OuterP kf a b i d dk) (hai : a < i) (hib : i < b) (hup : ∀ k k', a ≤ k → k < k' → k' < b → d k < d k') : InnerP kf a i i d dk := by
  obtain ⟨_, h2, h3⟩ := h.some_ (by omega)
  refine ⟨h2.mono (Nat.le_refl _) (by omega), fun k k' h4 h5 h6 h7 h8 => h3 k k' h4 h5 (by omega), fun k h4 h5 => by omega, fun k h4 h5 h6 => ?_⟩
  rw [h2.out (k := i) (by omega)]
  exact h2.all (Q := fun v => v < d i) (fun k' h7 h8 => hup k' i h7 h8 hib) k h4 (by omega)
theorem InnerP.go {kf : Nat → Int} {a i j : Nat} {d dj : Nat → Nat} (h : InnerP kf a i j d dj) (haj : a < j) (hji : j ≤ i) (hlt : kf (dj j) < kf (dj (j - 1))) : InnerP kf a i (j - 1) d (swpF dj j (j - 1)) := by
  have e1 : swpF dj j (j - 1) j = dj (j - 1) := swpF_left _ _ _
  have e2 : swpF dj j (j - 1) (j - 1) = dj j := swpF_right _ _ _
  refine ⟨h.perm.trans (PermOn.swp dj ⟨by omega, by omega⟩ ⟨by omega, by omega⟩), fun k k' h1 h2 h3 h4 h5 => ?_, fun k h1 h2 => ?_, fun k h1 h2 h3 => ?_⟩
  · by_cases hk : k = j
    · subst hk
      rw [e1, swpF_other dj (by omega) h5]
      exact h.rest _ _ (by omega) (by omega) h3 (by omega) (by omega)
    · by_cases hk' : k' = j
      · subst hk'
        rw [e1, swpF_other dj hk h4]
        exact h.rest _ _ h1 (by omega) (by omega) hk (by omega)
      · rw [swpF_other dj hk h4, swpF_other dj hk' h5]
        exact h.rest _ _ h1 h2 h3 hk hk'
  · rw [e2]
    by_cases hk : k = j
    · subst hk
      rw [e1]
      exact .inl hlt
    · rw [swpF_other dj hk (by omega)]
      exact h.after k (by omega) h2
  · rw [e2]
    by_cases hk : k = j
    · subst hk
      rw [e1]
      exact h.idx _ (by omega) (by omega) (by omega)
    · rw [swpF_other dj hk h3]
      exact h.idx k h1 h2 hk
theorem InnerP.stop {kf : Nat → Int} {a b i j : Nat} {d dj : Nat → Nat} (h : InnerP kf a i j d dj) (haj : a ≤ j) (hji : j ≤ i) (hib : i < b) (hs : j = a ∨ ¬ kf (dj j) < kf (dj (j - 1))) : OuterP kf a b (i + 1) d dj := by
  refine ⟨fun _ => ⟨by omega, h.perm, fun k k' h1 h2 h3 => ?_⟩, fun hn => by omega⟩
  by_cases hk : k = j
  · subst hk
    exact h.after k' h2 h3
  · by_cases hk' : k' = j
    · subst hk'
      rcases hs with hs | hs
      · omega
      · have h4 : lexL kf (dj (k' - 1)) (dj k') := by
          have := h.idx (k' - 1) (by omega) (by omega) (by omega)
          unfold lexL
          omega
        by_cases hk2 : k = k' - 1
        · rw [hk2]; exact h4
        · exact (h.rest k (k' - 1) h1 (by omega) (by omega) (by omega) (by omega)).trans h4
    · exact h.rest k k' h1 h2 h3 hk hk'
theorem OuterP.fin {kf : Nat → Int} {a b i : Nat} {d dk : Nat → Nat} (h : OuterP kf a b i d dk) (hib : ¬ i < b) (hab : a ≤ b) : PermOn a b d dk ∧ SortedOn kf a b dk := by
  by_cases hlt : a < b
  · obtain ⟨h1, h2, h3⟩ := h.some_ hlt
    obtain rfl : i = b := by omega
    exact ⟨h2, h3⟩
  · rw [h.none_ hlt]
    exact ⟨PermOn.refl _ _ _, fun k k' h1 h2 h3 => by omega⟩

end Go.Proofs.YtfahlgjolihmkaaDoor
/- Contract of the library's insertion sort with a comparison, at a row of indexes. -/
namespace Go.Proofs.YtfahlgjolihmkaaDoor
open Go.RowKit Go.Sort

/-- block blk holds the indexes d; all else that lay in w0 lies as it lay -/
structure Row (w0 W : World) (blk n : Nat) (d : Nat → Nat) : Prop where
  grown : w0.grownBy W (some blk)
  lt : blk < w0.heap.size
  cell : ∀ i, i < n → W.cell? ⟨blk, i, none⟩ = some (.int .i64 (d i))
  free : ∀ i, W.frozen? ⟨blk, i, none⟩ = false
theorem Row.ltW {w0 W : World} {blk n : Nat} {d : Nat → Nat} (h : Row w0 W blk n d) : blk < W.heap.size := Nat.lt_of_lt_of_le h.lt h.grown.size
theorem Row.gr {w0 W W' : World} {blk n : Nat} {d : Nat → Nat} (h : Row w0 W blk n d) (hG : Gr W W') : Row w0 W' blk n d :=
  ⟨h.grown.trans (hG.grownBy _), h.lt, fun i hi => (hG.cell (p := ⟨blk, i, none⟩) h.ltW).trans (h.cell i hi), fun i => (hG.frozen (p := ⟨blk, i, none⟩) h.ltW).trans (h.free i)⟩
theorem Row.swap {w0 W : World} {blk n : Nat} {d : Nat → Nat} (h : Row w0 W blk n d) {i j : Nat} (hi : i < n) (hj : j < n) :
    Row w0 ((W.setCell ⟨blk, i, none⟩ (.int .i64 (d j))).setCell ⟨blk, j, none⟩ (.int .i64 (d i))).drew blk n (swpF d i j) := by
  have hci := h.cell i hi
  have hcj := h.cell j hj
  refine ⟨⟨h.grown.os, h.grown.tape, h.grown.output, by simpa [World.setCell] using h.grown.size, fun k hk hne => ?_⟩, h.lt, fun k hk => ?_, fun k => ?_⟩
  · have hne' : k ≠ blk := fun e => hne (by rw [e])
    exact (Below.heap_setCell _ _ _ _ hne').trans ((Below.heap_setCell _ _ _ _ hne').trans (h.grown.block k hk hne))
  · show ((W.setCell ⟨blk, i, none⟩ (.int .i64 (d j))).setCell ⟨blk, j, none⟩ (.int .i64 (d i))).cell? ⟨blk, k, none⟩ = _
    have hx : ∃ u, (W.setCell ⟨blk, i, none⟩ (.int .i64 (d j))).cell? ⟨blk, j, none⟩ = some u := by
      by_cases e : i = j
      · subst e; exact ⟨_, World.cell?_setCell_same _ _ _ hci⟩
      · exact ⟨_, (World.cell?_setCell_other _ _ _ _ (by intro e'; simp only [Addr.mk.injEq] at e'; omega)).trans hcj⟩
    obtain ⟨u, hu⟩ := hx
    by_cases e : k = j
    · subst e
      rw [World.cell?_setCell_same _ _ _ hu, swpF_right]
    · rw [World.cell?_setCell_other _ _ _ _ (by intro e'; simp only [Addr.mk.injEq] at e'; omega)]
      by_cases e2 : k = i
      · subst e2
        rw [World.cell?_setCell_same _ _ _ hci, swpF_left]
      · rw [World.cell?_setCell_other _ _ _ _ (by intro e'; simp only [Addr.mk.injEq] at e'; omega), swpF_other d e2 e]
        exact h.cell k hk
  · show ((W.setCell ⟨blk, i, none⟩ (.int .i64 (d j))).setCell ⟨blk, j, none⟩ (.int .i64 (d i))).frozen? ⟨blk, k, none⟩ = _
    rw [World.frozen?_setCell, World.frozen?_setCell]
    exact h.free k

/-- what is asked of the comparison: wherever the row alone has turned, it says what cmp.Compare says of the keys -/
def CmpOn (w0 : World) (blk n g : Nat) (cb : Array Value) (kf : Nat → Int) : Prop :=
  ∀ (W : World) (i j : Nat), w0.grownBy W (some blk) → i < n → j < n → Calls Tryd.prog g (#[.int .i64 i, .int .i64 j] ++ cb) W fun e w' => e = .returned (.int .i64 (cmpV (kf i) (kf j))) ∧ Gr W w'

def InsPost (w0 : World) (blk n : Nat) (kf : Nat → Int) (a b : Nat) (d : Nat → Nat) (e : Ending) (w' : World) : Prop :=
  e = .returned (.tuple #[]) ∧ ∃ d', Row w0 w' blk n d' ∧ PermOn a b d d' ∧ SortedOn kf a b d'

set_option maxHeartbeats 4000000 in
set_option maxRecDepth 100000 in
theorem insertion_any (g : Nat) (cb : Array Value) (kf : Nat → Int) (w0 w : World) (blk n cap a b : Nat) (d : Nat → Nat) (eg : ∀ args w, (callFunc g args).run Tryd.prog w = .ok (.enter g args) w) (hcmp : CmpOn w0 blk n g cb kf)
    (hR : Row w0 w blk n d) (hn : n ≤ 1000000) (hab : a ≤ b) (hb : b ≤ n) (hup : ∀ k k', a ≤ k → k < k' → k' < b → d k < d k') (hdn : ∀ k, a ≤ k → k < b → d k < n) :
    Calls Tryd.prog 87 #[.slice (some ⟨blk, 0, none⟩) n cap, .int .i64 a, .int .i64 b, .func (.func g) #[] cb] w (InsPost w0 blk n kf a b d) := by
  have mixed := mixedOrders
  have HC := hide hcmp
  have HR := hide hR
  have HU := hide hup
  have HN := hide hdn
  clear hcmp hR hup hdn
  go_enter Tryd.func87, Tryd.ntmps87
  go_wp2
  go_loopw [8] (fun vi wr => ∃ (i : Nat) (dk : Nat → Nat), vi = .int .i64 i ∧ a < i ∧ i ≤ b + 1 ∧ Hid (Row w0 wr blk n dk) ∧ Hid (OuterP kf a b i d dk)) (fun vi _ => b + 1 - (intOf vi).toNat)
  case atStart => exact ⟨a + 1, d, by go_num, by omega, by omega, HR, OuterP.start _ _ _ _⟩
  case round =>
    obtain ⟨i, dk, rfl, hai, hib, R1, O1⟩ := hrel
    by_cases hlt : i < b
    · have hltz : (i : Int) < (b : Int) := by omega
      have HI := hide (O1.out.inner hai hlt HU.out)
      obtain ⟨wo, hwo⟩ : ∃ wo : World, wo = wr := ⟨_, rfl⟩
      subst hwo
      go_wp2
      go_loopw [9] (fun vj wr2 => ∃ (j : Nat) (dj : Nat → Nat), vj = .int .i64 j ∧ a ≤ j ∧ j ≤ i ∧ Hid (Row w0 wr2 blk n dj) ∧ Hid (InnerP kf a i j d dj)) (fun vj _ => (intOf vj).toNat)
      case atStart => exact ⟨i, dk, rfl, by omega, Nat.le_refl _, R1, HI⟩
      case round =>
        obtain ⟨j, dj, rfl, haj, hji, R2, I2⟩ := hrel
        by_cases hja : a < j
        · obtain ⟨jp, rfl⟩ : ∃ q, j = q + 1 := ⟨j - 1, by omega⟩
          have hjd : decide ((jp : Int) + 1 > (a : Int)) = true := decide_eq_true (by omega)
          have hjd2 : decide ((a : Int) < (jp : Int) + 1) = true := decide_eq_true (by omega)
          have hjz : (a : Int) < (jp : Int) + 1 := by omega
          have b1 : (jp : Int) + 1 < (n : Int) := by omega
          have b2 : (jp : Int) < (n : Int) := by omega
          have ea : IntKind.i64.wrap ((jp : Int) + 1) = (jp : Int) + 1 := by rw [IntKind.wrap_i64]; omega
          have l1 := fun q os => cell_grown (n := q) (os := os) (a := ⟨blk, jp + 1, none⟩) R2.out.ltW (R2.out.cell (jp + 1) (by omega))
          have l2 := fun q os => cell_grown (n := q) (os := os) (a := ⟨blk, jp, none⟩) R2.out.ltW (R2.out.cell jp (by omega))
          obtain ⟨x, hx⟩ : ∃ x, x = dj (jp + 1) := ⟨_, rfl⟩
          obtain ⟨y, hy⟩ : ∃ y, y = dj jp := ⟨_, rfl⟩
          have hv := I2.out.perm.all (Q := fun v => v < n) (fun k h1 h2 => HN.out k h1 (by omega))
          have EC : Hid (∀ (q : Nat) (os : Array Obj), Calls Tryd.prog g (#[.int .i64 x, .int .i64 y] ++ cb) (grow (wr.drewN q) os) fun e w'' => e = .returned (.int .i64 (cmpV (kf x) (kf y))) ∧ ∃ p : GrownBy, w'' = grow (wr.drewN p.n) p.os) := fun q os =>
            gr_call (HC.out _ x y (R2.out.gr (grown_gr wr q os)).grown (by rw [hx]; exact hv _ (by omega) (by omega)) (by rw [hy]; exact hv _ (by omega) (by omega)))
          rw [← hx] at l1
          rw [← hy] at l2
          have HX := hide hx
          have HY := hide hy
          clear hx hy hv ea
          by_cases hlt2 : kf x < kf y
          · have hd2 : decide (cmpV (kf x) (kf y) < 0) = true := decide_eq_true (cmpV_neg.2 hlt2)
            go_wp2_with fail
            refine wp_region_quiet_grown (by assumption) (by kernel_rfl) ?_
            repeat (first | go_big_quiet_step ((exact EC.out _ _)) | quiet_step ((exact EC.out _ _)))
            refine wpQuiet_nil ?_
            intro _ hw'
            obtain ⟨⟨nq, osq⟩, hw''⟩ := hw'
            subst hw''
            have R3 := hide (R2.out.gr (grown_gr wr nq osq))
            clear l1 l2 EC
            generalize grow (wr.drewN nq) osq = w2 at R3 ⊢
            clear nq osq
            have m1 := R3.out.cell (jp + 1) (by omega)
            have m2 := R3.out.cell jp (by omega)
            have f1 := R3.out.free (jp + 1)
            have f2 := R3.out.free jp
            rw [← HX.out] at m1
            rw [← HY.out] at m2
            have m3 : (w2.setCell ⟨blk, jp + 1, none⟩ (.int .i64 y)).cell? ⟨blk, jp, none⟩ = some (.int .i64 y) := (World.cell?_setCell_other _ _ _ _ (by intro e'; simp only [Addr.mk.injEq] at e'; omega)).trans m2
            have R4 : Hid (Row w0 ((w2.setCell ⟨blk, jp + 1, none⟩ (.int .i64 y)).setCell ⟨blk, jp, none⟩ (.int .i64 x)).drew blk n (swpF dj (jp + 1) jp)) := by
              have := R3.out.swap (i := jp + 1) (j := jp) (by omega) (by omega)
              rw [HX.out, HY.out]
              exact this
            have I4 := hide (I2.out.go (by omega) hji (by rw [Nat.add_sub_cancel, ← HX.out, ← HY.out]; exact hlt2))
            clear hlt2 R3
            go_wp2_with fail
            go_big_region
            go_wp2
            go_roundw
            case rel => exact ⟨jp, _, rfl, by omega, by omega, R4, I4⟩
            case measure => simp [intOf]
          · have hd2 : decide (cmpV (kf x) (kf y) < 0) = false := decide_eq_false (fun h => hlt2 (cmpV_neg.1 h))
            go_wp2_with fail
            refine wp_region_quiet_grown (by assumption) (by kernel_rfl) ?_
            repeat (first | go_big_quiet_step ((exact EC.out _ _)) | quiet_step ((exact EC.out _ _)))
            refine wpQuiet_nil ?_
            intro _ hw'
            obtain ⟨⟨nq, osq⟩, hw''⟩ := hw'
            subst hw''
            have R3 := hide (R2.out.gr (grown_gr wr nq osq))
            have O3 := hide (I2.out.stop haj hji hlt (.inr (by rw [Nat.add_sub_cancel, ← HX.out, ← HY.out]; omega)))
            clear l1 l2 EC hlt2
            go_wp2
            go_roundw
            case rel => exact ⟨i + 1, dj, by go_num, by omega, by omega, R3, O3⟩
            case measure => simp [intOf]; omega
        · obtain rfl : j = a := by omega
          have hjd : decide ((j : Int) > (j : Int)) = false := by simp
          have hjd2 : decide ((j : Int) < (j : Int)) = false := by simp
          have O3 := hide (I2.out.stop haj hji hlt (.inl rfl))
          go_wp2_with fail
          go_quiet (fail)
          have R3 := hide (R2.out.gr ((Gr.refl _).drewN nq))
          go_wp2
          go_roundw
          case rel => exact ⟨i + 1, dj, by go_num, by omega, by omega, R3, O3⟩
          case measure => simp [intOf]; omega
    · have hltz : ¬ (i : Int) < (b : Int) := by omega
      go_wp2
      go_end0
      have := O1.out.fin hlt hab
      exact ⟨rfl, dk, R1.out, this.1, this.2⟩

end Go.Proofs.YtfahlgjolihmkaaDoor
/- Contract of the stable sort at fewer than twenty indexes. -/
namespace Go.Proofs.YtfahlgjolihmkaaDoor
open Go.RowKit Go.Sort

/-- what the library's stable sort is to do with n indexes in their order -/
def StableSaid (n : Nat) : Prop := ∀ (g : Nat) (cb : Array Value) (kf : Nat → Int) (w0 w : World) (blk cap : Nat), (∀ args w, (callFunc g args).run Tryd.prog w = .ok (.enter g args) w) → CmpOn w0 blk n g cb kf → Row w0 w blk n (fun k => k) →
  Calls Tryd.prog 65 #[.slice (some ⟨blk, 0, none⟩) n cap, .int .i64 n, .func (.func g) #[] cb] w (InsPost w0 blk n kf 0 n (fun k => k))

set_option maxHeartbeats 1000000 in
theorem stable_small (n : Nat) (hn : n < 20) : StableSaid n := by
  intro g cb kf w0 w blk cap eg hcmp hR
  have HI := hide (insertion_any g cb kf w0 w blk n cap 0 n (fun k => k) eg hcmp hR (by omega) (Nat.zero_le _) (Nat.le_refl _) (fun k k' _ h _ => h) (fun k _ h => h))
  clear hcmp hR
  have h1 : ¬ (20 : Int) ≤ (n : Int) := by omega
  have h2 : ¬ (20 : Int) < (n : Int) := by omega
  go_enter Tryd.func65, Tryd.ntmps65
  go_wp2
  go_loop [7, 8] (fun va vb => va = .int .i64 0 ∧ vb = .int .i64 20) (fun _ _ => 0)
  case atStart => exact ⟨rfl, rfl⟩
  case round =>
    obtain ⟨rfl, rfl⟩ := hrel
    go_wp2_with (go_at_call 87; refine HI.out.mono ?_; rintro e w1 ⟨rfl, hp⟩)
    have HP := hide hp
    clear hp
    go_loop [6, 7, 8] (fun vs va vb => vs = .int .i64 20) (fun _ _ _ => 0)
    case atStart => rfl
    case round =>
      obtain rfl := hrel
      go_wp2
      go_end0
      exact ⟨rfl, HP.out⟩

set_option maxHeartbeats 400000 in
theorem sortStable_any (n : Nat) (hs : StableSaid n) (g : Nat) (cb : Array Value) (kf : Nat → Int) (w0 w : World) (blk cap : Nat) (eg : ∀ args w, (callFunc g args).run Tryd.prog w = .ok (.enter g args) w) (hcmp : CmpOn w0 blk n g cb kf) (hR : Row w0 w blk n (fun k => k)) :
    Calls Tryd.prog 52 #[.slice (some ⟨blk, 0, none⟩) n cap, .func (.func g) #[] cb] w (InsPost w0 blk n kf 0 n (fun k => k)) := by
  have HI := hide (hs g cb kf w0 w blk cap eg hcmp hR)
  clear hcmp hR hs
  go_enter Tryd.func52, Tryd.ntmps52
  go_wp2_with (go_at_call 65; refine HI.out.mono ?_; rintro e w1 ⟨rfl, hp⟩)
  go_end0
  exact ⟨rfl, hp⟩

end Go.Proofs.YtfahlgjolihmkaaDoor
/- Plain facts: there is one order of n indexes by a key, equal ones by index. -/
namespace Go.Proofs.YtfahlgjolihmkaaDoor

theorem onto (n : Nat) : ∀ s : Nat → Nat, (∀ k, k < n → s k < n) → (∀ k k', k < n → k' < n → s k = s k' → k = k') → ∀ v, v < n → ∃ k, k < n ∧ s k = v := by
  induction n with
  | zero => intro s _ _ v hv; omega
  | succ n ih =>
    intro s h1 h2 v hv
    have hin : ∀ k, k < n → (if s k = n then s n else s k) < n := by
      intro k hk
      split
      · rename_i h
        have := h1 n (by omega)
        have : s n ≠ n := fun e => by have := h2 k n (by omega) (by omega) (by omega); omega
        omega
      · have := h1 k (by omega)
        omega
    have hinj : ∀ k k', k < n → k' < n → (if s k = n then s n else s k) = (if s k' = n then s n else s k') → k = k' := by
      intro k k' hk hk' he
      split at he
      · rename_i hx
        split at he
        · rename_i hy
          exact h2 k k' (by omega) (by omega) (by omega)
        · have := h2 n k' (by omega) (by omega) he
          omega
      · split at he
        · have := h2 k n (by omega) (by omega) he
          omega
        · exact h2 k k' (by omega) (by omega) he
    have hI := ih (fun k => if s k = n then s n else s k) hin hinj
    by_cases hvn : v = s n
    · exact ⟨n, by omega, hvn.symm⟩
    · by_cases hv2 : v = n
      · have hsn := h1 n (by omega)
        obtain ⟨k, hk, he⟩ := hI (s n) (by omega)
        split at he
        · rename_i h
          exact ⟨k, by omega, by omega⟩
        · have := h2 k n (by omega) (by omega) he
          omega
      · obtain ⟨k, hk, he⟩ := hI v (by omega)
        split at he
        · omega
        · exact ⟨k, by omega, he⟩

/-- d is the order of the n indexes -/
def IsOrd (kf : Nat → Int) (n : Nat) (d : Nat → Nat) : Prop := PermOn 0 n (fun k => k) d ∧ SortedOn kf 0 n d
theorem IsOrd.lt {kf : Nat → Int} {n : Nat} {d : Nat → Nat} (h : IsOrd kf n d) {k : Nat} (hk : k < n) : d k < n :=
  h.1.all (Q := fun v => v < n) (fun _ _ h => h) k (Nat.zero_le _) hk
theorem IsOrd.inj {kf : Nat → Int} {n : Nat} {d : Nat → Nat} (h : IsOrd kf n d) {k k' : Nat} (hk : k < n) (hk' : k' < n) (he : d k = d k') : k = k' := by
  rcases Nat.lt_trichotomy k k' with h1 | h1 | h1
  · have := h.2 k k' (Nat.zero_le _) h1 hk'
    rw [he] at this
    exact this.irrefl.elim
  · exact h1
  · have := h.2 k' k (Nat.zero_le _) h1 hk
    rw [he] at this
    exact this.irrefl.elim
theorem IsOrd.onto {kf : Nat → Int} {n : Nat} {d : Nat → Nat} (h : IsOrd kf n d) {v : Nat} (hv : v < n) : ∃ k, k < n ∧ d k = v :=
  YtfahlgjolihmkaaDoor.onto n d (fun _ hk => h.lt hk) (fun _ _ hk hk' he => h.inj hk hk' he) v hv
theorem IsOrd.unique {kf : Nat → Int} {n : Nat} {d e : Nat → Nat} (h : IsOrd kf n d) (g : IsOrd kf n e) : ∀ k, k < n → d k = e k := by
  intro k
  induction k using Nat.strongRecOn with
  | ind k ih =>
    intro hk
    have key : ∀ {d e : Nat → Nat}, IsOrd kf n d → IsOrd kf n e → (∀ j, j < k → d j = e j) → e k = d k ∨ lexL kf (e k) (d k) := by
      intro d e h g ih
      obtain ⟨j, hj, he⟩ := g.onto (h.lt hk)
      have hjk : k ≤ j := by
        rcases Nat.lt_or_ge j k with h1 | h1
        · have h2 := h.inj (k := j) (k' := k) hj hk ((ih j h1).trans he)
          omega
        · exact h1
      rcases Nat.lt_or_ge k j with h1 | h1
      · have := g.2 k j (Nat.zero_le _) h1 hj
        rw [he] at this
        exact .inr this
      · obtain rfl : j = k := by omega
        exact .inl he
    have ih' : ∀ j, j < k → d j = e j := fun j hj => ih j hj (by omega)
    rcases key h g ih' with h1 | h1
    · exact h1.symm
    · rcases key g h (fun j hj => (ih' j hj).symm) with h2 | h2
      · exact h2
      · exact (h1.trans h2).irrefl.elim

/-- the order of the n indexes by the key kf -/
noncomputable def ordF (kf : Nat → Int) (n : Nat) : Nat → Nat := open Classical in if h : ∃ d, IsOrd kf n d then h.choose else fun k => k
theorem ordF_eq {kf : Nat → Int} {n : Nat} {d : Nat → Nat} (h : IsOrd kf n d) : IsOrd kf n (ordF kf n) ∧ ∀ k, k < n → d k = ordF kf n k := by
  have hx : ∃ d, IsOrd kf n d := ⟨d, h⟩
  have : IsOrd kf n (ordF kf n) := by
    unfold ordF
    rw [dif_pos hx]
    exact hx.choose_spec
  exact ⟨this, h.unique this⟩

end Go.Proofs.YtfahlgjolihmkaaDoor
