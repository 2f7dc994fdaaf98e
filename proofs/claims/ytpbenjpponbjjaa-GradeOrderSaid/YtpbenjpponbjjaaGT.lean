/- Level. -/
import Derived.Test.YtpbenjpponbjjaaGS
namespace Go.Proofs.Ytpbenjpponbjjaa
open Go.RowKit Go.Sort Go.BigFrame
theorem clS_ok {l : List Qt} (hl : ∀ i, i < l.length → 0 ≤ (qA l i).2.1 ∧ (qA l i).2.1 ≤ 1073741824) {i j : Nat} (hi : i < l.length) (hj : j < l.length) {s : Int × Int × Int} (h : 0 ≤ s.2.2 ∧ s.2.2 ≤ 1073741824) : 0 ≤ (clS l i s j).2.2 ∧ (clS l i s j).2.2 ≤ 1073741824 := by
  unfold clS
  split
  · rename_i hc
    rw [Bool.and_eq_true] at hc
    have h1 := of_decide_eq_true hc.1
    have h2 := hl i hi
    have h3 := hl j hj
    dsimp only
    omega
  · exact h
theorem clIn_ok {l : List Qt} (hl : ∀ i, i < l.length → 0 ≤ (qA l i).2.1 ∧ (qA l i).2.1 ≤ 1073741824) {i : Nat} (hi : i < l.length) {s : Int × Int × Int} (h : 0 ≤ s.2.2 ∧ s.2.2 ≤ 1073741824) : ∀ k, k ≤ l.length → 0 ≤ (clIn l i k s).2.2 ∧ (clIn l i k s).2.2 ≤ 1073741824
  | 0, _ => h
  | k + 1, hk => by rw [clIn_succ]; exact clS_ok hl hi (by omega) (clIn_ok hl hi h k (by omega))
theorem clOut_ok {l : List Qt} (hl : ∀ i, i < l.length → 0 ≤ (qA l i).2.1 ∧ (qA l i).2.1 ≤ 1073741824) : ∀ k, k ≤ l.length → 0 ≤ (clOut l k).2.2 ∧ (clOut l k).2.2 ≤ 1073741824
  | 0, _ => ⟨Int.le_refl _, (by decide : (0 : Int) ≤ 1073741824)⟩
  | k + 1, hk => by rw [clOut_succ]; exact clIn_ok hl (by omega) (clOut_ok hl k (by omega)) _ (Nat.le_refl _)
theorem topP_ok {l : List Qt} (hl : ∀ o ∈ l, 0 ≤ o.2.1 ∧ o.2.1 ≤ 1073741824) (f : Int → Bool) : 0 ≤ topP l f ∧ topP l f ≤ 1073741824 := by
  unfold topP
  suffices h : ∀ (l : List Qt) (m : Int), (∀ o ∈ l, 0 ≤ o.2.1 ∧ o.2.1 ≤ 1073741824) → 0 ≤ m ∧ m ≤ 1073741824 → 0 ≤ l.foldl (fun m q => if f q.2.1 then max m q.2.1 else m) m ∧ l.foldl (fun m q => if f q.2.1 then max m q.2.1 else m) m ≤ 1073741824 from h l 0 hl (by decide)
  intro l
  induction l with
  | nil => intro m _ h; exact h
  | cons q l ih =>
    intro m hq h
    rw [List.foldl_cons]
    refine ih _ (fun o ho => hq o (by simp [ho])) ?_
    have := hq q (by simp)
    split <;> omega
def strainQ (l : List Qt) : Int := ((clG l).2.2 + 1) / 2
def suitsQ (l : List Qt) (i : Nat) (p : Int) : Bool := l.any (suitP (qA l i).1 p)
def levelF (l : List Qt) (i : Nat) : Int := max 0 (topP l (suitsQ l i) - strainQ l)
def mixF (k : Nat) (G F : Nat → Int) (i : Nat) : Int := if i < k then G i else F i
theorem fitV_mix (n : Nat) (G F : Nat → Int) (k : Nat) : (fitV n (mixF k G F)).setIfInBounds k (.int .i64 (G k)) = fitV n (mixF (k + 1) G F) := by
  apply Array.ext_getElem?
  intro i
  unfold fitV mixF
  rw [Array.getElem?_setIfInBounds]
  by_cases h : k = i
  · subst h
    by_cases hn : k < n
    · simp [hn]
    · simp [hn]
  · rw [if_neg h]
    by_cases hn : i < n
    · simp only [List.getElem?_toArray, List.getElem?_map, List.getElem?_range hn, Option.map_some]
      congr 2
      by_cases h1 : i < k
      · rw [if_pos h1, if_pos (by omega)]
      · rw [if_neg h1, if_neg (by omega)]
    · simp [hn]
theorem fitV_mix0 (n : Nat) (G F : Nat → Int) : fitV n (mixF 0 G F) = fitV n F := rfl
theorem fitV_mixn (n : Nat) (G F : Nat → Int) : fitV n (mixF n G F) = fitV n G := by
  unfold fitV
  congr 1
  apply List.map_congr_left
  intro i hi
  unfold mixF
  rw [if_pos (List.mem_range.1 hi)]
structure LvI (w2 : World) (B f n : Nat) (F : Nat → Int) (wr : World) : Prop where
  row : wr.heap[f]? = some (.cells (fitV n F) 3 (0, 0))
  below : Below B w2 wr
  size : f < wr.heap.size
theorem LvI.cell {w2 : World} {B f n : Nat} {F : Nat → Int} {wr : World} (h : LvI w2 B f n F wr) {i : Nat} (hi : i < n) : wr.cell? ⟨f, i, none⟩ = some (.int .i64 (F i)) ∧ wr.frozen? ⟨f, i, none⟩ = false := by
  have h1 := h.row
  constructor
  · simp only [World.cell?, h1]
    exact fitV_get n _ hi
  · simp [World.frozen?, h1]
theorem LvI.set {w2 : World} {B f n k : Nat} {G F : Nat → Int} {wr : World} (h : LvI w2 B f n (mixF k G F) wr) (hB : B ≤ f) : LvI w2 B f n (mixF (k + 1) G F) (wr.setCell ⟨f, k, none⟩ (.int .i64 (G k))) := by
  have h1 := h.row
  refine ⟨?_, ?_, ?_⟩
  · rw [setCell_eq_setRow wr f k _ _ _ _ h1, setRow_heap wr f _ _ _ _ h1, fitV_mix]
  · rw [setCell_eq_setRow wr f k _ _ _ _ h1]
    exact h.below.grown ⟨rfl, rfl, rfl, by simp [World.setRow], fun j hj hne => setRow_other _ _ _ _ (fun e => hne (by rw [e]))⟩ (Nat.le_trans hB (Nat.le_of_lt h.size)) (fun j e => by injection e with e; omega)
  · rw [setCell_eq_setRow wr f k _ _ _ _ h1]
    simpa [World.setRow] using h.size
set_option maxHeartbeats 4000000 in
theorem Level_any (A : Option Addr) (n c : Nat) (l : List Qt) (w : World) (hx : QtAt w.heap.size w A n l) (hn : n ≤ 1000000) :
    Calls Try.prog 33 #[.slice A n c] w fun e w' => Below w.heap.size w w' ∧
      ((checkQ l = 0 ∧ ∃ f, e = .returned (.tuple #[.slice (some ⟨f, 0, none⟩) n n, .int .i64 (strainQ l), .int .i64 0]) ∧ w.heap.size ≤ f ∧ w'.heap[f]? = some (.cells (fitV n (levelF l)) 3 (0, 0))) ∨
      (checkQ l ≠ 0 ∧ e = .returned (.tuple #[.slice none 0 0, .int .i64 0, .int .i64 (checkQ l)]))) := by
  have mixed := mixedOrders
  obtain ⟨p, hp⟩ : ∃ p, w.heap.size = p := ⟨_, rfl⟩
  obtain ⟨W1, hW1⟩ : ∃ W1, w.alloc (.cells #[.slice A n c] 36) = W1 := ⟨_, rfl⟩
  have hb1 : Below w.heap.size w W1 := by rw [← hW1]; exact (Below.refl _ _).alloc (Nat.le_refl _) _
  have e1 : W1.heap[p]? = some (.cells #[.slice A n c] 36 (0, 0)) := by rw [← hW1, ← hp]; exact heap_alloc_new _ _
  have hx1 := hx.now hb1 (Nat.le_refl _)
  have HCK := hide (checkQuotes_any A n c l W1 hx1 hn)
  have HBX := hide (fun w2 (h : Below W1.heap.size W1 w2) => box1 ((h.block p (lt_of_heap e1)).trans e1))
  have HLT := hide (fun w2 (h : Below W1.heap.size W1 w2) => Nat.lt_of_lt_of_le (lt_of_heap e1) h.size)
  have c1 := box1 e1
  have HX1 := hide hx1
  have HB1 := hide hb1
  have HLEN := hide hx.len
  have HN := hide hn
  obtain ⟨ck, hck⟩ : ∃ ck, checkQ l = ck := ⟨_, rfl⟩
  rw [hck] at HCK ⊢
  have HCQ := hide hck
  clear hb1 e1 hx1 hx hn hck
  go_enter Try.func33, Try.ntmps33
  go_wp2_with fail
  refine HCK.out.mono ?_
  rintro e w2 ⟨rfl, hb2⟩
  have c2 := HBX.out w2 hb2
  have HB2 := hide hb2
  clear hb2 c1 hW1 hp HCK
  by_cases h0 : ck = 0
  · subst h0
    have hchk : 24 < l.length ∨ ¬ 24 < l.length := by omega
    have h24 : l.length ≤ 24 ∧ l.all okQ = true := by
      have h := HCQ.out
      unfold checkQ at h
      split at h
      · cases h
      · refine ⟨by omega, ?_⟩
        split at h
        · assumption
        · cases h
    have hl : ∀ o ∈ l, 0 ≤ o.2.1 ∧ o.2.1 ≤ 1073741824 := fun o ho => by
      have h := List.all_eq_true.1 h24.2 o ho
      unfold okQ at h
      simp only [Bool.and_eq_true, decide_eq_true_eq] at h
      exact ⟨h.2.1, h.2.2.1⟩
    have hli : ∀ i, i < l.length → 0 ≤ (qA l i).2.1 ∧ (qA l i).2.1 ≤ 1073741824 := fun i hi => hl _ (qA_mem hi)
    have hn24 : n ≤ 24 := by have := HLEN.out; omega
    have HCL := hide (clash_any A n c l w2 (HX1.out.now HB2.out (Nat.le_refl _)) HN.out (fun i hi => hli i (by have := HLEN.out; omega)))
    have HCLO := hide (clOut_ok hli l.length (Nat.le_refl _))
    have HL := hide hl
    clear hchk h24 hl hli
    go_wp2_with fail
    refine HCL.out.mono ?_
    rintro e w3 ⟨rfl, hb3⟩
    have HB3 := hide (bel_next HB2.out hb3)
    have c3 := HBX.out w3 HB3.out
    clear hb3 HCL c2 HB2
    have hm : 0 ≤ (clG l).2.2 ∧ (clG l).2.2 ≤ 1073741824 := HCLO.out
    have HST : Hid (strainQ l = ((clG l).2.2 + 1) / 2) := rfl
    obtain ⟨m, hmm⟩ : ∃ m, (clG l).2.2 = m := ⟨_, rfl⟩
    rw [hmm] at hm HST ⊢
    have HH := hide (highest_any 67 (.pointer (some ⟨p, 0, none⟩)) A n c l w3 (HX1.out.now HB3.out (Nat.le_refl _)) (by omega) HL.out (suitsQ l) ent67 (fun i hi q w4 h4 => levelC_any A n c l p i q w4 (HX1.out.now (bel_next HB3.out h4) (Nat.le_refl _)) HN.out hi (HBX.out w4 (bel_next HB3.out h4)) (HLT.out w4 (bel_next HB3.out h4))))
    clear hmm
    go_wp2_with fail
    refine HH.out.mono ?_
    rintro e w4 ⟨f, rfl, hf, hrow, hb4⟩
    have HB4 := hide (bel_next HB1.out (bel_next HB3.out hb4))
    have hbf : w.heap.size ≤ f := by have := HB1.out.size; have := HB3.out.size; omega
    have HF : Hid (w.heap.size ≤ f) := hbf
    have HI0 : Hid (LvI w w.heap.size f n (mixF 0 (levelF l) (fun i => topP l (suitsQ l i))) w4) := ⟨by rw [fitV_mix0]; exact hrow, HB4.out, lt_of_heap hrow⟩
    have HTOP := hide (fun i => topP_ok HL.out (suitsQ l i))
    have hw1 : wrap64 (m + 1) = m + 1 := IntWalk.wrap64_in _ ⟨by omega, by omega⟩
    have hw2 : Int.tdiv (m + 1) 2 = (m + 1) / 2 := Int.tdiv_eq_ediv_of_nonneg (by omega)
    have hnn : n ≤ 24 := hn24
    have HS0 : Hid (0 ≤ (m + 1) / 2 ∧ (m + 1) / 2 ≤ 1073741824) := by show _ ∧ _; omega
    clear hf hrow hb4 hbf HH hm
    go_wp2_with fail
    obtain ⟨st, hst⟩ : ∃ st, (m + 1) / 2 = st := ⟨_, rfl⟩
    rw [hst] at HST HS0 ⊢
    clear hst hw1 hw2
    go_loopw [32] (fun vi wr => ∃ k : Nat, vi = .int .i64 k ∧ k ≤ n ∧ Hid (LvI w w.heap.size f n (mixF k (levelF l) (fun i => topP l (suitsQ l i))) wr)) (fun vi _ => n - (intOf vi).toNat)
    case atStart => exact ⟨0, rfl, Nat.zero_le _, HI0⟩
    case round =>
      obtain ⟨k, rfl, hk, HI⟩ := hrel
      by_cases hlt : k < n
      · have hlt' : (k : Int) < (n : Int) := by omega
        obtain ⟨d1, d2⟩ := HI.out.cell hlt
        have hm0 : mixF k (levelF l) (fun i => topP l (suitsQ l i)) k = topP l (suitsQ l k) := by unfold mixF; rw [if_neg (Nat.lt_irrefl _)]
        rw [hm0] at d1
        have ht := HTOP.out k
        have hs := HS0.out
        have HS1 := hide (HI.out.set HF.out)
        have HLV : Hid (levelF l k = max 0 (topP l (suitsQ l k) - st)) := by show levelF l k = _; unfold levelF; rw [HST.out]
        obtain ⟨tp, htp⟩ : ∃ tp, topP l (suitsQ l k) = tp := ⟨_, rfl⟩
        rw [htp] at d1 ht HLV
        have hw : wrap64 (tp - st) = tp - st := IntWalk.wrap64_in _ ⟨by omega, by omega⟩
        rw [HLV.out] at HS1
        have HQ := hide (show k + 1 ≤ n by omega)
        clear hm0 ht hs htp HLV hk
        go_wp2_with fail
        go_roundw
        case rel => exact ⟨k + 1, by go_num, HQ.out, HS1⟩
        case measure => have := HQ.out; simp [intOf]; omega
      · obtain rfl : k = n := by omega
        have hd : ¬ (k : Int) < (k : Int) := by omega
        have HR : Hid (wr.heap[f]? = some (.cells (fitV k (levelF l)) 3 (0, 0))) := by show _ = _; rw [HI.out.row, fitV_mixn]
        clear hk hlt
        go_wp2_with fail
        go_ret3
        exact ⟨HI.out.below, f, by rw [HST.out]; rfl, HF.out, HR.out⟩
  · have h1 : (ck != 0) = true := bne_iff_ne.2 h0
    have h2 : (ck == 0) = false := beq_eq_false_iff_ne.2 h0
    have HB3 := hide (bel_next HB1.out HB2.out)
    have H0 := hide h0
    clear h0
    go_wp2_with fail
    go_ret3
    exact ⟨HB3.out, .inr ⟨H0.out, rfl⟩⟩
end Go.Proofs.Ytpbenjpponbjjaa
