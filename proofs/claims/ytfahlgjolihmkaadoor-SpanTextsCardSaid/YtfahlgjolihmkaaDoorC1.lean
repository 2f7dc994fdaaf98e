/- Contracts of counted and of its function: it hands on each span of a set with how many numbers come before it. -/
import Derived.Test.YtfahlgjolihmkaaDoorC0
namespace Go.Proofs.YtfahlgjolihmkaaDoor
open Go.RowKit Go.Sort
attribute [local go_sem] Oper.semAt_some

/-- the first k places of n -/
def ups (n k : Nat) : List (Fin n) := (List.finRange n).take k
theorem ups_zero (n : Nat) : ups n 0 = [] := by simp [ups]
theorem ups_succ {n k : Nat} (h : k < n) : ups n (k + 1) = ups n k ++ [⟨k, h⟩] := by
  unfold ups
  rw [List.take_succ_eq_append_getElem (by simpa using h)]
  simp
theorem ups_length {n k : Nat} (h : k ≤ n) : (ups n k).length = k := by simp [ups, h]
theorem ups_all (n : Nat) : ups n n = List.finRange n := by
  unfold ups
  rw [List.take_of_length_le (by simp)]

/-- how many numbers lie in the first k spans -/
def befA (xs : List Sp) : Nat → Int
  | 0 => 0
  | k + 1 => befA xs k + (hiA xs k - loA xs k)
theorem befA_succ (xs : List Sp) (k : Nat) : befA xs (k + 1) = befA xs k + (hiA xs k - loA xs k) := rfl
theorem befA_le {xs : List Sp} {n : Nat} (h : setTo xs n) (hn : n ≤ 128) : ∀ k, k ≤ n → 0 ≤ befA xs k ∧ befA xs k ≤ k * 2199023255552 := by
  intro k
  induction k with
  | zero => intro _; simp [befA]
  | succ k ih =>
    intro hk
    have h1 := ih (by omega)
    have h2 := setTo_ok h (k := k) (by omega)
    unfold befA
    omega

def encC (xs : List Sp) {n : Nat} (x : Fin n) : Array Value := #[.int .i64 (befA xs x.1), .agg #[.int .i64 (loA xs x.1), .int .i64 (hiA xs x.1)]]

set_option maxRecDepth 100000 in
set_option maxHeartbeats 2000000 in
theorem counted1_in (m : Nat) (hm : 1 ≤ m) (l Ba : Nat) (bs : List Nat) (A : Option Addr) (n cap : Nat) (xs : List Sp) (hs : setTo xs n) (hn : n ≤ 128) (J Jx : List (Fin n) → World → Prop) (W : World)
    (hJ : AbidesFrom W.heap.size J)
    (hY : ∀ pre x W1, J pre W1 → pre.length < n → YieldAt Fence.wide (m - 1) Tryd.prog l (encC xs x) W1 fun e W' =>
      (e = .returned (.bool true) ∧ J (pre ++ [x]) W' ∧ Kept bs W1 W') ∨ (e = .returned (.bool false) ∧ Jx (pre ++ [x]) W'))
    (hbs : ∀ b, b ∈ bs → b < W.heap.size) (hrow : ∀ g, RowOf bs W g → g < W.heap.size)
    (hBa : W.cell? ⟨Ba, 0, none⟩ = some (.slice A n cap)) (B : Nat) (hx : SpansAt B W A n xs) (hB : ∀ k, k < B → k ∉ bs ∧ ¬ RowOf bs W k) (h0 : J [] W) :
    CallsIn Fence.wide m Tryd.prog 49 #[.func (.yield l) #[] #[], .pointer (some ⟨Ba, 0, none⟩)] W fun e W' => (∃ v, e = .returned v) ∧
      ((∃ ys, ys = ups n n ∧ J ys W') ∨ (∃ pre, (∃ k, k < n ∧ pre = ups n (k + 1)) ∧ Jx pre W')) := by
  have HX := hide hx
  have HS := hide hs
  have HB := hide hB
  have HR := hide hrow
  have HBS := hide hbs
  have HLE := hide (befA_le hs hn)
  clear hx hs hB hrow hbs
  refine callsIn_of_wp Tryd.func49 rfl trivial ?_ rfl
  simp only [Tryd.ntmps49, List.size_toArray, List.length_cons, List.length_nil, Nat.reduceAdd, Nat.reduceSub, Array.replicate_succ, Array.replicate_zero, List.push_toArray, List.append_toArray, List.nil_append, List.cons_append]
  gi_wp2
  gi_loopw [3, 8] (fun b i wr => ∃ k : Nat, k ≤ n ∧ i = .int .i64 k ∧ b = .int .i64 (befA xs k) ∧ J (ups n k) wr ∧ Kept bs W wr)
    (fun b i _ => n - (intOf i).toNat)
  case atStart => exact ⟨0, Nat.zero_le _, rfl, rfl, by rw [ups_zero]; exact h0, Kept.refl _ _⟩
  case round =>
    obtain ⟨k, hk, rfl, rfl, hJs, hK⟩ := hrel
    by_cases hlt : k < n
    · obtain ⟨b, off, rfl, hb, c0, c1⟩ := HX.out.at_ hlt
      have hlt' : (k : Int) < (n : Int) := by omega
      have d0 := hK.cell c0 (HB.out b hb).1 (HB.out b hb).2
      have d1 := hK.cell c1 (HB.out b hb).1 (HB.out b hb).2
      obtain ⟨o1, o2, o3⟩ := setTo_ok HS.out hlt
      obtain ⟨q1, q2⟩ := HLE.out k (by omega)
      have hB2 : ∀ b, b ∈ bs → b < wr.heap.size := fun b hb => Nat.lt_of_lt_of_le (HBS.out b hb) hK.size
      have hR2 : ∀ g, RowOf bs wr g → g < wr.heap.size := hK.bound HR.out
      have hKa := (Kept.refl bs wr).alloc hB2 (.cells #[.int .i64 (loA xs k), .int .i64 (hiA xs k)] 41)
      have hJa := hJ _ _ (wr.alloc (.cells #[.int .i64 (loA xs k), .int .i64 (hiA xs k)] 41)) none hJs (World.grownBy_alloc wr _ none) (by simp)
      obtain ⟨fn, tmps, assign, body, hy, hR⟩ := hY _ ⟨k, hlt⟩ _ hJa (by rw [ups_length hk]; exact hlt)
      dsimp only [encC] at hy
      have hnr : wr.heap.size ∉ bs ∧ ¬ RowOf bs (wr.alloc (.cells #[.int .i64 (loA xs k), .int .i64 (hiA xs k)] 41)) wr.heap.size :=
        ⟨fun h => by have := hB2 _ h; omega, fun h => by
          rcases hKa.rows _ h with h1 | h1
          · have := hR2 _ h1; omega
          · have := hR2 wr.heap.size (h.congr (fun b hb => (World.cell?_alloc_lt wr _ ⟨b, 0, none⟩ (hB2 b hb)).symm ▸ rfl)); omega⟩
      have HNR := hide hnr
      have HKA := hide (hK.trans hKa)
      have HRR := hide hR
      clear c0 c1 hB2 hR2 hKa hJa hnr hJs hK hR
      gi_wp2
      refine HRR.out.mono ?_
      rintro e W3 (⟨rfl, hJ3, hk3⟩ | ⟨rfl, hJx3⟩)
      · have f0 := hk3.cell (b := wr.heap.size) (off := 0) (v := .int .i64 (loA xs k)) (by simp) HNR.out.1 HNR.out.2
        have f1 := hk3.cell (b := wr.heap.size) (off := 1) (v := .int .i64 (hiA xs k)) (by simp) HNR.out.1 HNR.out.2
        have HJ3 := hide hJ3
        have HK3 := hide hk3
        clear hJ3 hk3
        gi_wp2
        go_roundw
        case rel => exact ⟨k + 1, by omega, by go_num, by rw [befA_succ], by rw [ups_succ hlt]; exact HJ3.out, HKA.out.trans HK3.out⟩
        case measure => simp [intOf]; omega
      · gi_wp2
        refine bodyPost_ret (results_none rfl _ _ _) rfl ?_
        exact ⟨⟨_, rfl⟩, .inr ⟨_, ⟨k, hlt, (ups_succ hlt).symm⟩, hJx3⟩⟩
    · obtain rfl : k = n := by omega
      gi_wp2
      go_end0
      exact ⟨⟨_, rfl⟩, .inl ⟨_, rfl, hJs⟩⟩


theorem counted_any (A : Option Addr) (n cap : Nat) (w : World) :
    Calls Tryd.prog 33 #[.slice A n cap] w fun e w' => e = .returned (.func (.func 49) #[] #[.pointer (some ⟨w.heap.size, 0, none⟩)]) ∧ w.alloc (.cells #[.slice A n cap] 22) = w' := by
  go_enter Tryd.func33, Tryd.ntmps33
  go_wp2
  go_ret
  exact ⟨rfl, rfl⟩

theorem counted_stops (m : Nat) (hm : 1 ≤ m) (Ba : Nat) (bs : List Nat) (A : Option Addr) (n cap : Nat) (xs : List Sp) (hs : setTo xs n) (hn : n ≤ 128) (w : World)
    (hbs : ∀ b, b ∈ bs → b < w.heap.size) (hrow : ∀ g, RowOf bs w g → g < w.heap.size)
    (hBa : w.cell? ⟨Ba, 0, none⟩ = some (.slice A n cap)) (hBl : Ba < w.heap.size) (B : Nat) (hBw : B ≤ w.heap.size) (hx : SpansAt B w A n xs) (hB : ∀ k, k < B → k ∉ bs ∧ ¬ RowOf bs w k) :
    SeqStopsK Fence.wide m Tryd.prog 49 #[.pointer (some ⟨Ba, 0, none⟩)] (encC xs) (Kept bs) (fun ys => ys = ups n n) (fun pre => ∃ k, k < n ∧ pre = ups n (k + 1)) n w := fun l J Jx W hW hJ _ hY h0 => by
  have hbox : ∀ b, b ∈ bs → W.cell? ⟨b, 0, none⟩ = w.cell? ⟨b, 0, none⟩ := fun b hb => hW.cell (p := ⟨b, 0, none⟩) (hbs b hb)
  exact counted1_in m hm l Ba bs A n cap xs hs hn J Jx W hJ hY (fun b hb => Nat.lt_of_lt_of_le (hbs b hb) hW.size) (fun g hg => Nat.lt_of_lt_of_le (hrow g (hg.congr hbox)) hW.size)
    ((hW.cell (p := ⟨Ba, 0, none⟩) hBl).trans hBa) B (hx.below (hW.mono hBw)) (fun k hk => ⟨(hB k hk).1, fun h => (hB k hk).2 (h.congr hbox)⟩) h0

end Go.Proofs.YtfahlgjolihmkaaDoor
