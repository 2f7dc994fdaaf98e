/- The function over which combine ranges: the pieces of the whole. -/
import Derived.Test.YtfahlgjolihmkaaDoorN6
import Derived.Sort.LoopGhostIn
namespace Go.Proofs.YtfahlgjolihmkaaDoor
open Go.RowKit Go.Sort
attribute [local go_sem] Oper.semAt_some

/-- what the j-th round is handed -/
def encP (xs ys : List Sp) (L : List Int) (x : Fin L.length) : Array Value :=
  #[.agg #[.int .i64 (iA L x.1), .int .i64 (pieceE xs ys (iA L x.1)), .bool (inB xs (iA L x.1)), .bool (inB ys (iA L x.1))]]

theorem pieces_any (A A' : Option Addr) (n cap m cap' : Nat) (w : World) :
    Calls Tryd.prog 48 #[.slice A n cap, .slice A' m cap'] w fun e w' => e = .returned (.func (.func 62) #[] #[.pointer (some ⟨w.heap.size, 0, none⟩), .pointer (some ⟨w.heap.size + 1, 0, none⟩)]) ∧
      (w.alloc (.cells #[.slice A n cap] 22)).alloc (.cells #[.slice A' m cap'] 22) = w' := by
  go_enter Tryd.func48, Tryd.ntmps48
  go_wp2
  go_ret
  exact ⟨rfl, rfl⟩

set_option maxRecDepth 100000 in
set_option maxHeartbeats 4000000 in
theorem pieces1_in (mm : Nat) (hm : 1 ≤ mm) (l Ba Bb : Nat) (bs : List Nat) (A A' : Option Addr) (n cap m cap' : Nat) (xs ys : List Sp) (hsx : setTo xs n) (hsy : setTo ys m) (hn : n ≤ 1000) (hm2 : m ≤ 1000) (L : List Int) (hL : L = pcL xs ys) (J Jx : List (Fin L.length) → World → Prop) (W : World)
    (hJ : Abides W.heap.size bs J)
    (hY : ∀ pre x W1, J pre W1 → pre.length < L.length → YieldAt Fence.wide (mm - 1) Tryd.prog l (encP xs ys L x) W1 fun e W' =>
      (e = .returned (.bool true) ∧ J (pre ++ [x]) W' ∧ Kept bs W1 W') ∨ (e = .returned (.bool false) ∧ Jx (pre ++ [x]) W'))
    (hbs : ∀ b, b ∈ bs → b < W.heap.size) (hrow : ∀ g, RowOf bs W g → g < W.heap.size)
    (hBa : W.cell? ⟨Ba, 0, none⟩ = some (.slice A n cap)) (hBa2 : Ba ∉ bs ∧ ¬ RowOf bs W Ba) (hBal : Ba < W.heap.size)
    (hBb : W.cell? ⟨Bb, 0, none⟩ = some (.slice A' m cap')) (hBb2 : Bb ∉ bs ∧ ¬ RowOf bs W Bb) (hBbl : Bb < W.heap.size)
    (B : Nat) (hBW : B ≤ W.heap.size) (hx : SpansAt B W A n xs) (hy : SpansAt B W A' m ys) (hB : ∀ k, k < B → k ∉ bs ∧ ¬ RowOf bs W k) (h0 : J [] W) :
    CallsIn Fence.wide mm Tryd.prog 62 #[.func (.yield l) #[] #[], .pointer (some ⟨Ba, 0, none⟩), .pointer (some ⟨Bb, 0, none⟩)] W fun e W' => (∃ v, e = .returned v) ∧
      ((∃ zs, zs = ups L.length L.length ∧ J zs W') ∨ (∃ pre, (∃ k, k < L.length ∧ pre = ups L.length (k + 1)) ∧ Jx pre W')) := by
  have HX := hide hx
  have HY := hide hy
  have HB := hide hB
  have HR := hide hrow
  have HBS := hide hbs
  have HBA := hide hBa
  have HBB := hide hBb
  have HSX := hide hsx
  have HSY := hide hsy
  have HL := hide hL
  clear hx hy hB hrow hbs hBa hBb hsx hsy hL
  refine callsIn_of_wp Tryd.func62 rfl trivial ?_ rfl
  simp only [Tryd.ntmps62, List.size_toArray, List.length_cons, List.length_nil, Nat.reduceAdd, Nat.reduceSub, Array.replicate_succ, Array.replicate_zero, List.push_toArray, List.append_toArray, List.nil_append, List.cons_append]
  gi_wp2
  gi_loopg [4] (ahead xs ys (-1099511627776)) (fun f p wr => ∃ (j : Nat) (x : Int), p = .int .i64 x ∧ j ≤ L.length ∧ Hid (L.drop j = pcF xs ys f x ∧ ahead xs ys x ≤ f) ∧ -1099511627776 ≤ x ∧ x ≤ 1099511627776 ∧ Hid (J (ups L.length j) wr) ∧ Hid (Kept bs W wr))
  case atStart => exact ⟨0, -1099511627776, rfl, Nat.zero_le _, ⟨by rw [List.drop_zero]; exact HL.out, Nat.le_refl _⟩, by decide, by decide, (by show J (ups L.length 0) W; rw [ups_zero]; exact h0), Kept.refl _ _⟩
  case round =>
    obtain ⟨j, x, rfl, hj, HF, hx1, hx2, HJ, HK⟩ := hrel
    have da := HK.out.cell HBA.out hBa2.1 hBa2.2
    have db := HK.out.cell HBB.out hBb2.1 hBb2.2
    by_cases hlt : x < 1099511627776
    · have hd : decide (x < 1099511627776) = true := decide_eq_true hlt
      obtain ⟨f', hf', hrun, hah⟩ := pcF_step hlt HF.out.2
      obtain ⟨hjl, hget, hdrop⟩ := drop_cons_of (0 : Int) (HF.out.1.trans hrun)
      have HGET : Hid (iA L j = x) := hget
      have HD := hide hdrop
      have HAH := hide hah
      have HFF := hide hf'
      have HSa := hide (stretch_any A n cap x xs wr ((HX.out.kept HK.out HB.out).mono (Nat.le_trans hBW HK.out.size)) HSX.out (by omega))
      have hBal2 : Ba < wr.heap.size := Nat.lt_of_lt_of_le hBal HK.out.size
      have hBbl2 : Bb < wr.heap.size := Nat.lt_of_lt_of_le hBbl HK.out.size
      have hpe : pieceE xs ys x = min (strE xs x) (strE ys x) := rfl
      have hpn := (pieceE_next (xs := xs) (ys := ys) hlt).1
      have HPN := hide hpn
      have HNX : Hid (pieceE xs ys x ≤ 1099511627776) := by
        have h1 := (setTo_canon (xs := xs) (by rw [HX.out.1]; exact HSX.out)).2
        rcases (strE_end xs x hlt).2 with e | ⟨s, hs, e | e⟩
        · show min _ _ ≤ _; omega
        · have := okB_true (h1 s hs); show min _ _ ≤ _; omega
        · have := okB_true (h1 s hs); show min _ _ ≤ _; omega
      clear hrun hdrop hget hf' hah hpn
      gi_wp2_with fail
      refine ⟨trivial, ?_⟩
      refine (callsIn_wide (n := mm - 1).2 HSa.out).mono ?_
      rintro e w1 ⟨rfl, hG⟩
      have HG1 := hide hG
      have db1 := (hG.cell (p := ⟨Bb, 0, none⟩) hBbl2).trans db
      clear hG HSa da db
      have HSb := hide (stretch_any A' m cap' x ys w1 (((HY.out.kept HK.out HB.out).mono (Nat.le_trans hBW HK.out.size)).gr HG1.out) HSY.out (by omega))
      gi_wp2_with fail
      refine ⟨trivial, ?_⟩
      refine (callsIn_wide (n := mm - 1).2 HSb.out).mono ?_
      rintro e w2 ⟨rfl, hG⟩
      have HG2 := hide (HG1.out.trans hG)
      clear hG HSb HG1 db1
      have hKb : Kept bs wr w2 := Kept.of_below HG2.out.below (fun b hb => Nat.lt_of_lt_of_le (HBS.out b hb) HK.out.size)
      have HK2 := hide (HK.out.trans hKb)
      have HJ2 := hide (hJ _ _ w2 HJ.out (Turn.of_below _ _ HG2.out.below))
      obtain ⟨fn, tmps, assign, body, hy, hR⟩ := hY _ ⟨j, hjl⟩ _ HJ2.out (by rw [ups_length hj]; exact hjl)
      have he : encP xs ys L ⟨j, hjl⟩ = #[.agg #[.int .i64 x, .int .i64 (pieceE xs ys x), .bool (inB xs x), .bool (inB ys x)]] := by simp only [encP, HGET.out]
      rw [he] at hy
      have m1 : (if strE ys x < strE xs x then strE ys x else strE xs x) = pieceE xs ys x := by rw [hpe]; omega
      have HRR := hide hR
      clear he hR hKb HK HJ HG2 HGET hpe hBal2 hBbl2
      generalize pieceE xs ys x = nx at hy m1 HD HAH HPN HNX
      generalize strE xs x = u1 at m1 ⊢
      generalize strE ys x = u2 at m1 ⊢
      generalize inB xs x = p1 at hy ⊢
      generalize inB ys x = p2 at hy ⊢
      gi_wp2_with fail
      refine HRR.out.mono ?_
      rintro e W3 (⟨rfl, hJ3, hk3⟩ | ⟨rfl, hJx3⟩)
      · have J3 : Hid (J (ups L.length (j + 1)) W3) := by show J (ups L.length (j + 1)) W3; rw [ups_succ hjl]; exact hJ3
        have K3 := hide (HK2.out.trans hk3)
        have hle : nx ≤ 1099511627776 := by
          have h1 := HNX.out
          exact h1
        clear hJ3 hk3 hy m1
        gi_wp2
        go_roundg f'
        case measure => have := HFF.out; omega
        case rel => exact ⟨j + 1, nx, rfl, by omega, ⟨HD.out, HAH.out⟩, by have := HPN.out; omega, hle, J3, K3⟩
      · gi_wp2
        refine bodyPost_ret (results_none rfl _ _ _) rfl ?_
        exact ⟨⟨_, rfl⟩, .inr ⟨_, ⟨j, hjl, (ups_succ hjl).symm⟩, hJx3⟩⟩
    · have hd : decide (x < 1099511627776) = false := decide_eq_false hlt
      have hje : j = L.length := by
        have := HF.out.1
        rw [pcF_end hlt] at this
        have := List.drop_eq_nil_iff.1 this
        omega
      subst hje
      gi_wp2
      go_end0
      exact ⟨⟨_, rfl⟩, .inl HJ.out⟩

theorem pieces_seq (mm : Nat) (hm : 1 ≤ mm) (Ba Bb : Nat) (bs : List Nat) (A A' : Option Addr) (n cap m cap' : Nat) (xs ys : List Sp) (hsx : setTo xs n) (hsy : setTo ys m) (hn : n ≤ 1000) (hm2 : m ≤ 1000) (L : List Int) (hL : L = pcL xs ys) (w : World)
    (hbs : ∀ b, b ∈ bs → b < w.heap.size) (hrow : ∀ g, RowOf bs w g → g < w.heap.size)
    (hBa : w.cell? ⟨Ba, 0, none⟩ = some (.slice A n cap)) (hBa2 : Ba ∉ bs ∧ ¬ RowOf bs w Ba) (hBal : Ba < w.heap.size)
    (hBb : w.cell? ⟨Bb, 0, none⟩ = some (.slice A' m cap')) (hBb2 : Bb ∉ bs ∧ ¬ RowOf bs w Bb) (hBbl : Bb < w.heap.size)
    (B : Nat) (hBW : B ≤ w.heap.size) (hx : SpansAt B w A n xs) (hy : SpansAt B w A' m ys) (hB : ∀ k, k < B → k ∉ bs ∧ ¬ RowOf bs w k) :
    SeqX mm 62 #[.pointer (some ⟨Ba, 0, none⟩), .pointer (some ⟨Bb, 0, none⟩)] (encP xs ys L) bs (fun zs => zs = ups L.length L.length) (fun pre => ∃ k, k < L.length ∧ pre = ups L.length (k + 1)) L.length w := fun l J Jx W hW hJ _ hY h0 => by
  have hbox : ∀ b, b ∈ bs → W.cell? ⟨b, 0, none⟩ = w.cell? ⟨b, 0, none⟩ := fun b hb => hW.cell (p := ⟨b, 0, none⟩) (hbs b hb)
  have hr : ∀ {g}, RowOf bs W g → RowOf bs w g := fun h => h.congr hbox
  exact pieces1_in mm hm l Ba Bb bs A A' n cap m cap' xs ys hsx hsy hn hm2 L hL J Jx W hJ hY (fun b hb => Nat.lt_of_lt_of_le (hbs b hb) hW.size) (fun g hg => Nat.lt_of_lt_of_le (hrow g (hr hg)) hW.size)
    ((hW.cell (p := ⟨Ba, 0, none⟩) hBal).trans hBa) ⟨hBa2.1, fun h => hBa2.2 (hr h)⟩ (Nat.lt_of_lt_of_le hBal hW.size)
    ((hW.cell (p := ⟨Bb, 0, none⟩) hBbl).trans hBb) ⟨hBb2.1, fun h => hBb2.2 (hr h)⟩ (Nat.lt_of_lt_of_le hBbl hW.size) B (Nat.le_trans hBW hW.size) (hx.below (hW.mono hBW)) (hy.below (hW.mono hBW)) (fun k hk => ⟨(hB k hk).1, fun h => (hB k hk).2 (hr h)⟩) h0

end Go.Proofs.YtfahlgjolihmkaaDoor
