/- Included. -/
import Derived.Test.YtbinmkigolkhcaaDoorPL
namespace Go.Proofs.YtbinmkigolkhcaaDoor
open Go.RowKit Go.Sort
attribute [local go_sem] Oper.semAt_some

def includedV (l : List UInt8) (i n : Int) (r : Nat) (ss : List St) : Bool × Int :=
  if placeB i n = false then (false, 2) else if 256 < l.length then (false, 3) else (leadB ss (sidesV i.toNat n.toNat) && decide (followV l ss = r), 0)
def TwoPost (x : Bool × Int) (w : World) (e : Ending) (w' : World) : Prop := e = .returned (.tuple #[.bool x.1, .int .i64 x.2]) ∧ Below w.heap.size w w'
set_option maxHeartbeats 2000000 in
set_option maxRecDepth 100000 in
theorem Included_any (A : Option Addr) (n c : Nat) (l : List UInt8) (i j : Int) (r : Nat) (S : Option Addr) (m d : Nat) (ss : List St) (w : World) (hx : BytesAt w.heap.size w A n l) (hs : StepsAt w.heap.size w S m ss) (hm : m ≤ 1000000) :
    Calls Tryd.prog 32 #[.slice A n c, .int .i64 i, .int .i64 j, .int .u64 r, .slice S m d] w (TwoPost (includedV l i j r ss) w) := by
  have HP := hide (isPlace_any i j w)
  have hlen := hx.1
  cases hp : placeB i j
  · have e : includedV l i j r ss = (false, 2) := if_pos hp
    rw [e]
    rw [hp] at HP
    clear e hp hx hs
    go_enter Tryd.func32, Tryd.ntmps32
    go_wp2_with fail
    refine HP.out.mono ?_
    rintro e w1 ⟨rfl, rfl⟩
    go_wp2_with fail
    go_ret2
    exact ⟨rfl, Below.refl _ _⟩
  · rw [hp] at HP
    have HT := hide (isTooLong_any A n c w)
    by_cases hn : 256 < n
    · have e : includedV l i j r ss = (false, 3) := by
        unfold includedV
        rw [if_neg (by rw [hp]; decide), if_pos (by omega)]
      have q : decide ((256 : Int) < (n : Int)) = true := decide_eq_true (by omega)
      rw [e]
      rw [q] at HT
      clear e hp hx hs q hn
      go_enter Tryd.func32, Tryd.ntmps32
      go_wp2_with fail
      refine HP.out.mono ?_
      rintro e w1 ⟨rfl, rfl⟩
      go_wp2_with fail
      refine HT.out.mono ?_
      rintro e w1 ⟨rfl, rfl⟩
      go_wp2_with fail
      go_ret2
      exact ⟨rfl, Below.refl _ _⟩
    · have q : decide ((256 : Int) < (n : Int)) = false := decide_eq_false (by omega)
      rw [q] at HT
      unfold placeB at hp
      have hpp := of_decide_eq_true hp
      obtain ⟨i', rfl⟩ : ∃ k : Nat, i = k := ⟨i.toNat, by omega⟩
      obtain ⟨j', rfl⟩ : ∃ k : Nat, j = k := ⟨j.toNat, by omega⟩
      have e : includedV l i' j' r ss = (leadB ss (sidesV i' j') && decide (followV l ss = r), 0) := by
        unfold includedV
        rw [if_neg (by unfold placeB; rw [hp]; decide), if_neg (by omega)]
        rfl
      rw [e]
      have HL := hide (leadFrom_any i' j' S m d ss w (by omega) (by omega) hs hm)
      have HF : Hid (∀ w1, Below w.heap.size w w1 → Calls Tryd.prog 34 #[.slice A n c, .slice S m d] w1 fun e w' => e = .returned (.int .u64 (followV l ss : Nat)) ∧ Below w1.heap.size w1 w') :=
        fun w1 hb => Follow_any A n c l S m d ss w1 (hx.now hb (Nat.le_refl _)) (by omega) (hs.now hb (Nat.le_refl _)) hm
      obtain ⟨F, hF⟩ : ∃ F, followV l ss = F := ⟨_, rfl⟩
      rw [hF] at HF ⊢
      clear e hp hpp hx hs q hn hlen hF
      cases hB : leadB ss (sidesV i' j')
      · rw [hB] at HL
        clear hB HF
        go_enter Tryd.func32, Tryd.ntmps32
        go_wp2_with fail
        refine HP.out.mono ?_
        rintro e w1 ⟨rfl, rfl⟩
        go_wp2_with fail
        refine HT.out.mono ?_
        rintro e w1 ⟨rfl, rfl⟩
        go_wp2_with fail
        refine HL.out.mono ?_
        rintro e w2 ⟨rfl, hb2⟩
        go_wp2_with fail
        go_ret2
        exact ⟨rfl, hb2⟩
      · rw [hB] at HL
        clear hB
        go_enter Tryd.func32, Tryd.ntmps32
        go_wp2_with fail
        refine HP.out.mono ?_
        rintro e w1 ⟨rfl, rfl⟩
        go_wp2_with fail
        refine HT.out.mono ?_
        rintro e w1 ⟨rfl, rfl⟩
        go_wp2_with fail
        refine HL.out.mono ?_
        rintro e w2 ⟨rfl, hb2⟩
        have HB := hide hb2
        clear hb2
        go_wp2_with fail
        refine (HF.out w2 HB.out).mono ?_
        rintro e w3 ⟨rfl, hb3⟩
        go_wp2_with fail
        go_ret2
        refine ⟨?_, HB.out.trans (hb3.mono HB.out.size)⟩
        show Ending.returned (.tuple #[.bool ((F : Int) == (r : Int)), .int .i64 0]) = .returned (.tuple #[.bool (true && decide (F = r)), .int .i64 0])
        have : ((F : Int) == (r : Int)) = (true && decide (F = r)) := by
          rw [Bool.true_and]
          by_cases h : F = r
          · subst h; simp
          · rw [decide_eq_false h]; exact beq_eq_false_iff_ne.2 (by omega)
        rw [this]
end Go.Proofs.YtbinmkigolkhcaaDoor
