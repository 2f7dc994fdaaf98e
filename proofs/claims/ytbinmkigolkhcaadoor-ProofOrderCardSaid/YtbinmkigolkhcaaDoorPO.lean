/- A log in memory; New, isMade, Len, Include. -/
import Derived.Test.YtbinmkigolkhcaaDoorPN
import Derived.Deep.AppendLies
set_option linter.unusedSimpArgs false
set_option linter.unusedVariables false
namespace Go.Proofs.YtbinmkigolkhcaaDoor
open Go.RowKit Go.Sort
attribute [local go_sem] Oper.semAt_some

theorem own_block {w : World} {base : Nat} {e : TypeId} {size n : Nat} {v : Value} {xs : List Value} (h : w.ownsRow base e size v n xs) {k : Nat} (hk : v.ownBlock = some k) : ∃ cur, w.heap[k]? = some (.cells cur e (0, 0)) := by
  rcases h.2 with ⟨rfl, _⟩ | ⟨g, cap, cur, rfl, _, hg, _⟩
  · cases hk
  · injection hk with hk
    subst hk
    exact ⟨cur, hg⟩
/-- an owned row where its own block is as it was -/
theorem own_same {w w' : World} {base : Nat} {e : TypeId} {size n : Nat} {v : Value} {xs : List Value} (h : w.ownsRow base e size v n xs) (hs : ∀ k, v.ownBlock = some k → w'.heap[k]? = w.heap[k]?) : w'.ownsRow base e size v n xs := by
  refine ⟨h.1, ?_⟩
  rcases h.2 with h | ⟨g, cap, cur, rfl, hb, hg, rest⟩
  · exact .inl h
  · exact .inr ⟨g, cap, cur, rfl, hb, (hs g rfl).trans hg, rest⟩
theorem own_zero {w : World} {base : Nat} {e : TypeId} {size n : Nat} {v : Value} {xs : List Value} (h : w.ownsRow base e size v n xs) : w.ownsRow 0 e size v n xs := own_keep h (Below.refl _ _) (Nat.zero_le _)
/-- one entry -/
def Ent (w : World) (v : Value) (l : List UInt8) : Prop := ∃ a c, v = .slice a l.length c ∧ l.length ≤ 256 ∧ w.ownsRow 0 5 1 (.slice a l.length c) l.length (cellsB l)
def Each (w : World) : List Value → List (List UInt8) → Prop
  | [], [] => True
  | v :: vs, l :: ls => Ent w v l ∧ Each w vs ls
  | _, _ => False
/-- the blocks of another type than t5 may have changed -/
def Keeps5 (w w' : World) : Prop := ∀ (k : Nat) (cur : Array Value), w.heap[k]? = some (.cells cur 5 (0, 0)) → w'.heap[k]? = some (.cells cur 5 (0, 0))
theorem Ent.kept {w w' : World} {v : Value} {l : List UInt8} (h : Ent w v l) (hk : Keeps5 w w') : Ent w' v l := by
  obtain ⟨a, c, rfl, h1, h2⟩ := h
  refine ⟨a, c, rfl, h1, own_same h2 fun k hb => ?_⟩
  obtain ⟨cur, hc⟩ := own_block h2 hb
  rw [hc]
  exact hk k cur hc
theorem Each.kept {w w' : World} (hk : Keeps5 w w') : ∀ {vs : List Value} {ls : List (List UInt8)}, Each w vs ls → Each w' vs ls
  | [], [], _ => trivial
  | v :: vs, l :: ls, h => ⟨h.1.kept hk, Each.kept hk h.2⟩
  | [], _ :: _, h => h.elim
  | _ :: _, [], h => h.elim
theorem Each.snoc {w : World} {v : Value} {l : List UInt8} (hv : Ent w v l) : ∀ {vs : List Value} {ls : List (List UInt8)}, Each w vs ls → Each w (vs ++ [v]) (ls ++ [l])
  | [], [], _ => ⟨hv, trivial⟩
  | u :: vs, m :: ls, h => ⟨h.1, Each.snoc hv h.2⟩
  | [], _ :: _, h => h.elim
  | _ :: _, [], h => h.elim
theorem Each.length {w : World} : ∀ {vs : List Value} {ls : List (List UInt8)}, Each w vs ls → vs.length = ls.length
  | [], [], _ => rfl
  | v :: vs, l :: ls, h => by rw [List.length_cons, List.length_cons, Each.length h.2]
  | [], _ :: _, h => h.elim
  | _ :: _, [], h => h.elim
theorem Each.at_ {w : World} : ∀ {vs : List Value} {ls : List (List UInt8)}, Each w vs ls → ∀ i, i < ls.length → ∃ v, vs[i]? = some v ∧ Ent w v (ls.getD i [])
  | [], [], _, i, h => by simp at h
  | v :: vs, l :: ls, h, 0, _ => ⟨v, rfl, h.1⟩
  | v :: vs, l :: ls, h, i + 1, hi => Each.at_ h.2 i (by simpa using hi)
  | [], _ :: _, h, _, _ => h.elim
  | _ :: _, [], h, _, _ => h.elim
def cellsP (ps : List Nat) : List Value := ps.map fun p => .int .u64 (p : Nat)
/-- block b holds a log of the entries ls and the peaks ps; F: the blocks that it may write -/
structure LogAt (F : Nat → Prop) (w : World) (b : Nat) (ls : List (List UInt8)) (ps : List Nat) (Ae : Option Addr) (ce : Nat) (Ap : Option Addr) (cp : Nat) : Prop where
  blk : w.heap[b]? = some (.cells #[.bool true, .slice Ae ls.length ce, .slice Ap ps.length cp] 65 (0, 0))
  ents : ∃ vs, w.ownsRow 0 23 1 (.slice Ae ls.length ce) ls.length vs ∧ Each w vs ls
  pks : w.ownsRow 0 24 1 (.slice Ap ps.length cp) ps.length (cellsP ps)
  pb : ∀ p ∈ ps, p < 18446744073709551616
  fb : F b
  fe : ∀ k, (Value.slice Ae ls.length ce).ownBlock = some k → F k
  fp : ∀ k, (Value.slice Ap ps.length cp).ownBlock = some k → F k
section
variable {F : Nat → Prop} {w : World} {b : Nat} {ls : List (List UInt8)} {ps : List Nat} {Ae : Option Addr} {ce : Nat} {Ap : Option Addr} {cp : Nat}
theorem LogAt.lt (h : LogAt F w b ls ps Ae ce Ap cp) : b < w.heap.size := (Array.getElem?_eq_some_iff.1 h.blk).1
theorem LogAt.c0 (h : LogAt F w b ls ps Ae ce Ap cp) : w.cell? ⟨b, 0, none⟩ = some (.bool true) := by unfold World.cell?; simp [h.blk]
theorem LogAt.c1 (h : LogAt F w b ls ps Ae ce Ap cp) : w.cell? ⟨b, 1, none⟩ = some (.slice Ae ls.length ce) := by unfold World.cell?; simp [h.blk]
theorem LogAt.c2 (h : LogAt F w b ls ps Ae ce Ap cp) : w.cell? ⟨b, 2, none⟩ = some (.slice Ap ps.length cp) := by unfold World.cell?; simp [h.blk]
theorem LogAt.lists (h : LogAt F w b ls ps Ae ce Ap cp) : ListsAt w.heap.size w Ae ls.length ls := by
  refine ⟨rfl, ?_⟩
  obtain ⟨vs, ho, he⟩ := h.ents
  rcases ho.2 with ⟨_, h0⟩ | ⟨g, cap, cur, hv, _, hg, _⟩
  · exact .inl h0
  · injection hv with h1 h2 h3
    subst h1
    refine .inr ⟨g, 0, rfl, (Array.getElem?_eq_some_iff.1 hg).1, fun i hi => ?_⟩
    obtain ⟨v, hv, a, c, rfl, hn, hr⟩ := he.at_ i hi
    have c0 := ho.cells (g := g) rfl i _ hv
    have ad : (⟨g, 0, none⟩ : Addr).add i = ⟨g, i, none⟩ := by
      by_cases h0 : i = 0
      · subst h0; rfl
      · simp [Addr.add, h0]
    rw [ad] at c0
    rw [Nat.zero_add]
    exact ⟨a, _, c, c0, bytes_of_own hr, by omega⟩
/-- the log where blocks beside F have changed, or new ones have come -/
theorem LogAt.stays {w' : World} (h : LogAt F w b ls ps Ae ce Ap cp) (hk : Below w.heap.size w w') : LogAt F w' b ls ps Ae ce Ap cp := by
  obtain ⟨vs, ho, he⟩ := h.ents
  refine ⟨(hk.block b h.lt).trans h.blk, ⟨vs, own_keep ho hk (Nat.zero_le _), he.kept fun k cur hc => (hk.block k (Array.getElem?_eq_some_iff.1 hc).1).trans hc⟩, own_keep h.pks hk (Nat.zero_le _), h.pb, h.fb, h.fe, h.fp⟩
end

theorem isMade_nil (w : World) : Calls Tryd.prog 82 #[.pointer none] w fun e w' => e = .returned (.bool false) ∧ w = w' := by
  go_enter Tryd.func82, Tryd.ntmps82
  go_wp2
  go_ret
  exact ⟨rfl, rfl⟩
theorem isMade_any (b : Nat) (w : World) (c0 : w.cell? ⟨b, 0, none⟩ = some (.bool true)) : Calls Tryd.prog 82 #[.pointer (some ⟨b, 0, none⟩)] w fun e w' => e = .returned (.bool true) ∧ w = w' := by
  go_enter Tryd.func82, Tryd.ntmps82
  go_wp2
  go_ret
  exact ⟨rfl, rfl⟩
theorem Len_any (F : Nat → Prop) (w : World) (b : Nat) (ls : List (List UInt8)) (ps : List Nat) (Ae : Option Addr) (ce : Nat) (Ap : Option Addr) (cp : Nat) (h : LogAt F w b ls ps Ae ce Ap cp) :
    Calls Tryd.prog 49 #[.pointer (some ⟨b, 0, none⟩)] w fun e w' => e = .returned (.int .i64 ls.length) ∧ w = w' := by
  have HM := hide (isMade_any b w h.c0)
  have c1 := h.c1
  clear h
  go_enter Tryd.func49, Tryd.ntmps49
  go_wp2_with fail
  refine HM.out.mono ?_
  rintro e w1 ⟨rfl, rfl⟩
  go_wp2
  go_ret
  exact ⟨rfl, rfl⟩
theorem New_any (w : World) : Calls Tryd.prog 40 #[] w fun e w' => e = .returned (.pointer (some ⟨w.heap.size, 0, none⟩)) ∧ w' = w.alloc (.cells #[.bool true, .slice none 0 0, .slice none 0 0] 65) := by
  go_enter Tryd.func40, Tryd.ntmps40
  go_wp2
  go_ret
  exact ⟨rfl, rfl⟩
theorem New_log (w : World) : LogAt (fun k => k = w.heap.size) (w.alloc (.cells #[.bool true, .slice none 0 0, .slice none 0 0] 65)) w.heap.size [] [] none 0 none 0 :=
  ⟨heap_alloc_new w _, ⟨[], World.ownsRow_nil _ _ _ _, trivial⟩, World.ownsRow_nil _ _ _ _, fun p hp => by simp at hp, rfl, fun k hk => by simp [Value.ownBlock] at hk, fun k hk => by simp [Value.ownBlock] at hk⟩

def includeV (ls : List (List UInt8)) (i n : Int) : List St × Int := if n < 1 ∨ ls.length < n ∨ i < 0 ∨ n ≤ i then ([], 6) else (stepsV (ls.take n.toNat) i.toNat, 0)
def TwoSteps (x : List St × Int) (w : World) (e : Ending) (w' : World) : Prop :=
  ∃ a c, e = .returned (.tuple #[.slice a x.1.length c, .int .i64 x.2]) ∧ w'.ownsRow w.heap.size 41 2 (.slice a x.1.length c) x.1.length (cellsS x.1) ∧ Below w.heap.size w w'
end Go.Proofs.YtbinmkigolkhcaaDoor
