/- Logs and lists whose bytes lie in blocks that nothing writes. -/
import Derived.Test.YtbinmkigolkhcaaDoorQA
import Derived.Test.YtbinmkigolkhcaaDoorNC
set_option linter.unusedSimpArgs false
set_option linter.unusedVariables false
namespace Go.Proofs.YtbinmkigolkhcaaDoor
open Go.RowKit Go.Sort
attribute [local go_sem] Oper.semAt_some

/-- bytes in a block of C -/
def BytesC (C : Nat → Prop) (w : World) (A : Option Addr) (n : Nat) (l : List UInt8) : Prop := BytesAt w.heap.size w A n l ∧ (0 < n → ∀ a, A = some a → C a.block)
theorem BytesC.mods {C G : Nat → Prop} {w w' : World} {A : Option Addr} {n : Nat} {l : List UInt8} (h : BytesC C w A n l) (hm : Mods G w w') (hd : ∀ k, C k → ¬ G k) : BytesC C w' A n l :=
  ⟨h.1.mods hm (fun h0 a ha => hd _ (h.2 h0 a ha)) (Nat.le_refl _), h.2⟩
theorem BytesC.wider {C D : Nat → Prop} {w : World} {A : Option Addr} {n : Nat} {l : List UInt8} (h : BytesC C w A n l) (hC : ∀ k, C k → D k) : BytesC D w A n l := ⟨h.1, fun h0 a ha => hC _ (h.2 h0 a ha)⟩
/-- a list of entries in blocks of C -/
def ListsC (C : Nat → Prop) (w : World) (A : Option Addr) (n : Nat) (ls : List (List UInt8)) : Prop :=
  ls.length = n ∧ (n = 0 ∨ ∃ b off, A = some ⟨b, off, none⟩ ∧ C b ∧ b < w.heap.size ∧ ∀ i, i < n → ∃ Ai ni ci, w.cell? ⟨b, off + i, none⟩ = some (.slice Ai ni ci) ∧ BytesC C w Ai ni (ls.getD i []) ∧ ni ≤ 1000000)
theorem ListsC.mods {C G : Nat → Prop} {w w' : World} {A : Option Addr} {n : Nat} {ls : List (List UInt8)} (h : ListsC C w A n ls) (hm : Mods G w w') (hd : ∀ k, C k → ¬ G k) : ListsC C w' A n ls := by
  refine ⟨h.1, ?_⟩
  rcases h.2 with h0 | ⟨b, off, e, hc, hb, hx⟩
  · exact .inl h0
  · refine .inr ⟨b, off, e, hc, Nat.lt_of_lt_of_le hb hm.size, fun i hi => ?_⟩
    obtain ⟨Ai, ni, ci, h1, h2, h3⟩ := hx i hi
    exact ⟨Ai, ni, ci, (World.cell?_of_block (a := ⟨b, off + i, none⟩) (hm.same b hb (hd b hc))).trans h1, h2.mods hm hd, h3⟩
theorem ListsC.wider {C D : Nat → Prop} {w : World} {A : Option Addr} {n : Nat} {ls : List (List UInt8)} (h : ListsC C w A n ls) (hC : ∀ k, C k → D k) : ListsC D w A n ls := by
  refine ⟨h.1, ?_⟩
  rcases h.2 with h0 | ⟨b, off, e, hc, hb, hx⟩
  · exact .inl h0
  · refine .inr ⟨b, off, e, hC b hc, hb, fun i hi => ?_⟩
    obtain ⟨Ai, ni, ci, h1, h2, h3⟩ := hx i hi
    exact ⟨Ai, ni, ci, h1, h2.wider hC, h3⟩
theorem ListsC.lists {C : Nat → Prop} {w : World} {A : Option Addr} {n : Nat} {ls : List (List UInt8)} (h : ListsC C w A n ls) : ListsAt w.heap.size w A n ls := by
  refine ⟨h.1, ?_⟩
  rcases h.2 with h0 | ⟨b, off, e, hc, hb, hx⟩
  · exact .inl h0
  · refine .inr ⟨b, off, e, hb, fun i hi => ?_⟩
    obtain ⟨Ai, ni, ci, h1, h2, h3⟩ := hx i hi
    exact ⟨Ai, ni, ci, h1, h2.1, h3⟩
theorem ListsC.at_ {C : Nat → Prop} {w : World} {A : Option Addr} {n i : Nat} {ls : List (List UInt8)} (h : ListsC C w A n ls) (hi : i < n) :
    ∃ b off Ai ni ci, A = some ⟨b, off, none⟩ ∧ C b ∧ b < w.heap.size ∧ w.cell? ⟨b, off + i, none⟩ = some (.slice Ai ni ci) ∧ BytesC C w Ai ni (ls.getD i []) ∧ ni ≤ 1000000 := by
  rcases h.2 with h0 | ⟨b, off, e, hc, hb, hx⟩
  · omega
  · obtain ⟨Ai, ni, ci, h1, h2, h3⟩ := hx i hi
    exact ⟨b, off, Ai, ni, ci, e, hc, hb, h1, h2, h3⟩
theorem Each.mods {w w' : World} : ∀ {vs : List Value} {ls : List (List UInt8)}, Each w vs ls → (∀ v ∈ vs, ∀ k, v.ownBlock = some k → w'.heap[k]? = w.heap[k]?) → Each w' vs ls
  | [], [], _, _ => trivial
  | v :: vs, l :: ls, h, hs => by
    refine ⟨?_, Each.mods h.2 fun u hu => hs u (List.mem_cons_of_mem _ hu)⟩
    obtain ⟨a, c, rfl, h1, h2⟩ := h.1
    exact ⟨a, c, rfl, h1, own_same h2 fun k hk => hs _ List.mem_cons_self k hk⟩
  | [], _ :: _, h, _ => h.elim
  | _ :: _, [], h, _ => h.elim

/-- a log: it may write F, its entries' bytes are in C -/
structure LogC (C F : Nat → Prop) (w : World) (b : Nat) (ls : List (List UInt8)) (Ae : Option Addr) (ce : Nat) (Ap : Option Addr) (cp : Nat) : Prop where
  at_ : LogAt F w b ls (peaksV ls) Ae ce Ap cp
  ents : EntsIn C w Ae ls.length
  fl : ∀ k, F k → k < w.heap.size
  cl : ∀ k, C k → k < w.heap.size
  cf : ∀ k, C k → ¬ F k
theorem LogC.mods {C F G : Nat → Prop} {w w' : World} {b : Nat} {ls : List (List UInt8)} {Ae : Option Addr} {ce : Nat} {Ap : Option Addr} {cp : Nat} (h : LogC C F w b ls Ae ce Ap cp) (hm : Mods G w w') (hF : ∀ k, F k → ¬ G k) (hC : ∀ k, C k → ¬ G k) : LogC C F w' b ls Ae ce Ap cp := by
  have sF : ∀ k, F k → w'.heap[k]? = w.heap[k]? := fun k hk => hm.same k (h.fl k hk) (hF k hk)
  have sC : ∀ k, C k → w'.heap[k]? = w.heap[k]? := fun k hk => hm.same k (h.cl k hk) (hC k hk)
  obtain ⟨vs, ho, hE⟩ := h.at_.ents
  have hv := ents_vs ho h.ents
  have ho' : w'.ownsRow 0 23 1 (.slice Ae ls.length ce) ls.length vs := own_same ho fun k hk => sF k (h.at_.fe k hk)
  refine ⟨⟨(sF b h.at_.fb).trans h.at_.blk, ⟨vs, ho', hE.mods fun v hvv k hk => sC k (hv v hvv k hk)⟩, own_same h.at_.pks fun k hk => sF k (h.at_.fp k hk), h.at_.pb, h.at_.fb, h.at_.fe, h.at_.fp⟩, vs_ents ho' hv, fun k hk => Nat.lt_of_lt_of_le (h.fl k hk) hm.size, fun k hk => Nat.lt_of_lt_of_le (h.cl k hk) hm.size, h.cf⟩
theorem LogC.now {C F : Nat → Prop} {w w' : World} {b : Nat} {ls : List (List UInt8)} {Ae : Option Addr} {ce : Nat} {Ap : Option Addr} {cp : Nat} (h : LogC C F w b ls Ae ce Ap cp) (hb : Below w.heap.size w w') : LogC C F w' b ls Ae ce Ap cp :=
  h.mods (Mods.of_below (fun _ => False) hb) (fun _ _ h => h) (fun _ _ h => h)
theorem ListsC.now {C : Nat → Prop} {w w' : World} {A : Option Addr} {n : Nat} {ls : List (List UInt8)} (h : ListsC C w A n ls) (hb : Below w.heap.size w w') : ListsC C w' A n ls :=
  h.mods (Mods.of_below (fun _ => False) hb) (fun _ _ h => h)
theorem LogC.good {C F : Nat → Prop} {w : World} {b : Nat} {ls : List (List UInt8)} {Ae : Option Addr} {ce : Nat} {Ap : Option Addr} {cp : Nat} (h : LogC C F w b ls Ae ce Ap cp) : GoodLog 0 w b ls := ⟨F, Ae, ce, Ap, cp, h.at_, fun k hk => ⟨Nat.zero_le _, h.fl k hk⟩⟩
/-- any clean blocks more -/
theorem LogC.more {C D F : Nat → Prop} {w : World} {b : Nat} {ls : List (List UInt8)} {Ae : Option Addr} {ce : Nat} {Ap : Option Addr} {cp : Nat} (h : LogC C F w b ls Ae ce Ap cp) (hD : ∀ k, C k → D k) (hl : ∀ k, D k → k < w.heap.size) (hf : ∀ k, D k → ¬ F k) : LogC D F w b ls Ae ce Ap cp :=
  ⟨h.at_, h.ents.wider hD, h.fl, hl, hf⟩
/-- the log's own blocks, exactly; and clean is what else was clean, or is new -/
theorem LogAt.exact {C F : Nat → Prop} {w' : World} {N b : Nat} {ls : List (List UInt8)} {Ae : Option Addr} {ce : Nat} {Ap : Option Addr} {cp : Nat} (h : LogAt (fun k => F k ∨ N ≤ k) w' b ls (peaksV ls) Ae ce Ap cp) (hin : EntsIn (fun k => C k ∨ N ≤ k) w' Ae ls.length)
    (hN : N ≤ w'.heap.size) (cl : ∀ k, C k → k < N) (cf : ∀ k, C k → ¬ F k) :
    ∃ C' F', LogC C' F' w' b ls Ae ce Ap cp ∧ (∀ k, C k → C' k) ∧ (∀ k, C' k → C k ∨ N ≤ k) ∧ (∀ k, F' k → F k ∨ N ≤ k) := by
  obtain ⟨vs, ho, hE⟩ := h.ents
  have hv := ents_vs ho hin
  have hF : ∀ k, (k = b ∨ (Value.slice Ae ls.length ce).ownBlock = some k ∨ (Value.slice Ap (peaksV ls).length cp).ownBlock = some k) → F k ∨ N ≤ k := by
    rintro k (rfl | hk | hk)
    · exact h.fb
    · exact h.fe k hk
    · exact h.fp k hk
  refine ⟨fun k => (C k ∨ N ≤ k) ∧ k < w'.heap.size ∧ ¬ (k = b ∨ (Value.slice Ae ls.length ce).ownBlock = some k ∨ (Value.slice Ap (peaksV ls).length cp).ownBlock = some k), fun k => k = b ∨ (Value.slice Ae ls.length ce).ownBlock = some k ∨ (Value.slice Ap (peaksV ls).length cp).ownBlock = some k, ⟨⟨h.blk, ⟨vs, ho, hE⟩, h.pks, h.pb, .inl rfl, fun k hk => .inr (.inl hk), fun k hk => .inr (.inr hk)⟩, ?_, ?_, fun k hk => hk.2.1, fun k hk => hk.2.2⟩, ?_, fun k hk => hk.1, hF⟩
  · refine vs_ents ho fun v hvv k hk => ⟨hv v hvv k hk, ?_⟩
    obtain ⟨j, hj, rfl⟩ := List.getElem_of_mem hvv
    obtain ⟨v, e, hent⟩ := hE.at_ j (by rw [← hE.length]; exact hj)
    rw [List.getElem?_eq_getElem hj] at e
    injection e with e
    rw [e] at hk
    obtain ⟨a, c, rfl, -, h5⟩ := hent
    obtain ⟨cur, hc⟩ := own_block h5 hk
    refine ⟨(Array.getElem?_eq_some_iff.1 hc).1, ?_⟩
    rintro (rfl | h6 | h6)
    · exact absurd (cell_ty hc h.blk) (by decide)
    · obtain ⟨cur2, hc2⟩ := own_block ho h6
      exact absurd (cell_ty hc hc2) (by decide)
    · obtain ⟨cur2, hc2⟩ := own_block h.pks h6
      exact absurd (cell_ty hc hc2) (by decide)
  · rintro k (rfl | h6 | h6)
    · exact h.lt
    · obtain ⟨cur2, hc2⟩ := own_block ho h6
      exact (Array.getElem?_eq_some_iff.1 hc2).1
    · obtain ⟨cur2, hc2⟩ := own_block h.pks h6
      exact (Array.getElem?_eq_some_iff.1 hc2).1
  · intro k hk
    have := cl k hk
    refine ⟨.inl hk, by omega, fun hf => ?_⟩
    rcases hF k hf with h6 | h6
    · exact cf k hk h6
    · omega
def AddCP (C F : Nat → Prop) (b : Nat) (x : (Nat × Int) × List (List UInt8)) (w : World) (e : Ending) (w' : World) : Prop :=
  e = .returned (.tuple #[.int .i64 (x.1.1 : Nat), .int .i64 x.1.2]) ∧ Mods F w w' ∧ ∃ C' F' Ae ce Ap cp, LogC C' F' w' b x.2 Ae ce Ap cp ∧ (∀ k, C k → C' k) ∧ (∀ k, C' k → C k ∨ w.heap.size ≤ k) ∧ (∀ k, F' k → F k ∨ w.heap.size ≤ k)
theorem Add_C (C F : Nat → Prop) (w : World) (b : Nat) (ls : List (List UInt8)) (Ae : Option Addr) (ce : Nat) (Ap : Option Addr) (cp : Nat) (h : LogC C F w b ls Ae ce Ap cp) (hl : ls.length ≤ 4096)
    (A : Option Addr) (n c : Nat) (l : List UInt8) (hx : BytesAt w.heap.size w A n l) (hA : 0 < n → ∀ a, A = some a → ¬ F a.block) (hF1 : ¬ F 1) (hw1 : 1 < w.heap.size) (hT : TabAt 1 Lib.deBruijn64tab w) :
    Calls Tryd.prog 44 #[.pointer (some ⟨b, 0, none⟩), .slice A n c] w (AddCP C F b (addV ls l) w) := by
  have hlen := hx.1
  unfold addV
  rcases Nat.lt_or_ge 256 n with h1 | h1
  · rw [if_pos (by omega)]
    refine (Add_long F w b ls _ Ae ce Ap cp h.at_ A n c h1).mono ?_
    rintro e w' ⟨rfl, rfl⟩
    exact ⟨rfl, Mods.refl _ _, C, F, Ae, ce, Ap, cp, h, fun k hk => hk, fun k hk => .inl hk, fun k hk => .inl hk⟩
  · rw [if_neg (by omega)]
    by_cases h2 : ls.length = 4096
    · rw [if_pos h2]
      refine (Add_full F w b ls _ Ae ce Ap cp h.at_ h2 A n c h1).mono ?_
      rintro e w' ⟨rfl, rfl⟩
      exact ⟨rfl, Mods.refl _ _, C, F, Ae, ce, Ap, cp, h, fun k hk => hk, fun k hk => .inl hk, fun k hk => .inl hk⟩
    · rw [if_neg h2]
      have hp := peaks_len64 hl
      obtain ⟨r1, r2⟩ := peaks_raise ls.length ls l (Nat.le_refl _) (Nat.lt_of_le_of_lt hl (by decide))
      refine (AddC_any C F w b ls (peaksV ls) Ae ce Ap cp h.at_ (by omega) (by omega) A n c l hx (by omega) _ rfl r1 hA hF1 hw1 hT h.ents).mono ?_
      rw [← r2]
      rintro e w' ⟨rfl, hm, Ae', ce', Ap', cp', h', hin⟩
      obtain ⟨C', F', k1, k2, k3, k4⟩ := h'.exact hin hm.size h.cl h.cf
      refine ⟨?_, hm, C', F', Ae', ce', Ap', cp', k1, k2, k3, k4⟩
      rw [List.length_append]
      rfl
end Go.Proofs.YtbinmkigolkhcaaDoor
