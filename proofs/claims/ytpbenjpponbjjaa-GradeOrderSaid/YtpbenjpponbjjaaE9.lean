/- An operation that calls no Go function is sound. -/
import Derived.Test.YtpbenjpponbjjaaE8
namespace Go.Proofs.Ytpbenjpponbjjaa.En
open Go.RowKit

theorem parts_ok {ρ : Pl} {N : Nat} {D : List Deferred} {E : Env} {a : Act} (hE : ERel ρ N D E a) (parts : Array (Nat × Operand)) : ∀ (j i : Nat) (x : AV), (parts.toList.map fun (i, x) => (i, ev E x))[j]? = some (i, x) → ∃ u, (parts.map fun (i, x) => (i, a.eval x)).toList[j]? = some (i, u) ∧ VRel ρ x u := by
  intro j i x h
  simp only [Array.toList_map, List.getElem?_map] at h ⊢
  cases hp : parts.toList[j]? with
  | none => simp [hp] at h
  | some p =>
    obtain ⟨k, o⟩ := p
    simp [hp] at h
    obtain ⟨rfl, rfl⟩ := h
    exact ⟨a.eval o, by simp, ev_ok hE o⟩

/-- what an operation leaves -/
def Does (C : Cx) (P : Program) (ρ : Pl) (w : World) (v : AV) (H' : AH) (e : Sem Next) : Prop :=
  ∃ u ρ' w', (e.run P w = .ok (.value u) w' ∨ (e.run P w = .ok .skip w' ∧ u = undef)) ∧ Inv C ρ' H' w' ∧ Ext ρ ρ' ∧ VRel ρ' v u

theorem newVar_one {T : TT} {H : AH} {t : TypeId} {l : List A} {v : AV} {H' : AH} (h : aNewVar T H t l = some (true, v, H')) : ∀ x ∈ l, x.one = true := by
  unfold aNewVar at h
  split at h <;> try (cases h; done)
  split at h <;> try (cases h; done)
  injection h with h
  injection h with h _
  simpa using h

set_option maxHeartbeats 1000000 in
theorem op_ok {C : Cx} {P : Program} {T : TT} {ρ : Pl} {H : AH} {w : World} {N : Nat} {D : List Deferred} {E : Env} {a : Act} (hT : TOk P T) (hI : Inv C ρ H w) (hE : ERel ρ N D E a)
    {o : Oper} {c : Bool} {v : AV} {H' : AH} (h : aOp T E H o.op = some (c, v, H')) (hc : c = true) : Does C P ρ w v H' (execOp a.eval o) := by
  have hev := ev_ok hE
  unfold aOp at h
  split at h
  · rename_i c' v' hs
    injection h with h
    injection h with h h'
    injection h' with h' h''
    subst h h' h''
    obtain ⟨u, h1, h2⟩ := still_ok hT hI.blk hE hs hc
    exact ⟨u, ρ, w, .inl (h2 w (Agree.refl _ _ _)), hI, Ext.refl ρ, h1⟩
  · rename_i hs
    clear hs
    subst hc
    obtain ⟨dst, op, ty, pos, after, guard⟩ := o
    dsimp only at h
    split at h
    · rename_i t parts
      split at h <;> try (cases h; done)
      rename_i c' v' hb
      injection h with h
      injection h with h h'
      injection h' with h' h''
      subst h h' h''
      obtain ⟨u, h1, h2⟩ := build_ok (P := P) (ρ := ρ) hT (rparts := parts.map fun (i, x) => (i, a.eval x)) (by simp) (parts_ok hE parts) hb
      exact ⟨u, ρ, w, .inl (by simp [execOp, h2 w]), hI, Ext.refl ρ, h1⟩
    · unfold aMake at h
      split at h <;> try (cases h; done)
      · rename_i t _
        split at h <;> try (cases h; done)
        rename_i i hi
        obtain ⟨info, z, K⟩ := hT t i hi
        obtain ⟨ρ', w', h1, h2, h3, h4⟩ := newVar_ok hT hI (u := z) (zerosRel K) h
        refine ⟨_, ρ', w', .inl ?_, h2, h3, h4⟩
        simp [execOp, Instr.alloc, zeroValue, typeInfo, K.inf, K.zero, h1]
      · rename_i t x _
        split at h <;> try (cases h; done)
        rename_i l hl
        obtain ⟨k1, _⟩ := cells_one (hev x) hl (newVar_one h)
        obtain ⟨ρ', w', h1, h2, h3, h4⟩ := newVar_ok hT hI (u := a.eval x) k1 h
        refine ⟨_, ρ', w', .inl ?_, h2, h3, h4⟩
        simp [execOp, Instr.box, h1]
      · rename_i t len parts _
        obtain ⟨u, ρ', w', h1, h2, h3, h4⟩ := buildSlice_ok (P := P) hT hI (rparts := parts.map fun (i, x) => (i, a.eval x)) (by simp) (parts_ok hE parts) h rfl
        exact ⟨u, ρ', w', .inl (by simp [execOp, h1]), h2, h3, h4⟩
      · rename_i t l cp _
        obtain ⟨u, ρ', w', h1, h2, h3, h4⟩ := makeSlice_ok hT hI (hev l) (hev cp) h rfl
        exact ⟨u, ρ', w', .inl (by simp [execOp, h1]), h2, h3, h4⟩
      · rename_i t p x _
        split at h <;> try (cases h; done)
        rename_i c' H1 hs
        injection h with h
        injection h with h h'
        injection h' with h' h''
        subst h h' h''
        obtain ⟨w', h1, h2⟩ := store_ok hT hI (hev p) (hev x) hs rfl
        exact ⟨undef, ρ, w', .inr ⟨by simp [execOp, h1], rfl⟩, h2, Ext.refl ρ, trivial⟩
      · rename_i cl _
        split at h <;> try (cases h; done)
        rename_i hcb
        obtain ⟨callee, args, ts⟩ := cl
        dsimp only at h hcb
        subst hcb
        split at h <;> try (cases h; done)
        rename_i s x t t' e1 e2
        split at h <;> try (cases h; done)
        rename_i ett
        subst ett
        obtain rfl : args = #[s, x] := by rw [← Array.toArray_toList (xs := args), e1]
        obtain rfl : ts = #[t, t] := by rw [← Array.toArray_toList (xs := ts), e2]
        split at h
        · rename_i hz
          obtain ⟨u, ρ', w', h1, h2, h3, h4⟩ := append0_ok (ty := ty) hT hI (hev s) (hev x) hz h
          exact ⟨u, ρ', w', .inl (by simp [execOp, resolve, invoke, builtin, h1]), h2, h3, h4⟩
        · obtain ⟨u, ρ', w', h1, h2, h3, h4⟩ := append2_ok (ty := ty) hT hI (hev s) (hev x) h rfl
          exact ⟨u, ρ', w', .inl (by simp [execOp, resolve, invoke, builtin, h1]), h2, h3, h4⟩
end Go.Proofs.Ytpbenjpponbjjaa.En
