/- A contract at a call that only reads. -/
import Derived.Test.YtpbenjpponbjjaaE14
namespace Go.Proofs.Ytpbenjpponbjjaa.En
open Go.RowKit

theorem plainA_one {ρ : Pl} {x : A} {v u : Value} (h : plainA x = some v) (hr : ARel ρ x u) : u = v := by
  unfold plainA at h
  split at h <;> try (cases h; done)
  injection h with h
  subst h
  exact hr
theorem plainAs_one {ρ : Pl} : ∀ {l : List A} {vs us : List Value}, plainAs l = some vs → LRel (ARel ρ) l us → us = vs
  | [], vs, us, h, hr => by
    injection h with h
    subst h
    cases us
    · rfl
    · exact hr.elim
  | x :: l, vs, us, h, hr => by
    unfold plainAs at h
    split at h <;> try (cases h; done)
    rename_i y ys h1 h2
    injection h with h
    subst h
    cases us with
    | nil => exact hr.elim
    | cons u us => rw [plainA_one h1 hr.1, plainAs_one h2 hr.2]
theorem plainT_one {ρ : Pl} {x : AT} {v u : Value} (h : plainT x = some v) (hr : ATRel ρ x u) : u = v := by
  unfold plainT at h
  split at h
  · exact plainA_one h hr
  · split at h <;> try (cases h; done)
    rename_i vs hv
    injection h with h
    subst h
    obtain ⟨cs, rfl, hc⟩ := hr
    rw [← plainAs_one hv hc]
theorem plainTs_one {ρ : Pl} : ∀ {l : List AT} {vs us : List Value}, plainTs l = some vs → LRel (ATRel ρ) l us → us = vs
  | [], vs, us, h, hr => by
    injection h with h
    subst h
    cases us
    · rfl
    · exact hr.elim
  | x :: l, vs, us, h, hr => by
    unfold plainTs at h
    split at h <;> try (cases h; done)
    rename_i y ys h1 h2
    injection h with h
    subst h
    cases us with
    | nil => exact hr.elim
    | cons u us => rw [plainT_one h1 hr.1, plainTs_one h2 hr.2]
theorem plain_one {ρ : Pl} {x : AV} {v u : Value} (h : plain x = some v) (hr : VRel ρ x u) : u = v := by
  unfold plain at h
  split at h <;> try (cases h; done)
  · exact plainT_one h hr
  · split at h <;> try (cases h; done)
    rename_i vs hv
    injection h with h
    subst h
    obtain ⟨cs, rfl, hc⟩ := hr
    rw [← plainTs_one hv hc]
def allRo : AH → Bool
  | [] => true
  | b :: r => !b.rw && allRo r
theorem allRo_get : ∀ {H : AH} {i : Nat} {b : Blk}, allRo H = true → H[i]? = some b → b.rw = false
  | [], _, _, _, h => by simp at h
  | c :: r, 0, b, h, hb => by
    simp only [allRo, Bool.and_eq_true] at h
    simp at hb
    subst hb
    simpa using h.1
  | c :: r, i + 1, b, h, hb => by
    simp only [allRo, Bool.and_eq_true] at h
    simp at hb
    exact allRo_get h.2 hb
theorem injB_ro {σ : Rn} {H : AH} (h : allRo H = true) : injB σ H = true := by
  unfold injB
  rw [List.all_eq_true]
  intro i hi
  rw [List.all_eq_true]
  intro j hj
  have h1 := allRo_get h (List.getElem?_eq_getElem (List.mem_range.1 hi))
  have h2 := allRo_get h (List.getElem?_eq_getElem (List.mem_range.1 hj))
  rw [List.getElem?_eq_getElem (List.mem_range.1 hi), List.getElem?_eq_getElem (List.mem_range.1 hj)]
  simp only [h1, h2]
  cases σ i <;> cases σ j <;> simp

/-- a call of a function that writes nothing old, seen from outside -/
theorem call_pure {P : Program} {f : FuncId} {args0 : List AV} {H0 : AH} {R : AV → AH → Prop} (h : CallA P f args0 H0 R) (hro : allRo H0 = true) {C : Cx} {ρ : Pl} {H : AH} {w : World} {ra : Array Value} {σ : Rn} (hI : Inv C ρ H w)
    (hra : LRel (VRel ρ) (renL σ args0) ra.toList) (hk : okL σ H0.length args0 = true) (hh : HeapW σ H0.length H 0 H0) (hg : rngB σ H.length H0.length = true) :
    Calls P f ra w fun e w' => ∃ u v H1 ρ', e = .returned u ∧ R v H1 ∧ Inv ⟨w, fun k => w.heap.size ≤ k, fun _ h => h⟩ ρ' H1 w' ∧ VRel ρ' v u ∧ Below w.heap.size w w' := by
  have hIw := heap_weak hI (injB_ro hro) hg hh
  have hI' : Inv ⟨w, fun k => w.heap.size ≤ k, fun _ h => h⟩ (repl2 σ H0.length (szOf H0) ρ) H0 w :=
    ⟨hIw.blk, hIw.on, hIw.off, hIw.sep, fun i b hb _ hr => (by rw [allRo_get hro hb] at hr; cases hr), rfl, rfl, rfl, Nat.le_refl _, fun _ _ _ => rfl⟩
  refine (h.2 _ _ w ra hI' (renL_ok hra hk)).mono ?_
  rintro e w' ⟨u, v, H1, ρ', rfl, hR, hI1, _, _, hv⟩
  exact ⟨u, v, H1, ρ', rfl, hR, hI1, hv, hI1.os, hI1.tape, hI1.output, hI1.size, fun k hk => hI1.kept k hk (by show ¬ _ ≤ _; omega)⟩

theorem qcall {P : Program} {f : FuncId} {args args0 : List AV} {H H0 : AH} {R : AV → AH → Prop} {v : AV} {pv : Value} (h : CallA P f args0 H0 R) (σ : Rn) (ha : args = renL σ args0) (hk : okL σ H0.length args0 = true) (hh : HeapW σ H0.length H 0 H0) (hg : rngB σ H.length H0.length = true) (hro : allRo H0 = true)
    (hp : plain v = some pv) (hR : ∀ v' H1, R v' H1 → v' = v) : QCall P f args H v := by
  refine ⟨h.1, pv, hp, fun C ρ w ra hI hra => ?_⟩
  subst ha
  refine (call_pure h hro hI hra hk hh hg).mono ?_
  rintro e w' ⟨u, v', H1, ρ', rfl, hR', _, hv, hb⟩
  have := hR v' H1 hR'
  subst this
  exact ⟨by rw [plain_one hp hv], hb⟩
end Go.Proofs.Ytpbenjpponbjjaa.En
