/- The set that Of makes is the specification's; there is an order of every list. -/
import Derived.Test.YtikfiofjhmeheaaN4
import Derived.Test.YtikfiofjhmeheaaP1
namespace Go.Proofs.Ytikfiofjhmeheaa

theorem nodup_inj {L : List Nat} (h : L.Nodup) {i j : Nat} (hi : i < L.length) (hj : j < L.length) (e : L[i] = L[j]) : i = j := by
  have hp := List.pairwise_iff_getElem.1 h
  rcases Nat.lt_trichotomy i j with h1 | h1 | h1
  · exact absurd e (hp i j hi hj h1)
  · exact h1
  · exact absurd e.symm (hp j i hj hi h1)
theorem ord_exists (kf : Nat → Int) (n : Nat) : ∃ d, IsOrd kf n d := by
  obtain ⟨L, hL⟩ : ∃ L, L = (List.range n).mergeSort (fun u v => decide (kf u < kf v ∨ (kf u = kf v ∧ u ≤ v))) := ⟨_, rfl⟩
  have hp : L.Perm (List.range n) := by rw [hL]; exact List.mergeSort_perm _ _
  have hs : L.Pairwise (fun u v => decide (kf u < kf v ∨ (kf u = kf v ∧ u ≤ v)) = true) := by
    rw [hL]
    refine List.pairwise_mergeSort (fun a b c h1 h2 => ?_) (fun a b => ?_) _
    · simp at h1 h2 ⊢; omega
    · simp; omega
  have hn : L.Nodup := hp.nodup_iff.2 List.nodup_range
  have hl : L.length = n := by rw [hp.length_eq]; simp
  have hlt : ∀ k (hk : k < n), L[k]'(by omega) < n := fun k hk => List.mem_range.1 (hp.mem_iff.1 (List.getElem_mem _))
  refine ⟨fun k => if h : k < n then L[k]'(by omega) else k, ⟨fun k => if h : k < n then L[k]'(by omega) else k, fun k _ hk => ?_, fun k k' _ hk _ hk' he => ?_, fun k _ hk => rfl, fun k hk => ?_⟩, fun k k' _ h1 h2 => ?_⟩
  · dsimp only
    rw [dif_pos hk]
    exact ⟨Nat.zero_le _, hlt k hk⟩
  · dsimp only at he
    rw [dif_pos hk, dif_pos hk'] at he
    exact nodup_inj hn _ _ he
  · dsimp only
    rw [dif_neg (by omega)]
  · dsimp only
    rw [dif_pos (by omega), dif_pos h2]
    have h3 := of_decide_eq_true (List.pairwise_iff_getElem.1 hs k k' (by omega) (by omega) h1)
    have h4 : L[k]'(by omega) ≠ L[k']'(by omega) := fun e => by
      have := nodup_inj hn _ _ e
      omega
    unfold lexL
    omega
theorem ordF_ord (kf : Nat → Int) (n : Nat) : IsOrd kf n (ordF kf n) := by
  obtain ⟨d, h⟩ := ord_exists kf n
  exact (ordF_eq h).1

theorem check_ok {xs : List Sp} (h : checkE xs = 0) : xs.length ≤ 128 ∧ okTo xs xs.length := by
  unfold checkE at h
  split at h
  · omega
  · split at h
    · exact ⟨by omega, by assumption⟩
    · omega
theorem ok_mem {xs : List Sp} (h : okTo xs xs.length) : ∀ s ∈ xs, okB s.1 s.2 = true := fun s hs => by
  obtain ⟨k, hk, e1, e2⟩ := mem_getD hs
  have := h k hk
  rwa [e1, e2] at this

/-- the spans in their order by a key of theirs -/
noncomputable def sortL (kf : Int → Int → Int) (xs : List Sp) : List Sp := (List.finRange xs.length).map fun x => (loA xs (ordF (keyA kf xs) xs.length x.1), hiA xs (ordF (keyA kf xs) xs.length x.1))
theorem sortL_mem (kf : Int → Int → Int) (xs : List Sp) (s : Sp) : s ∈ sortL kf xs ↔ s ∈ xs := by
  have ho := ordF_ord (keyA kf xs) xs.length
  unfold sortL
  rw [List.mem_map]
  constructor
  · rintro ⟨x, _, rfl⟩
    have hlt := ho.lt x.2
    rw [(loA_get hlt).1, (loA_get hlt).2]
    exact List.getElem_mem hlt
  · intro hs
    obtain ⟨i, hi, rfl⟩ := List.mem_iff_getElem.1 hs
    obtain ⟨k, hk, e⟩ := ho.onto hi
    exact ⟨⟨k, hk⟩, List.mem_finRange _, by dsimp only; rw [e, (loA_get hi).1, (loA_get hi).2]⟩
theorem sortL_asc (kf : Int → Int → Int) (xs : List Sp) : (sortL kf xs).Pairwise fun s t => kf s.1 s.2 ≤ kf t.1 t.2 := by
  have ho := ordF_ord (keyA kf xs) xs.length
  unfold sortL
  rw [List.pairwise_map, List.pairwise_iff_getElem]
  intro i j hi hj hij
  have h := ho.2 i j (Nat.zero_le _) hij (by simpa using hj)
  simp only [List.getElem_finRange]
  simp only [Fin.cast]
  have h2 : keyA kf xs (ordF (keyA kf xs) xs.length i) ≤ keyA kf xs (ordF (keyA kf xs) xs.length j) := by
    unfold lexL at h
    omega
  exact h2
theorem fold_put {L : List Sp} (h : ∀ s ∈ L, s.1 < s.2) (out : List Sp) : L.foldl putL out = L.foldl (resS id) out := by
  induction L generalizing out with
  | nil => rfl
  | cons s L ih =>
    rw [List.foldl_cons, List.foldl_cons, ih (fun t ht => h t (by simp [ht]))]
    congr 1
    unfold resS
    rw [if_pos (show (id s : Sp).1 < (id s : Sp).2 from h s (by simp))]
    rfl
theorem ofL_sort (xs : List Sp) : ofL xs = (sortL (fun a _ => a) xs).foldl putL [] := by
  unfold ofL ofTo sortL
  rw [ups_all, List.foldl_map]
theorem ofL_spec {xs : List Sp} (h : okTo xs xs.length) : SetS (ofL xs) ∧ ∀ z, memS (ofL xs) z ↔ memS xs z := by
  have hok := ok_mem h
  have hs := resTo_spec (f := id) (xs := sortL (fun a _ => a) xs) (sortL_asc (fun a _ => a) xs)
  have e : ofL xs = resTo id (sortL (fun a _ => a) xs) := by
    rw [ofL_sort, fold_put (fun s hs => (okB_true (hok s ((sortL_mem _ _ _).1 hs))).2.1)]
    rfl
  have hm : ∀ z, memS (ofL xs) z ↔ memS xs z := fun z => by
    rw [e, hs.2 z]
    unfold memS
    simp only [sortL_mem, id_eq]
  refine ⟨canon_set (by rw [e]; exact hs.1) fun z hz => ?_, hm⟩
  obtain ⟨s, hs', p, q⟩ := (hm z).1 hz
  have := okB_true (hok s hs')
  omega
theorem ofV_same (xs : List Sp) : ofV xs = if checkE xs = 0 then madeL 0 xs [] else [] := by
  unfold ofV
  split
  · rename_i h
    obtain ⟨h1, h2⟩ := check_ok h
    refine canon_ext (ofL_spec h2).1.1 (madeL_spec 0 xs []).1 fun z => ?_
    rw [(ofL_spec h2).2 z, (madeL_spec 0 xs []).2.1 z, inB_nil, ← inB_mem]
    unfold keepB
    simp
  · rfl
theorem ofV_set (xs : List Sp) : SetS (ofV xs) := by
  unfold ofV
  split
  · rename_i h; exact (ofL_spec (check_ok h).2).1
  · exact ⟨Canon.nil, by simp⟩
theorem ofV_length (xs : List Sp) : (ofV xs).length ≤ xs.length := by
  unfold ofV
  split
  · unfold ofL
    have := ofTo_length xs (ups xs.length xs.length)
    rwa [ups_length (Nat.le_refl _)] at this
  · simp

end Go.Proofs.Ytikfiofjhmeheaa
