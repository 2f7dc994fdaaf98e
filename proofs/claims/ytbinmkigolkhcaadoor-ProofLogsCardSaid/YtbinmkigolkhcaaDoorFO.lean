/- The arguments of a law opened: bytes, lists of entries, steps, hashes, ways. -/
import Derived.Test.YtbinmkigolkhcaaDoorZC
import Derived.Test.YtbinmkigolkhcaaDoorHA
import Derived.DataShut
set_option linter.unusedSimpArgs false
set_option linter.unusedVariables false
namespace Go.Proofs.YtbinmkigolkhcaaDoor
open Go.ChangeShapes Go.WideShapes Go.ChangeAt Go.RowKit Go.Joins Go.Deep

theorem lit_i64 {a : Int} (h : (Lit.int .i64 a).wf = true) : -9223372036854775808 ≤ a ∧ a ≤ 9223372036854775807 := by
  obtain ⟨h3, h4⟩ := (Lit.wf_int_iff .i64 a).1 h
  have e1 : IntKind.i64.min = -9223372036854775808 := by decide
  have e2 : IntKind.i64.max = 9223372036854775807 := by decide
  rw [e1] at h3
  rw [e2] at h4
  exact ⟨h3, h4⟩
theorem lit_u64 {a : Int} (h : (Lit.int .u64 a).wf = true) : 0 ≤ a ∧ a < 18446744073709551616 := by
  obtain ⟨h3, h4⟩ := (Lit.wf_int_iff .u64 a).1 h
  have e1 : IntKind.u64.min = 0 := by decide
  have e2 : IntKind.u64.max = 18446744073709551615 := by decide
  rw [e1] at h3
  rw [e2] at h4
  exact ⟨h3, by omega⟩
theorem lit_u8 {a : Int} (h : (Lit.int .u8 a).wf = true) : 0 ≤ a ∧ a < 256 := by
  obtain ⟨h3, h4⟩ := (Lit.wf_int_iff .u8 a).1 h
  have e1 : IntKind.u8.min = 0 := by decide
  have e2 : IntKind.u8.max = 255 := by decide
  rw [e1] at h3
  rw [e2] at h4
  exact ⟨h3, by omega⟩
theorem maxLen_eq : maxLen = 9223372036854775807 := by decide

section
variable {H : Type} {enc : TypeId × Value → H} {W : World}
theorem plain_spot {W : World} {a : Addr} {v : Value} (h : W.cell? (a.add 0) = some v) : ∃ b off, a = ⟨b, off, none⟩ := by
  obtain ⟨b, off, spot⟩ := a
  cases spot with
  | none => exact ⟨b, off, rfl⟩
  | some s =>
    exfalso
    simp only [Addr.add, if_true, World.cell?] at h
    split at h <;> simp at h

set_option maxRecDepth 100000 in
theorem open_row23 {fuel : Nat} {v : Value} {x : DataW H × List MemPlace} (hf : DataW.trod enc Tryd.prog W 0 (fun _ => true) true fuel 23 [v] = some x) :
    ∃ (A : Option Addr) (n cap : Nat) (l : List UInt8), v = .slice A n cap ∧ BytesAt W.heap.size W A n l ∧ n ≤ cap ∧ cap ≤ 9223372036854775807 := by
  rcases open_ints Tryd.underlying23 Tryd.underlying5 (by kernel_rfl) hf with ⟨h0, _⟩ | ⟨a, n, cap, zs, h0, _, hl, hbig, hz, _, hc, hw⟩
  · simp at h0
    subst h0
    exact ⟨none, 0, 0, [], rfl, ⟨rfl, .inl rfl⟩, Nat.le_refl _, by omega⟩
  · simp at h0
    subst h0
    simp only [if_true] at hz
    rw [maxLen_eq] at hbig
    refine ⟨some a, n, cap, (zs.take n).map fun z => UInt8.ofNat z.toNat, rfl, ⟨by rw [List.length_map, List.length_take]; omega, ?_⟩, hl, hbig⟩
    rcases Nat.eq_zero_or_pos n with h0 | hpos
    · exact .inl h0
    · have h00 := hc 0 (by omega)
      obtain ⟨b, off, rfl⟩ := plain_spot h00
      have hlt : b < W.heap.size := by
        have := World.block_lt_of_cell? _ _ h00
        simpa [add_plain] using this
      refine .inr ⟨b, off, rfl, hlt, fun i hi => ?_⟩
      have h1 := hc i (by omega)
      rw [add_plain] at h1
      rw [h1]
      have hm : zs[i]? = some (zs[i]'(by omega)) := List.getElem?_eq_getElem (by omega)
      have hwf := lit_u8 (hw _ (List.getElem_mem (by omega : i < zs.length)))
      obtain ⟨z, hz2⟩ : ∃ z, zs[i]'(by omega) = z := ⟨_, rfl⟩
      rw [hz2] at hm hwf
      have e1 : zs.getD i 0 = z := by rw [List.getD_eq_getElem?_getD, hm]; rfl
      have e2 : ((zs.take n).map fun z => UInt8.ofNat z.toNat).getD i 0 = UInt8.ofNat z.toNat := by
        rw [List.getD_eq_getElem?_getD, List.getElem?_map, List.getElem?_take_of_lt hi, hm]
        rfl
      rw [e1, e2]
      have e3 : (UInt8.ofNat z.toNat).toNat = z.toNat := by
        rw [UInt8.toNat_ofNat']
        have : z.toNat < 256 := by omega
        exact Nat.mod_eq_of_lt this
      rw [e3]
      congr 2
      omega
set_option maxRecDepth 100000 in
theorem open_bytes23 {base : Nat} {v : Value} {d : DataW H} {p : List MemPlace} (hv : Value.okWide Tryd.prog W .any base 23 v) (h : DataW.Trod enc Tryd.prog W 0 (fun _ => true) true 23 v d p) :
    ∃ (A : Option Addr) (n cap : Nat) (l : List UInt8), v = .slice A n cap ∧ BytesAt W.heap.size W A n l ∧ n ≤ cap ∧ cap ≤ 9223372036854775807 := by
  obtain ⟨a, n, cap, rfl⟩ := okWide_slice Tryd.underlying23 hv
  obtain ⟨fuel, hf⟩ := h
  exact open_row23 (by simpa [Value.cells] using hf)

set_option maxRecDepth 100000 in
theorem open_lists {base : Nat} {v : Value} {d : DataW H} {p : List MemPlace} (hv : Value.okWide Tryd.prog W .any base 22 v) (h : DataW.Trod enc Tryd.prog W 0 (fun _ => true) true 22 v d p) :
    ∃ (A : Option Addr) (n cap : Nat) (ls : List (List UInt8)), v = .slice A n cap ∧ ListsIn W.heap.size W A n ls ∧ n ≤ cap ∧ cap ≤ 9223372036854775807 := by
  obtain ⟨a, n, cap, rfl⟩ := okWide_slice Tryd.underlying22 hv
  obtain ⟨fuel, hf⟩ := h
  rcases open_slice1 Tryd.underlying22 (by kernel_rfl) hf with ⟨h0, _⟩ | ⟨a', n', cap', m, k, V, D, Pl, h0, _, hl, hbig, hm, _, hx⟩
  · simp [Value.cells] at h0
    obtain ⟨rfl, rfl, rfl⟩ := h0
    exact ⟨none, 0, 0, [], rfl, ⟨rfl, .inl rfl⟩, Nat.le_refl _, by omega⟩
  · simp [Value.cells] at h0
    obtain ⟨rfl, rfl, rfl⟩ := h0
    simp only [if_true] at hm
    subst hm
    rw [maxLen_eq] at hbig
    have each : ∀ i, i < n → ∃ q : (Option Addr × Nat × Nat) × List UInt8, W.cell? (a'.add i) = some (.slice q.1.1 q.1.2.1 q.1.2.2) ∧ BytesAt W.heap.size W q.1.1 q.1.2.1 q.2 ∧ q.1.2.1 ≤ q.1.2.2 ∧ q.1.2.2 ≤ 9223372036854775807 := by
      intro i hi
      obtain ⟨h1, h2⟩ := hx i (by omega)
      obtain ⟨A, n2, c2, l, he, hb, hn, hc⟩ := open_row23 h2
      rw [he] at h1
      exact ⟨((A, n2, c2), l), h1, hb, hn, hc⟩
    obtain ⟨q, hq⟩ := choose_lt each
    refine ⟨some a', n, _, (List.range n).map fun i => (q i).2, rfl, ⟨by simp, ?_⟩, hl, hbig⟩
    rcases Nat.eq_zero_or_pos n with h0 | hpos
    · exact .inl h0
    · have h00 := (hq 0 hpos).1
      obtain ⟨b, off, rfl⟩ := plain_spot h00
      have hlt : b < W.heap.size := by
        have := World.block_lt_of_cell? _ _ h00
        simpa [add_plain] using this
      refine .inr ⟨b, off, rfl, hlt, fun i hi => ?_⟩
      obtain ⟨h1, h2, h3, h4⟩ := hq i hi
      rw [add_plain] at h1
      refine ⟨_, _, _, h1, ?_, h3, h4⟩
      have : ((List.range n).map fun i => (q i).2).getD i [] = (q i).2 := by simp [List.getD_eq_getElem?_getD, hi]
      rw [this]
      exact h2

set_option maxRecDepth 100000 in
theorem open_hashes {base : Nat} {v : Value} {d : DataW H} {p : List MemPlace} (hv : Value.okWide Tryd.prog W .any base 36 v) (h : DataW.Trod enc Tryd.prog W 0 (fun _ => true) true 36 v d p) :
    ∃ (A : Option Addr) (n cap : Nat) (hs : List Nat), v = .slice A n cap ∧ HashesAt W.heap.size W A n hs ∧ n ≤ cap ∧ cap ≤ 9223372036854775807 := by
  obtain ⟨a, n, cap, rfl⟩ := okWide_slice Tryd.underlying36 hv
  obtain ⟨fuel, hf⟩ := h
  rcases open_ints Tryd.underlying36 Tryd.underlying24 (by kernel_rfl) hf with ⟨h0, _⟩ | ⟨a', n', cap', zs, h0, _, hl, hbig, hz, _, hc, hw⟩
  · simp [Value.cells] at h0
    obtain ⟨rfl, rfl, rfl⟩ := h0
    exact ⟨none, 0, 0, [], rfl, ⟨rfl, fun p hp => by simp at hp, .inl rfl⟩, Nat.le_refl _, by omega⟩
  · simp [Value.cells] at h0
    obtain ⟨rfl, rfl, rfl⟩ := h0
    simp only [if_true] at hz
    rw [maxLen_eq] at hbig
    have hlen : ((zs.take n).map Int.toNat).length = n := by rw [List.length_map, List.length_take]; omega
    refine ⟨some a', n, cap, (zs.take n).map Int.toNat, rfl, ⟨hlen, ?_, ?_⟩, hl, hbig⟩
    · intro p hp
      obtain ⟨z, hz1, rfl⟩ := List.mem_map.1 hp
      have := lit_u64 (hw z (List.mem_of_mem_take hz1))
      omega
    · rcases Nat.eq_zero_or_pos n with h0 | hpos
      · exact .inl h0
      · have h00 := hc 0 (by omega)
        obtain ⟨b, off, rfl⟩ := plain_spot h00
        have hlt : b < W.heap.size := by
          have := World.block_lt_of_cell? _ _ h00
          simpa [add_plain] using this
        refine .inr ⟨b, off, rfl, hlt, fun i hi => ?_⟩
        have h1 := hc i (by omega)
        rw [add_plain] at h1
        rw [h1]
        have hm : zs[i]? = some (zs[i]'(by omega)) := List.getElem?_eq_getElem (by omega)
        have hwf := lit_u64 (hw _ (List.getElem_mem (by omega : i < zs.length)))
        obtain ⟨z, hz2⟩ : ∃ z, zs[i]'(by omega) = z := ⟨_, rfl⟩
        rw [hz2] at hm hwf
        have e1 : zs.getD i 0 = z := by rw [List.getD_eq_getElem?_getD, hm]; rfl
        have e2 : hashA ((zs.take n).map Int.toNat) i = z.toNat := by
          unfold hashA
          rw [List.getD_eq_getElem?_getD, List.getElem?_map, List.getElem?_take_of_lt hi, hm]
          rfl
        rw [e1, e2]
        congr 2
        omega

set_option maxRecDepth 100000 in
theorem open_row33 {fuel : Nat} {v : Value} {x : DataW H × List MemPlace} (hf : DataW.trod enc Tryd.prog W 0 (fun _ => true) true fuel 33 [v] = some x) :
    ∃ (A : Option Addr) (n cap : Nat) (ss : List St), v = .slice A n cap ∧ StepsAt W.heap.size W A n ss ∧ n ≤ cap ∧ cap ≤ 9223372036854775807 := by
  rcases open_slice_pairs Tryd.underlying33 Tryd.underlying41 (by kernel_rfl) rfl rfl (by kernel_rfl) (by kernel_rfl) hf with ⟨h0, _⟩ | ⟨a, n, cap, m, k, V0, V1, D0, D1, P0, P1, h0, _, hl, hbig, hm, _, hx⟩
  · simp at h0
    subst h0
    exact ⟨none, 0, 0, [], rfl, ⟨rfl, .inl rfl⟩, Nat.le_refl _, by omega⟩
  · simp at h0
    subst h0
    simp only [if_true] at hm
    subst hm
    rw [maxLen_eq] at hbig
    have each : ∀ i, i < n → ∃ q : St, W.cell? (a.add (i * 2)) = some (.int .u64 (q.1 : Nat)) ∧ W.cell? (a.add (i * 2 + 1)) = some (.bool q.2) ∧ q.1 < 18446744073709551616 := by
      intro i hi
      obtain ⟨h1, h2, h3, h4⟩ := hx i (by omega)
      obtain ⟨z, he, _, hw⟩ := DataW.trod_int Tryd.underlying24 h3
      obtain ⟨y, he2, _⟩ := DataW.trod_bool Tryd.underlying4 h4
      injection he with he _
      injection he2 with he2 _
      have := lit_u64 hw
      refine ⟨(z.toNat, y), ?_, ?_, by omega⟩
      · rw [h1, he]
        show _ = some (Value.int .u64 ((z.toNat : Nat) : Int))
        congr 2
        omega
      · rw [h2, he2]
    obtain ⟨q, hq⟩ := choose_lt each
    refine ⟨some a, n, _, (List.range n).map q, rfl, ⟨by simp, ?_⟩, hl, hbig⟩
    rcases Nat.eq_zero_or_pos n with h0 | hpos
    · exact .inl h0
    · have h00 := (hq 0 hpos).1
      rw [Nat.zero_mul] at h00
      obtain ⟨b, off, rfl⟩ := plain_spot h00
      have hlt : b < W.heap.size := by
        have := World.block_lt_of_cell? _ _ h00
        simpa [add_plain] using this
      refine .inr ⟨b, off, rfl, hlt, fun i hi => ?_⟩
      obtain ⟨h1, h2, h3⟩ := hq i hi
      rw [add_plain] at h1 h2
      have e : ((List.range n).map q).getD i (0, false) = q i := by simp [List.getD_eq_getElem?_getD, hi]
      unfold stH stL
      rw [e]
      exact ⟨h1, by simpa [Nat.add_assoc] using h2, h3⟩
set_option maxRecDepth 100000 in
theorem open_steps {base : Nat} {v : Value} {d : DataW H} {p : List MemPlace} (hv : Value.okWide Tryd.prog W .any base 33 v) (h : DataW.Trod enc Tryd.prog W 0 (fun _ => true) true 33 v d p) :
    ∃ (A : Option Addr) (n cap : Nat) (ss : List St), v = .slice A n cap ∧ StepsAt W.heap.size W A n ss ∧ n ≤ cap ∧ cap ≤ 9223372036854775807 := by
  obtain ⟨a, n, cap, rfl⟩ := okWide_slice Tryd.underlying33 hv
  obtain ⟨fuel, hf⟩ := h
  exact open_row33 (by simpa [Value.cells] using hf)
set_option maxRecDepth 100000 in
theorem open_u64 {base : Nat} {v : Value} {d : DataW H} {p : List MemPlace} (hv : Value.okWide Tryd.prog W .any base 24 v) (h : DataW.Trod enc Tryd.prog W 0 (fun _ => true) true 24 v d p) :
    ∃ x : Nat, v = .int .u64 x ∧ x < 18446744073709551616 := by
  obtain ⟨z, rfl, _, _, wz⟩ := open_int Tryd.underlying24 hv h
  have := lit_u64 wz
  exact ⟨z.toNat, by congr 1; omega, by omega⟩
end
end Go.Proofs.YtbinmkigolkhcaaDoor
