/- What leaves the memory alone is sound. -/
import Derived.Test.YtpbenjpponbjjaaE2
namespace Go.Proofs.Ytpbenjpponbjjaa.En
open Go.RowKit

structure TOk1 (P : Program) (t : TypeId) (i : TI) (info : TypeInfo) (z : Value) : Prop where
  un : P.underlying t = some i.d
  inf : P.info? t = some info
  size : info.size = i.size
  bytes : info.bytes = i.bytes
  zero : info.zero = some z
  zeros : z.cells.toList = i.zero
  len : i.zero.length = i.size
  one : ∀ u ∈ i.zero, u.oneCell' = true
  rk : ∀ k, i.rk = some k → ∀ u ∈ i.zero, u = k.val 0
  eqs : P.eqGuardType P.depth t = false ∧ P.stoodInHeld t = false
def TOk (P : Program) (T : TT) : Prop := ∀ t i, T t = some i → ∃ info z, TOk1 P t i info z
theorem TOk.un {P : Program} {T : TT} (h : TOk P T) {t : TypeId} {i : TI} (e : T t = some i) : P.underlying t = some i.d := by
  obtain ⟨_, _, k⟩ := h t i e
  exact k.un
theorem TOk.sizeOf {P : Program} {T : TT} (h : TOk P T) {t : TypeId} {i : TI} (e : T t = some i) (w : World) : (sizeOf t).run P w = .ok i.size w := by
  obtain ⟨_, _, k⟩ := h t i e
  simp [Go.sizeOf, typeInfo, k.inf, k.size]
theorem TOk.under {P : Program} {T : TT} (h : TOk P T) {t : TypeId} {i : TI} (e : T t = some i) (w : World) : (underlying t).run P w = .ok i.d w := run_underlying (h.un e) w
theorem TOk.isAgg {P : Program} {T : TT} (h : TOk P T) {t : TypeId} {i : TI} (e : T t = some i) (w : World) : (isAgg t).run P w = .ok (aggOf i.d) w := by
  simp only [Go.isAgg, Sem.run_bind, h.under e, Result.andThen_ok]
  generalize i.d = d
  cases d <;> rfl

theorem wrap_id {k : IntKind} {x : Int} (h : natOk k x = true) : k.wrap x = x := by
  have h := of_decide_eq_true h
  cases k <;> simp [IntKind.max, IntKind.bits, IntKind.signed] at h <;> simp only [IntKind.wrap, IntKind.bits, IntKind.signed] <;> simp <;> omega
theorem i64_wrap {x : Int} (h : i64ok x = true) : IntKind.i64.wrap x = x := IntWalk.i64_in x (of_decide_eq_true h)
theorem arith_ok {k : IntKind} {x : Int} (h : (aArith k x).1 = true) : (aArith k x).2 = .int k (k.wrap x) := by
  unfold aArith at h ⊢
  split
  · rw [i64_wrap (by simpa using h)]
  · rfl
theorem ofInt_toNat {n : Nat} {a : Int} (h0 : 0 ≤ a) (h1 : a < 2 ^ n) : (BitVec.ofInt n a).toNat = a.toNat := by
  rw [BitVec.toNat_ofInt]
  rw [Int.emod_eq_of_lt h0 (by exact_mod_cast h1)]
def kbits (k : IntKind) : Nat := if k.signed then k.bits - 1 else k.bits
theorem natOk_lt {k : IntKind} {a : Int} (h : natOk k a = true) : 0 ≤ a ∧ a.toNat < 2 ^ kbits k ∧ a < 2 ^ k.bits := by
  have h := of_decide_eq_true h
  cases k <;> simp [IntKind.max, IntKind.bits, IntKind.signed, kbits] at h ⊢ <;> omega
theorem natOk_of {k : IntKind} {n : Nat} (h : n < 2 ^ kbits k) : natOk k (n : Int) = true := by
  refine decide_eq_true ?_
  cases k <;> simp [IntKind.max, IntKind.bits, IntKind.signed, kbits] at h ⊢ <;> omega
theorem bits_and {k : IntKind} {a b : Int} (ha : natOk k a = true) (hb : natOk k b = true) : k.wrap ((BitVec.ofInt k.bits a &&& BitVec.ofInt k.bits b).toNat : Nat) = ((a.toNat &&& b.toNat : Nat) : Int) := by
  obtain ⟨a0, a1, a2⟩ := natOk_lt ha
  obtain ⟨b0, b1, b2⟩ := natOk_lt hb
  rw [BitVec.toNat_and, ofInt_toNat a0 a2, ofInt_toNat b0 b2]
  exact wrap_id (natOk_of (Nat.lt_of_le_of_lt Nat.and_le_left a1))
theorem bits_andNot {k : IntKind} {a b : Int} (ha : natOk k a = true) (hb : natOk k b = true) : k.wrap ((BitVec.ofInt k.bits a &&& ~~~ (BitVec.ofInt k.bits b)).toNat : Nat) = ((a.toNat &&& (2 ^ k.bits - 1 - b.toNat) : Nat) : Int) := by
  obtain ⟨a0, a1, a2⟩ := natOk_lt ha
  obtain ⟨b0, b1, b2⟩ := natOk_lt hb
  rw [BitVec.toNat_and, BitVec.toNat_not, ofInt_toNat a0 a2, ofInt_toNat b0 b2]
  exact wrap_id (natOk_of (Nat.lt_of_le_of_lt Nat.and_le_left a1))
theorem bits_or {k : IntKind} {a b : Int} (ha : natOk k a = true) (hb : natOk k b = true) : k.wrap ((BitVec.ofInt k.bits a ||| BitVec.ofInt k.bits b).toNat : Nat) = ((a.toNat ||| b.toNat : Nat) : Int) := by
  obtain ⟨a0, a1, a2⟩ := natOk_lt ha
  obtain ⟨b0, b1, b2⟩ := natOk_lt hb
  rw [BitVec.toNat_or, ofInt_toNat a0 a2, ofInt_toNat b0 b2]
  exact wrap_id (natOk_of (Nat.or_lt_two_pow a1 b1))
theorem bits_xor {k : IntKind} {a b : Int} (ha : natOk k a = true) (hb : natOk k b = true) : k.wrap ((BitVec.ofInt k.bits a ^^^ BitVec.ofInt k.bits b).toNat : Nat) = ((a.toNat ^^^ b.toNat : Nat) : Int) := by
  obtain ⟨a0, a1, a2⟩ := natOk_lt ha
  obtain ⟨b0, b1, b2⟩ := natOk_lt hb
  rw [BitVec.toNat_xor, ofInt_toNat a0 a2, ofInt_toNat b0 b2]
  exact wrap_id (natOk_of (Nat.xor_lt_two_pow a1 b1))

section
variable {P : Program} {T : TT} {ρ : Pl}

theorem int_quo {k : IntKind} {a b : Int} (ha : natOk k a = true) (hb : 0 < b) : k.wrap (a.tdiv b) = a / b := by
  have h := natOk_lt ha
  rw [Int.tdiv_eq_ediv_of_nonneg h.1]
  have h1 := IntWalk.tdiv_le a b h.1 (by omega)
  refine wrap_id (decide_eq_true ⟨h1.1, ?_⟩)
  have := (of_decide_eq_true ha).2
  omega
theorem pow_int (b : Nat) : ((2 ^ b : Nat) : Int) = (2 : Int) ^ b := by simp

set_option maxHeartbeats 1000000 in
theorem bin_ok (hT : TOk P T) {op : BinOp} {xt : TypeId} {x y : Operand} {p q : AV} {u1 u2 : Value} (h1 : VRel ρ p u1) (h2 : VRel ρ q u2) {c : Bool} {v : AV} (h : aBin T op xt p q = some (c, v)) (hc : c = true) :
    ∃ u, VRel ρ v u ∧ ∀ w, (do eqGuard op xt x y u1 u2; binOp op xt u1 u2 : Sem Value).run P w = .ok u w := by
  subst hc
  unfold aBin at h
  split at h
  · rename_i k a k' b
    obtain rfl : u1 = .int k a := h1
    obtain rfl : u2 = .int k' b := h2
    cases op
    case shl =>
      dsimp only at h
      split at h
      · injection h with h
        injection h with h h'
        subst h'
        rw [Bool.and_eq_true] at h
        have hb := of_decide_eq_true h.1
        refine ⟨_, rfl, fun w => ?_⟩
        have hm : min b.toNat IntKind.i64.bits = b.toNat := by simp only [IntKind.bits]; omega
        have hn : ¬ b < 0 := by omega
        simp [eqGuard, binOp, i64_wrap h.2]
      · injection h with h
        injection h with h h'
        subst h'
        have hb := of_decide_eq_true h
        have hn : ¬ b < 0 := by omega
        refine ⟨_, rfl, fun w => ?_⟩
        simp [eqGuard, binOp, Op.shift, hn]
    case shr =>
      dsimp only at h
      injection h with h
      injection h with h h'
      subst h'
      have hb := of_decide_eq_true h
      have hn : ¬ b < 0 := by omega
      have hm : min b.toNat k.bits = b.toNat := by omega
      refine ⟨_, rfl, fun w => ?_⟩
      simp [eqGuard, binOp, Op.shift, hn, hm]
    all_goals
      dsimp only at h
      split at h <;> try (cases h; done)
    all_goals
      rename_i hk
      subst hk
      try dsimp only at h
    case h_1.add.isTrue | h_1.sub.isTrue | h_1.mul.isTrue =>
      injection h with h
      have hx := arith_ok (show (aArith k _).1 = true by rw [h])
      rw [h] at hx
      dsimp only at hx
      subst hx
      refine ⟨_, rfl, fun w => ?_⟩
      simp [eqGuard, binOp, Op.intArith]
    case h_1.quo.isTrue =>
      injection h with h
      injection h with h h'
      subst h'
      rw [Bool.and_eq_true] at h
      have hb : 0 < b := of_decide_eq_true h.2
      refine ⟨_, rfl, fun w => ?_⟩
      have hn : ¬ b = 0 := by omega
      simp [eqGuard, binOp, Op.intDiv, hn, int_quo h.1 hb]
    case h_1.rem.isTrue =>
      injection h with h
      injection h with h h'
      subst h'
      have hb := of_decide_eq_true h
      refine ⟨_, rfl, fun w => ?_⟩
      have hn : ¬ b = 0 := by omega
      simp [eqGuard, binOp, Op.intDiv, hn, Int.tmod_eq_emod_of_nonneg hb.1]
    case h_1.and.isTrue =>
      injection h with h
      injection h with h h'
      subst h'
      rw [Bool.and_eq_true] at h
      refine ⟨_, rfl, fun w => ?_⟩
      have := bits_and h.1 h.2
      simp only [binOp_and, eqGuard_and, Op.intBits]
      simp only [Sem.run_bind, Sem.run_pure, Result.andThen_ok]
      rw [this]
    case h_1.andNot.isTrue =>
      injection h with h
      injection h with h h'
      subst h'
      rw [Bool.and_eq_true] at h
      refine ⟨_, rfl, fun w => ?_⟩
      have := bits_andNot h.1 h.2
      simp only [binOp_andNot, eqGuard_andNot, Op.intBits]
      simp only [Sem.run_bind, Sem.run_pure, Result.andThen_ok]
      rw [this]
    case h_1.or.isTrue =>
      injection h with h
      injection h with h h'
      subst h'
      rw [Bool.and_eq_true] at h
      refine ⟨_, rfl, fun w => ?_⟩
      have := bits_or h.1 h.2
      simp only [binOp_or, eqGuard_or, Op.intBits]
      simp only [Sem.run_bind, Sem.run_pure, Result.andThen_ok]
      rw [this]
    case h_1.xor.isTrue =>
      injection h with h
      injection h with h h'
      subst h'
      rw [Bool.and_eq_true] at h
      refine ⟨_, rfl, fun w => ?_⟩
      have := bits_xor h.1 h.2
      simp only [binOp_xor, eqGuard_xor, Op.intBits]
      simp only [Sem.run_bind, Sem.run_pure, Result.andThen_ok]
      rw [this]
    all_goals
      injection h with h
      injection h with h h'
      subst h'
      refine ⟨_, rfl, fun w => ?_⟩
      simp [eqGuard, binOp, Op.intCmp]
  · rename_i a b
    obtain rfl : u1 = .bool a := h1
    obtain rfl : u2 = .bool b := h2
    split at h <;> try (cases h; done)
    rename_i i hi
    split at h <;> try (cases h; done)
    rename_i hd
    have hu := hT.un hi
    rw [hd] at hu
    split at h <;> try (cases h; done)
    all_goals
      injection h with h
      injection h with h h'
      subst h'
      refine ⟨_, rfl, fun w => ?_⟩
      simp [eqGuard_at_bool, run_eql_bool, run_neq_bool, hu]
  · rename_i b o
    obtain ⟨_, a, _, _, rfl⟩ : (ρ b).on = true ∧ ∃ a, (ρ b).addr = some a ∧ a.spot = none ∧ u1 = .pointer (some (a.add o)) := h1
    obtain rfl : u2 = .pointer none := h2
    split at h <;> try (cases h; done)
    rename_i i hi
    split at h <;> try (cases h; done)
    rename_i hd
    have hu := hT.un hi
    rw [hd] at hu
    split at h <;> try (cases h; done)
    all_goals
      injection h with h
      injection h with h h'
      subst h'
      refine ⟨_, rfl, fun w => ?_⟩
      have hp : P.underlying xt = some (.pointer (P.pointee xt)) := by simp [Program.pointee, hu]
      simp [eqGuard_at_pointer, run_eql_pointer_nil, run_neq_pointer_nil, hp]
  · obtain rfl : u1 = .pointer none := h1
    obtain rfl : u2 = .pointer none := h2
    split at h <;> try (cases h; done)
    rename_i i hi
    split at h <;> try (cases h; done)
    rename_i hd
    have hu := hT.un hi
    rw [hd] at hu
    split at h <;> try (cases h; done)
    all_goals
      injection h with h
      injection h with h h'
      subst h'
      refine ⟨_, rfl, fun w => ?_⟩
      have hp : P.underlying xt = some (.pointer (P.pointee xt)) := by simp [Program.pointee, hu]
      simp [eqGuard_at_pointer, run_eql_pointer_nil, run_neq_pointer_nil, hp]
  · rename_i b o b' o'
    obtain ⟨_, a, ha, hs, rfl⟩ : (ρ b).on = true ∧ ∃ a, (ρ b).addr = some a ∧ a.spot = none ∧ u1 = .pointer (some (a.add o)) := h1
    obtain ⟨_, a', ha', _, rfl⟩ : (ρ b').on = true ∧ ∃ a, (ρ b').addr = some a ∧ a.spot = none ∧ u2 = .pointer (some (a.add o')) := h2
    split at h <;> try (cases h; done)
    rename_i i hi
    split at h <;> try (cases h; done)
    rename_i e hd
    split at h <;> try (cases h; done)
    rename_i j hj
    have hu := hT.un hi
    rw [hd] at hu
    split at h <;> try (cases h; done)
    all_goals
      injection h with h
      injection h with h h'
      subst h'
      obtain ⟨rfl, hsz⟩ := of_decide_eq_true h
      rw [ha] at ha'
      injection ha' with ha'
      subst ha'
      refine ⟨_, rfl, fun w => ?_⟩
      have he : (a.add o == a.add o') = (o == o') := by
        rw [addr_add' hs, addr_add' hs, Bool.eq_iff_iff, beq_iff_eq, beq_iff_eq, Addr.mk.injEq]
        constructor
        · rintro ⟨_, h, _⟩
          omega
        · rintro rfl
          exact ⟨rfl, rfl, rfl⟩
      have hz : j.size ≠ 0 := by omega
      have hq : ∀ d : Nat, (Op.equalIn (d + 1) xt (.pointer (some (a.add o))) (.pointer (some (a.add o')))).run P w = .ok (o == o') w := fun d => by
        simp [Op.equalIn, run_underlying hu, hT.sizeOf hj, hz, sameAddr, addr_add_block, he]
      have hq := hq 9999
      simp only [Sem.run_bind, eqGuard_at_pointer, Sem.run_pure, Result.andThen_ok, binOp]
      simp [Op.equal, Op.maxDepth, hq]
  · rename_i b o n
    obtain ⟨_, ad, c0, rfl, _, _, hsl⟩ : (ρ b).on = true ∧ ∃ ad c, u1 = .slice ad n c ∧ n ≤ c ∧ c ≤ maxLen ∧ SlAt (ρ b) o n ad c := h1
    obtain rfl : u2 = .slice none 0 0 := h2
    obtain ⟨n, rfl⟩ : ∃ m, n = m + 1 := by
      cases n with
      | zero => cases h
      | succ m => exact ⟨m, rfl⟩
    dsimp only at h
    split at h <;> try (cases h; done)
    rename_i i hi
    split at h <;> try (cases h; done)
    rename_i e hd
    have hu := hT.un hi
    rw [hd] at hu
    have hsome : 0 < n + 1 → ∃ a, ad = some a := fun hn => by
      rcases hsl with ⟨a, _, _, rfl, _⟩ | ⟨h0, _⟩
      · exact ⟨_, rfl⟩
      · omega
    split at h <;> try (cases h; done)
    all_goals
      injection h with h
      injection h with h h'
      subst h'
      obtain ⟨a, rfl⟩ := hsome (of_decide_eq_true h)
      refine ⟨_, rfl, fun w => ?_⟩
      have he := Lib.run_equalIn_slice_nil w 9999 xt e (some a) (n + 1) c0 0 0 hu
      simp only [Sem.run_bind, eqGuard_at_slice, Sem.run_pure, Result.andThen_ok, binOp]
      simp [Op.equal, Op.maxDepth, he]
  · obtain rfl : u1 = .slice none 0 0 := h1
    obtain rfl : u2 = .slice none 0 0 := h2
    split at h <;> try (cases h; done)
    rename_i i hi
    split at h <;> try (cases h; done)
    rename_i e hd
    have hu := hT.un hi
    rw [hd] at hu
    split at h <;> try (cases h; done)
    all_goals
      injection h with h
      injection h with h h'
      subst h'
      refine ⟨_, rfl, fun w => ?_⟩
      have he := Lib.run_equalIn_slice_nil w 9999 xt e none 0 0 0 0 hu
      simp only [Sem.run_bind, eqGuard_at_slice, Sem.run_pure, Result.andThen_ok, binOp]
      simp [Op.equal, Op.maxDepth, he]
  · cases h
theorem ask_ok (hT : TOk P T) {op : BinOp} {xt : TypeId} {x y : Operand} {p q : AV} {u1 u2 : Value} (h1 : VRel ρ p u1) (h2 : VRel ρ q u2) (h : askB T op xt p q = true) : ∃ b : Bool, ∀ w, (do eqGuard op xt x y u1 u2; binOp op xt u1 u2 : Sem Value).run P w = .ok (.bool b) w := by
  unfold askB at h
  split at h <;> try (cases h; done)
  rename_i b o n
  obtain rfl : n = 0 := by
    cases n with
    | zero => rfl
    | succ m => cases h
  dsimp only at h
  obtain ⟨_, ad, c0, rfl, _, _, hsl⟩ : (ρ b).on = true ∧ ∃ ad c, u1 = .slice ad 0 c ∧ 0 ≤ c ∧ c ≤ maxLen ∧ SlAt (ρ b) o 0 ad c := h1
  obtain rfl : u2 = .slice none 0 0 := h2
  split at h <;> try (cases h; done)
  rename_i i hi
  split at h <;> try (cases h; done)
  rename_i e hd
  have hu := hT.un hi
  rw [hd] at hu
  split at h <;> try (cases h; done)
  · refine ⟨ad.isNone, fun w => ?_⟩
    have he := Lib.run_equalIn_slice_nil w 9999 xt e ad 0 c0 0 0 hu
    simp only [Sem.run_bind, eqGuard_at_slice, Sem.run_pure, Result.andThen_ok, binOp]
    cases ad <;> simp [Op.equal, Op.maxDepth, he]
  · refine ⟨!ad.isNone, fun w => ?_⟩
    have he := Lib.run_equalIn_slice_nil w 9999 xt e ad 0 c0 0 0 hu
    simp only [Sem.run_bind, eqGuard_at_slice, Sem.run_pure, Result.andThen_ok, binOp]
    cases ad <;> simp [Op.equal, Op.maxDepth, he]
end
end Go.Proofs.Ytpbenjpponbjjaa.En
