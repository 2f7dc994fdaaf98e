/- An operation that leaves the memory alone, as the machine carries it out. -/
import Derived.Test.YtpbenjpponbjjaaE4
namespace Go.Proofs.Ytpbenjpponbjjaa.En
open Go.RowKit

theorem oo {o : Oper} {a : Act} {P : Program} {w : World} {s : Sem Value} {u : Value} (he : execOp a.eval o = (do pure (.value (← s)) : Sem Next)) (h : s.run P w = .ok u w) : (execOp a.eval o).run P w = .ok (.value u) w := by
  rw [he]
  simp [h]

set_option maxHeartbeats 1000000 in
theorem still_ok {P : Program} {T : TT} {ρ : Pl} {H : AH} {w : World} {N : Nat} {D : List Deferred} {E : Env} {a : Act} (hT : TOk P T) (hB : ∀ (i : Nat) b, H[i]? = some b → b.body.live = true → BRel ρ i b w) (hE : ERel ρ N D E a)
    {o : Oper} {c : Bool} {v : AV} (h : aStill T E H o.op = some (c, v)) (hc : c = true) :
    ∃ u, VRel ρ v u ∧ ∀ w', Agree ρ H w w' → (execOp a.eval o).run P w' = .ok (.value u) w' := by
  have hev := ev_ok hE
  subst hc
  obtain ⟨dst, op, ty, pos, after, guard⟩ := o
  dsimp only at h
  unfold aStill at h
  split at h <;> try (cases h; done)
  · rename_i x
    injection h with h
    injection h with h h'
    subst h'
    exact ⟨_, hev x, fun w' _ => rfl⟩
  · rename_i x
    injection h with h
    injection h with h h'
    subst h'
    exact ⟨_, hev x, fun w' _ => rfl⟩
  · rename_i p q r
    obtain ⟨b, e, h2⟩ := pick_ok (hev p) (hev q) (hev r) h rfl
    refine ⟨_, h2, fun w' _ => ?_⟩
    simp only [execOp, e]
    cases b <;> simp [asBool]
  · rename_i t x
    obtain ⟨u, h1, h2⟩ := load_ok hT hB (hev x) h rfl
    exact ⟨u, h1, fun w' hw => by simp [execOp, h2 w' hw]⟩
  · rename_i x
    obtain ⟨rfl, b, e⟩ := nil_ok (hev x) h
    exact ⟨_, hev x, fun w' _ => by simp [execOp, e]⟩
  · rename_i op xt x y yt
    obtain ⟨u, h1, h2⟩ : ∃ u, VRel ρ v u ∧ ∀ w, (do eqGuard op xt x y (a.eval x) (a.eval y); binOp op xt (a.eval x) (a.eval y) : Sem Value).run P w = .ok u w := by
      split at h
      · rename_i r hr
        rw [h] at hr
        exact bin_ok (x := x) (y := y) hT (hev x) (hev y) hr rfl
      · exact eqA_ok (x := x) (y := y) hT (hev x) (hev y) h rfl
    refine ⟨u, h1, fun w' _ => ?_⟩
    have h3 := h2 w'
    simp only [execOp, Sem.run_bind, Sem.run_pure] at h3 ⊢
    rw [h3]
    rfl
  · rename_i op xt x
    obtain ⟨u, h1, h2⟩ := un_ok (P := P) (hev x) h rfl
    exact ⟨u, h1, fun w' _ => by simp [execOp, h2 w']⟩
  · rename_i s d x
    obtain ⟨u, h1, h2⟩ := conv_ok hT (hev x) h
    exact ⟨u, h1, fun w' _ => by simp [execOp, h2 w']⟩
  · rename_i f first cap
    unfold aFunc at h
    split at h <;> try (cases h; done)
    rename_i ss cs h1 h2
    injection h with h
    injection h with h h'
    subst h'
    refine ⟨.func f (first.map a.eval) (cap.map a.eval), ⟨_, _, rfl, ?_, ?_⟩, fun w' _ => by simp [execOp, Instr.makeFunc]⟩
    · simpa using sOfs_ok (f := ev E) (g := a.eval) hev h1
    · simpa using sOfs_ok (f := ev E) (g := a.eval) hev h2
  · rename_i t x lo hi
    have ho : ∀ z : Option Operand, ORel ρ (z.map (ev E)) (z.map a.eval) := fun z => by
      cases z
      · trivial
      · exact hev _
    obtain ⟨u, h1, h2⟩ := slice_ok hT hB (hev x) (ho lo) (ho hi) h rfl
    exact ⟨u, h1, fun w' _ => by simp [execOp, h2 w']⟩
  · rename_i s x f
    obtain ⟨u, h1, h2⟩ := fieldAddr_ok hT (hev x) h
    exact ⟨u, h1, fun w' _ => by simp [execOp, h2 w']⟩
  · rename_i s x f
    obtain ⟨u, h1, h2⟩ := field_ok hT (hev x) h
    exact ⟨u, h1, fun w' _ => by simp [execOp, h2 w']⟩
  · rename_i t x i
    obtain ⟨u, h1, h2⟩ := indexAddr_ok hT (hev x) (hev i) h rfl
    exact ⟨u, h1, fun w' _ => by simp [execOp, h2 w']⟩
  · rename_i t x
    split at h <;> try (cases h; done)
    rename_i k n i hx hi
    split at h <;> try (cases h; done)
    rename_i kk hd
    injection h with h
    injection h with h h'
    subst h'
    have hv := hev x
    rw [hx] at hv
    have hv : a.eval x = .int k n := hv
    have hu := hT.un hi
    rw [hd] at hu
    exact ⟨.iface t (.int k n), rfl, fun w' _ => by simp [execOp, hv, Instr.makeInterface, run_underlying hu]⟩
  · rename_i x i
    obtain ⟨u, h1, h2⟩ := extract_ok (P := P) (hev x) h
    exact ⟨u, h1, fun w' _ => by simp [execOp, h2 w']⟩
  · rename_i cl
    split at h <;> try (cases h; done)
    rename_i b hb
    obtain ⟨callee, args, ts⟩ := cl
    dsimp only at h hb
    subst hb
    generalize e1 : args.toList = al at h
    generalize e2 : ts.toList = tl at h
    unfold aBuiltin at h
    split at h <;> try (cases h; done)
    · rename_i x t
      obtain rfl : args = #[x] := by rw [← Array.toArray_toList (xs := args), e1]
      obtain rfl : ts = #[t] := by rw [← Array.toArray_toList (xs := ts), e2]
      obtain ⟨u, h1, h2⟩ := len_ok (ty := ty) hT (hev x) h
      exact ⟨u, h1, fun w' _ => by simp [execOp, resolve, invoke, builtin, h2 w']⟩
    · rename_i x y
      obtain rfl : args = #[x, y] := by rw [← Array.toArray_toList (xs := args), e1]
      obtain ⟨u, h1, h2⟩ := min_ok (P := P) (ts := ts) (ty := ty) (hev x) (hev y) h
      exact ⟨u, h1, fun w' _ => by simp [execOp, resolve, invoke, builtin, h2 w']⟩
    · rename_i x y
      obtain rfl : args = #[x, y] := by rw [← Array.toArray_toList (xs := args), e1]
      obtain ⟨u, h1, h2⟩ := max_ok (P := P) (ts := ts) (ty := ty) (hev x) (hev y) h
      exact ⟨u, h1, fun w' _ => by simp [execOp, resolve, invoke, builtin, h2 w']⟩
end Go.Proofs.Ytpbenjpponbjjaa.En
