/- Arrays of numbers as arguments. -/
import Derived.Test.YtpbenjpponbjjaaFG
set_option linter.unusedSimpArgs false
set_option linter.unusedVariables false
namespace Go.Proofs.Ytpbenjpponbjjaa
open Go.ChangeShapes Go.WideShapes Go.ChangeAt Go.RowKit Go.Joins Go.Deep
section
variable {H : Type} {enc : TypeId × Value → H} {W : World}
set_option maxRecDepth 100000 in
theorem open_arr {n : Nat} {t e : TypeId} {k : IntKind} (ht : Try.prog.underlying t = some (.array n e)) (he : Try.prog.underlying e = some (.int k)) (hce : Try.prog.cellsOf e = 1) (hC : Try.prog.cellsOf t = n)
    {r : Reach} {b0 : Nat} {v : Value} {d : DataW H} {p : List MemPlace} (hv : Value.okWide Try.prog W r b0 t v) (h : DataW.Trod enc Try.prog W 0 (fun _ => true) true t v d p) :
    ∃ cs : Array Value, v = .agg cs ∧ cs.size = n ∧ ∀ i, i < n → ∃ q : Int, cs[i]? = some (.int k q) ∧ (Lit.int k q).wf = true := by
  have hv2 := hv
  simp only [Value.okWide, ht] at hv2
  obtain ⟨cs, rfl, hsz, _⟩ := hv2
  obtain ⟨fuel, hf⟩ := h
  obtain ⟨xs, m, rfl, hx, hl, hn, hi⟩ := DataW.trod_array ht hf
  refine ⟨cs, rfl, hsz.trans hC, fun i hin => ?_⟩
  have h1 := hi i hin
  rw [hce, Nat.mul_one, List.getElem?_eq_getElem (by omega)] at h1
  obtain ⟨q, hq, _, hwf⟩ := DataW.trod_int he h1
  refine ⟨q, ?_, hwf⟩
  have hlt : i < cs.toList.length := by
    have := hsz.trans hC
    simpa [this] using hin
  have h2 : (cs.toList.drop i).take 1 = [cs.toList[i]] := by
    rw [List.drop_eq_getElem_cons hlt]
    rfl
  have h3 : (cs.toList.drop i).take 1 = [.int k q] := hq
  rw [h2] at h3
  injection h3 with h3
  rw [← Array.getElem?_toList, List.getElem?_eq_getElem hlt, h3]
end
end Go.Proofs.Ytpbenjpponbjjaa
