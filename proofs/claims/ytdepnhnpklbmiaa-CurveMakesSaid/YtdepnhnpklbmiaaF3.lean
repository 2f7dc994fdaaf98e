/- A curve that came in. -/
import Derived.Test.YtdepnhnpklbmiaaF2
import Derived.Test.YtdepnhnpklbmiaaW1
namespace Go.Proofs.Ytdepnhnpklbmiaa
open Go.ChangeShapes Go.WideShapes Go.ChangeAt Go.RowKit Go.Joins Go.Deep
section
variable {H : Type} {enc : TypeId × Value → H} {W : World}
set_option maxRecDepth 100000 in
theorem open_cuE {base : Nat} {v : Value} {d : DataW H} {p : List MemPlace} (hv : Value.okWide Try.prog W .any base 24 v) (h : DataW.Trod enc Try.prog W 0 (fun _ => true) true 24 v d p) :
    ∃ (f g : Int) (A : Option Addr) (n cap : Nat) (fl : List Int), v = .agg #[.int .i64 f, .int .i64 g, .slice A n cap] ∧ RIn.ok W ⟨3, 1, A, n, cap, fl, .int .i64⟩ ∧ fl.length = n ∧ n ≤ 9223372036854775807 := by
  obtain ⟨v0, v1, v2, y0, y1, y2, k, rfl, rfl, rfl, h0, h1, h2⟩ := open_agg3 Try.underlying24 (by kernel_rfl) (by kernel_rfl) hv h
  obtain ⟨a, ha, _, wa⟩ := DataW.trod_int Try.underlying3 h0
  obtain ⟨b, hb, _, wb⟩ := DataW.trod_int Try.underlying3 h1
  obtain ⟨⟨ty, sz, A, m, q, fl, K⟩, k1, k2, k3, k4, k5⟩ := open_row Try.underlying22 Try.underlying3 (by kernel_rfl) h2
  dsimp only at k1 k3 k4 k5
  subst k3 k4 k5
  injection ha with ha _
  injection hb with hb _
  subst ha hb
  have hl := k2.len
  have hle := k2.le
  have hbg := k2.big
  dsimp only at hl hle hbg
  exact ⟨a, b, A, m, q, fl, by rw [k1], k2, by omega, by omega⟩
theorem cu_of {l : List RIn} {i : Nat} {f g : Int} {A : Option Addr} {n cap : Nat} {fl : List Int} (hi : l[i]? = some ⟨3, 1, A, n, cap, fl, .int .i64⟩) (h : RIn.ok W ⟨3, 1, A, n, cap, fl, .int .i64⟩) : VRel (plOf l) (cuA f g i n) (.agg #[.int .i64 f, .int .i64 g, .slice A n cap]) :=
  ⟨_, rfl, rfl, rfl, slc_of hi h, trivial⟩
end
end Go.Proofs.Ytdepnhnpklbmiaa
