/- From what the card lists to what the walks ask; a start that fits. -/
import Derived.Test.YtfahlgjolihmkaaDoorW2
import Derived.Test.YtfahlgjolihmkaaDoorTB
import Derived.LaidMore
import Derived.OpenShut
import Derived.Stop.Joined
import Derived.Stop.LaidErr
import Derived.Deep.DeepHandedRow
import Derived.Lib.LaidTab
namespace Go.Proofs.YtfahlgjolihmkaaDoor
open Go.ChangeShapes Go.WideShapes Go.ChangeAt Go.RowKit Go.Joins Go.Deep

theorem gTab : Tryd.prog.globalNamed "internal/strconv.uint64pow10" = some 1 := by kernel_rfl
theorem gSyn : Tryd.prog.globalNamed "strconv.ErrSyntax" = some 2 := by kernel_rfl
theorem gRng : Tryd.prog.globalNamed "strconv.ErrRange" = some 3 := by kernel_rfl
theorem tTab : (Tryd.prog.globals[1]?).map (·.type) = some 125 := by kernel_rfl
theorem tSyn : (Tryd.prog.globals[2]?).map (·.type) = some 75 := by kernel_rfl
theorem tRng : (Tryd.prog.globals[3]?).map (·.type) = some 75 := by kernel_rfl
theorem cells105 : Tryd.prog.cellsOf 105 = 1 := by kernel_rfl
theorem cells125 : Tryd.prog.cellsOf 125 = 20 := by kernel_rfl
theorem cells142 : Tryd.prog.cellsOf 142 = 1 := by kernel_rfl
theorem cells9 : Tryd.prog.cellsOf 9 = 1 := by kernel_rfl
theorem star : "*" ++ "errors.errorString" = "*errors.errorString" := by decide
theorem row140 (u : TypeId) (h : Tryd.prog.typeName? 3 u = some "*errors.errorString") : u = 140 :=
  typeName_ptr_named (nm := "errors.errorString") (by rw [star]; kernel_rfl) (by kernel_rfl) (by decide) u (by rw [star]; exact h)

/-- the five variables, as both rows list them -/
abbrev laidL : List (String × DataW Unit) := Rows.spanTextsRow.laid
theorem laid_same : Rows.spanCountsRow.laid = laidL := rfl

theorem env_of {W : World} (hL : laidMetH Tryd.prog laidL W) (hsh : W.ShapedOpen Tryd.prog) : Env W := by
  rw [MakeChecks.laidMetH_plain _ _ _ (by kernel_rfl)] at hL
  have h2 : laidMet Tryd.prog (("internal/strconv.uint64pow10", Lib.tabData .u64 Lib.pow10Tab) :: [("strconv.ErrRange", Rows.laid_strconv_ErrRange), ("strconv.ErrSyntax", Rows.laid_strconv_ErrSyntax)]) W := hL.tail.tail
  have htab := Lib.tabIs_of_head gTab tTab Tryd.underlying125 Tryd.underlying105 cells105 cells125 h2
  obtain ⟨a0, s0, hv0, -, -, -⟩ := laid_sentinel (W := W) h2.tail gRng tRng Tryd.underlying75 row140 Tryd.underlying140 Tryd.underlying142 rfl rfl Tryd.underlying9 cells142 cells9
  obtain ⟨a1, s1, hv1, -, -, -⟩ := laid_sentinel (W := W) h2.tail.tail gSyn tSyn Tryd.underlying75 row140 Tryd.underlying140 Tryd.underlying142 rfl rfl Tryd.underlying9 cells142 cells9
  obtain ⟨m, hm⟩ := Tryd.laysM145.s1_3 W hsh
  have hm' : W.cell? ⟨0, 0, none⟩ = some (.int .i64 m) := hm
  have hs : W.cell? ⟨2, 0, none⟩ = some (.iface 140 (.pointer (some a1))) := by have h0 := World.var?_cell gSyn hv1 0; simpa using h0
  have hr : W.cell? ⟨3, 0, none⟩ = some (.iface 140 (.pointer (some a0))) := by have h0 := World.var?_cell gRng hv0 0; simpa using h0
  intro w' hb
  exact ⟨tab_stays gTab htab hb (Nat.le_refl _), ⟨m, (hb.cell (p := ⟨0, 0, none⟩) (cell_lt hm')).trans hm'⟩, ⟨_, _, (hb.cell (p := ⟨2, 0, none⟩) (cell_lt hs)).trans hs⟩, ⟨_, _, (hb.cell (p := ⟨3, 0, none⟩) (cell_lt hr)).trans hr⟩⟩

theorem door_met (os : Os) (args : Array Value) : laidMetH Tryd.prog laidL ((World.doorLaid Tryd.prog 62 os).forCall (fun _ _ => 0) ⟨#[], args, []⟩).memory :=
  laidMetH_of_parts3 (fuel := 8) (laidMet_of_run' 8 (by kernel_rfl) (by kernel_rfl)) (by kernel_rfl) (by kernel_rfl)
end Go.Proofs.YtfahlgjolihmkaaDoor
