/- The table of the types that are met. -/
import Derived.Test.YtpbenjpponbjjaaE15
import Derived.Test.YtpbenjpponbjjaaProg
namespace Go.Proofs.Ytpbenjpponbjjaa.En
open Go.RowKit

def runsOf : List (Nat × Value) → List Value
  | [] => []
  | (n, v) :: r => List.replicate n v ++ runsOf r

def ti3 : TI := ⟨(TypeDesc.int IntKind.i64), 1, 8, [Value.int IntKind.i64 0], some (.int .i64)⟩
theorem siz3 : ti3.size = 1 := rfl
theorem byt3 : ti3.bytes = 8 := rfl
theorem tok3 : ∃ info z, TOk1 Try.prog 3 ti3 info z := tok1 (z := (Value.int IntKind.i64 0)) Try.underlying3 (by kernel_rfl) rfl rfl rfl rfl (by kernel_rfl) (by kernel_rfl)
def ti4 : TI := ⟨TypeDesc.bool, 1, 1, [Value.bool false], some (.bool)⟩
theorem siz4 : ti4.size = 1 := rfl
theorem byt4 : ti4.bytes = 1 := rfl
theorem tok4 : ∃ info z, TOk1 Try.prog 4 ti4 info z := tok1 (z := (Value.bool false)) Try.underlying4 (by kernel_rfl) rfl rfl rfl rfl (by kernel_rfl) (by kernel_rfl)
def ti23 : TI := ⟨(TypeDesc.array 3 3), 3, 24, [Value.int IntKind.i64 0, Value.int IntKind.i64 0, Value.int IntKind.i64 0], some (.int .i64)⟩
theorem siz23 : ti23.size = 3 := rfl
theorem byt23 : ti23.bytes = 24 := rfl
theorem tok23 : ∃ info z, TOk1 Try.prog 23 ti23 info z := tok1 (z := (Value.agg #[Value.int IntKind.i64 0, Value.int IntKind.i64 0, Value.int IntKind.i64 0])) Try.underlying23 (by kernel_rfl) rfl rfl rfl rfl (by kernel_rfl) (by kernel_rfl)
def ti27 : TI := ⟨(TypeDesc.slice 23), 1, 24, [Value.slice none 0 0], none⟩
theorem siz27 : ti27.size = 1 := rfl
theorem byt27 : ti27.bytes = 24 := rfl
theorem tok27 : ∃ info z, TOk1 Try.prog 27 ti27 info z := tok1 (z := (Value.slice none 0 0)) Try.underlying27 (by kernel_rfl) rfl rfl rfl rfl (by kernel_rfl) (by kernel_rfl)
def ti30 : TI := ⟨(TypeDesc.int IntKind.i64), 1, 8, [Value.int IntKind.i64 0], some (.int .i64)⟩
theorem siz30 : ti30.size = 1 := rfl
theorem byt30 : ti30.bytes = 8 := rfl
theorem tok30 : ∃ info z, TOk1 Try.prog 30 ti30 info z := tok1 (z := (Value.int IntKind.i64 0)) Try.underlying30 (by kernel_rfl) rfl rfl rfl rfl (by kernel_rfl) (by kernel_rfl)
def ti40 : TI := ⟨(TypeDesc.slice 3), 1, 24, [Value.slice none 0 0], none⟩
theorem siz40 : ti40.size = 1 := rfl
theorem byt40 : ti40.bytes = 24 := rfl
theorem tok40 : ∃ info z, TOk1 Try.prog 40 ti40 info z := tok1 (z := (Value.slice none 0 0)) Try.underlying40 (by kernel_rfl) rfl rfl rfl rfl (by kernel_rfl) (by kernel_rfl)
def ti75 : TI := ⟨(TypeDesc.func #[3, 3] #[4] false), 1, 8, [Value.nilFunc], none⟩
theorem siz75 : ti75.size = 1 := rfl
theorem byt75 : ti75.bytes = 8 := rfl
theorem tok75 : ∃ info z, TOk1 Try.prog 75 ti75 info z := tok1 (z := Value.nilFunc) Try.underlying75 (by kernel_rfl) rfl rfl rfl rfl (by kernel_rfl) (by kernel_rfl)
def ti78 : TI := ⟨(TypeDesc.pointer 82), 1, 8, [Value.pointer none], none⟩
theorem siz78 : ti78.size = 1 := rfl
theorem byt78 : ti78.bytes = 8 := rfl
theorem tok78 : ∃ info z, TOk1 Try.prog 78 ti78 info z := tok1 (z := (Value.pointer none)) Try.underlying78 (by kernel_rfl) rfl rfl rfl rfl (by kernel_rfl) (by kernel_rfl)
def ti80 : TI := ⟨(TypeDesc.slice 40), 1, 24, [Value.slice none 0 0], none⟩
theorem siz80 : ti80.size = 1 := rfl
theorem byt80 : ti80.bytes = 24 := rfl
theorem tok80 : ∃ info z, TOk1 Try.prog 80 ti80 info z := tok1 (z := (Value.slice none 0 0)) Try.underlying80 (by kernel_rfl) rfl rfl rfl rfl (by kernel_rfl) (by kernel_rfl)
def fd82_0 : Field := { name := "give", type := 40, offset := 0, embedded := false, tag := "", pkgPath := "kimberlite/grade", byteOffset := 0 }
def fd82_1 : Field := { name := "take", type := 40, offset := 1, embedded := false, tag := "", pkgPath := "kimberlite/grade", byteOffset := 24 }
def fd82_2 : Field := { name := "links", type := 80, offset := 2, embedded := false, tag := "", pkgPath := "kimberlite/grade", byteOffset := 48 }
def fd82_3 : Field := { name := "moved", type := 80, offset := 3, embedded := false, tag := "", pkgPath := "kimberlite/grade", byteOffset := 72 }
def fd82_4 : Field := { name := "givers", type := 40, offset := 4, embedded := false, tag := "", pkgPath := "kimberlite/grade", byteOffset := 96 }
def fd82_5 : Field := { name := "takers", type := 40, offset := 5, embedded := false, tag := "", pkgPath := "kimberlite/grade", byteOffset := 120 }
def ti82 : TI := ⟨(TypeDesc.struct #[fd82_0, fd82_1, fd82_2, fd82_3, fd82_4, fd82_5]), 6, 144, [Value.slice none 0 0, Value.slice none 0 0, Value.slice none 0 0, Value.slice none 0 0, Value.slice none 0 0, Value.slice none 0 0], none⟩
theorem siz82 : ti82.size = 6 := rfl
theorem byt82 : ti82.bytes = 144 := rfl
theorem tok82 : ∃ info z, TOk1 Try.prog 82 ti82 info z := tok1 (z := (Value.agg #[Value.slice none 0 0, Value.slice none 0 0, Value.slice none 0 0, Value.slice none 0 0, Value.slice none 0 0, Value.slice none 0 0])) Try.underlying82 (by kernel_rfl) rfl rfl rfl rfl (by kernel_rfl) (by kernel_rfl)
def ti85 : TI := ⟨(TypeDesc.int IntKind.u64), 1, 8, [Value.int IntKind.u64 0], some (.int .u64)⟩
theorem siz85 : ti85.size = 1 := rfl
theorem byt85 : ti85.bytes = 8 := rfl
theorem tok85 : ∃ info z, TOk1 Try.prog 85 ti85 info z := tok1 (z := (Value.int IntKind.u64 0)) Try.underlying85 (by kernel_rfl) rfl rfl rfl rfl (by kernel_rfl) (by kernel_rfl)
def TY : TT := fun t => match t with
  | 3 => some ti3
  | 4 => some ti4
  | 23 => some ti23
  | 27 => some ti27
  | 30 => some ti30
  | 40 => some ti40
  | 75 => some ti75
  | 78 => some ti78
  | 80 => some ti80
  | 82 => some ti82
  | 85 => some ti85
  | _ => none
theorem TYok : TOk Try.prog TY := by
  intro t i h
  unfold TY at h
  split at h
  · injection h with h
    subst h
    exact tok3
  · injection h with h
    subst h
    exact tok4
  · injection h with h
    subst h
    exact tok23
  · injection h with h
    subst h
    exact tok27
  · injection h with h
    subst h
    exact tok30
  · injection h with h
    subst h
    exact tok40
  · injection h with h
    subst h
    exact tok75
  · injection h with h
    subst h
    exact tok78
  · injection h with h
    subst h
    exact tok80
  · injection h with h
    subst h
    exact tok82
  · injection h with h
    subst h
    exact tok85
  · cases h
end Go.Proofs.Ytpbenjpponbjjaa.En
