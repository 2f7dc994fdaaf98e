/- The table of the types that are met. -/
import Derived.Test.YtdepnhnpklbmiaaE15
import Derived.Test.YtdepnhnpklbmiaaProg
namespace Go.Proofs.Ytdepnhnpklbmiaa
open Go.RowKit

def runsOf : List (Nat × Value) → List Value
  | [] => []
  | (n, v) :: r => List.replicate n v ++ runsOf r

def ti3 : TI := ⟨(TypeDesc.int IntKind.i64), 1, 8, [Value.int IntKind.i64 0], some (.int .i64)⟩
theorem siz3 : ti3.size = 1 := rfl
theorem byt3 : ti3.bytes = 8 := rfl
theorem tok3 : ∃ info z, TOk1 Try.prog 3 ti3 info z := tok1 (z := (Value.int IntKind.i64 0)) Try.underlying3 (by kernel_rfl) rfl rfl rfl rfl (by kernel_rfl) (by kernel_rfl)
def ti4 : TI := ⟨TypeDesc.bool, 1, 1, [Value.bool false], some (.bool)⟩
theorem siz4 : ti4.size = 1 := rfl
theorem byt4 : ti4.bytes = 1 := rfl
theorem tok4 : ∃ info z, TOk1 Try.prog 4 ti4 info z := tok1 (z := (Value.bool false)) Try.underlying4 (by kernel_rfl) rfl rfl rfl rfl (by kernel_rfl) (by kernel_rfl)
def ti22 : TI := ⟨(TypeDesc.slice 3), 1, 24, [Value.slice none 0 0], none⟩
theorem siz22 : ti22.size = 1 := rfl
theorem byt22 : ti22.bytes = 24 := rfl
theorem tok22 : ∃ info z, TOk1 Try.prog 22 ti22 info z := tok1 (z := (Value.slice none 0 0)) Try.underlying22 (by kernel_rfl) rfl rfl rfl rfl (by kernel_rfl) (by kernel_rfl)
def ti24 : TI := ⟨(TypeDesc.struct #[{ name := "From", type := 3, offset := 0, embedded := false, tag := "", pkgPath := "", byteOffset := 0 }, { name := "First", type := 3, offset := 1, embedded := false, tag := "", pkgPath := "", byteOffset := 8 }, { name := "Slopes", type := 22, offset := 2, embedded := false, tag := "", pkgPath := "", byteOffset := 16 }]), 3, 40, [Value.int IntKind.i64 0, Value.int IntKind.i64 0, Value.slice none 0 0], none⟩
theorem siz24 : ti24.size = 3 := rfl
theorem byt24 : ti24.bytes = 40 := rfl
theorem tok24 : ∃ info z, TOk1 Try.prog 24 ti24 info z := tok1 (z := (Value.agg #[Value.int IntKind.i64 0, Value.int IntKind.i64 0, Value.slice none 0 0])) Try.underlying24 (by kernel_rfl) rfl rfl rfl rfl (by kernel_rfl) (by kernel_rfl)
def ti25 : TI := ⟨(TypeDesc.func #[24] #[4] false), 1, 8, [Value.nilFunc], none⟩
theorem siz25 : ti25.size = 1 := rfl
theorem byt25 : ti25.bytes = 8 := rfl
theorem tok25 : ∃ info z, TOk1 Try.prog 25 ti25 info z := tok1 (z := Value.nilFunc) Try.underlying25 (by kernel_rfl) rfl rfl rfl rfl (by kernel_rfl) (by kernel_rfl)
def ti28 : TI := ⟨(TypeDesc.int IntKind.i64), 1, 8, [Value.int IntKind.i64 0], some (.int .i64)⟩
theorem siz28 : ti28.size = 1 := rfl
theorem byt28 : ti28.bytes = 8 := rfl
theorem tok28 : ∃ info z, TOk1 Try.prog 28 ti28 info z := tok1 (z := (Value.int IntKind.i64 0)) Try.underlying28 (by kernel_rfl) rfl rfl rfl rfl (by kernel_rfl) (by kernel_rfl)
def ti45 : TI := ⟨(TypeDesc.slice 24), 1, 24, [Value.slice none 0 0], none⟩
theorem siz45 : ti45.size = 1 := rfl
theorem byt45 : ti45.bytes = 24 := rfl
theorem tok45 : ∃ info z, TOk1 Try.prog 45 ti45 info z := tok1 (z := (Value.slice none 0 0)) Try.underlying45 (by kernel_rfl) rfl rfl rfl rfl (by kernel_rfl) (by kernel_rfl)
def ti59 : TI := ⟨(TypeDesc.func #[24] #[3] false), 1, 8, [Value.nilFunc], none⟩
theorem siz59 : ti59.size = 1 := rfl
theorem byt59 : ti59.bytes = 8 := rfl
theorem tok59 : ∃ info z, TOk1 Try.prog 59 ti59 info z := tok1 (z := Value.nilFunc) Try.underlying59 (by kernel_rfl) rfl rfl rfl rfl (by kernel_rfl) (by kernel_rfl)
def ti64 : TI := ⟨(TypeDesc.struct #[{ name := "From", type := 3, offset := 0, embedded := false, tag := "", pkgPath := "", byteOffset := 0 }, { name := "V", type := 22, offset := 1, embedded := false, tag := "", pkgPath := "", byteOffset := 8 }]), 2, 32, [Value.int IntKind.i64 0, Value.slice none 0 0], none⟩
theorem siz64 : ti64.size = 2 := rfl
theorem byt64 : ti64.bytes = 32 := rfl
theorem tok64 : ∃ info z, TOk1 Try.prog 64 ti64 info z := tok1 (z := (Value.agg #[Value.int IntKind.i64 0, Value.slice none 0 0])) Try.underlying64 (by kernel_rfl) rfl rfl rfl rfl (by kernel_rfl) (by kernel_rfl)
def ti66 : TI := ⟨(TypeDesc.func #[3] #[4] false), 1, 8, [Value.nilFunc], none⟩
theorem siz66 : ti66.size = 1 := rfl
theorem byt66 : ti66.bytes = 8 := rfl
theorem tok66 : ∃ info z, TOk1 Try.prog 66 ti66 info z := tok1 (z := Value.nilFunc) Try.underlying66 (by kernel_rfl) rfl rfl rfl rfl (by kernel_rfl) (by kernel_rfl)
def TY : TT := fun t => match t with
  | 3 => some ti3
  | 4 => some ti4
  | 22 => some ti22
  | 24 => some ti24
  | 25 => some ti25
  | 28 => some ti28
  | 45 => some ti45
  | 59 => some ti59
  | 64 => some ti64
  | 66 => some ti66
  | _ => none
theorem TYok : TOk Try.prog TY := by
  intro t i h
  unfold TY at h
  split at h
  · injection h with h
    subst h
    exact tok3
  · injection h with h
    subst h
    exact tok4
  · injection h with h
    subst h
    exact tok22
  · injection h with h
    subst h
    exact tok24
  · injection h with h
    subst h
    exact tok25
  · injection h with h
    subst h
    exact tok28
  · injection h with h
    subst h
    exact tok45
  · injection h with h
    subst h
    exact tok59
  · injection h with h
    subst h
    exact tok64
  · injection h with h
    subst h
    exact tok66
  · cases h
end Go.Proofs.Ytdepnhnpklbmiaa
