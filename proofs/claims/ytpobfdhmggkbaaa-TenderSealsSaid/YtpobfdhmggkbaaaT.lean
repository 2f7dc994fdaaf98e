/- The table of the types that are met. -/
import Derived.Test.YtpobfdhmggkbaaaE15
import Derived.Test.YtpobfdhmggkbaaaProg
namespace Go.Proofs.Ytpobfdhmggkbaaa
open Go.RowKit

def ti3 : TI := ⟨(TypeDesc.int IntKind.i64), 1, 8, [Value.int IntKind.i64 0], some (.int .i64)⟩
theorem siz3 : ti3.size = 1 := rfl
theorem tok3 : ∃ info z, TOk1 Try.prog 3 ti3 info z := tok1 (z := (Value.int IntKind.i64 0)) Try.underlying3 (by kernel_rfl) rfl rfl rfl rfl
def ti4 : TI := ⟨TypeDesc.bool, 1, 1, [Value.bool false], some (.bool)⟩
theorem siz4 : ti4.size = 1 := rfl
theorem tok4 : ∃ info z, TOk1 Try.prog 4 ti4 info z := tok1 (z := (Value.bool false)) Try.underlying4 (by kernel_rfl) rfl rfl rfl rfl
def ti5 : TI := ⟨(TypeDesc.int IntKind.u8), 1, 1, [Value.int IntKind.u8 0], some (.int .u8)⟩
theorem siz5 : ti5.size = 1 := rfl
theorem tok5 : ∃ info z, TOk1 Try.prog 5 ti5 info z := tok1 (z := (Value.int IntKind.u8 0)) Try.underlying5 (by kernel_rfl) rfl rfl rfl rfl
def ti22 : TI := ⟨(TypeDesc.slice 72), 1, 24, [Value.slice none 0 0], none⟩
theorem siz22 : ti22.size = 1 := rfl
theorem tok22 : ∃ info z, TOk1 Try.prog 22 ti22 info z := tok1 (z := (Value.slice none 0 0)) Try.underlying22 (by kernel_rfl) rfl rfl rfl rfl
def ti26 : TI := ⟨(TypeDesc.slice 3), 1, 24, [Value.slice none 0 0], none⟩
theorem siz26 : ti26.size = 1 := rfl
theorem tok26 : ∃ info z, TOk1 Try.prog 26 ti26 info z := tok1 (z := (Value.slice none 0 0)) Try.underlying26 (by kernel_rfl) rfl rfl rfl rfl
def ti27 : TI := ⟨(TypeDesc.int IntKind.i64), 1, 8, [Value.int IntKind.i64 0], some (.int .i64)⟩
theorem siz27 : ti27.size = 1 := rfl
theorem tok27 : ∃ info z, TOk1 Try.prog 27 ti27 info z := tok1 (z := (Value.int IntKind.i64 0)) Try.underlying27 (by kernel_rfl) rfl rfl rfl rfl
def ti37 : TI := ⟨(TypeDesc.struct #[{ name := "Taken", type := 26, offset := 0, embedded := false, tag := "", pkgPath := "", byteOffset := 0 }, { name := "Pays", type := 26, offset := 1, embedded := false, tag := "", pkgPath := "", byteOffset := 24 }, { name := "Worth", type := 3, offset := 2, embedded := false, tag := "", pkgPath := "", byteOffset := 48 }]), 3, 56, [Value.slice none 0 0, Value.slice none 0 0, Value.int IntKind.i64 0], none⟩
theorem siz37 : ti37.size = 3 := rfl
theorem tok37 : ∃ info z, TOk1 Try.prog 37 ti37 info z := tok1 (z := (Value.agg #[Value.slice none 0 0, Value.slice none 0 0, Value.int IntKind.i64 0])) Try.underlying37 (by kernel_rfl) rfl rfl rfl rfl
def ti45 : TI := ⟨(TypeDesc.int IntKind.u64), 1, 8, [Value.int IntKind.u64 0], some (.int .u64)⟩
theorem siz45 : ti45.size = 1 := rfl
theorem tok45 : ∃ info z, TOk1 Try.prog 45 ti45 info z := tok1 (z := (Value.int IntKind.u64 0)) Try.underlying45 (by kernel_rfl) rfl rfl rfl rfl
def ti72 : TI := ⟨(TypeDesc.struct #[{ name := "Buyer", type := 3, offset := 0, embedded := false, tag := "", pkgPath := "", byteOffset := 0 }, { name := "Lots", type := 3, offset := 1, embedded := false, tag := "", pkgPath := "", byteOffset := 8 }, { name := "Price", type := 3, offset := 2, embedded := false, tag := "", pkgPath := "", byteOffset := 16 }]), 3, 24, [Value.int IntKind.i64 0, Value.int IntKind.i64 0, Value.int IntKind.i64 0], some (.int .i64)⟩
theorem siz72 : ti72.size = 3 := rfl
theorem tok72 : ∃ info z, TOk1 Try.prog 72 ti72 info z := tok1 (z := (Value.agg #[Value.int IntKind.i64 0, Value.int IntKind.i64 0, Value.int IntKind.i64 0])) Try.underlying72 (by kernel_rfl) rfl rfl rfl rfl
def ti90 : TI := ⟨(TypeDesc.int IntKind.u64), 1, 8, [Value.int IntKind.u64 0], some (.int .u64)⟩
theorem siz90 : ti90.size = 1 := rfl
theorem tok90 : ∃ info z, TOk1 Try.prog 90 ti90 info z := tok1 (z := (Value.int IntKind.u64 0)) Try.underlying90 (by kernel_rfl) rfl rfl rfl rfl
def ti110 : TI := ⟨(TypeDesc.func #[3] #[4] false), 1, 8, [Value.nilFunc], none⟩
theorem siz110 : ti110.size = 1 := rfl
theorem tok110 : ∃ info z, TOk1 Try.prog 110 ti110 info z := tok1 (z := Value.nilFunc) Try.underlying110 (by kernel_rfl) rfl rfl rfl rfl
def ti112 : TI := ⟨(TypeDesc.int IntKind.u64), 1, 8, [Value.int IntKind.u64 0], some (.int .u64)⟩
theorem siz112 : ti112.size = 1 := rfl
theorem tok112 : ∃ info z, TOk1 Try.prog 112 ti112 info z := tok1 (z := (Value.int IntKind.u64 0)) Try.underlying112 (by kernel_rfl) rfl rfl rfl rfl
def ti114 : TI := ⟨(TypeDesc.func #[45] #[] false), 1, 8, [Value.nilFunc], none⟩
theorem siz114 : ti114.size = 1 := rfl
theorem tok114 : ∃ info z, TOk1 Try.prog 114 ti114 info z := tok1 (z := Value.nilFunc) Try.underlying114 (by kernel_rfl) rfl rfl rfl rfl
def ti137 : TI := ⟨(TypeDesc.func #[3, 3, 3] #[3, 3] false), 1, 8, [Value.nilFunc], none⟩
theorem siz137 : ti137.size = 1 := rfl
theorem tok137 : ∃ info z, TOk1 Try.prog 137 ti137 info z := tok1 (z := Value.nilFunc) Try.underlying137 (by kernel_rfl) rfl rfl rfl rfl
def ti139 : TI := ⟨(TypeDesc.pointer 112), 1, 8, [Value.pointer none], none⟩
theorem siz139 : ti139.size = 1 := rfl
theorem tok139 : ∃ info z, TOk1 Try.prog 139 ti139 info z := tok1 (z := (Value.pointer none)) Try.underlying139 (by kernel_rfl) rfl rfl rfl rfl
def TY : TT := fun t => match t with
  | 3 => some ti3
  | 4 => some ti4
  | 5 => some ti5
  | 22 => some ti22
  | 26 => some ti26
  | 27 => some ti27
  | 37 => some ti37
  | 45 => some ti45
  | 72 => some ti72
  | 90 => some ti90
  | 110 => some ti110
  | 112 => some ti112
  | 114 => some ti114
  | 137 => some ti137
  | 139 => some ti139
  | _ => none
theorem TYok : TOk Try.prog TY := by
  intro t i h
  unfold TY at h
  split at h
  · injection h with h
    subst h
    exact tok3
  · injection h with h
    subst h
    exact tok4
  · injection h with h
    subst h
    exact tok5
  · injection h with h
    subst h
    exact tok22
  · injection h with h
    subst h
    exact tok26
  · injection h with h
    subst h
    exact tok27
  · injection h with h
    subst h
    exact tok37
  · injection h with h
    subst h
    exact tok45
  · injection h with h
    subst h
    exact tok72
  · injection h with h
    subst h
    exact tok90
  · injection h with h
    subst h
    exact tok110
  · injection h with h
    subst h
    exact tok112
  · injection h with h
    subst h
    exact tok114
  · injection h with h
    subst h
    exact tok137
  · injection h with h
    subst h
    exact tok139
  · cases h
end Go.Proofs.Ytpobfdhmggkbaaa
