/- The table of the types that are met. -/
import Derived.Test.YtlbgkfidpkbafaaE15
import Derived.Test.YtlbgkfidpkbafaaProg
namespace Go.Proofs.Ytlbgkfidpkbafaa
open Go.RowKit

def runsOf : List (Nat × Value) → List Value
  | [] => []
  | (n, v) :: r => List.replicate n v ++ runsOf r

def ti3 : TI := ⟨(TypeDesc.int IntKind.i64), 1, 8, [Value.int IntKind.i64 0], some (.int .i64)⟩
theorem siz3 : ti3.size = 1 := rfl
theorem byt3 : ti3.bytes = 8 := rfl
theorem tok3 : ∃ info z, TOk1 Try.prog 3 ti3 info z := tok1 (z := (Value.int IntKind.i64 0)) Try.underlying3 (by kernel_rfl) rfl rfl rfl rfl (by kernel_rfl) (by kernel_rfl)
def ti4 : TI := ⟨TypeDesc.bool, 1, 1, [Value.bool false], some (.bool)⟩
theorem siz4 : ti4.size = 1 := rfl
theorem byt4 : ti4.bytes = 1 := rfl
theorem tok4 : ∃ info z, TOk1 Try.prog 4 ti4 info z := tok1 (z := (Value.bool false)) Try.underlying4 (by kernel_rfl) rfl rfl rfl rfl (by kernel_rfl) (by kernel_rfl)
def ti5 : TI := ⟨(TypeDesc.int IntKind.u8), 1, 1, [Value.int IntKind.u8 0], some (.int .u8)⟩
theorem siz5 : ti5.size = 1 := rfl
theorem byt5 : ti5.bytes = 1 := rfl
theorem tok5 : ∃ info z, TOk1 Try.prog 5 ti5 info z := tok1 (z := (Value.int IntKind.u8 0)) Try.underlying5 (by kernel_rfl) rfl rfl rfl rfl (by kernel_rfl) (by kernel_rfl)
def ti20 : TI := ⟨(TypeDesc.interface #[]), 1, 16, [Value.nilIface], none⟩
theorem siz20 : ti20.size = 1 := rfl
theorem byt20 : ti20.bytes = 16 := rfl
theorem tok20 : ∃ info z, TOk1 Try.prog 20 ti20 info z := tok1 (z := Value.nilIface) Try.underlying20 (by kernel_rfl) rfl rfl rfl rfl (by kernel_rfl) (by kernel_rfl)
def ti22 : TI := ⟨(TypeDesc.slice 35), 1, 24, [Value.slice none 0 0], none⟩
theorem siz22 : ti22.size = 1 := rfl
theorem byt22 : ti22.bytes = 24 := rfl
theorem tok22 : ∃ info z, TOk1 Try.prog 22 ti22 info z := tok1 (z := (Value.slice none 0 0)) Try.underlying22 (by kernel_rfl) rfl rfl rfl rfl (by kernel_rfl) (by kernel_rfl)
def ti25 : TI := ⟨(TypeDesc.pointer 45), 1, 8, [Value.pointer none], none⟩
theorem siz25 : ti25.size = 1 := rfl
theorem byt25 : ti25.bytes = 8 := rfl
theorem tok25 : ∃ info z, TOk1 Try.prog 25 ti25 info z := tok1 (z := (Value.pointer none)) Try.underlying25 (by kernel_rfl) rfl rfl rfl rfl (by kernel_rfl) (by kernel_rfl)
def ti27 : TI := ⟨(TypeDesc.slice 50), 1, 24, [Value.slice none 0 0], none⟩
theorem siz27 : ti27.size = 1 := rfl
theorem byt27 : ti27.bytes = 24 := rfl
theorem tok27 : ∃ info z, TOk1 Try.prog 27 ti27 info z := tok1 (z := (Value.slice none 0 0)) Try.underlying27 (by kernel_rfl) rfl rfl rfl rfl (by kernel_rfl) (by kernel_rfl)
def ti28 : TI := ⟨(TypeDesc.slice 67), 1, 24, [Value.slice none 0 0], none⟩
theorem siz28 : ti28.size = 1 := rfl
theorem byt28 : ti28.bytes = 24 := rfl
theorem tok28 : ∃ info z, TOk1 Try.prog 28 ti28 info z := tok1 (z := (Value.slice none 0 0)) Try.underlying28 (by kernel_rfl) rfl rfl rfl rfl (by kernel_rfl) (by kernel_rfl)
def ti30 : TI := ⟨(TypeDesc.struct #[{ name := "G", type := 27, offset := 0, embedded := false, tag := "", pkgPath := "", byteOffset := 0 }, { name := "E", type := 28, offset := 1, embedded := false, tag := "", pkgPath := "", byteOffset := 24 }, { name := "Day", type := 3, offset := 2, embedded := false, tag := "", pkgPath := "", byteOffset := 48 }]), 3, 56, [Value.slice none 0 0, Value.slice none 0 0, Value.int IntKind.i64 0], none⟩
theorem siz30 : ti30.size = 3 := rfl
theorem byt30 : ti30.bytes = 56 := rfl
theorem tok30 : ∃ info z, TOk1 Try.prog 30 ti30 info z := tok1 (z := (Value.agg #[Value.slice none 0 0, Value.slice none 0 0, Value.int IntKind.i64 0])) Try.underlying30 (by kernel_rfl) rfl rfl rfl rfl (by kernel_rfl) (by kernel_rfl)
def fd35_0 : Field := { name := "Kind", type := 5, offset := 0, embedded := false, tag := "", pkgPath := "", byteOffset := 0 }
def fd35_1 : Field := { name := "G", type := 3, offset := 1, embedded := false, tag := "", pkgPath := "", byteOffset := 8 }
def fd35_2 : Field := { name := "H", type := 3, offset := 2, embedded := false, tag := "", pkgPath := "", byteOffset := 16 }
def fd35_3 : Field := { name := "A", type := 3, offset := 3, embedded := false, tag := "", pkgPath := "", byteOffset := 24 }
def fd35_4 : Field := { name := "B", type := 3, offset := 4, embedded := false, tag := "", pkgPath := "", byteOffset := 32 }
def fd35_5 : Field := { name := "C", type := 3, offset := 5, embedded := false, tag := "", pkgPath := "", byteOffset := 40 }
def fd35_6 : Field := { name := "Vaults", type := 3, offset := 6, embedded := false, tag := "", pkgPath := "", byteOffset := 48 }
def fd35_7 : Field := { name := "Rights", type := 3, offset := 7, embedded := false, tag := "", pkgPath := "", byteOffset := 56 }
def fd35_8 : Field := { name := "Until", type := 3, offset := 8, embedded := false, tag := "", pkgPath := "", byteOffset := 64 }
def fd35_9 : Field := { name := "Uses", type := 3, offset := 9, embedded := false, tag := "", pkgPath := "", byteOffset := 72 }
def fd35_10 : Field := { name := "N", type := 3, offset := 10, embedded := false, tag := "", pkgPath := "", byteOffset := 80 }
def ti35 : TI := ⟨(TypeDesc.struct #[fd35_0, fd35_1, fd35_2, fd35_3, fd35_4, fd35_5, fd35_6, fd35_7, fd35_8, fd35_9, fd35_10]), 11, 88, [Value.int IntKind.u8 0, Value.int IntKind.i64 0, Value.int IntKind.i64 0, Value.int IntKind.i64 0, Value.int IntKind.i64 0, Value.int IntKind.i64 0, Value.int IntKind.i64 0, Value.int IntKind.i64 0, Value.int IntKind.i64 0, Value.int IntKind.i64 0, Value.int IntKind.i64 0], none⟩
theorem siz35 : ti35.size = 11 := rfl
theorem byt35 : ti35.bytes = 88 := rfl
theorem tok35 : ∃ info z, TOk1 Try.prog 35 ti35 info z := tok1 (z := (Value.agg #[Value.int IntKind.u8 0, Value.int IntKind.i64 0, Value.int IntKind.i64 0, Value.int IntKind.i64 0, Value.int IntKind.i64 0, Value.int IntKind.i64 0, Value.int IntKind.i64 0, Value.int IntKind.i64 0, Value.int IntKind.i64 0, Value.int IntKind.i64 0, Value.int IntKind.i64 0])) Try.underlying35 (by kernel_rfl) rfl rfl rfl rfl (by kernel_rfl) (by kernel_rfl)
def ti39 : TI := ⟨(TypeDesc.int IntKind.i64), 1, 8, [Value.int IntKind.i64 0], some (.int .i64)⟩
theorem siz39 : ti39.size = 1 := rfl
theorem byt39 : ti39.bytes = 8 := rfl
theorem tok39 : ∃ info z, TOk1 Try.prog 39 ti39 info z := tok1 (z := (Value.int IntKind.i64 0)) Try.underlying39 (by kernel_rfl) rfl rfl rfl rfl (by kernel_rfl) (by kernel_rfl)
def ti45 : TI := ⟨(TypeDesc.struct #[{ name := "made", type := 4, offset := 0, embedded := false, tag := "", pkgPath := "kimberlite/custody", byteOffset := 0 }, { name := "day", type := 3, offset := 1, embedded := false, tag := "", pkgPath := "kimberlite/custody", byteOffset := 8 }, { name := "grants", type := 27, offset := 2, embedded := false, tag := "", pkgPath := "kimberlite/custody", byteOffset := 16 }, { name := "entries", type := 28, offset := 3, embedded := false, tag := "", pkgPath := "kimberlite/custody", byteOffset := 40 }]), 4, 64, [Value.bool false, Value.int IntKind.i64 0, Value.slice none 0 0, Value.slice none 0 0], none⟩
theorem siz45 : ti45.size = 4 := rfl
theorem byt45 : ti45.bytes = 64 := rfl
theorem tok45 : ∃ info z, TOk1 Try.prog 45 ti45 info z := tok1 (z := (Value.agg #[Value.bool false, Value.int IntKind.i64 0, Value.slice none 0 0, Value.slice none 0 0])) Try.underlying45 (by kernel_rfl) rfl rfl rfl rfl (by kernel_rfl) (by kernel_rfl)
def fd50_0 : Field := { name := "No", type := 3, offset := 0, embedded := false, tag := "", pkgPath := "", byteOffset := 0 }
def fd50_1 : Field := { name := "Above", type := 3, offset := 1, embedded := false, tag := "", pkgPath := "", byteOffset := 8 }
def fd50_2 : Field := { name := "Root", type := 3, offset := 2, embedded := false, tag := "", pkgPath := "", byteOffset := 16 }
def fd50_3 : Field := { name := "Holder", type := 3, offset := 3, embedded := false, tag := "", pkgPath := "", byteOffset := 24 }
def fd50_4 : Field := { name := "Vaults", type := 3, offset := 4, embedded := false, tag := "", pkgPath := "", byteOffset := 32 }
def fd50_5 : Field := { name := "Rights", type := 3, offset := 5, embedded := false, tag := "", pkgPath := "", byteOffset := 40 }
def fd50_6 : Field := { name := "Until", type := 3, offset := 6, embedded := false, tag := "", pkgPath := "", byteOffset := 48 }
def fd50_7 : Field := { name := "Uses", type := 3, offset := 7, embedded := false, tag := "", pkgPath := "", byteOffset := 56 }
def fd50_8 : Field := { name := "Revoked", type := 4, offset := 8, embedded := false, tag := "", pkgPath := "", byteOffset := 64 }
def ti50 : TI := ⟨(TypeDesc.struct #[fd50_0, fd50_1, fd50_2, fd50_3, fd50_4, fd50_5, fd50_6, fd50_7, fd50_8]), 9, 72, [Value.int IntKind.i64 0, Value.int IntKind.i64 0, Value.int IntKind.i64 0, Value.int IntKind.i64 0, Value.int IntKind.i64 0, Value.int IntKind.i64 0, Value.int IntKind.i64 0, Value.int IntKind.i64 0, Value.bool false], none⟩
theorem siz50 : ti50.size = 9 := rfl
theorem byt50 : ti50.bytes = 72 := rfl
theorem tok50 : ∃ info z, TOk1 Try.prog 50 ti50 info z := tok1 (z := (Value.agg #[Value.int IntKind.i64 0, Value.int IntKind.i64 0, Value.int IntKind.i64 0, Value.int IntKind.i64 0, Value.int IntKind.i64 0, Value.int IntKind.i64 0, Value.int IntKind.i64 0, Value.int IntKind.i64 0, Value.bool false])) Try.underlying50 (by kernel_rfl) rfl rfl rfl rfl (by kernel_rfl) (by kernel_rfl)
def ti55 : TI := ⟨(TypeDesc.slice 3), 1, 24, [Value.slice none 0 0], none⟩
theorem siz55 : ti55.size = 1 := rfl
theorem byt55 : ti55.bytes = 24 := rfl
theorem tok55 : ∃ info z, TOk1 Try.prog 55 ti55 info z := tok1 (z := (Value.slice none 0 0)) Try.underlying55 (by kernel_rfl) rfl rfl rfl rfl (by kernel_rfl) (by kernel_rfl)
def ti67 : TI := ⟨(TypeDesc.struct #[{ name := "Day", type := 3, offset := 0, embedded := false, tag := "", pkgPath := "", byteOffset := 0 }, { name := "Vault", type := 3, offset := 1, embedded := false, tag := "", pkgPath := "", byteOffset := 8 }, { name := "First", type := 3, offset := 2, embedded := false, tag := "", pkgPath := "", byteOffset := 16 }, { name := "Second", type := 3, offset := 3, embedded := false, tag := "", pkgPath := "", byteOffset := 24 }]), 4, 32, [Value.int IntKind.i64 0, Value.int IntKind.i64 0, Value.int IntKind.i64 0, Value.int IntKind.i64 0], some (.int .i64)⟩
theorem siz67 : ti67.size = 4 := rfl
theorem byt67 : ti67.bytes = 32 := rfl
theorem tok67 : ∃ info z, TOk1 Try.prog 67 ti67 info z := tok1 (z := (Value.agg #[Value.int IntKind.i64 0, Value.int IntKind.i64 0, Value.int IntKind.i64 0, Value.int IntKind.i64 0])) Try.underlying67 (by kernel_rfl) rfl rfl rfl rfl (by kernel_rfl) (by kernel_rfl)
def ti68 : TI := ⟨(TypeDesc.slice 4), 1, 24, [Value.slice none 0 0], none⟩
theorem siz68 : ti68.size = 1 := rfl
theorem byt68 : ti68.bytes = 24 := rfl
theorem tok68 : ∃ info z, TOk1 Try.prog 68 ti68 info z := tok1 (z := (Value.slice none 0 0)) Try.underlying68 (by kernel_rfl) rfl rfl rfl rfl (by kernel_rfl) (by kernel_rfl)
def ti87 : TI := ⟨(TypeDesc.slice 89), 1, 24, [Value.slice none 0 0], none⟩
theorem siz87 : ti87.size = 1 := rfl
theorem byt87 : ti87.bytes = 24 := rfl
theorem tok87 : ∃ info z, TOk1 Try.prog 87 ti87 info z := tok1 (z := (Value.slice none 0 0)) Try.underlying87 (by kernel_rfl) rfl rfl rfl rfl (by kernel_rfl) (by kernel_rfl)
def ti89 : TI := ⟨(TypeDesc.pointer 50), 1, 8, [Value.pointer none], none⟩
theorem siz89 : ti89.size = 1 := rfl
theorem byt89 : ti89.bytes = 8 := rfl
theorem tok89 : ∃ info z, TOk1 Try.prog 89 ti89 info z := tok1 (z := (Value.pointer none)) Try.underlying89 (by kernel_rfl) rfl rfl rfl rfl (by kernel_rfl) (by kernel_rfl)
def ti98 : TI := ⟨(TypeDesc.func #[89] #[4] false), 1, 8, [Value.nilFunc], none⟩
theorem siz98 : ti98.size = 1 := rfl
theorem byt98 : ti98.bytes = 8 := rfl
theorem tok98 : ∃ info z, TOk1 Try.prog 98 ti98 info z := tok1 (z := Value.nilFunc) Try.underlying98 (by kernel_rfl) rfl rfl rfl rfl (by kernel_rfl) (by kernel_rfl)
def ti110 : TI := ⟨(TypeDesc.int IntKind.i64), 1, 8, [Value.int IntKind.i64 0], some (.int .i64)⟩
theorem siz110 : ti110.size = 1 := rfl
theorem byt110 : ti110.bytes = 8 := rfl
theorem tok110 : ∃ info z, TOk1 Try.prog 110 ti110 info z := tok1 (z := (Value.int IntKind.i64 0)) Try.underlying110 (by kernel_rfl) rfl rfl rfl rfl (by kernel_rfl) (by kernel_rfl)
def TY : TT := fun t => match t with
  | 3 => some ti3
  | 4 => some ti4
  | 5 => some ti5
  | 20 => some ti20
  | 22 => some ti22
  | 25 => some ti25
  | 27 => some ti27
  | 28 => some ti28
  | 30 => some ti30
  | 35 => some ti35
  | 39 => some ti39
  | 45 => some ti45
  | 50 => some ti50
  | 55 => some ti55
  | 67 => some ti67
  | 68 => some ti68
  | 87 => some ti87
  | 89 => some ti89
  | 98 => some ti98
  | 110 => some ti110
  | _ => none
theorem TYok : TOk Try.prog TY := by
  intro t i h
  unfold TY at h
  split at h
  · injection h with h
    subst h
    exact tok3
  · injection h with h
    subst h
    exact tok4
  · injection h with h
    subst h
    exact tok5
  · injection h with h
    subst h
    exact tok20
  · injection h with h
    subst h
    exact tok22
  · injection h with h
    subst h
    exact tok25
  · injection h with h
    subst h
    exact tok27
  · injection h with h
    subst h
    exact tok28
  · injection h with h
    subst h
    exact tok30
  · injection h with h
    subst h
    exact tok35
  · injection h with h
    subst h
    exact tok39
  · injection h with h
    subst h
    exact tok45
  · injection h with h
    subst h
    exact tok50
  · injection h with h
    subst h
    exact tok55
  · injection h with h
    subst h
    exact tok67
  · injection h with h
    subst h
    exact tok68
  · injection h with h
    subst h
    exact tok87
  · injection h with h
    subst h
    exact tok89
  · injection h with h
    subst h
    exact tok98
  · injection h with h
    subst h
    exact tok110
  · cases h
end Go.Proofs.Ytlbgkfidpkbafaa
