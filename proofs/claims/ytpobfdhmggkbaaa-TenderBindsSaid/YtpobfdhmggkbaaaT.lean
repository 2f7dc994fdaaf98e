/- The table of the types that are met. -/
import Derived.Test.YtpobfdhmggkbaaaE15
import Derived.Test.YtpobfdhmggkbaaaProg
namespace Go.Proofs.Ytpobfdhmggkbaaa
open Go.RowKit

def runsOf : List (Nat × Value) → List Value
  | [] => []
  | (n, v) :: r => List.replicate n v ++ runsOf r

def ti3 : TI := ⟨(TypeDesc.int IntKind.i64), 1, 8, [Value.int IntKind.i64 0], some (.int .i64)⟩
theorem siz3 : ti3.size = 1 := rfl
theorem byt3 : ti3.bytes = 8 := rfl
theorem tok3 : ∃ info z, TOk1 Try.prog 3 ti3 info z := tok1 (z := (Value.int IntKind.i64 0)) Try.underlying3 (by kernel_rfl) rfl rfl rfl rfl (by kernel_rfl) (by kernel_rfl)
def ti4 : TI := ⟨TypeDesc.bool, 1, 1, [Value.bool false], some (.bool)⟩
theorem siz4 : ti4.size = 1 := rfl
theorem byt4 : ti4.bytes = 1 := rfl
theorem tok4 : ∃ info z, TOk1 Try.prog 4 ti4 info z := tok1 (z := (Value.bool false)) Try.underlying4 (by kernel_rfl) rfl rfl rfl rfl (by kernel_rfl) (by kernel_rfl)
def ti5 : TI := ⟨(TypeDesc.int IntKind.u8), 1, 1, [Value.int IntKind.u8 0], some (.int .u8)⟩
theorem siz5 : ti5.size = 1 := rfl
theorem byt5 : ti5.bytes = 1 := rfl
theorem tok5 : ∃ info z, TOk1 Try.prog 5 ti5 info z := tok1 (z := (Value.int IntKind.u8 0)) Try.underlying5 (by kernel_rfl) rfl rfl rfl rfl (by kernel_rfl) (by kernel_rfl)
def ti22 : TI := ⟨(TypeDesc.slice 72), 1, 24, [Value.slice none 0 0], none⟩
theorem siz22 : ti22.size = 1 := rfl
theorem byt22 : ti22.bytes = 24 := rfl
theorem tok22 : ∃ info z, TOk1 Try.prog 22 ti22 info z := tok1 (z := (Value.slice none 0 0)) Try.underlying22 (by kernel_rfl) rfl rfl rfl rfl (by kernel_rfl) (by kernel_rfl)
def ti26 : TI := ⟨(TypeDesc.slice 3), 1, 24, [Value.slice none 0 0], none⟩
theorem siz26 : ti26.size = 1 := rfl
theorem byt26 : ti26.bytes = 24 := rfl
theorem tok26 : ∃ info z, TOk1 Try.prog 26 ti26 info z := tok1 (z := (Value.slice none 0 0)) Try.underlying26 (by kernel_rfl) rfl rfl rfl rfl (by kernel_rfl) (by kernel_rfl)
def ti27 : TI := ⟨(TypeDesc.int IntKind.i64), 1, 8, [Value.int IntKind.i64 0], some (.int .i64)⟩
theorem siz27 : ti27.size = 1 := rfl
theorem byt27 : ti27.bytes = 8 := rfl
theorem tok27 : ∃ info z, TOk1 Try.prog 27 ti27 info z := tok1 (z := (Value.int IntKind.i64 0)) Try.underlying27 (by kernel_rfl) rfl rfl rfl rfl (by kernel_rfl) (by kernel_rfl)
def ti37 : TI := ⟨(TypeDesc.struct #[{ name := "Taken", type := 26, offset := 0, embedded := false, tag := "", pkgPath := "", byteOffset := 0 }, { name := "Pays", type := 26, offset := 1, embedded := false, tag := "", pkgPath := "", byteOffset := 24 }, { name := "Worth", type := 3, offset := 2, embedded := false, tag := "", pkgPath := "", byteOffset := 48 }]), 3, 56, [Value.slice none 0 0, Value.slice none 0 0, Value.int IntKind.i64 0], none⟩
theorem siz37 : ti37.size = 3 := rfl
theorem byt37 : ti37.bytes = 56 := rfl
theorem tok37 : ∃ info z, TOk1 Try.prog 37 ti37 info z := tok1 (z := (Value.agg #[Value.slice none 0 0, Value.slice none 0 0, Value.int IntKind.i64 0])) Try.underlying37 (by kernel_rfl) rfl rfl rfl rfl (by kernel_rfl) (by kernel_rfl)
def ti45 : TI := ⟨(TypeDesc.int IntKind.u64), 1, 8, [Value.int IntKind.u64 0], some (.int .u64)⟩
theorem siz45 : ti45.size = 1 := rfl
theorem byt45 : ti45.bytes = 8 := rfl
theorem tok45 : ∃ info z, TOk1 Try.prog 45 ti45 info z := tok1 (z := (Value.int IntKind.u64 0)) Try.underlying45 (by kernel_rfl) rfl rfl rfl rfl (by kernel_rfl) (by kernel_rfl)
def ti48 : TI := ⟨(TypeDesc.slice 63), 1, 24, [Value.slice none 0 0], none⟩
theorem siz48 : ti48.size = 1 := rfl
theorem byt48 : ti48.bytes = 24 := rfl
theorem tok48 : ∃ info z, TOk1 Try.prog 48 ti48 info z := tok1 (z := (Value.slice none 0 0)) Try.underlying48 (by kernel_rfl) rfl rfl rfl rfl (by kernel_rfl) (by kernel_rfl)
def ti50 : TI := ⟨(TypeDesc.pointer 75), 1, 8, [Value.pointer none], none⟩
theorem siz50 : ti50.size = 1 := rfl
theorem byt50 : ti50.bytes = 8 := rfl
theorem tok50 : ∃ info z, TOk1 Try.prog 50 ti50 info z := tok1 (z := (Value.pointer none)) Try.underlying50 (by kernel_rfl) rfl rfl rfl rfl (by kernel_rfl) (by kernel_rfl)
def ti53 : TI := ⟨(TypeDesc.slice 4), 1, 24, [Value.slice none 0 0], none⟩
theorem siz53 : ti53.size = 1 := rfl
theorem byt53 : ti53.bytes = 24 := rfl
theorem tok53 : ∃ info z, TOk1 Try.prog 53 ti53 info z := tok1 (z := (Value.slice none 0 0)) Try.underlying53 (by kernel_rfl) rfl rfl rfl rfl (by kernel_rfl) (by kernel_rfl)
def ti54 : TI := ⟨(TypeDesc.slice 45), 1, 24, [Value.slice none 0 0], none⟩
theorem siz54 : ti54.size = 1 := rfl
theorem byt54 : ti54.bytes = 24 := rfl
theorem tok54 : ∃ info z, TOk1 Try.prog 54 ti54 info z := tok1 (z := (Value.slice none 0 0)) Try.underlying54 (by kernel_rfl) rfl rfl rfl rfl (by kernel_rfl) (by kernel_rfl)
def ti55 : TI := ⟨(TypeDesc.slice 22), 1, 24, [Value.slice none 0 0], none⟩
theorem siz55 : ti55.size = 1 := rfl
theorem byt55 : ti55.bytes = 24 := rfl
theorem tok55 : ∃ info z, TOk1 Try.prog 55 ti55 info z := tok1 (z := (Value.slice none 0 0)) Try.underlying55 (by kernel_rfl) rfl rfl rfl rfl (by kernel_rfl) (by kernel_rfl)
def fd57_0 : Field := { name := "Lots", type := 3, offset := 0, embedded := false, tag := "", pkgPath := "", byteOffset := 0 }
def fd57_1 : Field := { name := "State", type := 3, offset := 1, embedded := false, tag := "", pkgPath := "", byteOffset := 8 }
def fd57_2 : Field := { name := "Given", type := 53, offset := 2, embedded := false, tag := "", pkgPath := "", byteOffset := 16 }
def fd57_3 : Field := { name := "Seals", type := 54, offset := 3, embedded := false, tag := "", pkgPath := "", byteOffset := 40 }
def fd57_4 : Field := { name := "Shown", type := 53, offset := 4, embedded := false, tag := "", pkgPath := "", byteOffset := 64 }
def fd57_5 : Field := { name := "Shows", type := 55, offset := 5, embedded := false, tag := "", pkgPath := "", byteOffset := 88 }
def ti57 : TI := ⟨(TypeDesc.struct #[fd57_0, fd57_1, fd57_2, fd57_3, fd57_4, fd57_5]), 6, 112, [Value.int IntKind.i64 0, Value.int IntKind.i64 0, Value.slice none 0 0, Value.slice none 0 0, Value.slice none 0 0, Value.slice none 0 0], none⟩
theorem siz57 : ti57.size = 6 := rfl
theorem byt57 : ti57.bytes = 112 := rfl
theorem tok57 : ∃ info z, TOk1 Try.prog 57 ti57 info z := tok1 (z := (Value.agg #[Value.int IntKind.i64 0, Value.int IntKind.i64 0, Value.slice none 0 0, Value.slice none 0 0, Value.slice none 0 0, Value.slice none 0 0])) Try.underlying57 (by kernel_rfl) rfl rfl rfl rfl (by kernel_rfl) (by kernel_rfl)
def ti63 : TI := ⟨(TypeDesc.struct #[{ name := "Kind", type := 5, offset := 0, embedded := false, tag := "", pkgPath := "", byteOffset := 0 }, { name := "Buyer", type := 3, offset := 1, embedded := false, tag := "", pkgPath := "", byteOffset := 8 }, { name := "Offers", type := 22, offset := 2, embedded := false, tag := "", pkgPath := "", byteOffset := 16 }, { name := "Salt", type := 45, offset := 3, embedded := false, tag := "", pkgPath := "", byteOffset := 40 }, { name := "Raw", type := 4, offset := 4, embedded := false, tag := "", pkgPath := "", byteOffset := 48 }]), 5, 56, [Value.int IntKind.u8 0, Value.int IntKind.i64 0, Value.slice none 0 0, Value.int IntKind.u64 0, Value.bool false], none⟩
theorem siz63 : ti63.size = 5 := rfl
theorem byt63 : ti63.bytes = 56 := rfl
theorem tok63 : ∃ info z, TOk1 Try.prog 63 ti63 info z := tok1 (z := (Value.agg #[Value.int IntKind.u8 0, Value.int IntKind.i64 0, Value.slice none 0 0, Value.int IntKind.u64 0, Value.bool false])) Try.underlying63 (by kernel_rfl) rfl rfl rfl rfl (by kernel_rfl) (by kernel_rfl)
def ti69 : TI := ⟨(TypeDesc.array 8 4), 8, 8, [Value.bool false, Value.bool false, Value.bool false, Value.bool false, Value.bool false, Value.bool false, Value.bool false, Value.bool false], some (.bool)⟩
theorem siz69 : ti69.size = 8 := rfl
theorem byt69 : ti69.bytes = 8 := rfl
theorem tok69 : ∃ info z, TOk1 Try.prog 69 ti69 info z := tok1 (z := (Value.agg #[Value.bool false, Value.bool false, Value.bool false, Value.bool false, Value.bool false, Value.bool false, Value.bool false, Value.bool false])) Try.underlying69 (by kernel_rfl) rfl rfl rfl rfl (by kernel_rfl) (by kernel_rfl)
def ti70 : TI := ⟨(TypeDesc.array 8 45), 8, 64, [Value.int IntKind.u64 0, Value.int IntKind.u64 0, Value.int IntKind.u64 0, Value.int IntKind.u64 0, Value.int IntKind.u64 0, Value.int IntKind.u64 0, Value.int IntKind.u64 0, Value.int IntKind.u64 0], some (.int .u64)⟩
theorem siz70 : ti70.size = 8 := rfl
theorem byt70 : ti70.bytes = 64 := rfl
theorem tok70 : ∃ info z, TOk1 Try.prog 70 ti70 info z := tok1 (z := (Value.agg #[Value.int IntKind.u64 0, Value.int IntKind.u64 0, Value.int IntKind.u64 0, Value.int IntKind.u64 0, Value.int IntKind.u64 0, Value.int IntKind.u64 0, Value.int IntKind.u64 0, Value.int IntKind.u64 0])) Try.underlying70 (by kernel_rfl) rfl rfl rfl rfl (by kernel_rfl) (by kernel_rfl)
def ti72 : TI := ⟨(TypeDesc.struct #[{ name := "Buyer", type := 3, offset := 0, embedded := false, tag := "", pkgPath := "", byteOffset := 0 }, { name := "Lots", type := 3, offset := 1, embedded := false, tag := "", pkgPath := "", byteOffset := 8 }, { name := "Price", type := 3, offset := 2, embedded := false, tag := "", pkgPath := "", byteOffset := 16 }]), 3, 24, [Value.int IntKind.i64 0, Value.int IntKind.i64 0, Value.int IntKind.i64 0], some (.int .i64)⟩
theorem siz72 : ti72.size = 3 := rfl
theorem byt72 : ti72.bytes = 24 := rfl
theorem tok72 : ∃ info z, TOk1 Try.prog 72 ti72 info z := tok1 (z := (Value.agg #[Value.int IntKind.i64 0, Value.int IntKind.i64 0, Value.int IntKind.i64 0])) Try.underlying72 (by kernel_rfl) rfl rfl rfl rfl (by kernel_rfl) (by kernel_rfl)
def ti73 : TI := ⟨(TypeDesc.array 16 72), 48, 384, (runsOf [(48, Value.int IntKind.i64 0)]), some (.int .i64)⟩
theorem siz73 : ti73.size = 48 := rfl
theorem byt73 : ti73.bytes = 384 := rfl
theorem tok73 : ∃ info z, TOk1 Try.prog 73 ti73 info z := tok1 (z := (Value.agg #[Value.int IntKind.i64 0, Value.int IntKind.i64 0, Value.int IntKind.i64 0, Value.int IntKind.i64 0, Value.int IntKind.i64 0, Value.int IntKind.i64 0, Value.int IntKind.i64 0, Value.int IntKind.i64 0, Value.int IntKind.i64 0, Value.int IntKind.i64 0, Value.int IntKind.i64 0, Value.int IntKind.i64 0, Value.int IntKind.i64 0, Value.int IntKind.i64 0, Value.int IntKind.i64 0, Value.int IntKind.i64 0, Value.int IntKind.i64 0, Value.int IntKind.i64 0, Value.int IntKind.i64 0, Value.int IntKind.i64 0, Value.int IntKind.i64 0, Value.int IntKind.i64 0, Value.int IntKind.i64 0, Value.int IntKind.i64 0, Value.int IntKind.i64 0, Value.int IntKind.i64 0, Value.int IntKind.i64 0, Value.int IntKind.i64 0, Value.int IntKind.i64 0, Value.int IntKind.i64 0, Value.int IntKind.i64 0, Value.int IntKind.i64 0, Value.int IntKind.i64 0, Value.int IntKind.i64 0, Value.int IntKind.i64 0, Value.int IntKind.i64 0, Value.int IntKind.i64 0, Value.int IntKind.i64 0, Value.int IntKind.i64 0, Value.int IntKind.i64 0, Value.int IntKind.i64 0, Value.int IntKind.i64 0, Value.int IntKind.i64 0, Value.int IntKind.i64 0, Value.int IntKind.i64 0, Value.int IntKind.i64 0, Value.int IntKind.i64 0, Value.int IntKind.i64 0])) Try.underlying73 (by kernel_rfl) rfl rfl rfl rfl (by kernel_rfl) (by kernel_rfl)
def fd75_0 : Field := { name := "lots", type := 3, offset := 0, embedded := false, tag := "", pkgPath := "kimberlite/tender", byteOffset := 0 }
def fd75_1 : Field := { name := "state", type := 3, offset := 1, embedded := false, tag := "", pkgPath := "kimberlite/tender", byteOffset := 8 }
def fd75_2 : Field := { name := "sealed", type := 69, offset := 2, embedded := false, tag := "", pkgPath := "kimberlite/tender", byteOffset := 16 }
def fd75_3 : Field := { name := "seals", type := 70, offset := 10, embedded := false, tag := "", pkgPath := "kimberlite/tender", byteOffset := 24 }
def fd75_4 : Field := { name := "shown", type := 69, offset := 18, embedded := false, tag := "", pkgPath := "kimberlite/tender", byteOffset := 88 }
def fd75_5 : Field := { name := "offers", type := 73, offset := 26, embedded := false, tag := "", pkgPath := "kimberlite/tender", byteOffset := 96 }
def fd75_6 : Field := { name := "count", type := 3, offset := 74, embedded := false, tag := "", pkgPath := "kimberlite/tender", byteOffset := 480 }
noncomputable def ti75 : TI := ⟨(TypeDesc.struct #[fd75_0, fd75_1, fd75_2, fd75_3, fd75_4, fd75_5, fd75_6]), 75, 488, Try.zeroCells75.toList, none⟩
theorem siz75 : ti75.size = 75 := rfl
theorem byt75 : ti75.bytes = 488 := rfl
theorem tok75 : ∃ info z, TOk1 Try.prog 75 ti75 info z := tok1 (z := (Value.agg Try.zeroCells75)) Try.underlying75 (by kernel_rfl) rfl rfl rfl rfl (by kernel_rfl) (by kernel_rfl)
def ti89 : TI := ⟨(TypeDesc.slice 5), 1, 24, [Value.slice none 0 0], none⟩
theorem siz89 : ti89.size = 1 := rfl
theorem byt89 : ti89.bytes = 24 := rfl
theorem tok89 : ∃ info z, TOk1 Try.prog 89 ti89 info z := tok1 (z := (Value.slice none 0 0)) Try.underlying89 (by kernel_rfl) rfl rfl rfl rfl (by kernel_rfl) (by kernel_rfl)
def ti90 : TI := ⟨(TypeDesc.int IntKind.u64), 1, 8, [Value.int IntKind.u64 0], some (.int .u64)⟩
theorem siz90 : ti90.size = 1 := rfl
theorem byt90 : ti90.bytes = 8 := rfl
theorem tok90 : ∃ info z, TOk1 Try.prog 90 ti90 info z := tok1 (z := (Value.int IntKind.u64 0)) Try.underlying90 (by kernel_rfl) rfl rfl rfl rfl (by kernel_rfl) (by kernel_rfl)
def ti92 : TI := ⟨(TypeDesc.array 4 45), 4, 32, [Value.int IntKind.u64 0, Value.int IntKind.u64 0, Value.int IntKind.u64 0, Value.int IntKind.u64 0], some (.int .u64)⟩
theorem siz92 : ti92.size = 4 := rfl
theorem byt92 : ti92.bytes = 32 := rfl
theorem tok92 : ∃ info z, TOk1 Try.prog 92 ti92 info z := tok1 (z := (Value.agg #[Value.int IntKind.u64 0, Value.int IntKind.u64 0, Value.int IntKind.u64 0, Value.int IntKind.u64 0])) Try.underlying92 (by kernel_rfl) rfl rfl rfl rfl (by kernel_rfl) (by kernel_rfl)
def ti93 : TI := ⟨(TypeDesc.array 4 22), 4, 96, [Value.slice none 0 0, Value.slice none 0 0, Value.slice none 0 0, Value.slice none 0 0], none⟩
theorem siz93 : ti93.size = 4 := rfl
theorem byt93 : ti93.bytes = 96 := rfl
theorem tok93 : ∃ info z, TOk1 Try.prog 93 ti93 info z := tok1 (z := (Value.agg #[Value.slice none 0 0, Value.slice none 0 0, Value.slice none 0 0, Value.slice none 0 0])) Try.underlying93 (by kernel_rfl) rfl rfl rfl rfl (by kernel_rfl) (by kernel_rfl)
def ti96 : TI := ⟨(TypeDesc.int IntKind.u16), 1, 2, [Value.int IntKind.u16 0], some (.int .u16)⟩
theorem siz96 : ti96.size = 1 := rfl
theorem byt96 : ti96.bytes = 2 := rfl
theorem tok96 : ∃ info z, TOk1 Try.prog 96 ti96 info z := tok1 (z := (Value.int IntKind.u16 0)) Try.underlying96 (by kernel_rfl) rfl rfl rfl rfl (by kernel_rfl) (by kernel_rfl)
def ti97 : TI := ⟨(TypeDesc.array 17 96), 17, 34, (runsOf [(17, Value.int IntKind.u16 0)]), some (.int .u16)⟩
theorem siz97 : ti97.size = 17 := rfl
theorem byt97 : ti97.bytes = 34 := rfl
theorem tok97 : ∃ info z, TOk1 Try.prog 97 ti97 info z := tok1 (z := (Value.agg #[Value.int IntKind.u16 0, Value.int IntKind.u16 0, Value.int IntKind.u16 0, Value.int IntKind.u16 0, Value.int IntKind.u16 0, Value.int IntKind.u16 0, Value.int IntKind.u16 0, Value.int IntKind.u16 0, Value.int IntKind.u16 0, Value.int IntKind.u16 0, Value.int IntKind.u16 0, Value.int IntKind.u16 0, Value.int IntKind.u16 0, Value.int IntKind.u16 0, Value.int IntKind.u16 0, Value.int IntKind.u16 0, Value.int IntKind.u16 0])) Try.underlying97 (by kernel_rfl) rfl rfl rfl rfl (by kernel_rfl) (by kernel_rfl)
def ti98 : TI := ⟨(TypeDesc.array 6 22), 6, 144, [Value.slice none 0 0, Value.slice none 0 0, Value.slice none 0 0, Value.slice none 0 0, Value.slice none 0 0, Value.slice none 0 0], none⟩
theorem siz98 : ti98.size = 6 := rfl
theorem byt98 : ti98.bytes = 144 := rfl
theorem tok98 : ∃ info z, TOk1 Try.prog 98 ti98 info z := tok1 (z := (Value.agg #[Value.slice none 0 0, Value.slice none 0 0, Value.slice none 0 0, Value.slice none 0 0, Value.slice none 0 0, Value.slice none 0 0])) Try.underlying98 (by kernel_rfl) rfl rfl rfl rfl (by kernel_rfl) (by kernel_rfl)
def ti110 : TI := ⟨(TypeDesc.func #[3] #[4] false), 1, 8, [Value.nilFunc], none⟩
theorem siz110 : ti110.size = 1 := rfl
theorem byt110 : ti110.bytes = 8 := rfl
theorem tok110 : ∃ info z, TOk1 Try.prog 110 ti110 info z := tok1 (z := Value.nilFunc) Try.underlying110 (by kernel_rfl) rfl rfl rfl rfl (by kernel_rfl) (by kernel_rfl)
def ti112 : TI := ⟨(TypeDesc.int IntKind.u64), 1, 8, [Value.int IntKind.u64 0], some (.int .u64)⟩
theorem siz112 : ti112.size = 1 := rfl
theorem byt112 : ti112.bytes = 8 := rfl
theorem tok112 : ∃ info z, TOk1 Try.prog 112 ti112 info z := tok1 (z := (Value.int IntKind.u64 0)) Try.underlying112 (by kernel_rfl) rfl rfl rfl rfl (by kernel_rfl) (by kernel_rfl)
def ti114 : TI := ⟨(TypeDesc.func #[45] #[] false), 1, 8, [Value.nilFunc], none⟩
theorem siz114 : ti114.size = 1 := rfl
theorem byt114 : ti114.bytes = 8 := rfl
theorem tok114 : ∃ info z, TOk1 Try.prog 114 ti114 info z := tok1 (z := Value.nilFunc) Try.underlying114 (by kernel_rfl) rfl rfl rfl rfl (by kernel_rfl) (by kernel_rfl)
def ti124 : TI := ⟨(TypeDesc.func #[72, 72] #[3] false), 1, 8, [Value.nilFunc], none⟩
theorem siz124 : ti124.size = 1 := rfl
theorem byt124 : ti124.bytes = 8 := rfl
theorem tok124 : ∃ info z, TOk1 Try.prog 124 ti124 info z := tok1 (z := Value.nilFunc) Try.underlying124 (by kernel_rfl) rfl rfl rfl rfl (by kernel_rfl) (by kernel_rfl)
def ti137 : TI := ⟨(TypeDesc.func #[3, 3, 3] #[3, 3] false), 1, 8, [Value.nilFunc], none⟩
theorem siz137 : ti137.size = 1 := rfl
theorem byt137 : ti137.bytes = 8 := rfl
theorem tok137 : ∃ info z, TOk1 Try.prog 137 ti137 info z := tok1 (z := Value.nilFunc) Try.underlying137 (by kernel_rfl) rfl rfl rfl rfl (by kernel_rfl) (by kernel_rfl)
def ti139 : TI := ⟨(TypeDesc.pointer 112), 1, 8, [Value.pointer none], none⟩
theorem siz139 : ti139.size = 1 := rfl
theorem byt139 : ti139.bytes = 8 := rfl
theorem tok139 : ∃ info z, TOk1 Try.prog 139 ti139 info z := tok1 (z := (Value.pointer none)) Try.underlying139 (by kernel_rfl) rfl rfl rfl rfl (by kernel_rfl) (by kernel_rfl)
def ti142 : TI := ⟨(TypeDesc.func #[72] #[4] false), 1, 8, [Value.nilFunc], none⟩
theorem siz142 : ti142.size = 1 := rfl
theorem byt142 : ti142.bytes = 8 := rfl
theorem tok142 : ∃ info z, TOk1 Try.prog 142 ti142 info z := tok1 (z := Value.nilFunc) Try.underlying142 (by kernel_rfl) rfl rfl rfl rfl (by kernel_rfl) (by kernel_rfl)
noncomputable def TY : TT := fun t => match t with
  | 3 => some ti3
  | 4 => some ti4
  | 5 => some ti5
  | 22 => some ti22
  | 26 => some ti26
  | 27 => some ti27
  | 37 => some ti37
  | 45 => some ti45
  | 48 => some ti48
  | 50 => some ti50
  | 53 => some ti53
  | 54 => some ti54
  | 55 => some ti55
  | 57 => some ti57
  | 63 => some ti63
  | 69 => some ti69
  | 70 => some ti70
  | 72 => some ti72
  | 73 => some ti73
  | 75 => some ti75
  | 89 => some ti89
  | 90 => some ti90
  | 92 => some ti92
  | 93 => some ti93
  | 96 => some ti96
  | 97 => some ti97
  | 98 => some ti98
  | 110 => some ti110
  | 112 => some ti112
  | 114 => some ti114
  | 124 => some ti124
  | 137 => some ti137
  | 139 => some ti139
  | 142 => some ti142
  | _ => none
theorem TYok : TOk Try.prog TY := by
  intro t i h
  unfold TY at h
  split at h
  · injection h with h
    subst h
    exact tok3
  · injection h with h
    subst h
    exact tok4
  · injection h with h
    subst h
    exact tok5
  · injection h with h
    subst h
    exact tok22
  · injection h with h
    subst h
    exact tok26
  · injection h with h
    subst h
    exact tok27
  · injection h with h
    subst h
    exact tok37
  · injection h with h
    subst h
    exact tok45
  · injection h with h
    subst h
    exact tok48
  · injection h with h
    subst h
    exact tok50
  · injection h with h
    subst h
    exact tok53
  · injection h with h
    subst h
    exact tok54
  · injection h with h
    subst h
    exact tok55
  · injection h with h
    subst h
    exact tok57
  · injection h with h
    subst h
    exact tok63
  · injection h with h
    subst h
    exact tok69
  · injection h with h
    subst h
    exact tok70
  · injection h with h
    subst h
    exact tok72
  · injection h with h
    subst h
    exact tok73
  · injection h with h
    subst h
    exact tok75
  · injection h with h
    subst h
    exact tok89
  · injection h with h
    subst h
    exact tok90
  · injection h with h
    subst h
    exact tok92
  · injection h with h
    subst h
    exact tok93
  · injection h with h
    subst h
    exact tok96
  · injection h with h
    subst h
    exact tok97
  · injection h with h
    subst h
    exact tok98
  · injection h with h
    subst h
    exact tok110
  · injection h with h
    subst h
    exact tok112
  · injection h with h
    subst h
    exact tok114
  · injection h with h
    subst h
    exact tok124
  · injection h with h
    subst h
    exact tok137
  · injection h with h
    subst h
    exact tok139
  · injection h with h
    subst h
    exact tok142
  · cases h
end Go.Proofs.Ytpobfdhmggkbaaa
