/- What each operation does to a memory told by plain numbers. -/
import Derived.Test.YtpbenjpponbjjaaE1
namespace Go.Proofs.Ytpbenjpponbjjaa.En
open Go.RowKit

/-- what is wanted of a type -/
structure TI where
  d : TypeDesc
  size : Nat
  bytes : Nat
  zero : List Value
  rk : Option RK
  deriving Inhabited
abbrev TT := TypeId → Option TI

@[reducible] def AV.val (x : Value) : AV := .t (.a (.s (.v x)))
@[reducible] def AV.int (k : IntKind) (n : Int) : AV := .val (.int k n)
@[reducible] def AV.boo (b : Bool) : AV := .val (.bool b)
@[reducible] def A.val (x : Value) : A := .s (.v x)

def AV.ofValue : Value → AV
  | .agg cs => .t (.agg (cs.toList.map A.val))
  | .tuple _ => .any
  | x => .val x

abbrev Env := List (Nat × AV)
def Env.get : Env → Nat → AV
  | [], _ => .any
  | (i, v) :: E, t => if i == t then v else Env.get E t
def Env.put : Env → Nat → AV → Env
  | [], t, v => [(t, v)]
  | (i, x) :: E, t, v => if i == t then (i, v) :: E else (i, x) :: Env.put E t v
def ev (E : Env) : Operand → AV
  | .tmp t => E.get t
  | .const v => AV.ofValue v
  | .global _ => .any
  | .func f => .t (.a (.fn (.func f) [] []))

def i64ok (x : Int) : Bool := decide (-9223372036854775808 ≤ x ∧ x ≤ 9223372036854775807)
def natOk (k : IntKind) (x : Int) : Bool := decide (0 ≤ x ∧ x ≤ k.max)

/-- + - * : of Go's int without overflow, of the others as Go wraps -/
def aArith (k : IntKind) (x : Int) : Bool × AV :=
  match k with
  | .i64 => (i64ok x, .int .i64 x)
  | k => (true, .int k (k.wrap x))
def aBin (T : TT) (op : BinOp) (xt : TypeId) : AV → AV → Option (Bool × AV)
  | .t (.a (.s (.v (.int k a)))), .t (.a (.s (.v (.int k' b)))) =>
    match op with
    | .shl => match k with
      | .i64 => some (decide (0 ≤ b ∧ b < 64) && i64ok (a * 2 ^ b.toNat), .int .i64 (a * 2 ^ b.toNat))
      | k => some (decide (0 ≤ b), .int k (k.wrap (a * 2 ^ (min b.toNat k.bits))))
    | .shr => some (decide (0 ≤ b ∧ b < k.bits), .int k (a.fdiv (2 ^ b.toNat)))
    | op => if k = k' then
        match op with
        | .add => some (aArith k (a + b))
        | .sub => some (aArith k (a - b))
        | .mul => some (aArith k (a * b))
        | .quo => some (natOk k a && decide (0 < b), .int k (a / b))
        | .rem => some (decide (0 ≤ a ∧ 0 < b), .int k (a % b))
        | .and => some (natOk k a && natOk k b, .int k ((a.toNat &&& b.toNat : Nat) : Int))
        | .andNot => some (natOk k a && natOk k b, .int k ((a.toNat &&& (2 ^ k.bits - 1 - b.toNat) : Nat) : Int))
        | .or => some (natOk k a && natOk k b, .int k ((a.toNat ||| b.toNat : Nat) : Int))
        | .xor => some (natOk k a && natOk k b, .int k ((a.toNat ^^^ b.toNat : Nat) : Int))
        | .eql => some (true, .boo (a == b))
        | .neq => some (true, .boo (a != b))
        | .lss => some (true, .boo (decide (a < b)))
        | .leq => some (true, .boo (decide (a ≤ b)))
        | .gtr => some (true, .boo (decide (a > b)))
        | .geq => some (true, .boo (decide (a ≥ b)))
        | _ => none
      else none
  | .t (.a (.s (.v (.bool a)))), .t (.a (.s (.v (.bool b)))) =>
    match T xt with
    | some i => match i.d with
      | .bool => match op with
        | .eql => some (true, .boo (a == b))
        | .neq => some (true, .boo (!(a == b)))
        | _ => none
      | _ => none
    | none => none
  | .t (.a (.s (.ptr _ _))), .t (.a (.s (.v (.pointer none)))) =>
    match T xt with
    | some i => match i.d with
      | .pointer _ => match op with
        | .eql => some (true, .boo false)
        | .neq => some (true, .boo true)
        | _ => none
      | _ => none
    | none => none
  | .t (.a (.s (.v (.pointer none)))), .t (.a (.s (.v (.pointer none)))) =>
    match T xt with
    | some i => match i.d with
      | .pointer _ => match op with
        | .eql => some (true, .boo true)
        | .neq => some (true, .boo false)
        | _ => none
      | _ => none
    | none => none
  | .t (.a (.s (.ptr b o))), .t (.a (.s (.ptr b' o'))) =>
    match T xt with
    | some i => match i.d with
      | .pointer e => match T e with
        | some j => match op with
          | .eql => some (decide (b = b' ∧ 0 < j.size), .boo (o == o'))
          | .neq => some (decide (b = b' ∧ 0 < j.size), .boo (!(o == o')))
          | _ => none
        | none => none
      | _ => none
    | none => none
  | .t (.a (.s (.slc _ _ n))), .t (.a (.s (.v (.slice none 0 0)))) =>
    match n with
    | 0 => none
    | n + 1 => match T xt with
      | some i => match i.d with
        | .slice _ => match op with
          | .eql => some (decide (0 < n + 1), .boo false)
          | .neq => some (decide (0 < n + 1), .boo true)
          | _ => none
        | _ => none
      | none => none
  | .t (.a (.s (.v (.slice none 0 0)))), .t (.a (.s (.v (.slice none 0 0)))) =>
    match T xt with
    | some i => match i.d with
      | .slice _ => match op with
        | .eql => some (true, .boo true)
        | .neq => some (true, .boo false)
        | _ => none
      | _ => none
    | none => none
  | _, _ => none
/-- a comparison whose answer is not known: an empty slice that may be nil -/
def askB (T : TT) (op : BinOp) (xt : TypeId) : AV → AV → Bool
  | .t (.a (.s (.slc _ _ n))), .t (.a (.s (.v (.slice none 0 0)))) =>
    match n with
    | 0 => match T xt with
      | some i => match i.d with
        | .slice _ => match op with
          | .eql => true
          | .neq => true
          | _ => false
        | _ => false
      | none => false
    | _ + 1 => false
  | _, _ => false
/-- the fields of two structs of numbers compared -/
def eqCells (T : TT) : List Field → List A → List A → Option (Bool × Bool)
  | [], _, _ => some (true, true)
  | f :: fs, l, l' => match T f.type with
    | some j => match j.d with
      | .int _ => match l[f.offset]?, l'[f.offset]? with
        | some (.s (.v (.int k a))), some (.s (.v (.int k' b))) => match eqCells T fs l l' with
          | some (c, r) => some (decide (k = k') && (f.name != "_") && c, (a == b) && r)
          | none => none
        | _, _ => none
      | .bool => match l[f.offset]?, l'[f.offset]? with
        | some (.s (.v (.bool a))), some (.s (.v (.bool b))) => match eqCells T fs l l' with
          | some (c, r) => some ((f.name != "_") && c, (a == b) && r)
          | none => none
        | _, _ => none
      | _ => none
    | none => none
def eqRow : List A → List A → Option (Bool × Bool)
  | [], [] => some (true, true)
  | .s (.v (.int k a)) :: l, .s (.v (.int k' b)) :: l' => match eqRow l l' with
    | some (c, r) => some (decide (k = k') && c, (a == b) && r)
    | none => none
  | _, _ => none
def aEqA (T : TT) (op : BinOp) (xt : TypeId) : AV → AV → Option (Bool × AV)
  | .t (.agg l), .t (.agg l') =>
    match T xt with
    | some i => match i.d with
      | .struct fs => match eqCells T fs.toList l l' with
        | some (c, r) => match op with
          | .eql => some (c, .boo r)
          | .neq => some (c, .boo (!r))
          | _ => none
        | none => none
      | .array n e => match T e with
        | some j => match j.d with
          | .int _ => match eqRow l l' with
            | some (c, r) => match op with
              | .eql => some (c && decide (l.length = n) && decide (j.size = 1), .boo r)
              | .neq => some (c && decide (l.length = n) && decide (j.size = 1), .boo (!r))
              | _ => none
            | none => none
          | _ => none
        | none => none
      | _ => none
    | none => none
  | _, _ => none
def aUn (op : UnOp) : AV → Option (Bool × AV)
  | .t (.a (.s (.v (.bool b)))) => match op with | .not => some (true, .boo !b) | _ => none
  | .t (.a (.s (.v (.int .i64 n)))) => match op with | .neg => some (i64ok (-n), .int .i64 (-n)) | _ => none
  | _ => none
def aPick : AV → AV → AV → Option (Bool × AV)
  | .t (.a (.s (.v (.bool c)))), .t (.a (.s (.v (.bool x)))), .t (.a (.s (.v (.bool y)))) => some (true, .boo (if c then x else y))
  | .t (.a (.s (.v (.bool c)))), .t (.a (.s (.v (.int k x)))), .t (.a (.s (.v (.int k' y)))) => if k = k' then some (true, .int k (if c then x else y)) else none
  | .t (.a (.s (.v (.bool c)))), .t (.a (.s (.v (.tuple _)))), y => some (!c, y)
  | .t (.a (.s (.v (.bool c)))), x, .t (.a (.s (.v (.tuple _)))) => some (c, x)
  | _, _, _ => none
def aConv (T : TT) (src dst : TypeId) : AV → Option (Bool × AV)
  | .t (.a (.s (.v (.int _ n)))) =>
    match T src, T dst with
    | some _, some i => match i.d with
      | .int k => some (true, .int k (k.wrap n))
      | _ => none
    | _, _ => none
  | _ => none

/-- k cells from j on -/
def Body.gets (B : Body) : Nat → Nat → Option (Bool × List A)
  | _, 0 => some (true, [])
  | j, n + 1 => match B.get j, B.gets (j + 1) n with
    | some (c, x), some (d, l) => some (c && d, x :: l)
    | _, _ => none
/-- a cell by the kind that its type tells -/
def Body.getT (rk : Option RK) : Body → Nat → Option (Bool × A)
  | .recs p xs, j => match rk with
    | some k => some (decide (p.getD (j % p.length) .bool = k) && decide (j < xs.length), .s (.v (k.val (xs.getD j 0))))
    | none => none
  | .ptrs b os, j => Body.get (.ptrs b os) j
  | .dead, j => Body.get .dead j
  | .cells l, j => Body.get (.cells l) j
  | .rows k xs, j => Body.get (.rows k xs) j
def recCells (xs : List Int) : Nat → List RK → List A
  | _, [] => []
  | o, k :: r => .s (.v (k.val (xs.getD o 0))) :: recCells xs (o + 1) r
def Body.getsT : Body → Nat → Nat → Option (Bool × List A)
  | .recs p xs, o, n => some (decide (o % p.length = 0) && decide (o + n ≤ xs.length) && decide (n = p.length), recCells xs o p)
  | .ptrs b os, o, n => Body.gets (.ptrs b os) o n
  | .dead, o, n => Body.gets .dead o n
  | .cells l, o, n => Body.gets (.cells l) o n
  | .rows k xs, o, n => Body.gets (.rows k xs) o n
def aggOf : TypeDesc → Bool
  | .struct _ => true
  | .array _ _ => true
  | _ => false
def aLoad (T : TT) (H : AH) (t : TypeId) : AV → Option (Bool × AV)
  | .t (.a (.s (.ptr b o))) =>
    match T t, H[b]? with
    | some i, some blk =>
      match aggOf i.d with
      | true => match blk.body.getsT o i.size with
        | some (c, l) => some (c, .t (.agg l))
        | none => none
      | false => match blk.body.getT i.rk o with
        | some (c, x) => some (c, .t (.a x))
        | none => none
    | _, _ => none
  | _ => none
def aFieldAddr (T : TT) (s : TypeId) (f : Nat) : AV → Option (Bool × AV)
  | .t (.a (.s (.ptr b o))) =>
    match T s with
    | some i => match i.d with
      | .struct fs => match fs[f]? with
        | some fd => match T fd.type with
          | some j => match j.size with
            | 0 => none
            | _ => some (true, .t (.a (.s (.ptr b (o + fd.offset)))))
          | none => none
        | none => none
      | _ => none
    | none => none
  | _ => none
def aIndexAddr (T : TT) (t : TypeId) : AV → AV → Option (Bool × AV)
  | .t (.a (.s (.slc b o n))), .t (.a (.s (.v (.int _ x)))) =>
    match T t with
    | some i => match i.d with
      | .slice e => match T e with
        | some j => some (decide (0 ≤ x ∧ x < n), .t (.a (.s (.ptr b (o + x.toNat * j.size)))))
        | none => none
      | _ => none
    | none => none
  | .t (.a (.s (.ptr b o))), .t (.a (.s (.v (.int _ x)))) =>
    match T t with
    | some i => match i.d with
      | .array n e => match T e with
        | some j => some (decide (0 ≤ x ∧ x < n), .t (.a (.s (.ptr b (o + x.toNat * j.size)))))
        | none => none
      | _ => none
    | none => none
  | _, _ => none
def aField (T : TT) (t : TypeId) (f : Nat) : AV → Option (Bool × AV)
  | .t (.agg l) =>
    match T t with
    | some i => match i.d with
      | .struct fs => match fs[f]? with
        | some fd => match T fd.type with
          | some j => match aggOf j.d with
            | true => some (true, .t (.agg ((l.drop fd.offset).take j.size)))
            | false => match l[fd.offset]? with
              | some x => some (true, .t (.a x))
              | none => none
          | none => none
        | none => none
      | _ => none
    | none => none
  | _ => none
def aExtract (i : Nat) : AV → Option (Bool × AV)
  | .tup l => match l[i]? with
    | some x => some (true, .t x)
    | none => none
  | _ => none
def aLen (T : TT) (t : TypeId) : AV → Option (Bool × AV)
  | .t (.a (.s (.slc _ _ n))) =>
    match T t with
    | some i => match i.d with
      | .slice _ => some (true, .int .i64 n)
      | _ => none
    | none => none
  | .t (.a (.s (.v (.slice none 0 0)))) =>
    match T t with
    | some i => match i.d with
      | .slice _ => some (true, .int .i64 0)
      | _ => none
    | none => none
  | _ => none
def aMin : AV → AV → Option (Bool × AV)
  | .t (.a (.s (.v (.int k a)))), .t (.a (.s (.v (.int k' b)))) => if k = k' then some (true, .int k (min a b)) else none
  | _, _ => none
def aMax : AV → AV → Option (Bool × AV)
  | .t (.a (.s (.v (.int k a)))), .t (.a (.s (.v (.int k' b)))) => if k = k' then some (true, .int k (max a b)) else none
  | _, _ => none
/-- s[lo:hi] of a slice -/
def aSlice (T : TT) (H : AH) (t : TypeId) : AV → Option AV → Option AV → Option (Bool × AV)
  | .t (.a (.s (.slc b o n))), lo, hi =>
    match T t, H[b]? with
    | some i, some blk => match i.d with
      | .slice e => match T e with
        | some j => match lo, hi with
          | none, none => some (blk.body.live && (blk.sz == j.size), .t (.a (.s (.slc b o n))))
          | some (.t (.a (.s (.v (.int _ l))))), none => some (blk.body.live && (blk.sz == j.size) && decide (0 ≤ l ∧ l ≤ n), .t (.a (.s (.slc b (o + l.toNat * j.size) (n - l.toNat)))))
          | none, some (.t (.a (.s (.v (.int _ h))))) => some (blk.body.live && (blk.sz == j.size) && decide (0 ≤ h ∧ h ≤ n), .t (.a (.s (.slc b o h.toNat))))
          | some (.t (.a (.s (.v (.int _ l))))), some (.t (.a (.s (.v (.int _ h))))) => some (blk.body.live && (blk.sz == j.size) && decide (0 ≤ l ∧ l ≤ h ∧ h ≤ n), .t (.a (.s (.slc b (o + l.toNat * j.size) (h.toNat - l.toNat)))))
          | _, _ => none
        | none => none
      | _ => none
    | _, _ => none
  | _, _, _ => none
def sOf : AV → Option S
  | .t (.a (.s x)) => some x
  | _ => none
def aFunc (f : Fn) (first cap : List AV) : Option (Bool × AV) :=
  match first.mapM sOf, cap.mapM sOf with
  | some a, some b => some (true, .t (.a (.fn f a b)))
  | _, _ => none
def aNil : AV → Option (Bool × AV)
  | .t (.a (.s (.ptr b o))) => some (true, .t (.a (.s (.ptr b o))))
  | _ => none

def aBuiltin (T : TT) (E : Env) : Builtin → List Operand → List TypeId → Option (Bool × AV)
  | .len, [x], [t] => aLen T t (ev E x)
  | .min, [x, y], _ => aMin (ev E x) (ev E y)
  | .max, [x, y], _ => aMax (ev E x) (ev E y)
  | _, _, _ => none
/-- an operation that leaves the memory alone -/
def aStill (T : TT) (E : Env) (H : AH) : Op → Option (Bool × AV)
  | .move x => some (true, ev E x)
  | .assign x => some (true, ev E x)
  | .pick c a b => aPick (ev E c) (ev E a) (ev E b)
  | .load t a => aLoad T H t (ev E a)
  | .nilCheck x => aNil (ev E x)
  | .binOp op xt x y _ => match aBin T op xt (ev E x) (ev E y) with
    | some r => some r
    | none => aEqA T op xt (ev E x) (ev E y)
  | .unOp op _ x => aUn op (ev E x)
  | .convert s d x => aConv T s d (ev E x)
  | .makeFunc f first cap => aFunc f (first.toList.map (ev E)) (cap.toList.map (ev E))
  | .slice t x lo hi none => aSlice T H t (ev E x) (lo.map (ev E)) (hi.map (ev E))
  | .fieldAddr s x f => aFieldAddr T s f (ev E x)
  | .field s x f => aField T s f (ev E x)
  | .indexAddr t x i => aIndexAddr T t (ev E x) (ev E i)
  | .makeInterface t x => match ev E x, T t with
    | .t (.a (.s (.v (.int k n)))), some i => match i.d with
      | .int _ => some (true, .val (.iface t (.int k n)))
      | _ => none
    | _, _ => none
  | .extract x i => aExtract i (ev E x)
  | .call c => match c.callee with
    | .builtin b => aBuiltin T E b c.args.toList c.argTypes.toList
    | _ => none
  | _ => none

/-! ### what is made, what is written -/
def toRow (k : RK) : List A → Option (List Int)
  | [] => some []
  | .s (.v (.int k' n)) :: l => match k, toRow k l with
    | .int k, some r => if k = k' then some (n :: r) else none
    | _, _ => none
  | .s (.v (.bool b)) :: l => match k, toRow k l with
    | .bool, some r => some ((if b then 1 else 0) :: r)
    | _, _ => none
  | _ :: _ => none
def mkBody (rk : Option RK) (l : List A) : Option Body :=
  match rk with
  | none => some (.cells l)
  | some k => match toRow k l with
    | some r => some (.rows k r)
    | none => none
def cellsOf : AV → Option (List A)
  | .t (.a x) => some [x]
  | .t (.agg l) => some l
  | _ => none
def A.one : A → Bool
  | .s (.v x) => x.oneCell'
  | _ => true
/-- addresses in one block -/
def toPtrs (b : Nat) : List A → Option (List Nat)
  | [] => some []
  | .s (.ptr b' o) :: l => match decide (b = b') with
    | true => match toPtrs b l with
      | some r => some (o :: r)
      | none => none
    | false => none
  | _ => none
def ptrBody : List A → Body
  | .s (.ptr b o) :: l => match toPtrs b (.s (.ptr b o) :: l) with
    | some os => .ptrs b os
    | none => .cells (.s (.ptr b o) :: l)
  | l => .cells l
def viewB (rk : Option RK) (l : List A) (B : Body) : Body :=
  match rk with
  | none => ptrBody l
  | some _ => B
def ptrL (b : Nat) (os : List Nat) : List A := os.map fun o => .s (.ptr b o)
/-- the parts of a struct, an array or a slice laid into their places -/
def aFill (place : Nat → Option (Nat × Nat)) (cells : List A) : List (Nat × AV) → Option (List A)
  | [] => some cells
  | (i, v) :: rest => match place i, cellsOf v with
    | some (off, size), some l => if l.length = size ∧ off + size ≤ cells.length ∧ l.all A.one = true then aFill place (cells.take off ++ l ++ cells.drop (off + size)) rest else none
    | _, _ => none
def places (T : TT) : List Field → Option (List (Nat × Nat))
  | [] => some []
  | f :: fs => match T f.type, places T fs with
    | some i, some l => some ((f.offset, i.size) :: l)
    | _, _ => none
def aBuild (T : TT) (t : TypeId) (parts : List (Nat × AV)) : Option (Bool × AV) :=
  match T t with
  | some i => match i.d with
    | .struct fs => match places T fs.toList with
      | some pl => match aFill (fun k => pl[k]?) (i.zero.map A.val) parts with
        | some l => some (true, .t (.agg l))
        | none => none
      | none => none
    | .array _ e => match T e with
      | some j => match aFill (fun k => some (k * j.size, j.size)) (i.zero.map A.val) parts with
        | some l => some (true, .t (.agg l))
        | none => none
      | none => none
    | _ => none
  | none => none
def repl : Nat → List A → List A
  | 0, _ => []
  | n + 1, l => l ++ repl n l
def aNewVar (T : TT) (H : AH) (t : TypeId) (l : List A) : Option (Bool × AV × AH) :=
  match T t with
  | some i => match mkBody (match i.d with | .array _ _ => i.rk | _ => none) l with
    | some body => some (l.all A.one, .t (.a (.s (.ptr H.length 0))), H ++ [⟨true, true, t, 1, body⟩])
    | none => none
  | none => none
def aBuildSlice (T : TT) (H : AH) (t : TypeId) (len : Nat) (parts : List (Nat × AV)) : Option (Bool × AV × AH) :=
  match T t with
  | some i => match i.d with
    | .slice e => match T e with
      | some j => match aFill (fun k => some (k * j.size, j.size)) (repl len (j.zero.map A.val)) parts with
        | some l => match mkBody j.rk l with
          | some body => some (decide (len ≤ 16777216 ∧ len * j.size ≤ 16777216 ∧ len * j.size = l.length), .t (.a (.s (.slc H.length 0 len))), H ++ [⟨true, true, e, j.size, viewB j.rk l body⟩])
          | none => none
        | none => none
      | none => none
    | _ => none
  | none => none
def aMakeSlice (T : TT) (H : AH) (t : TypeId) : AV → AV → Option (Bool × AV × AH)
  | .t (.a (.s (.v (.int _ n)))), .t (.a (.s (.v (.int _ c)))) =>
    match T t with
    | some i => match i.d with
      | .slice e => match T e with
        | some j => match j.rk with
          | some k => some (decide (n = c ∧ 0 ≤ n ∧ n * j.bytes ≤ 281474976710656 ∧ n ≤ 9223372036854775807), .t (.a (.s (.slc H.length 0 n.toNat))), H ++ [⟨true, true, e, j.size, .rows k (List.replicate (n.toNat * j.size) 0)⟩])
          | none => some (decide (n = c ∧ 0 ≤ n ∧ n * j.bytes ≤ 281474976710656 ∧ n ≤ 9223372036854775807), .t (.a (.s (.slc H.length 0 n.toNat))), H ++ [⟨true, true, e, j.size, .cells (repl n.toNat (j.zero.map A.val))⟩])
        | none => none
      | _ => none
    | none => none
  | _, _ => none
/-- one cell written -/
def Body.put : Body → Nat → A → Option (Bool × Body)
  | .cells l, j, x => match decide (j < l.length) with
    | true => some (true, .cells (l.set j x))
    | false => none
  | .rows (.int k) xs, j, .s (.v (.int k' n)) => if k = k' then some (decide (j < xs.length), .rows (.int k) (xs.set j n)) else none
  | .rows .bool xs, j, .s (.v (.bool b)) => some (decide (j < xs.length), .rows .bool (xs.set j (if b then 1 else 0)))
  | .recs p xs, j, .s (.v (.int k' n)) => some (decide (p.getD (j % p.length) .bool = .int k') && decide (j < xs.length), .recs p (xs.set j n))
  | .recs p xs, j, .s (.v (.bool b)) => some (decide (p.getD (j % p.length) .bool = .bool) && decide (j < xs.length), .recs p (xs.set j (if b then 1 else 0)))
  | _, _, _ => none
def Body.puts (B : Body) : Nat → List A → Option (Bool × Body)
  | _, [] => some (true, B)
  | j, x :: l => match B.put j x with
    | some (c, B') => match B'.puts (j + 1) l with
      | some (d, B'') => some (c && x.one && d, B'')
      | none => none
    | none => none
def aStore (T : TT) (H : AH) (t : TypeId) : AV → AV → Option (Bool × AH)
  | .t (.a (.s (.ptr b o))), v =>
    match T t, H[b]?, cellsOf v with
    | some i, some blk, some l => match blk.body.puts o l with
      | some (c, body) => some (c && blk.rw && blk.body.live && decide (l.length = i.size), H.set b { blk with body := body })
      | none => none
    | _, _, _ => none
  | _, _ => none
/-- the cells of a slice that is read -/
def rowOf (H : AH) (k : RK) (size : Nat) : AV → Option (Bool × List Int)
  | .t (.a (.s (.slc b o n))) => match H[b]? with
    | some blk => match blk.body with
      | .rows k' xs => if k = k' then some (decide (o + n * size ≤ xs.length), (xs.drop o).take (n * size)) else none
      | _ => none
    | none => none
  | _ => none
def lenOf : AV → Nat
  | .t (.a (.s (.slc _ _ n))) => n
  | _ => 0
/-- append: onto nothing, or onto a row of one's own, which is then known by a new number -/
def aAppend (T : TT) (H : AH) (t : TypeId) : AV → AV → Option (Bool × AV × AH)
  | .t (.a (.s (.v (.slice none 0 0)))), x =>
    match T t with
    | some i => match i.d with
      | .slice e => match T e with
        | some j => match j.rk with
          | some k => match rowOf H k j.size x with
            | some (c, ys) => some (c && decide (0 < lenOf x ∧ lenOf x * j.bytes ≤ 140737488355328 ∧ lenOf x ≤ 9223372036854775807 ∧ 0 < j.size), .t (.a (.s (.slc H.length 0 (lenOf x)))), H ++ [⟨true, false, e, j.size, .rows k ys⟩])
            | none => none
          | none => none
        | none => none
      | _ => none
    | none => none
  | .t (.a (.s (.slc b 0 n))), x =>
    match T t, H[b]? with
    | some i, some blk => match i.d with
      | .slice e => match T e with
        | some j => match j.rk, blk.body with
          | some k, .rows k' xs => match rowOf H k j.size x with
            | some (c, ys) => if k = k' then some (c && blk.rw && (blk.ty == e) && (blk.sz == j.size) && decide (0 < lenOf x ∧ n * j.size = xs.length ∧ (n + lenOf x) * j.bytes ≤ 140737488355328 ∧ n + lenOf x ≤ 9223372036854775807 ∧ 0 < j.size),
                .t (.a (.s (.slc H.length 0 (n + lenOf x)))), H.set b { blk with body := .dead } ++ [⟨true, false, e, j.size, .rows k (xs ++ ys)⟩]) else none
            | none => none
          | _, _ => none
        | none => none
      | _ => none
    | _, _ => none
  | _, _ => none
/-- the same of mixed cells -/
def cellRow (H : AH) (size : Nat) : AV → Option (Bool × List A)
  | .t (.a (.s (.slc b o n))) => match H[b]? with
    | some blk => match blk.body with
      | .cells l => some (decide (o + n * size ≤ l.length), (l.drop o).take (n * size))
      | .ptrs p os => some (decide (o + n * size ≤ os.length), ((ptrL p os).drop o).take (n * size))
      | _ => none
    | none => none
  | _ => none
def aAppendC (T : TT) (H : AH) (t : TypeId) : AV → AV → Option (Bool × AV × AH)
  | .t (.a (.s (.v (.slice none 0 0)))), x =>
    match T t with
    | some i => match i.d with
      | .slice e => match T e with
        | some j => match cellRow H j.size x with
          | some (c, l) => some (c && l.all A.one && decide (0 < lenOf x ∧ lenOf x * j.bytes ≤ 140737488355328 ∧ lenOf x ≤ 9223372036854775807 ∧ 0 < j.size), .t (.a (.s (.slc H.length 0 (lenOf x)))), H ++ [⟨true, false, e, j.size, ptrBody l⟩])
          | none => none
        | none => none
      | _ => none
    | none => none
  | .t (.a (.s (.slc b 0 n))), x =>
    match T t, H[b]? with
    | some i, some blk => match i.d with
      | .slice e => match T e with
        | some j => match blk.body with
          | .cells l0 => match cellRow H j.size x with
            | some (c, l) => some (c && l.all A.one && blk.rw && (blk.ty == e) && (blk.sz == j.size) && decide (0 < lenOf x ∧ n * j.size = l0.length ∧ (n + lenOf x) * j.bytes ≤ 140737488355328 ∧ n + lenOf x ≤ 9223372036854775807 ∧ 0 < j.size),
                .t (.a (.s (.slc H.length 0 (n + lenOf x)))), H.set b { blk with body := .dead } ++ [⟨true, false, e, j.size, .cells (l0 ++ l)⟩])
            | none => none
          | _ => none
        | none => none
      | _ => none
    | _, _ => none
  | _, _ => none
/-- one record, by its kinds -/
def toRec : List RK → List A → Option (List Int)
  | [], [] => some []
  | .int k :: p, .s (.v (.int k' n)) :: l => match decide (k = k') with
    | true => match toRec p l with
      | some r => some (n :: r)
      | none => none
    | false => none
  | .bool :: p, .s (.v (.bool b)) :: l => match toRec p l with
    | some r => some ((if b then 1 else 0) :: r)
    | none => none
  | _, _ => none
/-- a record put behind records -/
def aAppendR (T : TT) (H : AH) (t : TypeId) : AV → AV → Option (Bool × AV × AH)
  | .t (.a (.s (.slc b 0 n))), x =>
    match T t, H[b]? with
    | some i, some blk => match i.d with
      | .slice e => match T e with
        | some j => match blk.body with
          | .recs p xs => match cellRow H j.size x with
            | some (c, l) => match toRec p l with
              | some ys => some (c && blk.rw && (blk.ty == e) && (blk.sz == j.size) && decide (p.length = j.size ∧ 0 < lenOf x ∧ n * j.size = xs.length ∧ (n + lenOf x) * j.bytes ≤ 140737488355328 ∧ n + lenOf x ≤ 9223372036854775807 ∧ 0 < j.size),
                .t (.a (.s (.slc H.length 0 (n + lenOf x)))), H.set b { blk with body := .dead } ++ [⟨true, false, e, j.size, .recs p (xs ++ ys)⟩])
              | none => none
            | none => none
          | _ => none
        | none => none
      | _ => none
    | _, _ => none
  | _, _ => none
/-- an address put behind addresses in one block -/
def aAppendP0 (T : TT) (H : AH) (t : TypeId) : AV → AV → Option (Bool × AV × AH)
  | .t (.a (.s (.slc b 0 n))), x =>
    match T t, H[b]? with
    | some i, some blk => match i.d with
      | .slice e => match T e with
        | some j => match blk.body with
          | .ptrs p xs => match cellRow H j.size x with
            | some (c, l) => match toPtrs p l with
              | some ys => some (c && blk.rw && (blk.ty == e) && (blk.sz == j.size) && decide (0 < lenOf x ∧ n * j.size = xs.length ∧ (n + lenOf x) * j.bytes ≤ 140737488355328 ∧ n + lenOf x ≤ 9223372036854775807 ∧ 0 < j.size),
                .t (.a (.s (.slc H.length 0 (n + lenOf x)))), H.set b { blk with body := .dead } ++ [⟨true, false, e, j.size, .ptrs p (xs ++ ys)⟩])
              | none => none
            | none => none
          | _ => none
        | none => none
      | _ => none
    | _, _ => none
  | _, _ => none
/-- nothing put behind -/
def zeroLen : AV → Bool
  | .t (.a (.s (.slc _ _ n))) => match n with
    | 0 => true
    | _ + 1 => false
  | _ => false
/-- an append to a slice of numbers that begins within a block: what comes of it is only read -/
def aAppendO (T : TT) (H : AH) (t : TypeId) : AV → AV → Option (Bool × AV × AH)
  | .t (.a (.s (.slc b o n))), x =>
    match T t, H[b]? with
    | some i, some blk => match i.d with
      | .slice e => match T e with
        | some j => match j.rk, blk.body with
          | some k, .rows k' xs => match rowOf H k j.size x with
            | some (c, ys) => if k = k' then some (c && blk.rw && (blk.ty == e) && (blk.sz == j.size) && decide (0 < lenOf x ∧ 0 < n ∧ o + n * j.size ≤ xs.length ∧ (n + lenOf x) * j.bytes ≤ 140737488355328 ∧ n + lenOf x ≤ 9223372036854775807 ∧ 0 < j.size),
                .t (.a (.s (.slc H.length 0 (n + lenOf x)))), H.set b { blk with body := .dead } ++ [⟨false, false, e, j.size, .rows k ((xs.drop o).take (n * j.size) ++ ys)⟩]) else none
            | none => none
          | _, _ => none
        | none => none
      | _ => none
    | _, _ => none
  | _, _ => none
def aAppendP (T : TT) (H : AH) (t : TypeId) (p x : AV) : Option (Bool × AV × AH) := match aAppendP0 T H t p x with
  | some r => some r
  | none => aAppendO T H t p x
def aAppend0 (T : TT) (H : AH) (t : TypeId) : AV → Option (Bool × AV × AH)
  | .t (.a (.s (.slc b o n))) => match T t with
    | some i => match i.d with
      | .slice e => match T e with
        | some _ => some (true, .t (.a (.s (.slc b o n))), H)
        | none => none
      | _ => none
    | none => none
  | _ => none
/-- an operation that makes or writes memory -/
def aMake (T : TT) (E : Env) (H : AH) : Op → Option (Bool × AV × AH)
  | .alloc t => match T t with
    | some i => aNewVar T H t (i.zero.map A.val)
    | none => none
  | .box t x => match cellsOf (ev E x) with
    | some l => aNewVar T H t l
    | none => none
  | .buildSlice t len parts => aBuildSlice T H t len (parts.toList.map fun (i, x) => (i, ev E x))
  | .makeSlice t l c => aMakeSlice T H t (ev E l) (ev E c)
  | .store t a x => match aStore T H t (ev E a) (ev E x) with
    | some (c, H') => some (c, .any, H')
    | none => none
  | .call c => match c.callee with
    | .builtin .append => match c.args.toList, c.argTypes.toList with
      | [s, x], [t, t'] => if t = t' then (match zeroLen (ev E x) with | true => aAppend0 T H t (ev E s) | false => (match aAppend T H t (ev E s) (ev E x) with | some r => some r | none => match aAppendC T H t (ev E s) (ev E x) with | some r => some r | none => match aAppendR T H t (ev E s) (ev E x) with | some r => some r | none => aAppendP T H t (ev E s) (ev E x))) else none
      | _, _ => none
    | _ => none
  | _ => none
/-- an operation that calls no Go function -/
def aOp (T : TT) (E : Env) (H : AH) (op : Op) : Option (Bool × AV × AH) :=
  match aStill T E H op with
  | some (c, v) => some (c, v, H)
  | none => match op with
    | .build t parts => match aBuild T t (parts.toList.map fun (i, x) => (i, ev E x)) with
      | some (c, v) => some (c, v, H)
      | none => none
    | op => aMake T E H op
end Go.Proofs.Ytpbenjpponbjjaa.En
