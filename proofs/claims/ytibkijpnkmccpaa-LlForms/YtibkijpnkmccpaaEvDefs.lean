/- An evaluator over named memory: definitions. -/
import Derived.Deep.Trees
import Derived.Orders
import Derived.Below
namespace Go.Ev
open Go.Deep

def tget {α : Type} : BT (Option α) → Nat → Option α
  | .nil, _ => none
  | .node _ _ a l r, n => match n with
    | 0 => a
    | m + 1 => bif Nat.beq (Nat.mod m 2) 0 then tget l (Nat.div m 2) else tget r (Nat.div m 2)

def tput {α : Type} : Nat → BT (Option α) → Nat → Option α → BT (Option α)
  | 0, t, _, _ => t
  | f + 1, .nil, n, x => match n with
    | 0 => .node 0 0 x .nil .nil
    | m + 1 => bif Nat.beq (Nat.mod m 2) 0 then .node 0 0 none (tput f .nil (Nat.div m 2) x) .nil else .node 0 0 none .nil (tput f .nil (Nat.div m 2) x)
  | f + 1, .node _ _ a l r, n, x => match n with
    | 0 => .node 0 0 x l r
    | m + 1 => bif Nat.beq (Nat.mod m 2) 0 then .node 0 0 a (tput f l (Nat.div m 2) x) r else .node 0 0 a l (tput f r (Nat.div m 2) x)

def tset {α : Type} (t : BT (Option α)) (n : Nat) (x : Option α) : BT (Option α) := tput (Nat.log2 n + 2) t n x

/-- A loop over a function, under way. -/
structure Lp where
  fn : Nat
  N : Nat
  ps : List Nat
  asg : Code
  body : Code
  ts : List (Nat × Value)
  st : Nat
  pend : Option Code

/-- What is no row of cells. -/
inductive Ob where
  | loop (L : Lp)
  | mp (es : List (Value × Value))
  | bld (T e self : Nat) (buf : Option (Nat × Nat))
  | byt (e self : Nat) (s : ByteArray)

structure Ent where
  cells : BT (Option Value)
  len : Nat
  unk : Nat
  ob : Option Ob

structure Hp where
  m : BT (Option Ent)
  nxt : Nat

abbrev Tm := BT (Option Value)

def ob {α β : Type} (x : Option α) (f : α → Option β) : Option β := match x with
  | none => none
  | some a => f a

def rd (e : BT (Option Value)) : Nat → Nat → Option (List Value)
  | _, 0 => some []
  | i, n + 1 => match tget e i with
    | none => none
    | some v => match rd e (i + 1) n with
      | none => none
      | some l => some (v :: l)

def wr (e : BT (Option Value)) : Nat → List Value → BT (Option Value)
  | _, [] => e
  | i, v :: l => wr (tset e i (some v)) (i + 1) l

/-- Cells that are read alone. -/
def roU : Nat := 36893488147419103232

def mkEnt (cs : List Value) (unk : Nat) : Ent := ⟨wr .nil 0 cs, cs.length, unk, none⟩

def noOb : Option Ob → Bool
  | none => true
  | some _ => false

def wrB (e : Ent) : Bool := !(Nat.beq e.unk roU) && noOb e.ob

def hload (h : Hp) (a : Addr) (n : Nat) : Option (List Value) := match a.spot, tget h.m a.block with
  | none, some e => rd e.cells a.off n
  | _, _ => none

def hstore (h : Hp) (a : Addr) (vs : List Value) : Option Hp := match a.spot, tget h.m a.block with
  | none, some e => bif wrB e then match rd e.cells a.off vs.length with
      | some _ => some ⟨tset h.m a.block (some ⟨wr e.cells a.off vs, e.len, e.unk, none⟩), h.nxt⟩
      | none => none
    else none
  | _, _ => none

def halloc (h : Hp) (nm : Nat) (e : Ent) : Hp := ⟨tset h.m nm (some e), max h.nxt (nm + 1)⟩

structure TI where
  size : Nat
  bytes : Nat
  agg : Bool
  kind : Nat
  elem : Nat
  alen : Nat
  flds : List (Nat × Nat)
  zero : List Value

def aggB : TypeDesc → Bool
  | .struct _ | .array _ _ => true
  | _ => false

def kindOf : TypeDesc → Nat × Nat × Nat
  | .slice e => (1, e, 0)
  | .array n e => (2, e, n)
  | .struct _ => (3, 0, 0)
  | .string => (4, 0, 0)
  | .int .u8 => (6, 0, 0)
  | .int _ => (5, 0, 0)
  | .pointer e => (7, e, 0)
  | .func _ _ _ => (8, 0, 0)
  | .bool => (9, 0, 0)
  | .map k e => (10, e, k)
  | _ => (0, 0, 0)

def fldsOf (P : Program) : TypeDesc → Option (List (Nat × Nat))
  | .struct fs => fs.toList.mapM (fun f => (P.info? f.type).map fun i => (f.offset, i.size))
  | _ => some []

def isPlain : Value → Bool
  | .bool _ | .int _ _ | .string _ | .pointer none | .slice none _ _ | .nilFunc | .nilIface | .map none | .chan none | .float _ _ | .complex _ _ _ => true
  | _ => false

def allPlain : List Value → Bool
  | [] => true
  | v :: l => isPlain v && allPlain l

def tiOf (P : Program) (t : TypeId) : Option TI :=
  match P.info? t, P.underlying t with
  | some i, some d => match i.zero, fldsOf P d with
    | some z, some fl => bif allPlain z.cells.toList then some { size := i.size, bytes := i.bytes, agg := aggB d, kind := (kindOf d).1, elem := (kindOf d).2.1, alen := (kindOf d).2.2, flds := fl, zero := z.cells.toList } else none
    | _, _ => none
  | _, _ => none

/-- Or made of plain ones. -/
def plainA : Value → Bool
  | .agg cs => allPlain cs.toList
  | v => isPlain v

def allPlainA : List Value → Bool
  | [] => true
  | v :: l => plainA v && allPlainA l

structure Stage where
  pre : List Nat
  re : List Nat
  hide : List Nat
  loud : Option Nat

structure Env where
  P : Program
  tt : BT (Option TI)
  ff : BT (Option Func)
  pp : BT (Option (BT (Option (List Stage))))
  xx : BT (Option Nat)

def opv (T : Tm) : Operand → Option Value
  | .tmp t => tget T t
  | .const v => bif isPlain v then some v else none
  | .func f => some (.func (.func f) #[] #[])
  | .global _ => none

def undefV : Value := .tuple #[]

def opvs (ρ : Operand → Option Value) : List Operand → Option (List Value)
  | [] => some []
  | x :: l => match ρ x with
    | none => none
    | some v => match opvs ρ l with
      | none => none
      | some r => some (v :: r)

def srun {α : Type} (P : Program) : Sem α → Option α
  | .pure a => some a
  | .program k => srun P (k P)
  | _ => none

def cellsA : Value → Option (List Value)
  | .agg cs => some cs.toList
  | .tuple _ => none
  | .iface _ _ => none
  | v => some [v]

def lrep {α : Type} (z : List α) : Nat → List α
  | 0 => []
  | n + 1 => z ++ lrep z n

/-- 'vs' over 'cs' from place 'off' on. -/
def lput {α : Type} : List α → Nat → List α → List α
  | cs, _, [] => cs
  | [], _, _ => []
  | _ :: cs, 0, v :: vs => v :: lput cs 0 vs
  | c :: cs, n + 1, vs => c :: lput cs n vs

/-- Parts: place, size, value. -/
def fillA : List Value → List (Nat × Nat × Value) → Option (List Value)
  | cs, [] => some cs
  | cs, (off, sz, v) :: rest => match cellsA v with
    | none => none
    | some vs => bif Nat.beq vs.length sz && Nat.ble (off + vs.length) cs.length then fillA (lput cs off vs) rest else none

def partsA (ρ : Operand → Option Value) (pl : Nat → Option (Nat × Nat)) : List (Nat × Operand) → Option (List (Nat × Nat × Value))
  | [] => some []
  | (i, x) :: l => match pl i, ρ x, partsA ρ pl l with
    | some (off, sz), some v, some r => some ((off, sz, v) :: r)
    | _, _, _ => none

def unkU : Nat := 18446744073709551616

def newPtr (nm : Nat) : Value := .pointer (some ⟨nm, 0, none⟩)

def oldCells (h : Hp) (sz : Nat) (a : Option Addr) (n : Nat) : Option (List Value) := match a with
  | none => bif Nat.beq n 0 then some [] else none
  | some a => match a.spot with
    | none => hload h a (n * sz)
    | some _ => bif Nat.beq n 0 then some [] else none

/-- The cells that an append's second argument brings. -/
def newCells (h : Hp) (ti : TI) : Value → Option (Nat × List Value)
  | .slice none n _ => bif Nat.beq n 0 then some (0, []) else none
  | .slice (some a) n _ => ob (oldCells h ti.size (some a) n) fun cs => some (n, cs)
  | .int .i64 n => bif decide (0 ≤ n) && decide (n ≤ 1000000) then some (n.toNat, lrep ti.zero n.toNat) else none
  | _ => none

def xappend (h : Hp) (nm : Nat) (ti : TI) (a : Option Addr) (len cap : Nat) (n : Nat) (new : List Value) : Option (Value × Hp) :=
  let need := len + n
  bif Nat.ble need 1000000 && Nat.ble ti.bytes 1000000 && Nat.ble 1 ti.size then
    bif Nat.blt cap unkU then
      bif Nat.ble need cap then
        match a with
        | none => bif Nat.beq need 0 then some (.slice none 0 cap, h) else none
        | some b => ob (hstore h ⟨b.block, b.off + len * ti.size, b.spot⟩ new) fun h' => some (.slice a need cap, h')
      else
        ob (oldCells h ti.size a len) fun old => some (.slice (some ⟨nm, 0, none⟩) need unkU, halloc h nm (mkEnt (old ++ new) ti.size))
    else
      match a with
      | none => none
      | some b => match tget h.m b.block with
        | none => none
        | some e =>
          bif Nat.beq e.unk ti.size && Nat.beq b.off ((cap - unkU) * ti.size) && b.spot.isNone && wrB e then
            bif Nat.ble (b.off + need * ti.size) e.len then
              ob (hstore h ⟨b.block, b.off + len * ti.size, b.spot⟩ new) fun h' => some (.slice a need cap, h')
            else
              ob (rd e.cells b.off (len * ti.size)) fun old =>
                some (.slice (some ⟨nm, 0, none⟩) need unkU, halloc ⟨tset h.m b.block none, h.nxt⟩ nm (mkEnt (old ++ new) ti.size))
          else none
  else none

def capLow (h : Hp) (a : Addr) (cap sz : Nat) : Option Nat :=
  bif Nat.blt cap unkU then some cap
  else match tget h.m a.block with
    | none => none
    | some e => bif Nat.beq e.unk sz && Nat.beq a.off ((cap - unkU) * sz) && Nat.ble 1 sz && Nat.ble a.off e.len then some ((e.len - a.off) / sz) else none

def natOf (d : Nat) : Option Value → Option Nat
  | none => some d
  | some (.int _ n) => bif decide (0 ≤ n) then some n.toNat else none
  | some _ => none

def natOf3 : Option Value → Option Nat
  | none => none
  | some v => natOf 0 (some v)

/-- An empty slice somewhere. -/
def vague : Value := .slice (some ⟨0, 0, some 0⟩) 0 unkU

/-- A slice of a slice. -/
def xslice (h : Hp) (sz : Nat) (a : Option Addr) (len cap : Nat) (lo hi mx : Option Value) : Option Value := match a, mx with
  | none, none => match natOf 0 lo, natOf len hi with
    | some 0, some 0 => some (.slice none 0 cap)
    | _, _ => none
  | some b, none => bif b.spot.isNone then match natOf 0 lo, natOf len hi, capLow h b cap sz with
    | some l, some u, some c =>
      bif Nat.ble l u && Nat.ble u c && Nat.ble len c && b.spot.isNone then
        bif Nat.blt cap unkU then some (.slice (some (bif Nat.beq cap l then b else ⟨b.block, b.off + l * sz, none⟩)) (u - l) (cap - l))
        else bif Nat.blt l c then some (.slice (some ⟨b.block, b.off + l * sz, none⟩) (u - l) (cap + l)) else bif Nat.beq l 0 then some (.slice a u cap) else some vague
      else none
    | _, _, _ => none
    else match natOf 0 lo, natOf len hi with
    | some 0, some 0 => some (.slice a 0 cap)
    | _, _ => none
  | some b, some m => match natOf 0 lo, natOf3 hi, natOf 0 (some m), capLow h b cap sz with
    | some l, some u, some x, some c =>
      bif Nat.ble l u && Nat.ble u x && Nat.ble x c && Nat.blt cap unkU && b.spot.isNone then
        some (.slice (some (bif Nat.beq x l then b else ⟨b.block, b.off + l * sz, none⟩)) (u - l) (x - l))
      else none
    | _, _, _, _ => none
  | _, _ => none

def plainB : Builtin → Bool
  | .len | .min | .max | .cap => true
  | _ => false

/-- What may be appended: a slice; so many zeros. -/
def appK (k : Nat) : Value → Bool
  | .int _ _ => Nat.beq k 5
  | .slice _ _ _ => Nat.beq k 1
  | _ => false

def iLt : Int → Int → Bool
  | .ofNat m, .ofNat n => Nat.blt m n
  | .ofNat _, .negSucc _ => false
  | .negSucc _, .ofNat _ => true
  | .negSucc m, .negSucc n => Nat.blt n m

def xbuiltin (E : Env) (nm : Nat) (b : Builtin) (tys : List TypeId) (args : List Value) (h : Hp) : Option (Value × Hp) := match b, args with
  | .len, [.slice _ n _] => match tys with
    | [t] => ob (tget E.tt t) fun ti => bif Nat.beq ti.kind 1 then some (.int .i64 n, h) else none
    | _ => none
  | .cap, [.slice _ _ c] => match tys with
    | [t] => ob (tget E.tt t) fun ti => bif Nat.beq ti.kind 1 && Nat.blt c unkU then some (.int .i64 c, h) else none
    | _ => none
  | .append, [.slice a len cap, x] => match tys with
    | [t, u] => ob (tget E.tt t) fun ti => ob (tget E.tt ti.elem) fun ei => ob (tget E.tt u) fun ui =>
      bif Nat.beq ti.kind 1 && appK ui.kind x && Nat.beq ei.zero.length ei.size then
        ob (newCells h ei x) fun nc => xappend h nm ei a len cap nc.1 nc.2
      else none
    | _ => none
  | .copy, [.slice a len _, x] => match tys with
    | [t, _] => ob (tget E.tt t) fun ti => ob (tget E.tt ti.elem) fun ei =>
      bif Nat.beq ti.kind 1 then
        match x with
        | .slice b n _ => match a, b with
          | some a, some b => ob (hload h b (min n len * ei.size)) fun cs => ob (hstore h a cs) fun h' => some (.int .i64 ((min n len : Nat) : Int), h')
          | _, _ => bif Nat.beq (min n len) 0 then some (.int .i64 0, h) else none
        | _ => none
      else none
    | _ => none
  | .len, [.string s] => match tys with
    | [t] => ob (tget E.tt t) fun ti => bif Nat.beq ti.kind 4 then some (.int .i64 s.size, h) else none
    | _ => none
  | .min, [.int k x, .int _ y] => some (.int k (bif iLt y x then y else x), h)
  | .max, [.int k x, .int _ y] => some (.int k (bif iLt x y then y else x), h)
  | _, _ => none

def nilEq : Value → Value → Option Bool
  | .slice (some _) _ _, .slice none _ _ => some false
  | .slice none _ _, .slice (some _) _ _ => some false
  | .pointer (some _), .pointer none => some false
  | .pointer none, .pointer (some _) => some false
  | .func _ _ _, .nilFunc => some false
  | .nilFunc, .func _ _ _ => some false
  | _, _ => none

def nilKind (k : Nat) : Value → Bool
  | .slice _ _ _ => Nat.beq k 1
  | .pointer _ => Nat.beq k 7
  | .func _ _ _ => Nat.beq k 8
  | .nilFunc => Nat.beq k 8
  | _ => false

def rho (ρ : Operand → Option Value) (x : Operand) : Value := (ρ x).getD undefV

/-- An operation all of whose operands are plain values: by the model itself. -/
def xplain (E : Env) (o : Oper) (ρ : Operand → Option Value) (h : Hp) : Option (Value × Hp) :=
  match opvs ρ o.op.operands.toList with
  | none => none
  | some vs => bif allPlainA vs then
      match srun E.P (execOp (rho ρ) o) with
      | some (.value v) => bif isPlain v then some (v, h) else none
      | _ => none
    else none

def partA (agg : Bool) (off sz : Nat) (cs : List Value) : Option Value :=
  bif agg then some (.agg ((cs.drop off).take sz).toArray) else (cs[off]?)

def bytesOfCells : List Value → Option (List UInt8)
  | [] => some []
  | .int .u8 n :: l => match bytesOfCells l with
    | some r => some (UInt8.ofNat n.toNat :: r)
    | none => none
  | _ :: _ => none

def optv (ρ : Operand → Option Value) : Option Operand → Option (Option Value)
  | none => some none
  | some x => match ρ x with
    | some v => some (some v)
    | none => none

def xMove (ρ : Operand → Option Value) (h : Hp) (x : Operand) : Option (Value × Hp) := ob (ρ x) fun v => some (v, h)

def xPick (ρ : Operand → Option Value) (h : Hp) (c a b : Operand) : Option (Value × Hp) := match ρ c with
  | some (.bool true) => ob (ρ a) fun v => some (v, h)
  | some (.bool false) => ob (ρ b) fun v => some (v, h)
  | _ => none

/-- Where it is told that a type is the library's builder of texts (and which one its bytes are of). -/
def bT (t : Nat) : Nat := 4294967296 + t

def bldK (E : Env) (t : Nat) : Option Nat := match tget E.xx (bT t) with
  | some k => bif Nat.ble 1000 k then some (Nat.sub k 1000) else none
  | none => none

def obE (o : Ob) : Ent := ⟨.nil, 0, 0, some o⟩

def isBld0 : List Value → Bool
  | [.pointer none, .slice none 0 0] => true
  | _ => false

def allocE (E : Env) (nm : Nat) (t : Nat) (z : List Value) : Ent := match bldK E t with
  | some e => bif isBld0 z then obE (.bld t e nm none) else mkEnt z 0
  | none => mkEnt z 0

def xAlloc (E : Env) (nm : Nat) (h : Hp) (t : TypeId) : Option (Value × Hp) := ob (tget E.tt t) fun ti => some (newPtr nm, halloc h nm (allocE E nm t ti.zero))

def xBox (nm : Nat) (ρ : Operand → Option Value) (h : Hp) (x : Operand) : Option (Value × Hp) := ob (ρ x) fun v => ob (cellsA v) fun cs => some (newPtr nm, halloc h nm (mkEnt cs 0))

def xBuild (E : Env) (ρ : Operand → Option Value) (h : Hp) (t : TypeId) (parts : Array (Nat × Operand)) : Option (Value × Hp) := ob (tget E.tt t) fun ti =>
  bif Nat.beq ti.kind 3 then
    ob (partsA ρ (fun i => ti.flds[i]?) parts.toList) fun ps => ob (fillA ti.zero ps) fun cs => some (.agg cs.toArray, h)
  else bif Nat.beq ti.kind 2 then
    ob (tget E.tt ti.elem) fun ei => ob (partsA ρ (fun i => some (i * ei.size, ei.size)) parts.toList) fun ps => ob (fillA ti.zero ps) fun cs => some (.agg cs.toArray, h)
  else none

def xBuildSlice (E : Env) (nm : Nat) (ρ : Operand → Option Value) (h : Hp) (t : TypeId) (len : Nat) (parts : Array (Nat × Operand)) : Option (Value × Hp) := ob (tget E.tt t) fun ti => ob (tget E.tt ti.elem) fun ei =>
  bif Nat.beq ti.kind 1 && Nat.ble (len * ei.size) 16777216 && Nat.ble len 16777216 && Nat.beq ei.zero.length ei.size then
    ob (partsA ρ (fun i => some (i * ei.size, ei.size)) parts.toList) fun ps =>
      ob (fillA (lrep ei.zero len) ps) fun cs => some (.slice (some ⟨nm, 0, none⟩) len len, halloc h nm (mkEnt cs 0))
  else none

def xLoad (E : Env) (ρ : Operand → Option Value) (h : Hp) (t : TypeId) (a : Operand) : Option (Value × Hp) := match ρ a with
  | some (.pointer (some ad)) => ob (tget E.tt t) fun ti =>
      bif ti.agg then ob (hload h ad ti.size) fun cs => some (.agg cs.toArray, h)
      else match hload h ad 1 with
        | some [v] => some (v, h)
        | _ => none
  | _ => none

def xStore (E : Env) (ρ : Operand → Option Value) (h : Hp) (t : TypeId) (a x : Operand) : Option (Value × Hp) := match ρ a, ρ x with
  | some (.pointer (some ad)), some v => ob (tget E.tt t) fun ti => ob (cellsA v) fun cs =>
      bif Nat.beq cs.length ti.size then ob (hstore h ad cs) fun h' => some (undefV, h') else none
  | _, _ => none

def xNil (ρ : Operand → Option Value) (h : Hp) (x : Operand) : Option (Value × Hp) := match ρ x with
  | some (.pointer (some ad)) => some (.pointer (some ad), h)
  | some (.func (.func g) a b) => some (.func (.func g) a b, h)
  | _ => none

/-- Does a number fit an int64? -/
def inI64 : Int → Bool
  | .ofNat k => Nat.blt k 9223372036854775808
  | .negSucc k => Nat.blt k 9223372036854775808

def wrapF (x : Int) : Int := bif inI64 x then x else IntKind.i64.wrap x

def iEq : Int → Int → Bool
  | .ofNat m, .ofNat n => Nat.beq m n
  | .negSucc m, .negSucc n => Nat.beq m n
  | _, _ => false

/-- int's everyday operators. -/
def fastI (op : BinOp) (m n : Int) : Option Value := match op with
  | .add => some (.int .i64 (wrapF (Int.add m n)))
  | .sub => some (.int .i64 (wrapF (Int.sub m n)))
  | .mul => some (.int .i64 (wrapF (Int.mul m n)))
  | .eql => some (.bool (iEq m n))
  | .neq => some (.bool (!(iEq m n)))
  | .lss => some (.bool (iLt m n))
  | .leq => some (.bool (!(iLt n m)))
  | .gtr => some (.bool (iLt n m))
  | .geq => some (.bool (!(iLt m n)))
  | _ => none

/-- Comparisons. -/
def fastC (op : BinOp) (m n : Int) : Option Value := match op with
  | .eql => some (.bool (iEq m n))
  | .neq => some (.bool (!(iEq m n)))
  | .lss => some (.bool (iLt m n))
  | .leq => some (.bool (!(iLt n m)))
  | .gtr => some (.bool (iLt n m))
  | .geq => some (.bool (!(iLt m n)))
  | _ => none

def fastB (op : BinOp) : Value → Value → Option Value
  | .int .i64 m, .int .i64 n => fastI op m n
  | .int .u8 m, .int .u8 n => fastC op m n
  | _, _ => none

def xBinEq (E : Env) (o : Oper) (ρ : Operand → Option Value) (h : Hp) (op : BinOp) (t : TypeId) (a b : Value) : Option (Value × Hp) :=
  bif plainA a && plainA b then xplain E o ρ h else
    ob (tget E.tt t) fun ti => bif nilKind ti.kind a then
      match op with
      | .eql => ob (nilEq a b) fun r => some (.bool r, h)
      | .neq => ob (nilEq a b) fun r => some (.bool (!r), h)
      | _ => none
      else none

def xBin (E : Env) (o : Oper) (ρ : Operand → Option Value) (h : Hp) (op : BinOp) (t : TypeId) (x y : Operand) : Option (Value × Hp) := match ρ x, ρ y with
  | some a, some b => match fastB op a b with
    | some v => some (v, h)
    | none => xBinEq E o ρ h op t a b
  | _, _ => none

def xUn (E : Env) (o : Oper) (ρ : Operand → Option Value) (h : Hp) (op : UnOp) (x : Operand) : Option (Value × Hp) := match op, ρ x with
  | .not, some (.bool b) => some (.bool (!b), h)
  | _, _ => xplain E o ρ h

/-- A string's bytes as cells. -/
def byteCells (s : ByteArray) : List Value := s.data.toList.map fun b => .int .u8 b.toNat

def xStrB (nm : Nat) (h : Hp) (s : ByteArray) : Option (Value × Hp) :=
  bif Nat.beq nm h.nxt && Nat.ble s.size 1000000 then some (.slice (some ⟨nm, 0, none⟩) s.size unkU, halloc h nm (mkEnt (byteCells s) 1)) else none

def xConv (E : Env) (nm : Nat) (o : Oper) (ρ : Operand → Option Value) (h : Hp) (src dst : TypeId) (x : Operand) : Option (Value × Hp) := match ρ x with
  | some (.string s) => ob (tget E.tt dst) fun ti => bif Nat.beq ti.kind 1 then
        ob (tget E.tt ti.elem) fun ei => ob (tget E.tt src) fun _ => bif Nat.beq ei.kind 6 && Nat.beq ei.size 1 then xStrB nm h s else none
      else xplain E o ρ h
  | some (.slice a len _) => ob (tget E.tt dst) fun ti => ob (tget E.tt src) fun si => ob (tget E.tt si.elem) fun ei =>
      bif Nat.beq ti.kind 4 && Nat.beq si.kind 1 && Nat.beq ei.kind 6 then
        ob (oldCells h 1 a len) fun cs => ob (bytesOfCells cs) fun bs => some (.string ⟨bs.toArray⟩, h)
      else none
  | some _ => xplain E o ρ h
  | none => none

def xMake (E : Env) (nm : Nat) (ρ : Operand → Option Value) (h : Hp) (t : TypeId) (l c : Operand) : Option (Value × Hp) := match ρ l, ρ c with
  | some (.int _ n), some (.int _ k) => ob (tget E.tt t) fun ti => ob (tget E.tt ti.elem) fun ei =>
      bif Nat.beq ti.kind 1 && decide (0 ≤ n) && decide (n ≤ k) && decide (k ≤ 1000000) && Nat.ble ei.bytes 1000000 && Nat.beq ei.zero.length ei.size then
        some (.slice (some ⟨nm, 0, none⟩) n.toNat k.toNat, halloc h nm (mkEnt (lrep ei.zero k.toNat) 0))
      else none
  | _, _ => none

def xSlc (E : Env) (o : Oper) (ρ : Operand → Option Value) (h : Hp) (t : TypeId) (x : Operand) (lo hi mx : Option Operand) : Option (Value × Hp) := match ρ x with
  | some (.slice a len cap) => ob (tget E.tt t) fun ti => ob (tget E.tt ti.elem) fun ei =>
      bif Nat.beq ti.kind 1 then
        match optv ρ lo, optv ρ hi, optv ρ mx with
        | some lo, some hi, some mx => ob (xslice h ei.size a len cap lo hi mx) fun v => some (v, h)
        | _, _, _ => none
      else none
  | some (.pointer (some ad)) => ob (tget E.tt t) fun ti => ob (tget E.tt ti.elem) fun ei =>
      bif Nat.beq ti.kind 2 && ad.spot.isNone && mx.isNone then
        match optv ρ lo, optv ρ hi with
        | some lo, some hi => (match natOf 0 lo, natOf ti.alen hi with
          | some l, some u => bif Nat.ble l u && Nat.ble u ti.alen && Nat.blt ti.alen unkU then some (.slice (some (bif Nat.beq ti.alen l then ad else ⟨ad.block, ad.off + l * ei.size, none⟩)) (u - l) (ti.alen - l), h) else none
          | _, _ => none)
        | _, _ => none
      else none
  | some (.string _) => xplain E o ρ h
  | _ => none

def xField (E : Env) (ρ : Operand → Option Value) (h : Hp) (s : TypeId) (x : Operand) (f : Nat) : Option (Value × Hp) := match ρ x with
  | some (.pointer (some ad)) => ob (tget E.tt s) fun ti => ob (ti.flds[f]?) fun fl =>
      bif Nat.beq ti.kind 3 && !(Nat.beq fl.2 0) && ad.spot.isNone then some (.pointer (some ⟨ad.block, ad.off + fl.1, none⟩), h) else none
  | _ => none

/-- A field of a value. -/
def fldA (E : Env) (t : TypeId) (cs : List Value) (f : Nat) : Option Value := match E.P.underlying t with
  | some (.struct fs) => match fs[f]? with
    | some fl => ob (tget E.tt fl.type) fun ti => partA ti.agg fl.offset ti.size cs
    | none => none
  | _ => none

def xFldV (E : Env) (ρ : Operand → Option Value) (h : Hp) (t : TypeId) (x : Operand) (f : Nat) : Option (Value × Hp) := match ρ x with
  | some (.agg cs) => ob (fldA E t cs.toList f) fun v => some (v, h)
  | _ => none

def xIdx (E : Env) (ρ : Operand → Option Value) (h : Hp) (t : TypeId) (x ix : Operand) : Option (Value × Hp) := match ρ x, ρ ix with
  | some (.slice (some ad) len _), some (.int _ i) => ob (tget E.tt t) fun ti => ob (tget E.tt ti.elem) fun ei =>
      bif Nat.beq ti.kind 1 && decide (0 ≤ i) && decide (i < len) && ad.spot.isNone then some (.pointer (some ⟨ad.block, ad.off + i.toNat * ei.size, none⟩), h) else none
  | some (.pointer (some ad)), some (.int _ i) => ob (tget E.tt t) fun ti => ob (tget E.tt ti.elem) fun ei =>
      bif Nat.beq ti.kind 2 && decide (0 ≤ i) && decide (i < ti.alen) && ad.spot.isNone then some (.pointer (some ⟨ad.block, ad.off + i.toNat * ei.size, none⟩), h) else none
  | _, _ => none

def noFn : Value → Bool
  | .func _ _ _ => false
  | _ => true

/-- What a function's value may hold. -/
def capOk : Value → Bool
  | .tuple _ => false
  | .func _ _ _ => false
  | .iface _ _ => false
  | .agg cs => cs.toList.all noFn
  | _ => true

def xMkF (ρ : Operand → Option Value) (h : Hp) (fn : Fn) (first cap : List Operand) : Option (Value × Hp) := match fn, opvs ρ first, opvs ρ cap with
  | .func g, some vs, some us => bif vs.all capOk && us.all capOk then some (.func (.func g) vs.toArray us.toArray, h) else none
  | _, _, _ => none

/-- What may lie in an interface's value. -/
def ifaOk : Value → Bool
  | .tuple _ => false
  | .iface _ _ => false
  | _ => true

/-- A value, as one of an interface. -/
def xMkI (E : Env) (ρ : Operand → Option Value) (h : Hp) (t : TypeId) (x : Operand) : Option (Value × Hp) := ob (ρ x) fun u => ob (tget E.tt t) fun ti => bif ifaOk u && Nat.ble 1 ti.kind then some (.iface t u, h) else none

/-- The method of a type that is called so, if it takes the value itself. -/
def methOf (P : Program) (t : TypeId) (name : String) : Option Nat := match P.info? t with
  | some i => match i.methods.find? (·.name == name) with
    | some m => bif m.path.isEmpty then (match m.func with
      | some (f, false) => some f
      | _ => none) else none
    | none => none
  | none => none

def xCallI (E : Env) (call : Nat → List Value → Hp → Option (Value × Hp)) (ρ : Operand → Option Value) (h : Hp) (r : Operand) (name : String) (args : List Operand) : Option (Value × Hp) := match ρ r, opvs ρ args with
  | some (.iface t u), some vs => ob (tget E.tt t) fun ti => bif Nat.ble 1 ti.kind && !(Nat.beq ti.kind 7) then ob (methOf E.P t name) fun g => bif Nat.blt g unkU then call g (u :: vs) h else none else none
  | _, _ => none

def xExtract (ρ : Operand → Option Value) (h : Hp) (t : Operand) (i : Nat) : Option (Value × Hp) := match ρ t with
  | some (.tuple vs) => ob (vs.toList[i]?) fun v => some (v, h)
  | _ => none

def xCallV (call : Nat → List Value → Hp → Option (Value × Hp)) (ρ : Operand → Option Value) (h : Hp) (f : Operand) (args : List Operand) : Option (Value × Hp) := match ρ f, opvs ρ args with
  | some (.func (.func g) first cap), some vs => bif Nat.blt g unkU then call g (first.toList ++ vs ++ cap.toList) h else none
  | some (.func (.yield l) _ _), some vs => call (unkU + l) vs h
  | _, _ => none

def xCallB (E : Env) (nm : Nat) (o : Oper) (ρ : Operand → Option Value) (h : Hp) (b : Builtin) (tys : List TypeId) (args : List Operand) : Option (Value × Hp) := match opvs ρ args with
  | some vs => match xbuiltin E nm b tys vs h with
    | some r => some r
    | none => bif allPlain vs && plainB b then xplain E o ρ h else none
  | none => none

def xCall (E : Env) (call : Nat → List Value → Hp → Option (Value × Hp)) (nm : Nat) (o : Oper) (ρ : Operand → Option Value) (h : Hp) (c : Call) : Option (Value × Hp) := match c.callee with
  | .value f => xCallV call ρ h f c.args.toList
  | .builtin b => xCallB E nm o ρ h b c.argTypes.toList c.args.toList
  | .invoke r name => xCallI E call ρ h r name c.args.toList

/-- A key among a map's. -/
def kFind (P : Program) (kt : TypeId) (k : Value) : List (Value × Value) → Nat → Option (Option (Nat × Value))
  | [], _ => some none
  | (k', v) :: l, i => match srun P (Op.equal kt k k') with
    | some true => some (some (i, v))
    | some false => kFind P kt k l (i + 1)
    | none => none

def isTup : Value → Bool
  | .tuple _ => true
  | .iface _ _ => true
  | _ => false

def xMkMap (nm : Nat) (h : Hp) : Option Operand → Option (Value × Hp)
  | none => some (.map (some nm), halloc h nm ⟨.nil, 0, 0, some (.mp [])⟩)
  | some _ => none

def getMp (h : Hp) (n : Nat) : Option (List (Value × Value)) := match tget h.m n with
  | some e => bif Nat.beq e.unk 0 then match e.ob with
      | some (.mp es) => some es
      | _ => none
    else none
  | none => none

def keyGood (P : Program) (emp : Bool) (kt : TypeId) (k : Value) : Bool := plainA k && (match srun P (Instr.checkKey emp 10000 kt k) with
  | some _ => true
  | none => false)

def luRes (ok : Bool) (v : Value) (b : Bool) : Value := bif ok then .tuple #[v, .bool b] else v

def xLookM (E : Env) (h : Hp) (mt : TI) (es : List (Value × Value)) (k : Value) (ok : Bool) : Option (Value × Hp) :=
  bif keyGood E.P es.isEmpty mt.alen k then match kFind E.P mt.alen k es 0 with
    | some (some (_, v)) => bif isTup v then none else some (luRes ok v true, h)
    | some none => match srun E.P (zeroValue mt.elem) with
      | some z => bif plainA z then some (luRes ok z false, h) else none
      | none => none
    | none => none
  else none

def xLook (E : Env) (ρ : Operand → Option Value) (h : Hp) (t : TypeId) (x ix : Operand) (ok : Bool) : Option (Value × Hp) := match ρ x, ρ ix with
  | some (.map none), some k => ob (tget E.tt t) fun mt => bif Nat.beq mt.kind 10 then xLookM E h mt [] k ok else none
  | some (.map (some n)), some k => ob (tget E.tt t) fun mt => bif Nat.beq mt.kind 10 then ob (getMp h n) fun es => xLookM E h mt es k ok else none
  | _, _ => none

def xUpd (E : Env) (ρ : Operand → Option Value) (h : Hp) (t : TypeId) (m k x : Operand) : Option (Value × Hp) := match ρ m, ρ k, ρ x with
  | some (.map (some n)), some k, some v => ob (tget E.tt t) fun mt => bif Nat.beq mt.kind 10 && !(isTup v) && keyGood E.P false mt.alen k then
      ob (getMp h n) fun es => match kFind E.P mt.alen k es 0 with
        | some none => some (undefV, ⟨tset h.m n (some ⟨.nil, 0, 0, some (.mp (es ++ [(k, v)]))⟩), h.nxt⟩)
        | some (some (i, _)) => match es[i]? with
          | some p => bif Instr.sameBits 10000 p.1 k then some (undefV, ⟨tset h.m n (some ⟨.nil, 0, 0, some (.mp (es.set i (k, v)))⟩), h.nxt⟩) else none
          | none => none
        | none => none
      else none
  | _, _, _ => none

def xopR (E : Env) (call : Nat → List Value → Hp → Option (Value × Hp)) (nm : Nat) (o : Oper) (ρ : Operand → Option Value) (h : Hp) : Option (Value × Hp) :=
  match o.op with
  | .move x => xMove ρ h x
  | .assign x => xMove ρ h x
  | .pick c a b => xPick ρ h c a b
  | .alloc t => xAlloc E nm h t
  | .box _ x => xBox nm ρ h x
  | .build t parts => xBuild E ρ h t parts
  | .buildSlice t len parts => xBuildSlice E nm ρ h t len parts
  | .load t a => xLoad E ρ h t a
  | .store t a x => xStore E ρ h t a x
  | .nilCheck x => xNil ρ h x
  | .binOp op t x y _ => xBin E o ρ h op t x y
  | .unOp op _ x => xUn E o ρ h op x
  | .convert src dst x => xConv E nm o ρ h src dst x
  | .makeFunc fn first cap => xMkF ρ h fn first.toList cap.toList
  | .makeSlice t l c => xMake E nm ρ h t l c
  | .slice t x lo hi mx => xSlc E o ρ h t x lo hi mx
  | .fieldAddr s x f => xField E ρ h s x f
  | .indexAddr t x ix => xIdx E ρ h t x ix
  | .index _ _ _ => xplain E o ρ h
  | .extract t i => xExtract ρ h t i
  | .field t x f => xFldV E ρ h t x f
  | .makeMap _ r => xMkMap nm h r
  | .lookup t x ix ok => xLook E ρ h t x ix ok
  | .mapUpdate t m k x => xUpd E ρ h t m k x
  | .call c => xCall E call nm o ρ h c
  | .makeInterface t x => xMkI E ρ h t x
  | _ => none

def xop (E : Env) (call : Nat → List Value → Hp → Option (Value × Hp)) (nm : Nat) (o : Oper) (T : Tm) (h : Hp) : Option (Value × Hp) := xopR E call nm o (opv T) h

def tputD (T : Tm) (dst : Option Tmp) (v : Value) : Tm := match dst with
  | none => T
  | some d => tset T d (some v)

/-- Is a guarded operation wanted? -/
def wantA (ops : Array Oper) (o : Oper) (T : Tm) : Option Bool := match o.guard with
  | none => some true
  | some (j, want) => match (ops[j]?).bind (·.dst) with
    | some d => match tget T d with
      | some (.bool b) => some (b == want)
      | some (.tuple _) => some false
      | _ => none
    | none => none

def xops (E : Env) (call : Nat → List Value → Hp → Option (Value × Hp)) (ops : Array Oper) : List Oper → Tm → Hp → Option (Tm × Hp)
  | [], T, h => some (T, h)
  | o :: l, T, h => match wantA ops o T with
    | some true => match xop E call h.nxt o T h with
      | some (v, h') => xops E call ops l (tputD T o.dst v) h'
      | none => none
    | some false => xops E call ops l (tputD T o.dst undefV) h
    | none => none

def eqS0 : Value → Value → Bool
  | .bool a, .bool b => a == b
  | .int k a, .int l b => decide (k = l) && decide (a = b)
  | .string a, .string b => decide (a.data.toList = b.data.toList)
  | .pointer none, .pointer none => true
  | .pointer (some a), .pointer (some b) => decide (a = b)
  | .slice none m n, .slice none m' n' => Nat.beq m m' && Nat.beq n n'
  | .slice (some a) m n, .slice (some b) m' n' => decide (a = b) && Nat.beq m m' && Nat.beq n n'
  | .nilFunc, .nilFunc => true
  | .nilIface, .nilIface => true
  | .map none, .map none => true
  | .map (some a), .map (some b) => Nat.beq a b
  | _, _ => false

def eqL0 : List Value → List Value → Bool
  | [], [] => true
  | a :: x, b :: y => eqS0 a b && eqL0 x y
  | _, _ => false

def eqV0 : Value → Value → Bool
  | .agg a, .agg b => eqL0 a.toList b.toList
  | a, b => eqS0 a b

def eqLV0 : List Value → List Value → Bool
  | [], [] => true
  | a :: x, b :: y => eqV0 a b && eqLV0 x y
  | _, _ => false

def eqS : Value → Value → Bool
  | .func (.func f) a b, .func (.func g) c d => Nat.beq f g && eqLV0 a.toList c.toList && eqLV0 b.toList d.toList
  | a, b => eqS0 a b

def eqL : List Value → List Value → Bool
  | [], [] => true
  | a :: x, b :: y => eqS a b && eqL x y
  | _, _ => false

def eqV : Value → Value → Bool
  | .agg a, .agg b => eqL a.toList b.toList
  | a, b => eqS a b

def xpre (E : Env) (ops : Array Oper) (base : Nat) : List Nat → Tm → Hp → Option (Tm × Hp)
  | [], T, h => some (T, h)
  | i :: l, T, h => match ops[i]?, tget h.m (base + i) with
    | some o, none => match wantA ops o T with
      | some true => match xop E (fun _ _ _ => none) (base + i) o T h with
        | some (v, h') => xpre E ops base l (tputD T o.dst v) h'
        | none => none
      | some false => xpre E ops base l (tputD T o.dst undefV) h
      | none => none
    | _, _ => none

/-- Operations made again: do they give what they gave? -/
def xre (E : Env) (ops : Array Oper) (base : Nat) (T : Tm) (h : Hp) : List Nat → Bool
  | [] => true
  | i :: l => match ops[i]? with
    | none => false
    | some o => match wantA ops o T with
      | some true => match xop E (fun _ _ _ => none) (base + i) o T h, o.dst with
        | some (v, _), some d => match tget T d with
          | some u => eqV u v && xre E ops base T h l
          | none => false
        | some _, none => xre E ops base T h l
        | none, _ => false
      | some false => match o.dst with
        | some d => match tget T d with
          | some (.tuple a) => Nat.beq a.size 0 && xre E ops base T h l
          | _ => false
        | none => xre E ops base T h l
      | none => false

def hideAll (base : Nat) (m : BT (Option Ent)) : List Nat → BT (Option Ent)
  | [] => m
  | i :: l => hideAll base (tset m (base + i) none) l

def backAll (base : Nat) (m0 : BT (Option Ent)) (m : BT (Option Ent)) : List Nat → BT (Option Ent)
  | [] => m
  | i :: l => backAll base m0 (tset m (base + i) (tget m0 (base + i))) l

def xstages (E : Env) (call : Nat → List Value → Hp → Option (Value × Hp)) (ops : Array Oper) (base : Nat) : List Stage → Tm → Hp → Option (Tm × Hp)
  | [], T, h => some (T, h)
  | s :: l, T, h =>
    bif xre E ops base T h s.re then
      match xpre E ops base s.pre T h with
      | none => none
      | some (T1, h1) => match s.loud with
        | none => match l with
          | [] => some (T1, h1)
          | _ => none
        | some i => match ops[i]? with
          | none => none
          | some o => match wantA ops o T1 with
            | some true => match xop E call h1.nxt o T1 ⟨hideAll base h1.m s.hide, h1.nxt⟩ with
              | some (v, h2) => xstages E call ops base l (tputD T1 o.dst v) ⟨backAll base h1.m h2.m s.hide, h2.nxt⟩
              | none => none
            | some false => xstages E call ops base l (tputD T1 o.dst undefV) h1
            | none => none
    else none

def args0 (T : Tm) : Nat → List Value → Tm
  | _, [] => T
  | i, v :: l => args0 (tset T i (some v)) (i + 1) l

def resA (ρ : Operand → Option Value) (h : Hp) (E : Env) : List ResultVar → Option (List Value)
  | [] => some []
  | .tmp t :: l => match ρ (.tmp t), resA ρ h E l with
    | some v, some r => some (v :: r)
    | _, _ => none
  | .cell a ty :: l => match ρ (.tmp a), tget E.tt ty, resA ρ h E l with
    | some (.pointer (some ad)), some ti, some r =>
      bif ti.agg then match hload h ad ti.size with
        | some cs => some (.agg cs.toArray :: r)
        | none => none
      else match hload h ad 1 with
        | some [v] => some (v :: r)
        | _ => none
    | _, _, _ => none

def noTup : List Value → Bool
  | [] => true
  | .tuple _ :: _ => false
  | .iface _ _ :: _ => false
  | _ :: l => noTup l

def oneOf : List Value → Option Value
  | [v] => some v
  | vs => bif noTup vs then some (.tuple vs.toArray) else none

/-- Where a byte stands first. -/
def idxB (s : ByteArray) (c : Int) : Int := match (List.range s.size).find? fun i => s[i]! == c.toNat.toUInt8 with
  | some i => (i : Int)
  | none => -1

/-- A text, of which so many bytes from a place on are another text. -/
def splT (s : ByteArray) (a n : Nat) (p : ByteArray) : ByteArray := ⟨(s.data.toList.take a ++ p.data.toList ++ s.data.toList.drop (a + n)).toArray⟩

def splB (s : ByteArray) (a n : Int) (p : ByteArray) : Bool := decide (0 ≤ a) && decide (0 ≤ n) && decide (a + n ≤ s.size) && Nat.ble (s.size + p.size) 1000000

def splX (s : ByteArray) (h : Hp) : List Value → Option (Value × Hp)
  | [.int .i64 a, .int .i64 n, .string p] => bif splB s a n p then some (.string (splT s a.toNat n.toNat p), h) else none
  | _ => none

def getOb (h : Hp) (n : Nat) : Option Ob := match tget h.m n with
  | some e => bif Nat.beq e.unk 0 then e.ob else none
  | none => none

def catB (s t : ByteArray) : ByteArray := ⟨(s.data.toList ++ t.data.toList).toArray⟩

def optB : Option Nat → Nat → Bool
  | some a, b => Nat.beq a b
  | none, _ => false

/-- A text is put behind what a builder holds. -/
def xWrite (E : Env) (b : Nat) (t : ByteArray) (h : Hp) : Option Hp := match getOb h b with
  | some (.bld T e self buf) => bif Nat.beq self b && optB (bldK E T) e && Nat.ble t.size 1000000 then
      match buf with
      | none => bif Nat.beq t.size 0 then some ⟨tset h.m b (some (obE (.bld T e self none))), h.nxt⟩ else
          some ⟨tset (tset h.m h.nxt (some (obE (.byt e h.nxt t)))) b (some (obE (.bld T e self (some (h.nxt, t.size))))), h.nxt + 1⟩
      | some (nb, n) => match getOb h nb with
        | some (.byt e' self' s) => bif Nat.beq e' e && Nat.beq self' nb && Nat.beq s.size n && !(Nat.beq nb b) && Nat.ble n 1000000 then
            some ⟨tset (tset (tset h.m nb none) h.nxt (some (obE (.byt e h.nxt (catB s t))))) b (some (obE (.bld T e self (some (h.nxt, n + t.size))))), h.nxt + 1⟩
          else none
        | _ => none
    else none
  | _ => none

/-- What a builder holds. -/
def xStr (E : Env) (b : Nat) (h : Hp) : Option (ByteArray × Hp) := match getOb h b with
  | some (.bld T e self buf) => bif Nat.beq self b && optB (bldK E T) e then
      match buf with
      | none => some (⟨#[]⟩, h)
      | some (nb, n) => match getOb h nb with
        | some (.byt e' self' s) => bif Nat.beq e' e && Nat.beq self' nb && Nat.beq s.size n && !(Nat.beq nb b) && Nat.ble n 1000000 then some (s, ⟨tset h.m nb none, h.nxt⟩) else none
        | _ => none
    else none
  | _ => none

def xext (E : Env) (g : Nat) (args : List Value) (h : Hp) : Option (Value × Hp) := match tget E.xx g, args with
  | some 1, [.string a, .string b] => some (.int .i64 (Extern.BytealgCompare.cmp a b), h)
  | some 2, [] => some (.bool true, h)
  | some 3, [.string s, .int .u8 c] => some (.int .i64 (idxB s c), h)
  | some 4, [.string s, .agg cs] => splX s h cs.toList
  | some 5, [.pointer (some ⟨b, 0, none⟩), .string t] => ob (xWrite E b t h) fun h' => some (.tuple #[.int .i64 (t.size : Nat), .nilIface], h')
  | some 6, [.pointer (some ⟨b, 0, none⟩)] => ob (xStr E b h) fun r => some (.string r.1, r.2)
  | some 7, [.string s] => bif Nat.ble s.size 1000000 then some (.string s, h) else none
  | _, _ => none

/-- Of which function a statement is, and of which loop's round. -/
structure At where
  fn : Nat
  ro : Option Nat

def getLp (h : Hp) (l : Nat) : Option Lp := match tget h.m l with
  | some e => bif Nat.beq e.unk 0 then match e.ob with
      | some (.loop L) => some L
      | _ => none
    else none
  | none => none

def setLp (h : Hp) (l : Nat) (st : Nat) (pend : Option Code) : Option Hp := match tget h.m l with
  | some e => bif Nat.beq e.unk 0 then match e.ob with
      | some (.loop L) => some ⟨tset h.m l (some ⟨.nil, 0, 0, some (.loop ⟨L.fn, L.N, L.ps, L.asg, L.body, L.ts, st, pend⟩)⟩), h.nxt⟩
      | _ => none
    else none
  | none => none

def putAll (T : Tm) : List (Nat × Value) → Tm
  | [] => T
  | p :: l => putAll (tset T p.1 (some p.2)) l

def putPs (T : Tm) : List Nat → List Value → Tm
  | t :: ts, v :: vs => putPs (tset T t (some v)) ts vs
  | _, _ => T

def snap (T : Tm) : Nat → List (Nat × Value)
  | 0 => []
  | n + 1 => match tget T n with
    | some v => (n, v) :: snap T n
    | none => snap T n

/-- A round of loop l. -/
def yieldA (run : Code → At → Tm → Hp → Option (Exit × Tm × Hp)) (l : Nat) (args : List Value) (h : Hp) : Option (Value × Hp) :=
  ob (getLp h l) fun L => bif Nat.beq L.st 0 && Nat.beq L.ps.length args.length then
    match run L.asg ⟨L.fn, some l⟩ (putPs (putAll .nil L.ts) L.ps args) h with
    | some (.normal, T1, h1) => ob (getLp h1 l) fun L1 => bif Nat.beq L1.st 0 then
        ob (setLp h1 l 1 L1.pend) fun h2 => match run L.body ⟨L.fn, some l⟩ T1 h2 with
          | some (.normal, _, h3) => ob (setLp h3 l 0 none) fun h4 => some (.bool true, h4)
          | some (.ret, _, h3) => ob (setLp h3 l 2 (some .ret)) fun h4 => some (.bool false, h4)
          | some (.exit i, _, h3) => ob (setLp h3 l 2 (some (.exit i))) fun h4 => some (.bool false, h4)
          | _ => none
        else none
    | _ => none
  else none

/-- A call of function g, where 'run' runs a body; from unkU on: a round. -/
def callA (E : Env) (run : Code → At → Tm → Hp → Option (Exit × Tm × Hp)) (g : Nat) (args : List Value) (h : Hp) : Option (Value × Hp) :=
  bif Nat.blt g unkU then
    match tget E.ff g with
    | none => xext E g args h
    | some fn => match fn.body with
      | none => none
      | some b => match run b ⟨g, none⟩ (args0 .nil 0 args) h with
        | some (.normal, T', h') => ob (resA (opv T') h' E fn.results.toList) fun vs => ob (oneOf vs) fun r => some (r, h')
        | some (.ret, T', h') => ob (resA (opv T') h' E fn.results.toList) fun vs => ob (oneOf vs) fun r => some (r, h')
        | _ => none
  else yieldA run (g - unkU) args h

def roOk (h : Hp) : Option Nat → Bool
  | none => true
  | some l => match getLp h l with
    | some _ => true
    | none => false

def newLp (h : Hp) (L : Lp) : Hp := halloc h h.nxt ⟨.nil, 0, 0, some (.loop L)⟩

def dropE (h : Hp) (l : Nat) : Hp := ⟨tset h.m l none, h.nxt⟩

/-- A loop's end. -/
def endA {α : Type} (h : Hp) (l : Nat) (T : α) : Option (Exit × α × Hp) :=
  ob (getLp h l) fun L => bif Nat.beq L.st 1 then none else match L.pend with
    | none => some (.normal, T, dropE h l)
    | some .ret => some (.ret, T, dropE h l)
    | some (.exit i) => some (.exit i, T, dropE h l)
    | some _ => none

def ev (E : Env) : Nat → Code → At → Tm → Hp → Option (Exit × Tm × Hp)
  | 0, _, _, _, _ => none
  | n + 1, c, f, T, h =>
    match c with
    | .skip => some (.normal, T, h)
    | .seq a b => match ev E n a f T h with
      | some (.normal, T', h') => ev E n b f T' h'
      | r => r
    | .cond c a b => match opv T c with
      | some (.bool true) => ev E n a f T h
      | some (.bool false) => ev E n b f T h
      | _ => none
    | .block id c => match ev E n c f T h with
      | some (.exit i, T', h') => bif Nat.beq i id then some (.normal, T', h') else some (.exit i, T', h')
      | r => r
    | .loop c => match ev E n c f T h with
      | some (.normal, T', h') => ev E n (.loop c) f T' h'
      | r => r
    | .exit id => some (.exit id, T, h)
    | .ret => some (.ret, T, h)
    | .region id ops draw =>
      bif draw then
        match tget E.pp f.fn with
        | none => none
        | some pf => match tget pf id with
          | none => none
          | some st => match xstages E (callA E (ev E n)) ops h.nxt st T ⟨h.m, h.nxt + ops.size⟩ with
            | some (T', h') => some (.normal, T', h')
            | none => none
      else match xops E (callA E (ev E n)) ops ops.toList T h with
        | some (T', h') => some (.normal, T', h')
        | none => none
    | .rangeFunc g ps asg body => bif roOk h f.ro then match opv T g, tget E.ff f.fn with
        | some (.func (.func it) first cap), some fn => bif Nat.blt it unkU && (tget E.ff it).isSome then
            match callA E (ev E n) it (first.toList ++ [.func (.yield h.nxt) #[] #[]] ++ cap.toList) (newLp h ⟨f.fn, fn.ntmps, ps.toList, asg, body, snap T fn.ntmps, 0, none⟩) with
            | some (_, h1) => endA h1 h.nxt T
            | none => none
          else none
        | _, _ => none
      else none
    | _ => none

def dstOk (N : Nat) (o : Oper) : Bool := match o.dst with
  | none => true
  | some d => Nat.blt d N

def dstsOk (N : Nat) : List Oper → Bool
  | [] => true
  | o :: l => dstOk N o && dstsOk N l

def memN (i : Nat) : List Nat → Bool
  | [] => false
  | j :: l => Nat.beq i j || memN i l

def subN (l m : List Nat) : Bool := l.all fun i => memN i m

def silB : Op → Bool
  | .move _ | .assign _ | .pick _ _ _ | .build _ _ | .load _ _ | .nilCheck _ | .binOp _ _ _ _ _ | .unOp _ _ _ | .convert _ _ _ | .slice _ _ _ _ _ | .fieldAddr _ _ _ | .indexAddr _ _ _ | .index _ _ _ | .extract _ _ | .field _ _ _ | .makeFunc _ _ _ | .lookup _ _ _ _ | .makeInterface _ _ => true
  | .call c => match c.callee with
    | .builtin b => plainB b
    | _ => false
  | _ => false

def allB : Op → Bool
  | .alloc _ | .box _ _ | .buildSlice _ _ _ | .makeSlice _ _ _ => true
  | _ => false

/-- Whom each operation waits for, told from the first on. -/
def ancAll : List Oper → List (List Nat) → List (List Nat)
  | [], acc => acc
  | o :: l, acc => ancAll l (acc ++ [o.after.toList.flatMap fun e => bif Region.binds .any e then e.on :: (acc[e.on]?).getD [] else []])

def ancOf (A : List (List Nat)) (i : Nat) : List Nat := (A[i]?).getD []

/-- Each of those is waited for, straight or by another; and who is waited for stands ahead. -/
def ancOk (ops : Array Oper) (A : List (List Nat)) (i : Nat) : Bool := match ops[i]? with
  | none => (ancOf A i).isEmpty
  | some o => (o.after.toList.all fun e => !Region.binds .any e || Nat.blt e.on i) &&
      (ancOf A i).all fun j => o.after.toList.any fun e => Region.binds .any e && (Nat.beq j e.on || memN j (ancOf A e.on))

def writesAt (ops : Array Oper) (j t : Nat) : Bool := match ops[j]? with
  | some o => match o.dst with
    | some d => Nat.beq d t
    | none => false
  | none => false

/-- Of two operations one of which writes what the other looks at one waits for the other; no two write one. -/
def pairOk (ops : Array Oper) (A : List (List Nat)) (i j : Nat) : Bool := match ops[i]? with
  | none => true
  | some o => Nat.beq i j ||
      (((o.looksAt ops).all fun t => !writesAt ops j t || memN j (ancOf A i) || memN i (ancOf A j)) && (match o.dst with | some d => !writesAt ops j d | none => true))

/-- What is looked at has been written by those alone that are waited for. -/
def lookOk (ops : Array Oper) (A : List (List Nat)) (D : List Nat) (i : Nat) : Bool := match ops[i]? with
  | none => false
  | some o => subN (ancOf A i) D && !memN i (ancOf A i) && (o.looksAt ops).all fun t => D.all fun j => !writesAt ops j t || memN j (ancOf A i)

def behind (A : List (List Nat)) (prev : Option Nat) (i : Nat) : Bool := match prev with
  | none => true
  | some c => memN c (ancOf A i) && subN (ancOf A c) (ancOf A i)

def opAt? (ops : Array Oper) (p : Op → Bool) (i : Nat) : Bool := match ops[i]? with
  | none => false
  | some o => p o.op

def preOk (ops : Array Oper) (A : List (List Nat)) (prev : Option Nat) : List Nat → List Nat → Bool
  | _, [] => true
  | D, i :: l => (opAt? ops silB i || opAt? ops allB i) && !memN i D && behind A prev i && lookOk ops A D i && preOk ops A prev (i :: D) l

def coverOk (ops : Array Oper) (A : List (List Nat)) (prev : Option Nat) (D re : List Nat) : Bool :=
  D.all fun i => memN i re || opAt? ops allB i || (match prev with | some c => Nat.beq i c || memN i (ancOf A c) | none => false)

def reOk (ops : Array Oper) (A : List (List Nat)) (D re : List Nat) : Bool :=
  re.all fun i => opAt? ops silB i && memN i D && (match ops[i]? with | none => false | some o => (o.looksAt ops).all fun t => D.all fun j => !writesAt ops j t || memN j (ancOf A i))

def stOk (ops : Array Oper) (A : List (List Nat)) : List Nat → Option Nat → List Stage → Bool
  | _, _, [] => false
  | D, prev, s :: l =>
    coverOk ops A prev D s.re && reOk ops A D s.re && preOk ops A prev D s.pre &&
    match s.loud with
    | none => (List.range ops.size).all (fun i => memN i (s.pre.reverse ++ D)) && l.isEmpty
    | some c => (match ops[c]? with | none => false | some _ => true) && (s.hide.all fun i => Nat.blt i ops.size) && !memN c (s.pre.reverse ++ D) && behind A prev c && lookOk ops A (s.pre.reverse ++ D) c &&
        ((s.pre.reverse ++ D).all fun i => !opAt? ops allB i || memN i s.hide || memN i (ancOf A c)) &&
        ((List.range ops.size).all fun i => memN i (s.pre.reverse ++ D) || Nat.beq i c || memN c (ancOf A i)) &&
        stOk ops A (c :: (s.pre.reverse ++ D)) (some c) l

/- The same by masks. -/

def bitB (m j : Nat) : Bool := Nat.beq (Nat.land (Nat.shiftRight m j) 1) 1

def oneM (j : Nat) : Nat := Nat.shiftLeft 1 j

def subM (a b : Nat) : Bool := Nat.beq (Nat.land a b) a

def forceB (n : Nat) (k : Nat → Bool) : Bool := match n with
  | 0 => k 0
  | m + 1 => k (m + 1)

def listM : List Nat → Nat
  | [] => 0
  | i :: l => Nat.lor (oneM i) (listM l)

def mAt (M : BT (Option Nat)) (i : Nat) : Nat := match tget M i with
  | some m => m
  | none => 0

def maskOf (M : BT (Option Nat)) : List Edge → Nat
  | [] => 0
  | e :: l => bif Region.binds .any e then Nat.lor (Nat.lor (oneM e.on) (mAt M e.on)) (maskOf M l) else maskOf M l

/-- The masks of whom each waits for; who writes what; who makes memory. -/
def ancGo (k : BT (Option Nat) → BT (Option Nat) → Nat → Bool) : List Oper → Nat → BT (Option Nat) → BT (Option Nat) → Nat → Bool
  | [], _, M, X, a => k M X a
  | o :: l, i, M, X, a => (o.after.toList.all fun e => !Region.binds .any e || Nat.blt e.on i) && forceB (maskOf M o.after.toList) fun m =>
      match o.dst with
      | none => ancGo k l (i + 1) (tset M i (some m)) X (bif allB o.op then Nat.lor a (oneM i) else a)
      | some d => match tget X d with
        | some _ => false
        | none => ancGo k l (i + 1) (tset M i (some m)) (tset X d (some i)) (bif allB o.op then Nat.lor a (oneM i) else a)

def byAll (X : BT (Option Nat)) (p : Nat → Bool) : List Tmp → Bool
  | [] => true
  | t :: l => (match tget X t with | none => true | some j => p j) && byAll X p l

def pairF (ops : Array Oper) (M X : BT (Option Nat)) : List Oper → Nat → Bool
  | [], _ => true
  | o :: l, i => byAll X (fun j => Nat.beq i j || bitB (mAt M i) j || bitB (mAt M j) i) (o.looksAt ops) && pairF ops M X l (i + 1)

def behindF (M : BT (Option Nat)) (prev : Option Nat) (i : Nat) : Bool := match prev with
  | none => true
  | some c => bitB (mAt M i) c && subM (mAt M c) (mAt M i)

def lookF (ops : Array Oper) (M X : BT (Option Nat)) (D i : Nat) : Bool := match ops[i]? with
  | none => false
  | some o => byAll X (fun j => !bitB D j || bitB (mAt M i) j) (o.looksAt ops)

def preF (ops : Array Oper) (M X : BT (Option Nat)) (prev : Option Nat) (k : Nat → Bool) : List Nat → Nat → Bool
  | [], D => k D
  | i :: l, D => (opAt? ops silB i || opAt? ops allB i) && !bitB D i && behindF M prev i && subM (mAt M i) D && !bitB (mAt M i) i && lookF ops M X D i && forceB (Nat.lor D (oneM i)) fun D => preF ops M X prev k l D

def reF (ops : Array Oper) (M X : BT (Option Nat)) (D : Nat) : List Nat → Bool
  | [] => true
  | i :: l => opAt? ops silB i && bitB D i && lookF ops M X D i && reF ops M X D l

def prevM (M : BT (Option Nat)) : Option Nat → Nat
  | none => 0
  | some c => Nat.lor (oneM c) (mAt M c)

def waitF (M : BT (Option Nat)) (D c : Nat) : Nat → Bool
  | 0 => true
  | n + 1 => (bitB D n || Nat.beq n c || bitB (mAt M n) c) && waitF M D c n

def stF (ops : Array Oper) (M X : BT (Option Nat)) (a : Nat) : List Stage → Option Nat → Nat → Bool
  | [], _, _ => false
  | s :: l, prev, D =>
    subM D (Nat.lor (listM s.re) (Nat.lor a (prevM M prev))) && reF ops M X D s.re &&
    preF ops M X prev (fun D1 => match s.loud with
      | none => subM (Nat.sub (Nat.pow 2 ops.size) 1) D1 && l.isEmpty
      | some c => (match ops[c]? with | none => false | some _ => true) && (s.hide.all fun i => Nat.blt i ops.size) && !bitB D1 c && behindF M prev c && subM (mAt M c) D1 && !bitB (mAt M c) c && lookF ops M X D1 c &&
        subM (Nat.land D1 a) (Nat.lor (listM s.hide) (mAt M c)) && waitF M D1 c ops.size &&
        forceB (Nat.lor D1 (oneM c)) fun D2 => stF ops M X a l (some c) D2) s.pre D

def planOk (ops : Array Oper) (st : List Stage) : Bool :=
  ancGo (fun M X a => pairF ops M X ops.toList 0 && stF ops M X a st none 0) ops.toList 0 .nil .nil 0

def codeOk (E : Env) (f N : Nat) : Code → Bool
  | .seq a b => codeOk E f N a && codeOk E f N b
  | .cond _ a b => codeOk E f N a && codeOk E f N b
  | .block _ c => codeOk E f N c
  | .loop c => codeOk E f N c
  | .region id ops draw => dstsOk N ops.toList && (bif draw then (match tget E.pp f with
      | none => true
      | some pf => match tget pf id with
        | none => true
        | some st => planOk ops st) else true)
  | .rangeFunc _ ps asg body => (match tget E.ff f with
      | some fn => Nat.beq fn.ntmps N
      | none => false) && ps.toList.all (fun t => Nat.blt t N) && codeOk E f N asg && codeOk E f N body
  | _ => true

end Go.Ev
