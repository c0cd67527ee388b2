import Derived.Deep.Trees
import Derived.Orders
import Derived.Below
import Derived.Laws.IdiomCopy
import Derived.Laws.World
import Derived.Lib.AppendStr
import Derived.WalkKit
import Derived.OrdersIn
import Derived.RangeFuncSeq
namespace Go.Ev
open Go.Deep
def tget {α:Type}:BT (Option α)->Nat->Option α
 | .nil,_=>none
 | .node _ _ a l r,n=>match n with
   | 0=>a
   | m+1=>bif Nat.beq (Nat.mod m 2) 0 then tget l (Nat.div m 2) else tget r (Nat.div m 2)
def tput {α:Type}:Nat->BT (Option α)->Nat->Option α->BT (Option α)
 | 0,t,_,_=>t
 | f+1,.nil,n,x=>match n with
   | 0=>.node 0 0 x .nil .nil
   | m+1=>bif Nat.beq (Nat.mod m 2) 0 then .node 0 0 none (tput f .nil (Nat.div m 2) x) .nil else .node 0 0 none .nil (tput f .nil (Nat.div m 2) x)
 | f+1,.node _ _ a l r,n,x=>match n with
   | 0=>.node 0 0 x l r
   | m+1=>bif Nat.beq (Nat.mod m 2) 0 then .node 0 0 a (tput f l (Nat.div m 2) x) r else .node 0 0 a l (tput f r (Nat.div m 2) x)
def tset {α:Type} (t:BT (Option α)) (n:Nat) (x:Option α):BT (Option α):=tput (Nat.log2 n+2) t n x
structure Lp where
 fn:Nat
 N:Nat
 ps:List Nat
 asg:Code
 body:Code
 ts:List (Nat × Value)
 st:Nat
 pend:Option Code
inductive Ob where
 | loop (L:Lp)
 | mp (es:List (Value × Value))
 | bld (T e self:Nat) (buf:Option (Nat × Nat))
 | byt (e self:Nat) (s:ByteArray)
structure Ent where
 cells:BT (Option Value)
 len:Nat
 unk:Nat
 ob:Option Ob
structure Hp where
 m:BT (Option Ent)
 nxt:Nat
abbrev Tm:=BT (Option Value)
def ob {α β:Type} (x:Option α) (f:α->Option β):Option β:=match x with
 | none=>none
 | some a=>f a
def rd (e:BT (Option Value)):Nat->Nat->Option (List Value)
 | _,0=>some []
 | i,n+1=>match tget e i with
   | none=>none
   | some v=>match rd e (i+1) n with
     | none=>none
     | some l=>some (v :: l)
def wr (e:BT (Option Value)):Nat->List Value->BT (Option Value)
 | _,[]=>e
 | i,v :: l=>wr (tset e i (some v)) (i+1) l
def roU:Nat:=36893488147419103232
def mkEnt (cs:List Value) (unk:Nat):Ent:=⟨wr .nil 0 cs,cs.length,unk,none⟩
def noOb:Option Ob->Bool
 | none=>true
 | some _=>false
def wrB (e:Ent):Bool:=!(Nat.beq e.unk roU)&&noOb e.ob
def hload (h:Hp) (a:Addr) (n:Nat):Option (List Value):=match a.spot,tget h.m a.block with
 | none,some e=>rd e.cells a.off n
 | _,_=>none
def hstore (h:Hp) (a:Addr) (vs:List Value):Option Hp:=match a.spot,tget h.m a.block with
 | none,some e=>bif wrB e then match rd e.cells a.off vs.length with
    | some _=>some ⟨tset h.m a.block (some ⟨wr e.cells a.off vs,e.len,e.unk,none⟩),h.nxt⟩
    | none=>none
   else none
 | _,_=>none
def halloc (h:Hp) (nm:Nat) (e:Ent):Hp:=⟨tset h.m nm (some e),max h.nxt (nm+1)⟩
structure TI where
 size:Nat
 bytes:Nat
 agg:Bool
 kind:Nat
 elem:Nat
 alen:Nat
 flds:List (Nat × Nat)
 zero:List Value
def aggB:TypeDesc->Bool
 | .struct _ | .array _ _=>true
 | _=>false
def kindOf:TypeDesc->Nat × Nat × Nat
 | .slice e=>(1,e,0)
 | .array n e=>(2,e,n)
 | .struct _=>(3,0,0)
 | .string=>(4,0,0)
 | .int .u8=>(6,0,0)
 | .int _=>(5,0,0)
 | .pointer e=>(7,e,0)
 | .func _ _ _=>(8,0,0)
 | .bool=>(9,0,0)
 | .map k e=>(10,e,k)
 | _=>(0,0,0)
def fldsOf (P:Program):TypeDesc->Option (List (Nat × Nat))
 | .struct fs=>fs.toList.mapM (fun f=>(P.info? f.type).map fun i=>(f.offset,i.size))
 | _=>some []
def isPlain:Value->Bool
 | .bool _ | .int _ _ | .string _ | .pointer none | .slice none _ _ | .nilFunc | .nilIface | .map none | .chan none | .float _ _ | .complex _ _ _=>true
 | _=>false
def allPlain:List Value->Bool
 | []=>true
 | v :: l=>isPlain v&&allPlain l
def tiOf (P:Program) (t:TypeId):Option TI :=
 match P.info? t,P.underlying t with
 | some i,some d=>match i.zero,fldsOf P d with
   | some z,some fl=>bif allPlain z.cells.toList then some { size:=i.size,bytes:=i.bytes,agg:=aggB d,kind:=(kindOf d).1,elem:=(kindOf d).2.1,alen:=(kindOf d).2.2,flds:=fl,zero:=z.cells.toList } else none
   | _,_=>none
 | _,_=>none
def plainA:Value->Bool
 | .agg cs=>allPlain cs.toList
 | v=>isPlain v
def allPlainA:List Value->Bool
 | []=>true
 | v :: l=>plainA v&&allPlainA l
structure Stage where
 pre:List Nat
 re:List Nat
 hide:List Nat
 loud:Option Nat
structure Env where
 P:Program
 tt:BT (Option TI)
 ff:BT (Option Func)
 pp:BT (Option (BT (Option (List Stage))))
 xx:BT (Option Nat)
def opv (T:Tm):Operand->Option Value
 | .tmp t=>tget T t
 | .const v=>bif isPlain v then some v else none
 | .func f=>some (.func (.func f) #[] #[])
 | .global _=>none
def undefV:Value:=.tuple #[]
def opvs (ρ:Operand->Option Value):List Operand->Option (List Value)
 | []=>some []
 | x :: l=>match ρ x with
   | none=>none
   | some v=>match opvs ρ l with
     | none=>none
     | some r=>some (v :: r)
def srun {α:Type} (P:Program):Sem α->Option α
 | .pure a=>some a
 | .program k=>srun P (k P)
 | _=>none
def cellsA:Value->Option (List Value)
 | .agg cs=>some cs.toList
 | .tuple _=>none
 | .iface _ _=>none
 | v=>some [v]
def lrep {α:Type} (z:List α):Nat->List α
 | 0=>[]
 | n+1=>z++lrep z n
def lput {α:Type}:List α->Nat->List α->List α
 | cs,_,[]=>cs
 | [],_,_=>[]
 | _ :: cs,0,v :: vs=>v :: lput cs 0 vs
 | c :: cs,n+1,vs=>c :: lput cs n vs
def fillA:List Value->List (Nat × Nat × Value)->Option (List Value)
 | cs,[]=>some cs
 | cs,(off,sz,v) :: rest=>match cellsA v with
   | none=>none
   | some vs=>bif Nat.beq vs.length sz&&Nat.ble (off+vs.length) cs.length then fillA (lput cs off vs) rest else none
def partsA (ρ:Operand->Option Value) (pl:Nat->Option (Nat × Nat)):List (Nat × Operand)->Option (List (Nat × Nat × Value))
 | []=>some []
 | (i,x) :: l=>match pl i,ρ x,partsA ρ pl l with
  | some (off,sz),some v,some r=>some ((off,sz,v) :: r)
  | _,_,_=>none
def unkU:Nat:=18446744073709551616
def newPtr (nm:Nat):Value:=.pointer (some ⟨nm,0,none⟩)
def oldCells (h:Hp) (sz:Nat) (a:Option Addr) (n:Nat):Option (List Value):=match a with
 | none=>bif Nat.beq n 0 then some [] else none
 | some a=>match a.spot with
   | none=>hload h a (n*sz)
   | some _=>bif Nat.beq n 0 then some [] else none
def newCells (h:Hp) (ti:TI):Value->Option (Nat × List Value)
 | .slice none n _=>bif Nat.beq n 0 then some (0,[]) else none
 | .slice (some a) n _=>ob (oldCells h ti.size (some a) n) fun cs=>some (n,cs)
 | .int .i64 n=>bif decide (0<=n)&&decide (n<=1000000) then some (n.toNat,lrep ti.zero n.toNat) else none
 | _=>none
def xappend (h:Hp) (nm:Nat) (ti:TI) (a:Option Addr) (len cap:Nat) (n:Nat) (new:List Value):Option (Value × Hp) :=
 let need:=len+n
 bif Nat.ble need 1000000&&Nat.ble ti.bytes 1000000&&Nat.ble 1 ti.size then
  bif Nat.blt cap unkU then
   bif Nat.ble need cap then
    match a with
    | none=>bif Nat.beq need 0 then some (.slice none 0 cap,h) else none
    | some b=>ob (hstore h ⟨b.block,b.off+len*ti.size,b.spot⟩ new) fun h'=>some (.slice a need cap,h')
   else
    ob (oldCells h ti.size a len) fun old=>some (.slice (some ⟨nm,0,none⟩) need unkU,halloc h nm (mkEnt (old++new) ti.size))
  else
   match a with
   | none=>none
   | some b=>match tget h.m b.block with
     | none=>none
     | some e =>
       bif Nat.beq e.unk ti.size&&Nat.beq b.off ((cap-unkU)*ti.size)&&b.spot.isNone&&wrB e then
        bif Nat.ble (b.off+need*ti.size) e.len then
         ob (hstore h ⟨b.block,b.off+len*ti.size,b.spot⟩ new) fun h'=>some (.slice a need cap,h')
        else
         ob (rd e.cells b.off (len*ti.size)) fun old =>
          some (.slice (some ⟨nm,0,none⟩) need unkU,halloc ⟨tset h.m b.block none,h.nxt⟩ nm (mkEnt (old++new) ti.size))
       else none
 else none
def capLow (h:Hp) (a:Addr) (cap sz:Nat):Option Nat :=
 bif Nat.blt cap unkU then some cap
 else match tget h.m a.block with
  | none=>none
  | some e=>bif Nat.beq e.unk sz&&Nat.beq a.off ((cap-unkU)*sz)&&Nat.ble 1 sz&&Nat.ble a.off e.len then some ((e.len-a.off)/sz) else none
def natOf (d:Nat):Option Value->Option Nat
 | none=>some d
 | some (.int _ n)=>bif decide (0<=n) then some n.toNat else none
 | some _=>none
def natOf3:Option Value->Option Nat
 | none=>none
 | some v=>natOf 0 (some v)
def vague:Value:=.slice (some ⟨0,0,some 0⟩) 0 unkU
def xslice (h:Hp) (sz:Nat) (a:Option Addr) (len cap:Nat) (lo hi mx:Option Value):Option Value:=match a,mx with
 | none,none=>match natOf 0 lo,natOf len hi with
   | some 0,some 0=>some (.slice none 0 cap)
   | _,_=>none
 | some b,none=>bif b.spot.isNone then match natOf 0 lo,natOf len hi,capLow h b cap sz with
   | some l,some u,some c =>
     bif Nat.ble l u&&Nat.ble u c&&Nat.ble len c&&b.spot.isNone then
      bif Nat.blt cap unkU then some (.slice (some (bif Nat.beq cap l then b else ⟨b.block,b.off+l*sz,none⟩)) (u-l) (cap-l))
      else bif Nat.blt l c then some (.slice (some ⟨b.block,b.off+l*sz,none⟩) (u-l) (cap+l)) else bif Nat.beq l 0 then some (.slice a u cap) else some vague
     else none
   | _,_,_=>none
   else match natOf 0 lo,natOf len hi with
   | some 0,some 0=>some (.slice a 0 cap)
   | _,_=>none
 | some b,some m=>match natOf 0 lo,natOf3 hi,natOf 0 (some m),capLow h b cap sz with
   | some l,some u,some x,some c =>
     bif Nat.ble l u&&Nat.ble u x&&Nat.ble x c&&Nat.blt cap unkU&&b.spot.isNone then
      some (.slice (some (bif Nat.beq x l then b else ⟨b.block,b.off+l*sz,none⟩)) (u-l) (x-l))
     else none
   | _,_,_,_=>none
 | _,_=>none
def plainB:Builtin->Bool
 | .len | .min | .max | .cap=>true
 | _=>false
def appK (k:Nat):Value->Bool
 | .int _ _=>Nat.beq k 5
 | .slice _ _ _=>Nat.beq k 1
 | _=>false
def iLt:Int->Int->Bool
 | .ofNat m,.ofNat n=>Nat.blt m n
 | .ofNat _,.negSucc _=>false
 | .negSucc _,.ofNat _=>true
 | .negSucc m,.negSucc n=>Nat.blt n m
def xbuiltin (E:Env) (nm:Nat) (b:Builtin) (tys:List TypeId) (args:List Value) (h:Hp):Option (Value × Hp):=match b,args with
 | .len,[.slice _ n _]=>match tys with
   | [t]=>ob (tget E.tt t) fun ti=>bif Nat.beq ti.kind 1 then some (.int .i64 n,h) else none
   | _=>none
 | .cap,[.slice _ _ c]=>match tys with
   | [t]=>ob (tget E.tt t) fun ti=>bif Nat.beq ti.kind 1&&Nat.blt c unkU then some (.int .i64 c,h) else none
   | _=>none
 | .append,[.slice a len cap,x]=>match tys with
   | [t,u]=>ob (tget E.tt t) fun ti=>ob (tget E.tt ti.elem) fun ei=>ob (tget E.tt u) fun ui =>
     bif Nat.beq ti.kind 1&&appK ui.kind x&&Nat.beq ei.zero.length ei.size then
      ob (newCells h ei x) fun nc=>xappend h nm ei a len cap nc.1 nc.2
     else none
   | _=>none
 | .copy,[.slice a len _,x]=>match tys with
   | [t,_]=>ob (tget E.tt t) fun ti=>ob (tget E.tt ti.elem) fun ei =>
     bif Nat.beq ti.kind 1 then
      match x with
      | .slice b n _=>match a,b with
        | some a,some b=>ob (hload h b (min n len*ei.size)) fun cs=>ob (hstore h a cs) fun h'=>some (.int .i64 ((min n len:Nat):Int),h')
        | _,_=>bif Nat.beq (min n len) 0 then some (.int .i64 0,h) else none
      | _=>none
     else none
   | _=>none
 | .len,[.string s]=>match tys with
   | [t]=>ob (tget E.tt t) fun ti=>bif Nat.beq ti.kind 4 then some (.int .i64 s.size,h) else none
   | _=>none
 | .min,[.int k x,.int _ y]=>some (.int k (bif iLt y x then y else x),h)
 | .max,[.int k x,.int _ y]=>some (.int k (bif iLt x y then y else x),h)
 | _,_=>none
def nilEq:Value->Value->Option Bool
 | .slice (some _) _ _,.slice none _ _=>some false
 | .slice none _ _,.slice (some _) _ _=>some false
 | .pointer (some _),.pointer none=>some false
 | .pointer none,.pointer (some _)=>some false
 | .func _ _ _,.nilFunc=>some false
 | .nilFunc,.func _ _ _=>some false
 | _,_=>none
def nilKind (k:Nat):Value->Bool
 | .slice _ _ _=>Nat.beq k 1
 | .pointer _=>Nat.beq k 7
 | .func _ _ _=>Nat.beq k 8
 | .nilFunc=>Nat.beq k 8
 | _=>false
def rho (ρ:Operand->Option Value) (x:Operand):Value:=(ρ x).getD undefV
def xplain (E:Env) (o:Oper) (ρ:Operand->Option Value) (h:Hp):Option (Value × Hp) :=
 match opvs ρ o.op.operands.toList with
 | none=>none
 | some vs=>bif allPlainA vs then
    match srun E.P (execOp (rho ρ) o) with
    | some (.value v)=>bif isPlain v then some (v,h) else none
    | _=>none
   else none
def partA (agg:Bool) (off sz:Nat) (cs:List Value):Option Value :=
 bif agg then some (.agg ((cs.drop off).take sz).toArray) else (cs[off]?)
def bytesOfCells:List Value->Option (List UInt8)
 | []=>some []
 | .int .u8 n :: l=>match bytesOfCells l with
   | some r=>some (UInt8.ofNat n.toNat :: r)
   | none=>none
 | _ :: _=>none
def optv (ρ:Operand->Option Value):Option Operand->Option (Option Value)
 | none=>some none
 | some x=>match ρ x with
   | some v=>some (some v)
   | none=>none
def xMove (ρ:Operand->Option Value) (h:Hp) (x:Operand):Option (Value × Hp):=ob (ρ x) fun v=>some (v,h)
def xPick (ρ:Operand->Option Value) (h:Hp) (c a b:Operand):Option (Value × Hp):=match ρ c with
 | some (.bool true)=>ob (ρ a) fun v=>some (v,h)
 | some (.bool false)=>ob (ρ b) fun v=>some (v,h)
 | _=>none
def bT (t:Nat):Nat:=4294967296+t
def bldK (E:Env) (t:Nat):Option Nat:=match tget E.xx (bT t) with
 | some k=>bif Nat.ble 1000 k then some (Nat.sub k 1000) else none
 | none=>none
def obE (o:Ob):Ent:=⟨.nil,0,0,some o⟩
def isBld0:List Value->Bool
 | [.pointer none,.slice none 0 0]=>true
 | _=>false
def allocE (E:Env) (nm:Nat) (t:Nat) (z:List Value):Ent:=match bldK E t with
 | some e=>bif isBld0 z then obE (.bld t e nm none) else mkEnt z 0
 | none=>mkEnt z 0
def xAlloc (E:Env) (nm:Nat) (h:Hp) (t:TypeId):Option (Value × Hp):=ob (tget E.tt t) fun ti=>some (newPtr nm,halloc h nm (allocE E nm t ti.zero))
def xBox (nm:Nat) (ρ:Operand->Option Value) (h:Hp) (x:Operand):Option (Value × Hp):=ob (ρ x) fun v=>ob (cellsA v) fun cs=>some (newPtr nm,halloc h nm (mkEnt cs 0))
def xBuild (E:Env) (ρ:Operand->Option Value) (h:Hp) (t:TypeId) (parts:Array (Nat × Operand)):Option (Value × Hp):=ob (tget E.tt t) fun ti =>
 bif Nat.beq ti.kind 3 then
  ob (partsA ρ (fun i=>ti.flds[i]?) parts.toList) fun ps=>ob (fillA ti.zero ps) fun cs=>some (.agg cs.toArray,h)
 else bif Nat.beq ti.kind 2 then
  ob (tget E.tt ti.elem) fun ei=>ob (partsA ρ (fun i=>some (i*ei.size,ei.size)) parts.toList) fun ps=>ob (fillA ti.zero ps) fun cs=>some (.agg cs.toArray,h)
 else none
def xBuildSlice (E:Env) (nm:Nat) (ρ:Operand->Option Value) (h:Hp) (t:TypeId) (len:Nat) (parts:Array (Nat × Operand)):Option (Value × Hp):=ob (tget E.tt t) fun ti=>ob (tget E.tt ti.elem) fun ei =>
 bif Nat.beq ti.kind 1&&Nat.ble (len*ei.size) 16777216&&Nat.ble len 16777216&&Nat.beq ei.zero.length ei.size then
  ob (partsA ρ (fun i=>some (i*ei.size,ei.size)) parts.toList) fun ps =>
   ob (fillA (lrep ei.zero len) ps) fun cs=>some (.slice (some ⟨nm,0,none⟩) len len,halloc h nm (mkEnt cs 0))
 else none
def xLoad (E:Env) (ρ:Operand->Option Value) (h:Hp) (t:TypeId) (a:Operand):Option (Value × Hp):=match ρ a with
 | some (.pointer (some ad))=>ob (tget E.tt t) fun ti =>
    bif ti.agg then ob (hload h ad ti.size) fun cs=>some (.agg cs.toArray,h)
    else match hload h ad 1 with
     | some [v]=>some (v,h)
     | _=>none
 | _=>none
def xStore (E:Env) (ρ:Operand->Option Value) (h:Hp) (t:TypeId) (a x:Operand):Option (Value × Hp):=match ρ a,ρ x with
 | some (.pointer (some ad)),some v=>ob (tget E.tt t) fun ti=>ob (cellsA v) fun cs =>
    bif Nat.beq cs.length ti.size then ob (hstore h ad cs) fun h'=>some (undefV,h') else none
 | _,_=>none
def xNil (ρ:Operand->Option Value) (h:Hp) (x:Operand):Option (Value × Hp):=match ρ x with
 | some (.pointer (some ad))=>some (.pointer (some ad),h)
 | some (.func (.func g) a b)=>some (.func (.func g) a b,h)
 | _=>none
def inI64:Int->Bool
 | .ofNat k=>Nat.blt k 9223372036854775808
 | .negSucc k=>Nat.blt k 9223372036854775808
def wrapF (x:Int):Int:=bif inI64 x then x else IntKind.i64.wrap x
def iEq:Int->Int->Bool
 | .ofNat m,.ofNat n=>Nat.beq m n
 | .negSucc m,.negSucc n=>Nat.beq m n
 | _,_=>false
def fastI (op:BinOp) (m n:Int):Option Value:=match op with
 | .add=>some (.int .i64 (wrapF (Int.add m n)))
 | .sub=>some (.int .i64 (wrapF (Int.sub m n)))
 | .mul=>some (.int .i64 (wrapF (Int.mul m n)))
 | .eql=>some (.bool (iEq m n))
 | .neq=>some (.bool (!(iEq m n)))
 | .lss=>some (.bool (iLt m n))
 | .leq=>some (.bool (!(iLt n m)))
 | .gtr=>some (.bool (iLt n m))
 | .geq=>some (.bool (!(iLt m n)))
 | _=>none
def fastC (op:BinOp) (m n:Int):Option Value:=match op with
 | .eql=>some (.bool (iEq m n))
 | .neq=>some (.bool (!(iEq m n)))
 | .lss=>some (.bool (iLt m n))
 | .leq=>some (.bool (!(iLt n m)))
 | .gtr=>some (.bool (iLt n m))
 | .geq=>some (.bool (!(iLt m n)))
 | _=>none
def fastB (op:BinOp):Value->Value->Option Value
 | .int .i64 m,.int .i64 n=>fastI op m n
 | .int .u8 m,.int .u8 n=>fastC op m n
 | _,_=>none
def xBinEq (E:Env) (o:Oper) (ρ:Operand->Option Value) (h:Hp) (op:BinOp) (t:TypeId) (a b:Value):Option (Value × Hp) :=
 bif plainA a&&plainA b then xplain E o ρ h else
  ob (tget E.tt t) fun ti=>bif nilKind ti.kind a then
   match op with
   | .eql=>ob (nilEq a b) fun r=>some (.bool r,h)
   | .neq=>ob (nilEq a b) fun r=>some (.bool (!r),h)
   | _=>none
   else none
def xBin (E:Env) (o:Oper) (ρ:Operand->Option Value) (h:Hp) (op:BinOp) (t:TypeId) (x y:Operand):Option (Value × Hp):=match ρ x,ρ y with
 | some a,some b=>match fastB op a b with
   | some v=>some (v,h)
   | none=>xBinEq E o ρ h op t a b
 | _,_=>none
def xUn (E:Env) (o:Oper) (ρ:Operand->Option Value) (h:Hp) (op:UnOp) (x:Operand):Option (Value × Hp):=match op,ρ x with
 | .not,some (.bool b)=>some (.bool (!b),h)
 | _,_=>xplain E o ρ h
def byteCells (s:ByteArray):List Value:=s.data.toList.map fun b=>.int .u8 b.toNat
def xStrB (nm:Nat) (h:Hp) (s:ByteArray):Option (Value × Hp) :=
 bif Nat.beq nm h.nxt&&Nat.ble s.size 1000000 then some (.slice (some ⟨nm,0,none⟩) s.size unkU,halloc h nm (mkEnt (byteCells s) 1)) else none
def xConv (E:Env) (nm:Nat) (o:Oper) (ρ:Operand->Option Value) (h:Hp) (src dst:TypeId) (x:Operand):Option (Value × Hp):=match ρ x with
 | some (.string s)=>ob (tget E.tt dst) fun ti=>bif Nat.beq ti.kind 1 then
    ob (tget E.tt ti.elem) fun ei=>ob (tget E.tt src) fun _=>bif Nat.beq ei.kind 6&&Nat.beq ei.size 1 then xStrB nm h s else none
    else xplain E o ρ h
 | some (.slice a len _)=>ob (tget E.tt dst) fun ti=>ob (tget E.tt src) fun si=>ob (tget E.tt si.elem) fun ei =>
    bif Nat.beq ti.kind 4&&Nat.beq si.kind 1&&Nat.beq ei.kind 6 then
     ob (oldCells h 1 a len) fun cs=>ob (bytesOfCells cs) fun bs=>some (.string ⟨bs.toArray⟩,h)
    else none
 | some _=>xplain E o ρ h
 | none=>none
def xMake (E:Env) (nm:Nat) (ρ:Operand->Option Value) (h:Hp) (t:TypeId) (l c:Operand):Option (Value × Hp):=match ρ l,ρ c with
 | some (.int _ n),some (.int _ k)=>ob (tget E.tt t) fun ti=>ob (tget E.tt ti.elem) fun ei =>
    bif Nat.beq ti.kind 1&&decide (0<=n)&&decide (n<=k)&&decide (k<=1000000)&&Nat.ble ei.bytes 1000000&&Nat.beq ei.zero.length ei.size then
     some (.slice (some ⟨nm,0,none⟩) n.toNat k.toNat,halloc h nm (mkEnt (lrep ei.zero k.toNat) 0))
    else none
 | _,_=>none
def xSlc (E:Env) (o:Oper) (ρ:Operand->Option Value) (h:Hp) (t:TypeId) (x:Operand) (lo hi mx:Option Operand):Option (Value × Hp):=match ρ x with
 | some (.slice a len cap)=>ob (tget E.tt t) fun ti=>ob (tget E.tt ti.elem) fun ei =>
    bif Nat.beq ti.kind 1 then
     match optv ρ lo,optv ρ hi,optv ρ mx with
     | some lo,some hi,some mx=>ob (xslice h ei.size a len cap lo hi mx) fun v=>some (v,h)
     | _,_,_=>none
    else none
 | some (.pointer (some ad))=>ob (tget E.tt t) fun ti=>ob (tget E.tt ti.elem) fun ei =>
    bif Nat.beq ti.kind 2&&ad.spot.isNone&&mx.isNone then
     match optv ρ lo,optv ρ hi with
     | some lo,some hi=>(match natOf 0 lo,natOf ti.alen hi with
       | some l,some u=>bif Nat.ble l u&&Nat.ble u ti.alen&&Nat.blt ti.alen unkU then some (.slice (some (bif Nat.beq ti.alen l then ad else ⟨ad.block,ad.off+l*ei.size,none⟩)) (u-l) (ti.alen-l),h) else none
       | _,_=>none)
     | _,_=>none
    else none
 | some (.string _)=>xplain E o ρ h
 | _=>none
def xField (E:Env) (ρ:Operand->Option Value) (h:Hp) (s:TypeId) (x:Operand) (f:Nat):Option (Value × Hp):=match ρ x with
 | some (.pointer (some ad))=>ob (tget E.tt s) fun ti=>ob (ti.flds[f]?) fun fl =>
    bif Nat.beq ti.kind 3&&!(Nat.beq fl.2 0)&&ad.spot.isNone then some (.pointer (some ⟨ad.block,ad.off+fl.1,none⟩),h) else none
 | _=>none
def fldA (E:Env) (t:TypeId) (cs:List Value) (f:Nat):Option Value:=match E.P.underlying t with
 | some (.struct fs)=>match fs[f]? with
   | some fl=>ob (tget E.tt fl.type) fun ti=>partA ti.agg fl.offset ti.size cs
   | none=>none
 | _=>none
def xFldV (E:Env) (ρ:Operand->Option Value) (h:Hp) (t:TypeId) (x:Operand) (f:Nat):Option (Value × Hp):=match ρ x with
 | some (.agg cs)=>ob (fldA E t cs.toList f) fun v=>some (v,h)
 | _=>none
def xIdx (E:Env) (ρ:Operand->Option Value) (h:Hp) (t:TypeId) (x ix:Operand):Option (Value × Hp):=match ρ x,ρ ix with
 | some (.slice (some ad) len _),some (.int _ i)=>ob (tget E.tt t) fun ti=>ob (tget E.tt ti.elem) fun ei =>
    bif Nat.beq ti.kind 1&&decide (0<=i)&&decide (i<len)&&ad.spot.isNone then some (.pointer (some ⟨ad.block,ad.off+i.toNat*ei.size,none⟩),h) else none
 | some (.pointer (some ad)),some (.int _ i)=>ob (tget E.tt t) fun ti=>ob (tget E.tt ti.elem) fun ei =>
    bif Nat.beq ti.kind 2&&decide (0<=i)&&decide (i<ti.alen)&&ad.spot.isNone then some (.pointer (some ⟨ad.block,ad.off+i.toNat*ei.size,none⟩),h) else none
 | _,_=>none
def noFn:Value->Bool
 | .func _ _ _=>false
 | _=>true
def capOk:Value->Bool
 | .tuple _=>false
 | .func _ _ _=>false
 | .iface _ _=>false
 | .agg cs=>cs.toList.all noFn
 | _=>true
def xMkF (ρ:Operand->Option Value) (h:Hp) (fn:Fn) (first cap:List Operand):Option (Value × Hp):=match fn,opvs ρ first,opvs ρ cap with
 | .func g,some vs,some us=>bif vs.all capOk&&us.all capOk then some (.func (.func g) vs.toArray us.toArray,h) else none
 | _,_,_=>none
def ifaOk:Value->Bool
 | .tuple _=>false
 | .iface _ _=>false
 | _=>true
def xMkI (E:Env) (ρ:Operand->Option Value) (h:Hp) (t:TypeId) (x:Operand):Option (Value × Hp):=ob (ρ x) fun u=>ob (tget E.tt t) fun ti=>bif ifaOk u&&Nat.ble 1 ti.kind then some (.iface t u,h) else none
def methOf (P:Program) (t:TypeId) (name:String):Option Nat:=match P.info? t with
 | some i=>match i.methods.find? (·.name == name) with
   | some m=>bif m.path.isEmpty then (match m.func with
     | some (f,false)=>some f
     | _=>none) else none
   | none=>none
 | none=>none
def xCallI (E:Env) (call:Nat->List Value->Hp->Option (Value × Hp)) (ρ:Operand->Option Value) (h:Hp) (r:Operand) (name:String) (args:List Operand):Option (Value × Hp):=match ρ r,opvs ρ args with
 | some (.iface t u),some vs=>ob (tget E.tt t) fun ti=>bif Nat.ble 1 ti.kind&&!(Nat.beq ti.kind 7) then ob (methOf E.P t name) fun g=>bif Nat.blt g unkU then call g (u :: vs) h else none else none
 | _,_=>none
def xExtract (ρ:Operand->Option Value) (h:Hp) (t:Operand) (i:Nat):Option (Value × Hp):=match ρ t with
 | some (.tuple vs)=>ob (vs.toList[i]?) fun v=>some (v,h)
 | _=>none
def xCallV (call:Nat->List Value->Hp->Option (Value × Hp)) (ρ:Operand->Option Value) (h:Hp) (f:Operand) (args:List Operand):Option (Value × Hp):=match ρ f,opvs ρ args with
 | some (.func (.func g) first cap),some vs=>bif Nat.blt g unkU then call g (first.toList++vs++cap.toList) h else none
 | some (.func (.yield l) _ _),some vs=>call (unkU+l) vs h
 | _,_=>none
def xCallB (E:Env) (nm:Nat) (o:Oper) (ρ:Operand->Option Value) (h:Hp) (b:Builtin) (tys:List TypeId) (args:List Operand):Option (Value × Hp):=match opvs ρ args with
 | some vs=>match xbuiltin E nm b tys vs h with
   | some r=>some r
   | none=>bif allPlain vs&&plainB b then xplain E o ρ h else none
 | none=>none
def xCall (E:Env) (call:Nat->List Value->Hp->Option (Value × Hp)) (nm:Nat) (o:Oper) (ρ:Operand->Option Value) (h:Hp) (c:Call):Option (Value × Hp):=match c.callee with
 | .value f=>xCallV call ρ h f c.args.toList
 | .builtin b=>xCallB E nm o ρ h b c.argTypes.toList c.args.toList
 | .invoke r name=>xCallI E call ρ h r name c.args.toList
def kFind (P:Program) (kt:TypeId) (k:Value):List (Value × Value)->Nat->Option (Option (Nat × Value))
 | [],_=>some none
 | (k',v) :: l,i=>match srun P (Op.equal kt k k') with
  | some true=>some (some (i,v))
  | some false=>kFind P kt k l (i+1)
  | none=>none
def isTup:Value->Bool
 | .tuple _=>true
 | .iface _ _=>true
 | _=>false
def xMkMap (nm:Nat) (h:Hp):Option Operand->Option (Value × Hp)
 | none=>some (.map (some nm),halloc h nm ⟨.nil,0,0,some (.mp [])⟩)
 | some _=>none
def getMp (h:Hp) (n:Nat):Option (List (Value × Value)):=match tget h.m n with
 | some e=>bif Nat.beq e.unk 0 then match e.ob with
    | some (.mp es)=>some es
    | _=>none
   else none
 | none=>none
def keyGood (P:Program) (emp:Bool) (kt:TypeId) (k:Value):Bool:=plainA k&&(match srun P (Instr.checkKey emp 10000 kt k) with
 | some _=>true
 | none=>false)
def luRes (ok:Bool) (v:Value) (b:Bool):Value:=bif ok then .tuple #[v,.bool b] else v
def xLookM (E:Env) (h:Hp) (mt:TI) (es:List (Value × Value)) (k:Value) (ok:Bool):Option (Value × Hp) :=
 bif keyGood E.P es.isEmpty mt.alen k then match kFind E.P mt.alen k es 0 with
  | some (some (_,v))=>bif isTup v then none else some (luRes ok v true,h)
  | some none=>match srun E.P (zeroValue mt.elem) with
    | some z=>bif plainA z then some (luRes ok z false,h) else none
    | none=>none
  | none=>none
 else none
def xLook (E:Env) (ρ:Operand->Option Value) (h:Hp) (t:TypeId) (x ix:Operand) (ok:Bool):Option (Value × Hp):=match ρ x,ρ ix with
 | some (.map none),some k=>ob (tget E.tt t) fun mt=>bif Nat.beq mt.kind 10 then xLookM E h mt [] k ok else none
 | some (.map (some n)),some k=>ob (tget E.tt t) fun mt=>bif Nat.beq mt.kind 10 then ob (getMp h n) fun es=>xLookM E h mt es k ok else none
 | _,_=>none
def xUpd (E:Env) (ρ:Operand->Option Value) (h:Hp) (t:TypeId) (m k x:Operand):Option (Value × Hp):=match ρ m,ρ k,ρ x with
 | some (.map (some n)),some k,some v=>ob (tget E.tt t) fun mt=>bif Nat.beq mt.kind 10&&!(isTup v)&&keyGood E.P false mt.alen k then
    ob (getMp h n) fun es=>match kFind E.P mt.alen k es 0 with
     | some none=>some (undefV,⟨tset h.m n (some ⟨.nil,0,0,some (.mp (es++[(k,v)]))⟩),h.nxt⟩)
     | some (some (i,_))=>match es[i]? with
       | some p=>bif Instr.sameBits 10000 p.1 k then some (undefV,⟨tset h.m n (some ⟨.nil,0,0,some (.mp (es.set i (k,v)))⟩),h.nxt⟩) else none
       | none=>none
     | none=>none
    else none
 | _,_,_=>none
def xopR (E:Env) (call:Nat->List Value->Hp->Option (Value × Hp)) (nm:Nat) (o:Oper) (ρ:Operand->Option Value) (h:Hp):Option (Value × Hp) :=
 match o.op with
 | .move x=>xMove ρ h x
 | .assign x=>xMove ρ h x
 | .pick c a b=>xPick ρ h c a b
 | .alloc t=>xAlloc E nm h t
 | .box _ x=>xBox nm ρ h x
 | .build t parts=>xBuild E ρ h t parts
 | .buildSlice t len parts=>xBuildSlice E nm ρ h t len parts
 | .load t a=>xLoad E ρ h t a
 | .store t a x=>xStore E ρ h t a x
 | .nilCheck x=>xNil ρ h x
 | .binOp op t x y _=>xBin E o ρ h op t x y
 | .unOp op _ x=>xUn E o ρ h op x
 | .convert src dst x=>xConv E nm o ρ h src dst x
 | .makeFunc fn first cap=>xMkF ρ h fn first.toList cap.toList
 | .makeSlice t l c=>xMake E nm ρ h t l c
 | .slice t x lo hi mx=>xSlc E o ρ h t x lo hi mx
 | .fieldAddr s x f=>xField E ρ h s x f
 | .indexAddr t x ix=>xIdx E ρ h t x ix
 | .index _ _ _=>xplain E o ρ h
 | .extract t i=>xExtract ρ h t i
 | .field t x f=>xFldV E ρ h t x f
 | .makeMap _ r=>xMkMap nm h r
 | .lookup t x ix ok=>xLook E ρ h t x ix ok
 | .mapUpdate t m k x=>xUpd E ρ h t m k x
 | .call c=>xCall E call nm o ρ h c
 | .makeInterface t x=>xMkI E ρ h t x
 | _=>none
def xop (E:Env) (call:Nat->List Value->Hp->Option (Value × Hp)) (nm:Nat) (o:Oper) (T:Tm) (h:Hp):Option (Value × Hp):=xopR E call nm o (opv T) h
def tputD (T:Tm) (dst:Option Tmp) (v:Value):Tm:=match dst with
 | none=>T
 | some d=>tset T d (some v)
def wantA (ops:Array Oper) (o:Oper) (T:Tm):Option Bool:=match o.guard with
 | none=>some true
 | some (j,want)=>match (ops[j]?).bind (·.dst) with
   | some d=>match tget T d with
     | some (.bool b)=>some (b == want)
     | some (.tuple _)=>some false
     | _=>none
   | none=>none
def xops (E:Env) (call:Nat->List Value->Hp->Option (Value × Hp)) (ops:Array Oper):List Oper->Tm->Hp->Option (Tm × Hp)
 | [],T,h=>some (T,h)
 | o :: l,T,h=>match wantA ops o T with
   | some true=>match xop E call h.nxt o T h with
     | some (v,h')=>xops E call ops l (tputD T o.dst v) h'
     | none=>none
   | some false=>xops E call ops l (tputD T o.dst undefV) h
   | none=>none
def eqS0:Value->Value->Bool
 | .bool a,.bool b=>a == b
 | .int k a,.int l b=>decide (k=l)&&decide (a=b)
 | .string a,.string b=>decide (a.data.toList=b.data.toList)
 | .pointer none,.pointer none=>true
 | .pointer (some a),.pointer (some b)=>decide (a=b)
 | .slice none m n,.slice none m' n'=>Nat.beq m m'&&Nat.beq n n'
 | .slice (some a) m n,.slice (some b) m' n'=>decide (a=b)&&Nat.beq m m'&&Nat.beq n n'
 | .nilFunc,.nilFunc=>true
 | .nilIface,.nilIface=>true
 | .map none,.map none=>true
 | .map (some a),.map (some b)=>Nat.beq a b
 | _,_=>false
def eqL0:List Value->List Value->Bool
 | [],[]=>true
 | a :: x,b :: y=>eqS0 a b&&eqL0 x y
 | _,_=>false
def eqV0:Value->Value->Bool
 | .agg a,.agg b=>eqL0 a.toList b.toList
 | a,b=>eqS0 a b
def eqLV0:List Value->List Value->Bool
 | [],[]=>true
 | a :: x,b :: y=>eqV0 a b&&eqLV0 x y
 | _,_=>false
def eqS:Value->Value->Bool
 | .func (.func f) a b,.func (.func g) c d=>Nat.beq f g&&eqLV0 a.toList c.toList&&eqLV0 b.toList d.toList
 | a,b=>eqS0 a b
def eqL:List Value->List Value->Bool
 | [],[]=>true
 | a :: x,b :: y=>eqS a b&&eqL x y
 | _,_=>false
def eqV:Value->Value->Bool
 | .agg a,.agg b=>eqL a.toList b.toList
 | a,b=>eqS a b
def xpre (E:Env) (ops:Array Oper) (base:Nat):List Nat->Tm->Hp->Option (Tm × Hp)
 | [],T,h=>some (T,h)
 | i :: l,T,h=>match ops[i]?,tget h.m (base+i) with
   | some o,none=>match wantA ops o T with
     | some true=>match xop E (fun _ _ _=>none) (base+i) o T h with
       | some (v,h')=>xpre E ops base l (tputD T o.dst v) h'
       | none=>none
     | some false=>xpre E ops base l (tputD T o.dst undefV) h
     | none=>none
   | _,_=>none
def xre (E:Env) (ops:Array Oper) (base:Nat) (T:Tm) (h:Hp):List Nat->Bool
 | []=>true
 | i :: l=>match ops[i]? with
   | none=>false
   | some o=>match wantA ops o T with
     | some true=>match xop E (fun _ _ _=>none) (base+i) o T h,o.dst with
       | some (v,_),some d=>match tget T d with
         | some u=>eqV u v&&xre E ops base T h l
         | none=>false
       | some _,none=>xre E ops base T h l
       | none,_=>false
     | some false=>match o.dst with
       | some d=>match tget T d with
         | some (.tuple a)=>Nat.beq a.size 0&&xre E ops base T h l
         | _=>false
       | none=>xre E ops base T h l
     | none=>false
def hideAll (base:Nat) (m:BT (Option Ent)):List Nat->BT (Option Ent)
 | []=>m
 | i :: l=>hideAll base (tset m (base+i) none) l
def backAll (base:Nat) (m0:BT (Option Ent)) (m:BT (Option Ent)):List Nat->BT (Option Ent)
 | []=>m
 | i :: l=>backAll base m0 (tset m (base+i) (tget m0 (base+i))) l
def xstages (E:Env) (call:Nat->List Value->Hp->Option (Value × Hp)) (ops:Array Oper) (base:Nat):List Stage->Tm->Hp->Option (Tm × Hp)
 | [],T,h=>some (T,h)
 | s :: l,T,h =>
   bif xre E ops base T h s.re then
    match xpre E ops base s.pre T h with
    | none=>none
    | some (T1,h1)=>match s.loud with
      | none=>match l with
        | []=>some (T1,h1)
        | _=>none
      | some i=>match ops[i]? with
        | none=>none
        | some o=>match wantA ops o T1 with
          | some true=>match xop E call h1.nxt o T1 ⟨hideAll base h1.m s.hide,h1.nxt⟩ with
            | some (v,h2)=>xstages E call ops base l (tputD T1 o.dst v) ⟨backAll base h1.m h2.m s.hide,h2.nxt⟩
            | none=>none
          | some false=>xstages E call ops base l (tputD T1 o.dst undefV) h1
          | none=>none
   else none
def args0 (T:Tm):Nat->List Value->Tm
 | _,[]=>T
 | i,v :: l=>args0 (tset T i (some v)) (i+1) l
def resA (ρ:Operand->Option Value) (h:Hp) (E:Env):List ResultVar->Option (List Value)
 | []=>some []
 | .tmp t :: l=>match ρ (.tmp t),resA ρ h E l with
   | some v,some r=>some (v :: r)
   | _,_=>none
 | .cell a ty :: l=>match ρ (.tmp a),tget E.tt ty,resA ρ h E l with
   | some (.pointer (some ad)),some ti,some r =>
     bif ti.agg then match hload h ad ti.size with
      | some cs=>some (.agg cs.toArray :: r)
      | none=>none
     else match hload h ad 1 with
      | some [v]=>some (v :: r)
      | _=>none
   | _,_,_=>none
def noTup:List Value->Bool
 | []=>true
 | .tuple _ :: _=>false
 | .iface _ _ :: _=>false
 | _ :: l=>noTup l
def oneOf:List Value->Option Value
 | [v]=>some v
 | vs=>bif noTup vs then some (.tuple vs.toArray) else none
def idxB (s:ByteArray) (c:Int):Int:=match (List.range s.size).find? fun i=>s[i]! == c.toNat.toUInt8 with
 | some i=>(i:Int)
 | none=>-1
def splT (s:ByteArray) (a n:Nat) (p:ByteArray):ByteArray:=⟨(s.data.toList.take a++p.data.toList++s.data.toList.drop (a+n)).toArray⟩
def splB (s:ByteArray) (a n:Int) (p:ByteArray):Bool:=decide (0<=a)&&decide (0<=n)&&decide (a+n<=s.size)&&Nat.ble (s.size+p.size) 1000000
def splX (s:ByteArray) (h:Hp):List Value->Option (Value × Hp)
 | [.int .i64 a,.int .i64 n,.string p]=>bif splB s a n p then some (.string (splT s a.toNat n.toNat p),h) else none
 | _=>none
def getOb (h:Hp) (n:Nat):Option Ob:=match tget h.m n with
 | some e=>bif Nat.beq e.unk 0 then e.ob else none
 | none=>none
def catB (s t:ByteArray):ByteArray:=⟨(s.data.toList++t.data.toList).toArray⟩
def optB:Option Nat->Nat->Bool
 | some a,b=>Nat.beq a b
 | none,_=>false
def xWrite (E:Env) (b:Nat) (t:ByteArray) (h:Hp):Option Hp:=match getOb h b with
 | some (.bld T e self buf)=>bif Nat.beq self b&&optB (bldK E T) e&&Nat.ble t.size 1000000 then
    match buf with
    | none=>bif Nat.beq t.size 0 then some ⟨tset h.m b (some (obE (.bld T e self none))),h.nxt⟩ else
       some ⟨tset (tset h.m h.nxt (some (obE (.byt e h.nxt t)))) b (some (obE (.bld T e self (some (h.nxt,t.size))))),h.nxt+1⟩
    | some (nb,n)=>match getOb h nb with
      | some (.byt e' self' s)=>bif Nat.beq e' e&&Nat.beq self' nb&&Nat.beq s.size n&&!(Nat.beq nb b)&&Nat.ble n 1000000 then
         some ⟨tset (tset (tset h.m nb none) h.nxt (some (obE (.byt e h.nxt (catB s t))))) b (some (obE (.bld T e self (some (h.nxt,n+t.size))))),h.nxt+1⟩
        else none
      | _=>none
   else none
 | _=>none
def xStr (E:Env) (b:Nat) (h:Hp):Option (ByteArray × Hp):=match getOb h b with
 | some (.bld T e self buf)=>bif Nat.beq self b&&optB (bldK E T) e then
    match buf with
    | none=>some (⟨#[]⟩,h)
    | some (nb,n)=>match getOb h nb with
      | some (.byt e' self' s)=>bif Nat.beq e' e&&Nat.beq self' nb&&Nat.beq s.size n&&!(Nat.beq nb b)&&Nat.ble n 1000000 then some (s,⟨tset h.m nb none,h.nxt⟩) else none
      | _=>none
   else none
 | _=>none
def xext (E:Env) (g:Nat) (args:List Value) (h:Hp):Option (Value × Hp):=match tget E.xx g,args with
 | some 1,[.string a,.string b]=>some (.int .i64 (Extern.BytealgCompare.cmp a b),h)
 | some 2,[]=>some (.bool true,h)
 | some 3,[.string s,.int .u8 c]=>some (.int .i64 (idxB s c),h)
 | some 4,[.string s,.agg cs]=>splX s h cs.toList
 | some 5,[.pointer (some ⟨b,0,none⟩),.string t]=>ob (xWrite E b t h) fun h'=>some (.tuple #[.int .i64 (t.size:Nat),.nilIface],h')
 | some 6,[.pointer (some ⟨b,0,none⟩)]=>ob (xStr E b h) fun r=>some (.string r.1,r.2)
 | some 7,[.string s]=>bif Nat.ble s.size 1000000 then some (.string s,h) else none
 | _,_=>none
structure At where
 fn:Nat
 ro:Option Nat
def getLp (h:Hp) (l:Nat):Option Lp:=match tget h.m l with
 | some e=>bif Nat.beq e.unk 0 then match e.ob with
    | some (.loop L)=>some L
    | _=>none
   else none
 | none=>none
def setLp (h:Hp) (l:Nat) (st:Nat) (pend:Option Code):Option Hp:=match tget h.m l with
 | some e=>bif Nat.beq e.unk 0 then match e.ob with
    | some (.loop L)=>some ⟨tset h.m l (some ⟨.nil,0,0,some (.loop ⟨L.fn,L.N,L.ps,L.asg,L.body,L.ts,st,pend⟩)⟩),h.nxt⟩
    | _=>none
   else none
 | none=>none
def putAll (T:Tm):List (Nat × Value)->Tm
 | []=>T
 | p :: l=>putAll (tset T p.1 (some p.2)) l
def putPs (T:Tm):List Nat->List Value->Tm
 | t :: ts,v :: vs=>putPs (tset T t (some v)) ts vs
 | _,_=>T
def snap (T:Tm):Nat->List (Nat × Value)
 | 0=>[]
 | n+1=>match tget T n with
   | some v=>(n,v) :: snap T n
   | none=>snap T n
def yieldA (run:Code->At->Tm->Hp->Option (Exit × Tm × Hp)) (l:Nat) (args:List Value) (h:Hp):Option (Value × Hp) :=
 ob (getLp h l) fun L=>bif Nat.beq L.st 0&&Nat.beq L.ps.length args.length then
  match run L.asg ⟨L.fn,some l⟩ (putPs (putAll .nil L.ts) L.ps args) h with
  | some (.normal,T1,h1)=>ob (getLp h1 l) fun L1=>bif Nat.beq L1.st 0 then
     ob (setLp h1 l 1 L1.pend) fun h2=>match run L.body ⟨L.fn,some l⟩ T1 h2 with
      | some (.normal,_,h3)=>ob (setLp h3 l 0 none) fun h4=>some (.bool true,h4)
      | some (.ret,_,h3)=>ob (setLp h3 l 2 (some .ret)) fun h4=>some (.bool false,h4)
      | some (.exit i,_,h3)=>ob (setLp h3 l 2 (some (.exit i))) fun h4=>some (.bool false,h4)
      | _=>none
     else none
  | _=>none
 else none
def callA (E:Env) (run:Code->At->Tm->Hp->Option (Exit × Tm × Hp)) (g:Nat) (args:List Value) (h:Hp):Option (Value × Hp) :=
 bif Nat.blt g unkU then
  match tget E.ff g with
  | none=>xext E g args h
  | some fn=>match fn.body with
    | none=>none
    | some b=>match run b ⟨g,none⟩ (args0 .nil 0 args) h with
      | some (.normal,T',h')=>ob (resA (opv T') h' E fn.results.toList) fun vs=>ob (oneOf vs) fun r=>some (r,h')
      | some (.ret,T',h')=>ob (resA (opv T') h' E fn.results.toList) fun vs=>ob (oneOf vs) fun r=>some (r,h')
      | _=>none
 else yieldA run (g-unkU) args h
def roOk (h:Hp):Option Nat->Bool
 | none=>true
 | some l=>match getLp h l with
   | some _=>true
   | none=>false
def newLp (h:Hp) (L:Lp):Hp:=halloc h h.nxt ⟨.nil,0,0,some (.loop L)⟩
def dropE (h:Hp) (l:Nat):Hp:=⟨tset h.m l none,h.nxt⟩
def endA {α:Type} (h:Hp) (l:Nat) (T:α):Option (Exit × α × Hp) :=
 ob (getLp h l) fun L=>bif Nat.beq L.st 1 then none else match L.pend with
  | none=>some (.normal,T,dropE h l)
  | some .ret=>some (.ret,T,dropE h l)
  | some (.exit i)=>some (.exit i,T,dropE h l)
  | some _=>none
def ev (E:Env):Nat->Code->At->Tm->Hp->Option (Exit × Tm × Hp)
 | 0,_,_,_,_=>none
 | n+1,c,f,T,h =>
   match c with
   | .skip=>some (.normal,T,h)
   | .seq a b=>match ev E n a f T h with
     | some (.normal,T',h')=>ev E n b f T' h'
     | r=>r
   | .cond c a b=>match opv T c with
     | some (.bool true)=>ev E n a f T h
     | some (.bool false)=>ev E n b f T h
     | _=>none
   | .block id c=>match ev E n c f T h with
     | some (.exit i,T',h')=>bif Nat.beq i id then some (.normal,T',h') else some (.exit i,T',h')
     | r=>r
   | .loop c=>match ev E n c f T h with
     | some (.normal,T',h')=>ev E n (.loop c) f T' h'
     | r=>r
   | .exit id=>some (.exit id,T,h)
   | .ret=>some (.ret,T,h)
   | .region id ops draw =>
     bif draw then
      match tget E.pp f.fn with
      | none=>none
      | some pf=>match tget pf id with
        | none=>none
        | some st=>match xstages E (callA E (ev E n)) ops h.nxt st T ⟨h.m,h.nxt+ops.size⟩ with
          | some (T',h')=>some (.normal,T',h')
          | none=>none
     else match xops E (callA E (ev E n)) ops ops.toList T h with
      | some (T',h')=>some (.normal,T',h')
      | none=>none
   | .rangeFunc g ps asg body=>bif roOk h f.ro then match opv T g,tget E.ff f.fn with
      | some (.func (.func it) first cap),some fn=>bif Nat.blt it unkU&&(tget E.ff it).isSome then
         match callA E (ev E n) it (first.toList++[.func (.yield h.nxt) #[] #[]]++cap.toList) (newLp h ⟨f.fn,fn.ntmps,ps.toList,asg,body,snap T fn.ntmps,0,none⟩) with
         | some (_,h1)=>endA h1 h.nxt T
         | none=>none
        else none
      | _,_=>none
     else none
   | _=>none
def dstOk (N:Nat) (o:Oper):Bool:=match o.dst with
 | none=>true
 | some d=>Nat.blt d N
def dstsOk (N:Nat):List Oper->Bool
 | []=>true
 | o :: l=>dstOk N o&&dstsOk N l
def memN (i:Nat):List Nat->Bool
 | []=>false
 | j :: l=>Nat.beq i j||memN i l
def subN (l m:List Nat):Bool:=l.all fun i=>memN i m
def silB:Op->Bool
 | .move _ | .assign _ | .pick _ _ _ | .build _ _ | .load _ _ | .nilCheck _ | .binOp _ _ _ _ _ | .unOp _ _ _ | .convert _ _ _ | .slice _ _ _ _ _ | .fieldAddr _ _ _ | .indexAddr _ _ _ | .index _ _ _ | .extract _ _ | .field _ _ _ | .makeFunc _ _ _ | .lookup _ _ _ _ | .makeInterface _ _=>true
 | .call c=>match c.callee with
   | .builtin b=>plainB b
   | _=>false
 | _=>false
def allB:Op->Bool
 | .alloc _ | .box _ _ | .buildSlice _ _ _ | .makeSlice _ _ _=>true
 | _=>false
def ancOf (A:List (List Nat)) (i:Nat):List Nat:=(A[i]?).getD []
def ancOk (ops:Array Oper) (A:List (List Nat)) (i:Nat):Bool:=match ops[i]? with
 | none=>(ancOf A i).isEmpty
 | some o=>(o.after.toList.all fun e=>!Region.binds .any e||Nat.blt e.on i) &&
    (ancOf A i).all fun j=>o.after.toList.any fun e=>Region.binds .any e&&(Nat.beq j e.on||memN j (ancOf A e.on))
def writesAt (ops:Array Oper) (j t:Nat):Bool:=match ops[j]? with
 | some o=>match o.dst with
   | some d=>Nat.beq d t
   | none=>false
 | none=>false
def pairOk (ops:Array Oper) (A:List (List Nat)) (i j:Nat):Bool:=match ops[i]? with
 | none=>true
 | some o=>Nat.beq i j ||
    (((o.looksAt ops).all fun t=>!writesAt ops j t||memN j (ancOf A i)||memN i (ancOf A j))&&(match o.dst with | some d=>!writesAt ops j d | none=>true))
def lookOk (ops:Array Oper) (A:List (List Nat)) (D:List Nat) (i:Nat):Bool:=match ops[i]? with
 | none=>false
 | some o=>subN (ancOf A i) D&&!memN i (ancOf A i)&&(o.looksAt ops).all fun t=>D.all fun j=>!writesAt ops j t||memN j (ancOf A i)
def behind (A:List (List Nat)) (prev:Option Nat) (i:Nat):Bool:=match prev with
 | none=>true
 | some c=>memN c (ancOf A i)&&subN (ancOf A c) (ancOf A i)
def opAt? (ops:Array Oper) (p:Op->Bool) (i:Nat):Bool:=match ops[i]? with
 | none=>false
 | some o=>p o.op
def preOk (ops:Array Oper) (A:List (List Nat)) (prev:Option Nat):List Nat->List Nat->Bool
 | _,[]=>true
 | D,i :: l=>(opAt? ops silB i||opAt? ops allB i)&&!memN i D&&behind A prev i&&lookOk ops A D i&&preOk ops A prev (i :: D) l
def coverOk (ops:Array Oper) (A:List (List Nat)) (prev:Option Nat) (D re:List Nat):Bool :=
 D.all fun i=>memN i re||opAt? ops allB i||(match prev with | some c=>Nat.beq i c||memN i (ancOf A c) | none=>false)
def reOk (ops:Array Oper) (A:List (List Nat)) (D re:List Nat):Bool :=
 re.all fun i=>opAt? ops silB i&&memN i D&&(match ops[i]? with | none=>false | some o=>(o.looksAt ops).all fun t=>D.all fun j=>!writesAt ops j t||memN j (ancOf A i))
def stOk (ops:Array Oper) (A:List (List Nat)):List Nat->Option Nat->List Stage->Bool
 | _,_,[]=>false
 | D,prev,s :: l =>
   coverOk ops A prev D s.re&&reOk ops A D s.re&&preOk ops A prev D s.pre &&
   match s.loud with
   | none=>(List.range ops.size).all (fun i=>memN i (s.pre.reverse++D))&&l.isEmpty
   | some c=>(match ops[c]? with | none=>false | some _=>true)&&(s.hide.all fun i=>Nat.blt i ops.size)&&!memN c (s.pre.reverse++D)&&behind A prev c&&lookOk ops A (s.pre.reverse++D) c &&
      ((s.pre.reverse++D).all fun i=>!opAt? ops allB i||memN i s.hide||memN i (ancOf A c)) &&
      ((List.range ops.size).all fun i=>memN i (s.pre.reverse++D)||Nat.beq i c||memN c (ancOf A i)) &&
      stOk ops A (c :: (s.pre.reverse++D)) (some c) l
def bitB (m j:Nat):Bool:=Nat.beq (Nat.land (Nat.shiftRight m j) 1) 1
def oneM (j:Nat):Nat:=Nat.shiftLeft 1 j
def subM (a b:Nat):Bool:=Nat.beq (Nat.land a b) a
def forceB (n:Nat) (k:Nat->Bool):Bool:=match n with
 | 0=>k 0
 | m+1=>k (m+1)
def listM:List Nat->Nat
 | []=>0
 | i :: l=>Nat.lor (oneM i) (listM l)
def mAt (M:BT (Option Nat)) (i:Nat):Nat:=match tget M i with
 | some m=>m
 | none=>0
def maskOf (M:BT (Option Nat)):List Edge->Nat
 | []=>0
 | e :: l=>bif Region.binds .any e then Nat.lor (Nat.lor (oneM e.on) (mAt M e.on)) (maskOf M l) else maskOf M l
def ancGo (k:BT (Option Nat)->BT (Option Nat)->Nat->Bool):List Oper->Nat->BT (Option Nat)->BT (Option Nat)->Nat->Bool
 | [],_,M,X,a=>k M X a
 | o :: l,i,M,X,a=>(o.after.toList.all fun e=>!Region.binds .any e||Nat.blt e.on i)&&forceB (maskOf M o.after.toList) fun m =>
    match o.dst with
    | none=>ancGo k l (i+1) (tset M i (some m)) X (bif allB o.op then Nat.lor a (oneM i) else a)
    | some d=>match tget X d with
      | some _=>false
      | none=>ancGo k l (i+1) (tset M i (some m)) (tset X d (some i)) (bif allB o.op then Nat.lor a (oneM i) else a)
def byAll (X:BT (Option Nat)) (p:Nat->Bool):List Tmp->Bool
 | []=>true
 | t :: l=>(match tget X t with | none=>true | some j=>p j)&&byAll X p l
def pairF (ops:Array Oper) (M X:BT (Option Nat)):List Oper->Nat->Bool
 | [],_=>true
 | o :: l,i=>byAll X (fun j=>Nat.beq i j||bitB (mAt M i) j||bitB (mAt M j) i) (o.looksAt ops)&&pairF ops M X l (i+1)
def behindF (M:BT (Option Nat)) (prev:Option Nat) (i:Nat):Bool:=match prev with
 | none=>true
 | some c=>bitB (mAt M i) c&&subM (mAt M c) (mAt M i)
def lookF (ops:Array Oper) (M X:BT (Option Nat)) (D i:Nat):Bool:=match ops[i]? with
 | none=>false
 | some o=>byAll X (fun j=>!bitB D j||bitB (mAt M i) j) (o.looksAt ops)
def preF (ops:Array Oper) (M X:BT (Option Nat)) (prev:Option Nat) (k:Nat->Bool):List Nat->Nat->Bool
 | [],D=>k D
 | i :: l,D=>(opAt? ops silB i||opAt? ops allB i)&&!bitB D i&&behindF M prev i&&subM (mAt M i) D&&!bitB (mAt M i) i&&lookF ops M X D i&&forceB (Nat.lor D (oneM i)) fun D=>preF ops M X prev k l D
def reF (ops:Array Oper) (M X:BT (Option Nat)) (D:Nat):List Nat->Bool
 | []=>true
 | i :: l=>opAt? ops silB i&&bitB D i&&lookF ops M X D i&&reF ops M X D l
def prevM (M:BT (Option Nat)):Option Nat->Nat
 | none=>0
 | some c=>Nat.lor (oneM c) (mAt M c)
def waitF (M:BT (Option Nat)) (D c:Nat):Nat->Bool
 | 0=>true
 | n+1=>(bitB D n||Nat.beq n c||bitB (mAt M n) c)&&waitF M D c n
def stF (ops:Array Oper) (M X:BT (Option Nat)) (a:Nat):List Stage->Option Nat->Nat->Bool
 | [],_,_=>false
 | s :: l,prev,D =>
   subM D (Nat.lor (listM s.re) (Nat.lor a (prevM M prev)))&&reF ops M X D s.re &&
   preF ops M X prev (fun D1=>match s.loud with
    | none=>subM (Nat.sub (Nat.pow 2 ops.size) 1) D1&&l.isEmpty
    | some c=>(match ops[c]? with | none=>false | some _=>true)&&(s.hide.all fun i=>Nat.blt i ops.size)&&!bitB D1 c&&behindF M prev c&&subM (mAt M c) D1&&!bitB (mAt M c) c&&lookF ops M X D1 c &&
      subM (Nat.land D1 a) (Nat.lor (listM s.hide) (mAt M c))&&waitF M D1 c ops.size &&
      forceB (Nat.lor D1 (oneM c)) fun D2=>stF ops M X a l (some c) D2) s.pre D
def planOk (ops:Array Oper) (st:List Stage):Bool :=
 ancGo (fun M X a=>pairF ops M X ops.toList 0&&stF ops M X a st none 0) ops.toList 0 .nil .nil 0
def codeOk (E:Env) (f N:Nat):Code->Bool
 | .seq a b=>codeOk E f N a&&codeOk E f N b
 | .cond _ a b=>codeOk E f N a&&codeOk E f N b
 | .block _ c=>codeOk E f N c
 | .loop c=>codeOk E f N c
 | .region id ops draw=>dstsOk N ops.toList&&(bif draw then (match tget E.pp f with
    | none=>true
    | some pf=>match tget pf id with
      | none=>true
      | some st=>planOk ops st) else true)
 | .rangeFunc _ ps asg body=>(match tget E.ff f with
    | some fn=>Nat.beq fn.ntmps N
    | none=>false)&&ps.toList.all (fun t=>Nat.blt t N)&&codeOk E f N asg&&codeOk E f N body
 | _=>true
theorem tget_nil {α:Type} (n:Nat):tget (.nil:BT (Option α)) n=none:=rfl
theorem tget_tput_same {α:Type}:∀ (f:Nat) (t:BT (Option α)) (n:Nat) (x:Option α),n+1<2 ^ f->tget (tput f t n x) n=x
 | 0,t,n,x,h=>by simp at h
 | f+1,.nil,n,x,h=>by
   cases n with
   | zero=>rfl
   | succ m =>
     have hm:Nat.div m 2+1<2 ^ f:=by show m/2+1<2 ^ f; rw [Nat.pow_succ] at h; omega
     simp only [tput]
     cases hb:Nat.beq (Nat.mod m 2) 0
     .simp only [cond_false,tget,hb]; exact tget_tput_same f _ _ _ hm
     .simp only [cond_true,tget,hb]; exact tget_tput_same f _ _ _ hm
 | f+1,.node _ _ a l r,n,x,h=>by
   cases n with
   | zero=>rfl
   | succ m =>
     have hm:Nat.div m 2+1<2 ^ f:=by show m/2+1<2 ^ f; rw [Nat.pow_succ] at h; omega
     simp only [tput]
     cases hb:Nat.beq (Nat.mod m 2) 0
     .simp only [cond_false,tget,hb]; exact tget_tput_same f _ _ _ hm
     .simp only [cond_true,tget,hb]; exact tget_tput_same f _ _ _ hm
theorem tget_tput_ne {α:Type}:∀ (f:Nat) (t:BT (Option α)) (n k:Nat) (x:Option α),n≠k->tget (tput f t n x) k=tget t k
 | 0,t,n,k,x,h=>rfl
 | f+1,.nil,n,k,x,h=>by
   cases n with
   | zero=>cases k with
     | zero=>exact absurd rfl h
     | succ j=>simp [tput,tget]
   | succ m =>
     simp only [tput]
     cases hb:Nat.beq (Nat.mod m 2) 0<;>simp only [cond_true,cond_false]
     all_goals
      cases k with
      | zero=>rfl
      | succ j =>
        simp only [tget]
        cases hj:Nat.beq (Nat.mod j 2) 0<;>simp only [cond_true,cond_false]
        all_goals first
         | rfl
         | (have hne:Nat.div m 2≠Nat.div j 2:=by
             intro e
             have e':m/2=j/2:=e
             have hb':Nat.beq (m%2) 0=_:=hb
             have hj':Nat.beq (j%2) 0=_:=hj
             have h1:m%2=0\/m%2=1:=by omega
             have h2:j%2=0\/j%2=1:=by omega
             rcases h1 with h1 | h1<;>rcases h2 with h2 | h2<;>simp [h1,h2] at hb' hj'
             all_goals omega
            rw [tget_tput_ne f _ _ _ _ hne]; rfl)
 | f+1,.node _ _ a l r,n,k,x,h=>by
   cases n with
   | zero=>cases k with
     | zero=>exact absurd rfl h
     | succ j=>simp [tput,tget]
   | succ m =>
     simp only [tput]
     cases hb:Nat.beq (Nat.mod m 2) 0<;>simp only [cond_true,cond_false]
     all_goals
      cases k with
      | zero=>rfl
      | succ j =>
        simp only [tget]
        cases hj:Nat.beq (Nat.mod j 2) 0<;>simp only [cond_true,cond_false]
        all_goals first
         | rfl
         | (have hne:Nat.div m 2≠Nat.div j 2:=by
             intro e
             have e':m/2=j/2:=e
             have hb':Nat.beq (m%2) 0=_:=hb
             have hj':Nat.beq (j%2) 0=_:=hj
             have h1:m%2=0\/m%2=1:=by omega
             have h2:j%2=0\/j%2=1:=by omega
             rcases h1 with h1 | h1<;>rcases h2 with h2 | h2<;>simp [h1,h2] at hb' hj'
             all_goals omega
            rw [tget_tput_ne f _ _ _ _ hne])
theorem tget_tset_same {α:Type} (t:BT (Option α)) (n:Nat) (x:Option α):tget (tset t n x) n=x:=by
 unfold tset
 apply tget_tput_same
 have h:n<2 ^ (Nat.log2 n+1):=Nat.lt_log2_self
 rw [Nat.pow_succ]
 have:0<2 ^ (Nat.log2 n+1):=Nat.pow_pos (by omega)
 have h2:2 ^ (n.log2+1)=2 ^ n.log2*2:=Nat.pow_succ _ _
 have h3:0<2 ^ n.log2:=Nat.pow_pos (by omega)
 omega
theorem tget_tset_ne {α:Type} (t:BT (Option α)) (n k:Nat) (x:Option α) (h:n≠k):tget (tset t n x) k=tget t k:=tget_tput_ne _ _ _ _ _ h
theorem tget_tset {α:Type} (t:BT (Option α)) (n k:Nat) (x:Option α):tget (tset t n x) k=if n=k then x else tget t k:=by
 by_cases h:n=k
 .subst h; rw [tget_tset_same,if_pos rfl]
 .rw [tget_tset_ne _ _ _ _ h,if_neg h]
theorem rd_len {e:BT (Option Value)}:∀ {n i:Nat} {l:List Value},rd e i n=some l->l.length=n
 | 0,i,l,h=>by simp [rd] at h; subst h; rfl
 | n+1,i,l,h=>by
   simp only [rd] at h
   split at h
   .cases h
   .split at h
    .cases h
    .rename_i r hr
     cases h
     simp [rd_len hr]
theorem rd_get {e:BT (Option Value)}:∀ {n i:Nat} {l:List Value},rd e i n=some l->∀ (j:Nat) (v:Value),l[j]? = some v->tget e (i+j)=some v
 | 0,i,l,h,j,v,hv=>by simp [rd] at h; subst h; simp at hv
 | n+1,i,l,h,j,v,hv=>by
   simp only [rd] at h
   split at h
   .cases h
   .rename_i u hu
    split at h
    .cases h
    .rename_i r hr
     cases h
     cases j with
     | zero=>simp at hv; subst hv; simpa using hu
     | succ j =>
       simp at hv
       have:=rd_get hr j v hv
       rwa [show i+(j+1)=i+1+j by omega]
theorem tget_wr:∀ (vs:List Value) (e:BT (Option Value)) (i k:Nat),tget (wr e i vs) k=if i<=k/\k<i+vs.length then vs[k-i]? else tget e k
 | [],e,i,k=>by simp only [wr]; rw [if_neg (by simp)]
 | v :: l,e,i,k=>by
   simp only [wr,tget_wr l,tget_tset,List.length_cons]
   by_cases h1:i+1<=k/\k<i+1+l.length
   .rw [if_pos h1,if_pos (by omega)]
    have:k-i=(k-(i+1))+1:=by omega
    rw [this,List.getElem?_cons_succ]
   .rw [if_neg h1]
    by_cases h2:i=k
    .subst h2; rw [if_pos rfl,if_pos (by omega)]; simp
    .rw [if_neg h2,if_neg (by omega)]
theorem tget_wr_nil (vs:List Value) (k:Nat):tget (wr .nil 0 vs) k=vs[k]?:=by
 rw [tget_wr]
 by_cases h:k<vs.length
 .rw [if_pos (by omega)]; simp
 .rw [if_neg (by omega),tget_nil,List.getElem?_eq_none (by omega)]
theorem ob_some {α β:Type} {x:Option α} {f:α->Option β} {b:β} (h:ob x f=some b):∃ a,x=some a/\f a=some b:=by
 cases x with
 | none=>cases h
 | some a=>exact ⟨a,rfl,h⟩
def all2 {α β:Type} (p:α->β->Prop):List α->List β->Prop
 | [],[]=>True
 | a :: l,b :: m=>p a b/\all2 p l m
 | _,_=>False
theorem all2_mono {α β:Type} {p q:α->β->Prop} (h:∀ a b,p a b->q a b):∀ {l:List α} {m:List β},all2 p l m->all2 q l m
 | [],[],_=>trivial
 | _ :: _,_ :: _,hh=>⟨h _ _ hh.1,all2_mono h hh.2⟩
 | [],_ :: _,hh=>hh.elim
 | _ :: _,[],hh=>hh.elim
theorem all2_len {α β:Type} {p:α->β->Prop}:∀ {l:List α} {m:List β},all2 p l m->l.length=m.length
 | [],[],_=>rfl
 | _ :: _,_ :: _,hh=>by simp [all2_len hh.2]
 | [],_ :: _,hh=>hh.elim
 | _ :: _,[],hh=>hh.elim
theorem all2_get {α β:Type} {p:α->β->Prop}:∀ {l:List α} {m:List β},all2 p l m->∀ (i:Nat) (a:α),l[i]? = some a->∃ b,m[i]? = some b/\p a b
 | [],[],_,i,a,h=>by simp at h
 | a :: l,b :: m,hh,i,x,h=>by
   cases i with
   | zero=>simp at h; subst h; exact ⟨b,by simp,hh.1⟩
   | succ i=>simp at h; obtain ⟨c,hc,hp⟩:=all2_get hh.2 i x h; exact ⟨c,by simpa using hc,hp⟩
 | [],_ :: _,hh,_,_,_=>hh.elim
 | _ :: _,[],hh,_,_,_=>hh.elim
theorem all2_append {α β:Type} {p:α->β->Prop}:∀ {l:List α} {m:List β} {l':List α} {m':List β},all2 p l m->all2 p l' m'->all2 p (l++l') (m++m')
 | [],[],_,_,_,h=>h
 | _ :: _,_ :: _,_,_,hh,h=>⟨hh.1,all2_append hh.2 h⟩
 | [],_ :: _,_,_,hh,_=>hh.elim
 | _ :: _,[],_,_,hh,_=>hh.elim
theorem all2_of_get {α β:Type} {p:α->β->Prop}:∀ {l:List α} {m:List β},l.length=m.length->(∀ (i:Nat) (a:α) (b:β),l[i]? = some a->m[i]? = some b->p a b)->all2 p l m
 | [],[],_,_=>trivial
 | a :: l,b :: m,hl,h=>⟨h 0 a b (by simp) (by simp),all2_of_get (by simpa using hl) fun i x y hx hy=>h (i+1) x y (by simpa using hx) (by simpa using hy)⟩
 | [],_ :: _,hl,_=>by simp at hl
 | _ :: _,[],hl,_=>by simp at hl
theorem all2_drop {α β:Type} {p:α->β->Prop}:∀ (n:Nat) {l:List α} {m:List β},all2 p l m->all2 p (l.drop n) (m.drop n)
 | 0,_,_,h=>by simpa using h
 | n+1,[],[],_=>trivial
 | n+1,_ :: _,_ :: _,h=>by simpa using all2_drop n h.2
 | n+1,[],_ :: _,h=>h.elim
 | n+1,_ :: _,[],h=>h.elim
theorem all2_take {α β:Type} {p:α->β->Prop}:∀ (n:Nat) {l:List α} {m:List β},all2 p l m->all2 p (l.take n) (m.take n)
 | 0,_,_,_=>by simp [all2]
 | n+1,[],[],_=>trivial
 | n+1,_ :: _,_ :: _,h=>⟨h.1,all2_take n h.2⟩
 | n+1,[],_ :: _,h=>h.elim
 | n+1,_ :: _,[],h=>h.elim
end Go.Ev
set_option linter.unusedVariables false
namespace Go.Ev
open Go.Deep Go.RowKit
abbrev Th:=Nat->Option (Nat × Nat × Nat)
def capR (k c c':Nat):Prop:=(c<unkU/\c'=c)\/(unkU<=c/\c'=k-(c-unkU))
def SlR (θ:Th) (a:Addr) (l c:Nat) (v:Value):Prop :=
 (a.spot=none/\∃ x c',θ a.block=some x/\capR x.2.2 c c'/\v = .slice (some ⟨x.1,x.2.1+a.off,none⟩) l c')\/(a.spot≠none/\l=0/\unkU<=c/\∃ ad c',v = .slice (some ad) 0 c')
theorem SlR.mono {θ θ':Th} (h:∀ n x,θ n=some x->θ' n=some x) {a:Addr} {l c:Nat} {v:Value} (hs:SlR θ a l c v):SlR θ' a l c v:=by
 rcases hs with ⟨h1,x,c',h2,h3⟩ | hs
 .exact .inl ⟨h1,x,c',h _ _ h2,h3⟩
 .exact .inr hs
theorem SlR.here {θ:Th} {a:Addr} {l c:Nat} {v:Value} (hs:SlR θ a l c v) (h:a.spot=none):a.spot=none/\∃ x c',θ a.block=some x/\capR x.2.2 c c'/\v = .slice (some ⟨x.1,x.2.1+a.off,none⟩) l c' :=
 hs.resolve_right fun q=>q.1 h
theorem SlR.some {θ:Th} {a:Addr} {l c:Nat} {v:Value} (hs:SlR θ a l c v):∃ ad c',v = .slice (some ad) l c'/\(c<unkU->c'=c):=by
 rcases hs with ⟨h1,x,c',h2,h3,h4⟩ | ⟨h1,h2,h3,ad,c',h4⟩
 .refine ⟨_,c',h4,fun hc=>?_⟩
  rcases h3 with ⟨_,e⟩ | ⟨e,_⟩
  .exact e
  .omega
 .exact ⟨ad,c',by rw [h2]; exact h4,fun hc=>by omega⟩
def S0 (θ:Th):Value->Value->Prop
 | .bool b,v=>v = .bool b
 | .int k n,v=>v = .int k n
 | .string s,v=>v = .string s
 | .pointer none,v=>v = .pointer none
 | .pointer (some a),v=>a.spot=none/\∃ x,θ a.block=some x/\v = .pointer (some ⟨x.1,x.2.1+a.off,none⟩)
 | .slice none l c,v=>v = .slice none l c
 | .slice (some a) l c,v=>SlR θ a l c v
 | .nilFunc,v=>v = .nilFunc
 | .nilIface,v=>v = .nilIface
 | .map none,v=>v = .map none
 | .map (some n),v=>∃ x,θ n=some x/\v = .map (some x.1)
 | .chan none,v=>v = .chan none
 | .float k b,v=>v = .float k b
 | .complex k b c,v=>v = .complex k b c
 | _,_=>False
def V0 (θ:Th):Value->Value->Prop
 | .agg cs,v=>∃ ds:List Value,v = .agg ds.toArray/\all2 (S0 θ) cs.toList ds
 | u,v=>S0 θ u v
theorem S0_mono {θ θ':Th} (h:∀ n x,θ n=some x->θ' n=some x) {u v:Value} (hs:S0 θ u v):S0 θ' u v:=by
 unfold S0 at *
 split at hs<;>first
  | exact hs
  | (obtain ⟨x,h2,h3⟩:=hs; exact ⟨x,h _ _ h2,h3⟩)
  | (obtain ⟨h1,x,h2,h3⟩:=hs; exact ⟨h1,x,h _ _ h2,h3⟩)
  | exact SlR.mono h hs
theorem V0_mono {θ θ':Th} (h:∀ n x,θ n=some x->θ' n=some x) {u v:Value} (hs:V0 θ u v):V0 θ' u v:=by
 unfold V0 at *
 split at hs
 .obtain ⟨ds,h1,h2⟩:=hs
  exact ⟨ds,h1,all2_mono (fun a b=>S0_mono h) h2⟩
 .exact S0_mono h hs
def S (θ:Th):Value->Value->Prop
 | .bool b,v=>v = .bool b
 | .int k n,v=>v = .int k n
 | .string s,v=>v = .string s
 | .pointer none,v=>v = .pointer none
 | .pointer (some a),v=>a.spot=none/\∃ x,θ a.block=some x/\v = .pointer (some ⟨x.1,x.2.1+a.off,none⟩)
 | .slice none l c,v=>v = .slice none l c
 | .slice (some a) l c,v=>SlR θ a l c v
 | .nilFunc,v=>v = .nilFunc
 | .nilIface,v=>v = .nilIface
 | .map none,v=>v = .map none
 | .map (some n),v=>∃ x,θ n=some x/\v = .map (some x.1)
 | .chan none,v=>v = .chan none
 | .float k b,v=>v = .float k b
 | .complex k b c,v=>v = .complex k b c
 | .func (.yield n) _ _,v=>∃ x,θ n=some x/\v = .func (.yield x.1) #[] #[]
 | .func fn a b,v=>∃ a' b':List Value,v = .func fn a'.toArray b'.toArray/\all2 (V0 θ) a.toList a'/\all2 (V0 θ) b.toList b'
 | _,_=>False
def V (θ:Th):Value->Value->Prop
 | .agg cs,v=>∃ ds:List Value,v = .agg ds.toArray/\all2 (S θ) cs.toList ds
 | u,v=>S θ u v
def W (θ:Th):Value->Value->Prop
 | .tuple vs,v=>∃ us:List Value,v = .tuple us.toArray/\all2 (V θ) vs.toList us
 | .iface t u,v=>∃ u',v = .iface t u'/\V θ u u'
 | u,v=>V θ u v
theorem S_mono {θ θ':Th} (h:∀ n x,θ n=some x->θ' n=some x) {u v:Value} (hs:S θ u v):S θ' u v:=by
 unfold S at *
 split at hs<;>first
  | exact hs
  | (obtain ⟨a',b',h1,h2,h3⟩:=hs; exact ⟨a',b',h1,all2_mono (fun a b=>V0_mono h) h2,all2_mono (fun a b=>V0_mono h) h3⟩)
  | (obtain ⟨x,h2,h3⟩:=hs; exact ⟨x,h _ _ h2,h3⟩)
  | (obtain ⟨h1,x,h2,h3⟩:=hs; exact ⟨h1,x,h _ _ h2,h3⟩)
  | exact SlR.mono h hs
theorem V_mono {θ θ':Th} (h:∀ n x,θ n=some x->θ' n=some x) {u v:Value} (hs:V θ u v):V θ' u v:=by
 unfold V at *
 split at hs
 .obtain ⟨ds,h1,h2⟩:=hs
  exact ⟨ds,h1,all2_mono (fun a b=>S_mono h) h2⟩
 .exact S_mono h hs
theorem W_mono {θ θ':Th} (h:∀ n x,θ n=some x->θ' n=some x) {u v:Value} (hs:W θ u v):W θ' u v:=by
 unfold W at *
 split at hs
 .obtain ⟨ds,h1,h2⟩:=hs
  exact ⟨ds,h1,all2_mono (fun a b=>V_mono h) h2⟩
 .obtain ⟨u',h1,h2⟩:=hs
  exact ⟨u',h1,V_mono h h2⟩
 .exact V_mono h hs
theorem W_plain {θ:Th} {u v:Value} (hp:isPlain u=true) (h:W θ u v):v=u:=by
 unfold isPlain at hp
 split at hp<;>first | exact h | cases hp
theorem S_plain {θ:Th} {u:Value} (hp:isPlain u=true):S θ u u:=by
 unfold isPlain at hp
 split at hp<;>first | rfl | cases hp
theorem S_of_S0 {θ:Th} {u v:Value} (h:S0 θ u v):S θ u v:=by
 cases u with
 | pointer a=>cases a<;>exact h
 | slice a l c=>cases a<;>exact h
 | map a=>cases a<;>first | exact h | exact h.elim
 | chan a=>cases a<;>first | exact h | exact h.elim
 | func f a b=>exact h.elim
 | _=>first | exact h | exact h.elim
theorem S0_of_S {θ:Th} {u v:Value} (hn:noFn u=true) (h:S θ u v):S0 θ u v:=by
 cases u with
 | pointer a=>cases a<;>exact h
 | slice a l c=>cases a<;>exact h
 | map a=>cases a<;>first | exact h | exact h.elim
 | chan a=>cases a<;>first | exact h | exact h.elim
 | func f a b=>cases hn
 | _=>first | exact h | exact h.elim
theorem V_of_V0 {θ:Th} {u v:Value} (h:V0 θ u v):V θ u v:=by
 cases u with
 | agg a=>obtain ⟨ds,h1,h2⟩:=h; exact ⟨ds,h1,all2_mono (fun a b=>S_of_S0) h2⟩
 | _=>simp only [V0] at h; simp only [V]; exact S_of_S0 h
theorem all_S0 {θ:Th}:∀ {l m:List Value},l.all noFn=true->all2 (S θ) l m->all2 (S0 θ) l m
 | [],[],_,_=>trivial
 | a :: l,b :: m,hn,h=>by
   simp only [List.all_cons,Bool.and_eq_true] at hn
   exact ⟨S0_of_S hn.1 h.1,all_S0 hn.2 h.2⟩
 | [],_ :: _,_,h=>h.elim
 | _ :: _,[],_,h=>h.elim
theorem V0_of_W {θ:Th} {u v:Value} (hn:capOk u=true) (h:W θ u v):V0 θ u v:=by
 cases u with
 | tuple a=>cases hn
 | func f a b=>cases hn
 | iface t x=>cases hn
 | agg a=>obtain ⟨ds,h1,h2⟩:=h; exact ⟨ds,h1,all_S0 hn h2⟩
 | _=>simp only [W,V] at h; simp only [V0]; exact S0_of_S rfl h
theorem all_V0 {θ:Th}:∀ {l m:List Value},l.all capOk=true->all2 (W θ) l m->all2 (V0 θ) l m
 | [],[],_,_=>trivial
 | a :: l,b :: m,hn,h=>by
   simp only [List.all_cons,Bool.and_eq_true] at hn
   exact ⟨V0_of_W hn.1 h.1,all_V0 hn.2 h.2⟩
 | [],_ :: _,_,h=>h.elim
 | _ :: _,[],_,h=>h.elim
theorem W_of_S {θ:Th} {u v:Value} (h:S θ u v):W θ u v:=by
 cases u<;>first | exact h | exact h.elim
theorem V_of_S {θ:Th} {u v:Value} (h:S θ u v):V θ u v:=by
 cases u<;>first | exact h | exact h.elim
theorem W_of_V {θ:Th} {u v:Value} (h:V θ u v):W θ u v:=by
 cases u<;>first | exact h | exact h.elim
theorem S_one {θ:Th} {u v:Value} (h:S θ u v):v.oneCell'=true:=by
 unfold S at h
 split at h<;>first
  | (subst h; rfl)
  | (obtain ⟨_,_,_,rfl⟩:=h; rfl)
  | (obtain ⟨_,_,rfl⟩:=h; rfl)
  | (obtain ⟨_,_,rfl,_⟩:=SlR.some h; rfl)
  | (obtain ⟨_,_,rfl,_,_⟩:=h; rfl)
  | exact h.elim
theorem W_func {θ:Th} {fn:Fn} {a b:Array Value} {v:Value} (h:W θ (.func fn a b) v):∃ fn' a' b',v = .func fn' a' b':=by
 cases fn with
 | yield n=>obtain ⟨x,_,e⟩:=h; exact ⟨_,_,_,e⟩
 | _=>obtain ⟨a',b',e,_,_⟩:=h; exact ⟨_,_,_,e⟩
theorem S_of_W {θ:Th} {u v:Value} (hu:u.oneCell'=true) (hn:∀ t x,u≠.iface t x) (h:W θ u v):S θ u v:=by
 cases u<;>first | exact h | (cases hu; done) | exact (hn _ _ rfl).elim
theorem cells_one {v:Value} (h:v.oneCell'=true):v.cells = #[v]:=by
 cases v<;>first | rfl | cases h
theorem W_cells {θ:Th} {u v:Value} {cs:List Value} (hc:cellsA u=some cs) (h:W θ u v):∃ ds:List Value,v.cells=ds.toArray/\all2 (S θ) cs ds:=by
 cases u<;>simp only [cellsA,Option.some.injEq,reduceCtorEq] at hc
 case agg a =>
  subst hc
  obtain ⟨ds,rfl,h2⟩:=h
  exact ⟨ds,rfl,h2⟩
 all_goals
  subst hc
  have hs:=S_of_W rfl (fun _ _ e=>by cases e) h
  exact ⟨[v],by rw [cells_one (S_one hs)],hs,trivial⟩
structure TR (θ:Th) (T:Tm) (a:Act):Prop where
 tmps:∀ t v,tget T t=some v->∃ u,a.tmps[t]? = some u/\W θ v u
theorem TR.mono {θ θ':Th} (h:∀ n x,θ n=some x->θ' n=some x) {T:Tm} {a:Act} (ht:TR θ T a):TR θ' T a :=
 ⟨fun t v hv=>let ⟨u,h1,h2⟩:=ht.tmps t v hv; ⟨u,h1,W_mono h h2⟩⟩
theorem TR.put {θ:Th} {T:Tm} {a:Act} (ht:TR θ T a) {dst:Option Tmp} {v u:Value} (hd:∀ d,dst=some d->d<a.tmps.size) (h:W θ v u):TR θ (tputD T dst v) (a.put dst u):=by
 cases dst with
 | none=>exact ht
 | some d =>
   refine ⟨fun t x hx=>?_⟩
   simp only [tputD,tget_tset] at hx
   simp only [Act.put,Array.getElem?_setIfInBounds]
   by_cases e:d=t
   .subst e
    rw [if_pos rfl] at hx
    cases hx
    exact ⟨u,by simp [hd d rfl],h⟩
   .rw [if_neg e] at hx
    obtain ⟨y,h1,h2⟩:=ht.tmps t x hx
    exact ⟨y,by simp [e,h1],h2⟩
theorem size_put (a:Act) (dst:Option Tmp) (v:Value):(a.put dst v).tmps.size=a.tmps.size:=by
 cases dst<;>simp [Act.put]
theorem opv_W {θ:Th} {T:Tm} {a:Act} (ht:TR θ T a) {x:Operand} {v:Value} (h:opv T x=some v):W θ v (a.eval x):=by
 cases x with
 | tmp t =>
   obtain ⟨u,h1,h2⟩:=ht.tmps t v h
   simpa [Act.eval,Array.getD_eq_getD_getElem?,h1] using h2
 | const c =>
   simp only [opv] at h
   cases hp:isPlain c<;>simp [hp] at h
   subst h
   exact W_of_S (S_plain hp)
 | global g=>cases h
 | func f =>
   simp only [opv,Option.some.injEq] at h
   subst h
   exact ⟨[],[],rfl,trivial,trivial⟩
def TO (θ:Th) (T:Tm) (a:Act) (o:Oper):Prop:=∀ x∈o.op.operands.toList,∀ v,opv T x=some v->W θ v (a.eval x)
theorem TR.opers {θ:Th} {T:Tm} {a:Act} (ht:TR θ T a) (o:Oper):TO θ T a o:=fun x _ v h=>opv_W ht h
theorem opvs_O {θ:Th} {T:Tm} {a:Act}:∀ {xs:List Operand} {vs:List Value},(∀ x∈xs,∀ v,opv T x=some v->W θ v (a.eval x))->opvs (opv T) xs=some vs->all2 (W θ) vs (xs.map a.eval)
 | [],vs,_,h=>by cases h; trivial
 | x :: l,vs,hx,h=>by
   simp only [opvs] at h
   split at h
   .cases h
   .rename_i v hv
    split at h
    .cases h
    .rename_i r hr
     cases h
     exact ⟨hx x (by simp) v hv,opvs_O (fun y hy=>hx y (by simp [hy])) hr⟩
theorem defers_put (a:Act) (dst:Option Tmp) (v:Value):(a.put dst v).defers=a.defers:=by
 cases dst<;>rfl
class LG where
 base:Nat->Nat->List Nat->Code->Code->Prop
def LG.good [LG] (L:Lp):Prop:=LG.base L.fn L.N L.ps L.asg L.body
def stOf:Nat->LoopState
 | 0=>.ready
 | 1=>.busy
 | _=>.done
structure LpR (θ:Th) (L:Lp) (r:Loop):Prop where
 ps:r.params.toList=L.ps
 asg:r.assign=L.asg
 body:r.body=L.body
 st:r.state=stOf L.st
 pend:r.pending=L.pend
 size:L.N<=r.tmps.size
 ts:∀ t v,(t,v)∈L.ts->∃ u,r.tmps[t]? = some u/\W θ v u
def MpR (θ:Th) (es:List (Value × Value)) (l:List MapEntry):Prop:=all2 (fun p (e:MapEntry)=>e.key=p.1/\V θ p.2 e.val) es l
theorem MpR.mono {θ θ':Th} (h:∀ n x,θ n=some x->θ' n=some x) {es:List (Value × Value)} {l:List MapEntry} (hm:MpR θ es l):MpR θ' es l :=
 all2_mono (fun _ _ q=>⟨q.1,V_mono h q.2⟩) hm
structure BldR (θ:Th) (q:Option Obj) (T me:Nat) (buf:Option (Nat × Nat)):Prop where
 ex:∃ y p v,θ me=some y/\y.2.1=0/\q=some (.cells #[p,v] T (0,0))/\(p = .pointer none\/p = .pointer (some ⟨y.1,0,none⟩))/\
  ((buf=none/\v = .slice none 0 0)\/∃ nb n z,buf=some (nb,n)/\0<n/\θ nb=some z/\v = .slice (some ⟨z.1,0,none⟩) n z.2.2)
structure BytR (θ:Th) (q:Option Obj) (e me:Nat) (s:ByteArray):Prop where
 ex:∃ y cs,θ me=some y/\q=some (.cells cs e (0,0))/\cs.size=y.2.2/\s.size<=y.2.2/\y.2.2<=maxLen/\cs.toList.take s.size=Lib.strCells s
theorem BldR.mono {θ θ':Th} (h:∀ n x,θ n=some x->θ' n=some x) {q:Option Obj} {T self:Nat} {buf:Option (Nat × Nat)} (b:BldR θ q T self buf):BldR θ' q T self buf:=by
 obtain ⟨y,p,v,h1,h2,h3,h4,h5⟩:=b.ex
 refine ⟨y,p,v,h _ _ h1,h2,h3,h4,?_⟩
 rcases h5 with h5 | ⟨nb,n,z,q1,q2,q3,q4⟩
 .exact .inl h5
 .exact .inr ⟨nb,n,z,q1,q2,h _ _ q3,q4⟩
theorem BytR.mono {θ θ':Th} (h:∀ n x,θ n=some x->θ' n=some x) {q:Option Obj} {e self:Nat} {s:ByteArray} (b:BytR θ q e self s):BytR θ' q e self s:=by
 obtain ⟨y,cs,h1,h2,h3,h4,h5,h6⟩:=b.ex
 exact ⟨y,cs,h _ _ h1,h2,h3,h4,h5,h6⟩
def ObR [LG] (θ:Th) (q:Option Obj):Ob->Prop
 | .loop L=>LG.good L/\∃ r,q=some (.loop r)/\LpR θ L r
 | .mp es=>∃ l c,q=some (.map l c)/\MpR θ es l.toList
 | .bld T e self buf=>BldR θ q T self buf
 | .byt e self s=>BytR θ q e self s
theorem ObR_mono [LG] {θ θ':Th} (h:∀ n x,θ n=some x->θ' n=some x) {q:Option Obj} {o:Ob} (hs:ObR θ q o):ObR θ' q o:=by
 cases o with
 | loop L =>
   obtain ⟨h1,r,h2,h3⟩:=hs
   exact ⟨h1,r,h2,h3.ps,h3.asg,h3.body,h3.st,h3.pend,h3.size,fun t v hm=>let ⟨u,k1,k2⟩:=h3.ts t v hm; ⟨u,k1,W_mono h k2⟩⟩
 | mp es =>
   obtain ⟨l,c,h1,h2⟩:=hs
   exact ⟨l,c,h1,h2.mono h⟩
 | bld T e self buf=>exact BldR.mono h hs
 | byt e self s=>exact BytR.mono h hs
structure EntR [LG] (θ:Th) (w:World) (n:Nat) (e:Ent) (x:Nat × Nat × Nat):Prop where
 at_:θ n=some x
 lt:x.1<w.heap.size
 cell:∀ i v,tget e.cells i=some v->(∃ u,w.cell? ⟨x.1,x.2.1+i,none⟩=some u/\S θ v u)/\w.frozen? ⟨x.1,x.2.1+i,none⟩=false
 ob:∀ o,e.ob=some o->ObR θ w.heap[x.1]? o
 room:e.unk≠0->e.len<=x.2.2*e.unk/\∀ i,i<x.2.2*e.unk->(w.cell? ⟨x.1,x.2.1+i,none⟩).isSome=true/\w.frozen? ⟨x.1,x.2.1+i,none⟩=false
structure HR [LG] (θ:Th) (h:Hp) (w:World):Prop where
 ent:∀ n e x,tget h.m n=some e->θ n=some x->EntR θ w n e x
 sep:∀ n m e e' x y,tget h.m n=some e->tget h.m m=some e'->n≠m->θ n=some x->θ m=some y->x.1≠y.1
 fresh:∀ n,h.nxt<=n->θ n=none
structure Ext (nm:Nat) (θ:Th) (h:Hp) (w:World) (θ':Th) (h':Hp) (w':World):Prop where
 keep:∀ n x,θ n=some x->θ' n=some x
 only:∀ n,n<h.nxt->n≠nm->θ' n=θ n
 nxt:h.nxt<=h'.nxt
 size:w.heap.size<=w'.heap.size
 tape:w'.tape=w.tape
 os:w'.os=w.os
 output:w'.output=w.output
 frame:∀ b,b<w.heap.size->(∀ n e x,tget h.m n=some e->e.unk≠roU->θ n=some x->x.1≠b)->w'.heap[b]? = w.heap[b]?
 ownw:∀ n e x,tget h'.m n=some e->e.unk≠roU->θ' n=some x->w.heap.size<=x.1\/∃ m e' y,tget h.m m=some e'/\e'.unk≠roU/\θ m=some y/\y.1=x.1
 own:∀ n e x,tget h'.m n=some e->θ' n=some x->w.heap.size<=x.1\/∃ m e' y,tget h.m m=some e'/\θ m=some y/\y.1=x.1
theorem Ext.refl (nm:Nat) (θ:Th) (h:Hp) (w:World):Ext nm θ h w θ h w where
 keep _ _ e:=e
 only _ _ _:=rfl
 nxt:=Nat.le_refl _
 size:=Nat.le_refl _
 tape:=rfl
 os:=rfl
 output:=rfl
 frame _ _ _:=rfl
 ownw n e x h1 h2 h3:=.inr ⟨n,e,x,h1,h2,h3,rfl⟩
 own n e x h1 h2:=.inr ⟨n,e,x,h1,h2,rfl⟩
theorem Ext.trans {nm nm':Nat} {θ θ' θ'':Th} {h h' h'':Hp} {w w' w'':World} (a:Ext nm θ h w θ' h' w') (b:Ext nm' θ' h' w' θ'' h'' w'')
 (hn:∀ n,n<h.nxt->n≠nm->n≠nm'):Ext nm θ h w θ'' h'' w'' where
 keep n x e:=b.keep n x (a.keep n x e)
 only n h1 h2:=by rw [b.only n (Nat.lt_of_lt_of_le h1 a.nxt) (hn n h1 h2),a.only n h1 h2]
 nxt:=Nat.le_trans a.nxt b.nxt
 size:=Nat.le_trans a.size b.size
 tape:=b.tape.trans a.tape
 os:=b.os.trans a.os
 output:=b.output.trans a.output
 frame k hk hno:=by
  rw [b.frame k (Nat.lt_of_lt_of_le hk a.size) ?_,a.frame k hk hno]
  intro n e x h1 hu h2 h3
  rcases a.ownw n e x h1 hu h2 with h4 | ⟨m,e',y,h4,hu',h5,h6⟩
  .omega
  .exact hno m e' y h4 hu' h5 (h6.trans h3)
 ownw n e x h1 hu h2:=by
  rcases b.ownw n e x h1 hu h2 with h4 | ⟨m,e',y,h4,hu',h5,h6⟩
  .exact .inl (Nat.le_trans a.size h4)
  .rcases a.ownw m e' y h4 hu' h5 with h7 | ⟨k,e2,z,h7,hu2,h8,h9⟩
   .exact .inl (h6 ▸ h7)
   .exact .inr ⟨k,e2,z,h7,hu2,h8,h9.trans h6⟩
 own n e x h1 h2:=by
  rcases b.own n e x h1 h2 with h4 | ⟨m,e',y,h4,h5,h6⟩
  .exact .inl (Nat.le_trans a.size h4)
  .rcases a.own m e' y h4 h5 with h7 | ⟨k,e2,z,h7,h8,h9⟩
   .exact .inl (h6 ▸ h7)
   .exact .inr ⟨k,e2,z,h7,h8,h9.trans h6⟩
theorem HR.drawn [LG] {θ:Th} {h:Hp} {w:World} (hr:HR θ h w) (k:Nat):HR θ h { w with drawn:=k } :=
 ⟨fun n e x he hx=>let r:=hr.ent n e x he hx; ⟨r.at_,r.lt,r.cell,r.ob,r.room⟩,hr.sep,hr.fresh⟩
theorem Ext.drawn (nm:Nat) (θ:Th) (h:Hp) (w:World) (k:Nat):Ext nm θ h w θ h { w with drawn:=k } where
 keep _ _ e:=e
 only _ _ _:=rfl
 nxt:=Nat.le_refl _
 size:=Nat.le_refl _
 tape:=rfl
 os:=rfl
 output:=rfl
 frame _ _ _:=rfl
 ownw n e x h1 h2 h3:=.inr ⟨n,e,x,h1,h2,h3,rfl⟩
 own n e x h1 h2:=.inr ⟨n,e,x,h1,h2,rfl⟩
theorem add_addr (b o k:Nat):(⟨b,o,none⟩:Addr).add k=⟨b,o+k,none⟩:=by
 unfold Addr.add; split<;>simp_all
theorem load_sound [LG] {P:Program} {θ:Th} {h:Hp} {w:World} (hr:HR θ h w) {a:Addr} {n:Nat} {cs:List Value} {x:Nat × Nat × Nat} (hl:hload h a n=some cs) (hx:θ a.block=some x) :
 ∃ ds:List Value,(loadCells ⟨x.1,x.2.1+a.off,none⟩ n).run P w = .ok ds.toArray w/\all2 (S θ) cs ds/\(∀ j v,ds[j]? = some v->w.cell? ⟨x.1,x.2.1+a.off+j,none⟩=some v)/\ds.length=n:=by
 unfold hload at hl
 split at hl
 .rename_i e hs he
  have r:=hr.ent _ _ _ he hx
  have hlen:=rd_len hl
  have hget:=rd_get hl
  have hc:∀ j,j<n->∃ u,w.cell? ⟨x.1,x.2.1+a.off+j,none⟩=some u/\∀ v,cs[j]? = some v->S θ v u:=by
   intro j hj
   have hv:cs[j]? = some cs[j]:=List.getElem?_eq_getElem (by omega)
   obtain ⟨⟨u,h1,h2⟩,_⟩:=r.cell _ _ (hget j _ hv)
   exact ⟨u,by rw [Nat.add_assoc]; exact h1,fun v e=>by rw [hv] at e; cases e; exact h2⟩
  let f:Nat->Value:=fun j=>(w.cell? ⟨x.1,x.2.1+a.off+j,none⟩).getD undef
  have hf:∀ j,j<n->w.cell? ⟨x.1,x.2.1+a.off+j,none⟩=some (f j):=fun j hj=>by
   obtain ⟨u,h1,_⟩:=hc j hj
   simp only [f,h1,Option.getD_some]
  have hrun:=run_loadCells (P:=P) w ⟨x.1,x.2.1+a.off,none⟩ n f (fun j hj=>by rw [add_addr]; exact hf j hj)
  refine ⟨(List.range n).map f,hrun,all2_of_get (by simp [hlen]) ?_,?_,by simp⟩
  .intro i v u h1 h2
   have hi:i<n:=by
    rcases Nat.lt_or_ge i n with h | h
    .exact h
    .rw [List.getElem?_eq_none (by omega)] at h1; cases h1
   obtain ⟨u',h3,h4⟩:=hc i hi
   have:u=f i:=by simp [hi] at h2; exact h2.symm
   rw [hf i hi] at h3
   cases h3
   subst this
   exact h4 v h1
  .intro j v hv
   have hj:j<n:=by
    rcases Nat.lt_or_ge j n with h | h
    .exact h
    .rw [List.getElem?_eq_none (by simpa using h)] at hv; cases hv
   simp [hj] at hv
   subst hv
   exact hf j hj
 .cases hl
theorem setCells_heap (b:Nat):∀ (vs:List Value) (o:Nat) (w:World) (k:Nat),k≠b->(w.setCells b o vs).heap[k]? = w.heap[k]?
 | [],_,_,_,_=>rfl
 | v :: r,o,w,k,h=>by rw [World.setCells,setCells_heap b r _ _ k h,Below.heap_setCell _ _ _ _ h]
theorem setCells_size (b:Nat):∀ (vs:List Value) (o:Nat) (w:World),(w.setCells b o vs).heap.size=w.heap.size
 | [],_,_=>rfl
 | v :: r,o,w=>by rw [World.setCells,setCells_size b r,World.size_setCell]
theorem setCells_os (b:Nat):∀ (vs:List Value) (o:Nat) (w:World),(w.setCells b o vs).os=w.os/\(w.setCells b o vs).tape=w.tape/\(w.setCells b o vs).output=w.output
 | [],_,_=>⟨rfl,rfl,rfl⟩
 | v :: r,o,w=>by rw [World.setCells]; exact setCells_os b r _ _
theorem wrB_spec {e:Ent} (h:wrB e=true):e.unk≠roU/\e.ob=none:=by
 unfold wrB at h
 simp only [Bool.and_eq_true,Bool.not_eq_true'] at h
 refine ⟨fun q=>?_,?_⟩
 .rw [q] at h
  have:=h.1
  rw [Nat.beq_refl] at this
  cases this
 .cases ho:e.ob with
  | none=>rfl
  | some o=>rw [ho] at h; exact absurd h.2 (by simp [noOb])
theorem store_sound [LG] {P:Program} {θ:Th} {h h':Hp} {w:World} (hr:HR θ h w) {a:Addr} {vs us:List Value} {x:Nat × Nat × Nat} (hst:hstore h a vs=some h') (hx:θ a.block=some x) (hv:all2 (S θ) vs us) :
 (storeCells ⟨x.1,x.2.1+a.off,none⟩ us).run P w = .ok () (w.setCells x.1 (x.2.1+a.off) us)/\HR θ h' (w.setCells x.1 (x.2.1+a.off) us)/\∀ nm,Ext nm θ h w θ h' (w.setCells x.1 (x.2.1+a.off) us):=by
 unfold hstore at hst
 split at hst
 .rename_i e hs he
  cases hwr:wrB e<;>simp only [hwr,cond_true,cond_false,reduceCtorEq] at hst
  obtain ⟨hw1,hw2⟩:=wrB_spec hwr
  split at hst
  .rename_i old hold
   cases hst
   have r:=hr.ent _ _ _ he hx
   have hlen:=rd_len hold
   have hget:=rd_get hold
   have hul:=all2_len hv
   have hcell:∀ j,j<us.length->(w.cell? ⟨x.1,x.2.1+a.off+j,none⟩).isSome=true/\w.frozen? ⟨x.1,x.2.1+a.off+j,none⟩=false:=by
    intro j hj
    have hv:old[j]? = some old[j]:=List.getElem?_eq_getElem (by omega)
    obtain ⟨⟨u,h1,h2⟩,h3⟩:=r.cell _ _ (hget j _ hv)
    rw [Nat.add_assoc]
    exact ⟨by rw [h1]; rfl,h3⟩
   have hone:∀ v∈us,v.oneCell'=true:=by
    intro v hm
    obtain ⟨i,hi,rfl⟩:=List.getElem_of_mem hm
    have h1:vs[i]? = some vs[i]:=List.getElem?_eq_getElem (by omega)
    obtain ⟨b,hb,hS⟩:=all2_get hv i _ h1
    rw [List.getElem?_eq_getElem hi] at hb
    cases hb
    exact S_one hS
   have hrun:=run_storeCells_cells (P:=P) x.1 (x.2.1+a.off) us 0 w (by simpa using fun j hj=>(hcell j hj).1) (by simpa using fun j hj=>(hcell j hj).2) hone
   have hin:=World.cell?_setCells_in x.1 us (x.2.1+a.off) w (fun j hj=>(hcell j hj).1)
   refine ⟨by simpa using hrun,⟨?_,?_,hr.fresh⟩,fun nm=>?_⟩
   .intro n e' x' hn hx'
    simp only [tget_tset] at hn
    by_cases hne:a.block=n
    .subst hne
     rw [if_pos rfl] at hn
     cases hn
     have hxx:x=x':=by rw [hx] at hx'; exact Option.some.inj hx'
     subst hxx
     refine ⟨r.at_,by rw [setCells_size]; exact r.lt,fun i v hi=>?_,fun o ho=>(by cases ho),fun hu=>?_⟩
     .simp only [tget_wr] at hi
      rw [World.frozen?_setCells]
      by_cases hb:a.off<=i/\i<a.off+vs.length
      .rw [if_pos hb] at hi
       obtain ⟨u,h1,h2⟩:=all2_get hv _ _ hi
       have hj:i-a.off<us.length:=by omega
       have hcc:=hin (i-a.off) hj
       rw [show x.2.1+a.off+(i-a.off)=x.2.1+i by omega] at hcc
       rw [List.getElem?_eq_getElem hj] at h1
       cases h1
       refine ⟨⟨_,hcc,h2⟩,?_⟩
       have:=(hcell (i-a.off) hj).2
       rwa [show x.2.1+a.off+(i-a.off)=x.2.1+i by omega] at this
      .rw [if_neg hb] at hi
       obtain ⟨⟨u,h1,h2⟩,h3⟩:=r.cell i v hi
       refine ⟨⟨u,?_,h2⟩,h3⟩
       rw [World.cell?_setCells_out _ _ _ _ _ (fun _ _=>by simp only; omega)]
       exact h1
     .obtain ⟨h1,h2⟩:=r.room hu
      refine ⟨h1,fun i hi=>?_⟩
      obtain ⟨h3,h4⟩:=h2 i hi
      rw [World.frozen?_setCells]
      refine ⟨?_,h4⟩
      by_cases hb:a.off<=i/\i<a.off+us.length
      .have hcc:=hin (i-a.off) (by omega)
       rw [show x.2.1+a.off+(i-a.off)=x.2.1+i by omega] at hcc
       rw [hcc]; rfl
      .rw [World.cell?_setCells_out _ _ _ _ _ (fun _ _=>by simp only; omega)]
       exact h3
    .rw [if_neg hne] at hn
     have rz:=hr.ent _ _ _ hn hx'
     have hsep:=hr.sep _ _ _ _ _ _ he hn hne r.at_ rz.at_
     refine ⟨rz.at_,by rw [setCells_size]; exact rz.lt,fun i v hi=>?_,fun o ho=>(by rw [setCells_heap _ _ _ _ _ (Ne.symm hsep)]; exact rz.ob o ho),fun hu=>?_⟩
     .rw [World.frozen?_setCells,World.cell?_setCells_out _ _ _ _ _ (fun e1 _=>absurd e1.symm hsep)]
      exact rz.cell i v hi
     .obtain ⟨h1,h2⟩:=rz.room hu
      refine ⟨h1,fun i hi=>?_⟩
      rw [World.frozen?_setCells,World.cell?_setCells_out _ _ _ _ _ (fun e1 _=>absurd e1.symm hsep)]
      exact h2 i hi
   .intro n m e1 e2 z1 z2 h1 h2 hne t1 t2
    have lift:∀ k ek,tget (tset h.m a.block (some ⟨wr e.cells a.off vs,e.len,e.unk,none⟩)) k=some ek->∃ ek',tget h.m k=some ek':=by
     intro k ek hk
     rw [tget_tset] at hk
     split at hk
     .rename_i hb; subst hb; exact ⟨e,he⟩
     .exact ⟨ek,hk⟩
    obtain ⟨e1',h1'⟩:=lift n e1 h1
    obtain ⟨e2',h2'⟩:=lift m e2 h2
    exact hr.sep n m e1' e2' z1 z2 h1' h2' hne t1 t2
   .refine ⟨fun _ _ e=>e,fun _ _ _=>rfl,Nat.le_refl _,by rw [setCells_size]; exact Nat.le_refl _,(setCells_os _ _ _ _).2.1,(setCells_os _ _ _ _).1,(setCells_os _ _ _ _).2.2,?_,?_,?_⟩
    .intro b hb hno
     exact setCells_heap _ _ _ _ _ (fun e1=>hno _ _ _ he hw1 r.at_ e1.symm)
    .intro n e' z h1 hu h2
     simp only [tget_tset] at h1
     split at h1
     .rename_i hb; subst hb; exact .inr ⟨_,_,_,he,hw1,h2,rfl⟩
     .exact .inr ⟨_,_,_,h1,hu,h2,rfl⟩
    .intro n e' z h1 h2
     simp only [tget_tset] at h1
     split at h1
     .rename_i hb; subst hb; exact .inr ⟨_,_,_,he,h2,rfl⟩
     .exact .inr ⟨_,_,_,h1,h2,rfl⟩
  .cases hst
 .cases hst
theorem alloc_sound [LG] {θ:Th} {h:Hp} {w:World} (hr:HR θ h w) {nm:Nat} (hnm:θ nm=none) {cs ds:List Value} (rest:List Value) (hcs:all2 (S θ) cs ds) (t:TypeId) (k u:Nat)
 (hk:u≠0->cs.length<=k*u/\k*u<=(ds++rest).length) :
 HR (fun n=>if n=nm then some (w.heap.size,0,k) else θ n) (halloc h nm (mkEnt cs u)) (w.alloc (.cells (ds++rest).toArray t))/\
 Ext nm θ h w (fun n=>if n=nm then some (w.heap.size,0,k) else θ n) (halloc h nm (mkEnt cs u)) (w.alloc (.cells (ds++rest).toArray t)):=by
 have hkeep:∀ n x,θ n=some x->(fun n=>if n=nm then some (w.heap.size,0,k) else θ n) n=some x:=by
  intro n x hx
  have:n≠nm:=fun e=>by subst e; rw [hnm] at hx; cases hx
  simp only [if_neg this,hx]
 have hlt:∀ n e x,tget h.m n=some e->θ n=some x->x.1<w.heap.size:=by
  intro n e x h1 h2
  exact (hr.ent _ _ _ h1 h2).lt
 have hcell:∀ i,(w.alloc (.cells (ds++rest).toArray t)).cell? ⟨w.heap.size,0+i,none⟩=(ds++rest)[i]?:=by
  intro i
  rw [Nat.zero_add,World.cell?_alloc_new]
  simp
 refine ⟨⟨?_,?_,?_⟩,hkeep,?_,?_,?_,rfl,rfl,rfl,?_,?_,?_⟩
 .intro n e x hn hx
  simp only [halloc,tget_tset] at hn
  by_cases hb:nm=n
  .subst hb
   rw [if_pos rfl] at hn
   cases hn
   simp only [if_true,Option.some.injEq] at hx
   subst hx
   refine ⟨by simp,by simp,fun i v hi=>?_,fun o ho=>(by cases ho),fun hu=>?_⟩
   .simp only [mkEnt,tget_wr_nil] at hi
    obtain ⟨y,h1,h2⟩:=all2_get hcs i v hi
    refine ⟨⟨y,?_,S_mono hkeep h2⟩,by simp⟩
    simp only
    rw [hcell,List.getElem?_append_left,h1]
    rcases Nat.lt_or_ge i ds.length with h | h
    .exact h
    .rw [List.getElem?_eq_none h] at h1; cases h1
   .obtain ⟨h1,h2⟩:=hk hu
    refine ⟨h1,fun i hi=>⟨?_,by simp⟩⟩
    simp only
    rw [hcell,List.getElem?_eq_getElem (Nat.lt_of_lt_of_le hi h2)]
    rfl
  .rw [if_neg hb] at hn
   simp only [if_neg (Ne.symm hb)] at hx
   have r:=hr.ent _ _ _ hn hx
   refine ⟨hkeep _ _ r.at_,by have:=r.lt; simp; omega,fun i v hi=>?_,fun o ho=>(by rw [Below.heap_alloc _ _ _ r.lt]; exact ObR_mono hkeep (r.ob o ho)),fun hu=>?_⟩
   .obtain ⟨⟨y,h1,h2⟩,h3⟩:=r.cell i v hi
    rw [World.cell?_alloc_lt _ _ _ r.lt,World.frozen?_alloc_old _ _ _ (Nat.ne_of_lt r.lt)]
    exact ⟨⟨y,h1,S_mono hkeep h2⟩,h3⟩
   .obtain ⟨h1,h2⟩:=r.room hu
    refine ⟨h1,fun i hi=>?_⟩
    rw [World.cell?_alloc_lt _ _ _ r.lt,World.frozen?_alloc_old _ _ _ (Nat.ne_of_lt r.lt)]
    exact h2 i hi
 .intro n m e e' x y h1 h2 hne t1 t2
  simp only [halloc,tget_tset] at h1 h2
  by_cases hn:nm=n
  .subst hn
   simp only [if_true] at t1
   rw [if_neg hne] at h2
   simp only [if_neg (Ne.symm hne)] at t2
   have:=hlt _ _ _ h2 t2
   cases t1
   simp only; omega
  .rw [if_neg hn] at h1
   simp only [if_neg (Ne.symm hn)] at t1
   by_cases hm:nm=m
   .subst hm
    simp only [if_true] at t2
    have:=hlt _ _ _ h1 t1
    cases t2
    simp only; omega
   .rw [if_neg hm] at h2
    simp only [if_neg (Ne.symm hm)] at t2
    exact hr.sep n m e e' x y h1 h2 hne t1 t2
 .intro n hn
  simp only [halloc] at hn
  have h1:n≠nm:=by omega
  simp only [if_neg h1]
  exact hr.fresh n (by omega)
 .intro n _ hne
  simp only [if_neg hne]
 .simp only [halloc]; omega
 .simp
 .intro b hb _
  exact Below.heap_alloc _ _ _ hb
 .intro n e x h1 hu h2
  simp only [halloc,tget_tset] at h1
  by_cases hb:nm=n
  .subst hb
   simp only [if_true] at h2
   cases h2
   exact .inl (Nat.le_refl _)
  .rw [if_neg hb] at h1
   simp only [if_neg (Ne.symm hb)] at h2
   exact .inr ⟨n,e,x,h1,hu,h2,rfl⟩
 .intro n e x h1 h2
  simp only [halloc,tget_tset] at h1
  by_cases hb:nm=n
  .subst hb
   simp only [if_true] at h2
   cases h2
   exact .inl (Nat.le_refl _)
  .rw [if_neg hb] at h1
   simp only [if_neg (Ne.symm hb)] at h2
   exact .inr ⟨n,e,x,h1,h2,rfl⟩
theorem ti_spec {P:Program} {t:TypeId} {ti:TI} (h:tiOf P t=some ti):∃ i d z fl,P.info? t=some i/\P.underlying t=some d/\i.zero=some z/\fldsOf P d=some fl/\allPlain z.cells.toList=true/\
 ti = { size:=i.size,bytes:=i.bytes,agg:=aggB d,kind:=(kindOf d).1,elem:=(kindOf d).2.1,alen:=(kindOf d).2.2,flds:=fl,zero:=z.cells.toList }:=by
 unfold tiOf at h
 split at h
 .rename_i i d h1 h2
  split at h
  .rename_i z fl h3 h4
   cases hp:allPlain z.cells.toList<;>simp [hp] at h
   exact ⟨i,d,z,fl,h1,h2,h3,h4,hp,h.symm⟩
  .cases h
 .cases h
def OpOk [LG] (P:Program) (o:Oper) (nm:Nat) (θ:Th) (h:Hp) (w:World) (a:Act) (v:Value) (h':Hp):Prop :=
 ∃ θ' w' u nx,(execOp a.eval o).run P w = .ok nx w'/\(nx = .value u\/(nx = .skip/\u=undef))/\Ext nm θ h w θ' h' w'/\HR θ' h' w'/\W θ' v u
abbrev FW (r:Option Nat):Fence:={ Fence.wide with round:=r }
theorem fn_FW {r:Option Nat} {f:FuncId}:(FW r).fn f:=trivial
theorem room_FW {r:Option Nat} (n:Nat):(FW r).room n:=fun _ h=>by simp [Fence.wide] at h
theorem depth_FW {r:Option Nat} {n:Nat}:(FW r).depth.isSome=true->1<=n:=fun h=>by simp [Fence.wide] at h
theorem callsIn_FW {r:Option Nat} {n:Nat} {P:Program} {f:FuncId} {args:Array Value} {w:World} {R:Ending->World->Prop} (h:Calls P f args w R):CallsIn (FW r) n P f args w R :=
 (callsIn_wide (n:=n)).2 h
theorem semAt_of_ok {ro:Option Nat} {ρ:Operand->Value} {o:Oper} {P:Program} {w w':World} {nx:Next} {u:Value} (h:(execOp ρ o).run P w = .ok nx w') (hn:nx = .value u\/(nx = .skip/\u=undef)):Oper.semAt ro ρ o=execOp ρ o:=by
 refine Oper.semAt_eq ro ρ o fun c hc=>?_
 simp only [execOp,hc,Sem.run_bind] at h
 cases hr:(resolve ρ c o.type).run P w with
 | ok d w1 =>
   rw [hr] at h
   simp only [Result.andThen_ok,Sem.run_pure,Result.ok.injEq] at h
   rcases hn with e | ⟨e,_⟩<;>(rw [e] at h; cases h.1)
 | halt x w1=>rw [hr] at h; cases h
def OpWp [LG] (P:Program) (o:Oper) (nm:Nat) (θ:Th) (h:Hp) (w:World) (a:Act) (v:Value) (h':Hp):Prop :=
 ∀ (ro:Option Nat) (K:Act->World->Prop) (Q:Exit->Act->World->Prop),(∀ θ' w' u,Ext nm θ h w θ' h' w'->HR θ' h' w'->W θ' v u->K (a.put o.dst u) w')->o.wpIn (FW ro) 0 P a w K Q
theorem OpOk.wp [LG] {P:Program} {o:Oper} {nm:Nat} {θ:Th} {h:Hp} {w:World} {a:Act} {v:Value} {h':Hp} (hh:OpOk P o nm θ h w a v h'):OpWp P o nm θ h w a v h':=by
 intro ro K Q hK
 obtain ⟨θ',w',u,nx,h1,h2,h3,h4,h5⟩:=hh
 refine ⟨fun _ _=>fn_FW,?_⟩
 rw [semAt_of_ok h1 h2,h1]
 rcases h2 with rfl | ⟨rfl,rfl⟩
 .exact hK _ _ _ h3 h4 h5
 .exact hK _ _ _ h3 h4 h5
theorem opOk_same [LG] {P:Program} {o:Oper} {nm:Nat} {θ:Th} {h:Hp} {w:World} {a:Act} {v:Value} (hr:HR θ h w) {u:Value} (hx:(execOp a.eval o).run P w = .ok (.value u) w) (hw:W θ v u):OpOk P o nm θ h w a v h :=
 ⟨θ,w,u,_,hx,.inl rfl,Ext.refl _ _ _ _,hr,hw⟩
theorem srun_sound {α:Type} {P:Program}:∀ {s:Sem α} {x:α},srun P s=some x->∀ w,s.run P w = .ok x w:=by
 intro s
 induction s with
 | pure a=>intro x h w; simp [srun] at h; subst h; rfl
 | program k ih=>intro x h w; exact ih P h w
 | _=>intro x h; simp [srun] at h
theorem allPlain_eq {θ:Th}:∀ {vs us:List Value},allPlain vs=true->all2 (W θ) vs us->us=vs
 | [],[],_,_=>rfl
 | v :: vs,u :: us,hp,h=>by
   simp only [allPlain,Bool.and_eq_true] at hp
   rw [W_plain hp.1 h.1,allPlain_eq hp.2 h.2]
 | [],_ :: _,_,h=>h.elim
 | _ :: _,[],_,h=>h.elim
theorem plainS_eq {θ:Th}:∀ {vs us:List Value},allPlain vs=true->all2 (S θ) vs us->us=vs
 | [],[],_,_=>rfl
 | v :: vs,u :: us,hp,h=>by
   simp only [allPlain,Bool.and_eq_true] at hp
   rw [W_plain hp.1 (W_of_S h.1),plainS_eq hp.2 h.2]
 | [],_ :: _,_,h=>h.elim
 | _ :: _,[],_,h=>h.elim
theorem plainA_eq {θ:Th} {v u:Value} (hp:plainA v=true) (h:W θ v u):u=v:=by
 cases v with
 | agg cs =>
   obtain ⟨ds,rfl,h2⟩:=h
   rw [plainS_eq hp h2]
 | _=>exact W_plain hp h
theorem allPlainA_eq {θ:Th}:∀ {vs us:List Value},allPlainA vs=true->all2 (W θ) vs us->us=vs
 | [],[],_,_=>rfl
 | v :: vs,u :: us,hp,h=>by
   simp only [allPlainA,Bool.and_eq_true] at hp
   rw [plainA_eq hp.1 h.1,allPlainA_eq hp.2 h.2]
 | [],_ :: _,_,h=>h.elim
 | _ :: _,[],_,h=>h.elim
theorem opvs_rho {T:Tm}:∀ {xs:List Operand} {vs:List Value},opvs (opv T) xs=some vs->xs.map (rho (opv T))=vs
 | [],vs,h=>by cases h; rfl
 | x :: l,vs,h=>by
   simp only [opvs] at h
   split at h
   .cases h
   .rename_i v hv
    split at h
    .cases h
    .rename_i r hr
     cases h
     simp [rho,hv,opvs_rho hr]
end Go.Ev
