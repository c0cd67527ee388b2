import Derived.Test.YtlgpleiobieniaaEwS4
import Derived.Test.YtlgpleiobieniaaEwDk1
import Derived.Test.YtlgpleiobieniaaRows
import Derived.Shelf.Strings.Builder1
import Derived.Test.YtlgpleiobieniaaEvMain
import Derived.Test.YtlgpleiobieniaaEwEnv
import Derived.Carry
set_option linter.unusedVariables false
set_option maxRecDepth 100000
namespace Go.Proofs.Ytlgpleiobieniaa
open Go.Ev Go.Ew
namespace Va
def W3 (P:Program):WE:=⟨env P,tupT,[],mkTab [(4,[.tmp 2 .str,.tmp 9 .slice,.tmp 10 .bool,.tmp 11 (.int .i64),.tmp 12 (.int .i64),.tmp 13 .str,.tmp 15 (.int .i64),.tmp 16 (.int .i64)]),(2,[.tmp 2 .str,.tmp 9 .slice,.tmp 10 .bool,.tmp 11 (.int .i64),.tmp 12 (.int .i64),.tmp 13 .str,.tmp 14 (.int .i64)]),(0,[.tmp 0 (.int .u8),.tmp 1 (.int .u8),.tmp 2 .str,.tmp 7 (.int .i64)])],3⟩
def vc3_L4 (y1:ByteArray) (y2:OA) (y3 y4:Nat) (y5:Bool) (y6 y7:Int) (y8:ByteArray) (y9:KH) (y10:PQ):Prop :=
 (∃ (m:(Nat->ByteArray->OA->Nat->Nat->Bool->Int->Int->ByteArray->Int->Int->KH->Prop)),(∃ (v:Nat),m v y1 y2 y3 y4 y5 y6 y7 (y8++(ByteArray.mk #[120,121])) (((ByteArray.size y8):Nat):Int) 0 y9)/\∀ (q:Nat) (e:ByteArray) (i:(OA)) (j k:Nat) (d:Bool) (b a:Int) (f:ByteArray) (n l:Int) (o:KH),m q e i j k d b a f n l o->(decide (l<a)=true->(((ByteArray.size f)+(ByteArray.size (ByteArray.mk #[32,99,100]))):Nat)<=1000000/\∃ (r:Nat),(r:Nat)<q/\m r e i j k d b a (f++(ByteArray.mk #[32,99,100])) n (IntKind.wrap .i64 (l+1)) o)/\(decide (l<a)=false->Does (env Try.prog) 9 [.slice i j k,.string f] o fun z aa=>∃ (s:(OA)) (t u:Nat),z=(.slice s t u)/\Does (env Try.prog) 8 [.slice i j k,.string f,.slice s t u,.agg #[.int .i64 (IntKind.wrap .i64 (n+1)),.int .i64 0,.string e]] aa fun ab c=>∃ (w:ByteArray) (x:(OA)) (p y:Nat) (g:Int) (h:Bool),ab=(.tuple #[.string w,.slice x p y,.int .i64 g,.bool h])/\(((strEq e (ByteArray.mk #[])):Bool)=true->(d=true->(h=true->(((decide (g=(IntKind.wrap .i64 ((IntKind.wrap .i64 ((IntKind.wrap .i64 (2*b))+(IntKind.wrap .i64 (2*a))))+1)))):Bool)=true->y10 (.bool (decide ((p:Int)=(IntKind.wrap .i64 ((IntKind.wrap .i64 ((IntKind.wrap .i64 (2*b))+(IntKind.wrap .i64 (2*a))))+1))))) c)/\(((decide (g=(IntKind.wrap .i64 ((IntKind.wrap .i64 ((IntKind.wrap .i64 (2*b))+(IntKind.wrap .i64 (2*a))))+1)))):Bool)=false->y10 (.bool false) c))/\(h=false->y10 (.bool false) c))/\(d=false->y10 (.bool false) c))/\(((strEq e (ByteArray.mk #[])):Bool)=false->(d=true->(h=true->(((decide (g=(IntKind.wrap .i64 ((IntKind.wrap .i64 (2*b))+(IntKind.wrap .i64 (2*a)))))):Bool)=true->y10 (.bool (decide ((p:Int)=(IntKind.wrap .i64 ((IntKind.wrap .i64 ((IntKind.wrap .i64 (2*b))+(IntKind.wrap .i64 (2*a))))+1))))) c)/\(((decide (g=(IntKind.wrap .i64 ((IntKind.wrap .i64 (2*b))+(IntKind.wrap .i64 (2*a)))))):Bool)=false->y10 (.bool false) c))/\(h=false->y10 (.bool false) c))/\(d=false->y10 (.bool false) c))))
def vc3_L5 (y1:ByteArray) (y2:OA) (y3 y4:Nat) (y5:Bool) (y6 y7:Int) (y8:KH) (y9:PQ):Prop :=
 (∃ (d:(Nat->ByteArray->OA->Nat->Nat->Bool->Int->Int->ByteArray->Int->KH->Prop)),(∃ (n:Nat),d n y1 y2 y3 y4 y5 (IntKind.wrap .i64 (Int.tmod y6 10)) (IntKind.wrap .i64 (Int.tmod y7 10)) (ByteArray.mk #[]) 0 y8)/\∀ (l:Nat) (e:ByteArray) (f:(OA)) (g h:Nat) (i:Bool) (a j:Int) (b:ByteArray) (c:Int) (k:KH),d l e f g h i a j b c k->(decide (c<a)=true->(((ByteArray.size b)+(ByteArray.size (ByteArray.mk #[97,98,32]))):Nat)<=1000000/\∃ (m:Nat),(m:Nat)<l/\d m e f g h i a j (b++(ByteArray.mk #[97,98,32])) (IntKind.wrap .i64 (c+1)) k)/\(decide (c<a)=false->(((ByteArray.size b)+(ByteArray.size (ByteArray.mk #[120,121]))):Nat)<=1000000/\vc3_L4 e f g h i a j b k y9))
def vc3_L7 (y1 y2:Int) (y3:ByteArray) (y4:KH) (y5:PQ):Prop :=
 (∃ (d:(Nat->Int->Int->ByteArray->Int->KH->Prop)),(∃ (n:Nat),d n y1 y2 y3 0 y4)/\∀ (h:Nat) (e f:Int) (b:ByteArray) (a:Int) (c:KH),d h e f b a c->(((decide (a<(((ByteArray.size b):Nat):Int))):Bool)=true->((0:Int)<=a/\a<(((ByteArray.size b):Nat):Int))/\(((decide (((byteAt b (Int.toNat a)):Int)<97)):Bool)=true->y5 (.bool true) c)/\(((decide (((byteAt b (Int.toNat a)):Int)<97)):Bool)=false->((0:Int)<=a/\a<(((ByteArray.size b):Nat):Int))/\(decide ((122:Int)<(byteAt b (Int.toNat a)))=true->y5 (.bool true) c)/\(decide ((122:Int)<(byteAt b (Int.toNat a)))=false->∃ (i:Nat),(i:Nat)<h/\d i e f b (IntKind.wrap .i64 (a+1)) c)))/\(((decide (a<(((ByteArray.size b):Nat):Int))):Bool)=false->∀ (g:Nat),((c g):(Option (Ent)))=none->Does (env Try.prog) 7 [(.slice (some ⟨g,0,none⟩) 2 2)] (KH.new c g (mkEnt [.string (ByteArray.mk #[105,100]),.string (ByteArray.mk #[91,97,45,122,93,43]),.bool false,.string (ByteArray.mk #[115,112]),.string (ByteArray.mk #[32]),.bool true] 0)) fun o p=>∃ (j:(OA)) (k l:Nat) (m:Bool),o=(.tuple #[.slice j k l,.bool m])/\(10:Int)≠0/\(10:Int)≠0/\vc3_L5 b j k l m e f p y5))
def vc3 (p0 p1:Int) (p2:ByteArray) (H:KH) (Q:PQ):Prop :=
 Does (env Try.prog) 6 [] H fun c b=>∃ (a:Bool),c=(.bool a)/\((!a)=true->Q (.bool false) b)/\((!a)=false->(((decide ((10:Int)<(((ByteArray.size p2):Nat):Int))):Bool)=true->Q (.bool true) b)/\(((decide ((10:Int)<(((ByteArray.size p2):Nat):Int))):Bool)=false->vc3_L7 p0 p1 p2 b Q))
theorem fn3 (ok:EnvOk (env Try.prog)) {p0 p1:Int} {p2:ByteArray} {H:KH} {Q:PQ} (h:vc3 p0 p1 p2 H Q):Does (env Try.prog) 3 [.int .u8 p0,.int .u8 p1,.string p2] H Q :=
 wFun_sound (W:=W3 Try.prog) ok.tt (blt_lt (by kernel_rfl)) (ff_of ok (by kernel_rfl) Try.func3) (Eq.mpr (by kernel_rfl) h)
def W8 (P:Program):WE:=⟨env P,tupT,[7],mkTab [],8⟩
def vc8 (p0:OA) (p0n p0c:Nat) (p1:ByteArray) (p2:OA) (p2n p2c:Nat) (p3_0 p3_1:Int) (p3_2:ByteArray) (H:KH) (Q:PQ):Prop :=
 Does (env Try.prog) 18 [.int .i64 p3_0,.int .i64 p3_1,.int .i64 (((ByteArray.size p1):Nat):Int)] H fun h g=>∃ (b:Bool),h=(.bool b)/\((!b)=true->Q (.tuple #[.string (ByteArray.mk #[]),.slice none 0 0,.int .i64 0,.bool false]) g)/\((!b)=false->Does (env Try.prog) 19 [.string p1,.agg #[.int .i64 p3_0,.int .i64 p3_1,.string p3_2]] g fun i j=>∃ (a:ByteArray),i=(.string a)/\Does (env Try.prog) 9 [.slice p0 p0n p0c,.string a] j fun k l=>∃ (c:(OA)) (d e:Nat),k=(.slice c d e)/\Does (env Try.prog) 20 [.agg #[.string p1,.string a],.slice p2 p2n p2c,.slice c d e] l fun m n=>∃ (f:Int),m=(.int .i64 f)/\Q (.tuple #[.string a,.slice c d e,.int .i64 f,.bool true]) n)
theorem fn8 (ok:EnvOk (env Try.prog)) {p0:OA} {p0n p0c:Nat} {p1:ByteArray} {p2:OA} {p2n p2c:Nat} {p3_0 p3_1:Int} {p3_2:ByteArray} {H:KH} {Q:PQ} (h:vc8 p0 p0n p0c p1 p2 p2n p2c p3_0 p3_1 p3_2 H Q):Does (env Try.prog) 8 [.slice p0 p0n p0c,.string p1,.slice p2 p2n p2c,.agg #[.int .i64 p3_0,.int .i64 p3_1,.string p3_2]] H Q :=
 wFun_sound (W:=W8 Try.prog) ok.tt (blt_lt (by kernel_rfl)) (ff_of ok (by kernel_rfl) Try.func8) (Eq.mpr (by kernel_rfl) h)
def W18 (P:Program):WE:=⟨env P,tupT,[],mkTab [],18⟩
def vc18 (p0 p1 p2:Int) (H:KH) (Q:PQ):Prop :=
 ((decide ((0:Int)<=p0)=true->(decide ((0:Int)<=p1)=true->Q (.bool (decide (p1<=(IntKind.wrap .i64 (p2-p0))))) H)/\(decide ((0:Int)<=p1)=false->Q (.bool false) H))/\(decide ((0:Int)<=p0)=false->Q (.bool false) H))
theorem fn18 (ok:EnvOk (env Try.prog)) {p0 p1 p2:Int} {H:KH} {Q:PQ} (h:vc18 p0 p1 p2 H Q):Does (env Try.prog) 18 [.int .i64 p0,.int .i64 p1,.int .i64 p2] H Q :=
 wFun_sound (W:=W18 Try.prog) ok.tt (blt_lt (by kernel_rfl)) (ff_of ok (by kernel_rfl) Try.func18) (Eq.mpr (by kernel_rfl) h)
def W20 (P:Program):WE:=⟨env P,tupT,[3],mkTab [],20⟩
def vc20 (p0_0 p0_1:ByteArray) (p1:OA) (p1n p1c:Nat) (p2:OA) (p2n p2c:Nat) (H:KH) (Q:PQ):Prop :=
 (True/\Does (env Try.prog) 34 [.slice p1 p1n p1c,.slice p2 p2n p2c] H fun n o=>∃ (c:Nat) (d:(List Value)),n=(.func (.func c) #[] (List.toArray d))/\(((.agg #[.string p0_0,.string p0_1]):Value)=(.agg #[.string p0_0,.string p0_1])/\True)/\Does (env Try.prog) 33 [.agg #[.string p0_0,.string p0_1],.func (.func c) #[] (List.toArray d),.int .i64 0] o fun p b=>∃ (a:Int),p=(.int .i64 a)/\True/\True/\∃ (e:(OA)) (f g:Nat),((kslice b 3 p1 p1n p1c (some (.int .i64 a)) none):(Option Value))=(some (.slice e f g))/\∃ (h:(OA)) (i j:Nat),((kslice b 3 p2 p2n p2c (some (.int .i64 a)) none):(Option Value))=(some (.slice h i j))/\Does (env Try.prog) 35 [.slice e f g,.slice h i j] b fun q r=>∃ (k:Nat) (l:(List Value)),q=(.func (.func k) #[] (List.toArray l))/\(((.agg #[.string p0_0,.string p0_1]):Value)=(.agg #[.string p0_0,.string p0_1])/\((3:Nat)=3/\((0+1):Nat)=(0+1))/\((.string p0_1):Value)=(.string p0_1)/\((.int .i64 (((ByteArray.size p0_1):Nat):Int)):Value)=(.int .i64 (((ByteArray.size p0_1):Nat):Int))/\((3:Nat)=3/\((0+0):Nat)=(0+0))/\((.string p0_0):Value)=(.string p0_0)/\((.int .i64 (((ByteArray.size p0_0):Nat):Int)):Value)=(.int .i64 (((ByteArray.size p0_0):Nat):Int))/\((.int .i64 (IntKind.wrap .i64 ((((ByteArray.size p0_1):Nat):Int)-(((ByteArray.size p0_0):Nat):Int)))):Value)=(.int .i64 (IntKind.wrap .i64 ((((ByteArray.size p0_1):Nat):Int)-(((ByteArray.size p0_0):Nat):Int))))/\True)/\Does (env Try.prog) 33 [.agg #[.string p0_0,.string p0_1],.func (.func k) #[] (List.toArray l),.int .i64 (IntKind.wrap .i64 ((((ByteArray.size p0_1):Nat):Int)-(((ByteArray.size p0_0):Nat):Int)))] r fun s t=>∃ (m:Int),s=(.int .i64 m)/\True/\Q (.int .i64 (IntKind.wrap .i64 (a+m))) t)
theorem fn20 (ok:EnvOk (env Try.prog)) {p0_0 p0_1:ByteArray} {p1:OA} {p1n p1c:Nat} {p2:OA} {p2n p2c:Nat} {H:KH} {Q:PQ} (h:vc20 p0_0 p0_1 p1 p1n p1c p2 p2n p2c H Q):Does (env Try.prog) 20 [.agg #[.string p0_0,.string p0_1],.slice p1 p1n p1c,.slice p2 p2n p2c] H Q :=
 wFun_sound (W:=W20 Try.prog) ok.tt (blt_lt (by kernel_rfl)) (ff_of ok (by kernel_rfl) Try.func20) (Eq.mpr (by kernel_rfl) h)
def W33 (P:Program):WE:=⟨env P,tupT,[8,9],mkTab [(2000011,[.tmp 3 .bool,.tmp 5 .bool,.tmp 7 .bool]),(1000011,[.agg 11 [.int .i64 0,.int .i64 0,.int .i64 0],.agg 12 [.int .i64 0,.int .i64 0,.int .i64 0]])],33⟩
def vc33 (p0_0 p0_1:ByteArray) (p1:Nat) (p1k:(List Value)) (p2:Int) (H:KH) (Q:PQ):Prop :=
 (∀ (c:Nat),((H c):(Option (Ent)))=none->∀ (e:Nat),(((KH.new H c (mkEnt (Array.toList #[Value.string p0_0,.string p0_1]) 0)) e):(Option (Ent)))=none->∀ (b:Nat),(((KH.new (KH.new H c (mkEnt (Array.toList #[Value.string p0_0,.string p0_1]) 0)) e (mkEnt [(.int .i64 p2)] 0)) b):(Option (Ent)))=none->(∃ (l:(List Value)),((List.length l):Nat)=(List.length [(Value.int .i64 0)])/\ld (KH.new (KH.new (KH.new H c (mkEnt (Array.toList #[Value.string p0_0,.string p0_1]) 0)) e (mkEnt [(.int .i64 p2)] 0)) b (mkEnt [(.int .i64 0)] 0)) ⟨b,0,none⟩ l)/\KH.may (KH.new (KH.new (KH.new H c (mkEnt (Array.toList #[Value.string p0_0,.string p0_1]) 0)) e (mkEnt [(.int .i64 p2)] 0)) b (mkEnt [(.int .i64 0)] 0)) b/\FnIn (env Try.prog) p1/\∀ (a:Nat) (f:Lp),(((KH.put (KH.new (KH.new (KH.new H c (mkEnt (Array.toList #[Value.string p0_0,.string p0_1]) 0)) e (mkEnt [(.int .i64 p2)] 0)) b (mkEnt [(.int .i64 0)] 0)) ⟨b,0,none⟩ [(.int .i64 0)]) a):(Option (Ent)))=none->(∀ (m:Int) (n:Int) (o:Int) (p:Int) (q:Int) (r:Int) (h:KH) (j:(PQ)),((h a):(Option (Ent)))=(some (lpE f 0 none))->(∃ (s t:ByteArray),ld (KH.del h a) ⟨c,0,none⟩ [.string s,.string t]/\∃ (u:Int),ld (KH.del h a) ⟨e,0,none⟩ [(.int .i64 u)]/\Does (env Try.prog) 56 [.agg #[.string s,.string t],.agg #[.int .i64 m,.int .i64 n,.int .i64 o],.agg #[.int .i64 p,.int .i64 q,.int .i64 r],.int .i64 u] (KH.del h a) fun y g=>∃ (k:Bool),y=(.bool k)/\((!k)=true->((g a):(Option (Ent)))=none->j (.bool false) (KH.new g a (lpE f 2 (some (.exit 0)))))/\((!k)=false->∃ (i:Int),ld g ⟨b,0,none⟩ [(.int .i64 i)]/\(∃ (v:(List Value)),((List.length v):Nat)=(List.length [(Value.int .i64 (IntKind.wrap .i64 (i+1)))])/\ld g ⟨b,0,none⟩ v)/\KH.may g b/\((((KH.put g ⟨b,0,none⟩ [(.int .i64 (IntKind.wrap .i64 (i+1)))]) a):(Option (Ent)))=none->j (.bool true) (KH.new (KH.put g ⟨b,0,none⟩ [(.int .i64 (IntKind.wrap .i64 (i+1)))]) a (lpE f 0 none)))))->DoesR (env Try.prog) a [.agg #[.int .i64 m,.int .i64 n,.int .i64 o],.agg #[.int .i64 p,.int .i64 q,.int .i64 r]] h j)->Does (env Try.prog) p1 ([(.func (.yield a) #[] #[])]++p1k) (KH.new (KH.put (KH.new (KH.new (KH.new H c (mkEnt (Array.toList #[Value.string p0_0,.string p0_1]) 0)) e (mkEnt [(.int .i64 p2)] 0)) b (mkEnt [(.int .i64 0)] 0)) ⟨b,0,none⟩ [(.int .i64 0)]) a (lpE f 0 none)) fun z d=>(((d a):(Option (Ent)))=(some (lpE f 0 none))/\∃ (w:Int),ld (KH.del d a) ⟨b,0,none⟩ [(.int .i64 w)]/\Q (.int .i64 w) (KH.del d a))\/((((d a):(Option (Ent)))=(some (lpE f 2 (some .ret)))/\Q (.int .i64 0) (KH.del d a))\/(((d a):(Option (Ent)))=(some (lpE f 2 (some (.exit 0))))/\∃ (x:Int),ld (KH.del d a) ⟨b,0,none⟩ [(.int .i64 x)]/\Q (.int .i64 x) (KH.del d a))))
theorem fn33 (ok:EnvOk (env Try.prog)) {p0_0 p0_1:ByteArray} {p1:Nat} {p1k:List Value} {p2:Int} {H:KH} {Q:PQ} (h:vc33 p0_0 p0_1 p1 p1k p2 H Q):Does (env Try.prog) 33 [.agg #[.string p0_0,.string p0_1],.func (.func p1) #[] (List.toArray p1k),.int .i64 p2] H Q :=
 wFun_sound (W:=W33 Try.prog) ok.tt (blt_lt (by kernel_rfl)) (ff_of ok (by kernel_rfl) Try.func33) (Eq.mpr (by kernel_rfl) h)
def W34 (P:Program):WE:=⟨env P,tupT,[],mkTab [],34⟩
def vc34 (p0:OA) (p0n p0c:Nat) (p1:OA) (p1n p1c:Nat) (H:KH) (Q:PQ):Prop :=
 (∀ (a:Nat),((H a):(Option (Ent)))=none->∀ (b:Nat),(((KH.new H a (mkEnt [(.slice p0 p0n p0c)] 0)) b):(Option (Ent)))=none->Q (.func (.func 57) #[] #[.pointer (some ⟨a,0,none⟩),.pointer (some ⟨b,0,none⟩)]) (KH.new (KH.new H a (mkEnt [(.slice p0 p0n p0c)] 0)) b (mkEnt [(.slice p1 p1n p1c)] 0)))
theorem fn34 (ok:EnvOk (env Try.prog)) {p0:OA} {p0n p0c:Nat} {p1:OA} {p1n p1c:Nat} {H:KH} {Q:PQ} (h:vc34 p0 p0n p0c p1 p1n p1c H Q):Does (env Try.prog) 34 [.slice p0 p0n p0c,.slice p1 p1n p1c] H Q :=
 wFun_sound (W:=W34 Try.prog) ok.tt (blt_lt (by kernel_rfl)) (ff_of ok (by kernel_rfl) Try.func34) (Eq.mpr (by kernel_rfl) h)
def W35 (P:Program):WE:=⟨env P,tupT,[],mkTab [],35⟩
def vc35 (p0:OA) (p0n p0c:Nat) (p1:OA) (p1n p1c:Nat) (H:KH) (Q:PQ):Prop :=
 (∀ (a:Nat),((H a):(Option (Ent)))=none->∀ (b:Nat),(((KH.new H a (mkEnt [(.slice p0 p0n p0c)] 0)) b):(Option (Ent)))=none->Q (.func (.func 58) #[] #[.pointer (some ⟨a,0,none⟩),.pointer (some ⟨b,0,none⟩)]) (KH.new (KH.new H a (mkEnt [(.slice p0 p0n p0c)] 0)) b (mkEnt [(.slice p1 p1n p1c)] 0)))
theorem fn35 (ok:EnvOk (env Try.prog)) {p0:OA} {p0n p0c:Nat} {p1:OA} {p1n p1c:Nat} {H:KH} {Q:PQ} (h:vc35 p0 p0n p0c p1 p1n p1c H Q):Does (env Try.prog) 35 [.slice p0 p0n p0c,.slice p1 p1n p1c] H Q :=
 wFun_sound (W:=W35 Try.prog) ok.tt (blt_lt (by kernel_rfl)) (ff_of ok (by kernel_rfl) Try.func35) (Eq.mpr (by kernel_rfl) h)
def W56 (P:Program):WE:=⟨env P,tupT,[4,5,6],mkTab [],56⟩
def vc56 (p0_0 p0_1:ByteArray) (p1_0 p1_1 p1_2 p2_0 p2_1 p2_2 p3:Int) (H:KH) (Q:PQ):Prop :=
 Does (env Try.prog) 18 [.int .i64 p1_1,.int .i64 p1_2,.int .i64 (((ByteArray.size p0_0):Nat):Int)] H fun c b=>∃ (a:Bool),c=(.bool a)/\((!a)=true->Q (.bool false) b)/\((!a)=false->((0:Int)<=p1_1/\p1_1<=(IntKind.wrap .i64 (p1_1+p1_2))/\((IntKind.wrap .i64 (p1_1+p1_2)):Int)<=(((ByteArray.size p0_0):Nat):Int))/\((((decide (p1_0=p2_0))&&((decide (((IntKind.wrap .i64 (p1_1+p3)):Int)=p2_1))&&((decide (p1_2=p2_2))&&true))):Bool)=true->((0:Int)<=p2_1/\p2_1<=(IntKind.wrap .i64 (p2_1+p2_2))/\((IntKind.wrap .i64 (p2_1+p2_2)):Int)<=(((ByteArray.size p0_1):Nat):Int))/\Q (.bool (strEq (strCut p0_0 p1_1 (IntKind.wrap .i64 (p1_1+p1_2))) (strCut p0_1 p2_1 (IntKind.wrap .i64 (p2_1+p2_2))))) b)/\((((decide (p1_0=p2_0))&&((decide (((IntKind.wrap .i64 (p1_1+p3)):Int)=p2_1))&&((decide (p1_2=p2_2))&&true))):Bool)=false->Q (.bool false) b))
theorem fn56 (ok:EnvOk (env Try.prog)) {p0_0 p0_1:ByteArray} {p1_0 p1_1 p1_2 p2_0 p2_1 p2_2 p3:Int} {H:KH} {Q:PQ} (h:vc56 p0_0 p0_1 p1_0 p1_1 p1_2 p2_0 p2_1 p2_2 p3 H Q):Does (env Try.prog) 56 [.agg #[.string p0_0,.string p0_1],.agg #[.int .i64 p1_0,.int .i64 p1_1,.int .i64 p1_2],.agg #[.int .i64 p2_0,.int .i64 p2_1,.int .i64 p2_2],.int .i64 p3] H Q :=
 wFun_sound (W:=W56 Try.prog) ok.tt (blt_lt (by kernel_rfl)) (ff_of ok (by kernel_rfl) Try.func56) (Eq.mpr (by kernel_rfl) h)
def W57 (P:Program):WE:=⟨env P,tupT,[],mkTab [(0,[.tmp 0 .yld,.tmp 1 .ptr,.tmp 2 .ptr,.tmp 9 (.int .i64),.tmp 10 (.int .i64)])],57⟩
def vc57_L1 (y1 y2 y3 y4 y5 y6 y7:Nat) (y8:KH) (y9:PQ):Prop :=
 (∃ (d:(Nat->Nat->Nat->Nat->Nat->Nat->Int->Int->KH->Prop)),(∃ (ab:Nat),(none:(Option Nat))=none/\(none:(Option Nat))=none/\d ab y1 y2 y3 y4 y5 (min (y6:Int) (y7:Int)) 0 y8)/\∀ (k e f g h i:Nat) (c a:Int) (b:KH),d k e f g h i c a b->(decide (a<c)=true->True/\∃ (l:(OA)) (m ac:Nat),ld b ⟨f,g,none⟩ [(.slice l m ac)]/\((0:Int)<=a/\a<(m:Int))/\∃ (n o:Nat),l=some ⟨n,o,none⟩/\∃ (p q r:Int),ld b ⟨n,o+((Int.toNat a)*3),none⟩ [.int .i64 p,.int .i64 q,.int .i64 r]/\∃ (s:(OA)) (t ad:Nat),ld b ⟨h,i,none⟩ [(.slice s t ad)]/\((0:Int)<=a/\a<(t:Int))/\∃ (u v:Nat),s=some ⟨u,v,none⟩/\∃ (w x y:Int),ld b ⟨u,v+((Int.toNat a)*3),none⟩ [.int .i64 w,.int .i64 x,.int .i64 y]/\DoesR (env Try.prog) e [.agg #[.int .i64 p,.int .i64 q,.int .i64 r],.agg #[.int .i64 w,.int .i64 x,.int .i64 y]] b fun ae aa=>∃ (j:Bool),ae=(.bool j)/\True/\((!j)=true->y9 (.tuple #[]) aa)/\((!j)=false->∃ (z:Nat),(z:Nat)<k/\(none:(Option Nat))=none/\(none:(Option Nat))=none/\d z e f g h i c (IntKind.wrap .i64 (a+1)) aa))/\(decide (a<c)=false->y9 (.tuple #[]) b))
def vc57 (p0 k0b k0o k1b k1o:Nat) (H:KH) (Q:PQ):Prop :=
 (∃ (c:(OA)) (a d:Nat),ld H ⟨k0b,k0o,none⟩ [(.slice c a d)]/\∃ (e:(OA)) (b f:Nat),ld H ⟨k1b,k1o,none⟩ [(.slice e b f)]/\vc57_L1 p0 k0b k0o k1b k1o a b H Q)
theorem fn57 (ok:EnvOk (env Try.prog)) {p0 k0b k0o k1b k1o:Nat} {H:KH} {Q:PQ} (h:vc57 p0 k0b k0o k1b k1o H Q):Does (env Try.prog) 57 [.func (.yield p0) #[] #[],.pointer (some ⟨k0b,k0o,none⟩),.pointer (some ⟨k1b,k1o,none⟩)] H Q :=
 wFun_sound (W:=W57 Try.prog) ok.tt (blt_lt (by kernel_rfl)) (ff_of ok (by kernel_rfl) Try.func57) (Eq.mpr (by kernel_rfl) h)
def W58 (P:Program):WE:=⟨env P,tupT,[],mkTab [(0,[.tmp 0 .yld,.tmp 1 .ptr,.tmp 2 .ptr,.tmp 9 (.int .i64),.tmp 10 (.int .i64)])],58⟩
def vc58_L1 (y1 y2 y3 y4 y5 y6 y7:Nat) (y8:KH) (y9:PQ):Prop :=
 (∃ (j:(Nat->Nat->Nat->Nat->Nat->Nat->Int->Int->KH->Prop)),(∃ (ad:Nat),(none:(Option Nat))=none/\(none:(Option Nat))=none/\j ad y1 y2 y3 y4 y5 (min (y6:Int) (y7:Int)) 0 y8)/\∀ (m k c d e f:Nat) (g a:Int) (b:KH),j m k c d e f g a b->(decide (a<g)=true->True/\∃ (n:(OA)) (o ae:Nat),ld b ⟨c,d,none⟩ [(.slice n o ae)]/\∃ (af:(OA)) (h ag:Nat),ld b ⟨c,d,none⟩ [(.slice af h ag)]/\((0:Int)<=(IntKind.wrap .i64 ((IntKind.wrap .i64 ((h:Int)-1))-a))/\((IntKind.wrap .i64 ((IntKind.wrap .i64 ((h:Int)-1))-a)):Int)<(o:Int))/\∃ (p q:Nat),n=some ⟨p,q,none⟩/\∃ (r s t:Int),ld b ⟨p,q+((Int.toNat (IntKind.wrap .i64 ((IntKind.wrap .i64 ((h:Int)-1))-a)))*3),none⟩ [.int .i64 r,.int .i64 s,.int .i64 t]/\∃ (u:(OA)) (v ah:Nat),ld b ⟨e,f,none⟩ [(.slice u v ah)]/\∃ (ai:(OA)) (i aj:Nat),ld b ⟨e,f,none⟩ [(.slice ai i aj)]/\((0:Int)<=(IntKind.wrap .i64 ((IntKind.wrap .i64 ((i:Int)-1))-a))/\((IntKind.wrap .i64 ((IntKind.wrap .i64 ((i:Int)-1))-a)):Int)<(v:Int))/\∃ (w x:Nat),u=some ⟨w,x,none⟩/\∃ (y z aa:Int),ld b ⟨w,x+((Int.toNat (IntKind.wrap .i64 ((IntKind.wrap .i64 ((i:Int)-1))-a)))*3),none⟩ [.int .i64 y,.int .i64 z,.int .i64 aa]/\DoesR (env Try.prog) k [.agg #[.int .i64 r,.int .i64 s,.int .i64 t],.agg #[.int .i64 y,.int .i64 z,.int .i64 aa]] b fun ak ac=>∃ (l:Bool),ak=(.bool l)/\True/\((!l)=true->y9 (.tuple #[]) ac)/\((!l)=false->∃ (ab:Nat),(ab:Nat)<m/\(none:(Option Nat))=none/\(none:(Option Nat))=none/\j ab k c d e f g (IntKind.wrap .i64 (a+1)) ac))/\(decide (a<g)=false->y9 (.tuple #[]) b))
def vc58 (p0 k0b k0o k1b k1o:Nat) (H:KH) (Q:PQ):Prop :=
 (∃ (c:(OA)) (a d:Nat),ld H ⟨k0b,k0o,none⟩ [(.slice c a d)]/\∃ (e:(OA)) (b f:Nat),ld H ⟨k1b,k1o,none⟩ [(.slice e b f)]/\vc58_L1 p0 k0b k0o k1b k1o a b H Q)
theorem fn58 (ok:EnvOk (env Try.prog)) {p0 k0b k0o k1b k1o:Nat} {H:KH} {Q:PQ} (h:vc58 p0 k0b k0o k1b k1o H Q):Does (env Try.prog) 58 [.func (.yield p0) #[] #[],.pointer (some ⟨k0b,k0o,none⟩),.pointer (some ⟨k1b,k1o,none⟩)] H Q :=
 wFun_sound (W:=W58 Try.prog) ok.tt (blt_lt (by kernel_rfl)) (ff_of ok (by kernel_rfl) Try.func58) (Eq.mpr (by kernel_rfl) h)
end Va
end Go.Proofs.Ytlgpleiobieniaa
set_option linter.unusedSimpArgs false
namespace Go.Ew
open Go.Ev Go.Deep
abbrev Tok3:=Int × Nat × Int
def tkV (x:Tok3):Value:=.agg #[.int .i64 x.1,.int .i64 ((x.2.1:Nat):Int),.int .i64 x.2.2]
def InT (N:Nat) (x:Tok3):Prop:=0<=x.2.2/\((x.2.1:Nat):Int)+x.2.2<=N
def cutT (s:ByteArray) (x:Tok3):ByteArray:=strCut s ((x.2.1:Nat):Int) (((x.2.1:Nat):Int)+x.2.2)
def sameM (was is:ByteArray) (mv:Int) (o w:Tok3):Bool:=(decide (o.1=w.1)&&(decide (((o.2.1:Nat):Int)+mv=((w.2.1:Nat):Int))&&(decide (o.2.2=w.2.2)&&true)))&&strEq (cutT was o) (cutT is w)
def stayM (was is:ByteArray) (mv:Int):List (Tok3 × Tok3)->Nat
 | []=>0
 | p :: r=>if sameM was is mv p.1 p.2=true then stayM was is mv r+1 else 0
theorem stayM_le (was is:ByteArray) (mv:Int):∀ l,stayM was is mv l<=l.length
 | []=>Nat.le_refl _
 | p :: r=>by
   have:=stayM_le was is mv r
   unfold stayM
   split
   .simp only [List.length_cons]; omega
   .omega
def frontM (was is:ByteArray) (l m:List Tok3):Nat:=stayM was is 0 (l.zip m)
def endT (was is:ByteArray) (l m:List Tok3):Nat:=stayM was is (((is.size:Nat):Int)-((was.size:Nat):Int)) (l.reverse.zip m.reverse)
def keptM (was is:ByteArray) (l m:List Tok3):Nat:=frontM was is l m+endT was is (l.drop (frontM was is l m)) (m.drop (frontM was is l m))
theorem tkC_get3:∀ {l:List Tok3} {i:Nat} {x:Tok3},l[i]? = some x->((tkC l).drop (i*3)).take 3=[.int .i64 x.1,.int .i64 ((x.2.1:Nat):Int),.int .i64 x.2.2]
 | [],i,x,h=>by simp at h
 | y :: r,0,x,h=>by
   simp only [List.getElem?_cons_zero,Option.some.injEq] at h
   subst h
   simp [tkC]
 | y :: r,i+1,x,h=>by
   have:=tkC_get3 (l:=r) (i:=i) (x:=x) (by simpa using h)
   have e:(i+1)*3=i*3+1+1+1:=by omega
   simp only [tkC,List.flatMap_cons,List.cons_append,List.nil_append,e,List.drop_succ_cons]
   exact this
theorem tk_ld3 {H:KH} {a:OA} {l:List Tok3} (h:kold H 3 a l.length=some (tkC l)) {i:Nat} {x:Tok3} (hi:l[i]? = some x):∃ b o,a=some ⟨b,o,none⟩/\ld H ⟨b,o+i*3,none⟩ [.int .i64 x.1,.int .i64 ((x.2.1:Nat):Int),.int .i64 x.2.2]:=by
 have hl:i<l.length:=by
  rcases Nat.lt_or_ge i l.length with z | z
  .exact z
  .rw [List.getElem?_eq_none z] at hi; cases hi
 obtain ⟨b,o,e,r⟩:=rowAddr h (by omega)
 refine ⟨b,o,e,?_⟩
 have:=r (i*3) 3 (by omega)
 rw [tkC_get3 hi] at this
 exact this
theorem tkC_drop (l:List Tok3) (k:Nat):(tkC l).drop (k*3)=tkC (l.drop k):=by
 induction l generalizing k with
 | nil=>simp [tkC]
 | cons x r ih =>
   cases k with
   | zero=>simp
   | succ k =>
     have e:(k+1)*3=k*3+1+1+1:=by omega
     simp only [tkC,List.flatMap_cons,List.cons_append,List.nil_append,e,List.drop_succ_cons]
     exact ih k
end Go.Ew
namespace Go.Proofs.Ytlgpleiobieniaa
open Go.Ev Go.Ew
namespace Va
section
variable (ok : EnvOk (env Try.prog))
include ok
theorem c18 {p0 p1:Int} {N:Nat} {H:KH} {Q:PQ} (h0:p0<9223372036854775808) (hN:N<=1000000) (hq:Q (.bool (decide (0<=p0/\0<=p1/\p1+p0<=((N:Nat):Int)))) H):Does (env Try.prog) 18 [.int .i64 p0,.int .i64 p1,.int .i64 ((N:Nat):Int)] H Q:=by
 refine fn18 ok ⟨fun q0=>⟨fun q1=>?_,fun q1=>?_⟩,fun q0=>?_⟩
 .have q0:=of_decide_eq_true q0
  have q1:=of_decide_eq_true q1
  rw [wrap64 (by omega) (by omega)]
  have e:(decide (0<=p0/\0<=p1/\p1+p0<=((N:Nat):Int)))=decide (p1<=((N:Nat):Int)-p0):=decide_eq_decide.2 ⟨fun h=>by omega,fun h=>by omega⟩
  rw [e] at hq
  exact hq
 .have q1:=of_decide_eq_false q1
  rw [decide_eq_false (by omega)] at hq
  exact hq
 .have q0:=of_decide_eq_false q0
  rw [decide_eq_false (by omega)] at hq
  exact hq
theorem c56 {was is:ByteArray} {o w:Tok3} {mv:Int} {H:KH} {Q:PQ} (hwas:was.size<=1000000) (his:is.size<=1000000) (ho:InT was.size o) (hw:InT is.size w) (hm : -1000000<=mv/\mv<=1000000)
 (hq:Q (.bool (sameM was is mv o w)) H):Does (env Try.prog) 56 [.agg #[.string was,.string is],tkV o,tkV w,.int .i64 mv] H Q:=by
 obtain ⟨o1,o2,o3⟩:=o
 obtain ⟨w1,w2,w3⟩:=w
 obtain ⟨a1,a2⟩:=ho
 obtain ⟨b1,b2⟩:=hw
 simp only at a1 a2 b1 b2
 have e1:IntKind.wrap .i64 (((o2:Nat):Int)+o3)=((o2:Nat):Int)+o3:=wrap64 (by omega) (by omega)
 have e2:IntKind.wrap .i64 (((w2:Nat):Int)+w3)=((w2:Nat):Int)+w3:=wrap64 (by omega) (by omega)
 have e3:IntKind.wrap .i64 (((o2:Nat):Int)+mv)=((o2:Nat):Int)+mv:=wrap64 (by omega) (by omega)
 show Does (env Try.prog) 56 [.agg #[.string was,.string is],.agg #[.int .i64 o1,.int .i64 ((o2:Nat):Int),.int .i64 o3],.agg #[.int .i64 w1,.int .i64 ((w2:Nat):Int),.int .i64 w3],.int .i64 mv] H Q
 refine fn56 ok (c18 ok (by omega) hwas ⟨_,rfl,fun h=>?_,fun _=>?_⟩)
 .rw [decide_eq_true (by omega)] at h; cases h
 rw [e1,e2,e3]
 refine ⟨⟨by omega,by omega,by omega⟩,fun h=>⟨⟨by omega,by omega,by omega⟩,?_⟩,fun h=>?_⟩
 .unfold sameM at hq
  simp only at hq
  rw [h,Bool.true_and] at hq
  exact hq
 .unfold sameM at hq
  simp only at hq
  rw [h,Bool.false_and] at hq
  exact hq
def Tells (P:Program) (g:Nat) (k:List Value) (ps:List (Tok3 × Tok3)) (H:KH):Prop:=∀ (l:Nat) (Inv:List (Tok3 × Tok3)->KH->Prop) (H0:KH) (Q:PQ),
 (∀ r H1,Inv r H1->Le H H1)->
 (∀ o w r H1,Inv ((o,w) :: r) H1->DoesR (env P) l [tkV o,tkV w] H1 fun v H2=>(v = .bool true/\Inv r H2)\/(v = .bool false/\Q (.tuple #[]) H2))->
 (∀ H1,Inv [] H1->Q (.tuple #[]) H1)->Inv ps H0->Does (env P) g ([.func (.yield l) #[] #[]]++k) H0 Q
theorem c57 {kb ko k1b k1o:Nat} {a b:OA} {c d:Nat} {l m:List Tok3} {H:KH} (hl:kold H 3 a l.length=some (tkC l)) (hm:kold H 3 b m.length=some (tkC m))
 (h0:ld H ⟨kb,ko,none⟩ [.slice a l.length c]) (h1:ld H ⟨k1b,k1o,none⟩ [.slice b m.length d]) (hs:l.length<=1000000) :
 Tells Try.prog 57 [.pointer (some ⟨kb,ko,none⟩),.pointer (some ⟨k1b,k1o,none⟩)] (l.zip m) H:=by
 intro y Inv H0 Q hle hstep hend hinv0
 have hz:(l.zip m).length=min l.length m.length:=List.length_zip
 have g0:=hle _ _ hinv0
 refine fn57 ok ⟨a,_,c,g0.ld h0,b,_,d,g0.ld h1,?_⟩
 unfold vc57_L1
 refine ⟨fun n n4 n5 n6 n7 n8 x9 x10 H11=>n4=y/\n5=kb/\n6=ko/\n7=k1b/\n8=k1o/\x9=((min l.length m.length:Nat):Int)/\∃ i:Nat,x10=i/\i<=min l.length m.length/\n=min l.length m.length-i/\Inv ((l.zip m).drop i) H11,⟨_,rfl,rfl,rfl,rfl,rfl,rfl,rfl,by omega,0,rfl,by omega,rfl,hinv0⟩,?_⟩
 rintro n n4 n5 n6 n7 n8 x9 x10 H11 ⟨rfl,rfl,rfl,rfl,rfl,rfl,i,rfl,hi,rfl,hinv⟩
 refine ⟨fun hlt=>?_,fun hge=>?_⟩
 .have hlt:i<min l.length m.length:=by have:=of_decide_eq_true hlt; omega
  have e0:Int.toNat ((i:Nat):Int)=i:=by omega
  have hle1:=hle _ _ hinv
  obtain ⟨b0,o0,ha,r0⟩:=tk_ld3 (hle1.kold hl) (List.getElem?_eq_getElem (show i<l.length by omega))
  obtain ⟨b1,o1,hb,r1⟩:=tk_ld3 (hle1.kold hm) (List.getElem?_eq_getElem (show i<m.length by omega))
  rw [List.drop_eq_getElem_cons (by omega),List.getElem_zip] at hinv
  rw [e0]
  refine ⟨trivial,a,_,c,hle1.ld h0,⟨by omega,by omega⟩,b0,o0,ha,_,_,_,r0,b,_,d,hle1.ld h1,⟨by omega,by omega⟩,b1,o1,hb,_,_,_,r1,(hstep _ _ _ _ hinv).post fun v H3 hv=>?_⟩
  rcases hv with ⟨rfl,hv⟩ | ⟨rfl,hv⟩
  .exact ⟨true,rfl,trivial,fun h=>(by cases h),fun _=>⟨min l.length m.length-(i+1),by omega,rfl,rfl,rfl,rfl,rfl,rfl,rfl,rfl,i+1,by rw [wrap64 (by omega) (by omega)]; omega,by omega,rfl,hv⟩⟩
  .exact ⟨false,rfl,trivial,fun _=>hv,fun h=>by cases h⟩
 .have hge:i=min l.length m.length:=by have:=of_decide_eq_false hge; omega
  rw [List.drop_eq_nil_of_le (by omega)] at hinv
  exact hend _ hinv
theorem c58 {kb ko k1b k1o:Nat} {a b:OA} {c d:Nat} {l m:List Tok3} {H:KH} (hl:kold H 3 a l.length=some (tkC l)) (hm:kold H 3 b m.length=some (tkC m))
 (h0:ld H ⟨kb,ko,none⟩ [.slice a l.length c]) (h1:ld H ⟨k1b,k1o,none⟩ [.slice b m.length d]) (hs:l.length<=1000000) (hs':m.length<=1000000) :
 Tells Try.prog 58 [.pointer (some ⟨kb,ko,none⟩),.pointer (some ⟨k1b,k1o,none⟩)] (l.reverse.zip m.reverse) H:=by
 intro y Inv H0 Q hle hstep hend hinv0
 have hz:(l.reverse.zip m.reverse).length=min l.length m.length:=by rw [List.length_zip,List.length_reverse,List.length_reverse]
 have g0:=hle _ _ hinv0
 refine fn58 ok ⟨a,_,c,g0.ld h0,b,_,d,g0.ld h1,?_⟩
 unfold vc58_L1
 refine ⟨fun n n4 n5 n6 n7 n8 x9 x10 H11=>n4=y/\n5=kb/\n6=ko/\n7=k1b/\n8=k1o/\x9=((min l.length m.length:Nat):Int)/\∃ i:Nat,x10=i/\i<=min l.length m.length/\n=min l.length m.length-i/\Inv ((l.reverse.zip m.reverse).drop i) H11,⟨_,rfl,rfl,rfl,rfl,rfl,rfl,rfl,by omega,0,rfl,by omega,rfl,hinv0⟩,?_⟩
 rintro n n4 n5 n6 n7 n8 x9 x10 H11 ⟨rfl,rfl,rfl,rfl,rfl,rfl,i,rfl,hi,rfl,hinv⟩
 refine ⟨fun hlt=>?_,fun hge=>?_⟩
 .have hlt:i<min l.length m.length:=by have:=of_decide_eq_true hlt; omega
  have wl:IntKind.wrap .i64 (IntKind.wrap .i64 (((l.length:Nat):Int)-1)-((i:Nat):Int))=((l.length-1-i:Nat):Int):=by
   rw [wrap64 (x:=((l.length:Nat):Int)-1) (by omega) (by omega),wrap64 (by omega) (by omega)]; omega
  have wm:IntKind.wrap .i64 (IntKind.wrap .i64 (((m.length:Nat):Int)-1)-((i:Nat):Int))=((m.length-1-i:Nat):Int):=by
   rw [wrap64 (x:=((m.length:Nat):Int)-1) (by omega) (by omega),wrap64 (by omega) (by omega)]; omega
  have hle1:=hle _ _ hinv
  obtain ⟨b0,o0,ha,r0⟩:=tk_ld3 (hle1.kold hl) (List.getElem?_eq_getElem (show l.length-1-i<l.length by omega))
  obtain ⟨b1,o1,hb,r1⟩:=tk_ld3 (hle1.kold hm) (List.getElem?_eq_getElem (show m.length-1-i<m.length by omega))
  rw [List.drop_eq_getElem_cons (by omega),List.getElem_zip,List.getElem_reverse,List.getElem_reverse] at hinv
  refine ⟨trivial,a,_,c,hle1.ld h0,a,_,c,hle1.ld h0,?_⟩
  rw [wl,Int.toNat_natCast]
  refine ⟨⟨by omega,by omega⟩,b0,o0,ha,_,_,_,r0,b,_,d,hle1.ld h1,b,_,d,hle1.ld h1,?_⟩
  rw [wm,Int.toNat_natCast]
  refine ⟨⟨by omega,by omega⟩,b1,o1,hb,_,_,_,r1,(hstep _ _ _ _ hinv).post fun v H3 hv=>?_⟩
  rcases hv with ⟨rfl,hv⟩ | ⟨rfl,hv⟩
  .exact ⟨true,rfl,trivial,fun h=>(by cases h),fun _=>⟨min l.length m.length-(i+1),by omega,rfl,rfl,rfl,rfl,rfl,rfl,rfl,rfl,i+1,by rw [wrap64 (by omega) (by omega)]; omega,by omega,rfl,hv⟩⟩
  .exact ⟨false,rfl,trivial,fun _=>hv,fun h=>by cases h⟩
 .have hge:i=min l.length m.length:=by have:=of_decide_eq_false hge; omega
  rw [List.drop_eq_nil_of_le (by omega)] at hinv
  exact hend _ hinv
theorem c33 {was is:ByteArray} {mv:Int} {g:Nat} {k:List Value} {ps:List (Tok3 × Tok3)} {H:KH} {Q:PQ} (hwas:was.size<=1000000) (his:is.size<=1000000) (hm : -1000000<=mv/\mv<=1000000)
 (hin:FnIn (env Try.prog) g) (hp:∀ x∈ps,InT was.size x.1/\InT is.size x.2) (hlen:ps.length<=1000000) (ht:Tells Try.prog g k ps H)
 (hq:∀ H',Le H H'->Q (.int .i64 ((stayM was is mv ps:Nat):Int)) H'):Does (env Try.prog) 33 [.agg #[.string was,.string is],.func (.func g) #[] k.toArray,.int .i64 mv] H Q:=by
 refine fn33 ok fun n1 h1 n2 h2 n3 h3=>⟨⟨[.int .i64 0],rfl,⟨rfl,_,if_pos rfl,rd_mk [.int .i64 0] 0⟩⟩,⟨⟨_,if_pos rfl,rfl⟩⟩,hin,fun n6 L7 h6 hR=>?_⟩
 have n21:n2≠n1:=fun z=>by subst z; simp [KH.new] at h2
 have n32:n3≠n2:=fun z=>by subst z; simp [KH.new] at h3
 have n31:n3≠n1:=fun z=>by subst z; simp [KH.new,n21.symm] at h3
 have hH2:H n2=none:=by simpa [KH.new,n21] using h2
 have hH3:H n3=none:=by simpa [KH.new,n32,n31] using h3
 have p3:((((H.new n1 (mkEnt (Array.toList #[Value.string was,Value.string is]) 0)).new n2 (mkEnt [.int .i64 mv] 0)).new n3 (mkEnt [.int .i64 0] 0)).put ⟨n3,0,none⟩ [.int .i64 0]) n3=some ⟨wr (mkEnt [.int .i64 0] 0).cells 0 [.int .i64 0],1,0,none⟩:=by
  simp only [KH.put,KH.new,if_true,Option.map_some]; rfl
 have n63:n6≠n3:=fun z=>by rw [z,p3] at h6; cases h6
 have n62:n6≠n2:=fun z=>by subst z; simp [KH.put,KH.new,n32.symm] at h6
 have n61:n6≠n1:=fun z=>by subst z; simp [KH.put,KH.new,n31.symm,n21.symm] at h6
 have hH6:H n6=none:=by simpa [KH.put,KH.new,n63,n62,n61] using h6
 let Base:KH:=(H.new n1 (mkEnt [.string was,.string is] 0)).new n2 (mkEnt [.int .i64 mv] 0)
 have hBase:Le H Base:=(Le.new h1).trans (Le.new h2)
 have hB1:Base n1=some (mkEnt [.string was,.string is] 0):=by simp only [Base,KH.new]; rw [if_neg n21.symm]; exact if_pos trivial
 have hB2:Base n2=some (mkEnt [.int .i64 mv] 0):=if_pos rfl
 have hB3:Base n3=none:=by simp only [Base,KH.new]; rw [if_neg n32,if_neg n31]; exact hH3
 have hB6:Base n6=none:=by simp only [Base,KH.new]; rw [if_neg n62,if_neg n61]; exact hH6
 have lits:∀ {cs:List Value} {K:KH} {n:Nat},K n=some (mkEnt cs 0)->ld K ⟨n,0,none⟩ cs:=fun {cs K n} hk=>⟨rfl,_,hk,rd_mk cs 0⟩
 have hdel:∀ (K:KH) q e,q≠n6->K q=some e->(K.del n6) q=some e:=fun K q e z1 z2=>by simp only [KH.del]; rw [if_neg z1]; exact z2
 have hDel:∀ {K:KH},Le Base K->Le Base (K.del n6):=fun {K} h q e z=>hdel K q e (fun y=>by rw [y,hB6] at z; cases z) (h q e z)
 have hNew:∀ {K:KH} {e':Ent},Le Base K->Le Base (K.new n6 e'):=fun {K e'} h q e z=>by simp only [KH.new]; rw [if_neg (fun y=>by rw [y,hB6] at z; cases z)]; exact h q e z
 let Inv:List (Tok3 × Tok3)->KH->Prop:=fun r H1=>H1 n6=some (lpE L7 0 none)/\Le Base H1/\(∀ x∈r,x∈ps)/\∃ cnt:Nat,cnt+r.length=ps.length/\cnt+stayM was is mv r=stayM was is mv ps/\∃ e,H1 n3=some e/\wrB e=true/\rd e.cells 0 1=some [.int .i64 ((cnt:Nat):Int)]
 refine ht n6 Inv _ _ (fun r H1 hi=>hBase.trans hi.2.1) (fun o w r H1 hi=>?_) (fun H1 hi=>?_) ?_
 .obtain ⟨g1,g2,g3,cnt,g4,g5,e,e1,e2,e3⟩:=hi
  obtain ⟨ho,hw⟩:=hp (o,w) (g3 _ List.mem_cons_self)
  have hc3:ld (H1.del n6) ⟨n3,0,none⟩ [.int .i64 ((cnt:Nat):Int)]:=⟨rfl,e,hdel _ _ _ n63.symm e1,e3⟩
  have hll:cnt+1<=1000000:=by simp only [List.length_cons] at g4; omega
  have hstay:=stayM_le was is mv r
  refine hR o.1 ((o.2.1:Nat):Int) o.2.2 w.1 ((w.2.1:Nat):Int) w.2.2 H1 _ g1 ⟨was,is,lits (hDel g2 _ _ hB1),mv,lits (hDel g2 _ _ hB2),c56 ok hwas his ho hw hm ⟨_,rfl,fun hs h6'=>?_,fun hs=>?_⟩⟩
  .have hs:sameM was is mv o w=false:=by simpa using hs
   have hz:stayM was is mv ((o,w) :: r)=0:=by unfold stayM; rw [if_neg (by rw [hs]; simp)]
   rw [hz] at g5
   refine .inr ⟨rfl,.inr (.inr ⟨if_pos rfl,_,⟨rfl,e,?_,e3⟩,?_⟩)⟩
   .simp only [KH.del,KH.new]; rw [if_neg n63.symm,if_neg n63.symm,if_neg n63.symm]; exact e1
   .have:cnt=stayM was is mv ps:=by omega
    rw [this]
    exact hq _ (hBase.trans (hDel (hNew (hDel g2))))
  .have hs:sameM was is mv o w=true:=by simpa using hs
   have hz:stayM was is mv ((o,w) :: r)=stayM was is mv r+1:=by conv=>lhs; unfold stayM; rw [if_pos hs]
   rw [hz] at g5
   refine ⟨_,hc3,⟨[.int .i64 ((cnt:Nat):Int)],rfl,hc3⟩,⟨⟨e,hdel _ _ _ n63.symm e1,e2⟩⟩,fun h6'=>.inl ⟨rfl,if_pos rfl,?_,fun x hx=>g3 x (List.mem_cons_of_mem _ hx),cnt+1,by simp only [List.length_cons] at g4; omega,by omega,⟨wr e.cells 0 [.int .i64 ((cnt+1:Nat):Int)],e.len,e.unk,none⟩,?_,wrB_keep e2,?_⟩⟩
   .refine hNew fun q e' z=>?_
    exact put_ne (fun y=>by rw [show q=n3 from y,hB3] at z; cases z) (hDel g2 q e' z)
   .have hw1:IntKind.wrap .i64 (((cnt:Nat):Int)+1)=((cnt+1:Nat):Int):=by rw [wrap64 (by omega) (by omega)]; omega
    rw [hw1]
    simp only [KH.new]
    rw [if_neg n63.symm]
    simp only [KH.put,if_true,hdel _ _ _ n63.symm e1,Option.map_some]
   .have:=rdWr (e:=e.cells) (N:=1) (o:=0) (xs:=[]) (ys:=[.int .i64 ((cnt:Nat):Int)]) (zs:=[]) (vs:=[.int .i64 ((cnt+1:Nat):Int)]) (by simpa using e3) rfl rfl
    simpa using this
 .obtain ⟨g1,g2,g3,cnt,g4,g5,e,e1,e2,e3⟩:=hi
  refine .inl ⟨g1,_,⟨rfl,e,hdel _ _ _ n63.symm e1,e3⟩,?_⟩
  have:cnt=stayM was is mv ps:=by simpa [stayM] using g5
  rw [this]
  exact hq _ (hBase.trans (hDel g2))
 .refine ⟨if_pos rfl,hNew fun q e z=>?_,fun x hx=>hx,0,by omega,by omega,⟨wr (mkEnt [.int .i64 0] 0).cells 0 [.int .i64 0],1,0,none⟩,?_,rfl,?_⟩
  .exact put_ne (fun y=>by rw [show q=n3 from y,hB3] at z; cases z) (by simp only [KH.new]; rw [if_neg (fun y=>by rw [y,hB3] at z; cases z)]; exact z)
  .simp only [KH.new]; rw [if_neg n63.symm]; exact p3
  .rfl
end
end Va
end Go.Proofs.Ytlgpleiobieniaa
namespace Go.Ew
open Go.Ev Go.Deep
def StOk (N:Nat) (st:Int × Int × Bool):Prop:=st.2.2=true->∃ n:Nat,st.2.1=((n:Nat):Int)/\1<=n/\n<=N
theorem lg_len {g:Nat->Int} {L:Nat} {s:ByteArray} (hs:s.size<=1000000):∀ (f i p:Nat) (st:Int × Int × Bool),i+f=s.size->StOk s.size st->StOk s.size (lg g L s f i p st)
 | 0,_,_,st,_,h=>h
 | f+1,i,p,st,hi,h=>by
   unfold lg
   split
   .exact h
   .split
    .exact h
    .refine lg_len hs f (i+1) _ _ (by omega) ?_
     split
     .exact fun _=>⟨i+1,by show IntKind.wrap .i64 _=_; rw [wrap64 (by omega) (by omega)]; omega,by omega,by omega⟩
     .exact h
theorem fst_len {g:Nat->Int} {L:Nat} {w:ByteArray} (hs:w.size<=1000000) (h0:0<w.size):∃ n:Nat,(fstM g L w).2=((n:Nat):Int)/\1<=n/\n<=w.size:=by
 have h:StOk w.size (lgR g L w):=by
  unfold lgR
  split
  .exact fun q=>by cases q
  .exact lg_len hs _ _ _ _ (by omega) fun q=>by cases q
 unfold fstM
 split
 .rename_i q
  exact h q
 .exact ⟨1,rfl,by omega,by omega⟩
theorem splT_size {s p:ByteArray} {a n:Nat} (h:a+n<=s.size):(splT s a n p).size<=s.size+p.size:=by
 have e1:s.data.toList.length=s.size:=by rw [Array.length_toList]; rfl
 have e2:p.data.toList.length=p.size:=by rw [Array.length_toList]; rfl
 show (splT s a n p).data.size<=_
 unfold splT
 simp only [List.size_toArray,List.length_append,List.length_take,List.length_drop,e1,e2]
 omega
theorem Tks.uniq {F:Nat->Int × Int} {N:Nat}:∀ {i:Nat} {r r':List (Int × Nat × Int)},Tks F N i r->Tks F N i r'->r=r'
 | _,_,_,.nil,.nil=>rfl
 | _,_,_,.nil,.cons h1 _ _ _ _=>by omega
 | _,_,_,.cons h1 _ _ _ _,.nil=>by omega
 | _,_,_,.cons h1 h2 h3 h4 hr,.cons k1 k2 k3 k4 kr=>by
   rename_i n r n' r'
   have e:n=n':=by omega
   subst e
   rw [Tks.uniq hr kr]
theorem Tks.inT {F:Nat->Int × Int} {N:Nat}:∀ {i:Nat} {r:List (Int × Nat × Int)},Tks F N i r->∀ x∈r,InT N x
 | _,_,.nil=>fun x hx=>by cases hx
 | _,_,.cons h1 h2 h3 h4 hr=>fun x hx=>by
   rcases List.mem_cons.1 hx with rfl | hx
   .exact ⟨by show (0:Int)<=((_:Nat):Int); omega,by dsimp only; omega⟩
   .exact hr.inT x hx
theorem same_self (s:ByteArray) (x:Tok3):sameM s s 0 x x=true:=by
 unfold sameM
 have:strEq (cutT s x) (cutT s x)=true:=strEq_iff.2 rfl
 rw [this]
 simp
theorem stay_self (s:ByteArray):∀ l:List Tok3,stayM s s 0 (l.zip l)=l.length
 | []=>rfl
 | x :: r=>by
   have:=stay_self s r
   simp only [List.zip_cons_cons,stayM,same_self,if_true,this,List.length_cons]
theorem kept_self (s:ByteArray) (l:List Tok3):keptM s s l l=l.length:=by
 unfold keptM frontM endT
 rw [stay_self,List.drop_length]
 rfl
end Go.Ew
namespace Go.Proofs.Ytlgpleiobieniaa
open Go.Ev Go.Ew
namespace Va
section
variable (ok : EnvOk (env Try.prog))
include ok
theorem c20 {was is:ByteArray} {a b:OA} {c d:Nat} {l m:List Tok3} {H:KH} {Q:PQ} (hwas:was.size<=1000000) (his:is.size<=1000000) (hl:kold H 3 a l.length=some (tkC l)) (hm:kold H 3 b m.length=some (tkC m))
 (hol:SlOk H 3 a l.length c) (hom:SlOk H 3 b m.length d) (il:∀ x∈l,InT was.size x) (im:∀ x∈m,InT is.size x) (sl:l.length<=100000) (sm:m.length<=100000)
 (hq:∀ H',Le H H'->Q (.int .i64 ((keptM was is l m:Nat):Int)) H'):Does (env Try.prog) 20 [.agg #[.string was,.string is],.slice a l.length c,.slice b m.length d] H Q:=by
 have lits:∀ {cs:List Value} {K:KH} {n:Nat},K n=some (mkEnt cs 0)->ld K ⟨n,0,none⟩ cs:=fun {cs K n} hk=>⟨rfl,_,hk,rd_mk cs 0⟩
 have news:∀ {K:KH} {n1 n2:Nat} {e1 e2:Ent},K n1=none->(K.new n1 e1) n2=none->((K.new n1 e1).new n2 e2) n1=some e1/\((K.new n1 e1).new n2 e2) n2=some e2:=fun {K n1 n2 e1 e2} h1 h2=>by
  have:n2≠n1:=fun z=>by subst z; simp [KH.new] at h2
  exact ⟨by simp only [KH.new]; rw [if_neg this.symm]; exact if_pos trivial,if_pos rfl⟩
 refine fn20 ok ⟨trivial,fn34 ok fun n1 h1 n2 h2=>⟨57,[.pointer (some ⟨n1,0,none⟩),.pointer (some ⟨n2,0,none⟩)],rfl,⟨rfl,trivial⟩,?_⟩⟩
 have l2:=(Le.new (e:=mkEnt [.slice a l.length c] 0) h1).trans (Le.new (e:=mkEnt [.slice b m.length d] 0) h2)
 obtain ⟨m1,m2⟩:=news (e1:=mkEnt [.slice a l.length c] 0) (e2:=mkEnt [.slice b m.length d] 0) h1 h2
 have hzl:∀ {p q:List Tok3},(p.zip q).length<=p.length:=fun {p q}=>by rw [List.length_zip]; omega
 refine c33 ok hwas his (by omega) ⟨(by kernel_rfl)⟩ (fun x hx=>⟨il _ (List.of_mem_zip hx).1,im _ (List.of_mem_zip hx).2⟩) (by have:=hzl (p:=l) (q:=m); omega)
  (c57 ok (l2.kold hl) (l2.kold hm) (lits m1) (lits m2) (by omega)) fun H6 hl6=>⟨_,rfl,trivial,trivial,?_⟩
 have l6:=l2.trans hl6
 have hf:stayM was is 0 (l.zip m)<=min l.length m.length:=by have:=stayM_le was is 0 (l.zip m); rw [List.length_zip] at this; exact this
 have hfe:frontM was is l m=stayM was is 0 (l.zip m):=rfl
 generalize hg:stayM was is 0 (l.zip m)=f at hf hfe
 obtain ⟨a',c',e1,e2⟩:=cut_hi (hol.mono l6) (l6.kold hl) (show f<=l.length by omega)
 obtain ⟨b',d',e3,e4⟩:=cut_hi (hom.mono l6) (l6.kold hm) (show f<=m.length by omega)
 rw [tkC_drop] at e2 e4
 rw [<- List.length_drop] at e1 e2 e3 e4
 refine ⟨a',_,c',e1,b',_,d',e3,fn35 ok fun k1 g1 k2 g2=>⟨58,[.pointer (some ⟨k1,0,none⟩),.pointer (some ⟨k2,0,none⟩)],rfl,⟨rfl,⟨rfl,rfl⟩,rfl,rfl,⟨rfl,rfl⟩,rfl,rfl,rfl,trivial⟩,?_⟩⟩
 have l7:=(Le.new (e:=mkEnt [.slice a' (l.drop f).length c'] 0) g1).trans (Le.new (e:=mkEnt [.slice b' (m.drop f).length d'] 0) g2)
 obtain ⟨q1,q2⟩:=news (e1:=mkEnt [.slice a' (l.drop f).length c'] 0) (e2:=mkEnt [.slice b' (m.drop f).length d'] 0) g1 g2
 have w1:IntKind.wrap .i64 (((is.size:Nat):Int)-((was.size:Nat):Int))=((is.size:Nat):Int)-((was.size:Nat):Int):=wrap64 (by omega) (by omega)
 rw [w1]
 refine c33 ok hwas his (by omega) ⟨(by kernel_rfl)⟩ (fun x hx=>⟨il _ (List.mem_of_mem_drop (List.mem_reverse.1 (List.of_mem_zip hx).1)),im _ (List.mem_of_mem_drop (List.mem_reverse.1 (List.of_mem_zip hx).2))⟩) (by have:=hzl (p:=(l.drop f).reverse) (q:=(m.drop f).reverse); simp only [List.length_reverse,List.length_drop] at this; omega)
  (c58 ok (l7.kold e2) (l7.kold e4) (lits q1) (lits q2) (by rw [List.length_drop]; omega) (by rw [List.length_drop]; omega)) fun H8 hl8=>⟨_,rfl,trivial,?_⟩
 have hk:keptM was is l m=f+stayM was is (((is.size:Nat):Int)-((was.size:Nat):Int)) ((l.drop f).reverse.zip (m.drop f).reverse):=by unfold keptM endT; rw [hfe]
 have hle:=stayM_le was is (((is.size:Nat):Int)-((was.size:Nat):Int)) ((l.drop f).reverse.zip (m.drop f).reverse)
 have hle2:=hzl (p:=(l.drop f).reverse) (q:=(m.drop f).reverse)
 rw [List.length_reverse,List.length_drop] at hle2
 rw [wrap64 (by omega) (by omega)]
 have:=hq H8 (l6.trans (l7.trans hl8))
 rw [hk] at this
 rw [Int.natCast_add] at this
 exact this
theorem c8 {ra b:OA} {L rc d:Nat} {g:Nat->Int} {s p:ByteArray} {x n:Nat} {l:List Tok3} {H:KH} {Q:PQ} (hI:IC H ra (L*257) g) (hx:x+n<=s.size) (hs:s.size<=1000) (hp:p.size<=1000)
 (hF:∀ i,i<(splT s x n p).size->∃ k:Nat,(fstM g L (fromB (splT s x n p) i)).2=((k:Nat):Int)/\1<=k/\i+k<=(splT s x n p).size)
 (hl:kold H 3 b l.length=some (tkC l)) (hol:SlOk H 3 b l.length d) (il:∀ y∈l,InT s.size y) (sl:l.length<=100000)
 (hq:∀ m a' c' H',Tks (fun i=>fstM g L (fromB (splT s x n p) i)) (splT s x n p).size 0 m->Le H H'->kold H' 3 a' m.length=some (tkC m)->Q (.tuple #[.string (splT s x n p),.slice a' m.length c',.int .i64 ((keptM s (splT s x n p) l m:Nat):Int),.bool true]) H') :
 Does (env Try.prog) 8 [.slice ra L rc,.string s,.slice b l.length d,.agg #[.int .i64 ((x:Nat):Int),.int .i64 ((n:Nat):Int),.string p]] H Q:=by
 have hb:splB s ((x:Nat):Int) ((n:Nat):Int) p=true:=by
  unfold splB
  simp only [Bool.and_eq_true,decide_eq_true_eq,Nat.ble_eq]
  omega
 have hsz:=splT_size (p:=p) hx
 refine fn8 ok (c18 ok (by omega) (by omega) ⟨_,rfl,fun h=>?_,fun _=>does_spl (by kernel_rfl) (by kernel_rfl) (by kernel_rfl) hb ⟨_,rfl,?_⟩⟩)
 .rw [decide_eq_true (by omega)] at h; cases h
 rw [Int.toNat_natCast,Int.toNat_natCast]
 refine c9 ok hI (by omega) hF fun m a' c' ex H5 ht hle hG=>⟨_,_,_,rfl,?_⟩
 have:=ht.len
 exact c20 ok (by omega) (by omega) (hle.kold hl) hG.row (hol.mono hle) (hG.slok (by omega)) il ht.inT sl (by omega) fun H10 hl10=>⟨_,rfl,hq m a' c' H10 ht (hle.trans hl10) (hl10.kold hG.row)⟩
end
end Va
end Go.Proofs.Ytlgpleiobieniaa
namespace Go.Ew
open Go.Ev Go.Deep
def pF:List (List It):=[[(1,[(97,122)]),(5,[])],[(1,[(32,32)])]]
def rF:List ByteArray:=[ByteArray.mk #[91,97,45,122,93,43],ByteArray.mk #[32]]
theorem parsF:ParsE rF pF:=by unfold ParsE; decide +kernel
theorem hasF {w:ByteArray} {k j:Nat} (h:Has pF w k j):(k=0/\Mt w (.plus (.cls [(97,122)])) 0 j)\/(k=1/\Mt w (.cls [(32,32)]) 0 j):=by
 obtain ⟨l,h1,h2⟩:=h
 match k,h1 with
 | 0,h1=>cases h1; exact .inl ⟨rfl,h2⟩
 | 1,h1=>cases h1; exact .inr ⟨rfl,h2⟩
 | k+2,h1=>simp [pF] at h1
abbrev bA (l:List UInt8):ByteArray:=⟨l.toArray⟩
def letter (b:UInt8):Prop:=97<=(b.toNat:Int)/\(b.toNat:Int)<=122
theorem bA_size (l:List UInt8):(bA l).size=l.length:=by show l.toArray.size=_; simp
theorem byteAt_bA (l:List UInt8) (i:Nat):byteAt (bA l) i=((l[i]?).getD 0).toNat:=by unfold byteAt; simp
theorem clsF {w:ByteArray} {i j:Nat} (h:Mt w (.cls [(97,122)]) i j):j=i+1/\i<w.size/\97<=byteAt w i/\byteAt w i<=122:=by
 obtain ⟨h1,h2,r,hr,h3,h4⟩:=h
 simp at hr
 subst hr
 exact ⟨h1,h2,h3,h4⟩
theorem lettersMo {w:ByteArray} {n:Nat} (hn:n<=w.size) (h:∀ q,q<n->97<=byteAt w q/\byteAt w q<=122):∀ (f i:Nat),i+f=n->Mo (Mt w (.cls [(97,122)])) i n
 | 0,i,e=>by
   have:i=n:=by omega
   subst this; exact .none _
 | f+1,i,e=>.more i (i+1) n ⟨rfl,by omega,(97,122),by simp,(h i (by omega)).1,(h i (by omega)).2⟩ (lettersMo hn h f (i+1) (by omega))
theorem wordSpec {wl rest:List UInt8} (h0:wl≠[]) (hl:∀ b∈wl,letter b) (hr:∀ b,rest.head? = some b->b=32):LgSpec (Has pF (bA (wl++rest))) (bA (wl++rest)).size (((0:Nat):Int),((wl.length:Nat):Int),true):=by
 have hz:(bA (wl++rest)).size=wl.length+rest.length:=by rw [bA_size,List.length_append]
 have hw:1<=wl.length:=by cases wl with | nil=>exact absurd rfl h0 | cons a l=>simp
 have hb:∀ q,q<wl.length->97<=byteAt (bA (wl++rest)) q/\byteAt (bA (wl++rest)) q<=122:=fun q hq=>by
  rw [byteAt_bA,List.getElem?_append_left hq,List.getElem?_eq_getElem hq]
  exact hl _ (List.getElem_mem hq)
 have hend:∀ i j,i<=wl.length->Mt (bA (wl++rest)) (.cls [(97,122)]) i j->j<=wl.length:=fun i j hi hm=>by
  obtain ⟨h1,h2,h3,h4⟩:=clsF hm
  rcases Nat.lt_or_ge i wl.length with z | z
  .omega
  .have hi':i=wl.length:=by omega
   subst hi'
   rw [byteAt_bA,List.getElem?_append_right (Nat.le_refl _),Nat.sub_self] at h3
   cases rest with
   | nil =>
     have h2:wl.length<(bA (wl++([]:List UInt8))).size:=h2
     rw [hz] at h2
     simp at h2
   | cons b r =>
     have:=hr b rfl
     subst this
     simp at h3
 refine .yes 0 wl.length hw (by omega) ⟨_,rfl,⟨1,⟨rfl,by omega,(97,122),by simp,(hb 0 (by omega)).1,(hb 0 (by omega)).2⟩,lettersMo (by omega) hb (wl.length-1) 1 (by omega)⟩⟩ (fun k' j' z1 z2 hh=>?_) fun k' z hh=>by omega
 rcases hasF hh with ⟨_,i,h1,h2⟩ | ⟨_,h1,_⟩
 .have:=Mo.sz (fun i j q z=>hend i j z q) h2 (hend _ _ (Nat.zero_le _) h1)
  omega
 .omega
theorem blankSpec {rest:List UInt8}:LgSpec (Has pF (bA (32 :: rest))) (bA (32 :: rest)).size (((1:Nat):Int),((1:Nat):Int),true):=by
 have hz:(bA (32 :: rest)).size=rest.length+1:=by rw [bA_size]; rfl
 have hb:byteAt (bA (32 :: rest)) 0=32:=by rw [byteAt_bA]; rfl
 have no0:∀ j,¬ Mt (bA (32 :: rest)) (.plus (.cls [(97,122)])) 0 j:=fun j ⟨i,q,_⟩=>by
  have:=(clsF q).2.2.1
  rw [hb] at this
  omega
 refine .yes 1 1 (Nat.le_refl _) (by omega) ⟨_,rfl,⟨rfl,by omega,(32,32),by simp,by rw [hb]; simp,by rw [hb]; simp⟩⟩ (fun k' j' z1 z2 hh=>?_) fun k' z hh=>?_
 .rcases hasF hh with ⟨_,q⟩ | ⟨_,q,_⟩
  .exact no0 _ q
  .omega
 .rcases hasF hh with ⟨_,q⟩ | ⟨q,_⟩
  .exact no0 _ q
  .omega
theorem fromB_bA {l:List UInt8} {i:Nat}:fromB (bA l) i=bA (l.drop i):=by
 unfold fromB strCut
 apply ByteArray.ext
 apply Array.toList_inj.1
 rw [bA_size]
 simp only [ByteArray.data_extract,Array.toList_extract,Int.toNat_natCast,List.extract_eq_take_drop]
 rw [List.take_of_length_le (by simp)]
section
variable {ts : List ByteArray} {g : Nat -> Int} (hk : KsOk (nfaM pF) ts) (hC : RowsC (nfaM pF) ts g ts.length)
include hk hC
theorem specF {w:ByteArray} (hw:w.size<=1000000):LgSpec (Has pF w) w.size (lgR g ts.length w):=by
 obtain ⟨keys,h1,h2⟩:=hC.rows hk
 have e:lgR g ts.length w=nfaL (nfaM pF) w:=by rw [lgR_eq,<- h1,dLgR_nfa h2]
 rw [e]
 exact nfaL_spec (good_of parsF.par).2.2 (by decide) hw
theorem wordF {wl rest:List UInt8} (h0:wl≠[]) (hl:∀ b∈wl,letter b) (hr:∀ b,rest.head? = some b->b=32) (hs:(wl++rest).length<=1000):fstM g ts.length (bA (wl++rest))=(0,((wl.length:Nat):Int)):=by
 have e:=(wordSpec h0 hl hr).same (specF hk hC (w:=bA (wl++rest)) (by rw [bA_size]; omega))
 unfold fstM
 rw [<- e]
 rfl
theorem blankF {rest:List UInt8} (hs:(32 :: rest).length<=1000):fstM g ts.length (bA (32 :: rest))=(1,1):=by
 have e:=blankSpec.same (specF hk hC (w:=bA (32 :: rest)) (by rw [bA_size]; omega))
 unfold fstM
 rw [<- e]
 rfl
abbrev TkF (g:Nat->Int) (L:Nat) (l:List UInt8) (i:Nat) (r:List Tok3):Prop:=Tks (fun i=>fstM g L (fromB (bA l) i)) l.length i r
theorem tkWord {l wl rest:List UInt8} {i:Nat} {r:List Tok3} (hl:l.length<=1000) (hd:l.drop i=wl++rest) (h0:wl≠[]) (hlet:∀ b∈wl,letter b) (hr:∀ b,rest.head? = some b->b=32)
 (ht:TkF g ts.length l (i+wl.length) r):TkF g ts.length l i ((0,i,((wl.length:Nat):Int)) :: r):=by
 have hw:1<=wl.length:=by cases wl with | nil=>exact absurd rfl h0 | cons a l=>simp
 have hlen:l.length-i=wl.length+rest.length:=by rw [<- List.length_drop,hd,List.length_append]
 have e:fstM g ts.length (fromB (bA l) i)=(0,((wl.length:Nat):Int)):=by
  rw [fromB_bA,hd]
  exact wordF hk hC h0 hlet hr (by rw [List.length_append]; omega)
 have:=Tks.cons (F:=fun i=>fstM g ts.length (fromB (bA l) i)) (N:=l.length) (i:=i) (n:=wl.length) (by omega) (by rw [e]) hw (by omega) ht
 rw [e] at this
 exact this
theorem tkBlank {l rest:List UInt8} {i:Nat} {r:List Tok3} (hl:l.length<=1000) (hd:l.drop i=32 :: rest)
 (ht:TkF g ts.length l (i+1) r):TkF g ts.length l i ((1,i,1) :: r):=by
 have hlen:l.length-i=rest.length+1:=by rw [<- List.length_drop,hd]; rfl
 have e:fstM g ts.length (fromB (bA l) i)=(1,1):=by
  rw [fromB_bA,hd]
  exact blankF hk hC (by simp only [List.length_cons]; omega)
 have:=Tks.cons (F:=fun i=>fstM g ts.length (fromB (bA l) i)) (N:=l.length) (i:=i) (n:=1) (by omega) (by rw [e]; rfl) (Nat.le_refl _) (by omega) ht
 rw [e] at this
 exact this
end
def flA:Nat->List UInt8
 | 0=>[]
 | n+1=>97 :: 98 :: 32 :: flA n
def flB:Nat->List UInt8
 | 0=>[]
 | n+1=>32 :: 99 :: 100 :: flB n
def TA (i:Nat):Nat->List Tok3
 | 0=>[]
 | n+1=>(0,i,((2:Nat):Int)) :: (1,i+2,1) :: TA (i+3) n
def TB (i:Nat):Nat->List Tok3
 | 0=>[]
 | n+1=>(1,i,1) :: (0,i+1,((2:Nat):Int)) :: TB (i+3) n
theorem flA_len:∀ n,(flA n).length=3*n
 | 0=>rfl
 | n+1=>by simp only [flA,List.length_cons,flA_len n]; omega
theorem flB_len:∀ n,(flB n).length=3*n
 | 0=>rfl
 | n+1=>by simp only [flB,List.length_cons,flB_len n]; omega
theorem TA_len:∀ (n i:Nat),(TA i n).length=2*n
 | 0,_=>rfl
 | n+1,i=>by simp only [TA,List.length_cons,TA_len n]; omega
theorem TB_len:∀ (n i:Nat),(TB i n).length=2*n
 | 0,_=>rfl
 | n+1,i=>by simp only [TB,List.length_cons,TB_len n]; omega
theorem flA_add:∀ n,flA n++[97,98,32]=flA (n+1)
 | 0=>rfl
 | n+1=>by
   have:=flA_add n
   simp only [flA,List.cons_append] at this ⊢
   rw [this]
theorem flB_add:∀ n,flB n++[32,99,100]=flB (n+1)
 | 0=>rfl
 | n+1=>by
   have:=flB_add n
   simp only [flB,List.cons_append] at this ⊢
   rw [this]
theorem flB_head (n:Nat):∀ b,(flB n).head? = some b->b=32:=by
 cases n with
 | zero=>intro b h; cases h
 | succ n=>intro b h; simp [flB] at h; exact h.symm
theorem drop_step {l a r:List UInt8} {i:Nat} (h:l.drop i=a++r):l.drop (i+a.length)=r:=by
 rw [<- List.drop_drop,h,List.drop_left]
theorem let2:∀ b∈([97,98]:List UInt8),letter b:=by intro b hb; simp at hb; rcases hb with rfl | rfl<;>exact ⟨by decide,by decide⟩
theorem let3:∀ b∈([99,100]:List UInt8),letter b:=by intro b hb; simp at hb; rcases hb with rfl | rfl<;>exact ⟨by decide,by decide⟩
section
variable {ts : List ByteArray} {g : Nat -> Int} (hk : KsOk (nfaM pF) ts) (hC : RowsC (nfaM pF) ts g ts.length)
include hk hC
theorem tkB {l:List UInt8} (hl:l.length<=1000):∀ (m i:Nat),i<=l.length->l.drop i=flB m->TkF g ts.length l i (TB i m)
 | 0,i,hi,hd=>by
   have:i=l.length:=by
    have:(l.drop i).length=0:=by rw [hd]; rfl
    rw [List.length_drop] at this; omega
   subst this
   exact .nil
 | m+1,i,hi,hd=>by
   have hlen:l.length-i=3*(m+1):=by rw [<- List.length_drop,hd,flB_len]
   have d1:l.drop (i+1)=[99,100]++flB m:=drop_step (a:=[32]) hd
   have d2:l.drop (i+1+2)=flB m:=drop_step d1
   exact tkBlank hk hC hl hd (tkWord hk hC hl d1 (by simp) let3 (flB_head m) (tkB hl m (i+1+2) (by omega) d2))
theorem tkA {l rest:List UInt8} {r:List Tok3} (hl:l.length<=1000):∀ (n i:Nat),l.drop i=flA n++rest->TkF g ts.length l (i+3*n) r->TkF g ts.length l i (TA i n++r)
 | 0,i,hd,ht=>ht
 | n+1,i,hd,ht=>by
   have d0:l.drop i=[97,98]++(32 :: (flA n++rest)):=hd
   have d1:l.drop (i+2)=32 :: (flA n++rest):=drop_step d0
   have d2:l.drop (i+2+1)=flA n++rest:=drop_step (a:=[32]) d1
   have e:i+3*(n+1)=i+3+3*n:=by omega
   rw [e] at ht
   exact tkWord hk hC hl d0 (by simp) let2 (fun b h=>by simp at h; exact h.symm) (tkBlank hk hC hl d1 (tkA hl n (i+2+1) d2 ht))
theorem tkAll {n m:Nat} {wl:List UInt8} (h0:wl≠[]) (hlet:∀ b∈wl,letter b) (hl:(flA n++wl++flB m).length<=1000) :
 TkF g ts.length (flA n++wl++flB m) 0 (TA 0 n++(0,3*n,((wl.length:Nat):Int)) :: TB (3*n+wl.length) m):=by
 have hlen:(flA n++wl++flB m).length=3*n+wl.length+3*m:=by rw [List.length_append,List.length_append,flA_len,flB_len]
 have d0:(flA n++wl++flB m).drop (3*n)=wl++flB m:=by
  rw [List.append_assoc,<- flA_len n,List.drop_left]
 refine tkA hk hC (rest:=wl++flB m) hl n 0 (by rw [List.drop_zero,List.append_assoc]) ?_
 rw [Nat.zero_add]
 exact tkWord hk hC hl d0 h0 hlet (flB_head m) (tkB hk hC hl m _ (by omega) (drop_step d0))
end
theorem cutT_bA (l:List UInt8) (x:Tok3) (h:0<=x.2.2):(cutT (bA l) x).data.toList=(l.drop x.2.1).take x.2.2.toNat:=by
 unfold cutT strCut
 simp only [ByteArray.data_extract,Array.toList_extract,Int.toNat_natCast,List.extract_eq_take_drop]
 have:(((x.2.1:Nat):Int)+x.2.2).toNat-x.2.1=x.2.2.toNat:=by omega
 rw [this]
theorem cut_front {pre u1 u2:List UInt8} {x:Tok3} (h:0<=x.2.2) (hx:((x.2.1:Nat):Int)+x.2.2<=pre.length):cutT (bA (pre++u1)) x=cutT (bA (pre++u2)) x:=by
 apply ByteArray.ext
 apply Array.toList_inj.1
 rw [cutT_bA _ _ h,cutT_bA _ _ h,List.drop_append_of_le_length (by omega),List.drop_append_of_le_length (by omega),List.take_append_of_le_length (by rw [List.length_drop]; omega),List.take_append_of_le_length (by rw [List.length_drop]; omega)]
theorem cut_back {u1 u2 post:List UInt8} {k:Int} {o:Nat} {n:Int} (h:0<=n):cutT (bA (u1++post)) (k,u1.length+o,n)=cutT (bA (u2++post)) (k,u2.length+o,n):=by
 apply ByteArray.ext
 apply Array.toList_inj.1
 rw [cutT_bA _ _ h,cutT_bA _ _ h]
 simp only [<- List.drop_drop,List.drop_left]
theorem same_front {pre u1 u2:List UInt8} {x:Tok3} (h:0<=x.2.2) (hx:((x.2.1:Nat):Int)+x.2.2<=pre.length):sameM (bA (pre++u1)) (bA (pre++u2)) 0 x x=true:=by
 unfold sameM
 rw [cut_front (u2:=u2) h hx,strEq_iff.2 rfl]
 simp
theorem stay_app {was is:ByteArray} {mv:Int} {qs:List (Tok3 × Tok3)}:∀ {ps:List (Tok3 × Tok3)},(∀ p∈ps,sameM was is mv p.1 p.2=true)->stayM was is mv (ps++qs)=ps.length+stayM was is mv qs
 | [],_=>by simp
 | p :: r,h=>by
   rw [List.cons_append]
   show (if sameM was is mv p.1 p.2=true then stayM was is mv (r++qs)+1 else 0)=_
   rw [if_pos (h p (by simp)),stay_app (fun p hp=>h p (by simp [hp])),List.length_cons]
   omega
theorem TA_in:∀ (n i:Nat),∀ x∈TA i n,0<=x.2.2/\((x.2.1:Nat):Int)+x.2.2<=((i+3*n:Nat):Int)
 | 0,_,x,h=>by cases h
 | n+1,i,x,h=>by
   simp only [TA,List.mem_cons] at h
   rcases h with rfl | rfl | h
   .exact ⟨by simp,by simp only; omega⟩
   .exact ⟨by simp,by simp only; omega⟩
   .have:=TA_in n (i+3) x h
    exact ⟨this.1,by omega⟩
theorem zip_self_mem:∀ {l:List Tok3} {p:Tok3 × Tok3},p∈l.zip l->p.1=p.2/\p.1∈l
 | [],p,h=>by cases h
 | x :: r,p,h=>by
   simp only [List.zip_cons_cons,List.mem_cons] at h
   rcases h with rfl | h
   .exact ⟨rfl,by simp⟩
   .have:=zip_self_mem h
    exact ⟨this.1,by simp [this.2]⟩
def mvT (d:Nat) (x:Tok3):Tok3:=(x.1,x.2.1+d,x.2.2)
theorem TB_mv (d:Nat):∀ (m i:Nat),TB (i+d) m=(TB i m).map (mvT d)
 | 0,_=>rfl
 | m+1,i=>by
   have:=TB_mv d m (i+3)
   simp only [TB,List.map_cons,mvT]
   have e:i+d+3=i+3+d:=by omega
   have e2:i+d+1=i+1+d:=by omega
   rw [e,e2,this]
theorem zip_map_mem {d:Nat}:∀ {l:List Tok3} {p:Tok3 × Tok3},p∈l.zip (l.map (mvT d))->p.2=mvT d p.1/\p.1∈l
 | [],p,h=>by cases h
 | x :: r,p,h=>by
   simp only [List.map_cons,List.zip_cons_cons,List.mem_cons] at h
   rcases h with rfl | h
   .exact ⟨rfl,by simp⟩
   .have:=zip_map_mem h
    exact ⟨this.1,by simp [this.2]⟩
theorem TB_ge:∀ (m i:Nat),∀ x∈TB i m,0<=x.2.2/\i<=x.2.1
 | 0,_,x,h=>by cases h
 | m+1,i,x,h=>by
   simp only [TB,List.mem_cons] at h
   rcases h with rfl | rfl | h
   .exact ⟨by simp,by simp⟩
   .exact ⟨by simp,by simp⟩
   .have:=TB_ge m (i+3) x h
    exact ⟨this.1,by omega⟩
theorem kept_word {n m:Nat} {w1 w2:List UInt8} (h:w1.length<w2.length) :
 keptM (bA (flA n++w1++flB m)) (bA (flA n++w2++flB m)) (TA 0 n++(0,3*n,((w1.length:Nat):Int)) :: TB (3*n+w1.length) m) (TA 0 n++(0,3*n,((w2.length:Nat):Int)) :: TB (3*n+w2.length) m)=2*n+2*m:=by
 have hs1:(bA (flA n++w1++flB m)).size=3*n+w1.length+3*m:=by rw [bA_size,List.length_append,List.length_append,flA_len,flB_len]
 have hs2:(bA (flA n++w2++flB m)).size=3*n+w2.length+3*m:=by rw [bA_size,List.length_append,List.length_append,flA_len,flB_len]
 have nos:∀ mv,sameM (bA (flA n++w1++flB m)) (bA (flA n++w2++flB m)) mv (0,3*n,((w1.length:Nat):Int)) (0,3*n,((w2.length:Nat):Int))=false:=fun mv=>by
  unfold sameM
  have:decide (((w1.length:Nat):Int)=((w2.length:Nat):Int))=false:=decide_eq_false (by omega)
  simp only [this]
  simp
 have hf:frontM (bA (flA n++w1++flB m)) (bA (flA n++w2++flB m)) (TA 0 n++(0,3*n,((w1.length:Nat):Int)) :: TB (3*n+w1.length) m) (TA 0 n++(0,3*n,((w2.length:Nat):Int)) :: TB (3*n+w2.length) m)=2*n:=by
  unfold frontM
  rw [List.zip_append rfl,stay_app (fun p hp=>?_)]
  .rw [List.zip_cons_cons]
   have:(stayM (bA (flA n++w1++flB m)) (bA (flA n++w2++flB m)) 0 (((0,3*n,((w1.length:Nat):Int)),(0,3*n,((w2.length:Nat):Int))) :: (TB (3*n+w1.length) m).zip (TB (3*n+w2.length) m)))=0:=by
    unfold stayM
    rw [if_neg (by rw [nos]; simp)]
   rw [this,List.length_zip,TA_len]
   omega
  .obtain ⟨e,hm⟩:=zip_self_mem hp
   rw [<- e]
   have:=TA_in n 0 _ hm
   rw [List.append_assoc,List.append_assoc]
   exact same_front this.1 (by rw [flA_len]; omega)
 unfold keptM
 rw [hf]
 have dl:∀ r:List Tok3,(TA 0 n++r).drop (2*n)=r:=fun r=>by rw [<- TA_len n 0,List.drop_left]
 rw [dl,dl]
 unfold endT
 obtain ⟨d,hd⟩:∃ d,w2.length=w1.length+d:=⟨w2.length-w1.length,by omega⟩
 have e1:3*n+w2.length=3*n+w1.length+d:=by omega
 have hmv:(((bA (flA n++w2++flB m)).size:Nat):Int)-(((bA (flA n++w1++flB m)).size:Nat):Int)=((d:Nat):Int):=by rw [hs1,hs2]; omega
 rw [hmv,e1,TB_mv d m (3*n+w1.length),List.reverse_cons,List.reverse_cons,List.zip_append (by simp),stay_app (fun p hp=>?_)]
 .have:(stayM (bA (flA n++w1++flB m)) (bA (flA n++w2++flB m)) ((d:Nat):Int) ([(0,3*n,((w1.length:Nat):Int))].zip [(0,3*n,((w2.length:Nat):Int))]))=0:=by
   rw [List.zip_cons_cons]
   unfold stayM
   rw [if_neg (by rw [nos]; simp)]
  rw [this,List.length_zip,List.length_reverse,List.length_reverse,List.length_map,TB_len]
  omega
 .rw [<- List.map_reverse] at hp
  obtain ⟨e,hm⟩:=zip_map_mem hp
  rw [e]
  rw [List.mem_reverse] at hm
  have hge:=TB_ge m _ _ hm
  generalize p.1=y at hge ⊢
  obtain ⟨k,o,z⟩:=y
  simp only at hge
  obtain ⟨q,rfl⟩:∃ q,o=3*n+w1.length+q:=⟨o-(3*n+w1.length),by omega⟩
  unfold sameM mvT
  have l1:(flA n++w1).length=3*n+w1.length:=by rw [List.length_append,flA_len]
  have l2:(flA n++w2).length=3*n+w2.length:=by rw [List.length_append,flA_len]
  have hc:cutT (bA (flA n++w1++flB m)) (k,3*n+w1.length+q,z)=cutT (bA (flA n++w2++flB m)) (k,3*n+w1.length+q+d,z):=by
   have:=cut_back (u1:=flA n++w1) (u2:=flA n++w2) (post:=flB m) (k:=k) (o:=q) hge.1
   rw [l1,l2] at this
   have e3:3*n+w1.length+q+d=3*n+w2.length+q:=by omega
   rw [e3]
   exact this
  rw [hc,strEq_iff.2 rfl]
  simp
theorem bA_app (l m:List UInt8):bA l++bA m=bA (l++m):=by
 apply ByteArray.ext
 apply Array.toList_inj.1
 rw [ByteArray.data_append,Array.toList_append]
theorem bA_self (s:ByteArray):bA s.data.toList=s:=by
 apply ByteArray.ext
 rfl
theorem spl_word {n m:Nat} {p:List UInt8}:splT (bA (flA n++[120,121]++flB m)) (3*n+1) 0 (bA p)=bA (flA n++(120 :: p++[121])++flB m):=by
 unfold splT
 congr 2
 have e1:flA n++[120,121]++flB m=(flA n++[120])++(121 :: flB m):=by simp
 have e2:(flA n++[120]).length=3*n+1:=by rw [List.length_append,flA_len]; rfl
 show List.take (3*n+1) (flA n++[120,121]++flB m)++p++List.drop (3*n+1+0) (flA n++[120,121]++flB m)=_
 rw [e1,Nat.add_zero,<- e2,List.take_left,List.drop_left]
 simp
end Go.Ew
namespace Go.Proofs.Ytlgpleiobieniaa
open Go.Ev Go.Ew
namespace Va
section
variable (ok : EnvOk (env Try.prog))
include ok
omit ok in
theorem c6 {H:KH} {Q:PQ} (hq:Q (.bool true) H):Does (env Try.prog) 6 [] H Q:=does_true (by kernel_rfl) (by kernel_rfl) (by kernel_rfl) hq
theorem c3 {x y:Nat} {put:ByteArray} {H:KH} (hx:x<=255) (hy:y<=255):Does (env Try.prog) 3 [.int .u8 ((x:Nat):Int),.int .u8 ((y:Nat):Int),.string put] H fun v _=>v = .bool true:=by
 refine fn3 ok (c6 ⟨true,rfl,fun h=>(by cases h),fun _=>⟨fun _=>rfl,fun l0=>?_⟩⟩)
 have l0:put.size<=10:=by have:=of_decide_eq_false l0; omega
 unfold vc3_L7
 refine ⟨fun n3 x4 x5 s6 x7 H8=>x4=x/\x5=y/\s6=put/\H8=H/\∃ i:Nat,x7=i/\i<=put.size/\n3=put.size-i/\∀ q,q<i->97<=byteAt put q/\byteAt put q<=122,⟨_,rfl,rfl,rfl,rfl,0,rfl,Nat.zero_le _,rfl,fun q h=>absurd h (Nat.not_lt_zero _)⟩,?_⟩
 rintro n3 x4 x5 s6 x7 H8 ⟨rfl,rfl,rfl,rfl,i,rfl,hi,rfl,hall⟩
 refine ⟨fun hlt=>?_,fun hge=>?_⟩
 .have hlt:i<s6.size:=by have:=of_decide_eq_true hlt; omega
  have e0:Int.toNat ((i:Nat):Int)=i:=by omega
  rw [e0]
  refine ⟨⟨by omega,by omega⟩,fun _=>rfl,fun h1=>⟨⟨by omega,by omega⟩,fun _=>rfl,fun h2=>⟨s6.size-(i+1),by omega,rfl,rfl,rfl,rfl,i+1,by rw [wrap64 (by omega) (by omega)]; omega,by omega,rfl,fun q hq=>?_⟩⟩⟩
  have h1:=of_decide_eq_false h1
  have h2:=of_decide_eq_false h2
  by_cases e:q=i
  .subst e; exact ⟨by omega,by omega⟩
  .exact hall q (by omega)
 have hi':i=s6.size:=by have:=of_decide_eq_false hge; omega
 subst hi'
 obtain ⟨p,rfl⟩:∃ p,s6=bA p:=⟨s6.data.toList,(bA_self s6).symm⟩
 have hps:p.length<=10:=by rw [bA_size] at l0; exact l0
 have hpl:∀ b∈p,letter b:=fun b hb=>by
  obtain ⟨q,hq,rfl⟩:=List.getElem_of_mem hb
  have:=hall q (by rw [bA_size]; exact hq)
  rw [byteAt_bA,List.getElem?_eq_getElem hq] at this
  exact this
 intro n1 hn1
 generalize hE:(mkEnt [Value.string (ByteArray.mk #[105,100]),Value.string (ByteArray.mk #[91,97,45,122,93,43]),Value.bool false,Value.string (ByteArray.mk #[115,112]),Value.string (ByteArray.mk #[32]),Value.bool true] 0:Ent)=E0
 have hTk:TkR (H8.new n1 E0) rF (some ⟨n1,0,none⟩):=⟨[Value.string (ByteArray.mk #[105,100]),Value.string (ByteArray.mk #[91,97,45,122,93,43]),Value.bool false,Value.string (ByteArray.mk #[115,112]),Value.string (ByteArray.mk #[32]),Value.bool true],lit_kold (by rw [hE]; exact if_pos rfl) rfl,_,_,_,rfl,_,_,_,rfl,rfl⟩
 refine c7 ok (rs:=rF) hTk (by decide) (fun pats ra rc ts g H3 hEp hl3 hI hks hC=>⟨_,_,_,_,rfl,by decide,by decide,?_⟩) (fun pats H3 hEp hl3 hmany=>?_) fun hn=>absurd hn parsF.no
 .have hp:=hEp.same parsF
  subst hp
  have hF:∀ w:ByteArray,w.size<=1000->∀ i,i<w.size->∃ n:Nat,(fstM g ts.length (fromB w i)).2=((n:Nat):Int)/\1<=n/\i+n<=w.size:=fun w hw i hi=>by
   have hsi:=fromB_size (s:=w) (i:=i) (by omega)
   obtain ⟨n,q1,q2,q3⟩:=fst_len (g:=g) (L:=ts.length) (w:=fromB w i) (by omega) (by omega)
   exact ⟨n,q1,q2,by omega⟩
  obtain ⟨n,hn,hn9⟩:∃ n:Nat,IntKind.wrap .i64 (Int.tmod ((x:Nat):Int) 10)=((n:Nat):Int)/\n<=9:=by
   have e:Int.tmod ((x:Nat):Int) 10=((x%10:Nat):Int):=(Int.ofNat_tmod x 10).symm
   have:=Nat.mod_lt x (show 0<10 by decide)
   exact ⟨x%10,by rw [e,wrap64 (by omega) (by omega)],by omega⟩
  obtain ⟨m,hm,hm9⟩:∃ m:Nat,IntKind.wrap .i64 (Int.tmod ((y:Nat):Int) 10)=((m:Nat):Int)/\m<=9:=by
   have e:Int.tmod ((y:Nat):Int) 10=((y%10:Nat):Int):=(Int.ofNat_tmod y 10).symm
   have:=Nat.mod_lt y (show 0<10 by decide)
   exact ⟨y%10,by rw [e,wrap64 (by omega) (by omega)],by omega⟩
  unfold vc3_L5
  rw [hn,hm]
  refine ⟨fun n3 s4 a5 n6 n7 b8 x9 x10 s11 x12 H13=>s4=bA p/\a5=ra/\n6=ts.length/\b8=true/\x9=n/\x10=m/\H13=H3/\∃ i:Nat,x12=i/\i<=n/\n3=n-i/\s11=bA (flA i),⟨_,rfl,rfl,rfl,rfl,rfl,rfl,rfl,0,rfl,Nat.zero_le _,rfl,rfl⟩,?_⟩
  rintro n3 s4 a5 n6 n7 b8 x9 x10 s11 x12 H13 ⟨rfl,rfl,rfl,rfl,rfl,rfl,rfl,i,rfl,hi,rfl,rfl⟩
  have hsz:(bA (flA i)).size=3*i:=by rw [bA_size,flA_len]
  refine ⟨fun hlt=>?_,fun hge=>?_⟩
  .have hlt:i<n:=by have:=of_decide_eq_true hlt; omega
   refine ⟨by rw [hsz]; show 3*i+3<=_; omega,n-(i+1),by omega,rfl,rfl,rfl,rfl,rfl,rfl,rfl,i+1,by rw [wrap64 (by omega) (by omega)]; omega,by omega,rfl,?_⟩
   rw [<- flA_add]
   exact bA_app (flA i) [97,98,32]
  have hin:i=n:=by have:=of_decide_eq_false hge; omega
  subst hin
  refine ⟨by rw [hsz]; show 3*i+2<=_; omega,?_⟩
  unfold vc3_L4
  rw [hsz]
  refine ⟨fun n3 s4 a5' n6 n7' b8 x9 x10 s11 x12 x13 H14=>s4=bA p/\a5'=a5/\n6=ts.length/\b8=true/\x9=i/\x10=m/\H14=H13/\x12=((3*i:Nat):Int)/\∃ j:Nat,x13=j/\j<=m/\n3=m-j/\s11=bA (flA i++[120,121]++flB j),⟨_,rfl,rfl,rfl,rfl,rfl,rfl,rfl,rfl,0,rfl,Nat.zero_le _,rfl,?_⟩,?_⟩
  .rw [show flB 0=[] from rfl,List.append_nil]
   exact bA_app (flA i) [120,121]
  rintro n3 s4 a5' n6 n7' b8 x9 x10 s11 x12 x13 H14 ⟨rfl,rfl,rfl,rfl,rfl,rfl,rfl,rfl,j,rfl,hj,rfl,rfl⟩
  have hsz2:∀ j,(bA (flA i++[120,121]++flB j)).size=3*i+2+3*j:=fun j=>by rw [bA_size,List.length_append,List.length_append,flA_len,flB_len]; rfl
  refine ⟨fun hlt=>?_,fun hge=>?_⟩
  .have hlt:j<m:=by have:=of_decide_eq_true hlt; omega
   refine ⟨by rw [hsz2]; show 3*i+2+3*j+3<=_; omega,m-(j+1),by omega,rfl,rfl,rfl,rfl,rfl,rfl,rfl,rfl,j+1,by rw [wrap64 (by omega) (by omega)]; omega,by omega,rfl,?_⟩
   rw [<- flB_add,<- List.append_assoc]
   exact bA_app _ [32,99,100]
  have hjm:j=m:=by have:=of_decide_eq_false hge; omega
  subst hjm
  have hs:=hsz2 j
  refine c9 ok hI (by omega) (hF _ (by omega)) fun l la lc ex H15 htl hl15 hGl=>⟨_,_,_,rfl,?_⟩
  have hll:=htl.len
  have w1:IntKind.wrap .i64 (((3*i:Nat):Int)+1)=((3*i+1:Nat):Int):=by rw [wrap64 (by omega) (by omega)]; omega
  rw [w1]
  have hspl:=spl_word (n:=i) (m:=j) (p:=p)
  have hs2:(splT (bA (flA i++[120,121]++flB j)) (3*i+1) 0 (bA p)).size<=1000:=by
   have:=splT_size (s:=bA (flA i++[120,121]++flB j)) (p:=bA p) (a:=3*i+1) (n:=0) (by omega)
   omega
  refine c8 ok (hI.mono hl15) (x:=3*i+1) (n:=0) (p:=bA p) (by omega) (by omega) (by omega) (hF _ hs2) hGl.row (hGl.slok (by omega)) htl.inT (by omega) fun mm a2 c2 H30 htm hl30 hrow=>⟨_,_,_,_,_,_,rfl,?_⟩
  have hl1:(flA i++[120,121]++flB j).length<=1000:=by rw [<- bA_size]; omega
  have t1:=tkAll hks hC (n:=i) (m:=j) (wl:=[120,121]) (by simp) (by intro b hb; simp at hb; rcases hb with rfl | rfl<;>exact ⟨by decide,by decide⟩) hl1
  have t1:l=_:=htl.uniq (by rw [bA_size]; exact t1)
  have hl2:(flA i++(120 :: p++[121])++flB j).length<=1000:=by rw [<- bA_size,<- hspl]; exact hs2
  have t2:=tkAll hks hC (n:=i) (m:=j) (wl:=120 :: p++[121]) (by simp) (by
   intro b hb
   simp at hb
   rcases hb with rfl | hb | rfl
   .exact ⟨by decide,by decide⟩
   .exact hpl b hb
   .exact ⟨by decide,by decide⟩) hl2
  rw [hspl] at htm ⊢
  have t2:mm=_:=htm.uniq (by rw [bA_size]; exact t2)
  have hml:mm.length=2*i+2*j+1:=by rw [t2,List.length_append,List.length_cons,TA_len,TB_len]; omega
  have w2:IntKind.wrap .i64 (2*((i:Nat):Int))=((2*i:Nat):Int):=by rw [wrap64 (by omega) (by omega)]; omega
  have w3:IntKind.wrap .i64 (2*((j:Nat):Int))=((2*j:Nat):Int):=by rw [wrap64 (by omega) (by omega)]; omega
  have w4:IntKind.wrap .i64 (((2*i:Nat):Int)+((2*j:Nat):Int))=((2*i+2*j:Nat):Int):=by rw [wrap64 (by omega) (by omega)]; omega
  have w5:IntKind.wrap .i64 (((2*i+2*j:Nat):Int)+1)=((2*i+2*j+1:Nat):Int):=by rw [wrap64 (by omega) (by omega)]; omega
  rw [w2,w3,w4,w5]
  refine ⟨fun he=>⟨fun _=>⟨fun _=>⟨fun _=>?_,fun q=>?_⟩,fun q=>by cases q⟩,fun q=>by cases q⟩,fun he=>⟨fun _=>⟨fun _=>⟨fun _=>?_,fun q=>?_⟩,fun q=>by cases q⟩,fun q=>by cases q⟩⟩
  .rw [decide_eq_true (by omega)]
  .exfalso
   have hp0:p=[]:=by
    have:=strEq_iff.1 he
    have:=congrArg (fun s=>s.data.toList) this
    exact this
   subst hp0
   have:mm=l:=by rw [t1,t2]; rfl
   have q:=of_decide_eq_false q
   rw [this] at q hml
   have e3:flA i++(120 :: []++[121])++flB j=flA i++[120,121]++flB j:=rfl
   rw [e3,kept_self] at q
   omega
  .rw [decide_eq_true (by omega)]
  .exfalso
   have hp0:p≠[]:=fun z=>by
    subst z
    rw [strEq_iff.2 rfl] at he
    cases he
   have hp1:1<=p.length:=by cases p with | nil=>exact absurd rfl hp0 | cons a l=>simp
   have:=kept_word (n:=i) (m:=j) (w1:=[120,121]) (w2:=120 :: p++[121]) (by simp; omega)
   have q:=of_decide_eq_false q
   rw [t1,t2,this] at q
   exact q rfl
 .exfalso
  have hp:=hEp.same parsF
  subst hp
  have:clsAll pF<=8:=by decide
  omega
end
end Va
end Go.Proofs.Ytlgpleiobieniaa
namespace Go.Proofs.Ytlgpleiobieniaa
open Go.Shelf Go.RowKit
set_option maxHeartbeats 1000000 in
set_option maxRecDepth 100000 in
theorem ccUsed (b:Nat) (w:World) (h0:w.cell? ⟨b,0,none⟩=some (.pointer (some ⟨b,0,none⟩))) :
 Calls Try.prog 55 #[.pointer (some ⟨b,0,none⟩)] w fun e w'=>e = .returned (.tuple #[])/\w'=w:=by
 obtain ⟨j,hj,_⟩:∃ j,Try.prog.info? 105=some j/\j.size=2:=Option.map_eq_some_iff.1 (by kernel_rfl)
 go_enter Try.func55,Try.ntmps55
 go_wp2
 rw [Lib.run_neq_ptr_same w _ Try.underlying103 hj]
 go_wp2
 go_end0
 exact ⟨rfl,rfl⟩
set_option maxHeartbeats 1000000 in
set_option maxRecDepth 100000 in
theorem ccFresh (b:Nat) (w:World) (h0:w.cell? ⟨b,0,none⟩=some (.pointer none)) (hsh:w.shape? b=some (105,2)) (hfz:w.frozen? ⟨b,0,none⟩=false) :
 Calls Try.prog 55 #[.pointer (some ⟨b,0,none⟩)] w fun e w'=>e = .returned (.tuple #[])/\w'=w.setCell ⟨b,0,none⟩ (.pointer (some ⟨b,0,none⟩)):=by
 obtain ⟨j,hj,hjs⟩:∃ j,Try.prog.info? 105=some j/\j.size=2:=Option.map_eq_some_iff.1 (by kernel_rfl)
 go_enter Try.func55,Try.ntmps55
 go_wp2
 rw [Lib.run_to_unsafe w ⟨b,0,none⟩ Try.underlying103 Try.underlying166 hj (by rw [hjs]; decide) hsh (Nat.zero_lt_succ 1)]
 simp only [Result.andThen]
 rw [Oper.upon_value]
 go_wp2
 rw [run_callFunc_extern Try.func74 (by kernel_rfl) (by kernel_rfl) (by kernel_rfl) (e:=Extern.AbiNoEscape.same) (by kernel_rfl)]
 rw [Lib.run_noEscape]
 simp only [Result.andThen]
 rw [Oper.upon_value]
 go_wp2
 rw [Lib.run_from_unsafe w ⟨b,0,none⟩ Try.underlying166 Try.underlying103 hj hsh (by kernel_rfl)]
 simp only [Result.andThen]
 rw [Oper.upon_value]
 go_wp2
 go_end0
 exact ⟨rfl,rfl⟩
theorem ccAny (B b:Nat) (bs:List Value) (w:World) (h:Lib.IsBuilder 105 5 B b bs w) :
 Calls Try.prog 55 #[.pointer (some ⟨b,0,none⟩)] w fun e w'=>e = .returned (.tuple #[])/\(Lib.BuilderAt 105 5 B b (.pointer (some ⟨b,0,none⟩)) bs w'/\Below B w w'):=by
 rcases h with h | h
 .refine (ccFresh b w h.cell0 h.shape h.frozen0).mono ?_
  rintro e w' ⟨rfl,rfl⟩
  exact ⟨rfl,h.used _,(Below.refl B w).setCell (p:=⟨b,0,none⟩) h.1 _⟩
 .refine (ccUsed b w h.cell0).mono ?_
  rintro e w' ⟨rfl,rfl⟩
  exact ⟨rfl,h,Below.refl B _⟩
set_option maxHeartbeats 2000000 in
set_option maxRecDepth 100000 in
theorem wrStr (B b:Nat) (bs:List Value) (s:ByteArray) (w:World) (h:Lib.IsBuilder 105 5 B b bs w) (hlen:bs.length+s.size<=140737488355328) (hBw:B<=w.heap.size) :
 Calls Try.prog 31 #[.pointer (some ⟨b,0,none⟩),.string s] w fun e w'=>e = .returned (.tuple #[.int .i64 s.size,.nilIface])/\(Lib.BuilderAt 105 5 B b (.pointer (some ⟨b,0,none⟩)) (bs++Lib.strCells s) w'/\Below B w w'):=by
 obtain ⟨i0,hi,hz0,hz1,hz2⟩:=info_parts (show (Try.prog.info? 5).map (fun i=>(i.zero,i.size,i.bytes))=some (some (.int .u8 0),1,1) by kernel_rfl)
 go_enter Try.func31,Try.ntmps31
 go_wp2_with (go_at_call 55; refine (ccAny B b bs _ h).mono ?_)
 rintro e w1 ⟨rfl,h1,hb1⟩
 obtain ⟨hB,v,hbk,hown,hne⟩:=h1
 have c0:w1.cell? ⟨b,0,none⟩=some (.pointer (some ⟨b,0,none⟩)):=by rw [Lib.cell_of_heap hbk]; rfl
 have c1:w1.cell? ⟨b,1,none⟩=some v:=by rw [Lib.cell_of_heap hbk]; rfl
 go_wp2_with (at_builtin; refine Lib.wpList_append_own_string _ rfl _ _ 36 9 rfl B 5 i0 Try.underlying36 Try.underlying9 hi hz0 hz1 hz2 _ _ _ rfl hown s rfl ?c3 ?c4 ?c5 ?_)
 case c3=>unfold maxLen; omega
 case c4=>omega
 case c5=>have:=hb1.size; omega
 intro v' w2 hown' hgrow _
 have hlt:b<w1.heap.size:=by
  rcases Nat.lt_or_ge b w1.heap.size with h' | h'
  .exact h'
  .simp [Array.getElem?_eq_none h'] at hbk
 have hb2:w2.heap[b]? = some (.cells #[.pointer (some ⟨b,0,none⟩),v] 105 (0,0)):=by
  rw [hgrow.block b hlt (fun e=>hne e.symm)]
  exact hbk
 have d0:w2.cell? ⟨b,0,none⟩=some (.pointer (some ⟨b,0,none⟩)):=by rw [Lib.cell_of_heap hb2]; rfl
 have d1:w2.cell? ⟨b,1,none⟩=some v:=by rw [Lib.cell_of_heap hb2]; rfl
 have f1:w2.frozen? ⟨b,1,none⟩=false:=Lib.frozen_of_heap hb2 1
 obtain ⟨ao,n',cap,rfl⟩:∃ ao n' cap,v' = .slice ao n' cap:=by
  rcases hown'.2 with ⟨hv,_⟩ | ⟨g,cap,cur,hv,_⟩
  .exact ⟨_,_,_,hv⟩
  .exact ⟨_,_,_,hv⟩
 go_wp2
 go_ret2
 refine ⟨rfl,?_,?_⟩
 .exact Lib.BuilderAt.put (T:=105) (e:=5) hB hb2 (bs':=bs++Lib.strCells s) (by simpa [Lib.strCells_length] using hown') (by decide)
 .exact (hb1.grown hgrow (by have:=hb1.size; omega) (fun k hk=>(hown.lt k hk).1)).setCell (p:=⟨b,1,none⟩) hB _
def Try.lays169_ren:Go.Shelf.Ren:=⟨fun | 169=>32 | n=>n,fun | 70=>103 | 9=>9 | 0=>0 | 72=>105 | 37=>36 | 127=>136 | 3=>3 | 5=>5 | n=>n,fun | n=>n⟩
theorem Try.lays169:Go.Proofs.Lays.n169 Try.prog Try.lays169_ren:={
 mixed:=by kernel_rfl
 f169:=Try.func32.trans (congrArg some (by kernel_rfl))
 t0:=Try.underlying0
 a0:=Try.isAgg0
 z0:=Try.sizeOf0
 v0:=Try.zeroValue0
 t3:=Try.underlying3
 a3:=Try.isAgg3
 z3:=Try.sizeOf3
 v3:=Try.zeroValue3
 t9:=Try.underlying9
 a9:=Try.isAgg9
 z9:=Try.sizeOf9
 v9:=Try.zeroValue9
 t37:=Try.underlying36
 a37:=Try.isAgg36
 z37:=Try.sizeOf36
 v37:=Try.zeroValue36
 t70:=Try.underlying103
 a70:=Try.isAgg103
 z70:=Try.sizeOf103
 v70:=Try.zeroValue103
 t72:=Try.underlying105
 a72:=Try.isAgg105
 z72:=Try.sizeOf105
 v72:=Try.zeroValue105
 t127:=Try.underlying136
 a127:=Try.isAgg136
 z127:=Try.sizeOf136
 v127:=Try.zeroValue136 }
theorem Try.Builder_Extra_169:Builder.Extra Try.prog Try.lays169_ren:={
 sizeBuilder:=by kernel_rfl
 liesBuilder:=by kernel_rfl
 t5:=Try.underlying5
 a5:=Try.isAgg5
 z5:=Try.sizeOf5
 v5:=Try.zeroValue5
 infoByte:=by kernel_rfl
 cellsByte:=by kernel_rfl
 sizeByte:=by kernel_rfl
 neB5:=by decide }
theorem Try.Builder_String_any (B b:Nat) (l:List UInt8) (w:World) (h:Lib.IsBuilder 105 5 B b (Lib.byteCells l) w) (hBw:B<=w.heap.size) :
 Calls Try.prog 32 #[.pointer (some ⟨b,0,none⟩)] w fun e w'=>e = .returned (.string ⟨l.toArray⟩)/\Below B w w':=Any.Builder_String_any Try.lays169 Try.Builder_Extra_169 B b l w h hBw
open Go.Ev in
set_option maxHeartbeats 2000000 in
set_option maxRecDepth 100000 in
theorem spl (s:ByteArray) (a n:Int) (p:ByteArray) (w:World) (hb:splB s a n p=true) :
 Calls Try.prog 19 #[.string s,.agg #[.int .i64 a,.int .i64 n,.string p]] w fun e w'=>e = .returned (.string (splT s a.toNat n.toNat p))/\Below w.heap.size w w':=by
 unfold splB at hb
 simp only [Bool.and_eq_true,decide_eq_true_eq,Nat.ble_eq] at hb
 obtain ⟨⟨⟨ha,hn⟩,hs⟩,hz⟩:=hb
 go_enter Try.func19,Try.ntmps19
 have hB:(w.alloc (Obj.cells #[Value.int IntKind.i64 a,Value.int IntKind.i64 n,Value.string p] 34)).heap.size=w.heap.size+1:=by simp
 have h0:=Lib.fresh_isBuilder 105 5 (w.alloc (Obj.cells #[Value.int IntKind.i64 a,Value.int IntKind.i64 n,Value.string p] 34))
 rw [hB] at h0
 have hx:=(Below.heap_alloc (w.alloc (Obj.cells #[Value.int IntKind.i64 a,Value.int IntKind.i64 n,Value.string p] 34)) (Obj.cells #[Value.pointer none,Value.slice none 0 0] 105) w.heap.size (by rw [hB]; omega)).trans (heap_alloc_new w _)
 go_wp2_with (go_at_call 31; refine (wrStr (w.heap.size+1) (w.heap.size+1) [] _ _ h0 ?l1 ?b1).mono ?_)
 case l1=>simp only [List.length_nil,ByteArray.size_extract]; omega
 case b1=>simp
 rintro e w1 ⟨rfl,h1,hb1⟩
 have k0:w1.cell? ⟨w.heap.size,0,none⟩=some (.int .i64 a):=by rw [hb1.cell (by simp),Lib.cell_of_heap hx]; rfl
 have k1:w1.cell? ⟨w.heap.size,1,none⟩=some (.int .i64 n):=by rw [hb1.cell (by simp),Lib.cell_of_heap hx]; rfl
 have k2:w1.cell? ⟨w.heap.size,2,none⟩=some (.string p):=by rw [hb1.cell (by simp),Lib.cell_of_heap hx]; rfl
 have s1:=hb1.size
 simp only [List.nil_append] at h1
 go_wp2_with (go_at_call 31; refine (wrStr (w.heap.size+1) (w.heap.size+1) _ _ _ (.inr h1) ?l2 ?b2).mono ?_)
 case l2=>simp only [Lib.strCells_length,ByteArray.size_extract]; omega
 case b2=>simp at s1; omega
 rintro e w2 ⟨rfl,h2,hb2⟩
 have m0:w2.cell? ⟨w.heap.size,0,none⟩=some (.int .i64 a):=by rw [hb2.cell (by simp)]; exact k0
 have m1:w2.cell? ⟨w.heap.size,1,none⟩=some (.int .i64 n):=by rw [hb2.cell (by simp)]; exact k1
 have s2:=hb2.size
 go_wp2_with (go_at_call 31; refine (wrStr (w.heap.size+1) (w.heap.size+1) _ _ _ (.inr h2) ?l3 ?b3).mono ?_)
 case l3=>simp only [List.length_append,Lib.strCells_length,ByteArray.size_extract]; omega
 case b3=>simp at s1; omega
 rintro e w3 ⟨rfl,h3,hb3⟩
 have s3:=hb3.size
 have hc:Lib.strCells (s.extract 0 a.toNat)++Lib.strCells p++Lib.strCells (s.extract (a+n).toNat s.size)=Lib.byteCells (s.data.toList.take a.toNat++p.data.toList++s.data.toList.drop (a.toNat+n.toNat)):=by
  have e1:(a+n).toNat=a.toNat+n.toNat:=by omega
  rw [e1]
  simp only [Lib.strCells_eq,Lib.byteCells,List.map_append,ByteArray.data_extract,Array.toList_extract]
  congr 1
  have hl:s.data.toList.length=s.size:=by rw [Array.length_toList]; rfl
  rw [List.extract_eq_take_drop]
  rw [List.take_of_length_le (by rw [List.length_drop]; omega)]
 rw [hc] at h3
 go_wp2_with (go_at_call 32; refine (Try.Builder_String_any (w.heap.size+1) (w.heap.size+1) _ _ (.inr h3) ?b4).mono ?_)
 case b4=>simp at s1; omega
 rintro e w4 ⟨rfl,hb4⟩
 go_wp2
 go_ret
 refine ⟨congrArg (fun l:List UInt8=>Ending.returned (Value.string ⟨l.toArray⟩)) (List.append_assoc _ _ _).symm,?_⟩
 have b0:Below w.heap.size w ((w.alloc (Obj.cells #[Value.int IntKind.i64 a,Value.int IntKind.i64 n,Value.string p] 34)).alloc (Obj.cells #[Value.pointer none,Value.slice none 0 0] 105)) :=
  ((Below.refl w.heap.size w).alloc (Nat.le_refl _) _).alloc (by rw [hB]; omega) _
 exact b0.trans ((hb1.trans (hb2.trans (hb3.trans hb4))).mono (by omega))
open Go.Ev in
theorem splices:Splices Try.prog 19:=fun s a n p w hb=>⟨enters_of Try.func19 (by kernel_rfl) rfl _ _,spl s a n p w hb⟩
end Go.Proofs.Ytlgpleiobieniaa
namespace Go.Proofs.Ytlgpleiobieniaa
open Go.Ev Go.Ew Go.RowKit
namespace Va
theorem tys:tysOk Try.prog tyL:=by unfold tysOk; kernel_rfl
theorem mixed:Try.prog.follows .mixedOrders=true:=by kernel_rfl
theorem own:ownKnob Try.prog.godebug=none:=by kernel_rfl
theorem ext102:Extern.find Try.f102=some Extern.BytealgIndexByte.indexByte:=by kernel_rfl
theorem ext102':(Extern.findNext Try.f102).isSome=false:=by kernel_rfl
theorem name102 : (Try.f102.name == "runtime.NumGoroutine") = false := by kernel_rfl
theorem body102:Try.f102.body.isNone=true:=by kernel_rfl
theorem at102 (s:ByteArray) (c:Int) (w:World):(callFunc 102 #[.string s,.int .u8 c]).run Try.prog w = .ok (.value (.int .i64 (idxB s c))) w:=by
 have h1:Extern.findNext Try.f102=none:=by
  cases h:Extern.findNext Try.f102 with
  | none=>rfl
  | some x=>have:=ext102'; rw [h] at this; cases this
 simp only [callFunc,Sem.run_bind,run_program,Result.andThen_ok,Try.func102,name102,body102,Bool.false_eq_true,if_false,if_true,run_mark,h1,ext102]
 have hc:Extern.BytealgIndexByte.indexByte #[.string s,.int .u8 c]=(do
  let b <- Extern.Bytes.bytesOf (.string s)
  let c <- Extern.Bytes.asByte (.int .u8 c)
  match (List.range b.size).find? fun i=>b[i]! == c with
  | some i=>pure (goInt i)
  | none=>pure (goInt (-1))):=rfl
 rw [hc]
 simp only [Extern.Bytes.bytesOf,Extern.Bytes.asByte,pure_bind,idxB]
 cases (List.range s.size).find? fun i=>s[i]! == c.toNat.toUInt8<;>simp [goInt]
def fnB6:List Nat:=[6,7,8,9,14,15,16,17,18,20,21,24,25,26,27,28,29,30,33,34,35,36,37,41,42,43,44,45,46,47,48,49,50,51,52,53,54,56,57,58,61,62,63,64,65,66,67,68,69,70,71,72,73,76,77,78,79,80,81,82,83,84,87,88,89,90,91,92,93,94,95,96,97,99,100,101]
def xtB6:List (Nat × Nat):=[(102,3),(19,4)]
theorem fnsB6:(fnsOf Try.prog fnB6).all (fnOk (envOf Try.prog tyL fnB6 plL xtB6))=true:=by kernel_rfl
theorem okB6:EnvOk (envOf Try.prog tyL fnB6 plL xtB6):=env_ok4 tys mixed fnsB6 (fun g hg=>by simp [xtB6] at hg) (fun g hg=>by
 have e:g=102:=by simpa [xtB6] using hg
 subst e
 exact at102) (fun g hg=>by
 have e:g=19:=by simpa [xtB6] using hg
 subst e
 exact splices) (fun g hg=>by simp [xtB6] at hg)
theorem hereB6:(tget (envOf Try.prog tyL fnB6 plL xtB6).ff 6).isSome=true:=by kernel_rfl
set_option maxRecDepth 100000 in
theorem runsB6:saysTrue (callA (envOf Try.prog tyL fnB6 plL xtB6) (ev (envOf Try.prog tyL fnB6 plL xtB6) 100000) 6 [] ⟨.nil,0⟩)=true:=by kernel_rfl
theorem walkB6 (w:World):Calls Try.prog 6 #[] w fun e w'=>e = .returned (.bool true)/\Below w.heap.size w w':=by
 obtain ⟨fn,hfn⟩:=Option.isSome_iff_exists.1 hereB6
 exact law_true okB6 hfn (by unfold unkU; omega) runsB6 w
theorem nameB6 : (Try.f6.name == "runtime.NumGoroutine") = false := by kernel_rfl
theorem bodyB6:Try.f6.body.isNone=false:=by kernel_rfl
theorem enterB6 (w:World):(callFunc 6 #[]).run Try.prog w = .ok (.enter 6 #[]) w:=by
 simp only [callFunc,Sem.run_bind,run_program,Result.andThen_ok,Try.func6,nameB6,bodyB6,Bool.false_eq_true,if_false,Sem.run_pure]
theorem fns:(fnsOf Try.prog fnL).all (fnOk (env Try.prog))=true:=by kernel_rfl
theorem ok:EnvOk (env Try.prog):=env_ok4 tys mixed fns (fun g hg=>by simp [xtL] at hg) (fun g hg=>by
 have e:g=102:=by simpa [xtL] using hg
 subst e
 exact at102) (fun g hg=>by
 have e:g=19:=by simpa [xtL] using hg
 subst e
 exact splices) (fun g hg=>by
 have e:g=6:=by simpa [xtL] using hg
 subst e
 exact fun w=>⟨enterB6 w,walkB6 w⟩)
end Va
end Go.Proofs.Ytlgpleiobieniaa
namespace Go.Ew
open Go.Ev Go.Deep Go.RowKit
def treeOf {α:Type} (f:Nat->Option α):Nat->BT (Option α)
 | 0=>.nil
 | n+1=>tset (treeOf f n) n (f n)
theorem tree_get {α:Type} (f:Nat->Option α):∀ n k,tget (treeOf f n) k=if k<n then f k else none
 | 0,k=>by simp [treeOf,tget]
 | n+1,k=>by
   rw [treeOf,tget_tset,tree_get f n]
   by_cases e:n=k
   .subst e; simp
   .rw [if_neg e]
    by_cases h:k<n
    .rw [if_pos h,if_pos (by omega)]
    .rw [if_neg h,if_neg (by omega)]
def absV (N:Nat):Value->Option Value
 | .pointer (some a)=>if a.spot=none/\a.block<N then some (.pointer (some a)) else none
 | .slice (some a) l c=>if a.spot=none/\a.block<N/\c<unkU then some (.slice (some a) l c) else if l=0 then some vague else none
 | v=>if isPlain v=true then some v else none
def thW (N:Nat):Th:=fun n=>if n<N then some (n,0,0) else none
theorem absV_S {N:Nat} {v u:Value} (h:absV N v=some u):S (thW N) u v:=by
 unfold absV at h
 split at h
 .rename_i a
  split at h
  .rename_i hq
   cases h
   refine ⟨hq.1,(a.block,0,0),by simp [thW,hq.2],?_⟩
   obtain ⟨b,o,sp⟩:=a
   obtain ⟨h1,h2⟩:=hq
   cases h1
   simp
  .cases h
 .rename_i a l c
  split at h
  .rename_i hq
   cases h
   obtain ⟨b,o,sp⟩:=a
   obtain ⟨h1,h2,h3⟩:=hq
   cases h1
   exact .inl ⟨rfl,(b,0,0),c,by simp only at h2; simp [thW,h2],.inl ⟨h3,rfl⟩,by simp⟩
  .split at h
   .rename_i hl
    cases h
    subst hl
    exact .inr ⟨by simp,rfl,Nat.le_refl _,_,_,rfl⟩
   .cases h
 .split at h
  .rename_i hp
   cases h
   exact S_plain hp
  .cases h
def bsz (w:World) (b:Nat):Nat:=match w.heap[b]? with
 | some (.cells c _ _)=>c.size
 | _=>0
def blkOf (w:World) (b:Nat) (i:Nat):Option Value:=match w.cell? ⟨b,i,none⟩ with
 | some v=>if w.frozen? ⟨b,i,none⟩=false then absV w.heap.size v else none
 | none=>none
def entW (w:World) (b:Nat):Ent:=⟨treeOf (blkOf w b) (bsz w b),0,roU,none⟩
def KW (w:World):KH:=fun b=>if b<w.heap.size then some (entW w b) else none
def snapW (w:World):Hp:=⟨treeOf (fun b=>some (entW w b)) w.heap.size,w.heap.size⟩
theorem snap_get (w:World) (k:Nat):tget (snapW w).m k=KW w k:=tree_get _ _ _
theorem KW_some {w:World} {k:Nat} {e:Ent} (h:KW w k=some e):k<w.heap.size/\e=entW w k:=by
 unfold KW at h
 split at h
 .rename_i q; cases h; exact ⟨q,rfl⟩
 .cases h
theorem HR_snap [LG] (w:World):HR (thW w.heap.size) (snapW w) w:=by
 refine ⟨fun n e x he hx=>?_,fun n m e e' x y h1 h2 hne h3 h4=>?_,fun n hn=>?_⟩
 .rw [snap_get] at he
  obtain ⟨h1,rfl⟩:=KW_some he
  have hx':x=(n,0,0):=by
   simp only [thW,if_pos h1,Option.some.injEq] at hx
   exact hx.symm
  subst hx'
  refine ⟨hx,h1,fun i v hi=>?_,fun o ho=>(by cases ho),fun hu=>⟨by simp [entW],fun i hi=>by simp at hi⟩⟩
  simp only [entW,tree_get] at hi
  split at hi
  .unfold blkOf at hi
   simp only [Nat.zero_add]
   cases hc:w.cell? ⟨n,i,none⟩ with
   | none=>rw [hc] at hi; cases hi
   | some u =>
     rw [hc] at hi
     simp only at hi
     split at hi
     .rename_i hf
      exact ⟨⟨u,rfl,absV_S hi⟩,hf⟩
     .cases hi
  .cases hi
 .unfold thW at h3 h4
  split at h3
  .split at h4
   .cases h3; cases h4; exact hne
   .cases h4
  .cases h3
 .have:¬ n<w.heap.size:=by have:w.heap.size<=n:=hn; omega
  simp [thW,this]
theorem top {E:Env} (hE:EnvOk E) {g:Nat} {fn:Func} (hfn:tget E.ff g=some fn) {args cargs:List Value} {w:World} {v:Value} (hp:isPlain v=true) (hD:Does E g args (KW w) fun r _=>r=v) (ha:all2 (W (thW w.heap.size)) args cargs) :
 Calls E.P g cargs.toArray w fun e w'=>e = .returned v/\Below w.heap.size w w':=by
 letI:=lgOf E
 obtain ⟨r,h',H',⟨n,hrun⟩,hq,_⟩:=hD.run (snapW w) (fun k hk=>by
  rw [snap_get]
  have:¬ k<w.heap.size:=by have:w.heap.size<=k:=hk; omega
  simp [KW,this]) (fun k e q=>by rw [snap_get]; exact q)
 subst hq
 rcases (call_sound hE (lgOf_ok E) (ev_sound hE (lgOf_ok E) n) (snapW w) g args r h' (hrun n (Nat.le_refl _)) (thW w.heap.size) w cargs (HR_snap w) ha).1 hD.lt with ⟨_,h2⟩ | ⟨u,h1,_,_⟩
 .refine h2.mono fun e w' hq=>?_
  obtain ⟨θ',u,rfl,q1,q2,q3⟩:=hq
  rw [W_plain hp q3]
  refine ⟨rfl,q1.os,q1.tape,q1.output,q1.size,fun k hk=>q1.frame k hk fun n e x q hu _=>?_⟩
  rw [snap_get] at q
  obtain ⟨_,rfl⟩:=KW_some q
  exact absurd rfl hu
 .exfalso
  obtain ⟨f1,f2,c',f3,_⟩:=hE.ff g fn hfn
  have f2' : ¬ fn.name = "runtime.NumGoroutine" := fun e => by rw [e] at f2; simp at f2
  simp [callFunc,f1,f2',f3] at h1
section
variable {H : Type} {enc : TypeId × Value -> H} {P : Program} {w : World}
theorem trod_int {t:TypeId} {k:IntKind} {x:Value} {m:Nat} {y:DataW H × List MemPlace} (ht:P.underlying t=some (.int k)) (h:DataW.trod enc P w 0 (fun _=>true) true m t [x]=some y):∃ n,x = .int k n/\(Lit.int k n).wf=true/\y=(.lit (.int k n),[]):=by
 cases m with
 | zero=>simp [DataW.trod] at h
 | succ m =>
   unfold DataW.trod at h
   rw [ht] at h
   cases x<;>simp at h
   rename_i k' n
   obtain ⟨⟨rfl,h2⟩,h3⟩:=h
   exact ⟨n,rfl,h2,h3.symm⟩
theorem trodAll_below {W W':World} (hl:laidOutB P=true) (hb:Below W.heap.size W W'):∀ (ts:List TypeId) (vs:List Value) (ds:List (DataW H)) (ps:List MemPlace),(∀ t∈ts,P.readableRec t=true/\t<P.types.size)->
 DataW.TrodAll enc P W 0 (fun _=>true) true ts vs ds ps->(∀ x∈ps,x.block<W.heap.size)->DataW.TrodAll enc P W' 0 (fun b=>decide (b<W.heap.size)) true ts vs ds ps
 | [],[],[],ps,_,h,_=>h
 | t :: ts,v :: vs,d :: ds,ps,ht,⟨p,q,h1,h2,h3⟩,hlt=>by
   subst h3
   exact ⟨p,q,Below.trod hl (ht t (by simp)).1 (ht t (by simp)).2 h1 hb (fun x hx=>hlt x (by simp [hx])),trodAll_below hl hb ts vs ds q (fun t' h'=>ht t' (by simp [h'])) h2 (fun x hx=>hlt x (by simp [hx])),rfl⟩
 | [],_ :: _,_,_,_,h,_=>by cases h
 | [],[],_ :: _,_,_,h,_=>by cases h
 | _ :: _,[],_,_,_,h,_=>by cases h
 | _ :: _,_ :: _,[],_,_,h,_=>by cases h
theorem arg_byte {t:TypeId} {v:Value} {d:DataW H} {ps:List MemPlace} (ht:P.underlying t=some (.int .u8)) (h:DataW.Trod enc P w 0 (fun _=>true) true t v d ps) (hv:∃ n,v = .int .u8 n):∃ n:Nat,v = .int .u8 n/\n<=255:=by
 obtain ⟨m,rfl⟩:=hv
 obtain ⟨fuel,hd⟩:=h
 obtain ⟨z,e,hz,_⟩:=trod_int ht hd
 cases e
 simp only [Lit.wf,Bool.and_eq_true,decide_eq_true_eq] at hz
 have e1:IntKind.min .u8=0:=by decide
 have e2:IntKind.max .u8=255:=by decide
 exact ⟨m.toNat,by congr 1; omega,by omega⟩
end
end Go.Ew
