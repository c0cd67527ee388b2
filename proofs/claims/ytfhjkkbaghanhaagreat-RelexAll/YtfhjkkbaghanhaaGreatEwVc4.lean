import Derived.Test.YtfhjkkbaghanhaaGreatEwS4
import Derived.Test.YtfhjkkbaghanhaaGreatEwPt1
import Derived.Test.YtfhjkkbaghanhaaGreatEwDf1
set_option linter.unusedVariables false
set_option maxRecDepth 100000
namespace Go.Proofs.YtfhjkkbaghanhaaGreat
open Go.Ev Go.Ew
namespace Va
def W8 (P:Program):WE:=⟨env P,tupT,[],mkTab [(0,[.tmp 0 .slice,.tmp 3 .str,.tmp 4 (.int .i64)])],8⟩
def vc8_L1 (y1:OA) (y2 y3:Nat) (y4:KH) (y5:PQ):Prop :=
 (∃ (g:(Nat->OA->Nat->Nat->ByteArray->Int->KH->Prop)),(∃ (q:Nat),g q y1 y2 y3 (ByteArray.mk #[]) 0 y4)/\∀ (j:Nat) (h:(OA)) (c k:Nat) (e:ByteArray) (a:Int) (b:KH),g j h c k e a b->(decide (a<(c:Int))=true->∀ (d:Nat),((b d):(Option (Ent)))=none->((0:Int)<=a/\a<(c:Int))/\∃ (l m:Nat),h=some ⟨l,m,none⟩/\∃ (f:Int),ld (KH.new b d (mkEnt [.string (ByteArray.mk #[97]),.string (ByteArray.mk #[98]),.string (ByteArray.mk #[99]),.string (ByteArray.mk #[43]),.string (ByteArray.mk #[32]),.string (ByteArray.mk #[48]),.string (ByteArray.mk #[97,98]),.string (ByteArray.mk #[63])] 0)) ⟨l,m+((Int.toNat a)*1),none⟩ [(.int .u8 f)]/\(8:Int)≠0/\((0:Int)<=(Int.tmod f 8)/\((Int.tmod f 8):Int)<(8:Int))/\∃ (n o:Nat),((some ⟨d,0,none⟩):(OA))=(some ⟨n,o,none⟩)/\∃ (i:ByteArray),ld (KH.new b d (mkEnt [.string (ByteArray.mk #[97]),.string (ByteArray.mk #[98]),.string (ByteArray.mk #[99]),.string (ByteArray.mk #[43]),.string (ByteArray.mk #[32]),.string (ByteArray.mk #[48]),.string (ByteArray.mk #[97,98]),.string (ByteArray.mk #[63])] 0)) ⟨n,o+((Int.toNat (Int.tmod f 8))*1),none⟩ [(.string i)]/\(((ByteArray.size e)+(ByteArray.size i)):Nat)<=1000000/\∃ (p:Nat),(p:Nat)<j/\g p h c k (e++i) (IntKind.wrap .i64 (a+1)) (KH.new b d (mkEnt [.string (ByteArray.mk #[97]),.string (ByteArray.mk #[98]),.string (ByteArray.mk #[99]),.string (ByteArray.mk #[43]),.string (ByteArray.mk #[32]),.string (ByteArray.mk #[48]),.string (ByteArray.mk #[97,98]),.string (ByteArray.mk #[63])] 0)))/\(decide (a<(c:Int))=false->y5 (.string e) b))
def vc8 (p0:OA) (p0n p0c:Nat) (H:KH) (Q:PQ):Prop :=
 (vc8_L1 p0 p0n p0c H Q)
theorem fn8 (ok:EnvOk (env Tryz.prog)) {p0:OA} {p0n p0c:Nat} {H:KH} {Q:PQ} (h:vc8 p0 p0n p0c H Q):Does (env Tryz.prog) 8 [.slice p0 p0n p0c] H Q :=
 wFun_sound (W:=W8 Tryz.prog) ok.tt (blt_lt (by kernel_rfl)) (ff_of ok (by kernel_rfl) Tryz.func8) (Eq.mpr (by kernel_rfl) h)
def W24 (P:Program):WE:=⟨env P,tupT,[],mkTab [(2,[.tmp 0 .slice,.tmp 1 .str,.tmp 7 (.int .i64),.tmp 8 (.int .i64),.tmp 9 (.int .i64),.tmp 11 .slice,.tmp 12 (.int .i64)]),(0,[.tmp 0 .slice,.tmp 1 .str,.tmp 7 (.int .i64),.tmp 8 (.int .i64),.tmp 9 (.int .i64)])],24⟩
def vc24_L1 (y1:OA) (y2 y3:Nat) (y4:ByteArray) (y5 y6 y7:Int) (y8:OA) (y9 y10:Nat) (y11:KH) (y12:Nat) (y13:(Nat->(OA->(Nat->(Nat->(ByteArray->(Int->(Int->(Int->(KH->Prop)))))))))):Prop :=
 (∃ (e:(Nat->OA->Nat->Nat->ByteArray->Int->Int->Int->OA->Nat->Nat->Int->KH->Prop)),(∃ (u:Nat),e u y1 y2 y3 y4 y5 y6 y7 y8 y9 y10 (((ByteArray.size y4):Nat):Int) y11)/\∀ (l:Nat) (f:(OA)) (g h:Nat) (i:ByteArray) (m b c:Int) (j:(OA)) (k n:Nat) (a:Int),∀ (d:KH),e l f g h i m b c j k n a d->(decide (b<a)=true->((0:Int)<=a/\a<(k:Int))/\∃ (p q:Nat),j=some ⟨p,q,none⟩/\∃ (o:Bool),ld d ⟨p,q+((Int.toNat a)*1),none⟩ [(.bool o)]/\(o=true->∃ (r:Nat),(r:Nat)<l/\e r f g h i c a c j k n (IntKind.wrap .i64 (a-1)) d)/\(o=false->∃ (s:Nat),(s:Nat)<l/\e s f g h i m b c j k n (IntKind.wrap .i64 (a-1)) d))/\(decide (b<a)=false->∃ (t:Nat),(t:Nat)<y12/\y13 t f g h i m b (IntKind.wrap .i64 (c+1)) d))
def vc24_L3 (y1:OA) (y2 y3:Nat) (y4:ByteArray) (y5:KH) (y6:PQ):Prop :=
 (∃ (i:(Nat->OA->Nat->Nat->ByteArray->Int->Int->Int->KH->Prop)),(∃ (w:Nat),i w y1 y2 y3 y4 0 0 0 y5)/\∀ (l:Nat) (j:(OA)) (e m:Nat) (a:ByteArray) (k g b:Int) (c:KH),i l j e m a k g b c->(decide (b<(e:Int))=true->((0:Int)<=(IntKind.wrap .i64 ((((ByteArray.size a):Nat):Int)+1))/\((IntKind.wrap .i64 ((((ByteArray.size a):Nat):Int)+1)):Int)<=(IntKind.wrap .i64 ((((ByteArray.size a):Nat):Int)+1))/\((IntKind.wrap .i64 ((((ByteArray.size a):Nat):Int)+1)):Int)<=1000000)/\∀ (d:Nat),((c d):(Option (Ent)))=none->((0:Int)<=0/\(0:Int)<(((Int.toNat (IntKind.wrap .i64 ((((ByteArray.size a):Nat):Int)+1))):Nat):Int))/\∃ (f h:Nat),((some ⟨d,0,none⟩):(OA))=(some ⟨f,h,none⟩)/\(∃ (n:(List Value)),((List.length n):Nat)=(List.length [(Value.bool true)])/\ld (KH.new c d (mkEnt (lrep [(.bool false)] (Int.toNat (IntKind.wrap .i64 ((((ByteArray.size a):Nat):Int)+1)))) 0)) ⟨f,h+((Int.toNat 0)*1),none⟩ n)/\KH.may (KH.new c d (mkEnt (lrep [(.bool false)] (Int.toNat (IntKind.wrap .i64 ((((ByteArray.size a):Nat):Int)+1)))) 0)) f/\((0:Int)<=b/\b<(e:Int))/\∃ (o p:Nat),j=some ⟨o,p,none⟩/\∃ (q:(OA)) (r s:Nat),ld (KH.put (KH.new c d (mkEnt (lrep [(.bool false)] (Int.toNat (IntKind.wrap .i64 ((((ByteArray.size a):Nat):Int)+1)))) 0)) ⟨f,h+((Int.toNat 0)*1),none⟩ [(.bool true)]) ⟨o,p+((Int.toNat b)*1),none⟩ [(.slice q r s)]/\Does (env Tryz.prog) 38 [.slice q r s,.string a,.slice (some ⟨d,0,none⟩) (Int.toNat (IntKind.wrap .i64 ((((ByteArray.size a):Nat):Int)+1))) (Int.toNat (IntKind.wrap .i64 ((((ByteArray.size a):Nat):Int)+1)))] (KH.put (KH.new c d (mkEnt (lrep [(.bool false)] (Int.toNat (IntKind.wrap .i64 ((((ByteArray.size a):Nat):Int)+1)))) 0)) ⟨f,h+((Int.toNat 0)*1),none⟩ [(.bool true)]) fun x y=>∃ (t:(OA)) (u v:Nat),x=(.slice t u v)/\vc24_L1 j e m a k g b t u v y l i)/\(decide (b<(e:Int))=false->y6 (.tuple #[.int .i64 k,.int .i64 g,.bool (decide ((0:Int)<g))]) c))
def vc24 (p0:OA) (p0n p0c:Nat) (p1:ByteArray) (H:KH) (Q:PQ):Prop :=
 (vc24_L3 p0 p0n p0c p1 H Q)
theorem fn24 (ok:EnvOk (env Tryz.prog)) {p0:OA} {p0n p0c:Nat} {p1:ByteArray} {H:KH} {Q:PQ} (h:vc24 p0 p0n p0c p1 H Q):Does (env Tryz.prog) 24 [.slice p0 p0n p0c,.string p1] H Q :=
 wFun_sound (W:=W24 Tryz.prog) ok.tt (blt_lt (by kernel_rfl)) (ff_of ok (by kernel_rfl) Tryz.func24) (Eq.mpr (by kernel_rfl) h)
def W7 (P:Program):WE:=⟨env P,tupT,[],mkTab [(0,[.tmp 0 .ptr,.tmp 3 .slice,.tmp 4 (.int .i64)])],7⟩
def vc7_L2 (y1 y2:Nat) (y3:Int) (y4:KH) (y5:PQ):Prop :=
 (∃ (l:(Nat->Nat->Nat->OA->Nat->Nat->Int->KH->Prop)),(∃ (ah:Nat),(none:(Option Nat))=none/\l ah y1 y2 none 0 0 (IntKind.wrap .i64 (y3+1)) y4)/\∀ (o m n:Nat) (e:(OA)) (a f:Nat) (j:Int) (c:KH),l o m n e a f j c->(decide ((0:Int)<j)=true->True/\∀ (b:Nat),((c b):(Option (Ent)))=none->∃ (p:(List Value)) (d:(List (UInt8))),((kold (KH.new c b (mkEnt [(.int .u8 (IntKind.wrap .u8 (IntKind.wrap .i64 (97+(a:Int)))))] 0)) 1 (some ⟨b,0,none⟩) 1):(Option (List Value)))=(some p)/\((bytesOfCells p):(Option (List (UInt8))))=(some d)/\(((ByteArray.size (ByteArray.mk #[116]))+(ByteArray.size (ByteArray.mk (List.toArray d)))):Nat)<=1000000/\Does (env Tryz.prog) 19 [(.pointer (some ⟨m,n,none⟩))] (hideK (KH.new c b (mkEnt [(.int .u8 (IntKind.wrap .u8 (IntKind.wrap .i64 (97+(a:Int)))))] 0)) [b]) fun ai g=>∃ (k:ByteArray),ai=(.string k)/\(((g b):(Option (Ent)))=none->(((.slice e a f):Value)=(.slice e a f)/\((.slice e a f):Value)=(.slice e a f)/\((.int .i64 (a:Int)):Value)=(.int .i64 (a:Int))/\((.int .i64 (IntKind.wrap .i64 (97+(a:Int)))):Value)=(.int .i64 (IntKind.wrap .i64 (97+(a:Int))))/\((.int .u8 (IntKind.wrap .u8 (IntKind.wrap .i64 (97+(a:Int))))):Value)=(.int .u8 (IntKind.wrap .u8 (IntKind.wrap .i64 (97+(a:Int)))))/\(∃ (q:(List Value)) (r:(List (UInt8))),((kold (backK (KH.new c b (mkEnt [(.int .u8 (IntKind.wrap .u8 (IntKind.wrap .i64 (97+(a:Int)))))] 0)) g [b]) 1 (some ⟨b,0,none⟩) 1):(Option (List Value)))=(some q)/\((bytesOfCells q):(Option (List (UInt8))))=(some r)/\((.string (ByteArray.mk (List.toArray r))):Value)=(.string (ByteArray.mk (List.toArray d))))/\((((ByteArray.size (ByteArray.mk #[116]))+(ByteArray.size (ByteArray.mk (List.toArray d)))):Nat)<=1000000/\((.string ((ByteArray.mk #[116])++(ByteArray.mk (List.toArray d)))):Value)=(.string ((ByteArray.mk #[116])++(ByteArray.mk (List.toArray d)))))/\True)/\∀ (h:Nat),(((backK (KH.new c b (mkEnt [(.int .u8 (IntKind.wrap .u8 (IntKind.wrap .i64 (97+(a:Int)))))] 0)) g [b]) h):(Option (Ent)))=none->∀ (s:Nat),(((KH.new (backK (KH.new c b (mkEnt [(.int .u8 (IntKind.wrap .u8 (IntKind.wrap .i64 (97+(a:Int)))))] 0)) g [b]) h (mkEnt [.string ((ByteArray.mk #[116])++(ByteArray.mk (List.toArray d))),.string k,.bool false] 0)) s):(Option (Ent)))=none->∃ (t:Nat) (u:(List Value)),((knew (KH.new (backK (KH.new c b (mkEnt [(.int .u8 (IntKind.wrap .u8 (IntKind.wrap .i64 (97+(a:Int)))))] 0)) g [b]) h (mkEnt [.string ((ByteArray.mk #[116])++(ByteArray.mk (List.toArray d))),.string k,.bool false] 0)) ⟨3,40,true,3,0,0,[(0,1),(1,1),(2,1)],[.string (ByteArray.mk #[]),.string (ByteArray.mk #[]),.bool false]⟩ (.slice (some ⟨h,0,none⟩) 1 1)):(Option (Nat × (List Value))))=(some (t,u))/\∃ (v:(OA)) (w x:Nat) (y:KH),((kappend (KH.new (backK (KH.new c b (mkEnt [(.int .u8 (IntKind.wrap .u8 (IntKind.wrap .i64 (97+(a:Int)))))] 0)) g [b]) h (mkEnt [.string ((ByteArray.mk #[116])++(ByteArray.mk (List.toArray d))),.string k,.bool false] 0)) s ⟨3,40,true,3,0,0,[(0,1),(1,1),(2,1)],[.string (ByteArray.mk #[]),.string (ByteArray.mk #[]),.bool false]⟩ e a f t u):(Option (Value × KH)))=(some (.slice v w x,y))/\True/\∃ (z:Nat),(z:Nat)<o/\(none:(Option Nat))=none/\l z m n v w x (IntKind.wrap .i64 (j-1)) y))/\(decide ((0:Int)<j)=false->∀ (i:Nat),((c i):(Option (Ent)))=none->∀ (aa:Nat),(((KH.new c i (mkEnt [.string (ByteArray.mk #[98,108,97,110,107]),.string (ByteArray.mk #[32,43]),.bool true] 0)) aa):(Option (Ent)))=none->∃ (ab:Nat) (ac:(List Value)),((knew (KH.new c i (mkEnt [.string (ByteArray.mk #[98,108,97,110,107]),.string (ByteArray.mk #[32,43]),.bool true] 0)) ⟨3,40,true,3,0,0,[(0,1),(1,1),(2,1)],[.string (ByteArray.mk #[]),.string (ByteArray.mk #[]),.bool false]⟩ (.slice (some ⟨i,0,none⟩) 1 1)):(Option (Nat × (List Value))))=(some (ab,ac))/\∃ (ad:(OA)) (ae af:Nat) (ag:KH),((kappend (KH.new c i (mkEnt [.string (ByteArray.mk #[98,108,97,110,107]),.string (ByteArray.mk #[32,43]),.bool true] 0)) aa ⟨3,40,true,3,0,0,[(0,1),(1,1),(2,1)],[.string (ByteArray.mk #[]),.string (ByteArray.mk #[]),.bool false]⟩ e a f ab ac):(Option (Value × KH)))=(some (.slice ad ae af,ag))/\y5 (.slice ad ae af) ag))
def vc7 (p0b p0o:Nat) (H:KH) (Q:PQ):Prop :=
 Does (env Tryz.prog) 18 [.pointer (some ⟨p0b,p0o,none⟩),.int .i64 3] H fun b c=>∃ (a:Int),b=(.int .i64 a)/\vc7_L2 p0b p0o a c Q
theorem fn7 (ok:EnvOk (env Tryz.prog)) {p0b p0o:Nat} {H:KH} {Q:PQ} (h:vc7 p0b p0o H Q):Does (env Tryz.prog) 7 [.pointer (some ⟨p0b,p0o,none⟩)] H Q :=
 wFun_sound (W:=W7 Tryz.prog) ok.tt (blt_lt (by kernel_rfl)) (ff_of ok (by kernel_rfl) Tryz.func7) (Eq.mpr (by kernel_rfl) h)
def W9 (P:Program):WE:=⟨env P,tupT,[],mkTab [(0,[.tmp 0 .slice,.tmp 4 .slice,.tmp 5 (.int .i64)])],9⟩
def vc9_L2 (y1:OA) (y2 y3:Nat) (y4:KH) (y5:PQ):Prop :=
 (∃ (i:(Nat->OA->Nat->Nat->OA->Nat->Nat->Int->KH->Prop)),(∃ (ab:Nat),i ab y1 y2 y3 none 0 0 0 y4)/\∀ (o:Nat) (j:(OA)) (b p:Nat) (k:(OA)) (l m:Nat) (a:Int) (e:KH),i o j b p k l m a e->(decide (a<(b:Int))=true->((0:Int)<=a/\a<(b:Int))/\∃ (q r:Nat),j=some ⟨q,r,none⟩/\(none:(Option Nat))=none/\∃ (s:ByteArray),ld e ⟨q,(r+((Int.toNat a)*3))+1,none⟩ [(.string s)]/\Does (env Tryz.prog) 20 [(.string s)] e fun ac d=>∃ (f:(OA)) (g h:Nat) (n:Bool),ac=(.tuple #[.slice f g h,.bool n])/\((!n)=true->y5 (.tuple #[.slice none 0 0,.bool false]) d)/\((!n)=false->∀ (c:Nat),((d c):(Option (Ent)))=none->∀ (t:Nat),(((KH.new d c (mkEnt [(.slice f g h)] 0)) t):(Option (Ent)))=none->∃ (u:Nat) (v:(List Value)),((knew (KH.new d c (mkEnt [(.slice f g h)] 0)) ⟨1,24,false,1,65,0,[],[(.slice none 0 0)]⟩ (.slice (some ⟨c,0,none⟩) 1 1)):(Option (Nat × (List Value))))=(some (u,v))/\∃ (w:(OA)) (x y:Nat) (z:KH),((kappend (KH.new d c (mkEnt [(.slice f g h)] 0)) t ⟨1,24,false,1,65,0,[],[(.slice none 0 0)]⟩ k l m u v):(Option (Value × KH)))=(some (.slice w x y,z))/\∃ (aa:Nat),(aa:Nat)<o/\i aa j b p w x y (IntKind.wrap .i64 (a+1)) z))/\(decide (a<(b:Int))=false->y5 (.tuple #[.slice k l m,.bool true]) e))
def vc9 (p0:OA) (p0n p0c:Nat) (H:KH) (Q:PQ):Prop :=
 (vc9_L2 p0 p0n p0c H Q)
theorem fn9 (ok:EnvOk (env Tryz.prog)) {p0:OA} {p0n p0c:Nat} {H:KH} {Q:PQ} (h:vc9 p0 p0n p0c H Q):Does (env Tryz.prog) 9 [.slice p0 p0n p0c] H Q :=
 wFun_sound (W:=W9 Tryz.prog) ok.tt (blt_lt (by kernel_rfl)) (ff_of ok (by kernel_rfl) Tryz.func9) (Eq.mpr (by kernel_rfl) h)
def W38 (P:Program):WE:=⟨env P,tupT,[],mkTab [(5,[.tmp 0 .slice,.tmp 1 .str,.tmp 2 .slice,.tmp 7 .slice,.tmp 8 (.int .i64),.tmp 10 (.int .i64),.tmp 11 (.int .i64)]),(3,[.tmp 0 .slice,.tmp 1 .str,.tmp 2 .slice,.tmp 7 .slice,.tmp 8 (.int .i64),.tmp 10 (.int .i64)]),(1,[.tmp 0 .slice,.tmp 1 .str,.tmp 2 .slice,.tmp 8 (.int .i64),.tmp 9 .slice,.tmp 14 .slice,.tmp 15 (.int .i64)])],38⟩
def vc38_L1 (y1:OA) (y2 y3:Nat) (y4:ByteArray) (y5:OA) (y6 y7:Nat) (y8:OA) (y9 y10:Nat) (y11 y12:Int) (y13:KH) (y14:Nat) (y15:(Nat->(OA->(Nat->(Nat->(ByteArray->(OA->(Nat->(Nat->(OA->(Nat->(Nat->(Int->(Int->(KH->Prop))))))))))))))):Prop :=
 (∃ (o:(Nat->OA->Nat->Nat->ByteArray->OA->Nat->Nat->OA->Nat->Nat->Int->Int->Int->KH->Prop)),(∃ (au:Nat),o au y1 y2 y3 y4 y5 y6 y7 y8 y9 y10 y11 y12 0 y13)/\∀ (p:Nat) (f:(OA)) (g l:Nat) (d:ByteArray) (h:(OA)) (i m:Nat) (j:(OA)) (k n:Nat) (b:Int),∀ (a e:Int) (c:KH),o p f g l d h i m j k n b a e c->((0:Int)<=b/\b<(g:Int))/\∃ (w x:Nat),f=some ⟨w,x,none⟩/\(none:(Option Nat))=none/\∃ (av:(OA)) (r aw:Nat),ld c ⟨w,(x+((Int.toNat b)*2))+1,none⟩ [(.slice av r aw)]/\(decide (e<(r:Int))=true->((0:Int)<=a/\a<(i:Int))/\∃ (y z:Nat),h=some ⟨y,z,none⟩/\∃ (s:Bool),ld c ⟨y,z+((Int.toNat a)*1),none⟩ [(.bool s)]/\(s=true->True/\((0:Int)<=a/\a<(((ByteArray.size d):Nat):Int))/\((0:Int)<=b/\b<(g:Int))/\∃ (aa ab:Nat),f=some ⟨aa,ab,none⟩/\(none:(Option Nat))=none/\∃ (ac:(OA)) (ad ax:Nat),ld c ⟨aa,(ab+((Int.toNat b)*2))+1,none⟩ [(.slice ac ad ax)]/\((0:Int)<=e/\e<(ad:Int))/\∃ (ae af:Nat),ac=some ⟨ae,af,none⟩/\(none:(Option Nat))=none/\∃ (t:Int),ld c ⟨ae,(af+((Int.toNat e)*2))+0,none⟩ [(.int .u8 t)]/\(decide (t<=(byteAt d (Int.toNat a)))=true->((0:Int)<=a/\a<(((ByteArray.size d):Nat):Int))/\((0:Int)<=b/\b<(g:Int))/\∃ (ag ah:Nat),f=some ⟨ag,ah,none⟩/\(none:(Option Nat))=none/\∃ (ai:(OA)) (aj ay:Nat),ld c ⟨ag,(ah+((Int.toNat b)*2))+1,none⟩ [(.slice ai aj ay)]/\((0:Int)<=e/\e<(aj:Int))/\∃ (ak al:Nat),ai=some ⟨ak,al,none⟩/\(none:(Option Nat))=none/\∃ (u:Int),ld c ⟨ak,(al+((Int.toNat e)*2))+1,none⟩ [(.int .u8 u)]/\(((decide (((byteAt d (Int.toNat a)):Int)<=u)):Bool)=true->((0:Int)<=(IntKind.wrap .i64 (a+1))/\((IntKind.wrap .i64 (a+1)):Int)<(k:Int))/\∃ (q v:Nat),j=some ⟨q,v,none⟩/\(∃ (am:(List Value)),((List.length am):Nat)=(List.length [(Value.bool true)])/\ld c ⟨q,v+((Int.toNat (IntKind.wrap .i64 (a+1)))*1),none⟩ am)/\KH.may c q/\∃ (an:Nat),(an:Nat)<p/\o an f g l d h i m j k n b a (IntKind.wrap .i64 (e+1)) (KH.put c ⟨q,v+((Int.toNat (IntKind.wrap .i64 (a+1)))*1),none⟩ [(.bool true)]))/\(((decide (((byteAt d (Int.toNat a)):Int)<=u)):Bool)=false->∃ (ao:Nat),(ao:Nat)<p/\o ao f g l d h i m j k n b a (IntKind.wrap .i64 (e+1)) c))/\(decide (t<=(byteAt d (Int.toNat a)))=false->∃ (ap:Nat),(ap:Nat)<p/\o ap f g l d h i m j k n b a (IntKind.wrap .i64 (e+1)) c))/\(s=false->∃ (aq:Nat),(aq:Nat)<y14/\y15 aq f g l d h i m j k n b (IntKind.wrap .i64 (a+1)) c))/\(decide (e<(r:Int))=false->∃ (ar:Nat),(ar:Nat)<y14/\y15 ar f g l d h i m j k n b (IntKind.wrap .i64 (a+1)) c))
def vc38_L2 (y1:OA) (y2 y3:Nat) (y4:ByteArray) (y5:OA) (y6 y7 y8:Nat) (y9:KH) (y10:PQ):Prop :=
 (∃ (c:(Nat->OA->Nat->Nat->ByteArray->OA->Nat->Nat->OA->Nat->Nat->Int->Int->KH->Prop)),(∃ (p:Nat),c p y1 y2 y3 y4 y5 y6 y7 (some ⟨y8,0,none⟩) (Int.toNat (IntKind.wrap .i64 ((((ByteArray.size y4):Nat):Int)+1))) (Int.toNat (IntKind.wrap .i64 ((((ByteArray.size y4):Nat):Int)+1))) (IntKind.wrap .i64 ((y2:Int)-1)) 0 (KH.new y9 y8 (mkEnt (lrep [(.bool false)] (Int.toNat (IntKind.wrap .i64 ((((ByteArray.size y4):Nat):Int)+1)))) 0)))/\∀ (h:Nat) (i:(OA)) (j k:Nat) (a:ByteArray) (l:(OA)) (m n:Nat) (d:(OA)) (e f:Nat) (o:Int),∀ (b:Int) (g:KH),c h i j k a l m n d e f o b g->(((decide (b<(((ByteArray.size a):Nat):Int))):Bool)=true->vc38_L1 i j k a l m n d e f o b g h c)/\(((decide (b<(((ByteArray.size a):Nat):Int))):Bool)=false->y10 (.slice d e f) g))
def vc38_L5 (y1:OA) (y2 y3:Nat) (y4:ByteArray) (y5:OA) (y6 y7:Nat) (y8:OA) (y9 y10:Nat) (y11:OA) (y12 y13:Nat) (y14:KH) (y15:PQ):Prop :=
 (∃ (h:(Nat->OA->Nat->Nat->ByteArray->OA->Nat->Nat->Int->OA->Nat->Nat->OA->Nat->Nat->Int->KH->Prop)),(∃ (af:Nat),h af y1 y2 y3 y4 y5 y6 y7 (IntKind.wrap .i64 ((y2:Int)-1)) y8 y9 y10 y11 y12 y13 0 y14)/\∀ (r:Nat) (i:(OA)) (j s:Nat) (a:ByteArray) (k:(OA)) (l m:Nat) (b:Int) (n:(OA)) (o p:Nat),∀ (c:(OA)) (d e:Nat) (g:Int) (f:KH),h r i j s a k l m b n o p c d e g f->(((decide (g<=(((ByteArray.size a):Nat):Int))):Bool)=true->Does (env Tryz.prog) 38 [.slice n o p,.string a,.slice c d e] f fun ag ah=>∃ (t:(OA)) (u v:Nat),ag=(.slice t u v)/\Does (env Tryz.prog) 63 [.slice c d e,.slice t u v] ah fun ai aj=>∃ (w:(OA)) (x y:Nat),ai=(.slice w x y)/\∃ (z:Nat),(z:Nat)<r/\h z i j s a k l m b n o p w x y (IntKind.wrap .i64 (g+1)) aj)/\(((decide (g<=(((ByteArray.size a):Nat):Int))):Bool)=false->((0:Int)<=b/\b<(j:Int))/\∃ (aa ab:Nat),i=some ⟨aa,ab,none⟩/\(none:(Option Nat))=none/\∃ (q:Int),ld f ⟨aa,(ab+((Int.toNat b)*2))+0,none⟩ [(.int .i64 q)]/\(decide (q=4)=true->Does (env Tryz.prog) 63 [.slice k l m,.slice c d e] f fun ak al=>∃ (ac:(OA)) (ad ae:Nat),ak=(.slice ac ad ae)/\y15 (.slice ac ad ae) al)/\(decide (q=4)=false->y15 (.slice c d e) f)))
def vc38 (p0:OA) (p0n p0c:Nat) (p1:ByteArray) (p2:OA) (p2n p2c:Nat) (H:KH) (Q:PQ):Prop :=
 (((0:Int)<=(IntKind.wrap .i64 ((((ByteArray.size p1):Nat):Int)+1))/\((IntKind.wrap .i64 ((((ByteArray.size p1):Nat):Int)+1)):Int)<=(IntKind.wrap .i64 ((((ByteArray.size p1):Nat):Int)+1))/\((IntKind.wrap .i64 ((((ByteArray.size p1):Nat):Int)+1)):Int)<=1000000)/\∀ (d:Nat),((H d):(Option (Ent)))=none->(decide ((p0n:Int)=0)=true->Q (.slice (some ⟨d,0,none⟩) (Int.toNat (IntKind.wrap .i64 ((((ByteArray.size p1):Nat):Int)+1))) (Int.toNat (IntKind.wrap .i64 ((((ByteArray.size p1):Nat):Int)+1)))) (KH.new H d (mkEnt (lrep [(.bool false)] (Int.toNat (IntKind.wrap .i64 ((((ByteArray.size p1):Nat):Int)+1)))) 0)))/\(decide ((p0n:Int)=0)=false->∃ (a:(OA)) (b c:Nat),((kslice (KH.new H d (mkEnt (lrep [(.bool false)] (Int.toNat (IntKind.wrap .i64 ((((ByteArray.size p1):Nat):Int)+1)))) 0)) 2 p0 p0n p0c none (some (.int .i64 (IntKind.wrap .i64 ((p0n:Int)-1))))):(Option Value))=(some (.slice a b c))/\((0:Int)<=(IntKind.wrap .i64 ((p0n:Int)-1))/\((IntKind.wrap .i64 ((p0n:Int)-1)):Int)<(p0n:Int))/\∃ (p q:Nat),p0=some ⟨p,q,none⟩/\(none:(Option Nat))=none/\∃ (e:Int),ld (KH.new H d (mkEnt (lrep [(.bool false)] (Int.toNat (IntKind.wrap .i64 ((((ByteArray.size p1):Nat):Int)+1)))) 0)) ⟨p,(q+((Int.toNat (IntKind.wrap .i64 ((p0n:Int)-1)))*2))+0,none⟩ [(.int .i64 e)]/\(decide (e=1)=true->vc38_L2 p0 p0n p0c p1 p2 p2n p2c d H Q)/\(decide (e=1)=false->(decide (e=2)=true->Does (env Tryz.prog) 62 [.slice a b c,.int .i64 (IntKind.wrap .i64 ((IntKind.wrap .i64 ((p0n:Int)-1))-1))] (KH.new H d (mkEnt (lrep [(.bool false)] (Int.toNat (IntKind.wrap .i64 ((((ByteArray.size p1):Nat):Int)+1)))) 0)) fun bf n=>∃ (f:Int),bf=(.int .i64 f)/\True/\∃ (h:(OA)) (i j:Nat),((kslice n 2 a b c (some (.int .i64 f)) none):(Option Value))=(some (.slice h i j))/\∃ (r:(OA)) (s t:Nat),((kslice n 2 a b c none (some (.int .i64 f))):(Option Value))=(some (.slice r s t))/\Does (env Tryz.prog) 38 [.slice r s t,.string p1,.slice p2 p2n p2c] n fun bg bd=>∃ (u:(OA)) (v w:Nat),bg=(.slice u v w)/\(((.slice a b c):Value)=(.slice a b c)/\((.int .i64 f):Value)=(.int .i64 f)/\(∃ (x:(OA)) (y z:Nat),((kslice bd 2 a b c (some (.int .i64 f)) none):(Option Value))=(some (.slice x y z))/\((.slice x y z):Value)=(.slice h i j))/\((.string p1):Value)=(.string p1)/\True)/\Does (env Tryz.prog) 38 [.slice h i j,.string p1,.slice u v w] bd fun bh bi=>∃ (aa:(OA)) (ab ac:Nat),bh=(.slice aa ab ac)/\True/\Q (.slice aa ab ac) bi)/\(decide (e=2)=false->(decide (e=3)=true->Does (env Tryz.prog) 62 [.slice a b c,.int .i64 (IntKind.wrap .i64 ((IntKind.wrap .i64 ((p0n:Int)-1))-1))] (KH.new H d (mkEnt (lrep [(.bool false)] (Int.toNat (IntKind.wrap .i64 ((((ByteArray.size p1):Nat):Int)+1)))) 0)) fun bj o=>∃ (g:Int),bj=(.int .i64 g)/\True/\∃ (ad:(OA)) (ae af:Nat),((kslice o 2 a b c none (some (.int .i64 g))):(Option Value))=(some (.slice ad ae af))/\∃ (k:(OA)) (l m:Nat),((kslice o 2 a b c (some (.int .i64 g)) none):(Option Value))=(some (.slice k l m))/\Does (env Tryz.prog) 38 [.slice ad ae af,.string p1,.slice p2 p2n p2c] o fun bk be=>∃ (ag:(OA)) (ah ai:Nat),bk=(.slice ag ah ai)/\(((.slice a b c):Value)=(.slice a b c)/\((.int .i64 g):Value)=(.int .i64 g)/\(∃ (aj:(OA)) (ak al:Nat),((kslice be 2 a b c (some (.int .i64 g)) none):(Option Value))=(some (.slice aj ak al))/\((.slice aj ak al):Value)=(.slice k l m))/\((.string p1):Value)=(.string p1)/\((.slice p2 p2n p2c):Value)=(.slice p2 p2n p2c)/\True)/\Does (env Tryz.prog) 38 [.slice k l m,.string p1,.slice p2 p2n p2c] be fun bl bm=>∃ (am:(OA)) (an ao:Nat),bl=(.slice am an ao)/\True/\Does (env Tryz.prog) 63 [.slice ag ah ai,.slice am an ao] bm fun bn bo=>∃ (ap:(OA)) (aq ar:Nat),bn=(.slice ap aq ar)/\True/\Q (.slice ap aq ar) bo)/\(decide (e=3)=false->(decide (e=6)=true->Does (env Tryz.prog) 38 [.slice a b c,.string p1,.slice p2 p2n p2c] (KH.new H d (mkEnt (lrep [(.bool false)] (Int.toNat (IntKind.wrap .i64 ((((ByteArray.size p1):Nat):Int)+1)))) 0)) fun bp bq=>∃ (au:(OA)) (av aw:Nat),bp=(.slice au av aw)/\Does (env Tryz.prog) 63 [.slice p2 p2n p2c,.slice au av aw] bq fun br bs=>∃ (ax:(OA)) (ay az:Nat),br=(.slice ax ay az)/\Q (.slice ax ay az) bs)/\(decide (e=6)=false->Does (env Tryz.prog) 38 [.slice a b c,.string p1,.slice p2 p2n p2c] (KH.new H d (mkEnt (lrep [(.bool false)] (Int.toNat (IntKind.wrap .i64 ((((ByteArray.size p1):Nat):Int)+1)))) 0)) fun bt bu=>∃ (ba:(OA)) (bb bc:Nat),bt=(.slice ba bb bc)/\vc38_L5 p0 p0n p0c p1 p2 p2n p2c a b c ba bb bc bu Q))))))
theorem fn38 (ok:EnvOk (env Tryz.prog)) {p0:OA} {p0n p0c:Nat} {p1:ByteArray} {p2:OA} {p2n p2c:Nat} {H:KH} {Q:PQ} (h:vc38 p0 p0n p0c p1 p2 p2n p2c H Q):Does (env Tryz.prog) 38 [.slice p0 p0n p0c,.string p1,.slice p2 p2n p2c] H Q :=
 wFun_sound (W:=W38 Tryz.prog) ok.tt (blt_lt (by kernel_rfl)) (ff_of ok (by kernel_rfl) Tryz.func38) (Eq.mpr (by kernel_rfl) h)
def W62 (P:Program):WE:=⟨env P,tupT,[],mkTab [(0,[.tmp 0 .slice,.tmp 5 (.int .i64),.tmp 6 (.int .i64)])],62⟩
def vc62_L2 (y1:OA) (y2 y3:Nat) (y4:Int) (y5:KH) (y6:PQ):Prop :=
 (∃ (e:(Nat->OA->Nat->Nat->Int->Int->KH->Prop)),(∃ (p:Nat),e p y1 y2 y3 1 y4 y5)/\∀ (h:Nat) (f:(OA)) (g i:Nat) (b a:Int) (c:KH),e h f g i b a c->(decide ((0:Int)<=a)=true->((0:Int)<=a/\a<(g:Int))/\∃ (j k:Nat),f=some ⟨j,k,none⟩/\(none:(Option Nat))=none/\∃ (d:Int),ld c ⟨j,(k+((Int.toNat a)*2))+0,none⟩ [(.int .i64 d)]/\(decide (d=1)=true->(((decide (((IntKind.wrap .i64 (b-1)):Int)=0)):Bool)=true->y6 (.int .i64 a) c)/\(((decide (((IntKind.wrap .i64 (b-1)):Int)=0)):Bool)=false->∃ (l:Nat),(l:Nat)<h/\e l f g i (IntKind.wrap .i64 (b-1)) (IntKind.wrap .i64 (a-1)) c))/\(decide (d=1)=false->(decide (d=2)=true->(((decide (((IntKind.wrap .i64 (b+1)):Int)=0)):Bool)=true->y6 (.int .i64 a) c)/\(((decide (((IntKind.wrap .i64 (b+1)):Int)=0)):Bool)=false->∃ (m:Nat),(m:Nat)<h/\e m f g i (IntKind.wrap .i64 (b+1)) (IntKind.wrap .i64 (a-1)) c))/\(decide (d=2)=false->(decide (d=3)=true->(((decide (((IntKind.wrap .i64 (b+1)):Int)=0)):Bool)=true->y6 (.int .i64 a) c)/\(((decide (((IntKind.wrap .i64 (b+1)):Int)=0)):Bool)=false->∃ (n:Nat),(n:Nat)<h/\e n f g i (IntKind.wrap .i64 (b+1)) (IntKind.wrap .i64 (a-1)) c))/\(decide (d=3)=false->(decide (b=0)=true->y6 (.int .i64 a) c)/\(decide (b=0)=false->∃ (o:Nat),(o:Nat)<h/\e o f g i b (IntKind.wrap .i64 (a-1)) c)))))/\(decide ((0:Int)<=a)=false->y6 (.int .i64 0) c))
def vc62 (p0:OA) (p0n p0c:Nat) (p1:Int) (H:KH) (Q:PQ):Prop :=
 (vc62_L2 p0 p0n p0c p1 H Q)
theorem fn62 (ok:EnvOk (env Tryz.prog)) {p0:OA} {p0n p0c:Nat} {p1:Int} {H:KH} {Q:PQ} (h:vc62 p0 p0n p0c p1 H Q):Does (env Tryz.prog) 62 [.slice p0 p0n p0c,.int .i64 p1] H Q :=
 wFun_sound (W:=W62 Tryz.prog) ok.tt (blt_lt (by kernel_rfl)) (ff_of ok (by kernel_rfl) Tryz.func62) (Eq.mpr (by kernel_rfl) h)
def W63 (P:Program):WE:=⟨env P,tupT,[],mkTab [(0,[.tmp 0 .slice,.tmp 1 .slice,.tmp 5 .slice,.tmp 6 (.int .i64)])],63⟩
def vc63_L1 (y1:OA) (y2 y3:Nat) (y4:OA) (y5 y6 y7:Nat) (y8:KH) (y9:PQ):Prop :=
 (∃ (f:(Nat->OA->Nat->Nat->OA->Nat->Nat->OA->Nat->Nat->Int->KH->Prop)),(∃ (ab:Nat),f ab y1 y2 y3 y4 y5 y6 (some ⟨y7,0,none⟩) (Int.toNat (y2:Int)) (Int.toNat (y2:Int)) 0 (KH.new y8 y7 (mkEnt (lrep [(.bool false)] (Int.toNat (y2:Int))) 0)))/\∀ (m:Nat) (g:(OA)) (c n:Nat) (h:(OA)) (i o:Nat) (d:(OA)) (e j:Nat) (a:Int) (b:KH),f m g c n h i o d e j a b->(decide (a<(c:Int))=true->((0:Int)<=a/\a<(c:Int))/\∃ (t u:Nat),g=some ⟨t,u,none⟩/\∃ (p:Bool),ld b ⟨t,u+((Int.toNat a)*1),none⟩ [(.bool p)]/\(p=true->((0:Int)<=a/\a<(e:Int))/\∃ (k q:Nat),d=some ⟨k,q,none⟩/\(∃ (v:(List Value)),((List.length v):Nat)=(List.length [(Value.bool true)])/\ld b ⟨k,q+((Int.toNat a)*1),none⟩ v)/\KH.may b k/\∃ (w:Nat),(w:Nat)<m/\f w g c n h i o d e j (IntKind.wrap .i64 (a+1)) (KH.put b ⟨k,q+((Int.toNat a)*1),none⟩ [(.bool true)]))/\(p=false->((0:Int)<=a/\a<(i:Int))/\∃ (x y:Nat),h=some ⟨x,y,none⟩/\∃ (r:Bool),ld b ⟨x,y+((Int.toNat a)*1),none⟩ [(.bool r)]/\((0:Int)<=a/\a<(e:Int))/\∃ (l s:Nat),d=some ⟨l,s,none⟩/\(∃ (z:(List Value)),((List.length z):Nat)=(List.length [(Value.bool r)])/\ld b ⟨l,s+((Int.toNat a)*1),none⟩ z)/\KH.may b l/\∃ (aa:Nat),(aa:Nat)<m/\f aa g c n h i o d e j (IntKind.wrap .i64 (a+1)) (KH.put b ⟨l,s+((Int.toNat a)*1),none⟩ [(.bool r)])))/\(decide (a<(c:Int))=false->y9 (.slice d e j) b))
def vc63 (p0:OA) (p0n p0c:Nat) (p1:OA) (p1n p1c:Nat) (H:KH) (Q:PQ):Prop :=
 (((0:Int)<=(p0n:Int)/\(p0n:Int)<=(p0n:Int)/\(p0n:Int)<=1000000)/\∀ (a:Nat),((H a):(Option (Ent)))=none->vc63_L1 p0 p0n p0c p1 p1n p1c a H Q)
theorem fn63 (ok:EnvOk (env Tryz.prog)) {p0:OA} {p0n p0c:Nat} {p1:OA} {p1n p1c:Nat} {H:KH} {Q:PQ} (h:vc63 p0 p0n p0c p1 p1n p1c H Q):Does (env Tryz.prog) 63 [.slice p0 p0n p0c,.slice p1 p1n p1c] H Q :=
 wFun_sound (W:=W63 Tryz.prog) ok.tt (blt_lt (by kernel_rfl)) (ff_of ok (by kernel_rfl) Tryz.func63) (Eq.mpr (by kernel_rfl) h)
end Va
end Go.Proofs.YtfhjkkbaghanhaaGreat
set_option linter.unusedSimpArgs false
namespace Go.Ew
open Go.Ev Go.Deep
def TkC:List ByteArray->List Value->Prop
 | [],cs=>cs=[]
 | s :: r,cs=>∃ nm b ds,cs = .string nm :: .string s :: .bool b :: ds/\TkC r ds
def TkR (H:KH) (rs:List ByteArray) (a:OA):Prop:=∃ cs,kold H 3 a rs.length=some cs/\TkC rs cs
theorem TkC.snoc:∀ {r:List ByteArray} {cs:List Value} {s nm:ByteArray} {b:Bool},TkC r cs->TkC (r++[s]) (cs++[.string nm,.string s,.bool b])
 | [],cs,s,nm,b,h=>by
   have h:cs=[]:=h
   subst h
   exact ⟨nm,b,[],rfl,rfl⟩
 | x :: r,cs,s,nm,b,⟨nm',b',ds,h1,h2⟩=>by
   subst h1
   exact ⟨nm',b',_,rfl,h2.snoc⟩
theorem TkC.get:∀ {r:List ByteArray} {cs:List Value} {k:Nat} {s:ByteArray},TkC r cs->r[k]? = some s->cs[k*3+1]? = some (.string s)
 | [],cs,k,s,h,hk=>by simp at hk
 | x :: r,cs,0,s,⟨nm',b',ds,h1,h2⟩,hk=>by
   have hk:x=s:=by simpa using hk
   subst hk; subst h1; rfl
 | x :: r,cs,k+1,s,⟨nm',b',ds,h1,h2⟩,hk=>by
   subst h1
   have hk:r[k]? = some s:=by simpa using hk
   have:=TkC.get h2 hk
   have e:(k+1)*3+1=k*3+1+3:=by omega
   rw [e]
   simpa using this
abbrev TT3:TI:=⟨3,40,true,3,0,0,[(0,1),(1,1),(2,1)],[.string (ByteArray.mk #[]),.string (ByteArray.mk #[]),.bool false]⟩
theorem hide1 {H:KH} {n:Nat} {e:Ent} (h:H n=none):hideK (H.new n e) [n]=H:=by
 funext k
 simp only [hideK,KH.del,KH.new]
 by_cases hk:k=n
 .subst hk; simp [h]
 .simp [hk]
theorem back1 {H K:KH} {n:Nat} {e:Ent}:backK (H.new n e) K [n]=K.new n e:=by
 funext k
 simp only [backK,KH.new]
 by_cases hk:k=n
 .subst hk; simp
 .simp [hk]
theorem blank_ok:parseR (ByteArray.mk #[32,43])=some [(1,[(32,32)]),(5,[])]:=by decide +kernel
end Go.Ew
namespace Go.Proofs.YtfhjkkbaghanhaaGreat
open Go.Ev Go.Ew
namespace Va
section
variable (ok : EnvOk (env Tryz.prog))
include ok
theorem c7 {K0 H:KH} {p:Nat} {Q:PQ} (hp:PK K0 p H) (hq:∀ rs a c H',rs.length<=4->(∀ s∈rs,∃ l,parseR s=some l)->Le K0 H'->TkR H' rs a->Q (.slice a rs.length c) H'):Does (env Tryz.prog) 7 [.pointer (some ⟨p,0,none⟩)] H Q:=by
 refine fn7 ok (c18 ok hp (by omega) (by omega) fun x3 H2 h0 h1 hp2=>⟨_,rfl,?_⟩)
 have hw:IntKind.wrap .i64 (x3+1)=x3+1:=wrap64 (by omega) (by omega)
 unfold vc7_L2
 refine ⟨fun n3 n4 n5 a6 n7 n8 x9 H10=>n4=p/\n5=0/\∃ (rs:List ByteArray) (cells:List Value) (K HK:KH) (i:Nat),n7=rs.length/\x9=i/\n3=i/\rs.length+i<=3/\Gr H10 3 a6 n7 n8 cells []/\TkC rs cells/\(∀ s∈rs,∃ l,parseR s=some l)/\PK K p HK/\Le K0 K/\Le HK H10/\∀ b,blk a6=some b->HK b=none,
  ⟨(x3+1).toNat,rfl,rfl,rfl,[],[],K0,H2,(x3+1).toNat,rfl,by rw [hw]; omega,rfl,by simp; omega,.nil,rfl,(fun s hs=>by cases hs),hp2,Le.refl _,Le.refl _,fun b q=>by cases q⟩,?_⟩
 rintro n3 n4 n5 a6 n7 n8 x9 H10 ⟨rfl,rfl,rs,cells,K,HK,i,rfl,rfl,rfl,hi,hG,hT,hpar,hpk,hKK,hHK,hout⟩
 have hin:∀ b,blk a6=some b->∃ e,H10 b=some e:=fun b q=>hG.at' q
 refine ⟨fun hlt=>⟨trivial,fun n1 hn1=>?_⟩,fun hge=>?_⟩
 .have hlt:0<n3:=by have:=of_decide_eq_true hlt; omega
  refine ⟨_,_,lit_kold (if_pos rfl) rfl,rfl,(show 1+1<=1000000 by omega),?_⟩
  rw [hide1 hn1]
  refine Does.only hHK (c19 ok hpk fun s K' HK' hs _ _ hKK' hpk' H5 hH5 hrest=>⟨_,rfl,fun hn1'=>?_⟩)
  rw [back1]
  refine ⟨⟨rfl,rfl,rfl,rfl,rfl,⟨_,_,lit_kold (if_pos rfl) rfl,rfl,rfl⟩,⟨(show 1+1<=1000000 by omega),rfl⟩,trivial⟩,fun n9 h9 n10 h10=>?_⟩
  have l1:=Le.new (e:=mkEnt [Value.int .u8 (IntKind.wrap .u8 (IntKind.wrap .i64 (97+((rs.length:Nat):Int))))] 0) hn1'
  have l2:=Le.new (e:=mkEnt [Value.string (ByteArray.mk #[116]++ByteArray.mk (List.toArray [UInt8.ofNat (IntKind.wrap .u8 (IntKind.wrap .i64 (97+((rs.length:Nat):Int)))).toNat])),.string s,.bool false] 0) h9
  have hG5:Gr H5 3 a6 rs.length n8 cells []:=hG.agree fun k e q1 q2=>(hrest k e q2 (hout k q1)).1
  obtain ⟨a',H',ex',f1,f2,f3,f4,f5⟩:=((hG5.agree fun k e _ q=>l1 k e q).agree fun k e _ q=>l2 k e q).append (ti:=TT3) (new:=[.string (ByteArray.mk #[116]++ByteArray.mk (List.toArray [UInt8.ofNat (IntKind.wrap .u8 (IntKind.wrap .i64 (97+((rs.length:Nat):Int)))).toNat])),.string s,.bool false]) h10 rfl (by omega) (by decide) (by decide)
  have hx:=f3 rfl
  subst hx
  have hout':∀ b,blk a6=some b->HK' b=none:=fun b q=>by
   obtain ⟨e,z⟩:=hin b q
   exact (hrest b e z (hout b q)).2
  refine ⟨1,_,knew_of (lit_kold (if_pos rfl) rfl),a',_,_,H',f1,trivial,n3-1,by omega,rfl,rfl,rfl,rs++[s],_,K',HK',n3-1,by simp,by rw [wrap64 (by omega) (by omega)]; omega,rfl,by simp; omega,f2,hT.snoc,fun t ht=>?_,hpk',hKK.trans hKK',fun k e q=>f4 k e (l2 k e (l1 k e (hH5 k e q))) fun z=>(by rw [hout' k z] at q; cases q),fun b q=>?_⟩
  .rcases List.mem_append.1 ht with z | z
   .exact hpar t z
   .have:t=s:=by simpa using z
    rw [this]; exact hs
  .rcases f5 b q with z | z
   .exact hout' b z
   .rw [z]; exact hH5.none (l1.none (l2.none h10))
 .intro n1 hn1 n2 hn2
  have l1:=Le.new (e:=mkEnt [Value.string (ByteArray.mk #[98,108,97,110,107]),.string (ByteArray.mk #[32,43]),.bool true] 0) hn1
  obtain ⟨a',H',ex',f1,f2,f3,f4,f5⟩:=(hG.agree fun k e _ q=>l1 k e q).append (ti:=TT3) (new:=[.string (ByteArray.mk #[98,108,97,110,107]),.string (ByteArray.mk #[32,43]),.bool true]) hn2 rfl (by omega) (by decide) (by decide)
  have hx:=f3 rfl
  subst hx
  have hl:(rs++[ByteArray.mk #[32,43]]).length=rs.length+1:=by simp
  have:=hq (rs++[ByteArray.mk #[32,43]]) a' unkU H' (by rw [hl]; omega) (fun t ht=>by
   rcases List.mem_append.1 ht with z | z
   .exact hpar t z
   .have:t=ByteArray.mk #[32,43]:=by simpa using z
    rw [this]; exact ⟨_,blank_ok⟩) (fun k e q=>f4 k e (l1 k e (hHK k e (hpk.le k e (hKK k e q)))) fun z=>by
     have h1:=hpk.le k e (hKK k e q)
     rw [hout k z] at h1; cases h1) ⟨_,by rw [hl]; exact f2.row,hT.snoc⟩
  rw [hl] at this
  exact ⟨1,_,knew_of (lit_kold (if_pos rfl) rfl),a',_,_,H',f1,this⟩
abbrev PT1:TI:=⟨1,24,false,1,59,0,[],[.slice none 0 0]⟩
theorem c8 {a:OA} {n c:Nat} {H:KH} {Q:PQ} (hu:U8 H a n) (hn:n<=100) (hq:∀ s H',s.size<=2*n->(∀ b∈bytesI s,32<=b)->Le H H'->Q (.string s) H'):Does (env Tryz.prog) 8 [.slice a n c] H Q:=by
 refine fn8 ok ?_
 unfold vc8 vc8_L1
 refine ⟨fun n3 a4 n5 n6 s7 x8 H9=>a4=a/\n5=n/\Le H H9/\∃ k:Nat,x8=k/\k<=n/\n3=n-k/\s7.size<=2*k/\∀ b∈bytesI s7,32<=b,⟨n,rfl,rfl,Le.refl _,0,rfl,by omega,rfl,by decide,fun b hb=>by cases hb⟩,?_⟩
 rintro n3 a4 n5 n6 s7 x8 H9 ⟨rfl,rfl,hle,k,rfl,hk,rfl,hsz,hb⟩
 refine ⟨fun hlt n1 hn1=>?_,fun hge=>?_⟩
 .have hlt:k<n5:=by have:=of_decide_eq_true hlt; omega
  have e0:Int.toNat ((k:Nat):Int)=k:=by omega
  obtain ⟨b,o,x,h1,h2,h3,h4⟩:=hu k hlt
  have l1:=Le.new (e:=mkEnt [Value.string (ByteArray.mk #[97]),.string (ByteArray.mk #[98]),.string (ByteArray.mk #[99]),.string (ByteArray.mk #[43]),.string (ByteArray.mk #[32]),.string (ByteArray.mk #[48]),.string (ByteArray.mk #[97,98]),.string (ByteArray.mk #[63])] 0) hn1
  have hm:∃ y:Nat,Int.tmod x 8=y/\y<8:=by
   refine ⟨(x%8).toNat,?_,by omega⟩
   rw [Int.tmod_eq_emod_of_nonneg h3]; omega
  obtain ⟨y,hy1,hy2⟩:=hm
  have hy0:Int.toNat ((y:Nat):Int)=y:=by omega
  have hat:∃ s:ByteArray,[Value.string (ByteArray.mk #[97]),.string (ByteArray.mk #[98]),.string (ByteArray.mk #[99]),.string (ByteArray.mk #[43]),.string (ByteArray.mk #[32]),.string (ByteArray.mk #[48]),.string (ByteArray.mk #[97,98]),.string (ByteArray.mk #[63])][y]? = some (.string s)/\s.size<=2/\∀ b∈bytesI s,32<=b:=by
   have:y=0\/y=1\/y=2\/y=3\/y=4\/y=5\/y=6\/y=7:=by omega
   rcases this with q | q | q | q | q | q | q | q<;>subst q<;>exact ⟨_,rfl,by decide,by decide⟩
  obtain ⟨s,s1,s2,s3⟩:=hat
  rw [e0]
  refine ⟨⟨by omega,by omega⟩,b,o,h1,x,by simpa using l1.ld (hle.ld h2),by decide,?_⟩
  rw [hy1,hy0]
  refine ⟨⟨by omega,by omega⟩,n1,0,rfl,s,litAt (if_pos rfl) s1,by omega,n5-(k+1),by omega,rfl,rfl,hle.trans l1,k+1,by rw [wrap64 (by omega) (by omega)]; omega,by omega,rfl,by rw [size_app]; omega,fun z hz=>?_⟩
  rw [bytesI_app] at hz
  rcases List.mem_append.1 hz with q | q
  .exact hb z q
  .exact s3 z q
 .have hge:k=n5:=by have:=of_decide_eq_false hge; omega
  subst hge
  exact hq s7 H9 hsz hb hle
end
end Va
end Go.Proofs.YtfhjkkbaghanhaaGreat
namespace Go.Proofs.YtfhjkkbaghanhaaGreat
open Go.Ev Go.Ew
namespace Va
def W11 (P:Program):WE:=⟨env P,tupT,[],mkTab [(2,[.tmp 0 .slice,.tmp 3 (.int .i64),.tmp 4 (.int .i64),.tmp 5 (.int .i64)]),(0,[.tmp 0 .slice,.tmp 3 (.int .i64),.tmp 4 (.int .i64)])],11⟩
def vc11_L1 (y1:OA) (y2 y3:Nat) (y4 y5:Int) (y6:KH) (y7:Nat) (y8:(Nat->(OA->(Nat->(Nat->(Int->(Int->(KH->Prop)))))))):Prop :=
 (∃ (f:(Nat->OA->Nat->Nat->Int->Int->Int->KH->Prop)),(∃ (w:Nat),f w y1 y2 y3 y4 y5 0 y6)/\∀ (i:Nat) (d:(OA)) (e g:Nat) (h a b:Int) (c:KH),f i d e g h a b c->((0:Int)<=a/\a<(e:Int))/\∃ (l m:Nat),d=some ⟨l,m,none⟩/\∃ (x:(OA)) (j y:Nat),ld c ⟨l,m+((Int.toNat a)*1),none⟩ [(.slice x j y)]/\(decide (b<(j:Int))=true->((0:Int)<=a/\a<(e:Int))/\∃ (n o:Nat),d=some ⟨n,o,none⟩/\∃ (p:(OA)) (q z:Nat),ld c ⟨n,o+((Int.toNat a)*1),none⟩ [(.slice p q z)]/\((0:Int)<=b/\b<(q:Int))/\∃ (r s:Nat),p=some ⟨r,s,none⟩/\(none:(Option Nat))=none/\∃ (k:Int),ld c ⟨r,(s+((Int.toNat b)*2))+0,none⟩ [(.int .i64 k)]/\(decide (k=1)=true->∃ (t:Nat),(t:Nat)<i/\f t d e g (IntKind.wrap .i64 (h+1)) a (IntKind.wrap .i64 (b+1)) c)/\(decide (k=1)=false->∃ (u:Nat),(u:Nat)<i/\f u d e g h a (IntKind.wrap .i64 (b+1)) c))/\(decide (b<(j:Int))=false->∃ (v:Nat),(v:Nat)<y7/\y8 v d e g h (IntKind.wrap .i64 (a+1)) c))
def vc11_L2 (y1:OA) (y2 y3:Nat) (y4:KH) (y5:PQ):Prop :=
 (∃ (c:(Nat->OA->Nat->Nat->Int->Int->KH->Prop)),(∃ (i:Nat),c i y1 y2 y3 0 0 y4)/\∀ (f:Nat) (g:(OA)) (a h:Nat) (d b:Int) (e:KH),c f g a h d b e->(decide (b<(a:Int))=true->vc11_L1 g a h d b e f c)/\(decide (b<(a:Int))=false->y5 (.bool (decide (d<=8))) e))
def vc11 (p0:OA) (p0n p0c:Nat) (H:KH) (Q:PQ):Prop :=
 (vc11_L2 p0 p0n p0c H Q)
theorem fn11 (ok:EnvOk (env Tryz.prog)) {p0:OA} {p0n p0c:Nat} {H:KH} {Q:PQ} (h:vc11 p0 p0n p0c H Q):Does (env Tryz.prog) 11 [.slice p0 p0n p0c] H Q :=
 wFun_sound (W:=W11 Tryz.prog) ok.tt (blt_lt (by kernel_rfl)) (ff_of ok (by kernel_rfl) Tryz.func11) (Eq.mpr (by kernel_rfl) h)
end Va
end Go.Proofs.YtfhjkkbaghanhaaGreat
namespace Go.Ew
open Go.Ev Go.Deep
theorem LgSpec.sh {M:Nat->Nat->Prop} {n:Nat} {r:Int × Int × Bool} (h:LgSpec M n r):∃ k j:Nat,r=(((k:Nat):Int),((j:Nat):Int),decide (0<j))/\j<=n:=by
 cases h with
 | no h=>exact ⟨0,0,rfl,by omega⟩
 | yes k j h1 h2=>exact ⟨k,j,by rw [decide_eq_true (by omega:0<j)],h2⟩
def HasTo (pats:List (List It)) (s:ByteArray) (m k j:Nat):Prop:=k<m/\Has pats s k j
theorem each_step {pats:List (List It)} {s:ByteArray} {i n kind most k j:Nat} {l:List It} (hl:pats[i]? = some l) (h:LgSpec (HasTo pats s i) n (((kind:Nat):Int),((most:Nat):Int),decide (0<most))) (g:LgSpec (Has [l] s) n (((k:Nat):Int),((j:Nat):Int),decide (0<j))) :
 (most<j->LgSpec (HasTo pats s (i+1)) n (((i:Nat):Int),((j:Nat):Int),decide (0<j)))/\(j<=most->LgSpec (HasTo pats s (i+1)) n (((kind:Nat):Int),((most:Nat):Int),decide (0<most))):=by
 have hone:∀ q,Has [l] s 0 q↔Has pats s i q:=fun q=>by
  unfold Has
  constructor
  .rintro ⟨l',h1,h2⟩
   have:l=l':=by simpa using h1
   subst this
   exact ⟨l,hl,h2⟩
  .rintro ⟨l',h1,h2⟩
   rw [hl] at h1; cases h1
   exact ⟨l,rfl,h2⟩
 -- what is known of the ones ahead,and of this one
 have hA:(∀ k' j',most<j'->j'<=n->¬ HasTo pats s i k' j')/\(0<most->HasTo pats s i kind most/\∀ k',k'<kind->¬ HasTo pats s i k' most)/\most<=n:=by
  generalize hr:((((kind:Nat):Int),((most:Nat):Int),decide (0<most)):Int × Int × Bool)=r at h
  cases h with
  | no h =>
    have hm:most=0:=by
     have:=congrArg (fun x=>x.2.1) hr
     simp at this; omega
    subst hm
    exact ⟨fun k' j' h1 h2=>h k' j' (by omega) h2,fun q=>by omega,by omega⟩
  | yes k2 j2 h1 h2 h3 h4 h5 =>
    have e1:kind=k2:=by have:=congrArg (fun x=>x.1) hr; simp at this; omega
    have e2:most=j2:=by have:=congrArg (fun x=>x.2.1) hr; simp at this; omega
    subst e1; subst e2
    exact ⟨h4,fun _=>⟨h3,h5⟩,h2⟩
 have hB:(∀ j',j<j'->j'<=n->¬ Has pats s i j')/\(0<j->Has pats s i j)/\j<=n:=by
  generalize hr:((((k:Nat):Int),((j:Nat):Int),decide (0<j)):Int × Int × Bool)=r at g
  cases g with
  | no h =>
    have hm:j=0:=by
     have:=congrArg (fun x=>x.2.1) hr
     simp at this; omega
    subst hm
    exact ⟨fun j' h1 h2 hh=>h 0 j' (by omega) h2 ((hone j').2 hh),fun q=>by omega,by omega⟩
  | yes k2 j2 h1 h2 h3 h4 h5 =>
    have e2:j=j2:=by have:=congrArg (fun x=>x.2.1) hr; simp at this; omega
    subst e2
    have hk0:k2=0:=by
     obtain ⟨l',hk',_⟩:=h3
     rcases Nat.eq_zero_or_pos k2 with q | q
     .exact q
     .rw [List.getElem?_eq_none (by simp; omega)] at hk'; cases hk'
    subst hk0
    exact ⟨fun j' q1 q2 hh=>h4 0 j' q1 q2 ((hone j').2 hh),fun _=>(hone j).1 h3,h2⟩
 obtain ⟨a1,a2,a3⟩:=hA
 obtain ⟨b1,b2,b3⟩:=hB
 refine ⟨fun hlt=>?_,fun hle=>?_⟩
 .have hj:decide (0<j)=true:=decide_eq_true (by omega)
  rw [hj]
  refine .yes i j (by omega) b3 ⟨by omega,b2 (by omega)⟩ (fun k' j' q1 q2 hh=>?_) fun k' hk hh=>?_
  .rcases Nat.lt_or_ge k' i with z | z
   .exact a1 k' j' (by omega) q2 ⟨z,hh.2⟩
   .have:k'=i:=by have:=hh.1; omega
    rw [this] at hh
    exact b1 j' q1 q2 hh.2
  .exact a1 k' j hlt b3 ⟨hk,hh.2⟩
 .rcases Nat.eq_zero_or_pos most with hz | hz
  .subst hz
   have hj0:j=0:=by omega
   subst hj0
   have hk:kind=0\/True:=.inr trivial
   generalize hr:((((kind:Nat):Int),((0:Nat):Int),decide (0<0)):Int × Int × Bool)=r at h ⊢
   cases h with
   | no h =>
     refine .no fun k' j' h1 h2 hh=>?_
     rcases Nat.lt_or_ge k' i with z | z
     .exact a1 k' j' (by omega) h2 ⟨z,hh.2⟩
     .have:k'=i:=by have:=hh.1; omega
      rw [this] at hh
      exact b1 j' (by omega) h2 hh.2
   | yes k2 j2 h1 h2 h3 h4 h5 =>
     exfalso
     have e2:(0:Nat)=j2:=by have:=congrArg (fun x=>x.2.1) hr; simp at this; omega
     omega
  .have hj:decide (0<most)=true:=decide_eq_true hz
   rw [hj]
   obtain ⟨c1,c2⟩:=a2 hz
   refine .yes kind most (by omega) a3 ⟨by have:=c1.1; omega,c1.2⟩ (fun k' j' q1 q2 hh=>?_) fun k' hk hh=>?_
   .rcases Nat.lt_or_ge k' i with z | z
    .exact a1 k' j' q1 q2 ⟨z,hh.2⟩
    .have:k'=i:=by have:=hh.1; omega
     rw [this] at hh
     exact b1 j' (by omega) q2 hh.2
   .have:=c1.1
    exact c2 k' hk ⟨by omega,hh.2⟩
theorem bld_free:∀ (t:Ptn) (nx n:Nat),t.fit->∀ s∈(bld t nx n).1,s.free.length<=100
 | .cls L,nx,n,hf,s,h=>by
   have hf:L.length<=24:=hf
   simp only [bld] at h
   split at h
   .obtain ⟨r,_,rfl⟩:=List.mem_map.1 h; simp [clsS5]
   .rcases List.mem_append.1 h with h | h
    .obtain ⟨r,_,rfl⟩:=List.mem_map.1 h; simp [clsS5]
    .have:=List.mem_singleton.1 h; rw [this]; simp [forkS]; omega
 | .join a b,nx,n,hf,s,h=>by
   simp only [bld] at h
   rcases List.mem_append.1 h with h | h
   .exact bld_free b _ _ hf.2 s h
   .exact bld_free a _ _ hf.1 s h
 | .alt a b,nx,n,hf,s,h=>by
   simp only [bld] at h
   rcases List.mem_append.1 h with h | h
   .rcases List.mem_append.1 h with h | h
    .exact bld_free a _ _ hf.1 s h
    .exact bld_free b _ _ hf.2 s h
   .have:=List.mem_singleton.1 h; rw [this]; simp [forkS]
 | .star a,nx,n,hf,s,h=>by
   simp only [bld] at h
   rcases List.mem_cons.1 h with h | h
   .rw [h]; simp [forkS]
   .exact bld_free a _ _ hf s h
 | .plus a,nx,n,hf,s,h=>by
   simp only [bld] at h
   rcases List.mem_cons.1 h with h | h
   .rw [h]; simp [forkS]
   .exact bld_free a _ _ hf s h
 | .may a,nx,n,hf,s,h=>by
   simp only [bld] at h
   rcases List.mem_append.1 h with h | h
   .exact bld_free a _ _ hf s h
   .have:=List.mem_singleton.1 h; rw [this]; simp [forkS]
theorem ofM_small:∀ (ts:List (List It)) (k:Nat) (f:List Int) (tl:List St),(∀ l∈ts,GoodP l)->(∀ s∈tl,s.free.length<=100)->(ofM ts k f tl).1.length=f.length+ts.length/\(ofM ts k f tl).2.length<=tl.length+1300*ts.length/\∀ s∈(ofM ts k f tl).2,s.free.length<=100
 | [],k,f,tl,hg,h=>⟨by simp [ofM],by simp [ofM],h⟩
 | l :: ts,k,f,tl,hg,h=>by
   have hgl:=hg l (by simp)
   have hfit:(treeD l).fit:=fit_of _ (by rw [hgl.it]; exact hgl.rg)
   have hbl:=bld_len (treeD l) (tl.length+1) (tl.length+2) hfit
   have hit:(treeD l).items.length<=47:=by rw [hgl.it]; exact hgl.ln
   obtain ⟨h1,h2,h3⟩:=ofM_small ts (k+1) (f++[((bld (treeD l) (tl.length+1) (tl.length+2)).2:Int)]) (tl++endS k :: (bld (treeD l) (tl.length+1) (tl.length+2)).1) (fun l' hl'=>hg l' (by simp [hl'])) (fun s hs=>by
    rcases List.mem_append.1 hs with q | q
    .exact h s q
    .rcases List.mem_cons.1 q with q | q
     .rw [q]; simp [endS]
     .exact bld_free _ _ _ hfit s q)
   rw [ofM]
   refine ⟨by rw [h1]; simp; omega,?_,h3⟩
   simp only [List.length_append,List.length_cons] at h2 ⊢
   omega
theorem nfaM_small {pats:List (List It)} (hg:∀ l∈pats,GoodP l) (hp:pats.length<=50):(nfaM pats).length<=900000/\∀ x,(stAt (nfaM pats) x).free.length<=1000000:=by
 obtain ⟨h1,h2,h3⟩:=ofM_small pats 0 [] [] hg (fun s hs=>by cases hs)
 refine ⟨?_,fun x=>?_⟩
 .unfold nfaM; simp only [List.length_cons,List.length_nil] at h2 ⊢; omega
 .unfold stAt
  cases hx:(nfaM pats)[x]? with
  | none=>simp [st0]
  | some s =>
    have hm:=List.mem_of_getElem? hx
    unfold nfaM at hm
    rcases List.mem_cons.1 hm with q | q
    .rw [q]; simp only [Option.getD_some,forkS,h1]; simp; omega
    .have:=h3 s q
     simp only [Option.getD_some]; omega
theorem good_of {pats:List (List It)} (h:∀ l∈pats,∃ s,parseR s=some l):(∀ l∈pats,GoodP l)/\(∀ l∈pats,said (treeD l).text l=true)/\∀ l∈pats,(treeD l).okT:=by
 refine ⟨fun l hl=>?_,fun l hl=>?_,fun l hl=>?_⟩
 .obtain ⟨s,hs⟩:=h l hl; exact parse_good hs
 .obtain ⟨s,hs⟩:=h l hl; exact parse_said hs
 .obtain ⟨s,hs⟩:=h l hl
  have hg:=parse_good hs
  exact okT_of _ (by rw [hg.it]; exact hg.ok)
end Go.Ew
namespace Go.Proofs.YtfhjkkbaghanhaaGreat
open Go.Ev Go.Ew
namespace Va
section
variable (ok : EnvOk (env Tryz.prog))
include ok
theorem c11p {pats:List (List It)} {a:OA} {c:Nat} {H:KH} {Q:PQ} (hp:PtR H pats a) (hpar:∀ l∈pats,∃ s,parseR s=some l) (hs:pats.length<=50)
 (hq:∀ a' c' H',Le H H'->SsN H' (nfaM pats) a'->Q (.slice a' (nfaM pats).length c') H'):Does (env Tryz.prog) 23 [.slice a pats.length c] H Q:=by
 obtain ⟨g1,g2,g3⟩:=good_of hpar
 exact c23 ok hp g1 hs (fun ⟨l,h1,h2⟩=>by rw [g2 l h1] at h2; cases h2) fun _ a' c' H' hl hst=>hq a' c' H' hl hst
end
end Va
end Go.Proofs.YtfhjkkbaghanhaaGreat
namespace Go.Ew
open Go.Ev Go.Deep
def bC (f:List Bool):List Value:=f.map .bool
theorem bC_len (f:List Bool):(bC f).length=f.length:=by simp [bC]
theorem bC_app (f g:List Bool):bC (f++g)=bC f++bC g:=by simp [bC]
theorem bC_at {f:List Bool} {k:Nat} {x:Bool} (h:f[k]? = some x):((bC f).drop (k*1)).take 1=[.bool x]:=dropTake rfl fun j hj=>by
 match j,hj with
 | 0,_=>simp [bC,h]
theorem bC_rep (n:Nat):bC (List.replicate n false)=lrep [.bool false] n:=by
 induction n with
 | zero=>rfl
 | succ n ih=>rw [List.replicate_succ]; show .bool false :: bC (List.replicate n false) = .bool false :: lrep [.bool false] n; rw [ih]
def BR (H:KH) (f:List Bool) (a:OA):Prop:=kold H 1 a f.length=some (bC f)
theorem BR.mono {H H':KH} (hl:Le H H') {f:List Bool} {a:OA} (h:BR H f a):BR H' f a:=hl.kold h
theorem BR.at_ {H:KH} {f:List Bool} {a:OA} (h:BR H f a) {i:Nat} (hi:i<f.length):∃ b o,a=some ⟨b,o,none⟩/\ld H ⟨b,o+i*1,none⟩ [.bool f[i]]:=by
 obtain ⟨b,o,e,r⟩:=rowAddr h (by omega)
 have:=r (i*1) 1 (by omega)
 rw [bC_at (show f[i]? = some f[i] by simp [hi])] at this
 exact ⟨b,o,e,this⟩
structure BW (H0 H:KH) (p:Nat) (f:List Bool):Prop where
 le:Le H0 H
 nw:H0 p=none
 ex:∃ e,H p=some e/\wrB e=true/\rd e.cells 0 f.length=some (bC f)
theorem BW.new {H:KH} {p n:Nat} (h:H p=none):BW H (H.new p (mkEnt (lrep [.bool false] n) 0)) p (List.replicate n false):=by
 refine ⟨Le.new h,h,_,if_pos rfl,rfl,?_⟩
 rw [bC_rep,List.length_replicate]
 have hn:n=(lrep [Value.bool false] n).length:=by rw [lrep_length]; simp
 exact rd_some hn.symm fun j v hv=>by rw [Nat.zero_add]; simp only [mkEnt,tget_wr_nil]; exact hv
theorem BW.br {H0 H:KH} {p:Nat} {f:List Bool} (h:BW H0 H p f):BR H f (some ⟨p,0,none⟩):=by
 obtain ⟨e,h1,h2,h3⟩:=h.ex
 exact kold_some.2 ⟨e,h1,by rw [Nat.mul_one]; exact h3⟩
theorem BW.may {H0 H:KH} {p:Nat} {f:List Bool} (h:BW H0 H p f):KH.may H p:=by
 obtain ⟨e,h1,h2,h3⟩:=h.ex
 exact ⟨e,h1,h2⟩
theorem BW.ld {H0 H:KH} {p:Nat} {f:List Bool} (h:BW H0 H p f) {i:Nat} (hi:i<f.length):ld H ⟨p,0+i*1,none⟩ [.bool f[i]]:=by
 obtain ⟨b,o,e,r⟩:=h.br.at_ hi
 cases e
 exact r
theorem BW.put {H0 H:KH} {p:Nat} {f:List Bool} (h:BW H0 H p f) {i:Nat} (hi:i<f.length) (x:Bool):BW H0 (H.put ⟨p,0+i*1,none⟩ [.bool x]) p (f.set i x):=by
 obtain ⟨e,h1,h2,h3⟩:=h.ex
 refine ⟨fun k e' q=>put_ne (fun z=>by subst z; rw [h.nw] at q; cases q) (h.le k e' q),h.nw,⟨wr e.cells (0+i*1) [.bool x],e.len,e.unk,none⟩,by simp only [KH.put,if_true,h1,Option.map_some],wrB_keep h2,?_⟩
 have hsp:bC f=bC (f.take i)++[.bool f[i]]++bC (f.drop (i+1)):=by
  have:f=f.take i++[f[i]]++f.drop (i+1):=by
   rw [List.append_assoc]
   have h2:[f[i]]++f.drop (i+1)=f.drop i:=by rw [List.drop_eq_getElem_cons hi]; rfl
   rw [h2,List.take_append_drop]
  have h3:=congrArg bC this
  rw [bC_app,bC_app] at h3
  exact h3
 have hst:bC (f.set i x)=bC (f.take i)++[.bool x]++bC (f.drop (i+1)):=by
  rw [List.set_eq_take_append_cons_drop,if_pos hi]
  simp [bC]
 rw [hst,List.length_set]
 exact rdWr (ys:=[.bool f[i]]) (by rw [h3,hsp]) (by rw [bC_len,List.length_take]; omega) rfl
def orB:List Bool->List Bool->List Bool
 | x :: f,y :: g=>(x||y) :: orB f g
 | _,_=>[]
theorem orB_len:∀ {f g:List Bool},f.length=g.length->(orB f g).length=f.length
 | [],g,h=>rfl
 | x :: f,[],h=>by simp at h
 | x :: f,y :: g,h=>by simp [orB,orB_len (show f.length=g.length by simpa using h)]
theorem orB_at:∀ {f g:List Bool} {i:Nat},f.length=g.length->((orB f g)[i]? = some true↔f[i]? = some true\/g[i]? = some true)
 | [],[],i,h=>by simp [orB]
 | [],y :: g,i,h=>by simp at h
 | x :: f,[],i,h=>by simp at h
 | x :: f,y :: g,0,h=>by simp [orB]
 | x :: f,y :: g,i+1,h=>by
   have:=orB_at (f:=f) (g:=g) (i:=i) (by simpa using h)
   simpa [orB] using this
end Go.Ew
namespace Go.Proofs.YtfhjkkbaghanhaaGreat
open Go.Ev Go.Ew
namespace Va
section
variable (ok : EnvOk (env Tryz.prog))
include ok
theorem c62 {l:List It} {a:OA} {c k:Nat} {H:KH} {Q:PQ} (hi:ItR H l a) (hk:k+1<=l.length) (hl:l.length<=1000) (hq:Q (.int .i64 ((stB (l.take (k+1)).reverse 1:Nat):Int)) H):Does (env Tryz.prog) 62 [.slice a l.length c,.int .i64 ((k:Nat):Int)] H Q:=by
 obtain ⟨cs,hc,hit⟩:=hi
 refine fn62 ok ?_
 unfold vc62 vc62_L2
 refine ⟨fun n3 a4 n5 n6 x7 x8 H9=>a4=a/\n5=l.length/\H9=H/\∃ (i m:Nat),x7=m/\x8=(i:Int)-1/\i=n3/\i<=k+1/\1<=m/\m<=k+2-i/\stB (l.take i).reverse m=stB (l.take (k+1)).reverse 1,⟨k+1,rfl,rfl,rfl,k+1,1,rfl,by omega,rfl,by omega,by omega,by omega,rfl⟩,?_⟩
 rintro n3 a4 n5 n6 x7 x8 H9 ⟨rfl,rfl,rfl,i,m,rfl,rfl,rfl,hik,hm1,hm2,hst⟩
 refine ⟨fun hlt=>?_,fun hge=>?_⟩
 .have hlt:1<=i:=by have:=of_decide_eq_true hlt; omega
  obtain ⟨j,rfl⟩:∃ j,i=j+1:=⟨i-1,by omega⟩
  have e0:Int.toNat (((j+1:Nat):Int)-1)=j:=by omega
  have ej:((j+1:Nat):Int)-1=(j:Nat):=by omega
  have hj:j<l.length:=by omega
  have hIn:l[j]? = some (l[j].1,l[j].2):=by simp [hj]
  obtain ⟨b1,o1,e1,r1⟩:=rowAddr hc (by omega)
  have g1:=r1 (j*2) 2 (by omega)
  obtain ⟨ar,cr,f1,f2⟩:=ItC_at hit hIn
  rw [f1] at g1
  have g2:=ldSub g1 0 1 (by simp)
  have ht:(l.take (j+1)).reverse=l[j] :: (l.take j).reverse:=by
   rw [List.take_succ_eq_append_getElem hj,List.reverse_append]; rfl
  have hlen:(l.take j).reverse.length=j:=by rw [List.length_reverse,List.length_take]; omega
  rw [ht,stB,hlen] at hst
  have w1:IntKind.wrap .i64 ((m:Nat)-1:Int)=((m-1:Nat):Int):=by rw [wrap64 (by omega) (by omega)]; omega
  have w2:IntKind.wrap .i64 ((m:Nat)+1:Int)=((m+1:Nat):Int):=by rw [wrap64 (by omega) (by omega)]; omega
  have w3:IntKind.wrap .i64 (((j+1:Nat):Int)-1-1)=(j:Nat)-1:=by rw [wrap64 (by omega) (by omega)]; omega
  rw [e0,w1,w2,w3]
  refine ⟨⟨by omega,by omega⟩,b1,o1,e1,rfl,l[j].1,by simpa using g2,fun q=>?_,fun q=>⟨fun q2=>?_,fun q2=>⟨fun q3=>?_,fun q3=>?_⟩⟩⟩
  .have q:=of_decide_eq_true q
   rw [if_pos q] at hst
   refine ⟨fun z=>?_,fun z=>?_⟩
   .have z:m-1=0:=by have:=of_decide_eq_true z; omega
    rw [if_pos z] at hst
    rw [ej,hst]; exact hq
   .have z:¬ m-1=0:=by have:=of_decide_eq_false z; omega
    rw [if_neg z] at hst
    exact ⟨j,by omega,rfl,rfl,rfl,j,m-1,rfl,rfl,rfl,by omega,by omega,by omega,hst⟩
  .have q:=of_decide_eq_false q
   have q2:=of_decide_eq_true q2
   rw [if_neg q,if_pos (show l[j].1=2\/l[j].1=3 from .inl q2),if_neg (by omega)] at hst
   refine ⟨fun z=>?_,fun z=>⟨j,by omega,rfl,rfl,rfl,j,m+1,rfl,rfl,rfl,by omega,by omega,by omega,hst⟩⟩
   have z:=of_decide_eq_true z; omega
  .have q:=of_decide_eq_false q
   have q3:=of_decide_eq_true q3
   rw [if_neg q,if_pos (show l[j].1=2\/l[j].1=3 from .inr q3),if_neg (by omega)] at hst
   refine ⟨fun z=>?_,fun z=>⟨j,by omega,rfl,rfl,rfl,j,m+1,rfl,rfl,rfl,by omega,by omega,by omega,hst⟩⟩
   have z:=of_decide_eq_true z; omega
  .have q:=of_decide_eq_false q
   have q2:=of_decide_eq_false q2
   have q3:=of_decide_eq_false q3
   rw [if_neg q,if_neg (show ¬ (l[j].1=2\/l[j].1=3) from fun z=>z.elim q2 q3),if_neg (by omega)] at hst
   refine ⟨fun z=>?_,fun z=>⟨j,by omega,rfl,rfl,rfl,j,m,rfl,rfl,rfl,by omega,by omega,by omega,hst⟩⟩
   have z:=of_decide_eq_true z; omega
 .have hge:i=0:=by have:=of_decide_eq_false hge; omega
  subst hge
  have:stB (l.take 0).reverse m=0:=rfl
  rw [this] at hst
  rw [<- hst] at hq
  exact hq
theorem c63 {f g:List Bool} {a b:OA} {c d:Nat} {H:KH} {Q:PQ} (hf:BR H f a) (hg:BR H g b) (hl:g.length=f.length) (hs:f.length<=1000)
 (hq:∀ a' c' H',Le H H'->BR H' (orB f g) a'->Q (.slice a' f.length c') H'):Does (env Tryz.prog) 63 [.slice a f.length c,.slice b f.length d] H Q:=by
 refine fn63 ok ⟨⟨by omega,by omega,by omega⟩,fun n1 h1=>?_⟩
 have en:Int.toNat ((f.length:Nat):Int)=f.length:=by omega
 have hlo:(orB f g).length=f.length:=orB_len hl.symm
 unfold vc63_L1
 rw [en]
 refine ⟨fun n3 a4 n5 n6 a7 n8 n9 a10 n11 n12 x13 H14=>a4=a/\n5=f.length/\a7=b/\n8=f.length/\a10=some ⟨n1,0,none⟩/\n11=f.length/\∃ (i:Nat) (r:List Bool),x13=i/\i<=f.length/\n3=f.length-i/\BW H H14 n1 r/\r.length=f.length/\r.take i=(orB f g).take i,
  ⟨f.length,rfl,rfl,rfl,rfl,rfl,rfl,0,List.replicate f.length false,rfl,by omega,rfl,BW.new h1,by simp,rfl⟩,?_⟩
 rintro n3 a4 n5 n6 a7 n8 n9 a10 n11 n12 x13 H14 ⟨rfl,rfl,rfl,rfl,rfl,rfl,i,r,rfl,hi,rfl,hw,hr,ht⟩
 refine ⟨fun hlt=>?_,fun hge=>?_⟩
 .have hlt:i<f.length:=by have:=of_decide_eq_true hlt; omega
  have e0:Int.toNat ((i:Nat):Int)=i:=by omega
  have hwr:IntKind.wrap .i64 (((i:Nat):Int)+1)=((i+1:Nat):Int):=by rw [wrap64 (by omega) (by omega)]; omega
  rw [e0,hwr]
  obtain ⟨b1,o1,e1,g1⟩:=(hf.mono hw.le).at_ hlt
  obtain ⟨b2,o2,e2,g2⟩:=(hg.mono hw.le).at_ (show i<g.length by omega)
  have hli:i<r.length:=by omega
  have stp:∀ x,x=(f[i]||g[i]'(by omega))->(r.set i x).take (i+1)=(orB f g).take (i+1):=fun x hx=>by
   have h1:(r.set i x).take (i+1)=r.take i++[x]:=by
    rw [List.take_succ_eq_append_getElem (by rw [List.length_set]; exact hli),List.take_set_of_le (Nat.le_refl _)]
    simp
   have h2:(orB f g).take (i+1)=(orB f g).take i++[(orB f g)[i]'(by omega)]:=List.take_succ_eq_append_getElem (by omega)
   rw [h1,h2,ht]
   congr 2
   rw [hx]
   have h3:=orB_at (f:=f) (g:=g) (i:=i) hl.symm
   rw [List.getElem?_eq_getElem (show i<(orB f g).length by omega),List.getElem?_eq_getElem hlt,List.getElem?_eq_getElem (show i<g.length by omega)] at h3
   simp only [Option.some.injEq] at h3
   rw [Bool.eq_iff_iff,h3]
   simp
  refine ⟨⟨by omega,by omega⟩,b1,o1,e1,f[i],g1,fun q=>?_,fun q=>?_⟩
  .exact ⟨⟨by omega,by omega⟩,n1,0,rfl,⟨[.bool (r[i]'hli)],rfl,hw.ld hli⟩,hw.may,f.length-(i+1),by omega,rfl,rfl,rfl,rfl,rfl,rfl,i+1,_,rfl,by omega,rfl,hw.put hli true,by rw [List.length_set]; exact hr,stp true (by rw [q]; simp)⟩
  .exact ⟨⟨by omega,by omega⟩,b2,o2,e2,g[i],g2,⟨by omega,by omega⟩,n1,0,rfl,⟨[.bool (r[i]'hli)],rfl,hw.ld hli⟩,hw.may,f.length-(i+1),by omega,rfl,rfl,rfl,rfl,rfl,rfl,i+1,_,rfl,by omega,rfl,hw.put hli g[i],by rw [List.length_set]; exact hr,stp g[i] (by rw [q]; simp)⟩
 .have hge:i=f.length:=by have:=of_decide_eq_false hge; omega
  subst hge
  have:r=orB f g:=by
   rw [List.take_of_length_le (by omega),List.take_of_length_le (by omega)] at ht
   exact ht
  subst this
  exact hq _ _ H14 hw.le hw.br
end
end Va
end Go.Proofs.YtfhjkkbaghanhaaGreat
namespace Go.Ew
open Go.Ev Go.Deep
theorem items_pos:∀ t:Ptn,1<=t.items.length
 | .cls _=>by simp [Ptn.items]
 | .join _ _=>by simp [Ptn.items]; omega
 | .alt _ _=>by simp [Ptn.items]; omega
 | .star _=>by simp [Ptn.items]
 | .plus _=>by simp [Ptn.items]
 | .may _=>by simp [Ptn.items]
theorem ItC.split {X:KH}:∀ {l m:List It} {cs:List Value},ItC X (l++m) cs->ItC X l (cs.take (l.length*2))/\ItC X m (cs.drop (l.length*2))
 | [],m,cs,h=>⟨by simp [ItC],by simpa using h⟩
 | i :: l,m,cs,h=>by
   obtain ⟨a,c,ds,h1,h2,h3⟩:=h
   obtain ⟨q1,q2⟩:=ItC.split (l:=l) (m:=m) h3
   have e:(i :: l).length*2=l.length*2+2:=by simp; omega
   rw [e,h1]
   exact ⟨⟨a,c,_,by simp,h2,q1⟩,by simpa using q2⟩
theorem ItR.lo {H:KH} {l m:List It} {a:OA} {c:Nat} (hi:ItR H (l++m) a) (ho:SlOk H 2 a (l++m).length c) :
 ∃ a' c',kslice H 2 a (l++m).length c none (some (.int .i64 ((l.length:Nat):Int)))=some (.slice a' l.length c')/\ItR H l a'/\SlOk H 2 a' l.length c':=by
 obtain ⟨cs,h1,h2⟩:=hi
 obtain ⟨a',c',q1,q2⟩:=cut_lo (k:=l.length) ho h1 (by simp)
 exact ⟨a',c',q1,⟨_,q2,h2.split.1⟩,kslice_ok (by omega) q1⟩
theorem ItR.hi {H:KH} {l m:List It} {a:OA} {c:Nat} (hi:ItR H (l++m) a) (ho:SlOk H 2 a (l++m).length c) :
 ∃ a' c',kslice H 2 a (l++m).length c (some (.int .i64 ((l.length:Nat):Int))) none=some (.slice a' m.length c')/\ItR H m a'/\SlOk H 2 a' m.length c':=by
 obtain ⟨cs,h1,h2⟩:=hi
 obtain ⟨a',c',q1,q2⟩:=cut_hi (k:=l.length) ho h1 (by simp)
 have e:(l++m).length-l.length=m.length:=by simp
 rw [e] at q1 q2
 exact ⟨a',c',q1,⟨_,q2,h2.split.2⟩,kslice_ok (by omega) q1⟩
structure EndsR (s:ByteArray) (t:Ptn) (f r:List Bool):Prop where
 len:r.length=s.size+1
 is:∀ j,j<=s.size->(r[j]? = some true↔∃ i,f[i]? = some true/\Mt s t i j)
theorem EndsR.join {s:ByteArray} {a b:Ptn} {f r1 r2:List Bool} (h1:EndsR s a f r1) (h2:EndsR s b r1 r2):EndsR s (.join a b) f r2:=⟨h2.len,fun j hj=>by
 rw [h2.is j hj]
 constructor
 .rintro ⟨k,q1,q2⟩
  have hk:k<=s.size:=Nat.le_trans (Mt.le b k j q2) hj
  obtain ⟨i,z1,z2⟩:=(h1.is k hk).1 q1
  exact ⟨i,z1,k,z2,q2⟩
 .rintro ⟨i,z1,k,z2,q2⟩
  have hk:k<=s.size:=Nat.le_trans (Mt.le b k j q2) hj
  exact ⟨k,(h1.is k hk).2 ⟨i,z1,z2⟩,q2⟩⟩
theorem EndsR.alt {s:ByteArray} {a b:Ptn} {f r1 r2:List Bool} (h1:EndsR s a f r1) (h2:EndsR s b f r2):EndsR s (.alt a b) f (orB r1 r2):=by
 have hl:r1.length=r2.length:=by rw [h1.len,h2.len]
 refine ⟨by rw [orB_len hl,h1.len],fun j hj=>?_⟩
 rw [orB_at hl,h1.is j hj,h2.is j hj]
 constructor
 .rintro (⟨i,z1,z2⟩ | ⟨i,z1,z2⟩)
  .exact ⟨i,z1,.inl z2⟩
  .exact ⟨i,z1,.inr z2⟩
 .rintro ⟨i,z1,z2 | z2⟩
  .exact .inl ⟨i,z1,z2⟩
  .exact .inr ⟨i,z1,z2⟩
theorem EndsR.may {s:ByteArray} {a:Ptn} {f r:List Bool} (hf:f.length=s.size+1) (h:EndsR s a f r):EndsR s (.may a) f (orB f r):=by
 have hl:f.length=r.length:=by rw [h.len,hf]
 refine ⟨by rw [orB_len hl,hf],fun j hj=>?_⟩
 rw [orB_at hl,h.is j hj]
 constructor
 .rintro (z | ⟨i,z1,z2⟩)
  .exact ⟨j,z,.inl rfl⟩
  .exact ⟨i,z1,.inr z2⟩
 .rintro ⟨i,z1,z2 | z2⟩
  .subst z2; exact .inl z1
  .exact .inr ⟨i,z1,z2⟩
structure PowR (s:ByteArray) (t:Ptn) (f:List Bool) (k:Nat) (r:List Bool):Prop where
 len:r.length=s.size+1
 is:∀ j,j<=s.size->(r[j]? = some true↔∃ i,f[i]? = some true/\∃ n,1<=n/\n<=k/\MoN (Mt s t) n i j)
theorem PowR.one {s:ByteArray} {t:Ptn} {f r:List Bool} (h:EndsR s t f r):PowR s t f 1 r:=⟨h.len,fun j hj=>by
 rw [h.is j hj]
 constructor
 .rintro ⟨i,z1,z2⟩; exact ⟨i,z1,1,by omega,by omega,.one _ _ z2⟩
 .rintro ⟨i,z1,n,q1,q2,q3⟩
  cases q3 with
  | one _ _ h=>exact ⟨i,z1,h⟩
  | more n i k j h r =>
    exfalso
    cases h<;>omega⟩
theorem PowR.more {s:ByteArray} {t:Ptn} {f r r':List Bool} {k:Nat} (hk:1<=k) (h:PowR s t f k r) (g:EndsR s t r r'):PowR s t f (k+1) (orB r r'):=by
 have hl:r.length=r'.length:=by rw [h.len,g.len]
 refine ⟨by rw [orB_len hl,h.len],fun j hj=>?_⟩
 rw [orB_at hl,g.is j hj]
 constructor
 .rintro (z | ⟨m,z1,z2⟩)
  .obtain ⟨i,q1,n,q2,q3,q4⟩:=(h.is j hj).1 z
   exact ⟨i,q1,n,q2,by omega,q4⟩
  .have hm:m<=s.size:=Nat.le_trans (Mt.le t m j z2) hj
   obtain ⟨i,q1,n,q2,q3,q4⟩:=(h.is m hm).1 z1
   exact ⟨i,q1,n+1,by omega,by omega,.more _ _ _ _ q4 z2⟩
 .rintro ⟨i,q1,n,q2,q3,q4⟩
  rcases Nat.lt_or_ge k n with z | z
  .cases q4 with
   | one _ _ h=>omega
   | more n i m j h1 r1 =>
     have hm:m<=s.size:=Nat.le_trans (Mt.le t m j r1) hj
     exact .inr ⟨m,(h.is m hm).2 ⟨i,q1,n,by omega,by omega,h1⟩,r1⟩
  .exact .inl ((h.is j hj).2 ⟨i,q1,n,q2,z,q4⟩)
theorem PowR.plus {s:ByteArray} {t:Ptn} {f r:List Bool} (h:PowR s t f (s.size+2) r):EndsR s (.plus t) f r:=⟨h.len,fun j hj=>by
 rw [h.is j hj]
 constructor
 .rintro ⟨i,z1,z2⟩; exact ⟨i,z1,(plus_few (Mt.le t) hj).2 z2⟩
 .rintro ⟨i,z1,z2⟩; exact ⟨i,z1,(plus_few (Mt.le t) hj).1 z2⟩⟩
theorem PowR.star {s:ByteArray} {t:Ptn} {f r:List Bool} (hf:f.length=s.size+1) (h:PowR s t f (s.size+2) r):EndsR s (.star t) f (orB f r):=by
 have hl:f.length=r.length:=by rw [h.len,hf]
 refine ⟨by rw [orB_len hl,hf],fun j hj=>?_⟩
 rw [orB_at hl,h.is j hj]
 constructor
 .rintro (z | ⟨i,z1,z2⟩)
  .exact ⟨j,z,(star_few (Mt.le t) hj).2 (.inl rfl)⟩
  .exact ⟨i,z1,(star_few (Mt.le t) hj).2 (.inr z2)⟩
 .rintro ⟨i,z1,z2⟩
  rcases (star_few (Mt.le t) hj).1 z2 with z | z
  .subst z; exact .inl z1
  .exact .inr ⟨i,z1,z⟩
def ClP (s:ByteArray) (f:List Bool) (L:List Rg) (i k j:Nat):Prop :=
 (∃ i',i'<i/\f[i']? = some true/\(∃ r∈L,r.1<=byteAt s i'/\byteAt s i'<=r.2)/\j=i'+1)\/(f[i]? = some true/\j=i+1/\∃ r∈L.take k,r.1<=byteAt s i/\byteAt s i<=r.2)
structure ClR (s:ByteArray) (f:List Bool) (L:List Rg) (i k:Nat) (r:List Bool):Prop where
 len:r.length=s.size+1
 is:∀ j,r[j]? = some true↔ClP s f L i k j
theorem ClR.zero {s:ByteArray} {f:List Bool} {L:List Rg}:ClR s f L 0 0 (List.replicate (s.size+1) false):=⟨by simp,fun j=>by
 constructor
 .intro h
  exfalso
  rw [List.getElem?_replicate] at h
  split at h<;>simp at h
 .rintro (⟨i',h,_⟩ | ⟨_,_,r,h,_⟩)
  .omega
  .simp at h⟩
theorem ClR.skip {s:ByteArray} {f:List Bool} {L:List Rg} {i k:Nat} {r:List Bool} (h:ClR s f L i k r) (hf:f[i]?≠some true\/k=L.length):ClR s f L (i+1) 0 r:=⟨h.len,fun j=>by
 rw [h.is j]
 unfold ClP
 constructor
 .rintro (⟨i',z1,z2⟩ | ⟨z1,z2,z3⟩)
  .exact .inl ⟨i',by omega,z2⟩
  .rcases hf with u | u
   .exact absurd z1 u
   .subst u
    rw [List.take_length] at z3
    exact .inl ⟨i,by omega,z1,z3,z2⟩
 .rintro (⟨i',z1,z2,z3,z4⟩ | ⟨_,_,r,h,_⟩)
  .rcases Nat.lt_or_ge i' i with u | u
   .exact .inl ⟨i',u,z2,z3,z4⟩
   .have:i'=i:=by omega
    subst this
    rcases hf with u | u
    .exact absurd z2 u
    .subst u
     exact .inr ⟨z2,z4,by rw [List.take_length]; exact z3⟩
  .simp at h⟩
theorem ClR.out {s:ByteArray} {f:List Bool} {L:List Rg} {i k:Nat} {r:List Bool} (h:ClR s f L i k r) (hk:k<L.length) (hno:¬ (L[k].1<=byteAt s i/\byteAt s i<=L[k].2)):ClR s f L i (k+1) r:=⟨h.len,fun j=>by
 rw [h.is j]
 unfold ClP
 have:(∃ r∈L.take (k+1),r.1<=byteAt s i/\byteAt s i<=r.2)↔∃ r∈L.take k,r.1<=byteAt s i/\byteAt s i<=r.2:=by
  rw [List.take_succ_eq_append_getElem hk]
  constructor
  .rintro ⟨r,z1,z2⟩
   rcases List.mem_append.1 z1 with u | u
   .exact ⟨r,u,z2⟩
   .have:r=L[k]:=by simpa using u
    rw [this] at z2
    exact absurd z2 hno
  .rintro ⟨r,z1,z2⟩
   exact ⟨r,List.mem_append.2 (.inl z1),z2⟩
 rw [this]⟩
theorem ClR.hit {s:ByteArray} {f:List Bool} {L:List Rg} {i k:Nat} {r:List Bool} (h:ClR s f L i k r) (hi:i<s.size) (hk:k<L.length) (hf:f[i]? = some true) (hy:L[k].1<=byteAt s i/\byteAt s i<=L[k].2):ClR s f L i (k+1) (r.set (i+1) true):=⟨by rw [List.length_set]; exact h.len,fun j=>by
 have hm:L[k]∈L.take (k+1):=by
  rw [List.take_succ_eq_append_getElem hk]; exact List.mem_append.2 (.inr (List.mem_singleton.2 rfl))
 by_cases hj:j=i+1
 .subst hj
  rw [List.getElem?_set_self (by rw [h.len]; omega)]
  exact ⟨fun _=>.inr ⟨hf,rfl,_,hm,hy⟩,fun _=>rfl⟩
 .rw [List.getElem?_set_ne (fun z=>hj z.symm),h.is j]
  unfold ClP
  constructor
  .rintro (z | ⟨_,z2,_⟩)
   .exact .inl z
   .exact absurd z2 hj
  .rintro (z | ⟨_,z2,_⟩)
   .exact .inl z
   .exact absurd z2 hj⟩
theorem ClR.ends {s:ByteArray} {f:List Bool} {L:List Rg} {r:List Bool} (h:ClR s f L s.size 0 r):EndsR s (.cls L) f r:=⟨h.len,fun j hj=>by
 rw [h.is j]
 unfold ClP
 constructor
 .rintro (⟨i',z1,z2,z3,z4⟩ | ⟨_,_,r,h,_⟩)
  .exact ⟨i',z2,z4,z1,z3⟩
  .simp at h
 .rintro ⟨i,z1,z2,z3,z4⟩
  exact .inl ⟨i,z3,z1,z4,z2⟩⟩
end Go.Ew
namespace Go.Proofs.YtfhjkkbaghanhaaGreat
open Go.Ev Go.Ew
namespace Va
section
variable (ok : EnvOk (env Tryz.prog))
include ok
theorem c51t {A:List It} {t:Ptn} {a:OA} {c:Nat} {H:KH} {Q:PQ} (hi:ItR H (A++t.items) a) (hl:(A++t.items).length<=1000) (hq:Q (.int .i64 ((A.length:Nat):Int)) H):Does (env Tryz.prog) 62 [.slice a (A++t.items).length c,.int .i64 (((A++t.items).length-1:Nat):Int)] H Q:=by
 have hp:=items_pos t
 have hp2:1<=(A++t.items).length:=by rw [List.length_append]; omega
 refine c62 ok hi (by omega) hl ?_
 rw [List.take_of_length_le (by omega),stB_tree t A 1 (by omega),if_pos rfl]
 exact hq
omit ok in
theorem c33cls {s:ByteArray} (hs:s.size<=400) {L:List Rg} (hL:L.length<=100) {a b:OA} {c d n1:Nat} {f:List Bool} {H:KH} {Q:PQ} (h1:H n1=none) (hi:ItR H [(1,L)] a) (hf:BR H f b) (hfl:f.length=s.size+1)
 (hq:∀ r a' c' H',Le H H'->BR H' r a'->EndsR s (.cls L) f r->Q (.slice a' (s.size+1) c') H'):vc38_L2 a 1 c s b (s.size+1) d n1 H Q:=by
 obtain ⟨cs,hc,hit⟩:=hi
 have ew:IntKind.wrap .i64 (((s.size:Nat):Int)+1)=((s.size+1:Nat):Int):=by rw [wrap64 (by omega) (by omega)]; omega
 have w1:IntKind.wrap .i64 (((1:Nat):Int)-1)=0:=by decide
 unfold vc38_L2
 rw [ew,Int.toNat_natCast,w1]
 refine ⟨fun n3 a4 n5 n6 s7 a8 n9 n10 a11 n12 n13 x14 x15 H16=>a4=a/\n5=1/\s7=s/\a8=b/\n9=s.size+1/\a11=some ⟨n1,0,none⟩/\n12=s.size+1/\x14=0/\∃ (i:Nat) (r:List Bool),x15=i/\i<=s.size/\n3=s.size-i/\BW H H16 n1 r/\ClR s f L i 0 r,
  ⟨s.size,rfl,rfl,rfl,rfl,rfl,rfl,rfl,rfl,0,List.replicate (s.size+1) false,rfl,by omega,rfl,BW.new h1,ClR.zero⟩,?_⟩
 rintro n3 a4 n5 n6 s7 a8 n9 n10 a11 n12 n13 x14 x15 H16 ⟨rfl,rfl,rfl,rfl,rfl,rfl,rfl,rfl,i,r,rfl,hi,rfl,hw,hr⟩
 refine ⟨fun hlt=>?_,fun hge=>?_⟩
 .have hlt:i<s7.size:=by have:=of_decide_eq_true hlt; omega
  have e0:Int.toNat ((i:Nat):Int)=i:=by omega
  have wi:IntKind.wrap .i64 (((i:Nat):Int)+1)=((i+1:Nat):Int):=by rw [wrap64 (by omega) (by omega)]; omega
  unfold vc38_L1
  refine ⟨fun m3 b4 m5 m6 t7 b8 m9 m10 b11 m12 m13 y14 y15 y16 H17=>b4=a4/\m5=1/\t7=s7/\b8=a8/\m9=s7.size+1/\b11=some ⟨n1,0,none⟩/\m12=s7.size+1/\y14=0/\y15=(i:Nat)/\∃ (k:Nat) (q:List Bool),y16=k/\k<=L.length/\m3=L.length-k/\BW H H17 n1 q/\ClR s7 f L i k q,
   ⟨L.length,rfl,rfl,rfl,rfl,rfl,rfl,rfl,rfl,rfl,0,r,rfl,by omega,rfl,hw,hr⟩,?_⟩
  rintro m3 b4 m5 m6 t7 b8 m9 m10 b11 m12 m13 y14 y15 y16 H17 ⟨rfl,rfl,rfl,rfl,rfl,rfl,rfl,rfl,rfl,k,q,rfl,hk,rfl,hwq,hq2⟩
  obtain ⟨b1,o1,e1,r1⟩:=rowAddr (hwq.le.kold hc) (by simp)
  have g1:=r1 (0*2) 2 (by simp)
  obtain ⟨ar,cr,f1,f2⟩:=ItC_at hit (k:=0) (op:=1) (rg:=L) rfl
  rw [f1] at g1
  have g2:=ldSub g1 1 1 (by simp)
  have g2:ld H17 ⟨b1,o1+0*2+1,none⟩ [.slice ar L.length cr]:=by simpa using g2
  have z0:Int.toNat 0=0:=rfl
  rw [z0,e0,wi]
  have hfi:i<f.length:=by omega
  obtain ⟨b2,o2,e2,g3⟩:=(hf.mono hwq.le).at_ hfi
  have hfl':f[i]? = some f[i]:=by simp [hfi]
  have nxt:∀ {q':List Bool} {K:KH},BW H K n1 q'->ClR t7 f L (i+1) 0 q'->∃ n,n<t7.size-i/\(b4=b4/\1=1/\t7=t7/\b8=b8/\t7.size+1=t7.size+1/\(some ⟨n1,0,none⟩:OA)=some ⟨n1,0,none⟩/\t7.size+1=t7.size+1/\(0:Int)=0/\∃ (i':Nat) (r:List Bool),((i+1:Nat):Int)=i'/\i'<=t7.size/\n=t7.size-i'/\BW H K n1 r/\ClR t7 f L i' 0 r) :=
   fun hb hcl=>⟨t7.size-(i+1),by omega,rfl,rfl,rfl,rfl,rfl,rfl,rfl,rfl,i+1,_,rfl,by omega,rfl,hb,hcl⟩
  refine ⟨⟨by omega,by omega⟩,b1,o1,e1,rfl,ar,_,cr,g2,fun hlk=>⟨⟨by omega,by omega⟩,b2,o2,e2,f[i],g3,fun hb=>?_,fun hb=>?_⟩,fun hlk=>?_⟩
  .have hlk:k<L.length:=by have:=of_decide_eq_true hlk; omega
   have e3:Int.toNat ((k:Nat):Int)=k:=by omega
   have wk:IntKind.wrap .i64 (((k:Nat):Int)+1)=((k+1:Nat):Int):=by rw [wrap64 (by omega) (by omega)]; omega
   have e4:Int.toNat (((i+1:Nat):Int))=i+1:=by omega
   obtain ⟨b5,o5,e5,r5⟩:=rowAddr (hwq.le.kold f2) (by omega)
   have g5:=r5 (k*2) 2 (by omega)
   rw [rgC_at (show L[k]? = some L[k] by simp [hlk])] at g5
   have g6:=ldSub g5 0 1 (by simp)
   have g7:=ldSub g5 1 1 (by simp)
   rw [e3,wk,e4]
   have again:∀ {q':List Bool} {K:KH},BW H K n1 q'->ClR t7 f L i (k+1) q'->∃ n,n<L.length-k/\(b4=b4/\1=1/\t7=t7/\b8=b8/\t7.size+1=t7.size+1/\(some ⟨n1,0,none⟩:OA)=some ⟨n1,0,none⟩/\t7.size+1=t7.size+1/\(0:Int)=0/\((i:Nat):Int)=(i:Nat)/\∃ (k':Nat) (q:List Bool),((k+1:Nat):Int)=k'/\k'<=L.length/\n=L.length-k'/\BW H K n1 q/\ClR t7 f L i k' q) :=
    fun hb hcl=>⟨L.length-(k+1),by omega,rfl,rfl,rfl,rfl,rfl,rfl,rfl,rfl,rfl,k+1,_,rfl,by omega,rfl,hb,hcl⟩
   refine ⟨trivial,⟨by omega,by omega⟩,⟨by omega,by omega⟩,b1,o1,e1,rfl,ar,_,cr,g2,⟨by omega,by omega⟩,b5,o5,e5,rfl,L[k].1,by simpa using g6,fun hlo=>⟨⟨by omega,by omega⟩,⟨by omega,by omega⟩,b1,o1,e1,rfl,ar,_,cr,g2,⟨by omega,by omega⟩,b5,o5,e5,rfl,L[k].2,by simpa using g7,fun hhi=>?_,fun hhi=>?_⟩,fun hlo=>?_⟩
   .have hlo:=of_decide_eq_true hlo
    have hhi:=of_decide_eq_true hhi
    have hql:i+1<q.length:=by rw [hq2.len]; omega
    refine ⟨⟨by omega,by omega⟩,n1,0,rfl,⟨[.bool (q[i+1]'hql)],rfl,hwq.ld hql⟩,hwq.may,again (hwq.put hql true) (hq2.hit hlt hlk (by rw [hfl',hb]) ⟨hlo,hhi⟩)⟩
   .have hhi:=of_decide_eq_false hhi
    exact again hwq (hq2.out hlk fun z=>hhi z.2)
   .have hlo:=of_decide_eq_false hlo
    exact again hwq (hq2.out hlk fun z=>hlo z.1)
  .exact nxt hwq (hq2.skip (.inl (by rw [hfl',hb]; simp)))
  .have hlk:k=L.length:=by have:=of_decide_eq_false hlk; omega
   exact nxt hwq (hq2.skip (.inr hlk))
 .have hge:i=s7.size:=by have:=of_decide_eq_false hge; omega
  subst hge
  exact hq r _ _ H16 hw.le (by have:=hw.br; exact this) hr.ends
end
end Va
end Go.Proofs.YtfhjkkbaghanhaaGreat
namespace Go.Ew
open Go.Ev Go.Deep
theorem ent33 {X:List It} {op:Int} {L:List Rg} {a:OA} {c:Nat} {H H1:KH} (hl:Le H H1) (hi:ItR H (X++[(op,L)]) a) (ho:SlOk H 2 a (X++[(op,L)]).length c) (hX:X.length<=1000) :
 ∃ a1 c1 b o,kslice H1 2 a (X++[(op,L)]).length c none (some (.int .i64 (IntKind.wrap .i64 ((((X++[(op,L)]).length:Nat):Int)-1))))=some (.slice a1 X.length c1)/\ItR H1 X a1/\SlOk H1 2 a1 X.length c1/\a=some ⟨b,o,none⟩/\
  (∀ H2,Le H1 H2->ld H2 ⟨b,(o+Int.toNat ((X.length:Nat):Int)*2)+0,none⟩ [.int .i64 op])/\IntKind.wrap .i64 ((((X++[(op,L)]).length:Nat):Int)-1)=((X.length:Nat):Int):=by
 have hlen:(X++[(op,L)]).length=X.length+1:=by simp
 have w1:IntKind.wrap .i64 ((((X++[(op,L)]).length:Nat):Int)-1)=((X.length:Nat):Int):=by rw [hlen,wrap64 (by omega) (by omega)]; omega
 obtain ⟨a1,c1,k1,k2,k3⟩:=ItR.lo (hi.mono hl) (ho.mono hl)
 obtain ⟨cs,hc,hit⟩:=hi
 obtain ⟨b,o,e,r⟩:=rowAddr hc (by omega)
 rw [w1]
 refine ⟨a1,c1,b,o,k1,k2,k3,e,fun H2 h2=>?_,rfl⟩
 obtain ⟨ar,cr,f1,f2⟩:=ItC_at hit (k:=X.length) (op:=op) (rg:=L) (by simp)
 have g1:=r (X.length*2) 2 (by omega)
 rw [f1] at g1
 have g2:=ldSub g1 0 1 (by simp)
 rw [Int.toNat_natCast]
 exact Le.ld (hl.trans h2) (by simpa using g2)
end Go.Ew
namespace Go.Proofs.YtfhjkkbaghanhaaGreat
open Go.Ev Go.Ew
namespace Va
section
variable (ok : EnvOk (env Tryz.prog))
include ok
theorem c52n {N:Nat} {f g:List Bool} {a b:OA} {c d:Nat} {H:KH} {Q:PQ} (hf:BR H f a) (hg:BR H g b) (h1:f.length=N) (h2:g.length=N) (hs:N<=1000)
 (hq:∀ a' c' H',Le H H'->BR H' (orB f g) a'->Q (.slice a' N c') H'):Does (env Tryz.prog) 63 [.slice a N c,.slice b N d] H Q:=by
 subst h1
 exact c63 ok hf hg h2 hs hq
def Ends33 (s:ByteArray) (t:Ptn):Prop:=∀ {a b:OA} {c d:Nat} {f:List Bool} {H:KH} {Q:PQ},ItR H t.items a->SlOk H 2 a t.items.length c->BR H f b->f.length=s.size+1->
 (∀ r a' c' H',Le H H'->BR H' r a'->EndsR s t f r->Q (.slice a' (s.size+1) c') H')->Does (env Tryz.prog) 38 [.slice a t.items.length c,.string s,.slice b (s.size+1) d] H Q
theorem l33 {s:ByteArray} (hs:s.size<=400) {t:Ptn} (ih:Ends33 s t) {op:Int} {a b a1 a2:OA} {c d c1 c2:Nat} {f r:List Bool} {H:KH} {Q:PQ}
 (hi:ItR H t.items a1) (ho:SlOk H 2 a1 t.items.length c1) (hf:BR H f b) (hfl:f.length=s.size+1) (hr:BR H r a2) (he:EndsR s t f r)
 (w1:IntKind.wrap .i64 ((((t.items++[(op,[])]).length:Nat):Int)-1)=((t.items.length:Nat):Int)) (hop:∃ b o,a=some ⟨b,o,none⟩/\∀ H2,Le H H2->ld H2 ⟨b,(o+Int.toNat ((t.items.length:Nat):Int)*2)+0,none⟩ [.int .i64 op])
 (h4:op=4->∀ r a' c' H',Le H H'->BR H' r a'->EndsR s (.star t) f r->Q (.slice a' (s.size+1) c') H')
 (h5:op≠4->∀ r a' c' H',Le H H'->BR H' r a'->EndsR s (.plus t) f r->Q (.slice a' (s.size+1) c') H') :
 vc38_L5 a (t.items++[(op,[])]).length c s b (s.size+1) d a1 t.items.length c1 a2 (s.size+1) c2 H Q:=by
 obtain ⟨b1,o1,e1,g1⟩:=hop
 unfold vc38_L5
 rw [w1]
 refine ⟨fun n3 a4 n5 n6 s7 a8 n9 n10 x11 a12 n13 n14 a15 n16 n17 x18 H19=>a4=a/\n5=(t.items++[(op,[])]).length/\s7=s/\a8=b/\n9=s.size+1/\x11=((t.items.length:Nat):Int)/\a12=a1/\n13=t.items.length/\n14=c1/\n16=s.size+1/\∃ (k:Nat) (q:List Bool),x18=k/\k<=s.size+1/\n3=s.size+1-k/\Le H H19/\BR H19 q a15/\PowR s t f (k+1) q,
  ⟨s.size+1,rfl,rfl,rfl,rfl,rfl,rfl,rfl,rfl,rfl,rfl,0,r,rfl,by omega,rfl,Le.refl _,hr,.one he⟩,?_⟩
 rintro n3 a4 n5 n6 s7 a8 n9 n10 x11 a12 n13 n14 a15 n16 n17 x18 H19 ⟨rfl,rfl,rfl,rfl,rfl,rfl,rfl,rfl,rfl,rfl,k,q,rfl,hk,rfl,hle,hq,hp⟩
 refine ⟨fun hlt=>?_,fun hge=>?_⟩
 .have hlt:k<=s7.size:=by have:=of_decide_eq_true hlt; omega
  have wk:IntKind.wrap .i64 (((k:Nat):Int)+1)=((k+1:Nat):Int):=by rw [wrap64 (by omega) (by omega)]; omega
  rw [wk]
  refine ih (hi.mono hle) (ho.mono hle) hq hp.len fun r' a' c' H2 hl2 hr' he'=>⟨_,_,_,rfl,c52n ok (hq.mono hl2) hr' hp.len he'.len (by omega) fun a3 c3 H7 hl7 ho7=>⟨_,_,_,rfl,s7.size+1-(k+1),by omega,rfl,rfl,rfl,rfl,rfl,rfl,rfl,rfl,rfl,rfl,k+1,_,rfl,by omega,rfl,hle.trans (hl2.trans hl7),ho7,hp.more (by omega) he'⟩⟩
 .have hge:k=s7.size+1:=by have:=of_decide_eq_false hge; omega
  subst hge
  refine ⟨⟨by omega,by simp; omega⟩,b1,o1,e1,rfl,op,g1 _ hle,fun z=>?_,fun z=>?_⟩
  .have z:=of_decide_eq_true z
   exact c52n ok (hf.mono hle) hq hfl hp.len (by omega) fun a3 c3 H7 hl7 ho7=>⟨_,_,_,rfl,h4 z _ _ _ H7 (hle.trans hl7) ho7 (hp.star hfl)⟩
  .have z:=of_decide_eq_false z
   exact h5 z _ _ _ H19 hle hq hp.plus
theorem c38 {s:ByteArray} (hs:s.size<=400):∀ (t:Ptn),t.fit->t.items.length<=500->Ends33 s t:=by
 have ew:IntKind.wrap .i64 (((s.size:Nat):Int)+1)=((s.size+1:Nat):Int):=by rw [wrap64 (by omega) (by omega)]; omega
 intro t
 induction t with
 | cls L =>
   intro hfit _ a b c d f H Q hi ho hf hfl hq
   have hL:L.length<=24:=hfit
   have hlen:(Ptn.cls L).items.length=1:=rfl
   rw [hlen] at ho ⊢
   refine fn38 ok ⟨⟨by rw [ew]; omega,Int.le_refl _,by rw [ew]; omega⟩,fun n1 h1=>?_⟩
   obtain ⟨a1,c1,b1,o1,k1,k2,k3,e1,g1,w1⟩:=ent33 (X:=[]) (op:=1) (L:=L) (Le.new (e:=mkEnt (lrep [Value.bool false] (s.size+1)) 0) h1) hi ho (by simp)
   have w1:IntKind.wrap .i64 (((1:Nat):Int)-1)=((0:Nat):Int):=w1
   rw [ew,Int.toNat_natCast]
   refine ⟨fun h0=>absurd h0 (by decide),fun _=>⟨a1,_,c1,k1,⟨by rw [w1]; omega,by rw [w1]; omega⟩,b1,o1,e1,rfl,1,by rw [w1]; exact g1 _ (Le.refl _),fun _=>c33cls hs (by omega) h1 hi hf hfl hq,fun q=>absurd q (by decide)⟩⟩
 | join u v ihu ihv =>
   intro hfit hlen a b c d f H Q hi ho hf hfl hq
   have hN:(u.items++v.items++[(2,[])]).length<=500:=hlen
   have hN1:(u.items++v.items++[((2:Int),([]:List Rg))]).length=u.items.length+v.items.length+1:=by simp; omega
   have hX:(u.items++v.items).length=u.items.length+v.items.length:=by simp
   have hpu:=items_pos u
   refine fn38 ok ⟨⟨by rw [ew]; omega,Int.le_refl _,by rw [ew]; omega⟩,fun n1 h1=>?_⟩
   have hH1:=Le.new (e:=mkEnt (lrep [Value.bool false] (s.size+1)) 0) h1
   obtain ⟨a1,c1,b1,o1,k1,k2,k3,e1,g1,w1⟩:=ent33 (X:=u.items++v.items) (op:=2) (L:=[]) hH1 hi ho (by omega)
   have w2:IntKind.wrap .i64 ((((u.items++v.items).length:Nat):Int)-1)=(((u.items++v.items).length-1:Nat):Int):=by rw [wrap64 (by omega) (by omega)]; omega
   rw [ew,Int.toNat_natCast]
   have eN:(Ptn.join u v).items.length=(u.items++v.items++[((2:Int),([]:List Rg))]).length:=rfl
   rw [eN]
   refine ⟨fun h0=>?_,fun _=>⟨a1,_,c1,k1,⟨by rw [w1]; omega,by rw [w1]; omega⟩,b1,o1,e1,rfl,2,by rw [w1]; exact g1 _ (Le.refl _),fun q=>absurd q (by decide),fun _=>⟨fun _=>?_,fun q=>absurd q (by decide)⟩⟩⟩
   .have:=of_decide_eq_true h0; omega
   rw [w1,w2]
   obtain ⟨a10,c8,p1,p2,p3⟩:=k2.hi k3
   obtain ⟨a13,qq13,q1,q2,q3⟩:=k2.lo k3
   exact c51t ok (A:=u.items) (t:=v) k2 (by omega) ⟨_,rfl,trivial,a10,_,c8,p1,a13,_,qq13,q1,ihu hfit.1 (by omega) q2 q3 (hf.mono hH1) hfl fun r1 a18 c68 H17 l17 br1 er1=>⟨a18,_,c68,rfl,⟨rfl,rfl,⟨a10,_,c8,l17.kslice p1,rfl⟩,rfl,trivial⟩,
    ihv hfit.2 (by omega) (p2.mono l17) (p3.mono l17) br1 er1.len fun r2 a26 c35 H25 l25 br2 er2=>⟨_,_,_,rfl,trivial,hq r2 _ _ H25 (hH1.trans (l17.trans l25)) br2 (er1.join er2)⟩⟩⟩
 | alt u v ihu ihv =>
   intro hfit hlen a b c d f H Q hi ho hf hfl hq
   have hN:(u.items++v.items++[(3,[])]).length<=500:=hlen
   have hN1:(u.items++v.items++[((3:Int),([]:List Rg))]).length=u.items.length+v.items.length+1:=by simp; omega
   have hX:(u.items++v.items).length=u.items.length+v.items.length:=by simp
   have hpu:=items_pos u
   refine fn38 ok ⟨⟨by rw [ew]; omega,Int.le_refl _,by rw [ew]; omega⟩,fun n1 h1=>?_⟩
   have hH1:=Le.new (e:=mkEnt (lrep [Value.bool false] (s.size+1)) 0) h1
   obtain ⟨a1,c1,b1,o1,k1,k2,k3,e1,g1,w1⟩:=ent33 (X:=u.items++v.items) (op:=3) (L:=[]) hH1 hi ho (by omega)
   have w2:IntKind.wrap .i64 ((((u.items++v.items).length:Nat):Int)-1)=(((u.items++v.items).length-1:Nat):Int):=by rw [wrap64 (by omega) (by omega)]; omega
   rw [ew,Int.toNat_natCast]
   have eN:(Ptn.alt u v).items.length=(u.items++v.items++[((3:Int),([]:List Rg))]).length:=rfl
   rw [eN]
   refine ⟨fun h0=>?_,fun _=>⟨a1,_,c1,k1,⟨by rw [w1]; omega,by rw [w1]; omega⟩,b1,o1,e1,rfl,3,by rw [w1]; exact g1 _ (Le.refl _),fun q=>absurd q (by decide),fun _=>⟨fun q=>absurd q (by decide),fun _=>⟨fun _=>?_,fun q=>absurd q (by decide)⟩⟩⟩⟩
   .have:=of_decide_eq_true h0; omega
   rw [w1,w2]
   obtain ⟨a10,c8,p1,p2,p3⟩:=k2.hi k3
   obtain ⟨a13,qq13,q1,q2,q3⟩:=k2.lo k3
   exact c51t ok (A:=u.items) (t:=v) k2 (by omega) ⟨_,rfl,trivial,a13,_,qq13,q1,a10,_,c8,p1,ihu hfit.1 (by omega) q2 q3 (hf.mono hH1) hfl fun r1 a18 c68 H17 l17 br1 er1=>⟨a18,_,c68,rfl,⟨rfl,rfl,⟨a10,_,c8,l17.kslice p1,rfl⟩,rfl,rfl,trivial⟩,
    ihv hfit.2 (by omega) (p2.mono l17) (p3.mono l17) ((hf.mono hH1).mono l17) hfl fun r2 a26 c35 H25 l25 br2 er2=>⟨_,_,_,rfl,trivial,c52n ok (br1.mono l25) br2 er1.len er2.len (by omega) fun a53 c49 H52 l52 br3=>⟨_,_,_,rfl,trivial,hq _ _ _ H52 (hH1.trans (l17.trans (l25.trans l52))) br3 (er1.alt er2)⟩⟩⟩⟩
 | may u ihu =>
   intro hfit hlen a b c d f H Q hi ho hf hfl hq
   have hN:(u.items++[(6,[])]).length<=500:=hlen
   have hN1:(u.items++[((6:Int),([]:List Rg))]).length=u.items.length+1:=by simp
   refine fn38 ok ⟨⟨by rw [ew]; omega,Int.le_refl _,by rw [ew]; omega⟩,fun n1 h1=>?_⟩
   have hH1:=Le.new (e:=mkEnt (lrep [Value.bool false] (s.size+1)) 0) h1
   obtain ⟨a1,c1,b1,o1,k1,k2,k3,e1,g1,w1⟩:=ent33 (X:=u.items) (op:=6) (L:=[]) hH1 hi ho (by omega)
   rw [ew,Int.toNat_natCast]
   have eN:(Ptn.may u).items.length=(u.items++[((6:Int),([]:List Rg))]).length:=rfl
   rw [eN]
   refine ⟨fun h0=>?_,fun _=>⟨a1,_,c1,k1,⟨by rw [w1]; omega,by rw [w1]; omega⟩,b1,o1,e1,rfl,6,by rw [w1]; exact g1 _ (Le.refl _),fun q=>absurd q (by decide),fun _=>⟨fun q=>absurd q (by decide),fun _=>⟨fun q=>absurd q (by decide),fun _=>⟨fun _=>?_,fun q=>absurd q (by decide)⟩⟩⟩⟩⟩
   .have:=of_decide_eq_true h0; omega
   exact ihu hfit (by omega) k2 k3 (hf.mono hH1) hfl fun r1 a18 c68 H17 l17 br1 er1=>⟨_,_,_,rfl,c52n ok ((hf.mono hH1).mono l17) br1 hfl er1.len (by omega) fun a53 c49 H52 l52 br3=>⟨_,_,_,rfl,hq _ _ _ H52 (hH1.trans (l17.trans l52)) br3 (er1.may hfl)⟩⟩
 | star u ihu =>
   intro hfit hlen a b c d f H Q hi ho hf hfl hq
   have hN:(u.items++[(4,[])]).length<=500:=hlen
   have hN1:(u.items++[((4:Int),([]:List Rg))]).length=u.items.length+1:=by simp
   refine fn38 ok ⟨⟨by rw [ew]; omega,Int.le_refl _,by rw [ew]; omega⟩,fun n1 h1=>?_⟩
   have hH1:=Le.new (e:=mkEnt (lrep [Value.bool false] (s.size+1)) 0) h1
   obtain ⟨a1,c1,b1,o1,k1,k2,k3,e1,g1,w1⟩:=ent33 (X:=u.items) (op:=4) (L:=[]) hH1 hi ho (by omega)
   rw [ew,Int.toNat_natCast]
   have eN:(Ptn.star u).items.length=(u.items++[((4:Int),([]:List Rg))]).length:=rfl
   rw [eN]
   refine ⟨fun h0=>?_,fun _=>⟨a1,_,c1,k1,⟨by rw [w1]; omega,by rw [w1]; omega⟩,b1,o1,e1,rfl,4,by rw [w1]; exact g1 _ (Le.refl _),fun q=>absurd q (by decide),fun _=>⟨fun q=>absurd q (by decide),fun _=>⟨fun q=>absurd q (by decide),fun _=>⟨fun q=>absurd q (by decide),fun _=>?_⟩⟩⟩⟩⟩
   .have:=of_decide_eq_true h0; omega
   exact ihu hfit (by omega) k2 k3 (hf.mono hH1) hfl fun r1 a18 c68 H17 l17 br1 er1=>⟨_,_,_,rfl,l33 ok hs (ihu hfit (by omega)) (k2.mono l17) (k3.mono l17) ((hf.mono hH1).mono l17) hfl br1 er1 w1 ⟨b1,o1,e1,fun H2 h2=>g1 _ (l17.trans h2)⟩ (fun _ r a' c' H' hl=>hq r a' c' H' (hH1.trans (l17.trans hl))) (fun z=>absurd rfl z)⟩
 | plus u ihu =>
   intro hfit hlen a b c d f H Q hi ho hf hfl hq
   have hN:(u.items++[(5,[])]).length<=500:=hlen
   have hN1:(u.items++[((5:Int),([]:List Rg))]).length=u.items.length+1:=by simp
   refine fn38 ok ⟨⟨by rw [ew]; omega,Int.le_refl _,by rw [ew]; omega⟩,fun n1 h1=>?_⟩
   have hH1:=Le.new (e:=mkEnt (lrep [Value.bool false] (s.size+1)) 0) h1
   obtain ⟨a1,c1,b1,o1,k1,k2,k3,e1,g1,w1⟩:=ent33 (X:=u.items) (op:=5) (L:=[]) hH1 hi ho (by omega)
   rw [ew,Int.toNat_natCast]
   have eN:(Ptn.plus u).items.length=(u.items++[((5:Int),([]:List Rg))]).length:=rfl
   rw [eN]
   refine ⟨fun h0=>?_,fun _=>⟨a1,_,c1,k1,⟨by rw [w1]; omega,by rw [w1]; omega⟩,b1,o1,e1,rfl,5,by rw [w1]; exact g1 _ (Le.refl _),fun q=>absurd q (by decide),fun _=>⟨fun q=>absurd q (by decide),fun _=>⟨fun q=>absurd q (by decide),fun _=>⟨fun q=>absurd q (by decide),fun _=>?_⟩⟩⟩⟩⟩
   .have:=of_decide_eq_true h0; omega
   exact ihu hfit (by omega) k2 k3 (hf.mono hH1) hfl fun r1 a18 c68 H17 l17 br1 er1=>⟨_,_,_,rfl,l33 ok hs (ihu hfit (by omega)) (k2.mono l17) (k3.mono l17) ((hf.mono hH1).mono l17) hfl br1 er1 w1 ⟨b1,o1,e1,fun H2 h2=>g1 _ (l17.trans h2)⟩ (fun z=>absurd z (by decide)) (fun _ r a' c' H' hl=>hq r a' c' H' (hH1.trans (l17.trans hl)))⟩
end
end Va
end Go.Proofs.YtfhjkkbaghanhaaGreat
namespace Go.Ew
open Go.Ev Go.Deep
theorem has1 {l:List It} {s:ByteArray} {j:Nat}:Has [l] s 0 j↔Mt s (treeD l) 0 j:=by
 constructor
 .rintro ⟨l',h1,h2⟩
  have:l=l':=by simpa using h1
  subst this
  exact h2
 .intro h
  exact ⟨l,rfl,h⟩
theorem LgSpec.single {l:List It} {s:ByteArray} {n k j:Nat} (g:LgSpec (Has [l] s) n (((k:Nat):Int),((j:Nat):Int),decide (0<j))):(∀ j',j<j'->j'<=n->¬ Mt s (treeD l) 0 j')/\(0<j->Mt s (treeD l) 0 j)/\j<=n:=by
 generalize hr:((((k:Nat):Int),((j:Nat):Int),decide (0<j)):Int × Int × Bool)=r at g
 cases g with
 | no h =>
   have hm:j=0:=by
    have:=congrArg (fun x=>x.2.1) hr
    simp at this; omega
   subst hm
   exact ⟨fun j' h1 h2 hh=>h 0 j' (by omega) h2 (has1.2 hh),fun q=>by omega,by omega⟩
 | yes k2 j2 h1 h2 h3 h4 h5 =>
   have e2:j=j2:=by have:=congrArg (fun x=>x.2.1) hr; simp at this; omega
   subst e2
   have hk0:k2=0:=by
    obtain ⟨l',hk',_⟩:=h3
    rcases Nat.eq_zero_or_pos k2 with q | q
    .exact q
    .rw [List.getElem?_eq_none (by simp; omega)] at hk'; cases hk'
   subst hk0
   exact ⟨fun j' q1 q2 hh=>h4 0 j' q1 q2 (has1.2 hh),fun _=>has1.1 h3,h2⟩
theorem LgSpec.allOf {pats:List (List It)} {s:ByteArray} {n:Nat} {r:Int × Int × Bool} (h:LgSpec (HasTo pats s pats.length) n r):LgSpec (Has pats s) n r:=by
 have hk:∀ k j,Has pats s k j->HasTo pats s pats.length k j:=fun k j ⟨l,z,q⟩=>by
  refine ⟨?_,l,z,q⟩
  rcases Nat.lt_or_ge k pats.length with u | u
  .exact u
  .rw [List.getElem?_eq_none u] at z; cases z
 cases h with
 | no h=>exact .no fun k j h1 h2 hh=>h k j h1 h2 (hk k j hh)
 | yes k j h1 h2 h3 h4 h5=>exact .yes k j h1 h2 h3.2 (fun k' j' q1 q2 hh=>h4 k' j' q1 q2 (hk k' j' hh)) fun k' hk' hh=>h5 k' hk' (hk k' j hh)
theorem first_at {n i:Nat} (hn:0<n):((List.replicate n false).set 0 true)[i]? = some true↔i=0:=by
 by_cases h:i=0
 .subst h
  rw [List.getElem?_set_self (by simpa using hn)]
  simp
 .rw [List.getElem?_set_ne (fun z=>h z.symm),List.getElem?_replicate]
  constructor
  .intro q; split at q<;>simp at q
  .intro q; exact absurd q h
end Go.Ew
namespace Go.Proofs.YtfhjkkbaghanhaaGreat
open Go.Ev Go.Ew
namespace Va
section
variable (ok : EnvOk (env Tryz.prog))
include ok
theorem c33p {s:ByteArray} (hs:s.size<=400) {l:List It} (hg:GoodP l) {a b:OA} {c d:Nat} {f:List Bool} {H:KH} {Q:PQ} (hi:ItR H l a) (ho:SlOk H 2 a l.length c) (hf:BR H f b) (hfl:f.length=s.size+1)
 (hq:∀ r a' c' H',Le H H'->BR H' r a'->EndsR s (treeD l) f r->Q (.slice a' (s.size+1) c') H'):Does (env Tryz.prog) 38 [.slice a l.length c,.string s,.slice b (s.size+1) d] H Q:=by
 have hit:=hg.it
 have hln:=hg.ln
 have h:Ends33 s (treeD l):=c38 ok hs (treeD l) (fit_of _ (by rw [hg.it]; exact hg.rg)) (by rw [hit]; omega)
 unfold Ends33 at h
 rw [hit] at h
 exact h hi ho hf hfl hq
theorem c24 {pats:List (List It)} (hpar:∀ l∈pats,∃ s,parseR s=some l) (hp:pats.length<=50) {a:OA} {c:Nat} {s:ByteArray} {H:KH} {Q:PQ} (hP:PtR H pats a) (hs:s.size<=400)
 (hq:∀ (k j:Nat) H',Le H H'->LgSpec (Has pats s) s.size (((k:Nat):Int),((j:Nat):Int),decide (0<j))->Q (.tuple #[.int .i64 ((k:Nat):Int),.int .i64 ((j:Nat):Int),.bool (decide (0<j))]) H'):Does (env Tryz.prog) 24 [.slice a pats.length c,.string s] H Q:=by
 obtain ⟨g1,g2,g3⟩:=good_of hpar
 obtain ⟨cs,hc,hcs⟩:=hP
 have ew:IntKind.wrap .i64 (((s.size:Nat):Int)+1)=((s.size+1:Nat):Int):=by rw [wrap64 (by omega) (by omega)]; omega
 refine fn24 ok ?_
 unfold vc24 vc24_L3
 refine ⟨fun n3 a4 n5 n6 s7 x8 x9 x10 H11=>a4=a/\n5=pats.length/\s7=s/\Le H H11/\∃ (i kind most:Nat),x10=i/\i<=pats.length/\n3=pats.length-i/\x8=kind/\x9=most/\most<=s.size/\LgSpec (HasTo pats s i) s.size (((kind:Nat):Int),((most:Nat):Int),decide (0<most)),
  ⟨pats.length,rfl,rfl,rfl,Le.refl _,0,0,0,rfl,by omega,rfl,rfl,rfl,by omega,.no fun k j _ _ hh=>by have:=hh.1; omega⟩,?_⟩
 rintro n3 a4 n5 n6 s7 x8 x9 x10 H11 ⟨rfl,rfl,rfl,hle,i,kind,most,rfl,hi,rfl,rfl,rfl,hmost,hspec⟩
 refine ⟨fun hlt=>?_,fun hge=>?_⟩
 .have hlt:i<pats.length:=by have:=of_decide_eq_true hlt; omega
  have hpi:pats[i]? = some pats[i]:=by simp [hlt]
  have hmem:=List.getElem_mem hlt
  have e0:Int.toNat ((i:Nat):Int)=i:=by omega
  rw [ew,Int.toNat_natCast,e0]
  refine ⟨⟨by omega,by omega,by omega⟩,fun n1 h1=>?_⟩
  have hw:=BW.new (n:=s7.size+1) h1
  have hl0:0<(List.replicate (s7.size+1) false).length:=by simp
  have hw2:=hw.put hl0 true
  have hH:=hle.trans hw2.le
  obtain ⟨ai,ci,q1,q2,q3⟩:=hcs.get2 hpi
  obtain ⟨b1,o1,e1,r1⟩:=rowAddr (hH.kold hc) (by omega)
  have r2:=r1 (i*1) 1 (by omega)
  have e2:(cs.drop (i*1)).take 1=[.slice ai pats[i].length ci]:=dropTake rfl fun j hj=>by
   match j,hj with
   | 0,_=>simpa using q1
  rw [e2] at r2
  refine ⟨⟨by omega,by omega⟩,n1,0,rfl,⟨[.bool ((List.replicate (s7.size+1) false)[0]'hl0)],rfl,hw.ld hl0⟩,hw.may,⟨by omega,by omega⟩,b1,o1,e1,ai,_,ci,r2,c33p ok hs (g1 _ hmem) (q2.mono hH) (q3.mono hH) hw2.br (by simp) fun r a12 c24' H11' l11 br er=>⟨a12,_,c24',rfl,?_⟩⟩
  have hrj:∀ j,j<=s7.size->(r[j]? = some true↔Mt s7 (treeD pats[i]) 0 j):=fun j hj=>by
   rw [er.is j hj]
   constructor
   .rintro ⟨i',z1,z2⟩
    have:=(first_at (by omega)).1 z1
    subst this
    exact z2
   .intro z
    exact ⟨0,(first_at (by omega)).2 rfl,z⟩
  -- the longest of this one
  obtain ⟨k1,j1,hr1,hj1⟩:=(nfaL_spec (pats:=[pats[i]]) (fun l hl=>by
   have:l=pats[i]:=by simpa using hl
   rw [this]; exact g3 _ hmem) (by simp) (s:=s7) (by omega)).sh
  have hsp1:=nfaL_spec (pats:=[pats[i]]) (fun l hl=>by
   have:l=pats[i]:=by simpa using hl
   rw [this]; exact g3 _ hmem) (by simp) (s:=s7) (by omega)
  rw [hr1] at hsp1
  obtain ⟨t1,t2,t3⟩:=hsp1.single
  obtain ⟨s1,s2⟩:=each_step hpi hspec hsp1
  have wi:IntKind.wrap .i64 (((i:Nat):Int)+1)=((i+1:Nat):Int):=by rw [wrap64 (by omega) (by omega)]; omega
  unfold vc24_L1
  refine ⟨fun m3 b4 m5 m6 t7 y8 y9 y10 b11 m12 m13 y14 H15=>b4=a4/\m5=pats.length/\t7=s7/\y10=(i:Nat)/\b11=a12/\m12=s7.size+1/\H15=H11'/\((∃ j:Nat,y14=j/\j=m3/\j<=s7.size/\most<=j/\y8=kind/\y9=most/\∀ j',j<j'->j'<=s7.size->¬ Mt s7 (treeD pats[i]) 0 j')\/(y8=(i:Nat)/\y9=(j1:Nat)/\most<j1/\y14=(j1:Nat)-1)),
   ⟨s7.size,rfl,rfl,rfl,rfl,rfl,rfl,rfl,.inl ⟨s7.size,rfl,rfl,by omega,hmost,rfl,rfl,fun j' z1 z2=>by omega⟩⟩,?_⟩
  rintro m3 b4 m5 m6 t7 y8 y9 y10 b11 m12 m13 y14 H15 ⟨rfl,rfl,rfl,rfl,rfl,rfl,rfl,hst⟩
  refine ⟨fun hlt2=>?_,fun hge2=>?_⟩
  .have hlt2:=of_decide_eq_true hlt2
   rcases hst with ⟨j,rfl,rfl,hj,hmj,rfl,rfl,hno⟩ | ⟨rfl,rfl,z3,rfl⟩
   .have hjr:j<r.length:=by rw [er.len]; omega
    have ej:Int.toNat ((j:Nat):Int)=j:=by omega
    have wj:IntKind.wrap .i64 (((j:Nat):Int)-1)=((j-1:Nat):Int):=by rw [wrap64 (by omega) (by omega)]; omega
    obtain ⟨b2,o2,e3,g4⟩:=br.at_ hjr
    rw [ej,wj]
    refine ⟨⟨by omega,by omega⟩,b2,o2,e3,r[j],g4,fun hb=>?_,fun hb=>?_⟩
    .have hM:Mt t7 (treeD pats[i]) 0 j:=(hrj j hj).1 (by rw [List.getElem?_eq_getElem hjr,hb])
     have hjj:j=j1:=by
      rcases Nat.lt_trichotomy j j1 with u | u | u
      .exact absurd (t2 (by omega)) (hno j1 u hj1)
      .exact u
      .exact absurd hM (t1 j u hj)
     subst hjj
     exact ⟨j-1,by omega,rfl,rfl,rfl,rfl,rfl,rfl,rfl,.inr ⟨rfl,rfl,by omega,by omega⟩⟩
    .have hM:¬ Mt t7 (treeD pats[i]) 0 j:=fun z=>by
      have:=(hrj j hj).2 z
      rw [List.getElem?_eq_getElem hjr,hb] at this
      cases this
     exact ⟨j-1,by omega,rfl,rfl,rfl,rfl,rfl,rfl,rfl,.inl ⟨j-1,rfl,rfl,by omega,by omega,rfl,rfl,fun j' z1 z2=>by
      rcases Nat.lt_or_ge j j' with u | u
      .exact hno j' u z2
      .have:j'=j:=by omega
       rw [this]; exact hM⟩⟩
   .omega
  .have hge2:=of_decide_eq_false hge2
   rw [wi]
   rcases hst with ⟨j,rfl,rfl,hj,hmj,rfl,rfl,hno⟩ | ⟨rfl,rfl,z3,rfl⟩
   .have hjm:j1<=most:=by
     rcases Nat.lt_or_ge most j1 with u | u
     .exact absurd (t2 (by omega)) (hno j1 (by omega) hj1)
     .exact u
    exact ⟨pats.length-(i+1),by omega,rfl,rfl,rfl,hH.trans l11,i+1,kind,most,rfl,by omega,rfl,rfl,rfl,hmost,s2 hjm⟩
   .exact ⟨pats.length-(i+1),by omega,rfl,rfl,rfl,hH.trans l11,i+1,i,j1,rfl,by omega,rfl,rfl,rfl,hj1,s1 z3⟩
 .have hge:i=pats.length:=by have:=of_decide_eq_false hge; omega
  subst hge
  have:=hq kind most H11 hle hspec.allOf
  have hd:decide ((0:Int)<((most:Nat):Int))=decide (0<most):=by rw [Bool.eq_iff_iff]; simp
  rw [hd]
  exact this
end
end Va
end Go.Proofs.YtfhjkkbaghanhaaGreat
namespace Go.Ew
open Go.Ev Go.Deep
def clsN:List It->Nat
 | []=>0
 | i :: l=>(if i.1=1 then 1 else 0)+clsN l
theorem clsN_app:∀ a b:List It,clsN (a++b)=clsN a+clsN b
 | [],b=>by simp [clsN]
 | i :: a,b=>by
   simp only [List.cons_append,clsN,clsN_app a b]
   omega
def clsAll:List (List It)->Nat
 | []=>0
 | l :: r=>clsN l+clsAll r
structure StN (Z:List Int) (M:Int) (s:St):Prop where
 lo:0<=s.lo/\s.lo<=255
 hi:0<=s.hi/\s.hi<=255
 nx:s.next = -1\/s.next∈Z
 e:0<=s.e/\s.e<=M
theorem StN.mono {Z Z':List Int} {M M':Int} {s:St} (h:StN Z M s) (hz:∀ x∈Z,x∈Z') (hm:M<=M'):StN Z' M' s:=⟨h.lo,h.hi,h.nx.imp id (hz _),h.e.1,by have:=h.e.2; omega⟩
theorem fork_ok (f:List Int) (Z:List Int) {M:Int} (hM:0<=M):StN Z M (forkS f):=⟨⟨by simp [forkS],by simp [forkS]⟩,⟨by simp [forkS],by simp [forkS]⟩,.inl rfl,⟨by simp [forkS],by simpa [forkS] using hM⟩⟩
theorem cls_ok {r:Rg} (h:okRg r) (nx:Nat):StN [(nx:Int)] 0 (clsS5 nx r):=by
 obtain ⟨h1,h2,h3⟩:=h
 exact ⟨⟨by simp only [clsS5]; omega,by simp only [clsS5]; omega⟩,⟨by simp only [clsS5]; omega,by simp only [clsS5]; omega⟩,.inr (by simp [clsS5]),⟨by simp [clsS5],by simp [clsS5]⟩⟩
theorem bld_ok:∀ (t:Ptn) (nx n:Nat),t.okT->∃ Z:List Int,Z.length<=clsN t.items/\∀ s∈(bld t nx n).1,StN Z 0 s
 | .cls L,nx,n,h=>by
   refine ⟨[(nx:Int)],by simp [Ptn.items,clsN],fun s hs=>?_⟩
   simp only [bld] at hs
   split at hs
   .obtain ⟨r,hr,rfl⟩:=List.mem_map.1 hs; exact cls_ok (h.2 r hr) nx
   .rcases List.mem_append.1 hs with hs | hs
    .obtain ⟨r,hr,rfl⟩:=List.mem_map.1 hs; exact cls_ok (h.2 r hr) nx
    .rw [List.mem_singleton.1 hs]; exact fork_ok _ _ (Int.le_refl _)
 | .join a b,nx,n,h=>by
   obtain ⟨Z1,z1,z2⟩:=bld_ok b nx n h.2
   obtain ⟨Z2,z3,z4⟩:=bld_ok a (bld b nx n).2 (n+(bld b nx n).1.length) h.1
   refine ⟨Z1++Z2,by simp only [Ptn.items,clsN_app,List.length_append]; omega,fun s hs=>?_⟩
   simp only [bld] at hs
   rcases List.mem_append.1 hs with hs | hs
   .exact (z2 s hs).mono (fun x hx=>List.mem_append_left _ hx) (Int.le_refl _)
   .exact (z4 s hs).mono (fun x hx=>List.mem_append_right _ hx) (Int.le_refl _)
 | .alt a b,nx,n,h=>by
   obtain ⟨Z1,z1,z2⟩:=bld_ok a nx n h.1
   obtain ⟨Z2,z3,z4⟩:=bld_ok b nx (n+(bld a nx n).1.length) h.2
   refine ⟨Z1++Z2,by simp only [Ptn.items,clsN_app,List.length_append]; omega,fun s hs=>?_⟩
   simp only [bld] at hs
   rcases List.mem_append.1 hs with hs | hs
   .rcases List.mem_append.1 hs with hs | hs
    .exact (z2 s hs).mono (fun x hx=>List.mem_append_left _ hx) (Int.le_refl _)
    .exact (z4 s hs).mono (fun x hx=>List.mem_append_right _ hx) (Int.le_refl _)
   .rw [List.mem_singleton.1 hs]; exact fork_ok _ _ (Int.le_refl _)
 | .star a,nx,n,h=>by
   obtain ⟨Z1,z1,z2⟩:=bld_ok a n (n+1) h
   refine ⟨Z1,by simp only [Ptn.items,clsN_app]; omega,fun s hs=>?_⟩
   simp only [bld] at hs
   rcases List.mem_cons.1 hs with hs | hs
   .rw [hs]; exact fork_ok _ _ (Int.le_refl _)
   .exact z2 s hs
 | .plus a,nx,n,h=>by
   obtain ⟨Z1,z1,z2⟩:=bld_ok a n (n+1) h
   refine ⟨Z1,by simp only [Ptn.items,clsN_app]; omega,fun s hs=>?_⟩
   simp only [bld] at hs
   rcases List.mem_cons.1 hs with hs | hs
   .rw [hs]; exact fork_ok _ _ (Int.le_refl _)
   .exact z2 s hs
 | .may a,nx,n,h=>by
   obtain ⟨Z1,z1,z2⟩:=bld_ok a nx n h
   refine ⟨Z1,by simp only [Ptn.items,clsN_app]; omega,fun s hs=>?_⟩
   simp only [bld] at hs
   rcases List.mem_append.1 hs with hs | hs
   .exact z2 s hs
   .rw [List.mem_singleton.1 hs]; exact fork_ok _ _ (Int.le_refl _)
theorem ofM_ok:∀ (ts:List (List It)) (k:Nat) (f:List Int) (tl:List St) (Z:List Int),(∀ l∈ts,(treeD l).okT/\(treeD l).items=l)->(∀ s∈tl,StN Z (k:Nat) s)->
 ∃ Z':List Int,Z'.length<=Z.length+clsAll ts/\∀ s∈(ofM ts k f tl).2,StN Z' ((k+ts.length:Nat):Int) s
 | [],k,f,tl,Z,hg,h=>⟨Z,by simp [clsAll],by simpa [ofM] using h⟩
 | l :: ts,k,f,tl,Z,hg,h=>by
   obtain ⟨hok,hit⟩:=hg l (by simp)
   obtain ⟨Z1,z1,z2⟩:=bld_ok (treeD l) (tl.length+1) (tl.length+2) hok
   rw [hit] at z1
   obtain ⟨Z',z3,z4⟩:=ofM_ok ts (k+1) (f++[((bld (treeD l) (tl.length+1) (tl.length+2)).2:Int)]) (tl++endS k :: (bld (treeD l) (tl.length+1) (tl.length+2)).1) (Z++Z1) (fun l' hl'=>hg l' (by simp [hl'])) (fun s hs=>by
    rcases List.mem_append.1 hs with q | q
    .exact (h s q).mono (fun x hx=>List.mem_append_left _ hx) (by omega)
    .rcases List.mem_cons.1 q with q | q
     .rw [q]; exact ⟨⟨by simp [endS],by simp [endS]⟩,⟨by simp [endS],by simp [endS]⟩,.inl rfl,⟨by simp only [endS]; omega,by simp only [endS]; omega⟩⟩
     .exact (z2 s q).mono (fun x hx=>List.mem_append_right _ hx) (by omega))
   refine ⟨Z',by simp only [clsAll,List.length_append] at z3 ⊢; omega,fun s hs=>?_⟩
   rw [ofM] at hs
   have:=z4 s hs
   rwa [show k+1+ts.length=k+(l :: ts).length by simp; omega] at this
theorem nfaM_ok {pats:List (List It)} (hpar:∀ l∈pats,∃ s,parseR s=some l):∃ Z:List Int,Z.length<=clsAll pats/\∀ s∈nfaM pats,StN Z (pats.length:Nat) s:=by
 obtain ⟨g1,g2,g3⟩:=good_of hpar
 obtain ⟨Z,z1,z2⟩:=ofM_ok pats 0 [] [] [] (fun l hl=>⟨g3 l hl,(g1 l hl).it⟩) (fun s hs=>by cases hs)
 refine ⟨Z,by simpa using z1,fun s hs=>?_⟩
 unfold nfaM at hs
 rcases List.mem_cons.1 hs with q | q
 .rw [q]; exact fork_ok _ _ (by omega)
 .simpa using z2 s q
theorem nfaM_byte {pats:List (List It)} (hpar:∀ l∈pats,∃ s,parseR s=some l):ByteS (nfaM pats):=by
 obtain ⟨Z,_,z⟩:=nfaM_ok hpar
 exact fun s hs=>⟨(z s hs).lo,(z s hs).hi⟩
def subs:List Nat->List (List Nat)
 | []=>[[]]
 | x :: l=>subs l++(subs l).map (x :: ·)
theorem subs_len:∀ l:List Nat,(subs l).length=2 ^ l.length
 | []=>rfl
 | x :: l=>by
   simp only [subs,List.length_append,List.length_map,subs_len l,List.length_cons,Nat.pow_succ]
   omega
theorem filter_subs (p:Nat->Bool):∀ l:List Nat,l.filter p∈subs l
 | []=>by simp [subs]
 | x :: l=>by
   have ih:=filter_subs p l
   simp only [subs,List.mem_append,List.mem_map]
   by_cases h:p x=true
   .rw [List.filter_cons_of_pos h]; exact .inr ⟨_,ih,rfl⟩
   .rw [List.filter_cons_of_neg h]; exact .inl ih
def once:List Nat->List Nat
 | []=>[]
 | x :: l=>if x∈once l then once l else x :: once l
theorem once_mem:∀ (l:List Nat) (y:Nat),y∈once l↔y∈l
 | [],y=>by simp [once]
 | x :: l,y=>by
   have ih:=once_mem l
   simp only [once]
   split
   .rename_i h
    rw [ih]
    constructor
    .exact fun z=>by simp [z]
    .intro z
     rcases List.mem_cons.1 z with z | z
     .rw [z]; exact (ih x).1 h
     .exact z
   .simp only [List.mem_cons,ih]
theorem once_nod:∀ l:List Nat,(once l).Nodup
 | []=>by simp [once]
 | x :: l=>by
   have ih:=once_nod l
   simp only [once]
   split
   .exact ih
   .rename_i h; exact List.nodup_cons.2 ⟨h,ih⟩
theorem once_len:∀ l:List Nat,(once l).length<=l.length
 | []=>by simp [once]
 | x :: l=>by
   have ih:=once_len l
   simp only [once]
   split<;>simp only [List.length_cons]<;>omega
theorem pigeon {α β:Type} {R:α->β->Prop} (hR:∀ t u m,R t m->R u m->t=u):∀ (l:List α) (A:List β),l.Nodup->(∀ t∈l,∃ m∈A,R t m)->l.length<=A.length
 | [],A,_,_=>by simp
 | t :: l,A,hn,h=>by
   obtain ⟨m,hm,hr⟩:=h t (by simp)
   obtain ⟨A1,A2,rfl⟩:=List.append_of_mem hm
   have hn:=List.nodup_cons.1 hn
   have:=pigeon hR l (A1++A2) hn.2 fun u hu=>by
    obtain ⟨m',hm',hr'⟩:=h u (by simp [hu])
    refine ⟨m',?_,hr'⟩
    rcases List.mem_append.1 hm' with z | z
    .exact List.mem_append_left _ z
    .rcases List.mem_cons.1 z with z | z
     .subst z
      exact absurd (by rw [hR t u m' hr hr']; exact hu) hn.1
     .exact List.mem_append_right _ z
   simp only [List.length_append,List.length_cons] at this ⊢
   omega
def SgR (S:List St) (t:ByteArray):Option (List Nat)->Prop
 | none=>∃ bs,t=strB bs/\Bits S.length bs (begM S)
 | some M=>∃ bs,t=strB bs/\Bits S.length bs (clM S M)
theorem few_rows {pats:List (List It)} (hpar:∀ l∈pats,∃ s,parseR s=some l) {ts:List ByteArray} (hk:KsOk (nfaM pats) ts) (h:300<ts.length):8<clsAll pats:=by
 obtain ⟨Z,z1,z2⟩:=nfaM_ok hpar
 generalize hS:nfaM pats=S at *
 rcases Nat.lt_or_ge 8 (clsAll pats) with q | q
 .exact q
 exfalso
 let NX:=once (Z.map Int.toNat)
 have hNX:NX.length<=8:=by
  have:=once_len (Z.map Int.toNat)
  rw [List.length_map] at this
  show (once (Z.map Int.toNat)).length<=8
  omega
 have:=pigeon (R:=SgR S) (fun t u m h1 h2=>by
  cases m with
  | none =>
    obtain ⟨bs,rfl,h1⟩:=h1
    obtain ⟨cs,rfl,h2⟩:=h2
    rw [h1.ext h2 fun x=>Iff.rfl]
  | some M =>
    obtain ⟨bs,rfl,h1⟩:=h1
    obtain ⟨cs,rfl,h2⟩:=h2
    rw [h1.ext h2 fun x=>Iff.rfl]) ts (none :: (subs NX).map some) hk.nod fun t ht=>by
  rcases hk.way t ht with ⟨bs,h1,h2⟩ | ⟨b,K,bs,h1,h2⟩
  .exact ⟨none,by simp,bs,h1,h2⟩
  .have hsub:∀ y∈K.foldl (moveM S ((b:Nat):Int)) [],y∈NX/\y<S.length:=fun y hy=>by
    rcases (moveF_mem K [] y).1 hy with z | ⟨⟨x,x1,x2,x3,x4⟩,x5⟩ | z
    .cases z
    .refine ⟨(once_mem _ _).2 (List.mem_map.2 ⟨(y:Int),?_,by omega⟩),x5⟩
     by_cases hx:x<S.length
     .rcases (z2 _ (stAt_mem hx)).nx with w | w
      .rw [x4] at w; omega
      .rw [<- x4]; exact w
     .have:stAt S x=st0:=by unfold stAt; rw [List.getElem?_eq_none (by omega)]; rfl
      rw [this] at x4
      simp [st0] at x4
    .cases z
   refine ⟨some (NX.filter fun y=>decide (y∈K.foldl (moveM S ((b:Nat):Int)) [])),List.mem_cons_of_mem _ (List.mem_map.2 ⟨_,filter_subs _ _,rfl⟩),bs,h1,?_⟩
   refine h2.of_same (clM_same (moveF_fit K [] (fit_nil _)) ⟨(once_nod _).filter _,fun x hx=>?_⟩ fun y=>?_)
   .exact (hsub x (by simpa using (List.mem_filter.1 hx).2)).2
   .rw [List.mem_filter,decide_eq_true_iff]
    exact ⟨fun z=>⟨(hsub y z).1,z⟩,fun z=>z.2⟩
 rw [List.length_cons,List.length_map,subs_len] at this
 have h2:2 ^ NX.length<=2 ^ 8:=Nat.pow_le_pow_right (by omega) hNX
 omega
theorem clsN_le:∀ l:List It,clsN l<=l.length
 | []=>Nat.le_refl _
 | i :: l=>by
   have:=clsN_le l
   simp only [clsN,List.length_cons]
   split<;>omega
theorem clsAll_app:∀ a b:List (List It),clsAll (a++b)=clsAll a+clsAll b
 | [],b=>by simp [clsAll]
 | i :: a,b=>by
   simp only [List.cons_append,clsAll,clsAll_app a b]
   omega
theorem clsAll_le:∀ (l:List (List It)),(∀ x∈l,x.length<=1000)->clsAll l<=1000*l.length
 | [],_=>Nat.le_refl _
 | i :: l,h=>by
   have h1:=clsAll_le l fun x hx=>h x (by simp [hx])
   have h2:=clsN_le i
   have h3:=h i (by simp)
   simp only [clsAll,List.length_cons]
   omega
theorem lg_eq (g:Nat->Int) (L:Nat) (s:ByteArray):∀ (f i p:Nat) (r:Int × Int × Bool),lg g L s f i p r=dLg g L s f i p r
 | 0,i,p,r=>rfl
 | f+1,i,p,r=>by
   rw [lg,dLg]
   split
   .rfl
   .split
    .rfl
    .exact lg_eq g L s f _ _ _
theorem lgR_eq (g:Nat->Int) (L:Nat) (s:ByteArray):lgR g L s=dLgR g L s:=by
 unfold lgR dLgR
 split
 .rfl
 .exact lg_eq g L s _ _ _ _
theorem IC.mono {H H':KH} {a:OA} {n:Nat} {g:Nat->Int} (h:IC H a n g) (hl:Le H H'):IC H' a n g:=by
 rcases h with h | ⟨b,o,e,h1,h2,h3⟩
 .exact .inl h
 .exact .inr ⟨b,o,e,h1,hl b e h2,h3⟩
theorem KsOk.pos {S:List St} {ts:List ByteArray} (h:KsOk S ts):0<ts.length:=by
 obtain ⟨bs,q,_⟩:=h.fst
 rcases Nat.eq_zero_or_pos ts.length with z | z
 .rw [List.eq_nil_of_length_eq_zero z] at q; cases q
 .exact z
theorem rows_spec {pats:List (List It)} (hpar:∀ l∈pats,∃ s,parseR s=some l) (hp:pats.length<=50) {ts:List ByteArray} {g:Nat->Int} (hk:KsOk (nfaM pats) ts) (hC:RowsC (nfaM pats) ts g ts.length) {s:ByteArray} (hs:s.size<=1000000) :
 ∃ k j:Nat,lgR g ts.length s=(((k:Nat):Int),((j:Nat):Int),decide (0<j))/\LgSpec (Has pats s) s.size (((k:Nat):Int),((j:Nat):Int),decide (0<j))/\j<=s.size:=by
 obtain ⟨g1,g2,g3⟩:=good_of hpar
 obtain ⟨keys,h1,h2⟩:=hC.rows hk
 have hsp:=nfaL_spec g3 (by omega) hs
 have e:lgR g ts.length s=nfaL (nfaM pats) s:=by rw [lgR_eq,<- h1,dLgR_nfa h2]
 rw [<- e] at hsp
 generalize lgR g ts.length s=r at hsp
 cases hsp with
 | no h=>exact ⟨0,0,rfl,.no h,by omega⟩
 | yes k j q1 q2 q3 q4 q5 =>
   have hd:decide (0<j)=true:=decide_eq_true (by omega)
   rw [<- hd]
   exact ⟨k,j,rfl,by rw [hd]; exact .yes k j q1 q2 q3 q4 q5,q2⟩
end Go.Ew
namespace Go.Proofs.YtfhjkkbaghanhaaGreat
open Go.Ev Go.Ew
namespace Va
section
variable (ok : EnvOk (env Tryz.prog))
include ok
theorem c11 {pats:List (List It)} {a:OA} {c:Nat} {H:KH} {Q:PQ} (hP:PtR H pats a) (hp:pats.length<=50) (hl:∀ l∈pats,l.length<=1000)
 (hq:Q (.bool (decide (clsAll pats<=8))) H):Does (env Tryz.prog) 11 [.slice a pats.length c] H Q:=by
 obtain ⟨cs,hc,hcs⟩:=hP
 refine fn11 ok ?_
 unfold vc11 vc11_L2
 refine ⟨fun n3 a4 n5 n6 x7 x8 H9=>a4=a/\n5=pats.length/\H9=H/\∃ i:Nat,x8=i/\i<=pats.length/\n3=pats.length-i/\x7=(clsAll (pats.take i):Nat),⟨pats.length,rfl,rfl,rfl,0,rfl,by omega,rfl,rfl⟩,?_⟩
 rintro n3 a4 n5 n6 x7 x8 H9 ⟨rfl,rfl,rfl,i,rfl,hi,rfl,rfl⟩
 refine ⟨fun hlt=>?_,fun hge=>?_⟩
 .have hlt:i<pats.length:=by have:=of_decide_eq_true hlt; omega
  have hpi:pats[i]? = some pats[i]:=by simp [hlt]
  have hli:=hl _ (List.getElem_mem hlt)
  have hb:=clsAll_le (pats.take i) fun x hx=>hl x (List.mem_of_mem_take hx)
  rw [List.length_take] at hb
  have e0:Int.toNat ((i:Nat):Int)=i:=by omega
  obtain ⟨ai,ci,q1,q2⟩:=hcs.get hpi
  obtain ⟨b1,o1,z1,r1⟩:=rowAddr hc (by omega)
  have g1:=r1 (i*1) 1 (by omega)
  have eg:(cs.drop (i*1)).take 1=[.slice ai pats[i].length ci]:=by rw [Nat.mul_one]; exact sub_eq_one q1
  rw [eg] at g1
  unfold vc11_L1
  refine ⟨fun m3 a4' n5 n6 x7 x8 x9 H10=>a4'=a4/\n5=pats.length/\H10=H9/\x8=(i:Nat)/\∃ k:Nat,x9=k/\k<=pats[i].length/\m3=pats[i].length-k/\x7=((clsAll (pats.take i)+clsN (pats[i].take k):Nat):Int),⟨pats[i].length,rfl,rfl,rfl,rfl,0,rfl,by omega,rfl,by simp [clsN]⟩,?_⟩
  rintro m3 a4' n5 n6 x7 x8 x9 H10 ⟨rfl,rfl,rfl,rfl,k,rfl,hk,rfl,rfl⟩
  rw [e0]
  refine ⟨⟨by omega,by omega⟩,b1,o1,z1,ai,_,ci,g1,fun hlt2=>?_,fun hge2=>?_⟩
  .have hlt2:k<pats[i].length:=by have:=of_decide_eq_true hlt2; omega
   have e1:Int.toNat ((k:Nat):Int)=k:=by omega
   have hki:pats[i][k]? = some pats[i][k]:=by simp [hlt2]
   obtain ⟨b2,o2,ar,cr,hit⟩:=q2.at (op:=pats[i][k].1) (rg:=pats[i][k].2) hki
   have hcl:=clsN_le (pats[i].take k)
   rw [List.length_take] at hcl
   have hsucc:clsN (pats[i].take (k+1))=clsN (pats[i].take k)+if pats[i][k].1=1 then 1 else 0:=by
    rw [List.take_succ_eq_append_getElem hlt2,clsN_app]; simp [clsN]
   have wk:IntKind.wrap .i64 (((k:Nat):Int)+1)=((k+1:Nat):Int):=by rw [wrap64 (by omega) (by omega)]; omega
   rw [e1,wk]
   refine ⟨⟨by omega,by omega⟩,b1,o1,z1,ai,_,ci,g1,⟨by omega,by omega⟩,b2,o2,hit.eq,rfl,_,hit.c0,fun q=>?_,fun q=>?_⟩
   .have q:=of_decide_eq_true q
    rw [if_pos q] at hsucc
    exact ⟨pats[i].length-(k+1),by omega,rfl,rfl,rfl,rfl,k+1,rfl,by omega,rfl,by rw [wrap64 (by omega) (by omega),hsucc]; omega⟩
   .have q:=of_decide_eq_false q
    rw [if_neg q] at hsucc
    exact ⟨pats[i].length-(k+1),by omega,rfl,rfl,rfl,rfl,k+1,rfl,by omega,rfl,by rw [hsucc]; rfl⟩
  .have hge2:k=pats[i].length:=by have:=of_decide_eq_false hge2; omega
   subst hge2
   refine ⟨pats.length-(i+1),by omega,rfl,rfl,rfl,i+1,by rw [wrap64 (by omega) (by omega)]; omega,by omega,rfl,?_⟩
   rw [List.take_length,List.take_succ_eq_append_getElem hlt,clsAll_app]
   simp [clsAll]
 .have hge:i=pats.length:=by have:=of_decide_eq_false hge; omega
  subst hge
  rw [List.take_length]
  have e:decide (((clsAll pats:Nat):Int)<=8)=decide (clsAll pats<=8):=by
   by_cases h:clsAll pats<=8
   .rw [decide_eq_true h,decide_eq_true (by omega)]
   .rw [decide_eq_false h,decide_eq_false (by omega)]
  rw [e]
  exact hq
theorem c9p {pats:List (List It)} (hpar:∀ l∈pats,∃ s,parseR s=some l) (hp:pats.length<=50) {a:OA} {c:Nat} {H:KH} {Q:PQ} (hst:SsN H (nfaM pats) a)
 (hq:∀ ra rc ts g H',Le H H'->IC H' ra (ts.length*257) g->KsOk (nfaM pats) ts->RowsC (nfaM pats) ts g ts.length->ts.length<=300->Q (.slice ra ts.length rc) H')
 (hmany:∀ H',Le H H'->8<clsAll pats->Q (.slice none 0 0) H'):Does (env Tryz.prog) 22 [.slice a (nfaM pats).length c] H Q:=by
 obtain ⟨g1,_,_⟩:=good_of hpar
 obtain ⟨h1,h2⟩:=nfaM_small g1 hp
 exact c22 ok hst (nfaM_byte hpar) (by unfold nfaM; simp) h1 h2 hq fun ts H' l1 l2 l3=>hmany H' l1 (few_rows hpar l2 l3)
omit ok in
theorem few_len {pats:List (List It)} (hpar:∀ l∈pats,∃ s,parseR s=some l):∀ l∈pats,l.length<=1000:=fun l hl=>by
 have:=((good_of hpar).1 l hl).ln
 omega
end
end Va
end Go.Proofs.YtfhjkkbaghanhaaGreat
namespace Go.Proofs.YtfhjkkbaghanhaaGreat
open Go.Ev Go.Ew
namespace Va
def W10 (P:Program):WE:=⟨env P,tupT,[],mkTab [],10⟩
def vc10 (p0:OA) (p0n p0c:Nat) (H:KH) (Q:PQ):Prop :=
 Does (env Tryz.prog) 21 [(.slice p0 p0n p0c)] H fun l k=>∃ (c:(OA)) (d e:Nat) (a:Bool),l=(.tuple #[.slice c d e,.bool a])/\((!a)=true->Q (.tuple #[.slice none 0 0,.bool false]) k)/\((!a)=false->Does (env Tryz.prog) 23 [(.slice c d e)] k fun m n=>∃ (f:(OA)) (g h:Nat),m=(.slice f g h)/\Does (env Tryz.prog) 22 [(.slice f g h)] n fun o p=>∃ (i:(OA)) (b j:Nat),o=(.slice i b j)/\Q (.tuple #[.slice i b j,.bool (decide ((0:Int)<(b:Int)))]) p)
theorem fn10 (ok:EnvOk (env Tryz.prog)) {p0:OA} {p0n p0c:Nat} {H:KH} {Q:PQ} (h:vc10 p0 p0n p0c H Q):Does (env Tryz.prog) 10 [.slice p0 p0n p0c] H Q :=
 wFun_sound (W:=W10 Tryz.prog) ok.tt (blt_lt (by kernel_rfl)) (ff_of ok (by kernel_rfl) Tryz.func10) (Eq.mpr (by kernel_rfl) h)
def W17 (P:Program):WE:=⟨env P,tupT,[6],mkTab [(2000010,[.tmp 5 .bool]),(1000010,[.agg 10 [.int .i64 0,.int .i64 0,.int .i64 0]])],17⟩
def vc17 (p0:OA) (p0n p0c:Nat) (p1:ByteArray) (H:KH) (Q:PQ):Prop :=
 (∀ (b:Nat),((H b):(Option (Ent)))=none->Does (env Tryz.prog) 29 [.slice p0 p0n p0c,.string p1] (KH.new H b (mkEnt [(.slice none 0 0)] 0)) fun ab aa=>∃ (n:Nat) (o:(List Value)),ab=(.func (.func n) #[] (List.toArray o))/\FnIn (env Tryz.prog) n/\∀ (a:Nat) (d:Lp),((aa a):(Option (Ent)))=none->(∀ (h:Int) (i:Int) (j:Int) (c:KH) (p:(PQ)),((c a):(Option (Ent)))=(some (lpE d 0 none))->(∃ (q:(OA)) (r s:Nat),ld (KH.del c a) ⟨b,0,none⟩ [(.slice q r s)]/\∀ (e:Nat),(((KH.del c a) e):(Option (Ent)))=none->∀ (t:Nat),(((KH.new (KH.del c a) e (mkEnt [.int .i64 h,.int .i64 i,.int .i64 j] 0)) t):(Option (Ent)))=none->∃ (u:Nat) (v:(List Value)),((knew (KH.new (KH.del c a) e (mkEnt [.int .i64 h,.int .i64 i,.int .i64 j] 0)) ⟨3,24,true,3,0,0,[(0,1),(1,1),(2,1)],[.int .i64 0,.int .i64 0,.int .i64 0]⟩ (.slice (some ⟨e,0,none⟩) 1 1)):(Option (Nat × (List Value))))=(some (u,v))/\∃ (k:(OA)) (l m:Nat) (f:KH),((kappend (KH.new (KH.del c a) e (mkEnt [.int .i64 h,.int .i64 i,.int .i64 j] 0)) t ⟨3,24,true,3,0,0,[(0,1),(1,1),(2,1)],[.int .i64 0,.int .i64 0,.int .i64 0]⟩ q r s u v):(Option (Value × KH)))=(some (.slice k l m,f))/\(∃ (w:(List Value)),((List.length w):Nat)=(List.length [(Value.slice k l m)])/\ld f ⟨b,0,none⟩ w)/\KH.may f b/\((((KH.put f ⟨b,0,none⟩ [(.slice k l m)]) a):(Option (Ent)))=none->p (.bool true) (KH.new (KH.put f ⟨b,0,none⟩ [(.slice k l m)]) a (lpE d 0 none))))->DoesR (env Tryz.prog) a [(.agg #[.int .i64 h,.int .i64 i,.int .i64 j])] c p)->Does (env Tryz.prog) n ([(.func (.yield a) #[] #[])]++o) (KH.new aa a (lpE d 0 none)) fun ac g=>(((g a):(Option (Ent)))=(some (lpE d 0 none))/\∃ (x:(OA)) (y z:Nat),ld (KH.del g a) ⟨b,0,none⟩ [(.slice x y z)]/\Q (.slice x y z) (KH.del g a))\/((((g a):(Option (Ent)))=(some (lpE d 2 (some .ret)))/\Q (.slice none 0 0) (KH.del g a))\/False))
theorem fn17 (ok:EnvOk (env Tryz.prog)) {p0:OA} {p0n p0c:Nat} {p1:ByteArray} {H:KH} {Q:PQ} (h:vc17 p0 p0n p0c p1 H Q):Does (env Tryz.prog) 17 [.slice p0 p0n p0c,.string p1] H Q :=
 wFun_sound (W:=W17 Tryz.prog) ok.tt (blt_lt (by kernel_rfl)) (ff_of ok (by kernel_rfl) Tryz.func17) (Eq.mpr (by kernel_rfl) h)
def W21 (P:Program):WE:=⟨env P,tupT,[6],mkTab [(0,[.tmp 4 .slice,.tmp 9 .slice,.tmp 10 (.int .i64),.tmp 11 (.int .i64)])],21⟩
def vc21_L2 (y1:OA) (y2 y3:Nat) (y4:KH) (y5:PQ):Prop :=
 (∃ (i:(Nat->OA->Nat->Nat->OA->Nat->Nat->Int->Int->KH->Prop)),(∃ (ac:Nat),i ac none 0 0 y1 y2 y3 (y2:Int) 0 y4)/\∀ (p:Nat) (j:(OA)) (k l:Nat) (m:(OA)) (n q:Nat) (d a:Int) (e:KH),i p j k l m n q d a e->(decide (a<d)=true->((0:Int)<=a/\a<(n:Int))/\∃ (r s:Nat),m=some ⟨r,s,none⟩/\∃ (ad t:ByteArray) (ae:Bool),ld e ⟨r,s+((Int.toNat a)*3),none⟩ [.string ad,.string t,.bool ae]/\Does (env Tryz.prog) 31 [(.string t)] e fun af c=>∃ (f:(OA)) (g h:Nat) (o:Bool),af=(.tuple #[.slice f g h,.bool o])/\((!o)=true->y5 (.tuple #[.slice none 0 0,.bool false]) c)/\((!o)=false->∀ (b:Nat),((c b):(Option (Ent)))=none->∀ (u:Nat),(((KH.new c b (mkEnt [(.slice f g h)] 0)) u):(Option (Ent)))=none->∃ (v:Nat) (w:(List Value)),((knew (KH.new c b (mkEnt [(.slice f g h)] 0)) ⟨1,24,false,1,65,0,[],[(.slice none 0 0)]⟩ (.slice (some ⟨b,0,none⟩) 1 1)):(Option (Nat × (List Value))))=(some (v,w))/\∃ (x:(OA)) (y z:Nat) (aa:KH),((kappend (KH.new c b (mkEnt [(.slice f g h)] 0)) u ⟨1,24,false,1,65,0,[],[(.slice none 0 0)]⟩ j k l v w):(Option (Value × KH)))=(some (.slice x y z,aa))/\∃ (ab:Nat),(ab:Nat)<p/\i ab x y z m n q d (IntKind.wrap .i64 (a+1)) aa))/\(decide (a<d)=false->y5 (.tuple #[.slice j k l,.bool true]) e))
def vc21 (p0:OA) (p0n p0c:Nat) (H:KH) (Q:PQ):Prop :=
 (vc21_L2 p0 p0n p0c H Q)
theorem fn21 (ok:EnvOk (env Tryz.prog)) {p0:OA} {p0n p0c:Nat} {H:KH} {Q:PQ} (h:vc21 p0 p0n p0c H Q):Does (env Tryz.prog) 21 [.slice p0 p0n p0c] H Q :=
 wFun_sound (W:=W21 Tryz.prog) ok.tt (blt_lt (by kernel_rfl)) (ff_of ok (by kernel_rfl) Tryz.func21) (Eq.mpr (by kernel_rfl) h)
def W29 (P:Program):WE:=⟨env P,tupT,[],mkTab [],29⟩
def vc29 (p0:OA) (p0n p0c:Nat) (p1:ByteArray) (H:KH) (Q:PQ):Prop :=
 (∀ (a:Nat),((H a):(Option (Ent)))=none->∀ (b:Nat),(((KH.new H a (mkEnt [(.slice p0 p0n p0c)] 0)) b):(Option (Ent)))=none->Q (.func (.func 44) #[] #[.pointer (some ⟨b,0,none⟩),.pointer (some ⟨a,0,none⟩)]) (KH.new (KH.new H a (mkEnt [(.slice p0 p0n p0c)] 0)) b (mkEnt [(.string p1)] 0)))
theorem fn29 (ok:EnvOk (env Tryz.prog)) {p0:OA} {p0n p0c:Nat} {p1:ByteArray} {H:KH} {Q:PQ} (h:vc29 p0 p0n p0c p1 H Q):Does (env Tryz.prog) 29 [.slice p0 p0n p0c,.string p1] H Q :=
 wFun_sound (W:=W29 Tryz.prog) ok.tt (blt_lt (by kernel_rfl)) (ff_of ok (by kernel_rfl) Tryz.func29) (Eq.mpr (by kernel_rfl) h)
def W44 (P:Program):WE:=⟨env P,tupT,[5],mkTab [(0,[.tmp 0 .yld,.tmp 1 .ptr,.tmp 2 .ptr,.tmp 4 (.int .i64)])],44⟩
def vc44_L1 (y1 y2 y3 y4 y5:Nat) (y6:KH) (y7:PQ):Prop :=
 (∃ (f:(Nat->Nat->Nat->Nat->Nat->Nat->Int->KH->Prop)),(∃ (t:Nat),(none:(Option Nat))=none/\(none:(Option Nat))=none/\f t y1 y2 y3 y4 y5 0 y6)/\∀ (m g d e h i:Nat) (a:Int) (b:KH),f m g d e h i a b->∃ (j:ByteArray),ld b ⟨d,e,none⟩ [(.string j)]/\(((decide (a<(((ByteArray.size j):Nat):Int))):Bool)=true->True/\∃ (n:(OA)) (o p:Nat),ld b ⟨h,i,none⟩ [(.slice n o p)]/\∃ (c:ByteArray),ld b ⟨d,e,none⟩ [(.string c)]/\((0:Int)<=a/\a<=(((ByteArray.size c):Nat):Int)/\((((ByteArray.size c):Nat):Int):Int)<=(((ByteArray.size c):Nat):Int))/\Does (env Tryz.prog) 45 [.slice n o p,.string (strCut c a (((ByteArray.size c):Nat):Int))] b fun v w=>∃ (q u k:Int),v=(.agg #[.int .i64 q,.int .i64 u,.int .i64 k])/\True/\True/\DoesR (env Tryz.prog) g [(.agg #[.int .i64 q,.int .i64 a,.int .i64 k])] w fun x s=>∃ (l:Bool),x=(.bool l)/\((!l)=true->y7 (.tuple #[]) s)/\((!l)=false->∃ (r:Nat),(r:Nat)<m/\(none:(Option Nat))=none/\(none:(Option Nat))=none/\f r g d e h i (IntKind.wrap .i64 (a+k)) s))/\(((decide (a<(((ByteArray.size j):Nat):Int))):Bool)=false->y7 (.tuple #[]) b))
def vc44 (p0 k0b k0o k1b k1o:Nat) (H:KH) (Q:PQ):Prop :=
 (vc44_L1 p0 k0b k0o k1b k1o H Q)
theorem fn44 (ok:EnvOk (env Tryz.prog)) {p0 k0b k0o k1b k1o:Nat} {H:KH} {Q:PQ} (h:vc44 p0 k0b k0o k1b k1o H Q):Does (env Tryz.prog) 44 [.func (.yield p0) #[] #[],.pointer (some ⟨k0b,k0o,none⟩),.pointer (some ⟨k1b,k1o,none⟩)] H Q :=
 wFun_sound (W:=W44 Tryz.prog) ok.tt (blt_lt (by kernel_rfl)) (ff_of ok (by kernel_rfl) Tryz.func44) (Eq.mpr (by kernel_rfl) h)
def W45 (P:Program):WE:=⟨env P,tupT,[4],mkTab [],45⟩
def vc45 (p0:OA) (p0n p0c:Nat) (p1:ByteArray) (H:KH) (Q:PQ):Prop :=
 Does (env Tryz.prog) 68 [.slice p0 p0n p0c,.string p1] H fun e d=>∃ (b c:Int) (a:Bool),e=(.tuple #[.int .i64 b,.int .i64 c,.bool a])/\((!a)=true->Q (.agg #[.int .i64 (-1),.int .i64 0,.int .i64 1]) d)/\((!a)=false->Q (.agg #[.int .i64 b,.int .i64 0,.int .i64 c]) d)
theorem fn45 (ok:EnvOk (env Tryz.prog)) {p0:OA} {p0n p0c:Nat} {p1:ByteArray} {H:KH} {Q:PQ} (h:vc45 p0 p0n p0c p1 H Q):Does (env Tryz.prog) 45 [.slice p0 p0n p0c,.string p1] H Q :=
 wFun_sound (W:=W45 Tryz.prog) ok.tt (blt_lt (by kernel_rfl)) (ff_of ok (by kernel_rfl) Tryz.func45) (Eq.mpr (by kernel_rfl) h)
end Va
end Go.Proofs.YtfhjkkbaghanhaaGreat
