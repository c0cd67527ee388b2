import Derived.Test.YtlgpleiobieniaaEwS4
import Derived.Test.YtlgpleiobieniaaEwKeep0
set_option linter.unusedVariables false
set_option maxRecDepth 100000
namespace Go.Proofs.Ytlgpleiobieniaa
open Go.Ev Go.Ew
namespace Va
def W15 (P:Program):WE:=⟨env P,tupT,[7],mkTab [(0,[.tmp 3 .ptr,.tmp 4 (.int .i64),.tmp 12 .slice,.tmp 13 (.int .i64),.tmp 14 (.int .i64)])],15⟩
def vc15_L2 (y1:Nat) (y2:Int) (y3:OA) (y4 y5:Nat) (y6:KH) (y7:PQ):Prop :=
 (∃ (l:(Nat->Nat->Nat->Int->OA->Nat->Nat->Int->Int->KH->Prop)),(∃ (bg:Nat),(none:(Option Nat))=none/\l bg y1 0 y2 y3 y4 y5 (y4:Int) 0 y6)/\∀ (v b c:Nat) (a:Int) (m:(OA)) (n w:Nat) (i d:Int) (f:KH),l v b c a m n w i d f->(decide (d<i)=true->((0:Int)<=d/\d<(n:Int))/\∃ (x y:Nat),m=some ⟨x,y,none⟩/\∃ (z:(OA)) (aa ab:Nat),ld f ⟨x,y+((Int.toNat d)*1),none⟩ [(.slice z aa ab)]/\Does (env Try.prog) 27 [(.slice z aa ab)] f fun bi bf=>∃ (ac:Int) (ad:(OA)) (ae af:Nat) (ag:(OA)) (ah ai:Nat) (o:Bool),bi=(.tuple #[.agg #[.int .i64 ac,.slice ad ae af,.slice ag ah ai],.bool o])/\((!o)=true->y7 (.slice none 0 0) bf)/\((!o)=false->Does (env Try.prog) 28 [.pointer (some ⟨b,c,none⟩),.agg #[.int .u8 0,.int .u8 0,.int .i64 (-1),.slice none 0 0,.int .i64 (IntKind.wrap .i64 (d+1))]] bf fun bj bk=>∃ (aj:Int),bj=(.int .i64 aj)/\Does (env Try.prog) 29 [.pointer (some ⟨b,c,none⟩),.agg #[.int .i64 ac,.slice ad ae af,.slice ag ah ai],.int .i64 aj] bk fun bl e=>∃ (j:Int),bl=(.int .i64 j)/\True/\(none:(Option Nat))=none/\∃ (p:(OA)) (q ak:Nat),ld e ⟨b,c+0,none⟩ [(.slice p q ak)]/\(none:(Option Nat))=none/\∃ (al:(OA)) (am bh:Nat),ld e ⟨b,c+0,none⟩ [(.slice al am bh)]/\((0:Int)<=a/\a<(am:Int))/\∃ (an ao:Nat),al=some ⟨an,ao,none⟩/\(none:(Option Nat))=none/\∃ (ap:(OA)) (aq ar:Nat),ld e ⟨an,(ao+((Int.toNat a)*5))+3,none⟩ [(.slice ap aq ar)]/\∀ (g:Nat),((e g):(Option (Ent)))=none->∀ (au:Nat),(((KH.new e g (mkEnt [(.int .i64 j)] 0)) au):(Option (Ent)))=none->∃ (av:Nat) (aw:(List Value)),((knew (KH.new e g (mkEnt [(.int .i64 j)] 0)) ⟨1,8,false,5,0,0,[],[(.int .i64 0)]⟩ (.slice (some ⟨g,0,none⟩) 1 1)):(Option (Nat × (List Value))))=(some (av,aw))/\∃ (r:(OA)) (s t:Nat) (h:KH),((kappend (KH.new e g (mkEnt [(.int .i64 j)] 0)) au ⟨1,8,false,5,0,0,[],[(.int .i64 0)]⟩ ap aq ar av aw):(Option (Value × KH)))=(some (.slice r s t,h))/\(((none:(Option Nat))=none/\((.pointer (some ⟨b,c+0,none⟩)):Value)=(.pointer (some ⟨b,c+0,none⟩)))/\(∃ (ax:(OA)) (ay az:Nat),ld h ⟨b,c+0,none⟩ [(.slice ax ay az)]/\((.slice ax ay az):Value)=(.slice p q ak))/\((.int .i64 a):Value)=(.int .i64 a)/\True)/\((0:Int)<=a/\a<(q:Int))/\∃ (k u:Nat),p=some ⟨k,u,none⟩/\(none:(Option Nat))=none/\(∃ (ba:(List Value)),((List.length ba):Nat)=(List.length [(Value.slice r s t)])/\ld h ⟨k,(u+((Int.toNat a)*5))+3,none⟩ ba)/\KH.may h k/\True/\∃ (bb:Nat),(bb:Nat)<v/\(none:(Option Nat))=none/\l bb b c a m n w i (IntKind.wrap .i64 (d+1)) (KH.put h ⟨k,(u+((Int.toNat a)*5))+3,none⟩ [(.slice r s t)])))/\(decide (d<i)=false->(none:(Option Nat))=none/\∃ (bc:(OA)) (bd be:Nat),ld f ⟨b,c+0,none⟩ [(.slice bc bd be)]/\y7 (.slice bc bd be) f))
def vc15 (p0:OA) (p0n p0c:Nat) (H:KH) (Q:PQ):Prop :=
 (∀ (a:Nat),((H a):(Option (Ent)))=none->Does (env Try.prog) 26 [.pointer (some ⟨a,0,none⟩),.slice none 0 0] (KH.new H a (mkEnt [(.slice none 0 0)] 0)) fun c d=>∃ (b:Int),c=(.int .i64 b)/\vc15_L2 a b p0 p0n p0c d Q)
theorem fn15 (ok:EnvOk (env Try.prog)) {p0:OA} {p0n p0c:Nat} {H:KH} {Q:PQ} (h:vc15 p0 p0n p0c H Q):Does (env Try.prog) 15 [.slice p0 p0n p0c] H Q :=
 wFun_sound (W:=W15 Try.prog) ok.tt (blt_lt (by kernel_rfl)) (ff_of ok (by kernel_rfl) Try.func15) (Eq.mpr (by kernel_rfl) h)
def W26 (P:Program):WE:=⟨env P,tupT,[],mkTab [],26⟩
def vc26 (p0b p0o:Nat) (p1:OA) (p1n p1c:Nat) (H:KH) (Q:PQ):Prop :=
 Does (env Try.prog) 28 [.pointer (some ⟨p0b,p0o,none⟩),.agg #[.int .u8 0,.int .u8 0,.int .i64 (-1),.slice p1 p1n p1c,.int .i64 0]] H fun b c=>∃ (a:Int),b=(.int .i64 a)/\Q (.int .i64 a) c
theorem fn26 (ok:EnvOk (env Try.prog)) {p0b p0o:Nat} {p1:OA} {p1n p1c:Nat} {H:KH} {Q:PQ} (h:vc26 p0b p0o p1 p1n p1c H Q):Does (env Try.prog) 26 [.pointer (some ⟨p0b,p0o,none⟩),.slice p1 p1n p1c] H Q :=
 wFun_sound (W:=W26 Try.prog) ok.tt (blt_lt (by kernel_rfl)) (ff_of ok (by kernel_rfl) Try.func26) (Eq.mpr (by kernel_rfl) h)
def W27 (P:Program):WE:=⟨env P,tupT,[2,4],mkTab [],27⟩
def vc27 (p0:OA) (p0n p0c:Nat) (H:KH) (Q:PQ):Prop :=
 Does (env Try.prog) 49 [(.slice p0 p0n p0c)] H fun m k=>∃ (a:Int) (b:(OA)) (c d:Nat) (e:(OA)) (f g:Nat) (h:Bool),m=(.tuple #[.agg #[.int .i64 a,.slice b c d,.slice e f g],.bool h])/\((!h)=true->Q (.tuple #[.agg #[.int .i64 0,.slice none 0 0,.slice none 0 0],.bool false]) k)/\((!h)=false->Does (env Try.prog) 51 [(.agg #[.int .i64 a,.slice b c d,.slice e f g])] k fun n o=>∃ (j:ByteArray),n=(.string j)/\Does (env Try.prog) 50 [.string j,.slice p0 p0n p0c] o fun p l=>∃ (i:Bool),p=(.bool i)/\((!i)=true->Q (.tuple #[.agg #[.int .i64 0,.slice none 0 0,.slice none 0 0],.bool false]) l)/\((!i)=false->Q (.tuple #[.agg #[.int .i64 a,.slice b c d,.slice e f g],.bool true]) l))
theorem fn27 (ok:EnvOk (env Try.prog)) {p0:OA} {p0n p0c:Nat} {H:KH} {Q:PQ} (h:vc27 p0 p0n p0c H Q):Does (env Try.prog) 27 [.slice p0 p0n p0c] H Q :=
 wFun_sound (W:=W27 Try.prog) ok.tt (blt_lt (by kernel_rfl)) (ff_of ok (by kernel_rfl) Try.func27) (Eq.mpr (by kernel_rfl) h)
def W28 (P:Program):WE:=⟨env P,tupT,[3],mkTab [],28⟩
def vc28 (p0b p0o:Nat) (p1_0 p1_1 p1_2:Int) (p1_3:OA) (p1_3n p1_3c:Nat) (p1_4:Int) (H:KH) (Q:PQ):Prop :=
 (True/\(none:(Option Nat))=none/\∃ (f:(OA)) (g h:Nat),ld H ⟨p0b,p0o+0,none⟩ [(.slice f g h)]/\∀ (a:Nat),((H a):(Option (Ent)))=none->∀ (i:Nat),(((KH.new H a (mkEnt [.int .u8 p1_0,.int .u8 p1_1,.int .i64 p1_2,.slice p1_3 p1_3n p1_3c,.int .i64 p1_4] 0)) i):(Option (Ent)))=none->∃ (j:Nat) (k:(List Value)),((knew (KH.new H a (mkEnt [.int .u8 p1_0,.int .u8 p1_1,.int .i64 p1_2,.slice p1_3 p1_3n p1_3c,.int .i64 p1_4] 0)) ⟨5,48,true,3,0,0,[(0,1),(1,1),(2,1),(3,1),(4,1)],[.int .u8 0,.int .u8 0,.int .i64 0,.slice none 0 0,.int .i64 0]⟩ (.slice (some ⟨a,0,none⟩) 1 1)):(Option (Nat × (List Value))))=(some (j,k))/\∃ (c:(OA)) (d e:Nat) (b:KH),((kappend (KH.new H a (mkEnt [.int .u8 p1_0,.int .u8 p1_1,.int .i64 p1_2,.slice p1_3 p1_3n p1_3c,.int .i64 p1_4] 0)) i ⟨5,48,true,3,0,0,[(0,1),(1,1),(2,1),(3,1),(4,1)],[.int .u8 0,.int .u8 0,.int .i64 0,.slice none 0 0,.int .i64 0]⟩ f g h j k):(Option (Value × KH)))=(some (.slice c d e,b))/\(((.pointer (some ⟨p0b,p0o,none⟩)):Value)=(.pointer (some ⟨p0b,p0o,none⟩))/\True)/\(none:(Option Nat))=none/\(∃ (l:(List Value)),((List.length l):Nat)=(List.length [(Value.slice c d e)])/\ld b ⟨p0b,p0o+0,none⟩ l)/\KH.may b p0b/\True/\(none:(Option Nat))=none/\∃ (n:(OA)) (m o:Nat),ld (KH.put b ⟨p0b,p0o+0,none⟩ [(.slice c d e)]) ⟨p0b,p0o+0,none⟩ [(.slice n m o)]/\Q (.int .i64 (IntKind.wrap .i64 ((m:Int)-1))) (KH.put b ⟨p0b,p0o+0,none⟩ [(.slice c d e)]))
theorem fn28 (ok:EnvOk (env Try.prog)) {p0b p0o:Nat} {p1_0 p1_1 p1_2:Int} {p1_3:OA} {p1_3n p1_3c:Nat} {p1_4:Int} {H:KH} {Q:PQ} (h:vc28 p0b p0o p1_0 p1_1 p1_2 p1_3 p1_3n p1_3c p1_4 H Q):Does (env Try.prog) 28 [.pointer (some ⟨p0b,p0o,none⟩),.agg #[.int .u8 p1_0,.int .u8 p1_1,.int .i64 p1_2,.slice p1_3 p1_3n p1_3c,.int .i64 p1_4]] H Q :=
 wFun_sound (W:=W28 Try.prog) ok.tt (blt_lt (by kernel_rfl)) (ff_of ok (by kernel_rfl) Try.func28) (Eq.mpr (by kernel_rfl) h)
def W29 (P:Program):WE:=⟨env P,tupT,[4],mkTab [],29⟩
def vc29 (p0b p0o:Nat) (p1_0:Int) (p1_1:OA) (p1_1n p1_1c:Nat) (p1_2:OA) (p1_2n p1_2c:Nat) (p2:Int) (H:KH) (Q:PQ):Prop :=
 ((decide (p1_0=2)=true->True/\((0:Int)<=0/\(0:Int)<(p1_2n:Int))/\∃ (a b:Nat),p1_2=some ⟨a,b,none⟩/\∃ (e:Int) (f:(OA)) (g h:Nat) (i:(OA)) (j k:Nat),ld H ⟨a,b+((Int.toNat 0)*3),none⟩ [.int .i64 e,.slice f g h,.slice i j k]/\((0:Int)<=1/\(1:Int)<(p1_2n:Int))/\∃ (u v:Nat),p1_2=some ⟨u,v,none⟩/\∃ (w:Int) (x:(OA)) (y z:Nat) (aa:(OA)) (ab ac:Nat),ld H ⟨u,v+((Int.toNat 1)*3),none⟩ [.int .i64 w,.slice x y z,.slice aa ab ac]/\Does (env Try.prog) 29 [.pointer (some ⟨p0b,p0o,none⟩),.agg #[.int .i64 w,.slice x y z,.slice aa ab ac],.int .i64 p2] H fun cy cs=>∃ (ad:Int),cy=(.int .i64 ad)/\(((.pointer (some ⟨p0b,p0o,none⟩)):Value)=(.pointer (some ⟨p0b,p0o,none⟩))/\((4:Nat)=4/\((0+2):Nat)=(0+2))/\((.slice p1_2 p1_2n p1_2c):Value)=(.slice p1_2 p1_2n p1_2c)/\(((0:Int)<=0/\(0:Int)<(p1_2n:Int))/\∃ (ae af:Nat),p1_2=some ⟨ae,af,none⟩/\((.pointer (some ⟨ae,af+((Int.toNat 0)*3),none⟩)):Value)=(.pointer (some ⟨a,b+((Int.toNat 0)*3),none⟩)))/\(∃ (ag:Int) (ah:(OA)) (ai aj:Nat) (ak:(OA)) (al am:Nat),ld cs ⟨a,b+((Int.toNat 0)*3),none⟩ [.int .i64 ag,.slice ah ai aj,.slice ak al am]/\((.agg #[.int .i64 ag,.slice ah ai aj,.slice ak al am]):Value)=(.agg #[.int .i64 e,.slice f g h,.slice i j k]))/\True)/\Does (env Try.prog) 29 [.pointer (some ⟨p0b,p0o,none⟩),.agg #[.int .i64 e,.slice f g h,.slice i j k],.int .i64 ad] cs fun cz da=>∃ (an:Int),cz=(.int .i64 an)/\True/\Q (.int .i64 an) da)/\(decide (p1_0=2)=false->(decide (p1_0=3)=true->True/\((0:Int)<=0/\(0:Int)<(p1_2n:Int))/\∃ (ao ap:Nat),p1_2=some ⟨ao,ap,none⟩/\∃ (aq:Int) (ar:(OA)) (au av:Nat) (aw:(OA)) (ax ay:Nat),ld H ⟨ao,ap+((Int.toNat 0)*3),none⟩ [.int .i64 aq,.slice ar au av,.slice aw ax ay]/\((0:Int)<=1/\(1:Int)<(p1_2n:Int))/\∃ (c d:Nat),p1_2=some ⟨c,d,none⟩/\∃ (l:Int) (m:(OA)) (n o:Nat) (p:(OA)) (q r:Nat),ld H ⟨c,d+((Int.toNat 1)*3),none⟩ [.int .i64 l,.slice m n o,.slice p q r]/\Does (env Try.prog) 29 [.pointer (some ⟨p0b,p0o,none⟩),.agg #[.int .i64 aq,.slice ar au av,.slice aw ax ay],.int .i64 p2] H fun db ct=>∃ (az:Int),db=(.int .i64 az)/\(((.pointer (some ⟨p0b,p0o,none⟩)):Value)=(.pointer (some ⟨p0b,p0o,none⟩))/\((.pointer (some ⟨p0b,p0o,none⟩)):Value)=(.pointer (some ⟨p0b,p0o,none⟩))/\((4:Nat)=4/\((0+2):Nat)=(0+2))/\((.slice p1_2 p1_2n p1_2c):Value)=(.slice p1_2 p1_2n p1_2c)/\(((0:Int)<=1/\(1:Int)<(p1_2n:Int))/\∃ (ba bb:Nat),p1_2=some ⟨ba,bb,none⟩/\((.pointer (some ⟨ba,bb+((Int.toNat 1)*3),none⟩)):Value)=(.pointer (some ⟨c,d+((Int.toNat 1)*3),none⟩)))/\(∃ (bc:Int) (bd:(OA)) (be bf:Nat) (bg:(OA)) (bh bi:Nat),ld ct ⟨c,d+((Int.toNat 1)*3),none⟩ [.int .i64 bc,.slice bd be bf,.slice bg bh bi]/\((.agg #[.int .i64 bc,.slice bd be bf,.slice bg bh bi]):Value)=(.agg #[.int .i64 l,.slice m n o,.slice p q r]))/\((.int .i64 p2):Value)=(.int .i64 p2)/\True)/\Does (env Try.prog) 29 [.pointer (some ⟨p0b,p0o,none⟩),.agg #[.int .i64 l,.slice m n o,.slice p q r],.int .i64 p2] ct fun dc cu=>∃ (bj:Int),dc=(.int .i64 bj)/\(((.pointer (some ⟨p0b,p0o,none⟩)):Value)=(.pointer (some ⟨p0b,p0o,none⟩))/\True)/\∀ (s:Nat),((cu s):(Option (Ent)))=none->Does (env Try.prog) 26 [.pointer (some ⟨p0b,p0o,none⟩),.slice (some ⟨s,0,none⟩) 2 2] (KH.new cu s (mkEnt [.int .i64 az,.int .i64 bj] 0)) fun dd de=>∃ (bk:Int),dd=(.int .i64 bk)/\True/\Q (.int .i64 bk) de)/\(decide (p1_0=3)=false->(decide (p1_0=4)=true->((0:Int)<=0/\(0:Int)<(p1_2n:Int))/\∃ (bl bm:Nat),p1_2=some ⟨bl,bm,none⟩/\∃ (bn:Int) (bo:(OA)) (bp bq:Nat) (br:(OA)) (bs bt:Nat),ld H ⟨bl,bm+((Int.toNat 0)*3),none⟩ [.int .i64 bn,.slice bo bp bq,.slice br bs bt]/\Does (env Try.prog) 52 [.pointer (some ⟨p0b,p0o,none⟩),.agg #[.int .i64 bn,.slice bo bp bq,.slice br bs bt],.int .i64 p2] H fun df dg=>∃ (cw bu:Int),df=(.tuple #[.int .i64 cw,.int .i64 bu])/\Q (.int .i64 bu) dg)/\(decide (p1_0=4)=false->(decide (p1_0=5)=true->((0:Int)<=0/\(0:Int)<(p1_2n:Int))/\∃ (bv bw:Nat),p1_2=some ⟨bv,bw,none⟩/\∃ (bx:Int) (bz:(OA)) (ca cb:Nat) (cc:(OA)) (cd ce:Nat),ld H ⟨bv,bw+((Int.toNat 0)*3),none⟩ [.int .i64 bx,.slice bz ca cb,.slice cc cd ce]/\Does (env Try.prog) 52 [.pointer (some ⟨p0b,p0o,none⟩),.agg #[.int .i64 bx,.slice bz ca cb,.slice cc cd ce],.int .i64 p2] H fun dh di=>∃ (cf cx:Int),dh=(.tuple #[.int .i64 cf,.int .i64 cx])/\Q (.int .i64 cf) di)/\(decide (p1_0=5)=false->(decide (p1_0=6)=true->((0:Int)<=0/\(0:Int)<(p1_2n:Int))/\∃ (cg ch:Nat),p1_2=some ⟨cg,ch,none⟩/\∃ (ci:Int) (cj:(OA)) (ck cl:Nat) (cm:(OA)) (cn co:Nat),ld H ⟨cg,ch+((Int.toNat 0)*3),none⟩ [.int .i64 ci,.slice cj ck cl,.slice cm cn co]/\Does (env Try.prog) 29 [.pointer (some ⟨p0b,p0o,none⟩),.agg #[.int .i64 ci,.slice cj ck cl,.slice cm cn co],.int .i64 p2] H fun dj cv=>∃ (cp:Int),dj=(.int .i64 cp)/\∀ (t:Nat),((cv t):(Option (Ent)))=none->Does (env Try.prog) 26 [.pointer (some ⟨p0b,p0o,none⟩),.slice (some ⟨t,0,none⟩) 2 2] (KH.new cv t (mkEnt [.int .i64 cp,.int .i64 p2] 0)) fun dk dl=>∃ (cq:Int),dk=(.int .i64 cq)/\Q (.int .i64 cq) dl)/\(decide (p1_0=6)=false->Does (env Try.prog) 53 [.pointer (some ⟨p0b,p0o,none⟩),.slice p1_1 p1_1n p1_1c,.int .i64 p2] H fun dm dn=>∃ (cr:Int),dm=(.int .i64 cr)/\Q (.int .i64 cr) dn))))))
theorem fn29 (ok:EnvOk (env Try.prog)) {p0b p0o:Nat} {p1_0:Int} {p1_1:OA} {p1_1n p1_1c:Nat} {p1_2:OA} {p1_2n p1_2c:Nat} {p2:Int} {H:KH} {Q:PQ} (h:vc29 p0b p0o p1_0 p1_1 p1_1n p1_1c p1_2 p1_2n p1_2c p2 H Q):Does (env Try.prog) 29 [.pointer (some ⟨p0b,p0o,none⟩),.agg #[.int .i64 p1_0,.slice p1_1 p1_1n p1_1c,.slice p1_2 p1_2n p1_2c],.int .i64 p2] H Q :=
 wFun_sound (W:=W29 Try.prog) ok.tt (blt_lt (by kernel_rfl)) (ff_of ok (by kernel_rfl) Try.func29) (Eq.mpr (by kernel_rfl) h)
def W49 (P:Program):WE:=⟨env P,tupT,[2,6],mkTab [(0,[.ref 2 2 0,.box 2 [.int .i64 0,.slice none 0 0,.slice none 0 0],.tmp 4 .slice,.tmp 13 .slice,.tmp 14 (.int .i64),.tmp 15 (.int .i64)])],49⟩
def vc49_L3 (y1:OA) (y2 y3:Nat) (y4:KH) (y5:PQ):Prop :=
 (∃ (q:(Nat->Int->OA->Nat->Nat->OA->Nat->Nat->OA->Nat->Nat->OA->Nat->Nat->Int->Int->KH->Prop)),(∃ (be:Nat),q be 0 none 0 0 none 0 0 none 0 0 y1 y2 y3 (y2:Int) 0 y4)/\∀ (u:Nat) (v:Int) (w:(OA)) (x y:Nat) (z:(OA)) (aa ab:Nat) (i:(OA)) (a r:Nat) (s:(OA)),∀ (t ac:Nat) (j b:Int) (c:KH),q u v w x y z aa ab i a r s t ac j b c->(decide (b<j)=true->((0:Int)<=b/\b<(t:Int))/\∃ (ad ae:Nat),s=some ⟨ad,ae,none⟩/\∃ (e:Int) (k:(OA)) (d l:Nat),ld c ⟨ad,ae+((Int.toNat b)*2),none⟩ [.int .i64 e,.slice k d l]/\Does (env Try.prog) 65 [(.int .i64 e)] c fun bf p=>∃ (f:Int),bf=(.int .i64 f)/\(((decide (((IntKind.wrap .i64 ((a:Int)-f)):Int)<0)):Bool)=true->y5 (.tuple #[.agg #[.int .i64 0,.slice none 0 0,.slice none 0 0],.bool false]) p)/\(((decide (((IntKind.wrap .i64 ((a:Int)-f)):Int)<0)):Bool)=false->(decide ((24:Int)<(d:Int))=true->y5 (.tuple #[.agg #[.int .i64 0,.slice none 0 0,.slice none 0 0],.bool false]) p)/\(decide ((24:Int)<(d:Int))=false->∃ (af:(OA)) (ag ah:Nat),((kslice p 3 i a r (some (.int .i64 (IntKind.wrap .i64 ((a:Int)-f)))) none):(Option Value))=(some (.slice af ag ah))/\Does (env Try.prog) 66 [(.slice af ag ah)] p fun bg h=>∃ (m:(OA)) (n o:Nat),bg=(.slice m n o)/\True/\∃ (ai:(OA)) (aj ak:Nat),((kslice h 3 i a r none (some (.int .i64 (IntKind.wrap .i64 ((a:Int)-f))))):(Option Value))=(some (.slice ai aj ak))/\∀ (g:Nat),((h g):(Option (Ent)))=none->∀ (al:Nat),(((KH.new h g (mkEnt [.int .i64 e,.slice k d l,.slice m n o] 0)) al):(Option (Ent)))=none->∃ (am:Nat) (an:(List Value)),((knew (KH.new h g (mkEnt [.int .i64 e,.slice k d l,.slice m n o] 0)) ⟨3,56,true,3,0,0,[(0,2),(2,1)],[.int .i64 0,.slice none 0 0,.slice none 0 0]⟩ (.slice (some ⟨g,0,none⟩) 1 1)):(Option (Nat × (List Value))))=(some (am,an))/\∃ (ao:(OA)) (ap aq:Nat) (ar:KH),((kappend (KH.new h g (mkEnt [.int .i64 e,.slice k d l,.slice m n o] 0)) al ⟨3,56,true,3,0,0,[(0,2),(2,1)],[.int .i64 0,.slice none 0 0,.slice none 0 0]⟩ ai aj ak am an):(Option (Value × KH)))=(some (.slice ao ap aq,ar))/\True/\∃ (au:Nat),(au:Nat)<u/\q au v w x y z aa ab ao ap aq s t ac j (IntKind.wrap .i64 (b+1)) ar)))/\(decide (b<j)=false->(decide ((a:Int)≠1)=true->y5 (.tuple #[.agg #[.int .i64 0,.slice none 0 0,.slice none 0 0],.bool false]) c)/\(decide ((a:Int)≠1)=false->((0:Int)<=0/\(0:Int)<(a:Int))/\∃ (av aw:Nat),i=some ⟨av,aw,none⟩/\∃ (ax:Int) (ay:(OA)) (az ba:Nat) (bb:(OA)) (bc bd:Nat),ld c ⟨av,aw+((Int.toNat 0)*3),none⟩ [.int .i64 ax,.slice ay az ba,.slice bb bc bd]/\y5 (.tuple #[.agg #[.int .i64 ax,.slice ay az ba,.slice bb bc bd],.bool true]) c)))
def vc49 (p0:OA) (p0n p0c:Nat) (H:KH) (Q:PQ):Prop :=
 ((decide ((47:Int)<(p0n:Int))=true->Q (.tuple #[.agg #[.int .i64 0,.slice none 0 0,.slice none 0 0],.bool false]) H)/\(decide ((47:Int)<(p0n:Int))=false->vc49_L3 p0 p0n p0c H Q))
theorem fn49 (ok:EnvOk (env Try.prog)) {p0:OA} {p0n p0c:Nat} {H:KH} {Q:PQ} (h:vc49 p0 p0n p0c H Q):Does (env Try.prog) 49 [.slice p0 p0n p0c] H Q :=
 wFun_sound (W:=W49 Try.prog) ok.tt (blt_lt (by kernel_rfl)) (ff_of ok (by kernel_rfl) Try.func49) (Eq.mpr (by kernel_rfl) h)
def W50 (P:Program):WE:=⟨env P,tupT,[],mkTab [],50⟩
def vc50 (p0:ByteArray) (p1:OA) (p1n p1c:Nat) (H:KH) (Q:PQ):Prop :=
 Does (env Try.prog) 30 [(.string p0)] H fun g f=>∃ (b:(OA)) (c d:Nat) (a:Bool),g=(.tuple #[.slice b c d,.bool a])/\(a=true->Does (env Try.prog) 67 [.slice b c d,.slice p1 p1n p1c,.func (.func 68) #[] #[]] f fun h i=>∃ (e:Bool),h=(.bool e)/\Q (.bool e) i)/\(a=false->Q (.bool false) f)
theorem fn50 (ok:EnvOk (env Try.prog)) {p0:ByteArray} {p1:OA} {p1n p1c:Nat} {H:KH} {Q:PQ} (h:vc50 p0 p1 p1n p1c H Q):Does (env Try.prog) 50 [.string p0,.slice p1 p1n p1c] H Q :=
 wFun_sound (W:=W50 Try.prog) ok.tt (blt_lt (by kernel_rfl)) (ff_of ok (by kernel_rfl) Try.func50) (Eq.mpr (by kernel_rfl) h)
def W51 (P:Program):WE:=⟨env P,tupT,[1],mkTab [],51⟩
def vc51 (p0_0:Int) (p0_1:OA) (p0_1n p0_1c:Nat) (p0_2:OA) (p0_2n p0_2c:Nat) (H:KH) (Q:PQ):Prop :=
 ((decide (p0_0=1)=true->Does (env Try.prog) 69 [(.agg #[.int .i64 p0_0,.slice p0_1 p0_1n p0_1c])] H fun cq cr=>∃ (z:ByteArray),cq=(.string z)/\Q (.string z) cr)/\(decide (p0_0=1)=false->(decide (p0_0=2)=true->True/\((0:Int)<=0/\(0:Int)<(p0_2n:Int))/\∃ (aa ab:Nat),p0_2=some ⟨aa,ab,none⟩/\∃ (ac:Int) (ad:(OA)) (ae af:Nat) (ag:(OA)) (ah ai:Nat),ld H ⟨aa,ab+((Int.toNat 0)*3),none⟩ [.int .i64 ac,.slice ad ae af,.slice ag ah ai]/\((0:Int)<=1/\(1:Int)<(p0_2n:Int))/\∃ (b c:Nat),p0_2=some ⟨b,c,none⟩/\∃ (f:Int) (g:(OA)) (h i:Nat) (j:(OA)) (k l:Nat),ld H ⟨b,c+((Int.toNat 1)*3),none⟩ [.int .i64 f,.slice g h i,.slice j k l]/\Does (env Try.prog) 70 [.agg #[.int .i64 ac,.slice ad ae af,.slice ag ah ai],.int .i64 1] H fun cs co=>∃ (m:ByteArray),cs=(.string m)/\(((1:Nat)=1/\((0+2):Nat)=(0+2))/\((.slice p0_2 p0_2n p0_2c):Value)=(.slice p0_2 p0_2n p0_2c)/\(((0:Int)<=1/\(1:Int)<(p0_2n:Int))/\∃ (aj ak:Nat),p0_2=some ⟨aj,ak,none⟩/\((.pointer (some ⟨aj,ak+((Int.toNat 1)*3),none⟩)):Value)=(.pointer (some ⟨b,c+((Int.toNat 1)*3),none⟩)))/\(∃ (al:Int) (am:(OA)) (an ao:Nat) (ap:(OA)) (aq ar:Nat),ld co ⟨b,c+((Int.toNat 1)*3),none⟩ [.int .i64 al,.slice am an ao,.slice ap aq ar]/\((.agg #[.int .i64 al,.slice am an ao,.slice ap aq ar]):Value)=(.agg #[.int .i64 f,.slice g h i,.slice j k l]))/\True)/\Does (env Try.prog) 70 [.agg #[.int .i64 f,.slice g h i,.slice j k l],.int .i64 0] co fun ct cu=>∃ (n:ByteArray),ct=(.string n)/\True/\(((ByteArray.size m)+(ByteArray.size n)):Nat)<=1000000/\Q (.string (m++n)) cu)/\(decide (p0_0=2)=false->(decide (p0_0=3)=true->True/\((0:Int)<=0/\(0:Int)<(p0_2n:Int))/\∃ (au av:Nat),p0_2=some ⟨au,av,none⟩/\∃ (aw:Int) (ax:(OA)) (ay az:Nat) (ba:(OA)) (bb bc:Nat),ld H ⟨au,av+((Int.toNat 0)*3),none⟩ [.int .i64 aw,.slice ax ay az,.slice ba bb bc]/\((0:Int)<=1/\(1:Int)<(p0_2n:Int))/\∃ (d e:Nat),p0_2=some ⟨d,e,none⟩/\∃ (o:Int) (p:(OA)) (q r:Nat) (s:(OA)) (t u:Nat),ld H ⟨d,e+((Int.toNat 1)*3),none⟩ [.int .i64 o,.slice p q r,.slice s t u]/\Does (env Try.prog) 70 [.agg #[.int .i64 aw,.slice ax ay az,.slice ba bb bc],.int .i64 2] H fun cv cp=>∃ (a:ByteArray),cv=(.string a)/\(((1:Nat)=1/\((0+2):Nat)=(0+2))/\((.slice p0_2 p0_2n p0_2c):Value)=(.slice p0_2 p0_2n p0_2c)/\(((0:Int)<=1/\(1:Int)<(p0_2n:Int))/\∃ (bd be:Nat),p0_2=some ⟨bd,be,none⟩/\((.pointer (some ⟨bd,be+((Int.toNat 1)*3),none⟩)):Value)=(.pointer (some ⟨d,e+((Int.toNat 1)*3),none⟩)))/\(∃ (bf:Int) (bg:(OA)) (bh bi:Nat) (bj:(OA)) (bk bl:Nat),ld cp ⟨d,e+((Int.toNat 1)*3),none⟩ [.int .i64 bf,.slice bg bh bi,.slice bj bk bl]/\((.agg #[.int .i64 bf,.slice bg bh bi,.slice bj bk bl]):Value)=(.agg #[.int .i64 o,.slice p q r,.slice s t u]))/\True)/\(((ByteArray.size a)+(ByteArray.size (ByteArray.mk #[124]))):Nat)<=1000000/\Does (env Try.prog) 70 [.agg #[.int .i64 o,.slice p q r,.slice s t u],.int .i64 1] cp fun cw cx=>∃ (v:ByteArray),cw=(.string v)/\(((((ByteArray.size a)+(ByteArray.size (ByteArray.mk #[124]))):Nat)<=1000000/\((.string (a++(ByteArray.mk #[124]))):Value)=(.string (a++(ByteArray.mk #[124]))))/\True)/\(((ByteArray.size (a++(ByteArray.mk #[124])))+(ByteArray.size v)):Nat)<=1000000/\Q (.string ((a++(ByteArray.mk #[124]))++v)) cx)/\(decide (p0_0=3)=false->(decide (p0_0=4)=true->((0:Int)<=0/\(0:Int)<(p0_2n:Int))/\∃ (bm bn:Nat),p0_2=some ⟨bm,bn,none⟩/\∃ (bo:Int) (bp:(OA)) (bq br:Nat) (bs:(OA)) (bt bu:Nat),ld H ⟨bm,bn+((Int.toNat 0)*3),none⟩ [.int .i64 bo,.slice bp bq br,.slice bs bt bu]/\Does (env Try.prog) 70 [.agg #[.int .i64 bo,.slice bp bq br,.slice bs bt bu],.int .i64 0] H fun cy cz=>∃ (w:ByteArray),cy=(.string w)/\(((ByteArray.size w)+(ByteArray.size (ByteArray.mk #[42]))):Nat)<=1000000/\Q (.string (w++(ByteArray.mk #[42]))) cz)/\(decide (p0_0=4)=false->(decide (p0_0=5)=true->((0:Int)<=0/\(0:Int)<(p0_2n:Int))/\∃ (bv bw:Nat),p0_2=some ⟨bv,bw,none⟩/\∃ (bx:Int) (bz:(OA)) (ca cb:Nat) (cc:(OA)) (cd ce:Nat),ld H ⟨bv,bw+((Int.toNat 0)*3),none⟩ [.int .i64 bx,.slice bz ca cb,.slice cc cd ce]/\Does (env Try.prog) 70 [.agg #[.int .i64 bx,.slice bz ca cb,.slice cc cd ce],.int .i64 0] H fun da db=>∃ (x:ByteArray),da=(.string x)/\(((ByteArray.size x)+(ByteArray.size (ByteArray.mk #[43]))):Nat)<=1000000/\Q (.string (x++(ByteArray.mk #[43]))) db)/\(decide (p0_0=5)=false->(decide (p0_0=6)=true->((0:Int)<=0/\(0:Int)<(p0_2n:Int))/\∃ (cf cg:Nat),p0_2=some ⟨cf,cg,none⟩/\∃ (ch:Int) (ci:(OA)) (cj ck:Nat) (cl:(OA)) (cm cn:Nat),ld H ⟨cf,cg+((Int.toNat 0)*3),none⟩ [.int .i64 ch,.slice ci cj ck,.slice cl cm cn]/\Does (env Try.prog) 70 [.agg #[.int .i64 ch,.slice ci cj ck,.slice cl cm cn],.int .i64 0] H fun dc dd=>∃ (y:ByteArray),dc=(.string y)/\(((ByteArray.size y)+(ByteArray.size (ByteArray.mk #[63]))):Nat)<=1000000/\Q (.string (y++(ByteArray.mk #[63]))) dd)/\(decide (p0_0=6)=false->Q (.string (ByteArray.mk #[])) H)))))))
theorem fn51 (ok:EnvOk (env Try.prog)) {p0_0:Int} {p0_1:OA} {p0_1n p0_1c:Nat} {p0_2:OA} {p0_2n p0_2c:Nat} {H:KH} {Q:PQ} (h:vc51 p0_0 p0_1 p0_1n p0_1c p0_2 p0_2n p0_2c H Q):Does (env Try.prog) 51 [.agg #[.int .i64 p0_0,.slice p0_1 p0_1n p0_1c,.slice p0_2 p0_2n p0_2c]] H Q :=
 wFun_sound (W:=W51 Try.prog) ok.tt (blt_lt (by kernel_rfl)) (ff_of ok (by kernel_rfl) Try.func51) (Eq.mpr (by kernel_rfl) h)
def W52 (P:Program):WE:=⟨env P,tupT,[4],mkTab [],52⟩
def vc52 (p0b p0o:Nat) (p1_0:Int) (p1_1:OA) (p1_1n p1_1c:Nat) (p1_2:OA) (p1_2n p1_2c:Nat) (p2:Int) (H:KH) (Q:PQ):Prop :=
 Does (env Try.prog) 26 [.pointer (some ⟨p0b,p0o,none⟩),.slice none 0 0] H fun k l=>∃ (a:Int),k=(.int .i64 a)/\Does (env Try.prog) 29 [.pointer (some ⟨p0b,p0o,none⟩),.agg #[.int .i64 p1_0,.slice p1_1 p1_1n p1_1c,.slice p1_2 p1_2n p1_2c],.int .i64 a] l fun m d=>∃ (c:Int),m=(.int .i64 c)/\(none:(Option Nat))=none/\∃ (g:(OA)) (h j:Nat),ld d ⟨p0b,p0o+0,none⟩ [(.slice g h j)]/\∀ (b:Nat),((d b):(Option (Ent)))=none->((0:Int)<=a/\a<(h:Int))/\∃ (e f:Nat),g=some ⟨e,f,none⟩/\(none:(Option Nat))=none/\(∃ (i:(List Value)),((List.length i):Nat)=(List.length [(Value.slice (some ⟨b,0,none⟩) 2 2)])/\ld (KH.new d b (mkEnt [.int .i64 c,.int .i64 p2] 0)) ⟨e,(f+((Int.toNat a)*5))+3,none⟩ i)/\KH.may (KH.new d b (mkEnt [.int .i64 c,.int .i64 p2] 0)) e/\Q (.tuple #[.int .i64 c,.int .i64 a]) (KH.put (KH.new d b (mkEnt [.int .i64 c,.int .i64 p2] 0)) ⟨e,(f+((Int.toNat a)*5))+3,none⟩ [(.slice (some ⟨b,0,none⟩) 2 2)])
theorem fn52 (ok:EnvOk (env Try.prog)) {p0b p0o:Nat} {p1_0:Int} {p1_1:OA} {p1_1n p1_1c:Nat} {p1_2:OA} {p1_2n p1_2c:Nat} {p2:Int} {H:KH} {Q:PQ} (h:vc52 p0b p0o p1_0 p1_1 p1_1n p1_1c p1_2 p1_2n p1_2c p2 H Q):Does (env Try.prog) 52 [.pointer (some ⟨p0b,p0o,none⟩),.agg #[.int .i64 p1_0,.slice p1_1 p1_1n p1_1c,.slice p1_2 p1_2n p1_2c],.int .i64 p2] H Q :=
 wFun_sound (W:=W52 Try.prog) ok.tt (blt_lt (by kernel_rfl)) (ff_of ok (by kernel_rfl) Try.func52) (Eq.mpr (by kernel_rfl) h)
def W53 (P:Program):WE:=⟨env P,tupT,[9],mkTab [(0,[.tmp 0 .ptr,.tmp 2 (.int .i64),.tmp 7 .slice,.tmp 10 .slice,.tmp 11 (.int .i64),.tmp 12 (.int .i64)])],53⟩
def vc53_L2 (y1 y2:Nat) (y3:Int) (y4:OA) (y5 y6:Nat) (y7:KH) (y8:PQ):Prop :=
 (∃ (k:(Nat->Nat->Nat->Int->OA->Nat->Nat->OA->Nat->Nat->Int->Int->KH->Prop)),(∃ (ah:Nat),(none:(Option Nat))=none/\k ah y1 y2 y3 none 0 0 y4 y5 y6 (y5:Int) 0 y7)/\∀ (p e f:Nat) (l:Int) (g:(OA)) (b m:Nat) (n:(OA)) (o q:Nat) (h a:Int),∀ (c:KH),k p e f l g b m n o q h a c->(decide (a<h)=true->((0:Int)<=a/\a<(o:Int))/\∃ (r s:Nat),n=some ⟨r,s,none⟩/\∃ (t u:Int),ld c ⟨r,s+((Int.toNat a)*2),none⟩ [.int .u8 t,.int .u8 u]/\Does (env Try.prog) 28 [.pointer (some ⟨e,f,none⟩),.agg #[.int .u8 t,.int .u8 u,.int .i64 l,.slice none 0 0,.int .i64 0]] c fun ai j=>∃ (i:Int),ai=(.int .i64 i)/\∀ (d:Nat),((j d):(Option (Ent)))=none->∀ (v:Nat),(((KH.new j d (mkEnt [(.int .i64 i)] 0)) v):(Option (Ent)))=none->∃ (w:Nat) (x:(List Value)),((knew (KH.new j d (mkEnt [(.int .i64 i)] 0)) ⟨1,8,false,5,0,0,[],[(.int .i64 0)]⟩ (.slice (some ⟨d,0,none⟩) 1 1)):(Option (Nat × (List Value))))=(some (w,x))/\∃ (y:(OA)) (z aa:Nat) (ab:KH),((kappend (KH.new j d (mkEnt [(.int .i64 i)] 0)) v ⟨1,8,false,5,0,0,[],[(.int .i64 0)]⟩ g b m w x):(Option (Value × KH)))=(some (.slice y z aa,ab))/\∃ (ac:Nat),(ac:Nat)<p/\(none:(Option Nat))=none/\k ac e f l y z aa n o q h (IntKind.wrap .i64 (a+1)) ab)/\(decide (a<h)=false->(decide ((b:Int)=1)=true->((0:Int)<=0/\(0:Int)<(b:Int))/\∃ (ad ae:Nat),g=some ⟨ad,ae,none⟩/\∃ (af:Int),ld c ⟨ad,ae+((Int.toNat 0)*1),none⟩ [(.int .i64 af)]/\y8 (.int .i64 af) c)/\(decide ((b:Int)=1)=false->Does (env Try.prog) 26 [.pointer (some ⟨e,f,none⟩),.slice g b m] c fun aj ak=>∃ (ag:Int),aj=(.int .i64 ag)/\y8 (.int .i64 ag) ak)))
def vc53 (p0b p0o:Nat) (p1:OA) (p1n p1c:Nat) (p2:Int) (H:KH) (Q:PQ):Prop :=
 (vc53_L2 p0b p0o p2 p1 p1n p1c H Q)
theorem fn53 (ok:EnvOk (env Try.prog)) {p0b p0o:Nat} {p1:OA} {p1n p1c:Nat} {p2:Int} {H:KH} {Q:PQ} (h:vc53 p0b p0o p1 p1n p1c p2 H Q):Does (env Try.prog) 53 [.pointer (some ⟨p0b,p0o,none⟩),.slice p1 p1n p1c,.int .i64 p2] H Q :=
 wFun_sound (W:=W53 Try.prog) ok.tt (blt_lt (by kernel_rfl)) (ff_of ok (by kernel_rfl) Try.func53) (Eq.mpr (by kernel_rfl) h)
def W65 (P:Program):WE:=⟨env P,tupT,[],mkTab [],65⟩
def vc65 (p0:Int) (H:KH) (Q:PQ):Prop :=
 ((decide (p0=2)=true->Q (.int .i64 2) H)/\(decide (p0=2)=false->(decide (p0=3)=true->Q (.int .i64 2) H)/\(decide (p0=3)=false->(decide (p0=4)=true->Q (.int .i64 1) H)/\(decide (p0=4)=false->(decide (p0=5)=true->Q (.int .i64 1) H)/\(decide (p0=5)=false->(decide (p0=6)=true->Q (.int .i64 1) H)/\(decide (p0=6)=false->Q (.int .i64 0) H))))))
theorem fn65 (ok:EnvOk (env Try.prog)) {p0:Int} {H:KH} {Q:PQ} (h:vc65 p0 H Q):Does (env Try.prog) 65 [.int .i64 p0] H Q :=
 wFun_sound (W:=W65 Try.prog) ok.tt (blt_lt (by kernel_rfl)) (ff_of ok (by kernel_rfl) Try.func65) (Eq.mpr (by kernel_rfl) h)
def W66 (P:Program):WE:=⟨env P,tupT,[],mkTab [],66⟩
def vc66 (p0:OA) (p0n p0c:Nat) (H:KH) (Q:PQ):Prop :=
 ((((Option.isNone p0):Bool)=true->Q (.slice none 0 0) H)/\(((Option.isNone p0):Bool)=false->∀ (a:Nat),((H a):(Option (Ent)))=none->∀ (b:Nat),(((KH.new H a (mkEnt (lrep [.int .i64 0,.slice none 0 0,.slice none 0 0] 0) 0)) b):(Option (Ent)))=none->∃ (c:Nat) (d:(List Value)),((knew (KH.new H a (mkEnt (lrep [.int .i64 0,.slice none 0 0,.slice none 0 0] 0) 0)) ⟨3,56,true,3,0,0,[(0,2),(2,1)],[.int .i64 0,.slice none 0 0,.slice none 0 0]⟩ (.slice p0 p0n p0c)):(Option (Nat × (List Value))))=(some (c,d))/\∃ (e:(OA)) (f g:Nat) (h:KH),((kappend (KH.new H a (mkEnt (lrep [.int .i64 0,.slice none 0 0,.slice none 0 0] 0) 0)) b ⟨3,56,true,3,0,0,[(0,2),(2,1)],[.int .i64 0,.slice none 0 0,.slice none 0 0]⟩ (some ⟨a,0,none⟩) 0 0 c d):(Option (Value × KH)))=(some (.slice e f g,h))/\Q (.slice e f g) h))
theorem fn66 (ok:EnvOk (env Try.prog)) {p0:OA} {p0n p0c:Nat} {H:KH} {Q:PQ} (h:vc66 p0 p0n p0c H Q):Does (env Try.prog) 66 [.slice p0 p0n p0c] H Q :=
 wFun_sound (W:=W66 Try.prog) ok.tt (blt_lt (by kernel_rfl)) (ff_of ok (by kernel_rfl) Try.func66) (Eq.mpr (by kernel_rfl) h)
def W67 (P:Program):WE:=⟨env P,tupT,[8,9],mkTab [(0,[.tmp 1 .slice,.tmp 2 .fnk,.tmp 15 .slice,.tmp 16 (.int .i64),.tmp 17 (.int .i64)])],67⟩
def vc67_L1 (y1:OA) (y2 y3 y4:Nat) (y5:OA) (y6 y7:Nat) (y8:KH) (y9:PQ):Prop :=
 (∃ (d:(Nat->OA->Nat->Nat->Nat->List Value->OA->Nat->Nat->Int->Int->KH->Prop)),(∃ (ac:Nat),d ac y1 y2 y3 y4 (Array.toList #[]) y5 y6 y7 (y6:Int) 0 y8)/\∀ (l:Nat) (e:(OA)) (f m g:Nat) (h:(List Value)) (i:(OA)) (j n:Nat) (c a:Int) (b:KH),d l e f m g h i j n c a b->(decide (a<c)=true->((0:Int)<=a/\a<(j:Int))/\∃ (o p:Nat),i=some ⟨o,p,none⟩/\∃ (q:Int) (r:(OA)) (s t:Nat),ld b ⟨o,p+((Int.toNat a)*2),none⟩ [.int .i64 q,.slice r s t]/\((0:Int)<=a/\a<(f:Int))/\∃ (u v:Nat),e=some ⟨u,v,none⟩/\∃ (w:Int) (x:(OA)) (y z:Nat),ld b ⟨u,v+((Int.toNat a)*2),none⟩ [.int .i64 w,.slice x y z]/\Does (env Try.prog) g ([.agg #[.int .i64 q,.slice r s t],.agg #[.int .i64 w,.slice x y z]]++h) b fun ad ab=>∃ (k:Bool),ad=(.bool k)/\((!k)=true->y9 (.bool false) ab)/\((!k)=false->∃ (aa:Nat),(aa:Nat)<l/\d aa e f m g (Array.toList (List.toArray h)) i j n c (IntKind.wrap .i64 (a+1)) ab))/\(decide (a<c)=false->y9 (.bool true) b))
def vc67 (p0:OA) (p0n p0c:Nat) (p1:OA) (p1n p1c p2:Nat) (H:KH) (Q:PQ):Prop :=
 ((decide ((p0n:Int)≠(p1n:Int))=true->Q (.bool false) H)/\(decide ((p0n:Int)≠(p1n:Int))=false->vc67_L1 p1 p1n p1c p2 p0 p0n p0c H Q))
theorem fn67 (ok:EnvOk (env Try.prog)) {p0:OA} {p0n p0c:Nat} {p1:OA} {p1n p1c p2:Nat} {H:KH} {Q:PQ} (h:vc67 p0 p0n p0c p1 p1n p1c p2 H Q):Does (env Try.prog) 67 [.slice p0 p0n p0c,.slice p1 p1n p1c,.func (.func p2) #[] #[]] H Q :=
 wFun_sound (W:=W67 Try.prog) ok.tt (blt_lt (by kernel_rfl)) (ff_of ok (by kernel_rfl) Try.func67) (Eq.mpr (by kernel_rfl) h)
def W68 (P:Program):WE:=⟨env P,tupT,[2,3],mkTab [],68⟩
def vc68 (p0_0:Int) (p0_1:OA) (p0_1n p0_1c:Nat) (p1_0:Int) (p1_1:OA) (p1_1n p1_1c:Nat) (H:KH) (Q:PQ):Prop :=
 ((decide (p0_0=p1_0)=true->Does (env Try.prog) 76 [.slice p0_1 p0_1n p0_1c,.slice p1_1 p1_1n p1_1c] H fun b c=>∃ (a:Bool),b=(.bool a)/\Q (.bool a) c)/\(decide (p0_0=p1_0)=false->Q (.bool false) H))
theorem fn68 (ok:EnvOk (env Try.prog)) {p0_0:Int} {p0_1:OA} {p0_1n p0_1c:Nat} {p1_0:Int} {p1_1:OA} {p1_1n p1_1c:Nat} {H:KH} {Q:PQ} (h:vc68 p0_0 p0_1 p0_1n p0_1c p1_0 p1_1 p1_1n p1_1c H Q):Does (env Try.prog) 68 [.agg #[.int .i64 p0_0,.slice p0_1 p0_1n p0_1c],.agg #[.int .i64 p1_0,.slice p1_1 p1_1n p1_1c]] H Q :=
 wFun_sound (W:=W68 Try.prog) ok.tt (blt_lt (by kernel_rfl)) (ff_of ok (by kernel_rfl) Try.func68) (Eq.mpr (by kernel_rfl) h)
def W69 (P:Program):WE:=⟨env P,tupT,[1,8],mkTab [(2,[.tmp 6 .str,.tmp 36 .slice,.tmp 37 (.int .i64),.tmp 38 (.int .i64)]),(0,[.ref 1 1 0,.box 1 [.int .i64 0,.slice none 0 0],.tmp 23 .slice,.tmp 24 (.int .i64),.tmp 25 (.int .i64)])],69⟩
def vc69_L2 (y1:OA) (y2 y3:Nat) (y4:KH) (y5:PQ):Prop :=
 (∃ (e:(Nat->ByteArray->OA->Nat->Nat->Int->Int->KH->Prop)),(∃ (p:Nat),e p (ByteArray.mk #[]) y1 y2 y3 (y2:Int) 0 y4)/\∀ (i:Nat) (b:ByteArray) (f:(OA)) (g j:Nat) (c a:Int) (d:KH),e i b f g j c a d->(decide (a<c)=true->((0:Int)<=a/\a<(g:Int))/\∃ (k l:Nat),f=some ⟨k,l,none⟩/\∃ (m n:Int),ld d ⟨k,l+((Int.toNat a)*2),none⟩ [.int .u8 m,.int .u8 n]/\Does (env Try.prog) 77 [(.agg #[.int .u8 m,.int .u8 n])] d fun q r=>∃ (h:ByteArray),q=(.string h)/\(((ByteArray.size b)+(ByteArray.size h)):Nat)<=1000000/\∃ (o:Nat),(o:Nat)<i/\e o (b++h) f g j c (IntKind.wrap .i64 (a+1)) r)/\(decide (a<c)=false->(((ByteArray.size (ByteArray.mk #[91]))+(ByteArray.size b)):Nat)<=1000000/\(((ByteArray.size ((ByteArray.mk #[91])++b))+(ByteArray.size (ByteArray.mk #[93]))):Nat)<=1000000/\y5 (.string (((ByteArray.mk #[91])++b)++(ByteArray.mk #[93]))) d))
def vc69_L3 (y1:Int) (y2:OA) (y3 y4 y5:Nat) (y6:KH) (y7:Nat) (y8:Int) (y9:(List (UInt8))) (y10:PQ):Prop :=
 (∃ (g:(Nat->Int->OA->Nat->Nat->OA->Nat->Nat->Int->Int->KH->Prop)),(∃ (t:Nat),g t y1 y2 y3 y4 (some ⟨y5,0,none⟩) 3 3 (3:Int) 0 (KH.new (KH.new y6 y7 (mkEnt [(.int .u8 y8)] 0)) y5 (mkEnt [.string (ByteArray.mk #[46]),.string (ByteArray.mk (List.toArray y9)),.string ((ByteArray.mk #[92])++(ByteArray.mk (List.toArray y9)))] 0)))/\∀ (n:Nat) (h:Int) (c:(OA)) (d e:Nat) (i:(OA)) (j o:Nat) (f a:Int) (b:KH),g n h c d e i j o f a b->(decide (a<f)=true->((0:Int)<=a/\a<(j:Int))/\∃ (p q:Nat),i=some ⟨p,q,none⟩/\∃ (k:ByteArray),ld b ⟨p,q+((Int.toNat a)*1),none⟩ [(.string k)]/\∀ (l:Nat),((b l):(Option (Ent)))=none->Does (env Try.prog) 50 [.string k,.slice (some ⟨l,0,none⟩) 1 1] (KH.new b l (mkEnt [.int .i64 h,.slice c d e] 0)) fun u s=>∃ (m:Bool),u=(.bool m)/\(m=true->y10 (.string k) s)/\(m=false->∃ (r:Nat),(r:Nat)<n/\g r h c d e i j o f (IntKind.wrap .i64 (a+1)) s))/\(decide (a<f)=false->vc69_L2 c d e b y10))
def vc69 (p0_0:Int) (p0_1:OA) (p0_1n p0_1c:Nat) (H:KH) (Q:PQ):Prop :=
 ((decide ((p0_1n:Int)=1)=true->((0:Int)<=0/\(0:Int)<(p0_1n:Int))/\∃ (d e:Nat),p0_1=some ⟨d,e,none⟩/\(none:(Option Nat))=none/\∃ (b:Int),ld H ⟨d,(e+((Int.toNat 0)*2))+0,none⟩ [(.int .u8 b)]/\∀ (a:Nat),((H a):(Option (Ent)))=none->∃ (f:(List Value)) (c:(List (UInt8))),((kold (KH.new H a (mkEnt [(.int .u8 b)] 0)) 1 (some ⟨a,0,none⟩) 1):(Option (List Value)))=(some f)/\((bytesOfCells f):(Option (List (UInt8))))=(some c)/\(((ByteArray.size (ByteArray.mk #[92]))+(ByteArray.size (ByteArray.mk (List.toArray c)))):Nat)<=1000000/\∀ (g:Nat),(((KH.new H a (mkEnt [(.int .u8 b)] 0)) g):(Option (Ent)))=none->vc69_L3 p0_0 p0_1 p0_1n p0_1c g H a b c Q)/\(decide ((p0_1n:Int)=1)=false->vc69_L2 p0_1 p0_1n p0_1c H Q))
theorem fn69 (ok:EnvOk (env Try.prog)) {p0_0:Int} {p0_1:OA} {p0_1n p0_1c:Nat} {H:KH} {Q:PQ} (h:vc69 p0_0 p0_1 p0_1n p0_1c H Q):Does (env Try.prog) 69 [.agg #[.int .i64 p0_0,.slice p0_1 p0_1n p0_1c]] H Q :=
 wFun_sound (W:=W69 Try.prog) ok.tt (blt_lt (by kernel_rfl)) (ff_of ok (by kernel_rfl) Try.func69) (Eq.mpr (by kernel_rfl) h)
def W70 (P:Program):WE:=⟨env P,tupT,[2],mkTab [],70⟩
def vc70 (p0_0:Int) (p0_1:OA) (p0_1n p0_1c:Nat) (p0_2:OA) (p0_2n p0_2c:Nat) (p1:Int) (H:KH) (Q:PQ):Prop :=
 Does (env Try.prog) 78 [(.int .i64 p0_0)] H fun e d=>∃ (b:Int),e=(.int .i64 b)/\(decide (p1<b)=true->Does (env Try.prog) 51 [(.agg #[.int .i64 p0_0,.slice p0_1 p0_1n p0_1c,.slice p0_2 p0_2n p0_2c])] d fun f g=>∃ (a:ByteArray),f=(.string a)/\(((ByteArray.size (ByteArray.mk #[40]))+(ByteArray.size a)):Nat)<=1000000/\(((ByteArray.size ((ByteArray.mk #[40])++a))+(ByteArray.size (ByteArray.mk #[41]))):Nat)<=1000000/\Q (.string (((ByteArray.mk #[40])++a)++(ByteArray.mk #[41]))) g)/\(decide (p1<b)=false->Does (env Try.prog) 51 [(.agg #[.int .i64 p0_0,.slice p0_1 p0_1n p0_1c,.slice p0_2 p0_2n p0_2c])] d fun h i=>∃ (c:ByteArray),h=(.string c)/\Q (.string c) i)
theorem fn70 (ok:EnvOk (env Try.prog)) {p0_0:Int} {p0_1:OA} {p0_1n p0_1c:Nat} {p0_2:OA} {p0_2n p0_2c:Nat} {p1:Int} {H:KH} {Q:PQ} (h:vc70 p0_0 p0_1 p0_1n p0_1c p0_2 p0_2n p0_2c p1 H Q):Does (env Try.prog) 70 [.agg #[.int .i64 p0_0,.slice p0_1 p0_1n p0_1c,.slice p0_2 p0_2n p0_2c],.int .i64 p1] H Q :=
 wFun_sound (W:=W70 Try.prog) ok.tt (blt_lt (by kernel_rfl)) (ff_of ok (by kernel_rfl) Try.func70) (Eq.mpr (by kernel_rfl) h)
def W76 (P:Program):WE:=⟨env P,tupT,[],mkTab [(0,[.tmp 0 .slice,.tmp 1 .slice,.tmp 12 (.int .i64),.tmp 13 (.int .i64)])],76⟩
def vc76_L1 (y1:OA) (y2 y3:Nat) (y4:OA) (y5 y6:Nat) (y7:KH) (y8:PQ):Prop :=
 (∃ (d:(Nat->OA->Nat->Nat->OA->Nat->Nat->Int->Int->KH->Prop)),(∃ (u:Nat),d u y1 y2 y3 y4 y5 y6 (y2:Int) 0 y7)/\∀ (m:Nat) (e:(OA)) (f n:Nat) (g:(OA)) (h o:Nat) (c a:Int) (b:KH),d m e f n g h o c a b->(decide (a<c)=true->True/\((0:Int)<=a/\a<(f:Int))/\∃ (p q:Nat),e=some ⟨p,q,none⟩/\∃ (i j:Int),ld b ⟨p,q+((Int.toNat a)*2),none⟩ [.int .u8 i,.int .u8 j]/\((0:Int)<=a/\a<(h:Int))/\∃ (r s:Nat),g=some ⟨r,s,none⟩/\∃ (k l:Int),ld b ⟨r,s+((Int.toNat a)*2),none⟩ [.int .u8 k,.int .u8 l]/\(((!((decide (i=k))&&((decide (j=l))&&true))):Bool)=true->y8 (.bool false) b)/\(((!((decide (i=k))&&((decide (j=l))&&true))):Bool)=false->∃ (t:Nat),(t:Nat)<m/\d t e f n g h o c (IntKind.wrap .i64 (a+1)) b))/\(decide (a<c)=false->y8 (.bool true) b))
def vc76 (p0:OA) (p0n p0c:Nat) (p1:OA) (p1n p1c:Nat) (H:KH) (Q:PQ):Prop :=
 ((decide ((p0n:Int)≠(p1n:Int))=true->Q (.bool false) H)/\(decide ((p0n:Int)≠(p1n:Int))=false->vc76_L1 p0 p0n p0c p1 p1n p1c H Q))
theorem fn76 (ok:EnvOk (env Try.prog)) {p0:OA} {p0n p0c:Nat} {p1:OA} {p1n p1c:Nat} {H:KH} {Q:PQ} (h:vc76 p0 p0n p0c p1 p1n p1c H Q):Does (env Try.prog) 76 [.slice p0 p0n p0c,.slice p1 p1n p1c] H Q :=
 wFun_sound (W:=W76 Try.prog) ok.tt (blt_lt (by kernel_rfl)) (ff_of ok (by kernel_rfl) Try.func76) (Eq.mpr (by kernel_rfl) h)
def W77 (P:Program):WE:=⟨env P,tupT,[1],mkTab [],77⟩
def vc77 (p0_0 p0_1:Int) (H:KH) (Q:PQ):Prop :=
 ((decide (p0_0=p0_1)=true->Does (env Try.prog) 87 [(.int .u8 p0_0)] H fun d e=>∃ (c:ByteArray),d=(.string c)/\Q (.string c) e)/\(decide (p0_0=p0_1)=false->True/\Does (env Try.prog) 87 [(.int .u8 p0_0)] H fun f g=>∃ (a:ByteArray),f=(.string a)/\(((1:Nat)=1/\((0+1):Nat)=(0+1))/\((.int .u8 p0_1):Value)=(.int .u8 p0_1)/\True)/\(((ByteArray.size a)+(ByteArray.size (ByteArray.mk #[45]))):Nat)<=1000000/\Does (env Try.prog) 87 [(.int .u8 p0_1)] g fun h i=>∃ (b:ByteArray),h=(.string b)/\(((((ByteArray.size a)+(ByteArray.size (ByteArray.mk #[45]))):Nat)<=1000000/\((.string (a++(ByteArray.mk #[45]))):Value)=(.string (a++(ByteArray.mk #[45]))))/\True)/\(((ByteArray.size (a++(ByteArray.mk #[45])))+(ByteArray.size b)):Nat)<=1000000/\Q (.string ((a++(ByteArray.mk #[45]))++b)) i))
theorem fn77 (ok:EnvOk (env Try.prog)) {p0_0 p0_1:Int} {H:KH} {Q:PQ} (h:vc77 p0_0 p0_1 H Q):Does (env Try.prog) 77 [.agg #[.int .u8 p0_0,.int .u8 p0_1]] H Q :=
 wFun_sound (W:=W77 Try.prog) ok.tt (blt_lt (by kernel_rfl)) (ff_of ok (by kernel_rfl) Try.func77) (Eq.mpr (by kernel_rfl) h)
def W78 (P:Program):WE:=⟨env P,tupT,[],mkTab [],78⟩
def vc78 (p0:Int) (H:KH) (Q:PQ):Prop :=
 ((decide (p0=2)=true->Q (.int .i64 1) H)/\(decide (p0=2)=false->(decide (p0=3)=true->Q (.int .i64 2) H)/\(decide (p0=3)=false->Q (.int .i64 0) H)))
theorem fn78 (ok:EnvOk (env Try.prog)) {p0:Int} {H:KH} {Q:PQ} (h:vc78 p0 H Q):Does (env Try.prog) 78 [.int .i64 p0] H Q :=
 wFun_sound (W:=W78 Try.prog) ok.tt (blt_lt (by kernel_rfl)) (ff_of ok (by kernel_rfl) Try.func78) (Eq.mpr (by kernel_rfl) h)
def W87 (P:Program):WE:=⟨env P,tupT,[],mkTab [],87⟩
def vc87 (p0:Int) (H:KH) (Q:PQ):Prop :=
 (∀ (b:Nat),((H b):(Option (Ent)))=none->∃ (f:(List Value)) (a:(List (UInt8))),((kold (KH.new H b (mkEnt [(.int .u8 p0)] 0)) 1 (some ⟨b,0,none⟩) 1):(Option (List Value)))=(some f)/\((bytesOfCells f):(Option (List (UInt8))))=(some a)/\(((ByteArray.size (ByteArray.mk #[91]))+(ByteArray.size (ByteArray.mk (List.toArray a)))):Nat)<=1000000/\(((ByteArray.size ((ByteArray.mk #[91])++(ByteArray.mk (List.toArray a))))+(ByteArray.size (ByteArray.mk #[93]))):Nat)<=1000000/\∀ (c:Nat),(((KH.new H b (mkEnt [(.int .u8 p0)] 0)) c):(Option (Ent)))=none->∀ (d:Nat),(((KH.new (KH.new H b (mkEnt [(.int .u8 p0)] 0)) c (mkEnt [.int .u8 p0,.int .u8 p0] 0)) d):(Option (Ent)))=none->Does (env Try.prog) 50 [.string (((ByteArray.mk #[91])++(ByteArray.mk (List.toArray a)))++(ByteArray.mk #[93])),.slice (some ⟨d,0,none⟩) 1 1] (KH.new (KH.new (KH.new H b (mkEnt [(.int .u8 p0)] 0)) c (mkEnt [.int .u8 p0,.int .u8 p0] 0)) d (mkEnt [.int .i64 1,.slice (some ⟨c,0,none⟩) 1 1] 0)) fun h g=>∃ (e:Bool),h=(.bool e)/\(e=true->Q (.string (ByteArray.mk (List.toArray a))) g)/\(e=false->(((ByteArray.size (ByteArray.mk #[92]))+(ByteArray.size (ByteArray.mk (List.toArray a)))):Nat)<=1000000/\Q (.string ((ByteArray.mk #[92])++(ByteArray.mk (List.toArray a)))) g))
theorem fn87 (ok:EnvOk (env Try.prog)) {p0:Int} {H:KH} {Q:PQ} (h:vc87 p0 H Q):Does (env Try.prog) 87 [.int .u8 p0] H Q :=
 wFun_sound (W:=W87 Try.prog) ok.tt (blt_lt (by kernel_rfl)) (ff_of ok (by kernel_rfl) Try.func87) (Eq.mpr (by kernel_rfl) h)
end Va
end Go.Proofs.Ytlgpleiobieniaa
set_option linter.unusedSimpArgs false
namespace Go.Ew
open Go.Ev Go.Deep
theorem rowAddr {H:KH} {sz n:Nat} {a:OA} {cs:List Value} (h:kold H sz a n=some cs) (hn:0<n):∃ b o,a=some ⟨b,o,none⟩/\∀ k m,k+m<=n*sz->ld H ⟨b,o+k,none⟩ ((cs.drop k).take m):=by
 have hl:=kold_len h
 have hnb:Nat.beq n 0=false:=by
  cases hq:Nat.beq n 0 with
  | false=>rfl
  | true=>have:=Nat.eq_of_beq_eq_true hq; omega
 cases a with
 | none=>unfold kold at h; rw [hnb] at h; cases h
 | some ad =>
   obtain ⟨b,o,sp⟩:=ad
   cases sp with
   | some x=>simp only [kold] at h; rw [hnb] at h; cases h
   | none =>
     obtain ⟨e,he,hr⟩:=kold_some.1 h
     refine ⟨b,o,rfl,fun k m hkm=>?_⟩
     exact ldSub ⟨rfl,e,he,by rw [hl]; exact hr⟩ k m (by omega)
theorem dropTake {α:Type} {l:List α} {k m:Nat} {r:List α} (hl:r.length=m) (h:∀ j,j<m->l[k+j]? = r[j]?):(l.drop k).take m=r:=by
 apply List.ext_getElem?
 intro j
 by_cases hj:j<m
 .rw [List.getElem?_take,if_pos hj,List.getElem?_drop]
  exact h j hj
 .rw [List.getElem?_take,if_neg hj,List.getElem?_eq_none (by omega)]
theorem rgC_at {L:List Rg} {k:Nat} {r:Rg} (h:L[k]? = some r):((rgC L).drop (k*2)).take 2=[.int .u8 r.1,.int .u8 r.2]:=by
 obtain ⟨h1,h2⟩:=rg_get h
 refine dropTake rfl fun j hj=>?_
 match j,hj with
 | 0,_=>simpa using h1
 | 1,_=>simpa using h2
theorem ItC_at {X:KH} {l:List It} {cs:List Value} (hi:ItC X l cs) {k:Nat} {op:Int} {rg:List Rg} (h:l[k]? = some (op,rg)):∃ a c,(cs.drop (k*2)).take 2=[.int .i64 op,.slice a rg.length c]/\kold X 2 a rg.length=some (rgC rg):=by
 obtain ⟨a,c,h1,h2,h3⟩:=it_get hi h
 refine ⟨a,c,dropTake rfl fun j hj=>?_,h3⟩
 match j,hj with
 | 0,_=>simpa using h1
 | 1,_=>simpa using h2
inductive Ptn where
 | cls (L:List Rg)
 | join (a b:Ptn)
 | alt (a b:Ptn)
 | star (a:Ptn)
 | plus (a:Ptn)
 | may (a:Ptn)
def Ptn.op:Ptn->Int
 | .cls _=>1
 | .join _ _=>2
 | .alt _ _=>3
 | .star _=>4
 | .plus _=>5
 | .may _=>6
def Ptn.items:Ptn->List It
 | .cls L=>[(1,L)]
 | .join a b=>a.items++b.items++[(2,[])]
 | .alt a b=>a.items++b.items++[(3,[])]
 | .star a=>a.items++[(4,[])]
 | .plus a=>a.items++[(5,[])]
 | .may a=>a.items++[(6,[])]
def said (s:ByteArray) (l:List It):Bool:=decide (parseR s=some l)
def b1B (c:Int):ByteArray:=ByteArray.mk #[UInt8.ofNat c.toNat]
def byteT (c:Int):ByteArray:=if said (ByteArray.mk #[91]++b1B c++ByteArray.mk #[93]) [(1,[(c,c)])]=true then b1B c else ByteArray.mk #[92]++b1B c
def rangeT (r:Rg):ByteArray:=if r.1=r.2 then byteT r.1 else byteT r.1++ByteArray.mk #[45]++byteT r.2
def rangesT:List Rg->ByteArray->ByteArray
 | [],s=>s
 | r :: l,s=>rangesT l (s++rangeT r)
def braceT (L:List Rg):ByteArray:=ByteArray.mk #[91]++rangesT L (ByteArray.mk #[])++ByteArray.mk #[93]
def classT:List Rg->ByteArray
 | [r]=>if said (ByteArray.mk #[46]) [(1,[r])]=true then ByteArray.mk #[46] else if said (b1B r.1) [(1,[r])]=true then b1B r.1 else if said (ByteArray.mk #[92]++b1B r.1) [(1,[r])]=true then ByteArray.mk #[92]++b1B r.1 else braceT [r]
 | L=>braceT L
def Ptn.loose:Ptn->Int
 | .join _ _=>1
 | .alt _ _=>2
 | _=>0
def brk (k l:Int) (s:ByteArray):ByteArray:=if k<l then ByteArray.mk #[40]++s++ByteArray.mk #[41] else s
def Ptn.text:Ptn->ByteArray
 | .cls L=>classT L
 | .join a b=>brk 1 a.loose a.text++brk 0 b.loose b.text
 | .alt a b=>brk 2 a.loose a.text++ByteArray.mk #[124]++brk 1 b.loose b.text
 | .star a=>brk 0 a.loose a.text++ByteArray.mk #[42]
 | .plus a=>brk 0 a.loose a.text++ByteArray.mk #[43]
 | .may a=>brk 0 a.loose a.text++ByteArray.mk #[63]
def Ptn.fit:Ptn->Prop
 | .cls L=>L.length<=24
 | .join a b=>a.fit/\b.fit
 | .alt a b=>a.fit/\b.fit
 | .star a=>a.fit
 | .plus a=>a.fit
 | .may a=>a.fit
theorem b1B_size (c:Int):(b1B c).size=1:=rfl
theorem lit1 (x:UInt8):(ByteArray.mk #[x]).size=1:=rfl
theorem byteT_size (c:Int):(byteT c).size<=2:=by
 unfold byteT
 split
 .rw [b1B_size]; omega
 .rw [size_app,b1B_size,lit1]; omega
theorem rangeT_size (r:Rg):(rangeT r).size<=5:=by
 have h1:=byteT_size r.1
 have h2:=byteT_size r.2
 unfold rangeT
 split
 .omega
 .rw [size_app,size_app,lit1]; omega
theorem rangesT_size:∀ (L:List Rg) (s:ByteArray),(rangesT L s).size<=s.size+5*L.length
 | [],s=>by simp [rangesT]
 | r :: l,s=>by
   have h:=rangesT_size l (s++rangeT r)
   have:=rangeT_size r
   rw [size_app] at h
   simp only [rangesT,List.length_cons]
   omega
theorem braceT_size (L:List Rg):(braceT L).size<=2+5*L.length:=by
 have:=rangesT_size L (ByteArray.mk #[])
 have e:(ByteArray.mk #[]).size=0:=rfl
 unfold braceT
 rw [size_app,size_app,lit1,lit1]
 omega
theorem classT_size (L:List Rg):(classT L).size<=2+5*L.length:=by
 unfold classT
 split
 .split
  .rw [lit1]; omega
  .split
   .rw [b1B_size]; omega
   .split
    .rw [size_app,b1B_size,lit1]; omega
    .exact braceT_size _
 .exact braceT_size _
theorem brk_size (k l:Int) (s:ByteArray):(brk k l s).size<=s.size+2:=by
 unfold brk
 split
 .rw [size_app,size_app,lit1,lit1]; omega
 .omega
theorem text_size:∀ t:Ptn,t.fit->t.text.size<=130*t.items.length
 | .cls L,h=>by
   have:=classT_size L
   have h:L.length<=24:=h
   simp only [Ptn.text,Ptn.items,List.length_cons,List.length_nil]
   omega
 | .join a b,h=>by
   have h1:=text_size a h.1
   have h2:=text_size b h.2
   have h3:=brk_size 1 a.loose a.text
   have h4:=brk_size 0 b.loose b.text
   simp only [Ptn.text,Ptn.items,List.length_append,List.length_cons,List.length_nil,size_app]
   omega
 | .alt a b,h=>by
   have h1:=text_size a h.1
   have h2:=text_size b h.2
   have h3:=brk_size 2 a.loose a.text
   have h4:=brk_size 1 b.loose b.text
   simp only [Ptn.text,Ptn.items,List.length_append,List.length_cons,List.length_nil,size_app,lit1]
   omega
 | .star a,h=>by
   have h1:=text_size a h
   have h3:=brk_size 0 a.loose a.text
   simp only [Ptn.text,Ptn.items,List.length_append,List.length_cons,List.length_nil,size_app,lit1]
   omega
 | .plus a,h=>by
   have h1:=text_size a h
   have h3:=brk_size 0 a.loose a.text
   simp only [Ptn.text,Ptn.items,List.length_append,List.length_cons,List.length_nil,size_app,lit1]
   omega
 | .may a,h=>by
   have h1:=text_size a h
   have h3:=brk_size 0 a.loose a.text
   simp only [Ptn.text,Ptn.items,List.length_append,List.length_cons,List.length_nil,size_app,lit1]
   omega
def NdC (X:KH):Ptn->List Value->Prop
 | .cls L,cs=>∃ a c b d,cs=[.int .i64 1,.slice a L.length c,.slice b 0 d]/\kold X 2 a L.length=some (rgC L)
 | .join t u,cs=>∃ a c b d p q,cs=[.int .i64 2,.slice a 0 c,.slice b 2 d]/\kold X 3 b 2=some (p++q)/\NdC X t p/\NdC X u q
 | .alt t u,cs=>∃ a c b d p q,cs=[.int .i64 3,.slice a 0 c,.slice b 2 d]/\kold X 3 b 2=some (p++q)/\NdC X t p/\NdC X u q
 | .star t,cs=>∃ a c b d p,cs=[.int .i64 4,.slice a 0 c,.slice b 1 d]/\kold X 3 b 1=some p/\NdC X t p
 | .plus t,cs=>∃ a c b d p,cs=[.int .i64 5,.slice a 0 c,.slice b 1 d]/\kold X 3 b 1=some p/\NdC X t p
 | .may t,cs=>∃ a c b d p,cs=[.int .i64 6,.slice a 0 c,.slice b 1 d]/\kold X 3 b 1=some p/\NdC X t p
theorem NdC.mono {X Y:KH} (hl:Le X Y):∀ {t:Ptn} {cs:List Value},NdC X t cs->NdC Y t cs
 | .cls L,cs,⟨a,c,b,d,h1,h2⟩=>⟨a,c,b,d,h1,hl.kold h2⟩
 | .join t u,cs,⟨a,c,b,d,p,q,h1,h2,h3,h4⟩=>⟨a,c,b,d,p,q,h1,hl.kold h2,h3.mono hl,h4.mono hl⟩
 | .alt t u,cs,⟨a,c,b,d,p,q,h1,h2,h3,h4⟩=>⟨a,c,b,d,p,q,h1,hl.kold h2,h3.mono hl,h4.mono hl⟩
 | .star t,cs,⟨a,c,b,d,p,h1,h2,h3⟩=>⟨a,c,b,d,p,h1,hl.kold h2,h3.mono hl⟩
 | .plus t,cs,⟨a,c,b,d,p,h1,h2,h3⟩=>⟨a,c,b,d,p,h1,hl.kold h2,h3.mono hl⟩
 | .may t,cs,⟨a,c,b,d,p,h1,h2,h3⟩=>⟨a,c,b,d,p,h1,hl.kold h2,h3.mono hl⟩
theorem NdC.three {X:KH}:∀ {t:Ptn} {cs:List Value},NdC X t cs->∃ a n c b m d,cs=[.int .i64 t.op,.slice a n c,.slice b m d]
 | .cls L,cs,⟨a,c,b,d,h1,_⟩=>⟨_,_,_,_,_,_,h1⟩
 | .join t u,cs,⟨a,c,b,d,p,q,h1,_⟩=>⟨_,_,_,_,_,_,h1⟩
 | .alt t u,cs,⟨a,c,b,d,p,q,h1,_⟩=>⟨_,_,_,_,_,_,h1⟩
 | .star t,cs,⟨a,c,b,d,p,h1,_⟩=>⟨_,_,_,_,_,_,h1⟩
 | .plus t,cs,⟨a,c,b,d,p,h1,_⟩=>⟨_,_,_,_,_,_,h1⟩
 | .may t,cs,⟨a,c,b,d,p,h1,_⟩=>⟨_,_,_,_,_,_,h1⟩
end Go.Ew
namespace Go.Proofs.Ytlgpleiobieniaa
open Go.Ev Go.Ew
namespace Va
section
variable (ok : EnvOk (env Try.prog))
include ok
theorem c76 {l m:List Rg} {a b:OA} {c d:Nat} {H:KH} {Q:PQ} (ha:kold H 2 a l.length=some (rgC l)) (hb:kold H 2 b m.length=some (rgC m)) (hl:l.length<=1000000) (hq:Q (.bool (decide (l=m))) H):Does (env Try.prog) 76 [.slice a l.length c,.slice b m.length d] H Q:=by
 refine fn76 ok ⟨fun h=>?_,fun h=>?_⟩
 .have h:=of_decide_eq_true h
  rw [decide_eq_false (fun e=>h (by rw [e]))] at hq
  exact hq
 have hlm:l.length=m.length:=by
  have:¬ ((l.length:Nat):Int)≠((m.length:Nat):Int):=of_decide_eq_false h
  omega
 unfold vc76_L1
 refine ⟨fun n3 a4 n5 n6 a7 n8 n9 x10 x11 H12=>a4=a/\n5=l.length/\a7=b/\n8=m.length/\x10=(l.length:Nat)/\H12=H/\∃ k:Nat,x11=k/\k<=l.length/\n3=l.length-k/\decide (l=m)=decide (l.drop k=m.drop k),⟨l.length,rfl,rfl,rfl,rfl,rfl,rfl,0,rfl,by omega,rfl,by simp⟩,?_⟩
 rintro n3 a4 n5 n6 a7 n8 n9 x10 x11 H12 ⟨rfl,rfl,rfl,rfl,rfl,rfl,k,rfl,hk,rfl,hd⟩
 refine ⟨fun hlt=>?_,fun hge=>?_⟩
 .have hlt:k<l.length:=by have:=of_decide_eq_true hlt; omega
  have hlt2:k<m.length:=by omega
  obtain ⟨b1,o1,e1,r1⟩:=rowAddr ha (by omega)
  obtain ⟨b2,o2,e2,r2⟩:=rowAddr hb (by omega)
  have e0:Int.toNat ((k:Nat):Int)=k:=by omega
  have g1:=r1 (k*2) 2 (by omega)
  have g2:=r2 (k*2) 2 (by omega)
  rw [rgC_at (show l[k]? = some l[k] by simp [hlt])] at g1
  rw [rgC_at (show m[k]? = some m[k] by simp [hlt2])] at g2
  rw [List.drop_eq_getElem_cons hlt,List.drop_eq_getElem_cons hlt2] at hd
  rw [e0]
  refine ⟨trivial,⟨by omega,by omega⟩,b1,o1,e1,_,_,g1,⟨by omega,by omega⟩,b2,o2,e2,_,_,g2,fun hn=>?_,fun hy=>?_⟩
  .have:l[k]≠m[k]:=fun q=>by rw [q] at hn; simp at hn
   rw [decide_eq_false (fun q=>this (List.cons.inj q).1)] at hd
   rw [hd] at hq
   exact hq
  .have:l[k]=m[k]:=by
    simp at hy
    exact Prod.ext hy.1 hy.2
   refine ⟨l.length-(k+1),by omega,rfl,rfl,rfl,rfl,rfl,rfl,k+1,by rw [wrap64 (by omega) (by omega)]; omega,by omega,rfl,?_⟩
   rw [hd,this]
   simp only [List.cons.injEq,true_and]
 .have hge:k=l.length:=by have:=of_decide_eq_false hge; omega
  subst hge
  rw [List.drop_length,hlm,List.drop_length] at hd
  rw [hd] at hq
  exact hq
theorem c68 {x y:It} {a b:OA} {c d:Nat} {H:KH} {Q:PQ} (ha:kold H 2 a x.2.length=some (rgC x.2)) (hb:kold H 2 b y.2.length=some (rgC y.2)) (hl:x.2.length<=1000000) (hq:Q (.bool (decide (x=y))) H):Does (env Try.prog) 68 [.agg #[.int .i64 x.1,.slice a x.2.length c],.agg #[.int .i64 y.1,.slice b y.2.length d]] H Q:=by
 refine fn68 ok ⟨fun h=>?_,fun h=>?_⟩
 .have h:x.1=y.1:=of_decide_eq_true h
  refine c76 ok ha hb hl ⟨_,rfl,?_⟩
  have:decide (x=y)=decide (x.2=y.2):=by
   rw [Bool.eq_iff_iff]
   simp only [decide_eq_true_eq]
   exact ⟨fun q=>by rw [q],fun q=>Prod.ext h q⟩
  rw [<- this]
  exact hq
 .have h:¬ x.1=y.1:=of_decide_eq_false h
  rw [decide_eq_false (fun e=>h (by rw [e]))] at hq
  exact hq
theorem c67 {l m:List It} {a b:OA} {c d:Nat} {H:KH} {Q:PQ} (ha:ItR H l a) (hb:ItR H m b) (hl:l.length<=1000000) (hs:∀ i∈l,i.2.length<=1000000) (hq:Q (.bool (decide (l=m))) H):Does (env Try.prog) 67 [.slice a l.length c,.slice b m.length d,.func (.func 68) #[] #[]] H Q:=by
 refine fn67 ok ⟨fun h=>?_,fun h=>?_⟩
 .have h:=of_decide_eq_true h
  rw [decide_eq_false (fun e=>h (by rw [e]))] at hq
  exact hq
 have hlm:l.length=m.length:=by
  have:¬ ((l.length:Nat):Int)≠((m.length:Nat):Int):=of_decide_eq_false h
  omega
 obtain ⟨cs,k1,i1⟩:=ha
 obtain ⟨ds,k2,i2⟩:=hb
 unfold vc67_L1
 refine ⟨fun n3 a4 n5 n6 n7 l8 a9 n10 n11 x12 x13 H14=>a4=b/\n5=m.length/\n7=68/\l8=[]/\a9=a/\n10=l.length/\x12=(l.length:Nat)/\H14=H/\∃ k:Nat,x13=k/\k<=l.length/\n3=l.length-k/\decide (l=m)=decide (l.drop k=m.drop k),⟨l.length,rfl,rfl,rfl,rfl,rfl,rfl,rfl,rfl,0,rfl,by omega,rfl,by simp⟩,?_⟩
 rintro n3 a4 n5 n6 n7 l8 a9 n10 n11 x12 x13 H14 ⟨rfl,rfl,rfl,rfl,rfl,rfl,rfl,rfl,k,rfl,hk,rfl,hd⟩
 refine ⟨fun hlt=>?_,fun hge=>?_⟩
 .have hlt:k<l.length:=by have:=of_decide_eq_true hlt; omega
  have hlt2:k<m.length:=by omega
  obtain ⟨b1,o1,e1,r1⟩:=rowAddr k1 (by omega)
  obtain ⟨b2,o2,e2,r2⟩:=rowAddr k2 (by omega)
  have e0:Int.toNat ((k:Nat):Int)=k:=by omega
  have g1:=r1 (k*2) 2 (by omega)
  have g2:=r2 (k*2) 2 (by omega)
  obtain ⟨aa,ca,f1,f2⟩:=ItC_at i1 (k:=k) (op:=l[k].1) (rg:=l[k].2) (by simp [hlt])
  obtain ⟨ab,cb,f3,f4⟩:=ItC_at i2 (k:=k) (op:=m[k].1) (rg:=m[k].2) (by simp [hlt2])
  rw [f1] at g1
  rw [f3] at g2
  rw [List.drop_eq_getElem_cons hlt,List.drop_eq_getElem_cons hlt2] at hd
  rw [e0]
  refine ⟨⟨by omega,by omega⟩,b1,o1,e1,_,_,_,_,g1,⟨by omega,by omega⟩,b2,o2,e2,_,_,_,_,g2,c68 ok f2 f4 (hs _ (List.getElem_mem hlt)) ⟨_,rfl,fun hn=>?_,fun hy=>?_⟩⟩
  .have hn:¬ l[k]=m[k]:=by simpa using hn
   rw [decide_eq_false (fun q=>hn (List.cons.inj q).1)] at hd
   rw [hd] at hq
   exact hq
  .have hy:l[k]=m[k]:=by simpa using hy
   refine ⟨l.length-(k+1),by omega,rfl,rfl,rfl,rfl,rfl,rfl,rfl,rfl,k+1,by rw [wrap64 (by omega) (by omega)]; omega,by omega,rfl,?_⟩
   rw [hd,hy]
   simp only [List.cons.injEq,true_and]
 .have hge:k=l.length:=by have:=of_decide_eq_false hge; omega
  subst hge
  rw [List.drop_length,hlm,List.drop_length] at hd
  rw [hd] at hq
  exact hq
theorem c50 {s:ByteArray} {l:List It} {a:OA} {c:Nat} {H:KH} {Q:PQ} (ha:ItR H l a) (hq:∀ H',Le H H'->Q (.bool (said s l)) H'):Does (env Try.prog) 50 [.string s,.slice a l.length c] H Q:=by
 refine fn50 ok (c30 ok (fun hn H' hl=>⟨_,_,_,_,rfl,fun q=>(by cases q),fun _=>?_⟩) fun m hm a' c' H' hl hi=>⟨_,_,_,_,rfl,fun _=>?_,fun q=>(by cases q)⟩)
 .have:=hq H' hl
  unfold said at this
  rw [hn] at this
  simpa using this
 .obtain ⟨q1,q2⟩:=parse_small hm
  refine c67 ok hi (ha.mono hl) (by omega) (fun i h=>by have:=q2 i h; omega) ⟨_,rfl,?_⟩
  have:=hq H' hl
  unfold said at this
  rw [hm] at this
  simpa using this
theorem c87 {x:Int} {H:KH} {Q:PQ} (hq:∀ H',Le H H'->Q (.string (byteT x)) H'):Does (env Try.prog) 87 [.int .u8 x] H Q:=by
 refine fn87 ok fun n1 h1=>⟨[.int .u8 x],[UInt8.ofNat x.toNat],lit_kold (if_pos rfl) rfl,rfl,(show 1+1<=1000000 by omega),(by rw [size_app]; show 1+1+1<=1000000; omega),fun n4 h4 n5 h5=>?_⟩
 have l1:Le H (H.new n1 (mkEnt [.int .u8 x] 0)):=Le.new h1
 have l2:Le H ((H.new n1 (mkEnt [.int .u8 x] 0)).new n4 (mkEnt [.int .u8 x,.int .u8 x] 0)):=l1.trans (Le.new h4)
 have l3:=l2.trans (Le.new (e:=mkEnt [.int .i64 1,.slice (some ⟨n4,0,none⟩) 1 1] 0) h5)
 have hi:ItR (((H.new n1 (mkEnt [.int .u8 x] 0)).new n4 (mkEnt [.int .u8 x,.int .u8 x] 0)).new n5 (mkEnt [.int .i64 1,.slice (some ⟨n4,0,none⟩) 1 1] 0)) [(1,[(x,x)])] (some ⟨n5,0,none⟩):=⟨_,lit_kold (if_pos rfl) rfl,some ⟨n4,0,none⟩,1,[],rfl,(Le.new h5).kold (lit_kold (if_pos rfl) rfl),rfl⟩
 refine c50 ok (l:=[(1,[(x,x)])]) hi fun H7 hl7=>⟨_,rfl,fun hy=>?_,fun hn=>⟨(show 1+1<=1000000 by omega),?_⟩⟩
 .have:=hq H7 (l3.trans hl7)
  unfold byteT at this
  rw [if_pos (show said (ByteArray.mk #[91]++b1B x++ByteArray.mk #[93]) [(1,[(x,x)])]=true from hy)] at this
  exact this
 .have:=hq H7 (l3.trans hl7)
  unfold byteT at this
  rw [if_neg (fun q=>by rw [show said (ByteArray.mk #[91]++b1B x++ByteArray.mk #[93]) [(1,[(x,x)])]=false from hn] at q; cases q)] at this
  exact this
theorem c77 {r:Rg} {H:KH} {Q:PQ} (hq:∀ H',Le H H'->Q (.string (rangeT r)) H'):Does (env Try.prog) 77 [.agg #[.int .u8 r.1,.int .u8 r.2]] H Q:=by
 have s1:=byteT_size r.1
 have s2:=byteT_size r.2
 refine fn77 ok ⟨fun h=>?_,fun h=>⟨trivial,?_⟩⟩
 .have h:r.1=r.2:=of_decide_eq_true h
  refine c87 ok fun H' hl=>⟨_,rfl,?_⟩
  have:=hq H' hl
  unfold rangeT at this
  rw [if_pos h] at this
  exact this
 .have h:¬ r.1=r.2:=of_decide_eq_false h
  refine c87 ok fun H' hl=>⟨_,rfl,⟨⟨rfl,rfl⟩,rfl,trivial⟩,by rw [lit1]; omega,c87 ok fun H2 hl2=>⟨_,rfl,⟨⟨by rw [lit1]; omega,rfl⟩,trivial⟩,by rw [size_app,lit1]; omega,?_⟩⟩
  have:=hq H2 (hl.trans hl2)
  unfold rangeT at this
  rw [if_neg h] at this
  exact this
end
end Va
end Go.Proofs.Ytlgpleiobieniaa
namespace Go.Ew
open Go.Ev Go.Deep
def tryT (L:List Rg):List ByteArray->ByteArray
 | []=>braceT L
 | s :: r=>if said s [(1,L)]=true then s else tryT L r
theorem classT_one (r:Rg):classT [r]=tryT [r] [ByteArray.mk #[46],b1B r.1,ByteArray.mk #[92]++b1B r.1]:=rfl
theorem classT_many {L:List Rg} (h:L.length≠1):classT L=braceT L:=by
 unfold classT
 split
 .exact absurd rfl h
 .rfl
theorem kid2 {H:KH} {t u:Ptn} {b:OA} {p q:List Value} (hk:kold H 3 b 2=some (p++q)) (h1:NdC H t p) (h2:NdC H u q):∃ n o,b=some ⟨n,o,none⟩/\∀ H',Le H H'->ld H' ⟨n,o+Int.toNat 0*3,none⟩ p/\ld H' ⟨n,o+Int.toNat 1*3,none⟩ q:=by
 obtain ⟨n,o,e,r⟩:=rowAddr hk (by omega)
 obtain ⟨a1,n1,c1,b1,m1,d1,rfl⟩:=h1.three
 obtain ⟨a2,n2,c2,b2,m2,d2,rfl⟩:=h2.three
 exact ⟨n,o,e,fun H' hl=>⟨hl.ld (r 0 3 (by omega)),hl.ld (r 3 3 (by omega))⟩⟩
theorem kid1 {H:KH} {t:Ptn} {b:OA} {p:List Value} (hk:kold H 3 b 1=some p) (h1:NdC H t p):∃ n o,b=some ⟨n,o,none⟩/\∀ H',Le H H'->ld H' ⟨n,o+Int.toNat 0*3,none⟩ p:=by
 obtain ⟨n,o,e,r⟩:=rowAddr hk (by omega)
 obtain ⟨a1,n1,c1,b1,m1,d1,rfl⟩:=h1.three
 exact ⟨n,o,e,fun H' hl=>hl.ld (r 0 3 (by omega))⟩
end Go.Ew
namespace Go.Proofs.Ytlgpleiobieniaa
open Go.Ev Go.Ew
namespace Va
section
variable (ok : EnvOk (env Try.prog))
include ok
theorem l70_2 {L:List Rg} {a:OA} {c:Nat} {H:KH} {Q:PQ} (ha:kold H 2 a L.length=some (rgC L)) (hl:L.length<=24) (hq:∀ H',Le H H'->Q (.string (braceT L)) H'):vc69_L2 a L.length c H Q:=by
 unfold vc69_L2
 refine ⟨fun n3 s4 a5 n6 n7 x8 x9 H10=>a5=a/\n6=L.length/\x8=(L.length:Nat)/\Le H H10/\∃ k:Nat,x9=k/\k<=L.length/\n3=L.length-k/\s4.size<=5*k/\rangesT L (ByteArray.mk #[])=rangesT (L.drop k) s4,⟨L.length,rfl,rfl,rfl,Le.refl _,0,rfl,by omega,rfl,by decide,by simp⟩,?_⟩
 rintro n3 s4 a5 n6 n7 x8 x9 H10 ⟨rfl,rfl,rfl,hle,k,rfl,hk,rfl,hs,hr⟩
 refine ⟨fun hlt=>?_,fun hge=>?_⟩
 .have hlt:k<L.length:=by have:=of_decide_eq_true hlt; omega
  obtain ⟨b1,o1,e1,r1⟩:=rowAddr (hle.kold ha) (by omega)
  have e0:Int.toNat ((k:Nat):Int)=k:=by omega
  have g1:=r1 (k*2) 2 (by omega)
  rw [rgC_at (show L[k]? = some L[k] by simp [hlt])] at g1
  have hsz:=rangeT_size L[k]
  rw [e0]
  refine ⟨⟨by omega,by omega⟩,b1,o1,e1,_,_,g1,c77 ok fun H' hl'=>⟨_,rfl,by omega,L.length-(k+1),by omega,rfl,rfl,rfl,hle.trans hl',k+1,by rw [wrap64 (by omega) (by omega)]; omega,by omega,rfl,by rw [size_app]; omega,?_⟩⟩
  rw [hr,List.drop_eq_getElem_cons hlt]
  rfl
 .have hge:k=L.length:=by have:=of_decide_eq_false hge; omega
  subst hge
  rw [List.drop_length] at hr
  have hr:rangesT L (ByteArray.mk #[])=s4:=hr
  refine ⟨by rw [lit1]; omega,by rw [size_app,lit1,lit1]; omega,?_⟩
  have:=hq H10 hle
  unfold braceT at this
  rw [hr] at this
  exact this
theorem c69 {L:List Rg} {a:OA} {c:Nat} {H:KH} {Q:PQ} (ha:kold H 2 a L.length=some (rgC L)) (hl:L.length<=24) (hq:∀ H',Le H H'->Q (.string (classT L)) H'):Does (env Try.prog) 69 [.agg #[.int .i64 1,.slice a L.length c]] H Q:=by
 refine fn69 ok ⟨fun h1=>?_,fun h1=>?_⟩
 .have h1:L.length=1:=by have:=of_decide_eq_true h1; omega
  obtain ⟨r,rfl⟩:∃ r,L=[r]:=by
   match L,h1 with
   | [r],_=>exact ⟨r,rfl⟩
  obtain ⟨b1,o1,e1,r1⟩:=rowAddr ha (by simp)
  have g1:=r1 0 1 (by simp)
  have g1:ld H ⟨b1,o1+Int.toNat 0*2+0,none⟩ [.int .u8 r.1]:=g1
  refine ⟨⟨by decide,by simp⟩,b1,o1,e1,rfl,_,g1,fun n4 h4=>⟨[.int .u8 r.1],[UInt8.ofNat r.1.toNat],lit_kold (if_pos rfl) rfl,rfl,(show 1+1<=1000000 by omega),fun n7 h7=>?_⟩⟩
  have l1:Le H (H.new n4 (mkEnt [.int .u8 r.1] 0)):=Le.new h4
  generalize hE:mkEnt [Value.string (ByteArray.mk #[46]),.string (b1B r.1),.string (ByteArray.mk #[92]++b1B r.1)] 0=E
  have hK:Le H ((H.new n4 (mkEnt [.int .u8 r.1] 0)).new n7 E):=l1.trans (Le.new h7)
  unfold vc69_L3
  refine ⟨fun n3 x4 a5 n6 n7_1 a8 n9 n10 x11 x12 H13=>x4=1/\a5=a/\n6=1/\a8=some ⟨n7,0,none⟩/\n9=3/\x11=3/\Le ((H.new n4 (mkEnt [.int .u8 r.1] 0)).new n7 E) H13/\∃ k:Nat,x12=k/\k<=3/\n3=3-k/\classT [r]=tryT [r] ([ByteArray.mk #[46],b1B r.1,ByteArray.mk #[92]++b1B r.1].drop k),⟨3,rfl,rfl,rfl,rfl,rfl,rfl,?_,0,rfl,by omega,rfl,classT_one r⟩,?_⟩
  .rw [<- hE]; exact Le.refl _
  rintro n3 x4 a5 n6 n7_1 a8 n9 n10 x11 x12 H13 ⟨rfl,rfl,rfl,rfl,rfl,rfl,hle,k,rfl,hk,rfl,ht⟩
  refine ⟨fun hlt=>?_,fun hge=>?_⟩
  .have hlt:k<3:=by have:=of_decide_eq_true hlt; omega
   have e0:Int.toNat ((k:Nat):Int)=k:=by omega
   rw [e0]
   have hat:∃ s:ByteArray,ld H13 ⟨n7,0+k*1,none⟩ [.string s]/\[ByteArray.mk #[46],b1B r.1,ByteArray.mk #[92]++b1B r.1].drop k=s :: [ByteArray.mk #[46],b1B r.1,ByteArray.mk #[92]++b1B r.1].drop (k+1):=by
    have hn7:H13 n7=some (mkEnt [Value.string (ByteArray.mk #[46]),.string (b1B r.1),.string (ByteArray.mk #[92]++b1B r.1)] 0):=by rw [hE]; exact hle n7 E (if_pos rfl)
    have:k=0\/k=1\/k=2:=by omega
    rcases this with q | q | q<;>subst q
    .exact ⟨_,litAt hn7 rfl,rfl⟩
    .exact ⟨_,litAt hn7 rfl,rfl⟩
    .exact ⟨_,litAt hn7 rfl,rfl⟩
   obtain ⟨s,hs,hd⟩:=hat
   rw [hd] at ht
   refine ⟨⟨by omega,by omega⟩,n7,0,rfl,s,hs,fun n41 h41=>?_⟩
   have l2:=Le.new (e:=mkEnt [.int .i64 1,.slice a5 1 n7_1] 0) h41
   have hi:ItR (H13.new n41 (mkEnt [.int .i64 1,.slice a5 1 n7_1] 0)) [(1,[r])] (some ⟨n41,0,none⟩):=⟨_,lit_kold (if_pos rfl) rfl,a5,n7_1,[],rfl,l2.kold (hle.kold (hK.kold ha)),rfl⟩
   refine c50 ok (l:=[(1,[r])]) hi fun H7 hl7=>⟨_,rfl,fun hy=>?_,fun hn=>?_⟩
   .have:=hq H7 (((hK.trans hle).trans l2).trans hl7)
    rw [ht,tryT,if_pos hy] at this
    exact this
   .refine ⟨3-(k+1),by omega,rfl,rfl,rfl,rfl,rfl,rfl,(hle.trans l2).trans hl7,k+1,by rw [wrap64 (by omega) (by omega)]; omega,by omega,rfl,?_⟩
    rw [ht,tryT,if_neg (by rw [hn]; decide)]
  .have hge:k=3:=by have:=of_decide_eq_false hge; omega
   subst hge
   have ht:classT [r]=braceT [r]:=ht
   rw [ht] at hq
   exact l70_2 ok (L:=[r]) (hle.kold (hK.kold ha)) hl fun H' hl'=>hq H' ((hK.trans hle).trans hl')
 .have h1:L.length≠1:=by have:=of_decide_eq_false h1; omega
  rw [classT_many h1] at hq
  exact l70_2 ok ha hl hq
theorem c78 {t:Ptn} {H:KH} {Q:PQ} (hq:Q (.int .i64 t.loose) H):Does (env Try.prog) 78 [.int .i64 t.op] H Q:=by
 refine fn78 ok ⟨fun h=>?_,fun h=>⟨fun h2=>?_,fun h2=>?_⟩⟩
 .cases t<;>first | exact hq | simp [Ptn.op] at h
 .cases t<;>first | exact hq | simp [Ptn.op] at h2
 .cases t<;>first | exact hq | simp [Ptn.op] at h h2
def TxD (t:Ptn):Prop:=∀ (H:KH) (cs:List Value) (Q:PQ),NdC H t cs->(∀ H',Le H H'->Q (.string t.text) H')->Does (env Try.prog) 51 [.agg cs.toArray] H Q
theorem c70 {t:Ptn} (hT:TxD t) (hf:t.fit) {k:Int} {H:KH} {cs:List Value} {Q:PQ} (hn:NdC H t cs) (hs:t.items.length<=100) (hq:∀ H',Le H H'->Q (.string (brk k t.loose t.text)) H'):Does (env Try.prog) 70 [.agg cs.toArray,.int .i64 k] H Q:=by
 have h3:=hn.three
 obtain ⟨a,n,c,b,m,d,rfl⟩:=h3
 have hsz:=text_size t hf
 refine fn70 ok (c78 ok ⟨_,rfl,fun h=>?_,fun h=>?_⟩)
 .have h:k<t.loose:=of_decide_eq_true h
  refine hT H _ _ hn fun H' hl=>⟨_,rfl,by rw [lit1]; omega,by rw [size_app,lit1,lit1]; omega,?_⟩
  have:=hq H' hl
  unfold brk at this
  rw [if_pos h] at this
  exact this
 .have h:¬ k<t.loose:=of_decide_eq_false h
  refine hT H _ _ hn fun H' hl=>⟨_,rfl,?_⟩
  have:=hq H' hl
  unfold brk at this
  rw [if_neg h] at this
  exact this
theorem c51:∀ t:Ptn,t.fit->t.items.length<=100->TxD t
 | .cls L,hf,hs=>by
   intro H cs Q hn hq
   obtain ⟨a,c,b,d,rfl,h2⟩:=hn
   refine fn51 ok ⟨fun _=>c69 ok h2 hf fun H' hl=>⟨_,rfl,hq H' hl⟩,fun h=>by simp at h⟩
 | .join t u,hf,hs=>by
   intro H cs Q hn hq
   obtain ⟨a,c,b,d,p,q,rfl,h2,h3,h4⟩:=hn
   simp only [Ptn.items,List.length_append,List.length_cons,List.length_nil] at hs
   have st:=text_size t hf.1
   have su:=text_size u hf.2
   have bt:=brk_size 1 t.loose t.text
   have bu:=brk_size 0 u.loose u.text
   obtain ⟨n,o,e,hk⟩:=kid2 h2 h3 h4
   obtain ⟨g1,g2⟩:=hk H (Le.refl _)
   have h3':=h3
   have h4':=h4
   obtain ⟨a1,n1,c1,b1,m1,d1,rfl⟩:=h3.three
   obtain ⟨a2,n2,c2,b2,m2,d2,rfl⟩:=h4.three
   refine fn51 ok ⟨fun h=>by simp at h,fun _=>⟨fun _=>⟨trivial,⟨by decide,by decide⟩,n,o,e,_,_,_,_,_,_,_,g1,⟨by decide,by decide⟩,n,o,e,_,_,_,_,_,_,_,g2,?_⟩,fun h=>by simp at h⟩⟩
   refine c70 ok (c51 t hf.1 (by omega)) hf.1 h3' (by omega) fun H' hl=>⟨_,rfl,?_⟩
   obtain ⟨_,g3⟩:=hk H' hl
   refine ⟨⟨⟨rfl,rfl⟩,rfl,⟨⟨by decide,by decide⟩,n,o,e,rfl⟩,⟨_,_,_,_,_,_,_,g3,rfl⟩,trivial⟩,c70 ok (c51 u hf.2 (by omega)) hf.2 (h4'.mono hl) (by omega) fun H2 hl2=>⟨_,rfl,trivial,by omega,hq H2 (hl.trans hl2)⟩⟩
 | .alt t u,hf,hs=>by
   intro H cs Q hn hq
   obtain ⟨a,c,b,d,p,q,rfl,h2,h3,h4⟩:=hn
   simp only [Ptn.items,List.length_append,List.length_cons,List.length_nil] at hs
   have st:=text_size t hf.1
   have su:=text_size u hf.2
   have bt:=brk_size 2 t.loose t.text
   have bu:=brk_size 1 u.loose u.text
   obtain ⟨n,o,e,hk⟩:=kid2 h2 h3 h4
   obtain ⟨g1,g2⟩:=hk H (Le.refl _)
   have h3':=h3
   have h4':=h4
   obtain ⟨a1,n1,c1,b1,m1,d1,rfl⟩:=h3.three
   obtain ⟨a2,n2,c2,b2,m2,d2,rfl⟩:=h4.three
   refine fn51 ok ⟨fun h=>by simp at h,fun _=>⟨fun h=>by simp at h,fun _=>⟨fun _=>⟨trivial,⟨by decide,by decide⟩,n,o,e,_,_,_,_,_,_,_,g1,⟨by decide,by decide⟩,n,o,e,_,_,_,_,_,_,_,g2,?_⟩,fun h=>by simp at h⟩⟩⟩
   refine c70 ok (c51 t hf.1 (by omega)) hf.1 h3' (by omega) fun H' hl=>⟨_,rfl,?_⟩
   obtain ⟨_,g3⟩:=hk H' hl
   refine ⟨⟨⟨rfl,rfl⟩,rfl,⟨⟨by decide,by decide⟩,n,o,e,rfl⟩,⟨_,_,_,_,_,_,_,g3,rfl⟩,trivial⟩,by rw [lit1]; omega,c70 ok (c51 u hf.2 (by omega)) hf.2 (h4'.mono hl) (by omega) fun H2 hl2=>⟨_,rfl,⟨⟨by rw [lit1]; omega,rfl⟩,trivial⟩,by rw [size_app,lit1]; omega,hq H2 (hl.trans hl2)⟩⟩
 | .star t,hf,hs=>by
   intro H cs Q hn hq
   obtain ⟨a,c,b,d,p,rfl,h2,h3⟩:=hn
   simp only [Ptn.items,List.length_append,List.length_cons,List.length_nil] at hs
   have st:=text_size t hf
   have bt:=brk_size 0 t.loose t.text
   obtain ⟨n,o,e,hk⟩:=kid1 h2 h3
   have g1:=hk H (Le.refl _)
   have h3':=h3
   obtain ⟨a1,n1,c1,b1,m1,d1,rfl⟩:=h3.three
   exact fn51 ok ⟨fun h=>by simp at h,fun _=>⟨fun h=>by simp at h,fun _=>⟨fun h=>by simp at h,fun _=>⟨fun _=>⟨⟨by decide,by decide⟩,n,o,e,_,_,_,_,_,_,_,g1,c70 ok (c51 t hf (by omega)) hf h3' (by omega) fun H' hl=>⟨_,rfl,by rw [lit1]; omega,hq H' hl⟩⟩,fun h=>by simp at h⟩⟩⟩⟩
 | .plus t,hf,hs=>by
   intro H cs Q hn hq
   obtain ⟨a,c,b,d,p,rfl,h2,h3⟩:=hn
   simp only [Ptn.items,List.length_append,List.length_cons,List.length_nil] at hs
   have st:=text_size t hf
   have bt:=brk_size 0 t.loose t.text
   obtain ⟨n,o,e,hk⟩:=kid1 h2 h3
   have g1:=hk H (Le.refl _)
   have h3':=h3
   obtain ⟨a1,n1,c1,b1,m1,d1,rfl⟩:=h3.three
   exact fn51 ok ⟨fun h=>by simp at h,fun _=>⟨fun h=>by simp at h,fun _=>⟨fun h=>by simp at h,fun _=>⟨fun h=>by simp at h,fun _=>⟨fun _=>⟨⟨by decide,by decide⟩,n,o,e,_,_,_,_,_,_,_,g1,c70 ok (c51 t hf (by omega)) hf h3' (by omega) fun H' hl=>⟨_,rfl,by rw [lit1]; omega,hq H' hl⟩⟩,fun h=>by simp at h⟩⟩⟩⟩⟩
 | .may t,hf,hs=>by
   intro H cs Q hn hq
   obtain ⟨a,c,b,d,p,rfl,h2,h3⟩:=hn
   simp only [Ptn.items,List.length_append,List.length_cons,List.length_nil] at hs
   have st:=text_size t hf
   have bt:=brk_size 0 t.loose t.text
   obtain ⟨n,o,e,hk⟩:=kid1 h2 h3
   have g1:=hk H (Le.refl _)
   have h3':=h3
   obtain ⟨a1,n1,c1,b1,m1,d1,rfl⟩:=h3.three
   exact fn51 ok ⟨fun h=>by simp at h,fun _=>⟨fun h=>by simp at h,fun _=>⟨fun h=>by simp at h,fun _=>⟨fun h=>by simp at h,fun _=>⟨fun h=>by simp at h,fun _=>⟨fun _=>⟨⟨by decide,by decide⟩,n,o,e,_,_,_,_,_,_,_,g1,c70 ok (c51 t hf (by omega)) hf h3' (by omega) fun H' hl=>⟨_,rfl,by rw [lit1]; omega,hq H' hl⟩⟩,fun h=>by simp at h⟩⟩⟩⟩⟩⟩
end
end Va
end Go.Proofs.Ytlgpleiobieniaa
namespace Go.Ew
open Go.Ev Go.Deep
theorem nat0 (l:Nat):natOf l none=some l:=rfl
theorem natI (l k:Nat):natOf l (some (.int .i64 ((k:Nat):Int)))=some k:=by simp [natOf]
theorem nble (a b:Nat) (h:a<=b):Nat.ble a b=true:=Nat.ble_eq_true_of_le h
theorem nblt (a b:Nat) (h:a<b):Nat.blt a b=true:=Nat.ble_eq_true_of_le h
theorem nbltF (a b:Nat) (h:¬ a<b):Nat.blt a b=false:=by
 cases hb:Nat.blt a b with
 | false=>rfl
 | true=>exact absurd (Nat.le_of_ble_eq_true hb) h
theorem Gr.cap {H:KH} {sz n b:Nat} {e:Ent} {cs ex:List Value} (h1:H b=some e) (h2:e.unk=sz) (h3:e.len=(cs++ex).length) (h6:cs.length=n*sz) (hz:1<=sz):kcap H ⟨b,0,none⟩ unkU sz=some (e.len/sz)/\n<=e.len/sz:=by
 constructor
 .unfold kcap
  have hb0:Nat.blt unkU unkU=false:=rfl
  have hq:(Nat.beq e.unk sz&&Nat.beq 0 ((unkU-unkU)*sz)&&Nat.ble 1 sz&&Nat.ble 0 e.len)=true:=by
   rw [h2,Nat.sub_self,nble 1 sz hz]; simp
  simp only [hb0,cond_false,h1,hq,cond_true,Nat.sub_zero]
 .rw [h3,List.length_append,h6,Nat.le_div_iff_mul_le (by omega)]
  omega
theorem Gr.from_ {H:KH} {sz n c cut:Nat} {a:OA} {cs ex:List Value} (h:Gr H sz a n c cs ex) (hc:cut<=n) (hz:1<=sz) :
 ∃ a' c',kslice H sz a n c (some (.int .i64 ((cut:Nat):Int))) none=some (.slice a' (n-cut) c')/\kold H sz a' (n-cut)=some (cs.drop (cut*sz)):=by
 cases h with
 | nil =>
   have:cut=0:=by omega
   subst this
   exact ⟨none,0,rfl,by simp [kold]⟩
 | on b _ e _ _ h1 h2 h3 h4 h5 h6 =>
   obtain ⟨hcap,hn⟩:=Gr.cap h1 h2 h3 h6 hz
   unfold kslice
   simp only [Option.isNone_none,cond_true,natI,nat0,hcap]
   have hq:(Nat.ble cut n&&Nat.ble n (e.len/sz)&&Nat.ble n (e.len/sz)&&true)=true:=by
    rw [nble _ _ hc,nble _ _ hn]; rfl
   rw [hq]
   have hb0:Nat.blt unkU unkU=false:=rfl
   simp only [cond_true,hb0,cond_false]
   by_cases hl:cut<e.len/sz
   .rw [nblt _ _ hl]
    refine ⟨_,_,rfl,kold_some.2 ⟨e,h1,?_⟩⟩
    have r1:=rd_drop h4 (m:=cut*sz) (by rw [List.length_append,h6]; have:=Nat.mul_le_mul_right sz hc; omega)
    have r2:=rd_take r1 (m:=(n-cut)*sz) (by rw [List.length_append,h6,Nat.sub_mul]; omega)
    rw [List.drop_append_of_le_length (by rw [h6]; exact Nat.mul_le_mul_right sz hc)] at r2
    have hl2:(cs.drop (cut*sz)).length=(n-cut)*sz:=by rw [List.length_drop,h6,Nat.sub_mul]
    rw [<- hl2,List.take_left] at r2
    rw [<- hl2]
    exact r2
   .rw [nbltF _ _ hl]
    have hcn:cut=n:=by omega
    subst hcn
    have hd:cs.drop (cut*sz)=[]:=List.drop_eq_nil_of_le (by rw [h6]; exact Nat.le_refl _)
    rw [hd,Nat.sub_self]
    cases hz0:Nat.beq cut 0 with
    | true =>
      have:cut=0:=Nat.eq_of_beq_eq_true hz0
      subst this
      refine ⟨_,_,rfl,?_⟩
      simp [kold,KH.load,h1,rd]
    | false=>exact ⟨_,_,rfl,by simp [kold]⟩
theorem Gr.upto {H:KH} {sz n c cut:Nat} {a:OA} {cs ex:List Value} (h:Gr H sz a n c cs ex) (hc:cut<=n) (hz:1<=sz) :
 kslice H sz a n c none (some (.int .i64 ((cut:Nat):Int)))=some (.slice a cut c)/\Gr H sz a cut c (cs.take (cut*sz)) (cs.drop (cut*sz)++ex):=by
 cases h with
 | nil =>
   have:cut=0:=by omega
   subst this
   exact ⟨rfl,by simpa using Gr.nil⟩
 | on b _ e _ _ h1 h2 h3 h4 h5 h6 =>
   obtain ⟨hcap,hn⟩:=Gr.cap h1 h2 h3 h6 hz
   have hre:cs.take (cut*sz)++(cs.drop (cut*sz)++ex)=cs++ex:=by rw [<- List.append_assoc,List.take_append_drop]
   refine ⟨?_,.on b cut e _ _ h1 h2 (by rw [hre]; exact h3) (by rw [hre]; exact h4) h5 (by rw [List.length_take,h6]; have:=Nat.mul_le_mul_right sz hc; omega)⟩
   unfold kslice
   simp only [Option.isNone_none,cond_true,natI,nat0,hcap]
   have hq:(Nat.ble 0 cut&&Nat.ble cut (e.len/sz)&&Nat.ble n (e.len/sz)&&true)=true:=by
    rw [nble _ _ (Nat.zero_le _),nble _ _ (by omega:cut<=e.len/sz),nble _ _ hn]; rfl
   rw [hq]
   have hb0:Nat.blt unkU unkU=false:=rfl
   simp only [cond_true,hb0,cond_false]
   by_cases hl:0<e.len/sz
   .rw [nblt _ _ hl]
    simp
   .rw [nbltF _ _ hl]
    rfl
theorem Own.know' {X H:KH} {sz n c:Nat} {a:OA} {cs:List Value} (h:Own X H sz a n c cs) (hl:Le X H):∃ Y,Le X Y/\Le Y H/\kold Y sz a n=some cs/\∀ k,blk a≠some k->X k=none->Y k=none:=by
 have key:∀ (b:Nat) (e:Ent),H b=some e->X b=none->Le X (X.new b e)/\Le (X.new b e) H:=fun b e h1 h2=>by
  refine ⟨Le.new h2,fun k e' q=>?_⟩
  simp only [KH.new] at q
  split at q
  .rename_i hk; subst hk; cases q; exact h1
  .exact hl k e' q
 cases h with
 | nil=>exact ⟨X,Le.refl _,hl,rfl,fun k _ q=>q⟩
 | lit b _ _ h1 h2 h3 h4 =>
   obtain ⟨k1,k2⟩:=key b _ h1 h4
   refine ⟨_,k1,k2,lit_kold (if_pos rfl) h2,fun k q1 q2=>?_⟩
   simp only [KH.new]; rw [if_neg (fun q=>q1 (by rw [q]; rfl))]; exact q2
 | grown b _ _ e h1 h2 h3 h4 h5 h6 =>
   obtain ⟨k1,k2⟩:=key b _ h1 h5
   refine ⟨_,k1,k2,kold_some.2 ⟨e,if_pos rfl,h4⟩,fun k q1 q2=>?_⟩
   simp only [KH.new]; rw [if_neg (fun q=>q1 (by rw [q]; rfl))]; exact q2
def two (f:Ptn->Ptn->Ptn):List Ptn->Option (List Ptn)
 | b :: a :: r=>some (f a b :: r)
 | _=>none
def one1 (f:Ptn->Ptn):List Ptn->Option (List Ptn)
 | a :: r=>some (f a :: r)
 | _=>none
def stk1 (tp:List Ptn) (i:It):Option (List Ptn) :=
 if i.1=1 then some (.cls i.2 :: tp) else if i.1=2 then two .join tp else if i.1=3 then two .alt tp else
 if i.1=4 then one1 .star tp else if i.1=5 then one1 .plus tp else if i.1=6 then one1 .may tp else none
def stkM:List It->List Ptn->Option (List Ptn)
 | [],tp=>some tp
 | i :: l,tp=>match stk1 tp i with
   | none=>none
   | some tq=>stkM l tq
def flatT (tp:List Ptn):List It:=tp.reverse.flatMap Ptn.items
theorem flat_cons (t:Ptn) (r:List Ptn):flatT (t :: r)=flatT r++t.items:=by
 unfold flatT
 simp
theorem two_len {f:Ptn->Ptn->Ptn} {tp:List Ptn} (h:2<=tp.length):∃ a b r,tp=b :: a :: r/\two f tp=some (f a b :: r):=by
 match tp,h with
 | b :: a :: r,_=>exact ⟨a,b,r,rfl,rfl⟩
theorem one_len {f:Ptn->Ptn} {tp:List Ptn} (h:1<=tp.length):∃ a r,tp=a :: r/\one1 f tp=some (f a :: r):=by
 match tp,h with
 | a :: r,_=>exact ⟨a,r,rfl,rfl⟩
theorem stk_one {i:It} {tp:List Ptn} (h:okIt i) (hc:1<=(tp.length:Int)+cntI [i]):∃ tq,stk1 tp i=some tq/\flatT tq=flatT tp++[i]/\(tq.length:Int)=tp.length+cntI [i]:=by
 obtain ⟨op,L⟩:=i
 rcases h with ⟨h1,h2⟩ | ⟨h1,h2⟩
 .have h1:op=1:=h1
  subst h1
  exact ⟨_,rfl,flat_cons _ _,by simp [cntI]⟩
 .have h2:L=[]:=h2
  subst h2
  have h1:op=2\/op=3\/op=4\/op=5\/op=6:=h1
  rcases h1 with q | q | q | q | q<;>subst q
  .simp [cntI] at hc
   obtain ⟨a,b,r,rfl,h⟩:=two_len (f:=.join) (tp:=tp) (by omega)
   exact ⟨_,h,by simp [flat_cons,Ptn.items],by simp [cntI]; omega⟩
  .simp [cntI] at hc
   obtain ⟨a,b,r,rfl,h⟩:=two_len (f:=.alt) (tp:=tp) (by omega)
   exact ⟨_,h,by simp [flat_cons,Ptn.items],by simp [cntI]; omega⟩
  .simp [cntI] at hc
   obtain ⟨a,r,rfl,h⟩:=one_len (f:=.star) (tp:=tp) (by omega)
   exact ⟨_,h,by simp [flat_cons,Ptn.items],by simp [cntI]⟩
  .simp [cntI] at hc
   obtain ⟨a,r,rfl,h⟩:=one_len (f:=.plus) (tp:=tp) (by omega)
   exact ⟨_,h,by simp [flat_cons,Ptn.items],by simp [cntI]⟩
  .simp [cntI] at hc
   obtain ⟨a,r,rfl,h⟩:=one_len (f:=.may) (tp:=tp) (by omega)
   exact ⟨_,h,by simp [flat_cons,Ptn.items],by simp [cntI]⟩
theorem stk_all:∀ (m l:List It) (tp:List Ptn),(∀ i∈m,okIt i)->(∀ k,0<k->k<=m.length->1<=(tp.length:Int)+cntI (m.take k))->flatT tp=l->
 ∃ tq,stkM m tp=some tq/\flatT tq=l++m/\(tq.length:Int)=tp.length+cntI m
 | [],l,tp,h1,h2,h3=>⟨tp,rfl,by simpa using h3,by simp [cntI]⟩
 | i :: m,l,tp,h1,h2,h3=>by
   obtain ⟨tq,q1,q2,q3⟩:=stk_one (tp:=tp) (h1 i (by simp)) (by simpa using h2 1 (by omega) (by simp))
   obtain ⟨tr,r1,r2,r3⟩:=stk_all m (l++[i]) tq (fun j hj=>h1 j (by simp [hj])) (fun k hk hk2=>by
    have:=h2 (k+1) (by omega) (by simp; omega)
    rw [List.take_succ_cons,show i :: m.take k=[i]++m.take k from rfl,cnt_app] at this
    omega) (by rw [q2,h3])
   refine ⟨tr,?_,by rw [r2]; simp,?_⟩
   .rw [stkM,q1]; exact r1
   .rw [show i :: m=[i]++m from rfl,cnt_app]; omega
theorem tree_of {l:List It} (h:Fine l) (hc:cntI l=1):∃ t,stkM l []=some [t]/\t.items=l:=by
 obtain ⟨tq,q1,q2,q3⟩:=stk_all l [] [] h.each (fun k h1 h2=>by simpa using h.pre k h1 h2) rfl
 rw [hc] at q3
 match tq,q1,q2,q3 with
 | [t],q1,q2,q3=>exact ⟨t,q1,by simpa [flatT] using q2⟩
 | [],_,_,q3=>simp at q3
 | _ :: _ :: _,_,_,q3=>simp at q3; omega
theorem fit_of:∀ (t:Ptn),(∀ i∈t.items,i.2.length<=24)->t.fit
 | .cls L,h=>h (1,L) (by simp [Ptn.items])
 | .join a b,h=>⟨fit_of a fun i hi=>h i (by simp [Ptn.items,hi]),fit_of b fun i hi=>h i (by simp [Ptn.items,hi])⟩
 | .alt a b,h=>⟨fit_of a fun i hi=>h i (by simp [Ptn.items,hi]),fit_of b fun i hi=>h i (by simp [Ptn.items,hi])⟩
 | .star a,h=>fit_of a fun i hi=>h i (by simp [Ptn.items,hi])
 | .plus a,h=>fit_of a fun i hi=>h i (by simp [Ptn.items,hi])
 | .may a,h=>fit_of a fun i hi=>h i (by simp [Ptn.items,hi])
def StkC (X:KH):List Ptn->List Value->Prop
 | [],cs=>cs=[]
 | t :: r,cs=>∃ p ds,cs=p++ds/\NdC X t p/\StkC X r ds
theorem StkC.mono {X Y:KH} (hl:Le X Y):∀ {l:List Ptn} {cs:List Value},StkC X l cs->StkC Y l cs
 | [],cs,h=>h
 | t :: r,cs,⟨p,ds,h1,h2,h3⟩=>⟨p,ds,h1,h2.mono hl,h3.mono hl⟩
theorem NdC.len {X:KH} {t:Ptn} {cs:List Value} (h:NdC X t cs):cs.length=3:=by
 obtain ⟨a,n,c,b,m,d,rfl⟩:=h.three
 rfl
theorem StkC.len {X:KH}:∀ {l:List Ptn} {cs:List Value},StkC X l cs->cs.length=l.length*3
 | [],cs,h=>by
   have h:cs=[]:=h
   subst h; rfl
 | t :: r,cs,⟨p,ds,h1,h2,h3⟩=>by
   subst h1
   have:=h2.len
   have:=h3.len
   simp only [List.length_append,List.length_cons]
   omega
theorem StkC.app {X:KH}:∀ {l m:List Ptn} {cs:List Value},StkC X (l++m) cs->∃ c1 c2,cs=c1++c2/\StkC X l c1/\StkC X m c2
 | [],m,cs,h=>⟨[],cs,rfl,rfl,h⟩
 | t :: r,m,cs,⟨p,ds,h1,h2,h3⟩=>by
   obtain ⟨c1,c2,q1,q2,q3⟩:=StkC.app h3
   exact ⟨p++c1,c2,by rw [h1,q1,List.append_assoc],⟨p,c1,rfl,h2,q2⟩,q3⟩
theorem StkC.snoc {X:KH}:∀ {l:List Ptn} {t:Ptn} {cs p:List Value},StkC X l cs->NdC X t p->StkC X (l++[t]) (cs++p)
 | [],t,cs,p,h,k=>by
   have h:cs=[]:=h
   subst h
   exact ⟨p,[],by simp,k,rfl⟩
 | u :: r,t,cs,p,⟨p',ds,h1,h2,h3⟩,k=>⟨p',ds++p,by rw [h1,List.append_assoc],h2,h3.snoc k⟩
abbrev NT3:TI:=⟨3,56,true,3,0,0,[(0,2),(2,1)],[.int .i64 0,.slice none 0 0,.slice none 0 0]⟩
def takenM (op:Int):Nat:=if op=2\/op=3 then 2 else if op=4\/op=5\/op=6 then 1 else 0
theorem Gr.at' {H:KH} {sz n c:Nat} {a:OA} {cs ex:List Value} (h:Gr H sz a n c cs ex) {b:Nat} (hb:blk a=some b):∃ e,H b=some e:=by
 cases h with
 | nil=>cases hb
 | on b' _ e _ _ h1 h2 h3 h4 h5 h6=>cases hb; exact ⟨e,h1⟩
structure Wst (X H:KH) (tp:List Ptn) (a:OA) (n c:Nat):Prop where
 le:Le X H
 ex:∃ cs e,Gr H 3 a n c cs e/\StkC X tp.reverse cs
 out:∀ b,blk a=some b->X b=none
 len:n=tp.length
theorem Wst.put {X H Y H1:KH} {tp r:List Ptn} {t:Ptn} {a:OA} {n c cut:Nat} {p:List Value} (h:Wst X H tp a n c) (hl:Le X Y) (hY:Le Y H1) (hH:Le H H1) (ho:∀ b,blk a=some b->Y b=none) (hr:∃ s,tp.reverse=r.reverse++s) (hc:cut=r.length) (hp:NdC Y t p) (hs:tp.length<=1000) :
 ∃ a9 n10 n11,kslice H1 3 a n c none (some (.int .i64 ((cut:Nat):Int)))=some (.slice a9 n10 n11)/\∀ n12,H1 n12=none->∀ n13,(H1.new n12 (mkEnt p 0)) n13=none->∃ n14 l15,knew (H1.new n12 (mkEnt p 0)) NT3 (.slice (some ⟨n12,0,none⟩) 1 1)=some (n14,l15)/\
  ∃ a16 n17 n18 H19,kappend (H1.new n12 (mkEnt p 0)) n13 NT3 a9 n10 n11 n14 l15=some (.slice a16 n17 n18,H19)/\Wst Y H19 (t :: r) a16 n17 n18:=by
 obtain ⟨cs,e,h1,h2⟩:=h.ex
 obtain ⟨s,hs2⟩:=hr
 have hcut:cut<=n:=by
  have:=congrArg List.length hs2
  simp at this
  rw [h.len]; omega
 have g1:=h1.agree (H':=H1) fun k e _ q=>hH k e q
 obtain ⟨k1,k2⟩:=g1.upto hcut (by decide)
 rw [hs2] at h2
 obtain ⟨c1,c2,q1,q2,q3⟩:=StkC.app h2
 have hl1:=q2.len
 have ht:cs.take (cut*3)=c1:=by
  rw [q1,hc,<- List.length_reverse,<- hl1,List.take_left]
 rw [ht] at k2
 refine ⟨_,_,_,k1,fun n12 h12 n13 h13=>?_⟩
 have hp3:=hp.len
 have g2:=k2.agree (H':=H1.new n12 (mkEnt p 0)) fun k e _ q=>Le.new h12 k e q
 obtain ⟨a',H',ex',f1,f2,_,f4,f5⟩:=g2.append (ti:=NT3) (new:=p) h13 hp3 (by have:=h.len; omega) (by decide) (by decide)
 have hY2:Le Y (H1.new n12 (mkEnt p 0)):=hY.trans (Le.new h12)
 refine ⟨1,p,knew_of (lit_kold (if_pos rfl) (by rw [hp3]; rfl)),a',_,_,H',f1,⟨fun k e q=>f4 k e (hY2 k e q) fun x=>(by rw [ho k x] at q; cases q),⟨_,_,f2,?_⟩,fun b q=>?_,by simp [hc]⟩⟩
 .rw [List.reverse_cons]
  exact (q2.mono hl).snoc hp
 .rcases f5 b q with q | q
  .exact ho b q
  .rw [q]; exact hY2.none h13
end Go.Ew
namespace Go.Proofs.Ytlgpleiobieniaa
open Go.Ev Go.Ew
namespace Va
section
variable (ok : EnvOk (env Try.prog))
include ok
theorem c65 {op:Int} {H:KH} {Q:PQ} (hq:Q (.int .i64 ((takenM op:Nat):Int)) H):Does (env Try.prog) 65 [.int .i64 op] H Q:=by
 unfold takenM at hq
 refine fn65 ok ⟨fun h=>?_,fun h=>⟨fun h2=>?_,fun h2=>⟨fun h3=>?_,fun h3=>⟨fun h4=>?_,fun h4=>⟨fun h5=>?_,fun h5=>?_⟩⟩⟩⟩⟩
 .have h:=of_decide_eq_true h; subst h; exact hq
 .have h:=of_decide_eq_true h2; subst h; exact hq
 .have h:=of_decide_eq_true h3; subst h; exact hq
 .have h:=of_decide_eq_true h4; subst h; exact hq
 .have h:=of_decide_eq_true h5; subst h; exact hq
 .have h:=of_decide_eq_false h
  have h2:=of_decide_eq_false h2
  have h3:=of_decide_eq_false h3
  have h4:=of_decide_eq_false h4
  have h5:=of_decide_eq_false h5
  rw [if_neg (by omega),if_neg (by omega)] at hq
  exact hq
theorem c66 {a:OA} {n c:Nat} {cs:List Value} {H:KH} {Q:PQ} (hk:kold H 3 a n=some cs) (hn:n<=1000) (hq:∀ a' c' H',Le H H'->Own H H' 3 a' n c' cs->Q (.slice a' n c') H'):Does (env Try.prog) 66 [.slice a n c] H Q:=by
 refine fn66 ok ⟨fun h=>?_,fun h n1 h1 n2 h2=>?_⟩
 .have:a=none:=by cases a with
   | none=>rfl
   | some x=>cases h
  subst this
  have hn0:n=0:=by
   unfold kold at hk
   cases hb:Nat.beq n 0 with
   | true=>exact Nat.eq_of_beq_eq_true hb
   | false=>rw [hb] at hk; cases hk
  subst hn0
  have hc0:cs=[]:=by
   have:=kold_len hk
   exact List.eq_nil_of_length_eq_zero (by omega)
  subst hc0
  exact hq none 0 H (Le.refl _) .nil
 .have hl:=kold_len hk
  have l1:Le H (H.new n1 (mkEnt (lrep [.int .i64 0,.slice none 0 0,.slice none 0 0] 0) 0)):=Le.new h1
  have ho:Own H (H.new n1 (mkEnt (lrep [.int .i64 0,.slice none 0 0,.slice none 0 0] 0) 0)) 3 (some ⟨n1,0,none⟩) 0 0 []:=Own.of_lit h1 rfl (by decide)
  obtain ⟨a',c',H',g1,g2,g3,_,_⟩:=Own.append (ti:=NT3) (m:=n) (new:=cs) ho l1 h2 (by rw [hl]) (by omega) (by decide) (by decide)
  rw [Nat.zero_add] at g1 g2
  exact ⟨n,cs,knew_of (l1.kold hk),a',_,_,H',g1,hq a' c' H' g3 (by simpa using g2)⟩
theorem c49 {l:List It} {t:Ptn} {a:OA} {c:Nat} {H:KH} {Q:PQ} (hi:ItR H l a) (hl:l.length<=47) (hrg:∀ i∈l,i.2.length<=24) (hok:∀ i∈l,okIt i) (ht:stkM l []=some [t])
 (hq:∀ Y H' a1 n1 c1 a2 n2 c2,Le H Y->Le Y H'->NdC Y t [.int .i64 t.op,.slice a1 n1 c1,.slice a2 n2 c2]->Q (.tuple #[.agg #[.int .i64 t.op,.slice a1 n1 c1,.slice a2 n2 c2],.bool true]) H'):Does (env Try.prog) 49 [.slice a l.length c] H Q:=by
 refine fn49 ok ⟨fun h=>?_,fun h=>?_⟩
 .have:=of_decide_eq_true h; omega
 obtain ⟨is,hk,hit⟩:=hi
 unfold vc49_L3
 refine ⟨fun n3 x4 a5 n6 n7 a8 n9 n10 a11 n12 n13 a14 n15 n16 x17 x18 H19=>a14=a/\n15=l.length/\x17=(l.length:Nat)/\∃ (X:KH) (tp:List Ptn) (k:Nat),x18=k/\k<=l.length/\n3=l.length-k/\Le H X/\Wst X H19 tp a11 n12 n13/\tp.length<=k/\stkM (l.drop k) tp=some [t],⟨l.length,rfl,rfl,rfl,H,[],0,rfl,by omega,rfl,Le.refl _,⟨Le.refl _,⟨[],[],.nil,rfl⟩,(fun b q=>by cases q),rfl⟩,by simp,by simpa using ht⟩,?_⟩
 rintro n3 x4 a5 n6 n7 a8 n9 n10 a11 n12 n13 a14 n15 n16 x17 x18 H19 ⟨rfl,rfl,rfl,X,tp,k,rfl,hkl,rfl,hHX,hw,htk,hst⟩
 refine ⟨fun hlt=>?_,fun hge=>?_⟩
 .have hlt:k<l.length:=by have:=of_decide_eq_true hlt; omega
  have e0:Int.toNat ((k:Nat):Int)=k:=by omega
  have hIn:l[k]? = some (l[k].1,l[k].2):=by simp [hlt]
  obtain ⟨b1,o1,e1,r1⟩:=rowAddr ((hHX.trans hw.le).kold hk) (by omega)
  have g1:=r1 (k*2) 2 (by omega)
  obtain ⟨ar,cr,f1,f2⟩:=ItC_at hit hIn
  rw [f1] at g1
  rw [List.drop_eq_getElem_cons hlt,stkM] at hst
  have hrk:=hrg _ (List.getElem_mem hlt)
  have hok1:=hok _ (List.getElem_mem hlt)
  generalize l[k]=i at *
  obtain ⟨op,L⟩:=i
  have hrk:L.length<=24:=hrk
  rw [e0]
  -- what it takes is there
  obtain ⟨tq,hs1⟩:∃ tq,stk1 tp (op,L)=some tq:=by
   cases hs:stk1 tp (op,L) with
   | none=>rw [hs] at hst; cases hst
   | some tq=>exact ⟨tq,rfl⟩
  rw [hs1] at hst
  have hst:stkM (l.drop (k+1)) tq=some [t]:=hst
  obtain ⟨r,t',htq,hcut,hsplit⟩:∃ r t',tq=t' :: r/\takenM op+r.length=tp.length/\∃ s,tp.reverse=r.reverse++s/\s.length=takenM op/\∀ (Y:KH) (ds:List Value) (a4:OA) (c4:Nat) (a6:OA) (c3:Nat),StkC Y s ds->kold Y 3 a6 (takenM op)=some ds->kold Y 2 a4 L.length=some (rgC L)->NdC Y t' [.int .i64 op,.slice a4 L.length c4,.slice a6 (takenM op) c3]:=by
   have ops:=hok1
   rcases ops with ⟨o1,o2⟩ | ⟨o1,o2⟩
   .have o1:op=1:=o1
    subst o1
    have hs1:some (Ptn.cls L :: tp)=some tq:=hs1
    cases hs1
    exact ⟨tp,_,rfl,by simp [takenM],[],by simp,rfl,fun Y ds a4 c4 a6 c3 _ _ h=>⟨a4,c4,a6,c3,rfl,h⟩⟩
   .have o2:L=[]:=o2
    subst o2
    have two_inv:∀ {f:Ptn->Ptn->Ptn},two f tp=some tq->∃ x y r,tp=y :: x :: r/\tq=f x y :: r:=fun {f} q=>by
     match tp,q with
     | y :: x :: r,q=>cases q; exact ⟨x,y,r,rfl,rfl⟩
    have one_inv:∀ {f:Ptn->Ptn},one1 f tp=some tq->∃ x r,tp=x :: r/\tq=f x :: r:=fun {f} q=>by
     match tp,q with
     | x :: r,q=>cases q; exact ⟨x,r,rfl,rfl⟩
    have o1:op=2\/op=3\/op=4\/op=5\/op=6:=o1
    rcases o1 with q | q | q | q | q<;>subst q
    .obtain ⟨x,y,r,rfl,rfl⟩:=two_inv (f:=.join) hs1
     refine ⟨r,_,rfl,by simp [takenM]; omega,[x,y],by simp,rfl,fun Y ds a4 c4 a6 c3 h1 h2 h3=>?_⟩
     obtain ⟨p,d1,u1,u2,q,d2,u3,u4,u5⟩:=h1
     have u5:d2=[]:=u5
     subst u5
     exact ⟨a4,c4,a6,c3,p,q,rfl,by rw [show (2:Nat)=takenM 2 from rfl,h2,u1,u3]; simp,u2,u4⟩
    .obtain ⟨x,y,r,rfl,rfl⟩:=two_inv (f:=.alt) hs1
     refine ⟨r,_,rfl,by simp [takenM]; omega,[x,y],by simp,rfl,fun Y ds a4 c4 a6 c3 h1 h2 h3=>?_⟩
     obtain ⟨p,d1,u1,u2,q,d2,u3,u4,u5⟩:=h1
     have u5:d2=[]:=u5
     subst u5
     exact ⟨a4,c4,a6,c3,p,q,rfl,by rw [show (2:Nat)=takenM 3 from rfl,h2,u1,u3]; simp,u2,u4⟩
    .obtain ⟨x,r,rfl,rfl⟩:=one_inv (f:=.star) hs1
     refine ⟨r,_,rfl,by simp [takenM]; omega,[x],by simp,rfl,fun Y ds a4 c4 a6 c3 h1 h2 h3=>?_⟩
     obtain ⟨p,d1,u1,u2,u5⟩:=h1
     have u5:d1=[]:=u5
     subst u5
     exact ⟨a4,c4,a6,c3,p,rfl,by rw [show (1:Nat)=takenM 4 from rfl,h2,u1]; simp,u2⟩
    .obtain ⟨x,r,rfl,rfl⟩:=one_inv (f:=.plus) hs1
     refine ⟨r,_,rfl,by simp [takenM]; omega,[x],by simp,rfl,fun Y ds a4 c4 a6 c3 h1 h2 h3=>?_⟩
     obtain ⟨p,d1,u1,u2,u5⟩:=h1
     have u5:d1=[]:=u5
     subst u5
     exact ⟨a4,c4,a6,c3,p,rfl,by rw [show (1:Nat)=takenM 5 from rfl,h2,u1]; simp,u2⟩
    .obtain ⟨x,r,rfl,rfl⟩:=one_inv (f:=.may) hs1
     refine ⟨r,_,rfl,by simp [takenM]; omega,[x],by simp,rfl,fun Y ds a4 c4 a6 c3 h1 h2 h3=>?_⟩
     obtain ⟨p,d1,u1,u2,u5⟩:=h1
     have u5:d1=[]:=u5
     subst u5
     exact ⟨a4,c4,a6,c3,p,rfl,by rw [show (1:Nat)=takenM 6 from rfl,h2,u1]; simp,u2⟩
  subst htq
  obtain ⟨s,hs2,hs3,hmk⟩:=hsplit
  have hlen:=hw.len
  have hwr:IntKind.wrap .i64 (((n12:Nat):Int)-((takenM op:Nat):Int))=((r.length:Nat):Int):=by rw [wrap64 (by omega) (by omega)]; omega
  refine ⟨⟨by omega,by omega⟩,b1,o1,e1,op,ar,_,cr,g1,c65 ok ⟨_,rfl,fun hneg=>?_,fun _=>⟨fun h24=>?_,fun _=>?_⟩⟩⟩
  .rw [hwr] at hneg
   have:=of_decide_eq_true hneg; omega
  .have:=of_decide_eq_true h24; omega
  rw [hwr]
  obtain ⟨cs,ex,hgr,hstk⟩:=hw.ex
  obtain ⟨a',c',ks1,ks2⟩:=hgr.from_ (cut:=r.length) (by omega) (by decide)
  refine ⟨a',_,c',ks1,?_⟩
  rw [hs2] at hstk
  obtain ⟨w1,w2,v1,v2,v3⟩:=StkC.app hstk
  have hd:cs.drop (r.length*3)=w2:=by rw [v1,<- List.length_reverse,<- v2.len,List.drop_left]
  rw [hd] at ks2
  have hn12:n12-r.length=takenM op:=by omega
  rw [hn12] at ks2 ⊢
  refine c66 ok ks2 (by unfold takenM; split<;>(try split)<;>omega) fun a6 c3 H5 hle5 hown=>⟨_,_,_,rfl,trivial,?_⟩
  have hX5:Le X H5:=hw.le.trans hle5
  obtain ⟨Y,y1,y2,y3,y4⟩:=(hown.base (H1:=X) fun b q=>hw.le.none (hown.out q)).know' hX5
  have hYo:∀ b,blk a11=some b->Y b=none:=fun b q=>y4 b (fun x=>by
   have:=hown.out x
   obtain ⟨e0,q0⟩:=hgr.at' q
   rw [q0] at this; cases this) (hw.out b q)
  obtain ⟨a9,n10,n11,z1,z2⟩:=Wst.put hw y1 y2 hle5 hYo ⟨s,hs2⟩ rfl (hmk Y w2 ar cr a6 c3 (v3.mono y1) y3 (y1.kold (hHX.kold f2))) (by omega)
  refine ⟨a9,n10,n11,z1,fun n12' h12 n13' h13=>?_⟩
  obtain ⟨n14,l15,u1,a16,n17,n18,H19',u2,u3⟩:=z2 n12' h12 n13' h13
  exact ⟨n14,l15,u1,a16,n17,n18,H19',u2,trivial,l.length-(k+1),by omega,rfl,rfl,rfl,Y,_,k+1,by rw [wrap64 (by omega) (by omega)]; omega,by omega,rfl,hHX.trans y1,u3,by simp only [List.length_cons]; omega,hst⟩
 .have hge:k=l.length:=by have:=of_decide_eq_false hge; omega
  subst hge
  rw [List.drop_length] at hst
  have hst:some tp=some [t]:=hst
  cases hst
  have hlen:n12=1:=hw.len
  subst hlen
  refine ⟨fun h1=>by simp at h1,fun _=>?_⟩
  obtain ⟨cs,ex,hgr,hstk⟩:=hw.ex
  obtain ⟨p,ds,q1,q2,q3⟩:=hstk
  have q3:ds=[]:=q3
  subst q3
  rw [List.append_nil] at q1
  subst q1
  obtain ⟨b1,o1,e1,r1⟩:=rowAddr hgr.row (by omega)
  obtain ⟨a1,n1,c1,a2,n2,c2,rfl⟩:=q2.three
  have g1:=r1 0 3 (by omega)
  exact ⟨⟨by decide,by decide⟩,b1,o1,e1,_,_,_,_,_,_,_,g1,hq X H19 a1 n1 c1 a2 n2 c2 hHX hw.le q2⟩
end
end Va
end Go.Proofs.Ytlgpleiobieniaa
