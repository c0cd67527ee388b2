import Derived.Test.YtagpapnkiihlbaaEwS4
import Derived.Test.YtagpapnkiihlbaaEvDraw4
import Derived.Carry
set_option linter.unusedVariables false
set_option maxRecDepth 100000
namespace Go.Proofs.Ytagpapnkiihlbaa
open Go.Ev Go.Ew
namespace Va
def tupT:Go.Deep.BT (Option (List Nat)):=mkTab tupL
def W3 (P:Program):WE:=⟨env P,tupT,[3,8,11],mkTab [(0,[.tmp 0 .slice,.ref 3 3 0,.box 3 [.slice none 0 0,.slice none 0 0],.tmp 4 .slice,.tmp 5 .slice,.tmp 6 (.int .i64),.tmp 7 (.int .i64)])],3⟩
def vc3_J0 (y1:OA) (y2 y3:Nat) (y4:OA) (y5 y6:Nat) (y7:KH) (y8:PQ) (y9:OA) (y10 y11 y12:Nat) (y13:(Nat->(OA->(Nat->(Nat->(OA->(Nat->(Nat->(OA->(Nat->(Nat->(OA->(Nat->(Nat->(OA->(Nat->(Nat->(Int->(Int->(KH->Prop)))))))))))))))))))) (y14:OA) (y15 y16:Nat) (y17:Int):Prop :=
 Does (env Try.prog) 10 [.slice y1 y2 y3,.slice y4 y5 y6] y7 fun f d=>∃ (a:Bool),f=(.bool a)/\((!a)=true->y8 (.bool false) d)/\((!a)=false->Does (env Try.prog) 10 [.slice y9 y10 y11,.slice none 0 0] d fun g e=>∃ (b:Bool),g=(.bool b)/\((!b)=true->y8 (.bool false) e)/\((!b)=false->∃ (c:Nat),(c:Nat)<y12/\y13 c y14 y15 y16 y1 y2 y3 y9 y10 y11 y4 y5 y6 none 0 0 (IntKind.wrap .i64 (y17+1)) (IntKind.wrap .i64 (y17+1)) e))
def vc3_J2 (y1:OA) (y2 y3:Nat) (y4:OA) (y5 y6:Nat) (y7:KH) (y8:PQ) (y9:OA) (y10 y11:Nat) (y12:OA) (y13 y14 y15:Nat) (y16:(Nat->(OA->(Nat->(Nat->(OA->(Nat->(Nat->(OA->(Nat->(Nat->(OA->(Nat->(Nat->(OA->(Nat->(Nat->(Int->(Int->(KH->Prop)))))))))))))))))))) (y17:OA) (y18 y19:Nat) (y20 y21:Int):Prop :=
 Does (env Try.prog) 10 [.slice y1 y2 y3,.slice y4 y5 y6] y7 fun f d=>∃ (a:Bool),f=(.bool a)/\((!a)=true->y8 (.bool false) d)/\((!a)=false->Does (env Try.prog) 10 [.slice y9 y10 y11,.slice y12 y13 y14] d fun g e=>∃ (b:Bool),g=(.bool b)/\((!b)=true->y8 (.bool false) e)/\((!b)=false->∃ (c:Nat),(c:Nat)<y15/\y16 c y17 y18 y19 y1 y2 y3 y9 y10 y11 y4 y5 y6 y12 y13 y14 y20 (IntKind.wrap .i64 (y21+1)) e))
def vc3_L9 (y1:OA) (y2 y3:Nat) (y4:KH) (y5:PQ):Prop :=
 (∃ (g:(Nat->OA->Nat->Nat->OA->Nat->Nat->OA->Nat->Nat->OA->Nat->Nat->OA->Nat->Nat->Int->Int->KH->Prop)),(∃ (dk:Nat),g dk y1 y2 y3 none 0 0 none 0 0 none 0 0 none 0 0 0 0 y4)/\∀ (j:Nat) (h:(OA)) (e k:Nat) (p:(OA)) (q r:Nat) (s:(OA)) (t u:Nat) (f:(OA)) (a:Nat),∀ (i:Nat) (l:(OA)) (b m:Nat) (c d:Int) (x:KH),g j h e k p q r s t u f a i l b m c d x->(decide (d<(e:Int))=true->((0:Int)<=d/\d<(e:Int))/\∃ (cg ch:Nat),h=some ⟨cg,ch,none⟩/\∃ (y:Int),ld x ⟨cg,ch+((Int.toNat d)*1),none⟩ [(.int .u8 y)]/\(4:Int)≠0/\(decide (((Int.tmod y 4):Int)=0)=true->Does (env Try.prog) 7 [.agg #[.slice p q r,.slice s t u],.int .i64 c] x fun dl ar=>∃ (av:(OA)) (aw ax:Nat) (ay:(OA)) (az ba:Nat),dl=(.agg #[.slice av aw ax,.slice ay az ba])/\∀ (ab:Nat),((ar ab):(Option (Ent)))=none->∀ (ci:Nat),(((KH.new ar ab (mkEnt [(.int .i64 c)] 0)) ci):(Option (Ent)))=none->∃ (cj:Nat) (ck:(List Value)),((knew (KH.new ar ab (mkEnt [(.int .i64 c)] 0)) ⟨1,8,false,5,0,0,[],[(.int .i64 0)]⟩ (.slice (some ⟨ab,0,none⟩) 1 1)):(Option (Nat × (List Value))))=(some (cj,ck))/\∃ (bb:(OA)) (ac bc:Nat) (ah:KH),((kappend (KH.new ar ab (mkEnt [(.int .i64 c)] 0)) ci ⟨1,8,false,5,0,0,[],[(.int .i64 0)]⟩ f a i cj ck):(Option (Value × KH)))=(some (.slice bb ac bc,ah))/\(decide ((20:Int)<(ac:Int))=true->∃ (cl:(OA)) (cm cn:Nat),((kslice ah 1 bb ac bc (some (.int .i64 1)) none):(Option Value))=(some (.slice cl cm cn))/\vc3_J0 av aw ax cl cm cn ah y5 ay az ba j g h e k d)/\(decide ((20:Int)<(ac:Int))=false->vc3_J0 av aw ax bb ac bc ah y5 ay az ba j g h e k d))/\(decide (((Int.tmod y 4):Int)=0)=false->(decide (((Int.tmod y 4):Int)=1)=true->Does (env Try.prog) 7 [.agg #[.slice p q r,.slice s t u],.int .i64 c] x fun dm au=>∃ (bd:(OA)) (be bf:Nat) (bg:(OA)) (bh bi:Nat),dm=(.agg #[.slice bd be bf,.slice bg bh bi])/\∀ (ad:Nat),((au ad):(Option (Ent)))=none->∀ (co:Nat),(((KH.new au ad (mkEnt [(.int .i64 c)] 0)) co):(Option (Ent)))=none->∃ (cp:Nat) (cq:(List Value)),((knew (KH.new au ad (mkEnt [(.int .i64 c)] 0)) ⟨1,8,false,5,0,0,[],[(.int .i64 0)]⟩ (.slice (some ⟨ad,0,none⟩) 1 1)):(Option (Nat × (List Value))))=(some (cp,cq))/\∃ (bj:(OA)) (ae bk:Nat) (ai:KH),((kappend (KH.new au ad (mkEnt [(.int .i64 c)] 0)) co ⟨1,8,false,5,0,0,[],[(.int .i64 0)]⟩ f a i cp cq):(Option (Value × KH)))=(some (.slice bj ae bk,ai))/\(decide ((20:Int)<(ae:Int))=true->∃ (cr:(OA)) (cs ct:Nat),((kslice ai 1 bj ae bk (some (.int .i64 1)) none):(Option Value))=(some (.slice cr cs ct))/\vc3_J0 bd be bf cr cs ct ai y5 bg bh bi j g h e k d)/\(decide ((20:Int)<(ae:Int))=false->vc3_J0 bd be bf bj ae bk ai y5 bg bh bi j g h e k d))/\(decide (((Int.tmod y 4):Int)=1)=false->(decide (((Int.tmod y 4):Int)=2)=true->Does (env Try.prog) 8 [.agg #[.slice p q r,.slice s t u],.int .i64 c] x fun dn n=>∃ (bl:(OA)) (bm bn:Nat) (bo:(OA)) (bp bq:Nat) (af:Int) (v:Bool),dn=(.tuple #[.agg #[.slice bl bm bn,.slice bo bp bq],.int .i64 af,.bool v])/\(((!(v == (decide ((0:Int)<(a:Int))))):Bool)=true->y5 (.bool false) n)/\(((!(v == (decide ((0:Int)<(a:Int))))):Bool)=false->(v=true->((0:Int)<=(IntKind.wrap .i64 ((a:Int)-1))/\((IntKind.wrap .i64 ((a:Int)-1)):Int)<(a:Int))/\∃ (cu cv:Nat),f=some ⟨cu,cv,none⟩/\∃ (br:Int),ld n ⟨cu,cv+((Int.toNat (IntKind.wrap .i64 ((a:Int)-1)))*1),none⟩ [(.int .i64 br)]/\(decide (af≠br)=true->y5 (.bool false) n)/\(decide (af≠br)=false->True/\∀ (z:Nat),((n z):(Option (Ent)))=none->∃ (aj:(OA)) (ak al:Nat),((kslice (KH.new n z (mkEnt [(.int .i64 c)] 0)) 1 f a i none (some (.int .i64 (IntKind.wrap .i64 ((a:Int)-1))))):(Option Value))=(some (.slice aj ak al))/\∀ (cw:Nat),(((KH.new n z (mkEnt [(.int .i64 c)] 0)) cw):(Option (Ent)))=none->∃ (cx:Nat) (cy:(List Value)),((knew (KH.new n z (mkEnt [(.int .i64 c)] 0)) ⟨1,8,false,5,0,0,[],[(.int .i64 0)]⟩ (.slice (some ⟨z,0,none⟩) 1 1)):(Option (Nat × (List Value))))=(some (cx,cy))/\∃ (bs:(OA)) (bt bu:Nat) (am:KH),((kappend (KH.new n z (mkEnt [(.int .i64 c)] 0)) cw ⟨1,8,false,5,0,0,[],[(.int .i64 0)]⟩ l b m cx cy):(Option (Value × KH)))=(some (.slice bs bt bu,am))/\(((.slice f a i):Value)=(.slice f a i)/\((.slice f a i):Value)=(.slice f a i)/\((.int .i64 (a:Int)):Value)=(.int .i64 (a:Int))/\((.int .i64 (IntKind.wrap .i64 ((a:Int)-1))):Value)=(.int .i64 (IntKind.wrap .i64 ((a:Int)-1)))/\(∃ (cz:(OA)) (da db:Nat),((kslice am 1 f a i none (some (.int .i64 (IntKind.wrap .i64 ((a:Int)-1))))):(Option Value))=(some (.slice cz da db))/\((.slice cz da db):Value)=(.slice aj ak al))/\True)/\(v=true->vc3_J2 bl bm bn aj ak al am y5 bo bp bq bs bt bu j g h e k af d)/\(v=false->vc3_J2 p q r aj ak al am y5 s t u bs bt bu j g h e k af d)))/\(v=false->(v=true->vc3_J2 bl bm bn f a i n y5 bo bp bq l b m j g h e k c d)/\(v=false->vc3_J2 p q r f a i n y5 s t u l b m j g h e k c d))))/\(decide (((Int.tmod y 4):Int)=2)=false->Does (env Try.prog) 9 [.agg #[.slice p q r,.slice s t u],.int .i64 c] x fun dp o=>∃ (bv:(OA)) (bw bx:Nat) (bz:(OA)) (ca cb:Nat) (ag:Int) (w:Bool),dp=(.tuple #[.agg #[.slice bv bw bx,.slice bz ca cb],.int .i64 ag,.bool w])/\(((!(w == (decide ((0:Int)<(b:Int))))):Bool)=true->y5 (.bool false) o)/\(((!(w == (decide ((0:Int)<(b:Int))))):Bool)=false->(w=true->((0:Int)<=(IntKind.wrap .i64 ((b:Int)-1))/\((IntKind.wrap .i64 ((b:Int)-1)):Int)<(b:Int))/\∃ (dc dd:Nat),l=some ⟨dc,dd,none⟩/\∃ (cc:Int),ld o ⟨dc,dd+((Int.toNat (IntKind.wrap .i64 ((b:Int)-1)))*1),none⟩ [(.int .i64 cc)]/\(decide (ag≠cc)=true->y5 (.bool false) o)/\(decide (ag≠cc)=false->True/\∀ (aa:Nat),((o aa):(Option (Ent)))=none->∃ (an:(OA)) (ao ap:Nat),((kslice (KH.new o aa (mkEnt [(.int .i64 c)] 0)) 1 l b m none (some (.int .i64 (IntKind.wrap .i64 ((b:Int)-1))))):(Option Value))=(some (.slice an ao ap))/\∀ (de:Nat),(((KH.new o aa (mkEnt [(.int .i64 c)] 0)) de):(Option (Ent)))=none->∃ (df:Nat) (dg:(List Value)),((knew (KH.new o aa (mkEnt [(.int .i64 c)] 0)) ⟨1,8,false,5,0,0,[],[(.int .i64 0)]⟩ (.slice (some ⟨aa,0,none⟩) 1 1)):(Option (Nat × (List Value))))=(some (df,dg))/\∃ (cd:(OA)) (ce cf:Nat) (aq:KH),((kappend (KH.new o aa (mkEnt [(.int .i64 c)] 0)) de ⟨1,8,false,5,0,0,[],[(.int .i64 0)]⟩ f a i df dg):(Option (Value × KH)))=(some (.slice cd ce cf,aq))/\(((.slice l b m):Value)=(.slice l b m)/\((.slice l b m):Value)=(.slice l b m)/\((.int .i64 (b:Int)):Value)=(.int .i64 (b:Int))/\((.int .i64 (IntKind.wrap .i64 ((b:Int)-1))):Value)=(.int .i64 (IntKind.wrap .i64 ((b:Int)-1)))/\(∃ (dh:(OA)) (di dj:Nat),((kslice aq 1 l b m none (some (.int .i64 (IntKind.wrap .i64 ((b:Int)-1))))):(Option Value))=(some (.slice dh di dj))/\((.slice dh di dj):Value)=(.slice an ao ap))/\True)/\(w=true->vc3_J2 bv bw bx cd ce cf aq y5 bz ca cb an ao ap j g h e k ag d)/\(w=false->vc3_J2 p q r cd ce cf aq y5 s t u an ao ap j g h e k ag d)))/\(w=false->(w=true->vc3_J2 bv bw bx f a i o y5 bz ca cb l b m j g h e k c d)/\(w=false->vc3_J2 p q r f a i o y5 s t u l b m j g h e k c d)))))))/\(decide (d<(e:Int))=false->y5 (.bool true) x))
def vc3 (p0:OA) (p0n p0c:Nat) (H:KH) (Q:PQ):Prop :=
 Does (env Try.prog) 6 [] H fun c b=>∃ (a:Bool),c=(.bool a)/\((!a)=true->Q (.bool false) b)/\((!a)=false->(decide ((80:Int)<(p0n:Int))=true->Q (.bool true) b)/\(decide ((80:Int)<(p0n:Int))=false->vc3_L9 p0 p0n p0c b Q))
theorem fn3 (ok:EnvOk (env Try.prog)) {p0:OA} {p0n p0c:Nat} {H:KH} {Q:PQ} (h:vc3 p0 p0n p0c H Q):Does (env Try.prog) 3 [.slice p0 p0n p0c] H Q :=
 wFun_sound (W:=W3 Try.prog) ok.tt (blt_lt (by kernel_rfl)) (ff_of ok (by kernel_rfl) Try.func3) (Eq.mpr (by kernel_rfl) h)
def W5 (P:Program):WE:=⟨env P,tupT,[7,9,13,16,17,21],mkTab [(4,[.tmp 0 .slice,.tmp 2 (.int .i64),.ref 7 7 0,.box 7 [.slice none 0 0,.slice none 0 0],.ref 9 9 0,.box 9 [.slice none 0 0,.slice none 0 0],.tmp 10 (.int .i64),.tmp 11 (.int .i64),.ref 16 16 0,.box 16 [.slice none 0 0,.slice none 0 0],.tmp 19 .bool,.tmp 20 (.int .i64)]),(2,[.tmp 0 .slice,.tmp 2 (.int .i64),.ref 7 7 0,.box 7 [.slice none 0 0,.slice none 0 0],.ref 9 9 0,.box 9 [.slice none 0 0,.slice none 0 0],.tmp 10 (.int .i64),.tmp 11 (.int .i64),.tmp 12 (.int .i64)]),(0,[.tmp 0 .slice,.tmp 1 (.int .u8),.tmp 2 (.int .i64),.ref 7 7 0,.box 7 [.slice none 0 0,.slice none 0 0],.tmp 8 (.int .i64)])],5⟩
def vc5_L4 (y1:OA) (y2 y3:Nat) (y4:Int) (y5:OA) (y6 y7:Nat) (y8:OA) (y9 y10:Nat) (y11:OA) (y12 y13:Nat) (y14:OA) (y15 y16:Nat) (y17 y18:Int) (y19:OA) (y20 y21:Nat) (y22:OA) (y23 y24:Nat) (y25:Bool) (y26:KH) (y27:PQ):Prop :=
 (∃ (j:(Nat->OA->Nat->Nat->Int->OA->Nat->Nat->OA->Nat->Nat->OA->Nat->Nat->OA->Nat->Nat->Int->Int->OA->Nat->Nat->OA->Nat->Nat->Bool->Int->KH->Prop)),(∃ (ap:Nat),j ap y1 y2 y3 y4 y5 y6 y7 y8 y9 y10 y11 y12 y13 y14 y15 y16 y17 y18 y19 y20 y21 y22 y23 y24 y25 0 y26)/\∀ (u:Nat) (v:(OA)) (k w:Nat) (c:Int) (l:(OA)) (m n:Nat) (x:(OA)) (y z:Nat) (o:(OA)),∀ (p q:Nat) (aa:(OA)) (d ab:Nat) (e a:Int) (ac:(OA)) (r ad:Nat) (ae:(OA)) (f:Nat),∀ (af:Nat) (g:Bool) (h:Int) (b:KH),j u v k w c l m n x y z o p q aa d ab e a ac r ad ae f af g h b->(decide (h<a)=true->Does (env Try.prog) 9 [.agg #[.slice o p q,.slice aa d ab],.int .i64 e] b fun aq ao=>∃ (ag:(OA)) (ah ai:Nat) (aj:(OA)) (ak al:Nat) (am:Int) (s:Bool),aq=(.tuple #[.agg #[.slice ag ah ai,.slice aj ak al],.int .i64 am,.bool s])/\((!s)=true->y27 (.bool false) ao)/\((!s)=false->∃ (an:Nat),(an:Nat)<u/\j an v k w c l m n x y z ag ah ai aj ak al am a ac r ad ae f af g (IntKind.wrap .i64 (h+1)) ao))/\(decide (h<a)=false->((!g)=true->(decide (e=c)=true->Does (env Try.prog) 10 [.slice o p q,.slice l m n] b fun ar i=>∃ (t:Bool),ar=(.bool t)/\(t=true->(decide ((d:Int)=0)=true->(decide ((f:Int)=0)=true->y27 (.bool (decide ((r:Int)=(IntKind.wrap .i64 ((IntKind.wrap .i64 ((k:Int)-a))+1))))) i)/\(decide ((f:Int)=0)=false->y27 (.bool false) i))/\(decide ((d:Int)=0)=false->y27 (.bool false) i))/\(t=false->y27 (.bool false) i))/\(decide (e=c)=false->y27 (.bool false) b))/\((!g)=false->y27 (.bool false) b)))
def vc5_L6 (y1:OA) (y2 y3:Nat) (y4:Int) (y5:OA) (y6 y7:Nat) (y8:OA) (y9 y10:Nat) (y11:Int) (y12:KH) (y13:PQ):Prop :=
 (∃ (n:(Nat->OA->Nat->Nat->Int->OA->Nat->Nat->OA->Nat->Nat->OA->Nat->Nat->OA->Nat->Nat->Int->Int->Int->KH->Prop)),(∃ (aq:Nat),n aq y1 y2 y3 y4 y5 y6 y7 y8 y9 y10 y5 y6 y7 y8 y9 y10 y4 (Int.tmod (IntKind.wrap .i64 y11) (IntKind.wrap .i64 ((y2:Int)+1))) 0 y12)/\∀ (af:Nat) (d:(OA)) (a o:Nat) (p:Int) (q:(OA)) (r s:Nat) (t:(OA)) (u v:Nat) (e:(OA)),∀ (f g:Nat) (h:(OA)) (i j:Nat) (k c b:Int) (w:KH),n af d a o p q r s t u v e f g h i j k c b w->(decide (b<c)=true->Does (env Try.prog) 8 [.agg #[.slice e f g,.slice h i j],.int .i64 k] w fun ba m=>∃ (ag:(OA)) (ah ai:Nat) (aj:(OA)) (ak al:Nat) (l:Int) (x:Bool),ba=(.tuple #[.agg #[.slice ag ah ai,.slice aj ak al],.int .i64 l,.bool x])/\((!x)=true->y13 (.bool false) m)/\((!x)=false->((0:Int)<=(IntKind.wrap .i64 ((IntKind.wrap .i64 ((a:Int)-1))-b))/\((IntKind.wrap .i64 ((IntKind.wrap .i64 ((a:Int)-1))-b)):Int)<(a:Int))/\∃ (am an:Nat),d=some ⟨am,an,none⟩/\∃ (y:Int),ld m ⟨am,an+((Int.toNat (IntKind.wrap .i64 ((IntKind.wrap .i64 ((a:Int)-1))-b)))*1),none⟩ [(.int .i64 y)]/\(decide (l≠y)=true->y13 (.bool false) m)/\(decide (l≠y)=false->∃ (ao:Nat),(ao:Nat)<af/\n ao d a o p q r s t u v ag ah ai aj ak al l c (IntKind.wrap .i64 (b+1)) m)))/\(decide (b<c)=false->Does (env Try.prog) 7 [.agg #[.slice e f g,.slice h i j],.int .i64 k] w fun bb bc=>∃ (z:(OA)) (aa ab:Nat) (ac:(OA)) (ad ae:Nat),bb=(.agg #[.slice z aa ab,.slice ac ad ae])/\Does (env Try.prog) 9 [.agg #[.slice z aa ab,.slice ac ad ae],.int .i64 1] bc fun bd be=>∃ (ar:(OA)) (au av:Nat) (aw:(OA)) (ax ay:Nat) (az:Int) (ap:Bool),bd=(.tuple #[.agg #[.slice ar au av,.slice aw ax ay],.int .i64 az,.bool ap])/\vc5_L4 d a o p q r s t u v e f g h i j k c z aa ab ac ad ae ap be y13))
def vc5_L7 (y1:OA) (y2 y3:Nat) (y4 y5:Int) (y6:KH) (y7:PQ):Prop :=
 (∃ (e:(Nat->OA->Nat->Nat->Int->Int->OA->Nat->Nat->OA->Nat->Nat->Int->KH->Prop)),(∃ (z:Nat),e z y1 y2 y3 y4 y5 none 0 0 none 0 0 0 y6)/\∀ (o:Nat) (c:(OA)) (a f:Nat) (g h:Int) (i:(OA)) (j k:Nat) (l:(OA)) (m n:Nat),∀ (b:Int) (d:KH),e o c a f g h i j k l m n b d->(decide (b<(a:Int))=true->True/\((0:Int)<=b/\b<(a:Int))/\∃ (p q:Nat),c=some ⟨p,q,none⟩/\∃ (r:Int),ld d ⟨p,q+((Int.toNat b)*1),none⟩ [(.int .i64 r)]/\Does (env Try.prog) 7 [.agg #[.slice i j k,.slice l m n],.int .i64 r] d fun aa ab=>∃ (s:(OA)) (t u:Nat) (v:(OA)) (w x:Nat),aa=(.agg #[.slice s t u,.slice v w x])/\True/\True/\∃ (y:Nat),(y:Nat)<o/\e y c a f g h s t u v w x (IntKind.wrap .i64 (b+1)) ab)/\(decide (b<(a:Int))=false->((IntKind.wrap .i64 ((a:Int)+1)):Int)≠0/\vc5_L6 c a f h i j k l m n g d y7))
def vc5 (p0:OA) (p0n p0c:Nat) (p1 p2:Int) (H:KH) (Q:PQ):Prop :=
 Does (env Try.prog) 6 [] H fun c b=>∃ (a:Bool),c=(.bool a)/\((!a)=true->Q (.bool false) b)/\((!a)=false->(decide ((15:Int)<(p0n:Int))=true->Q (.bool true) b)/\(decide ((15:Int)<(p0n:Int))=false->vc5_L7 p0 p0n p0c p1 p2 b Q))
theorem fn5 (ok:EnvOk (env Try.prog)) {p0:OA} {p0n p0c:Nat} {p1 p2:Int} {H:KH} {Q:PQ} (h:vc5 p0 p0n p0c p1 p2 H Q):Does (env Try.prog) 5 [.slice p0 p0n p0c,.int .u8 p1,.int .i64 p2] H Q :=
 wFun_sound (W:=W5 Try.prog) ok.tt (blt_lt (by kernel_rfl)) (ff_of ok (by kernel_rfl) Try.func5) (Eq.mpr (by kernel_rfl) h)
def W7 (P:Program):WE:=⟨env P,tupT,[2,4],mkTab [],7⟩
def vc7 (p0_0:OA) (p0_0n p0_0c:Nat) (p0_1:OA) (p0_1n p0_1c:Nat) (p1:Int) (H:KH) (Q:PQ):Prop :=
 Does (env Try.prog) 11 [.slice p0_0 p0_0n p0_0c,.int .i64 p1] H fun g h=>∃ (a:(OA)) (b c:Nat),g=(.slice a b c)/\Does (env Try.prog) 12 [.slice a b c,.int .i64 20] h fun i j=>∃ (d:(OA)) (e f:Nat),i=(.slice d e f)/\Q (.agg #[.slice d e f,.slice none 0 0]) j
theorem fn7 (ok:EnvOk (env Try.prog)) {p0_0:OA} {p0_0n p0_0c:Nat} {p0_1:OA} {p0_1n p0_1c:Nat} {p1:Int} {H:KH} {Q:PQ} (h:vc7 p0_0 p0_0n p0_0c p0_1 p0_1n p0_1c p1 H Q):Does (env Try.prog) 7 [.agg #[.slice p0_0 p0_0n p0_0c,.slice p0_1 p0_1n p0_1c],.int .i64 p1] H Q :=
 wFun_sound (W:=W7 Try.prog) ok.tt (blt_lt (by kernel_rfl)) (ff_of ok (by kernel_rfl) Try.func7) (Eq.mpr (by kernel_rfl) h)
def W8 (P:Program):WE:=⟨env P,tupT,[2,4],mkTab [],8⟩
def vc8 (p0_0:OA) (p0_0n p0_0c:Nat) (p0_1:OA) (p0_1n p0_1c:Nat) (p1:Int) (H:KH) (Q:PQ):Prop :=
 Does (env Try.prog) 13 [.slice p0_0 p0_0n p0_0c,.slice p0_1 p0_1n p0_1c,.int .i64 p1] H fun i j=>∃ (a:(OA)) (b c:Nat) (d:(OA)) (e f:Nat) (g:Int) (h:Bool),i=(.tuple #[.slice a b c,.slice d e f,.int .i64 g,.bool h])/\Q (.tuple #[.agg #[.slice a b c,.slice d e f],.int .i64 g,.bool h]) j
theorem fn8 (ok:EnvOk (env Try.prog)) {p0_0:OA} {p0_0n p0_0c:Nat} {p0_1:OA} {p0_1n p0_1c:Nat} {p1:Int} {H:KH} {Q:PQ} (h:vc8 p0_0 p0_0n p0_0c p0_1 p0_1n p0_1c p1 H Q):Does (env Try.prog) 8 [.agg #[.slice p0_0 p0_0n p0_0c,.slice p0_1 p0_1n p0_1c],.int .i64 p1] H Q :=
 wFun_sound (W:=W8 Try.prog) ok.tt (blt_lt (by kernel_rfl)) (ff_of ok (by kernel_rfl) Try.func8) (Eq.mpr (by kernel_rfl) h)
def W9 (P:Program):WE:=⟨env P,tupT,[2,4],mkTab [],9⟩
def vc9 (p0_0:OA) (p0_0n p0_0c:Nat) (p0_1:OA) (p0_1n p0_1c:Nat) (p1:Int) (H:KH) (Q:PQ):Prop :=
 Does (env Try.prog) 13 [.slice p0_1 p0_1n p0_1c,.slice p0_0 p0_0n p0_0c,.int .i64 p1] H fun i j=>∃ (a:(OA)) (b c:Nat) (d:(OA)) (e f:Nat) (g:Int) (h:Bool),i=(.tuple #[.slice a b c,.slice d e f,.int .i64 g,.bool h])/\Q (.tuple #[.agg #[.slice d e f,.slice a b c],.int .i64 g,.bool h]) j
theorem fn9 (ok:EnvOk (env Try.prog)) {p0_0:OA} {p0_0n p0_0c:Nat} {p0_1:OA} {p0_1n p0_1c:Nat} {p1:Int} {H:KH} {Q:PQ} (h:vc9 p0_0 p0_0n p0_0c p0_1 p0_1n p0_1c p1 H Q):Does (env Try.prog) 9 [.agg #[.slice p0_0 p0_0n p0_0c,.slice p0_1 p0_1n p0_1c],.int .i64 p1] H Q :=
 wFun_sound (W:=W9 Try.prog) ok.tt (blt_lt (by kernel_rfl)) (ff_of ok (by kernel_rfl) Try.func9) (Eq.mpr (by kernel_rfl) h)
def W10 (P:Program):WE:=⟨env P,tupT,[],mkTab [(0,[.tmp 0 .slice,.tmp 1 .slice,.tmp 5 (.int .i64)])],10⟩
def vc10_L1 (y1:OA) (y2 y3:Nat) (y4:OA) (y5 y6:Nat) (y7:KH) (y8:PQ):Prop :=
 (∃ (d:(Nat->OA->Nat->Nat->OA->Nat->Nat->Int->KH->Prop)),(∃ (r:Nat),d r y1 y2 y3 y4 y5 y6 0 y7)/\∀ (j:Nat) (e:(OA)) (c k:Nat) (f:(OA)) (g l:Nat) (a:Int) (b:KH),d j e c k f g l a b->(decide (a<(c:Int))=true->True/\((0:Int)<=a/\a<(c:Int))/\∃ (m n:Nat),e=some ⟨m,n,none⟩/\∃ (h:Int),ld b ⟨m,n+((Int.toNat a)*1),none⟩ [(.int .i64 h)]/\((0:Int)<=a/\a<(g:Int))/\∃ (o p:Nat),f=some ⟨o,p,none⟩/\∃ (i:Int),ld b ⟨o,p+((Int.toNat a)*1),none⟩ [(.int .i64 i)]/\(decide (h≠i)=true->y8 (.bool false) b)/\(decide (h≠i)=false->∃ (q:Nat),(q:Nat)<j/\d q e c k f g l (IntKind.wrap .i64 (a+1)) b))/\(decide (a<(c:Int))=false->y8 (.bool true) b))
def vc10 (p0:OA) (p0n p0c:Nat) (p1:OA) (p1n p1c:Nat) (H:KH) (Q:PQ):Prop :=
 ((decide ((p0n:Int)≠(p1n:Int))=true->Q (.bool false) H)/\(decide ((p0n:Int)≠(p1n:Int))=false->vc10_L1 p0 p0n p0c p1 p1n p1c H Q))
theorem fn10 (ok:EnvOk (env Try.prog)) {p0:OA} {p0n p0c:Nat} {p1:OA} {p1n p1c:Nat} {H:KH} {Q:PQ} (h:vc10 p0 p0n p0c p1 p1n p1c H Q):Does (env Try.prog) 10 [.slice p0 p0n p0c,.slice p1 p1n p1c] H Q :=
 wFun_sound (W:=W10 Try.prog) ok.tt (blt_lt (by kernel_rfl)) (ff_of ok (by kernel_rfl) Try.func10) (Eq.mpr (by kernel_rfl) h)
def W11 (P:Program):WE:=⟨env P,tupT,[],mkTab [],11⟩
def vc11 (p0:OA) (p0n p0c:Nat) (p1:Int) (H:KH) (Q:PQ):Prop :=
 Does (env Try.prog) 14 [(.slice p0 p0n p0c)] H fun m b=>∃ (c:(OA)) (d e:Nat),m=(.slice c d e)/\∀ (a:Nat),((b a):(Option (Ent)))=none->∀ (f:Nat),(((KH.new b a (mkEnt [(.int .i64 p1)] 0)) f):(Option (Ent)))=none->∃ (g:Nat) (h:(List Value)),((knew (KH.new b a (mkEnt [(.int .i64 p1)] 0)) ⟨1,8,false,5,0,0,[],[(.int .i64 0)]⟩ (.slice (some ⟨a,0,none⟩) 1 1)):(Option (Nat × (List Value))))=(some (g,h))/\∃ (i:(OA)) (j k:Nat) (l:KH),((kappend (KH.new b a (mkEnt [(.int .i64 p1)] 0)) f ⟨1,8,false,5,0,0,[],[(.int .i64 0)]⟩ c d e g h):(Option (Value × KH)))=(some (.slice i j k,l))/\Q (.slice i j k) l
theorem fn11 (ok:EnvOk (env Try.prog)) {p0:OA} {p0n p0c:Nat} {p1:Int} {H:KH} {Q:PQ} (h:vc11 p0 p0n p0c p1 H Q):Does (env Try.prog) 11 [.slice p0 p0n p0c,.int .i64 p1] H Q :=
 wFun_sound (W:=W11 Try.prog) ok.tt (blt_lt (by kernel_rfl)) (ff_of ok (by kernel_rfl) Try.func11) (Eq.mpr (by kernel_rfl) h)
def W12 (P:Program):WE:=⟨env P,tupT,[],mkTab [],12⟩
def vc12 (p0:OA) (p0n p0c:Nat) (p1:Int) (H:KH) (Q:PQ):Prop :=
 ((decide (p1<(p0n:Int))=true->∃ (a:(OA)) (b c:Nat),((kslice H 1 p0 p0n p0c (some (.int .i64 1)) none):(Option Value))=(some (.slice a b c))/\Does (env Try.prog) 14 [(.slice a b c)] H fun j k=>∃ (d:(OA)) (e f:Nat),j=(.slice d e f)/\Q (.slice d e f) k)/\(decide (p1<(p0n:Int))=false->Does (env Try.prog) 14 [(.slice p0 p0n p0c)] H fun l m=>∃ (g:(OA)) (h i:Nat),l=(.slice g h i)/\Q (.slice g h i) m))
theorem fn12 (ok:EnvOk (env Try.prog)) {p0:OA} {p0n p0c:Nat} {p1:Int} {H:KH} {Q:PQ} (h:vc12 p0 p0n p0c p1 H Q):Does (env Try.prog) 12 [.slice p0 p0n p0c,.int .i64 p1] H Q :=
 wFun_sound (W:=W12 Try.prog) ok.tt (blt_lt (by kernel_rfl)) (ff_of ok (by kernel_rfl) Try.func12) (Eq.mpr (by kernel_rfl) h)
def W13 (P:Program):WE:=⟨env P,tupT,[],mkTab [],13⟩
def vc13 (p0:OA) (p0n p0c:Nat) (p1:OA) (p1n p1c:Nat) (p2:Int) (H:KH) (Q:PQ):Prop :=
 Does (env Try.prog) 15 [(.slice p0 p0n p0c)] H fun m l=>∃ (a:(OA)) (b c:Nat) (d:Int) (e:Bool),m=(.tuple #[.slice a b c,.int .i64 d,.bool e])/\((!e)=true->Does (env Try.prog) 14 [(.slice p1 p1n p1c)] l fun n o=>∃ (f:(OA)) (g h:Nat),n=(.slice f g h)/\Q (.tuple #[.slice a b c,.slice f g h,.int .i64 d,.bool false]) o)/\((!e)=false->Does (env Try.prog) 11 [.slice p1 p1n p1c,.int .i64 p2] l fun p q=>∃ (i:(OA)) (j k:Nat),p=(.slice i j k)/\Q (.tuple #[.slice a b c,.slice i j k,.int .i64 d,.bool true]) q)
theorem fn13 (ok:EnvOk (env Try.prog)) {p0:OA} {p0n p0c:Nat} {p1:OA} {p1n p1c:Nat} {p2:Int} {H:KH} {Q:PQ} (h:vc13 p0 p0n p0c p1 p1n p1c p2 H Q):Does (env Try.prog) 13 [.slice p0 p0n p0c,.slice p1 p1n p1c,.int .i64 p2] H Q :=
 wFun_sound (W:=W13 Try.prog) ok.tt (blt_lt (by kernel_rfl)) (ff_of ok (by kernel_rfl) Try.func13) (Eq.mpr (by kernel_rfl) h)
def W14 (P:Program):WE:=⟨env P,tupT,[],mkTab [],14⟩
def vc14 (p0:OA) (p0n p0c:Nat) (H:KH) (Q:PQ):Prop :=
 (∀ (a:Nat),((H a):(Option (Ent)))=none->∃ (b:Nat) (c:(List Value)),((knew H ⟨1,8,false,5,0,0,[],[(.int .i64 0)]⟩ (.slice p0 p0n p0c)):(Option (Nat × (List Value))))=(some (b,c))/\∃ (d:(OA)) (e f:Nat) (g:KH),((kappend H a ⟨1,8,false,5,0,0,[],[(.int .i64 0)]⟩ none 0 0 b c):(Option (Value × KH)))=(some (.slice d e f,g))/\Q (.slice d e f) g)
theorem fn14 (ok:EnvOk (env Try.prog)) {p0:OA} {p0n p0c:Nat} {H:KH} {Q:PQ} (h:vc14 p0 p0n p0c H Q):Does (env Try.prog) 14 [.slice p0 p0n p0c] H Q :=
 wFun_sound (W:=W14 Try.prog) ok.tt (blt_lt (by kernel_rfl)) (ff_of ok (by kernel_rfl) Try.func14) (Eq.mpr (by kernel_rfl) h)
def W15 (P:Program):WE:=⟨env P,tupT,[],mkTab [],15⟩
def vc15 (p0:OA) (p0n p0c:Nat) (H:KH) (Q:PQ):Prop :=
 ((decide ((p0n:Int)=0)=true->Q (.tuple #[.slice none 0 0,.int .i64 0,.bool false]) H)/\(decide ((p0n:Int)=0)=false->True/\∃ (d:(OA)) (e f:Nat),((kslice H 1 p0 p0n p0c none (some (.int .i64 (IntKind.wrap .i64 ((p0n:Int)-1))))):(Option Value))=(some (.slice d e f))/\((0:Int)<=(IntKind.wrap .i64 ((p0n:Int)-1))/\((IntKind.wrap .i64 ((p0n:Int)-1)):Int)<(p0n:Int))/\∃ (a b:Nat),p0=some ⟨a,b,none⟩/\∃ (c:Int),ld H ⟨a,b+((Int.toNat (IntKind.wrap .i64 ((p0n:Int)-1)))*1),none⟩ [(.int .i64 c)]/\Does (env Try.prog) 14 [(.slice d e f)] H fun n m=>∃ (g:(OA)) (h i:Nat),n=(.slice g h i)/\(((.slice p0 p0n p0c):Value)=(.slice p0 p0n p0c)/\((.int .i64 (IntKind.wrap .i64 ((p0n:Int)-1))):Value)=(.int .i64 (IntKind.wrap .i64 ((p0n:Int)-1)))/\(((0:Int)<=(IntKind.wrap .i64 ((p0n:Int)-1))/\((IntKind.wrap .i64 ((p0n:Int)-1)):Int)<(p0n:Int))/\∃ (j k:Nat),p0=some ⟨j,k,none⟩/\((.pointer (some ⟨j,k+((Int.toNat (IntKind.wrap .i64 ((p0n:Int)-1)))*1),none⟩)):Value)=(.pointer (some ⟨a,b+((Int.toNat (IntKind.wrap .i64 ((p0n:Int)-1)))*1),none⟩)))/\(∃ (l:Int),ld m ⟨a,b+((Int.toNat (IntKind.wrap .i64 ((p0n:Int)-1)))*1),none⟩ [(.int .i64 l)]/\((.int .i64 l):Value)=(.int .i64 c))/\True)/\Q (.tuple #[.slice g h i,.int .i64 c,.bool true]) m))
theorem fn15 (ok:EnvOk (env Try.prog)) {p0:OA} {p0n p0c:Nat} {H:KH} {Q:PQ} (h:vc15 p0 p0n p0c H Q):Does (env Try.prog) 15 [.slice p0 p0n p0c] H Q :=
 wFun_sound (W:=W15 Try.prog) ok.tt (blt_lt (by kernel_rfl)) (ff_of ok (by kernel_rfl) Try.func15) (Eq.mpr (by kernel_rfl) h)
end Va
end Go.Proofs.Ytagpapnkiihlbaa
set_option linter.unusedSimpArgs false
namespace Go.Ew
open Go.Ev Go.Deep
structure Rw (H:KH) (a:OA) (c:Nat) (l:List Int):Prop where
 row:kold H 1 a l.length=some (inC l)
 ok:SlOk H 1 a l.length c
theorem Rw.up {H H':KH} {a:OA} {c:Nat} {l:List Int} (h:Rw H a c l) (hl:Le H H'):Rw H' a c l:=⟨hl.kold h.row,h.ok.mono hl⟩
theorem Rw.nil {H:KH} {c:Nat}:Rw H none c []:=⟨rfl,rfl⟩
def Nw (X H:KH) (a:OA) (c:Nat) (l:List Int):Prop:=Own X H 1 a l.length c (inC l)
theorem Nw.rw_ {X H:KH} {a:OA} {c:Nat} {l:List Int} (h:Nw X H a c l):Rw H a c l:=⟨Own.cells h,Own.ok h (by decide)⟩
theorem Nw.up {X H H':KH} {a:OA} {c:Nat} {l:List Int} (h:Nw X H a c l) (hl:Le H H'):Nw X H' a c l:=Own.mono hl h
theorem Nw.from_ {X Y H:KH} {a:OA} {c:Nat} {l:List Int} (h:Nw Y H a c l) (hl:Le X Y):Nw X H a c l:=Own.base h (fun b hb=>hl.none (Own.has h hb).2) fun k e _ q=>q
def heldL (m:Nat) (l:List Int):List Int:=if m<l.length then l.drop 1 else l
def exL (l m:List Int) (x:Int):List Int × List Int × Int × Bool:=match l.getLast? with
 | none=>([],m,0,false)
 | some y=>(l.dropLast,m++[x],y,true)
end Go.Ew
namespace Go.Proofs.Ytagpapnkiihlbaa
open Go.Ev Go.Ew
namespace Va
section
variable (ok : EnvOk (env Try.prog))
include ok
omit ok in
theorem c6 {H:KH} {Q:PQ} (hq:Q (.bool true) H):Does (env Try.prog) 6 [] H Q:=does_true (by kernel_rfl) (by kernel_rfl) (by kernel_rfl) hq
theorem c14 {a:OA} {c:Nat} {l:List Int} {H:KH} {Q:PQ} (hl:kold H 1 a l.length=some (inC l)) (hs:l.length<=10000)
 (hq:∀ a' c' H',Le H H'->Nw H H' a' c' l->Q (.slice a' l.length c') H'):Does (env Try.prog) 14 [.slice a l.length c] H Q:=by
 refine fn14 ok fun n1 h1=>?_
 obtain ⟨a',c',H',f1,f2,f3,f4,f5⟩:=(Own.nil (H0:=H) (H:=H) (sz:=1)).append (ti:=⟨1,8,false,5,0,0,[],[.int .i64 0]⟩) (m:=l.length) (nm:=n1) (new:=inC l) (Le.refl H) h1 (by rw [inC_len,Nat.mul_one]) (by omega) (by decide) (by decide)
 rw [Nat.zero_add,List.nil_append] at f2
 rw [Nat.zero_add] at f1
 exact ⟨_,_,knew_of (ti:=⟨1,8,false,5,0,0,[],[.int .i64 0]⟩) hl,a',_,c',H',f1,hq a' c' H' f3 f2⟩
theorem c11 {a:OA} {c:Nat} {l:List Int} {x:Int} {H:KH} {Q:PQ} (hl:kold H 1 a l.length=some (inC l)) (hs:l.length<=10000)
 (hq:∀ a' c' H',Le H H'->Nw H H' a' c' (l++[x])->Q (.slice a' (l++[x]).length c') H'):Does (env Try.prog) 11 [.slice a l.length c,.int .i64 x] H Q:=by
 refine fn11 ok (c14 ok hl hs fun a3 c3 H2 h2 o2=>⟨a3,_,c3,rfl,fun n6 h6 n7 h7=>?_⟩)
 obtain ⟨a',c',H',f1,f2,f3,f4,f5⟩:=(Own.mono (Le.new h6) o2).append (ti:=⟨1,8,false,5,0,0,[],[.int .i64 0]⟩) (m:=1) (nm:=n7) (new:=[.int .i64 x]) (h2.trans (Le.new h6)) h7 rfl (by omega) (by decide) (by decide)
 refine ⟨_,_,knew_of (ti:=⟨1,8,false,5,0,0,[],[.int .i64 0]⟩) (lit_kold (if_pos rfl) rfl),a',_,c',H',f1,?_⟩
 have e:l.length+1=(l++[x]).length:=by simp
 have o:Nw H H' a' c' (l++[x]):=by
  unfold Nw
  rw [<- e,inC_app]; exact f2
 have:=hq a' c' H' f3 o
 rw [<- e] at this
 exact this
theorem c15 {a:OA} {c:Nat} {l:List Int} {H:KH} {Q:PQ} (hl:Rw H a c l) (hs:l.length<=10000)
 (h0:l=[]->Q (.tuple #[.slice none 0 0,.int .i64 0,.bool false]) H)
 (hq:∀ m x a' c' H',l=m++[x]->Le H H'->Nw H H' a' c' m->Q (.tuple #[.slice a' m.length c',.int .i64 x,.bool true]) H'):Does (env Try.prog) 15 [.slice a l.length c] H Q:=by
 refine fn15 ok ⟨fun z=>h0 (List.eq_nil_of_length_eq_zero (by have:=of_decide_eq_true z; omega)),fun z=>?_⟩
 have hp:0<l.length:=by have:=of_decide_eq_false z; omega
 obtain ⟨m,x,e⟩:∃ m x,l=m++[x]:=⟨l.dropLast,l.getLast (by intro e; rw [e] at hp; cases hp),(List.dropLast_concat_getLast _).symm⟩
 have el:l.length=m.length+1:=by rw [e]; simp
 have ew:IntKind.wrap .i64 (((l.length:Nat):Int)-1)=((m.length:Nat):Int):=by rw [wrap64 (by omega) (by omega)]; omega
 have et:Int.toNat ((m.length:Nat):Int)=m.length:=by omega
 obtain ⟨a1,c1,k1,k2⟩:=cut_lo (k:=m.length) hl.ok hl.row (by omega)
 have k2:kold H 1 a1 m.length=some (inC m):=by
  rw [k2,Nat.mul_one,e,inC_app]
  have:m.length=(inC m).length:=by rw [inC_len]
  rw [this,List.take_left]
 obtain ⟨b0,o0,ha,r0⟩:=in_ld hl.row (i:=m.length) (by omega)
 have ex:l[m.length]'(by omega)=x:=by simp [e]
 rw [ex] at r0
 rw [ew,et]
 refine ⟨trivial,a1,_,c1,k1,⟨by omega,by omega⟩,b0,o0,ha,x,r0,c14 ok k2 (by omega) fun a9 c9 H8 h8 o8=>⟨a9,_,c9,rfl,⟨rfl,rfl,⟨⟨by omega,by omega⟩,b0,o0,ha,rfl⟩,⟨x,h8.ld r0,rfl⟩,trivial⟩,hq m x a9 c9 H8 e h8 o8⟩⟩
theorem c12 {a:OA} {c k:Nat} {l:List Int} {H:KH} {Q:PQ} (hl:Rw H a c l) (hs:l.length<=10000)
 (hq:∀ a' c' H',Le H H'->Nw H H' a' c' (heldL k l)->Q (.slice a' (heldL k l).length c') H'):Does (env Try.prog) 12 [.slice a l.length c,.int .i64 ((k:Nat):Int)] H Q:=by
 refine fn12 ok ⟨fun z=>?_,fun z=>?_⟩
 .have z:k<l.length:=by have:=of_decide_eq_true z; omega
  obtain ⟨a1,c1,k1,k2⟩:=cut_hi (k:=1) hl.ok hl.row (by omega)
  have e:heldL k l=l.drop 1:=if_pos z
  have e2:(l.drop 1).length=l.length-1:=List.length_drop
  rw [e,e2] at hq
  have k2:kold H 1 a1 (l.drop 1).length=some (inC (l.drop 1)):=by
   rw [e2,k2]; unfold inC; rw [List.map_drop]
  refine ⟨a1,_,c1,k1,?_⟩
  rw [<- e2]
  refine c14 ok k2 (by omega) fun a6 c6 H5 h5 o5=>⟨a6,_,c6,rfl,?_⟩
  rw [e2]
  exact hq a6 c6 H5 h5 o5
 .have z:¬ k<l.length:=by have:=of_decide_eq_false z; omega
  have e:heldL k l=l:=if_neg z
  rw [e] at hq
  exact c14 ok hl.row hs fun a6 c6 H5 h5 o5=>⟨a6,_,c6,rfl,hq a6 c6 H5 h5 o5⟩
theorem c13 {a b:OA} {c d:Nat} {l m:List Int} {x:Int} {H:KH} {Q:PQ} (hl:Rw H a c l) (hm:Rw H b d m) (hs:l.length<=10000) (ht:m.length<=10000)
 (hq:∀ l' m' y t a' c' b' d' H',exL l m x=(l',m',y,t)->Le H H'->Nw H H' a' c' l'->Nw H H' b' d' m'->Q (.tuple #[.slice a' l'.length c',.slice b' m'.length d',.int .i64 y,.bool t]) H') :
 Does (env Try.prog) 13 [.slice a l.length c,.slice b m.length d,.int .i64 x] H Q:=by
 refine fn13 ok (c15 ok hl hs (fun e=>⟨none,_,_,_,_,rfl,fun _=>?_,fun h=>(by cases h)⟩) fun l' y a3 c3 H2 e h2 o2=>⟨a3,_,c3,y,true,rfl,fun h=>(by cases h),fun _=>?_⟩)
 .exact c14 ok hm.row ht fun a10 c10 H9 h9 o9=>⟨a10,_,c10,rfl,hq [] m 0 false none 0 a10 c10 H9 (by rw [e]; rfl) h9 .nil o9⟩
 .exact c11 ok (h2.kold hm.row) ht fun a15 c15 H14 h14 o14=>⟨a15,_,c15,rfl,hq l' (m++[x]) y true a3 c3 a15 c15 H14 (by rw [e]; simp [exL]) (h2.trans h14) (o2.up h14) (o14.from_ h2)⟩
theorem c7 {a b:OA} {n c d:Nat} {l:List Int} {x:Int} {H:KH} {Q:PQ} (hl:kold H 1 a l.length=some (inC l)) (hs:l.length<=1000)
 (hq:∀ a' c' H',Le H H'->Nw H H' a' c' (heldL 20 (l++[x]))->Q (.agg #[.slice a' (heldL 20 (l++[x])).length c',.slice none 0 0]) H') :
 Does (env Try.prog) 7 [.agg #[.slice a l.length c,.slice b n d],.int .i64 x] H Q:=by
 refine fn7 ok (c11 ok hl (by omega) fun a3 c3 H2 h2 o2=>⟨a3,_,c3,rfl,c12 ok (k:=20) o2.rw_ (by simp; omega) fun a8 c8 H7 h7 o7=>⟨a8,_,c8,rfl,hq a8 c8 H7 (h2.trans h7) (o7.from_ h2)⟩⟩)
theorem c8 {a b:OA} {c d:Nat} {l m:List Int} {x:Int} {H:KH} {Q:PQ} (hl:Rw H a c l) (hm:Rw H b d m) (hs:l.length<=1000) (ht:m.length<=1000)
 (hq:∀ l' m' y t a' c' b' d' H',exL l m x=(l',m',y,t)->Le H H'->Nw H H' a' c' l'->Nw H H' b' d' m'->Q (.tuple #[.agg #[.slice a' l'.length c',.slice b' m'.length d'],.int .i64 y,.bool t]) H') :
 Does (env Try.prog) 8 [.agg #[.slice a l.length c,.slice b m.length d],.int .i64 x] H Q :=
 fn8 ok (c13 ok hl hm (by omega) (by omega) fun l' m' y t a' c' b' d' H' e h1 h2 h3=>⟨a',_,c',b',_,d',y,t,rfl,hq l' m' y t a' c' b' d' H' e h1 h2 h3⟩)
theorem c9 {a b:OA} {c d:Nat} {l m:List Int} {x:Int} {H:KH} {Q:PQ} (hl:Rw H a c l) (hm:Rw H b d m) (hs:l.length<=1000) (ht:m.length<=1000)
 (hq:∀ l' m' y t a' c' b' d' H',exL m l x=(m',l',y,t)->Le H H'->Nw H H' a' c' l'->Nw H H' b' d' m'->Q (.tuple #[.agg #[.slice a' l'.length c',.slice b' m'.length d'],.int .i64 y,.bool t]) H') :
 Does (env Try.prog) 9 [.agg #[.slice a l.length c,.slice b m.length d],.int .i64 x] H Q :=
 fn9 ok (c13 ok hm hl (by omega) (by omega) fun m' l' y t b' d' a' c' H' e h1 h2 h3=>⟨b',_,d',a',_,c',y,t,rfl,hq l' m' y t a' c' b' d' H' e h1 h3 h2⟩)
theorem c10 {a a':OA} {c c':Nat} {l m:List Int} {H:KH} {Q:PQ} (hl:kold H 1 a l.length=some (inC l)) (hm:kold H 1 a' m.length=some (inC m)) (hs:l.length<=100000) (hq:Q (.bool (decide (l=m))) H):Does (env Try.prog) 10 [.slice a l.length c,.slice a' m.length c'] H Q:=by
 refine fn10 ok ⟨fun h=>?_,fun h=>?_⟩
 .have h:=of_decide_eq_true h
  rw [decide_eq_false (fun z=>h (by rw [z]))] at hq
  exact hq
 have h:l.length=m.length:=by have:=of_decide_eq_false h; omega
 unfold vc10_L1
 refine ⟨fun k a4 n5 n6 a7 n8 n9 x10 H11=>a4=a/\n5=l.length/\a7=a'/\n8=m.length/\H11=H/\∃ i:Nat,x10=i/\i<=l.length/\k=l.length-i/\∀ j (hj:j<l.length),j<i->l[j]=m[j]'(by omega),⟨_,rfl,rfl,rfl,rfl,rfl,0,rfl,by omega,rfl,fun j _ z=>absurd z (by omega)⟩,?_⟩
 rintro k a4 n5 n6 a7 n8 n9 x10 H11 ⟨rfl,rfl,rfl,rfl,rfl,i,rfl,hi,rfl,hv⟩
 refine ⟨fun hlt=>?_,fun hge=>?_⟩
 .have hlt:i<l.length:=by have:=of_decide_eq_true hlt; omega
  have e0:Int.toNat ((i:Nat):Int)=i:=by omega
  have hi1:IntKind.wrap .i64 (((i:Nat):Int)+1)=((i+1:Nat):Int):=by rw [wrap64 (by omega) (by omega)]; omega
  obtain ⟨b0,o0,ha,r0⟩:=in_ld hl hlt
  obtain ⟨b1,o1,ha1,r1⟩:=in_ld hm (i:=i) (by omega)
  rw [e0,hi1]
  refine ⟨trivial,⟨by omega,by omega⟩,b0,o0,ha,_,r0,⟨by omega,by omega⟩,b1,o1,ha1,_,r1,fun hc=>?_,fun hc=>?_⟩
  .have hc:=of_decide_eq_true hc
   rw [decide_eq_false (fun z=>hc (by simp only [z]))] at hq
   exact hq
  .have hc:l[i]=m[i]'(by omega):=by have:=of_decide_eq_false hc; omega
   refine ⟨l.length-(i+1),by omega,rfl,rfl,rfl,rfl,rfl,i+1,rfl,by omega,rfl,fun j hj z=>?_⟩
   by_cases y:j=i
   .subst y; exact hc
   .exact hv j hj (by omega)
 .have hge:i=l.length:=by have:=of_decide_eq_false hge; omega
  subst hge
  have:l=m:=List.ext_getElem h fun j h1 h2=>hv j h1 h1
  rw [decide_eq_true this] at hq
  exact hq
end
end Va
end Go.Proofs.Ytagpapnkiihlbaa
namespace Go.Ew
open Go.Ev Go.Deep
def Inl (H:KH) (a:OA) (l:List Int):Prop:=∀ i (hi:i<l.length),∃ b o,a=some ⟨b,o,none⟩/\ld H ⟨b,o+i*1,none⟩ [.int .i64 l[i]]
theorem Inl.up {H H':KH} {a:OA} {l:List Int} (h:Inl H a l) (hl:Le H H'):Inl H' a l:=fun i hi=>by
 obtain ⟨b,o,h1,h2⟩:=h i hi
 exact ⟨b,o,h1,hl.ld h2⟩
theorem take_one {S:List Int} {p:Nat} (h:p<S.length):S.take (p+1)=S.take p++[S[p]]:=by
 rw [List.take_add_one,List.getElem?_eq_getElem h]; rfl
theorem ex_back {S:List Int} {p:Nat} (h:p+1<S.length):exL (S.take (p+1)) (S.drop (p+2)).reverse S[p+1]=(S.take p,(S.drop (p+1)).reverse,S[p],true):=by
 have h1:S.drop (p+1)=S[p+1] :: S.drop (p+2):=List.drop_eq_getElem_cons h
 rw [take_one (show p<S.length by omega),h1,List.reverse_cons]
 unfold exL
 rw [List.getLast?_concat]
 simp only [List.dropLast_concat]
theorem ex_on {S:List Int} {p:Nat} (h:p+1<S.length):exL (S.drop (p+1)).reverse (S.take p) S[p]=((S.drop (p+2)).reverse,S.take (p+1),S[p+1],true):=by
 have h1:S.drop (p+1)=S[p+1] :: S.drop (p+2):=List.drop_eq_getElem_cons h
 rw [take_one (show p<S.length by omega),h1,List.reverse_cons]
 unfold exL
 rw [List.getLast?_concat]
 simp only [List.dropLast_concat]
theorem held_le {m:Nat} {l:List Int} (h:l.length<=m):heldL m l=l:=if_neg (by omega)
end Go.Ew
namespace Go.Proofs.Ytagpapnkiihlbaa
open Go.Ev Go.Ew
namespace Va
section
variable (ok : EnvOk (env Try.prog))
include ok
theorem c5 {a:OA} {c b:Nat} {l:List Int} {x:Int} {H:KH} (hl:Inl H a l) (hb:b<=255):Does (env Try.prog) 5 [.slice a l.length c,.int .u8 ((b:Nat):Int),.int .i64 x] H fun v _=>v = .bool true:=by
 refine fn5 ok (c6 ⟨true,rfl,fun h=>(by cases h),fun _=>⟨fun _=>rfl,fun l0=>?_⟩⟩)
 have l0:l.length<=15:=by have:=of_decide_eq_false l0; omega
 unfold vc5_L7
 refine ⟨fun m a4 n5 n6 x7 x8 a9 n10 n11 a12 n13 n14 x15 H16=>a4=a/\n5=l.length/\x7=((b:Nat):Int)/\x8=x/\a12=none/\n13=0/\Le H H16/\∃ i:Nat,x15=i/\i<=l.length/\m=l.length-i/\n10=(l.take i).length/\Rw H16 a9 n11 (l.take i),⟨_,rfl,rfl,rfl,rfl,rfl,rfl,Le.refl H,0,rfl,by omega,rfl,rfl,.nil⟩,?_⟩
 rintro m aa n5 n6 x7 x8 a9 n10 n11 a12 n13 n14 x15 H16 ⟨rfl,rfl,rfl,rfl,rfl,rfl,h16,i,rfl,hi,rfl,rfl,r9⟩
 refine ⟨fun hlt=>?_,fun hge=>?_⟩
 .have hlt:i<l.length:=by have:=of_decide_eq_true hlt; omega
  have e0:Int.toNat ((i:Nat):Int)=i:=by omega
  have hi1:IntKind.wrap .i64 (((i:Nat):Int)+1)=((i+1:Nat):Int):=by rw [wrap64 (by omega) (by omega)]; omega
  obtain ⟨b0,o0,ha,r0⟩:=(hl.up h16) i hlt
  have hd:heldL 20 (l.take i++[l[i]])=l.take (i+1):=by rw [<- take_one hlt]; exact held_le (by simp; omega)
  rw [e0,hi1]
  refine ⟨trivial,⟨by omega,by omega⟩,b0,o0,ha,_,r0,c7 ok r9.row (by simp; omega) fun a' c' H' h' o'=>⟨a',_,c',none,0,0,rfl,trivial,trivial,l.length-(i+1),by omega,rfl,rfl,rfl,rfl,rfl,rfl,h16.trans h',i+1,rfl,by omega,rfl,?_,?_⟩⟩
  .rw [hd]
  .rw [hd] at o'; exact o'.rw_
 have hge:i=l.length:=by have:=of_decide_eq_false hge; omega
 subst hge
 have w1:IntKind.wrap .i64 (((l.length:Nat):Int)+1)=((l.length:Nat):Int)+1:=wrap64 (by omega) (by omega)
 have w2:IntKind.wrap .i64 ((b:Nat):Int)=((b:Nat):Int):=wrap64 (by omega) (by omega)
 have k0:=Int.tmod_nonneg (((l.length:Nat):Int)+1) (show (0:Int)<=((b:Nat):Int) by omega)
 have k1:=Int.tmod_lt_of_pos ((b:Nat):Int) (b:=((l.length:Nat):Int)+1) (by omega)
 unfold vc5_L6
 rw [w1,w2]
 obtain ⟨K,hK⟩:∃ K:Nat,Int.tmod ((b:Nat):Int) (((l.length:Nat):Int)+1)=((K:Nat):Int):=⟨(Int.tmod ((b:Nat):Int) (((l.length:Nat):Int)+1)).toNat,by omega⟩
 rw [hK] at k1 ⊢
 have hKl:K<=l.length:=by omega
 rw [List.take_length] at r9
 obtain ⟨S,hS⟩:∃ S,S=l++[x8]:=⟨_,rfl⟩
 have eS:S.length=l.length+1:=by rw [hS]; simp
 have eSn:S[l.length]'(by omega)=x8:=by simp [hS]
 have eSt:S.take l.length=l:=by rw [hS]; exact List.take_left
 have eSd:S.drop (l.length+1)=[]:=List.drop_eq_nil_of_le (by omega)
 have eSl:∀ j (hj:j<l.length),S[j]'(by omega)=l[j]:=fun j hj=>by simp only [hS]; exact List.getElem_append_left hj
 clear hS
 refine ⟨by omega,fun m a4 n5 n6 x7' a8 n9 n10 a11 n12 n13 a14 n15 n16 a17 n18 n19 x20 x21 x22 H23=>a4=aa/\n5=l.length/\x7'=x8/\n9=l.length/\Le H H23/\Rw H23 a8 n10 l/\x21=((K:Nat):Int)/\∃ i p:Nat,∃ hp:p<S.length,x22=i/\i<=K/\m=K-i/\p+i=l.length/\x20=S[p]/\n15=(S.take p).length/\Rw H23 a14 n16 (S.take p)/\n18=(S.drop (p+1)).reverse.length/\Rw H23 a17 n19 (S.drop (p+1)).reverse,⟨K,rfl,rfl,rfl,by simp,h16,r9,rfl,0,l.length,by omega,rfl,by omega,rfl,by omega,eSn.symm,by rw [eSt,List.take_length],by rw [eSt]; exact r9,by rw [eSd]; rfl,by rw [eSd]; exact .nil⟩,?_⟩
 clear r9 h16 H16
 rintro m a4 n5 n6 x7' a8 n9 n10 a11 n12 n13 a14 n15 n16 a17 n18 n19 x20 x21 x22 H23 ⟨rfl,rfl,rfl,rfl,h23,r8,rfl,i,p,hp,rfl,hi,rfl,hpi,rfl,rfl,r14,rfl,r17⟩
 refine ⟨fun hlt=>?_,fun hge=>?_⟩
 .have hlt:i<K:=by have:=of_decide_eq_true hlt; omega
  have hi1:IntKind.wrap .i64 (((i:Nat):Int)+1)=((i+1:Nat):Int):=by rw [wrap64 (by omega) (by omega)]; omega
  obtain ⟨p,rfl⟩:∃ q,p=q+1:=⟨p-1,by omega⟩
  have v1:IntKind.wrap .i64 (((l.length:Nat):Int)-1)=((l.length:Nat):Int)-1:=wrap64 (by omega) (by omega)
  have v2:IntKind.wrap .i64 (((l.length:Nat):Int)-1-((i:Nat):Int))=((p:Nat):Int):=by rw [wrap64 (by omega) (by omega)]; omega
  have e0:Int.toNat ((p:Nat):Int)=p:=by omega
  refine c8 ok r14 r17 (by simp; omega) (by simp; omega) fun l' m' y t a' c' b' d' H' e h1 o1 o2=>?_
  rw [ex_back hp] at e
  simp only [Prod.mk.injEq] at e
  obtain ⟨rfl,rfl,rfl,rfl⟩:=e
  obtain ⟨b0,o0,ha,r0⟩:=(hl.up (h23.trans h1)) p (by omega)
  rw [v1,v2,e0,hi1]
  refine ⟨a',_,c',b',_,d',_,true,rfl,fun h=>(by cases h),fun _=>⟨⟨by omega,by omega⟩,b0,o0,ha,_,r0,fun z=>absurd (eSl p (by omega)) (of_decide_eq_true z),fun _=>⟨K-(i+1),by omega,rfl,rfl,rfl,rfl,h23.trans h1,r8.up h1,rfl,i+1,p,by omega,rfl,by omega,rfl,by omega,rfl,rfl,o1.rw_,rfl,o2.rw_⟩⟩⟩
 have hge:i=K:=by have:=of_decide_eq_false hge; omega
 subst hge
 have hd:heldL 20 (S.take p++[S[p]])=S.take (p+1):=by rw [<- take_one hp]; exact held_le (by simp; omega)
 refine c7 ok r14.row (by simp; omega) fun a3 c3 H2 h2 o2=>⟨a3,_,c3,none,0,0,rfl,?_⟩
 rw [hd] at o2 ⊢
 refine c9 ok (m:=[]) o2.rw_ .nil (by simp; omega) (by simp) fun l' m' y t a' c' b' d' H' e h1 o3 o4=>⟨a',_,c',b',_,d',y,t,rfl,?_⟩
 simp only [exL,List.getLast?_nil,Prod.mk.injEq] at e
 obtain ⟨rfl,rfl,rfl,rfl⟩:=e
 have h10:=h2.trans h1
 have r8':=r8.up h10
 have r14':=r14.up h10
 have r17':=r17.up h10
 have h23':=h23.trans h10
 clear o2 o3 o4 r8 r14 r17 h23 h2 h1 h10
 unfold vc5_L4
 refine ⟨fun m a4 n5 n6 y7 a8 n9 n10 a11 n12 n13 a14 n15 n16 a17 n18 n19 x20 x21 a22 n23 n24 a25 n26 n27 b28 x29 H30=>n5=l.length/\y7=x7'/\n9=l.length/\Le H H30/\Rw H30 a8 n10 l/\x21=((i:Nat):Int)/\b28=false/\n23=p+1/\n26=0/\∃ j q:Nat,∃ hq:q<S.length,x29=j/\j<=i/\m=i-j/\q=p+j/\x20=S[q]/\n15=(S.take q).length/\Rw H30 a14 n16 (S.take q)/\n18=(S.drop (q+1)).reverse.length/\Rw H30 a17 n19 (S.drop (q+1)).reverse,⟨i,rfl,rfl,rfl,h23',r8',rfl,rfl,by simp; omega,rfl,0,p,hp,rfl,by omega,rfl,rfl,rfl,rfl,r14',rfl,r17'⟩,?_⟩
 clear r8' r14' r17' h23'
 rintro m a4 n5 n6 y7 a8 n9 n10 a11 n12 n13 a14 n15 n16 a17 n18 n19 x20 x21 a22 n23 n24 a25 n26 n27 b28 x29 H30 ⟨rfl,rfl,rfl,h30,r8,rfl,rfl,rfl,rfl,j,q,hq,rfl,hj,rfl,hqj,rfl,rfl,r14,rfl,r17⟩
 refine ⟨fun hlt=>?_,fun hge=>?_⟩
 .have hlt:j<i:=by have:=of_decide_eq_true hlt; omega
  have hj1:IntKind.wrap .i64 (((j:Nat):Int)+1)=((j+1:Nat):Int):=by rw [wrap64 (by omega) (by omega)]; omega
  refine c9 ok r14 r17 (by simp; omega) (by simp; omega) fun l' m' y t a' c' b' d' H' e h1 o1 o2=>?_
  rw [ex_on (by omega)] at e
  simp only [Prod.mk.injEq] at e
  obtain ⟨rfl,rfl,rfl,rfl⟩:=e
  rw [hj1]
  exact ⟨a',_,c',b',_,d',_,true,rfl,fun h=>(by cases h),fun _=>⟨i-(j+1),by omega,rfl,rfl,rfl,h30.trans h1,r8.up h1,rfl,rfl,rfl,rfl,j+1,q+1,by omega,rfl,by omega,rfl,by omega,rfl,rfl,o1.rw_,rfl,o2.rw_⟩⟩
 have hge:j=i:=by have:=of_decide_eq_false hge; omega
 subst hge
 have hqn:q=l.length:=by omega
 subst hqn
 refine ⟨fun _=>⟨fun _=>?_,fun z=>absurd eSn (of_decide_eq_false z)⟩,fun h=>(by cases h)⟩
 rw [eSt] at r14 ⊢
 refine c10 ok r14.row r8.row (by omega) ⟨_,rfl,fun _=>⟨fun _=>⟨fun _=>?_,fun z=>absurd rfl (of_decide_eq_false z)⟩,fun z=>absurd (show (((S.drop (l.length+1)).reverse.length:Nat):Int)=0 by rw [eSd]; rfl) (of_decide_eq_false z)⟩,fun z=>by rw [decide_eq_true rfl] at z; cases z⟩
 have v1:IntKind.wrap .i64 (((l.length:Nat):Int)-((j:Nat):Int))=((p:Nat):Int):=by rw [wrap64 (by omega) (by omega)]; omega
 have v2:IntKind.wrap .i64 (((p:Nat):Int)+1)=((p+1:Nat):Int):=by rw [wrap64 (by omega) (by omega)]; omega
 rw [v1,v2,decide_eq_true rfl]
end
end Va
end Go.Proofs.Ytagpapnkiihlbaa
namespace Go.Ew
open Go.Ev Go.Deep
structure UI (X H:KH) (P N:List Int) (a:OA) (c:Nat) (b:OA) (d:Nat):Prop where
 gp:Gs H 1 a P.length c (inC P)
 gn:Gs H 1 b N.length d (inC N)
 fp:∀ k,blk a=some k->X k=none
 fn:∀ k,blk b=some k->X k=none
 dj:∀ k,blk a=some k->blk b≠some k
theorem UI.swap {X H:KH} {P N:List Int} {a b:OA} {c d:Nat} (h:UI X H P N a c b d):UI X H N P b d a c:=⟨h.gn,h.gp,h.fn,h.fp,fun k h1 h2=>h.dj k h2 h1⟩
theorem UI.call {X H X' H':KH} {P N:List Int} {a b:OA} {c d:Nat} (h:UI X H P N a c b d) (y:∀ k e,H k=some e->X k=none->H' k=some e/\X' k=none):UI X' H' P N a c b d :=
 ⟨h.gp.agree fun k e z q=>(y k e q (h.fp k z)).1,h.gn.agree fun k e z q=>(y k e q (h.fn k z)).1,fun k z=>by
  obtain ⟨e,q⟩:=h.gp.has z
  exact (y k e q (h.fp k z)).2,fun k z=>by
  obtain ⟨e,q⟩:=h.gn.has z
  exact (y k e q (h.fn k z)).2,h.dj⟩
theorem UI.up {X H H':KH} {P N:List Int} {a b:OA} {c d:Nat} (h:UI X H P N a c b d) (hl:Le H H'):UI X H' P N a c b d :=
 ⟨h.gp.agree fun k e z q=>hl k e q,h.gn.agree fun k e z q=>hl k e q,h.fp,h.fn,h.dj⟩
theorem UI.none_ {X H:KH} {P N:List Int} {a b:OA} {c d:Nat} (h:UI X H P N a c b d):UI X H P [] a c none 0:=⟨h.gp,.nil,h.fp,fun k z=>(by cases z),fun k _ z=>(by cases z)⟩
theorem UI.app {X H:KH} {P N:List Int} {a b:OA} {c d nm:Nat} {x:Int} (h:UI X H P N a c b d) (hX:Le X H) (hn:H nm=none) (hs:P.length<=1000):∃ a' c' H',kappend H nm ⟨1,8,false,5,0,0,[],[.int .i64 0]⟩ a P.length c 1 [.int .i64 x]=some (.slice a' (P.length+1) c',H')/\UI X H' (P++[x]) N a' c' b d/\Le X H':=by
 obtain ⟨a',c',H',f1,f2,f3,f4⟩:=h.gp.append (ti:=⟨1,8,false,5,0,0,[],[.int .i64 0]⟩) (nm:=nm) (new:=[.int .i64 x]) hn rfl (by omega) (by decide) (by decide)
 have f5:∀ k e,X k=some e->H' k=some e:=fun k e q=>f3 k e (hX k e q) fun z=>by rw [h.fp k z] at q; cases q
 refine ⟨a',c',H',f1,⟨?_,h.gn.agree fun k e z q=>f3 k e q fun w=>h.dj k w z,fun k z=>?_,h.fn,fun k z w=>?_⟩,f5⟩
 .rw [inC_app,List.length_append]; exact f2
 .rcases f4 k z with q | q
  .exact h.fp k q
  .rw [q]; exact hX.none hn
 .rcases f4 k z with q | q
  .exact h.dj k q w
  .obtain ⟨e,r⟩:=h.gn.has w
   rw [q,hn] at r; cases r
theorem UI.cut {X H:KH} {P N:List Int} {a b:OA} {c d:Nat} {x:Int} (h:UI X H (P++[x]) N a c b d):kslice H 1 a (P++[x]).length c none (some (.int .i64 ((P.length:Nat):Int)))=some (.slice a P.length c)/\UI X H P N a c b d:=by
 obtain ⟨f1,f2⟩:=h.gp.cut (m:=P.length) (by simp) (by decide)
 refine ⟨f1,?_,h.gn,h.fp,h.fn,h.dj⟩
 have:P.length*1=(inC P).length:=by rw [inC_len,Nat.mul_one]
 rw [this,inC_app,List.take_left] at f2
 exact f2
theorem UI.tail {X H:KH} {P N:List Int} {a b:OA} {c d:Nat} (h:UI X H P N a c b d) (hm:2<=P.length):∃ a' c',kslice H 1 a P.length c (some (.int .i64 1)) none=some (.slice a' (P.drop 1).length c')/\UI X H (P.drop 1) N a' c' b d:=by
 obtain ⟨a',c',f1,f2,f3⟩:=h.gp.tail hm (by decide)
 have e:(P.drop 1).length=P.length-1:=List.length_drop
 have e2:inC (P.drop 1)=(inC P).drop 1:=by unfold inC; rw [List.map_drop]
 rw [<- e] at f1
 exact ⟨a',c',f1,by rw [e,e2]; exact f2,h.gn,fun k z=>h.fp k (f3 ▸ z),h.fn,fun k z=>h.dj k (f3 ▸ z)⟩
theorem held_len {k:Nat} {l:List Int}:(heldL k l).length<=l.length:=by
 unfold heldL
 split
 .simp
 .exact Nat.le_refl _
end Go.Ew
namespace Go.Proofs.Ytagpapnkiihlbaa
open Go.Ev Go.Ew
namespace Va
section
variable (ok : EnvOk (env Try.prog))
include ok
theorem j0 {a b a4:OA} {c d f m n5 n6:Nat} {P:List Int} {x:Int} {H:KH} {Q:PQ} {I1} (h1:kold H 1 a P.length=some (inC P)) (h2:kold H 1 b P.length=some (inC P)) (hs:P.length<=1000) (hI:∃ n7,n7<m/\I1 n7 a4 n5 n6 a P.length c none 0 f b P.length d none 0 0 (IntKind.wrap .i64 (x+1)) (IntKind.wrap .i64 (x+1)) H) :
 vc3_J0 a P.length c b P.length d H Q none 0 f m I1 a4 n5 n6 x:=by
 unfold vc3_J0
 exact c10 ok h1 h2 (by omega) ⟨_,rfl,fun z=>(by rw [decide_eq_true rfl] at z; cases z),fun _=>c10 ok (l:=[]) (m:=[]) rfl rfl (by simp) ⟨_,rfl,fun z=>(by rw [decide_eq_true rfl] at z; cases z),fun _=>hI⟩⟩
theorem j2 {a b e g a4:OA} {c d f h m n5 n6:Nat} {P N:List Int} {w x:Int} {H:KH} {Q:PQ} {I1} (h1:kold H 1 a P.length=some (inC P)) (h2:kold H 1 b P.length=some (inC P)) (h3:kold H 1 e N.length=some (inC N)) (h4:kold H 1 g N.length=some (inC N)) (hs:P.length<=1000) (ht:N.length<=1000) (hI:∃ n7,n7<m/\I1 n7 a4 n5 n6 a P.length c e N.length f b P.length d g N.length h w (IntKind.wrap .i64 (x+1)) H) :
 vc3_J2 a P.length c b P.length d H Q e N.length f g N.length h m I1 a4 n5 n6 w x:=by
 unfold vc3_J2
 exact c10 ok h1 h2 (by omega) ⟨_,rfl,fun z=>(by rw [decide_eq_true rfl] at z; cases z),fun _=>c10 ok h3 h4 (by omega) ⟨_,rfl,fun z=>(by rw [decide_eq_true rfl] at z; cases z),fun _=>hI⟩⟩
theorem c3 {a:OA} {n c:Nat} {H:KH} (hl:∀ i,i<n->∃ b o x,a=some ⟨b,o,none⟩/\ld H ⟨b,o+i,none⟩ [.int .u8 x]/\0<=x/\x<=255):Does (env Try.prog) 3 [.slice a n c] H fun v _=>v = .bool true:=by
 refine fn3 ok (c6 ⟨true,rfl,fun h=>(by cases h),fun _=>⟨fun _=>rfl,fun l0=>?_⟩⟩)
 have l0:n<=80:=by have:=of_decide_eq_false l0; omega
 unfold vc3_L9
 refine ⟨fun m a4 n5 n6 a7 n8 n9 a10 n11 n12 a13 n14 n15 a16 n17 n18 x19 x20 H21=>a4=a/\n5=n/\∃ (X:KH) (P N:List Int) (i:Nat),x20=i/\i<=n/\m=n-i/\P.length<=i/\N.length<=i/\n8=P.length/\n11=N.length/\n14=P.length/\n17=N.length/\Le H X/\Le X H21/\Rw X a7 n9 P/\Rw X a10 n12 N/\UI X H21 P N a13 n15 a16 n18,⟨n,rfl,rfl,H,[],[],0,rfl,by omega,rfl,Nat.le_refl _,Nat.le_refl _,rfl,rfl,rfl,rfl,Le.refl H,Le.refl H,.nil,.nil,.nil,.nil,fun k z=>(by cases z),fun k z=>(by cases z),fun k z=>(by cases z)⟩,?_⟩
 rintro m a4 n5 n6 a7 n8 n9 a10 n11 n12 a13 n14 n15 a16 n17 n18 x19 x20 H21 ⟨rfl,rfl,X,P,N,i,rfl,hi,rfl,hp,hn,rfl,rfl,rfl,rfl,hX,hXH,r7,r10,u⟩
 refine ⟨fun hlt=>?_,fun hge=>rfl⟩
 have hlt:i<n5:=by have:=of_decide_eq_true hlt; omega
 have e0:Int.toNat ((i:Nat):Int)=i:=by omega
 have hi1:IntKind.wrap .i64 (((i:Nat):Int)+1)=((i+1:Nat):Int):=by rw [wrap64 (by omega) (by omega)]; omega
 obtain ⟨b0,o0,x,ha,r0,_,_⟩:=hl i hlt
 have r0:=(hX.trans hXH).ld r0
 rw [e0,Nat.mul_one]
 refine ⟨⟨by omega,by omega⟩,b0,o0,ha,x,r0,by decide,fun z0=>?_,fun z0=>⟨fun z1=>?_,fun z1=>⟨fun z2=>?_,fun z2=>?_⟩⟩⟩
 iterate 2
  .clear z0
   refine Does.only hXH (c7 ok r7.row (by omega) fun a3 c3 X' x1 o1 H2 y1 y2=>⟨a3,_,c3,none,0,0,rfl,fun m9 h9 m10 h10=>⟨_,_,knew_of (ti:=⟨1,8,false,5,0,0,[],[.int .i64 0]⟩) (lit_kold (if_pos rfl) rfl),?_⟩⟩)
   obtain ⟨a13',c13',H16,f1,f2,f3⟩:=((u.call y2).up (Le.new (e:=mkEnt [.int .i64 x19] 0) h9)).app (x:=x19) (y1.trans (Le.new h9)) h10 (by omega)
   have el:(P++[x19]).length=P.length+1:=by simp
   have r3:=o1.rw_.up (Le.refl X')
   have hPl:=held_len (k:=20) (l:=P++[x19])
   rw [<- el] at f1
   refine ⟨a13',_,c13',H16,f1,fun w=>?_,fun w=>?_⟩
   .have w:20<(P++[x19]).length:=by have:=of_decide_eq_true w; omega
    have eh:heldL 20 (P++[x19])=(P++[x19]).drop 1:=if_pos w
    rw [eh] at r3 hPl ⊢
    obtain ⟨a17,c17,g1,g2⟩:=f2.tail (by omega)
    refine ⟨a17,_,c17,g1,j0 ok (f3.kold r3.row) g2.gp.row (by omega) ⟨n5-(i+1),by omega,rfl,rfl,X',(P++[x19]).drop 1,[],i+1,hi1,by omega,rfl,by omega,by simp,rfl,rfl,rfl,rfl,hX.trans x1,f3,r3,.nil,g2.none_⟩⟩
   .have w:¬ 20<(P++[x19]).length:=by have:=of_decide_eq_false w; omega
    have eh:heldL 20 (P++[x19])=P++[x19]:=if_neg w
    rw [eh] at r3 hPl ⊢
    exact j0 ok (f3.kold r3.row) f2.gp.row (by omega) ⟨n5-(i+1),by omega,rfl,rfl,X',P++[x19],[],i+1,hi1,by omega,rfl,by omega,by simp,rfl,rfl,rfl,rfl,hX.trans x1,f3,r3,.nil,f2.none_⟩
 .refine Does.only hXH (c8 ok r7 r10 (by omega) (by omega) fun l' m' y t a' c' b' d' X' e x1 o1 o2 H2 y1 y2=>⟨a',_,c',b',_,d',y,t,rfl,?_⟩)
  have u2:=u.call y2
  have hXX:=hX.trans x1
  rcases List.eq_nil_or_concat P with rfl | ⟨P,q,rfl⟩
  .simp only [exL,List.getLast?_nil,Prod.mk.injEq] at e
   obtain ⟨rfl,rfl,rfl,rfl⟩:=e
   refine ⟨fun z=>by simp at z,fun _=>⟨fun z=>(by cases z),fun _=>⟨fun z=>(by cases z),fun _=>?_⟩⟩⟩
   have r7:=r7.up x1
   have r10:=r10.up x1
   exact j2 ok (P:=[]) (y1.kold r7.row) u2.gp.row (y1.kold r10.row) u2.gn.row (by simp) (by omega) ⟨n5-(i+1),by omega,rfl,rfl,X',[],N,i+1,hi1,by omega,rfl,by simp,by omega,rfl,rfl,rfl,rfl,hXX,y1,r7,r10,u2⟩
  .rw [List.concat_eq_append] at *
   have el:(P++[q]).length=P.length+1:=by simp
   have eN:(N++[x19]).length=N.length+1:=by simp
   simp only [exL,List.getLast?_concat,List.dropLast_concat,Prod.mk.injEq] at e
   obtain ⟨rfl,rfl,rfl,rfl⟩:=e
   have ew:IntKind.wrap .i64 ((((P++[q]).length:Nat):Int)-1)=((P.length:Nat):Int):=by rw [wrap64 (by omega) (by omega)]; omega
   have et:Int.toNat ((P.length:Nat):Int)=P.length:=by omega
   obtain ⟨b1,o1',ha1,r1⟩:=in_ld u2.gp.row (i:=P.length) (by omega)
   have eq:(P++[q])[P.length]'(by omega)=q:=by simp
   rw [eq] at r1
   rw [ew,et]
   refine ⟨fun z=>(by rw [decide_eq_true (by omega)] at z; cases z),fun _=>⟨fun _=>⟨⟨by omega,by omega⟩,b1,o1',ha1,q,r1,fun z=>absurd rfl (of_decide_eq_true z),fun _=>⟨trivial,fun k1 h1=>?_⟩⟩,fun z=>(by cases z)⟩⟩
   have u3:=u2.up (Le.new (e:=mkEnt [.int .i64 x19] 0) h1)
   obtain ⟨g1,g2⟩:=u3.cut
   refine ⟨a13,_,n15,g1,fun k5 h5=>⟨_,_,knew_of (ti:=⟨1,8,false,5,0,0,[],[.int .i64 0]⟩) (lit_kold (if_pos rfl) rfl),?_⟩⟩
   obtain ⟨a16',c16',H11,f1,f2,f3⟩:=u3.swap.app (x:=x19) (y1.trans (Le.new h1)) h5 (by omega)
   obtain ⟨g3,g4⟩:=f2.swap.cut
   rw [<- eN] at f1
   refine ⟨a16',_,c16',H11,f1,⟨rfl,rfl,rfl,rfl,⟨_,_,_,g3,rfl⟩,trivial⟩,fun _=>?_,fun z=>(by cases z)⟩
   exact j2 ok (f3.kold o1.rw_.row) g4.gp.row (f3.kold o2.rw_.row) g4.gn.row (by omega) (by omega) ⟨n5-(i+1),by omega,rfl,rfl,X',P,N++[x19],i+1,hi1,by omega,rfl,by omega,by omega,rfl,rfl,rfl,rfl,hXX,f3,o1.rw_,o2.rw_,g4⟩
 .refine Does.only hXH (c9 ok r7 r10 (by omega) (by omega) fun l' m' y t a' c' b' d' X' e x1 o1 o2 H2 y1 y2=>⟨a',_,c',b',_,d',y,t,rfl,?_⟩)
  have u2:=u.call y2
  have hXX:=hX.trans x1
  rcases List.eq_nil_or_concat N with rfl | ⟨N,q,rfl⟩
  .simp only [exL,List.getLast?_nil,Prod.mk.injEq] at e
   obtain ⟨rfl,rfl,rfl,rfl⟩:=e
   refine ⟨fun z=>by simp at z,fun _=>⟨fun z=>(by cases z),fun _=>⟨fun z=>(by cases z),fun _=>?_⟩⟩⟩
   have r7:=r7.up x1
   have r10:=r10.up x1
   exact j2 ok (N:=[]) (y1.kold r7.row) u2.gp.row (y1.kold r10.row) u2.gn.row (by omega) (by simp) ⟨n5-(i+1),by omega,rfl,rfl,X',P,[],i+1,hi1,by omega,rfl,by omega,by simp,rfl,rfl,rfl,rfl,hXX,y1,r7,r10,u2⟩
  .rw [List.concat_eq_append] at *
   have el:(N++[q]).length=N.length+1:=by simp
   have eN:(P++[x19]).length=P.length+1:=by simp
   simp only [exL,List.getLast?_concat,List.dropLast_concat,Prod.mk.injEq] at e
   obtain ⟨rfl,rfl,rfl,rfl⟩:=e
   have ew:IntKind.wrap .i64 ((((N++[q]).length:Nat):Int)-1)=((N.length:Nat):Int):=by rw [wrap64 (by omega) (by omega)]; omega
   have et:Int.toNat ((N.length:Nat):Int)=N.length:=by omega
   obtain ⟨b1,o1',ha1,r1⟩:=in_ld u2.gn.row (i:=N.length) (by omega)
   have eq:(N++[q])[N.length]'(by omega)=q:=by simp
   rw [eq] at r1
   rw [ew,et]
   refine ⟨fun z=>(by rw [decide_eq_true (by omega)] at z; cases z),fun _=>⟨fun _=>⟨⟨by omega,by omega⟩,b1,o1',ha1,q,r1,fun z=>absurd rfl (of_decide_eq_true z),fun _=>⟨trivial,fun k1 h1=>?_⟩⟩,fun z=>(by cases z)⟩⟩
   have u3:=u2.up (Le.new (e:=mkEnt [.int .i64 x19] 0) h1)
   obtain ⟨g1,g2⟩:=u3.swap.cut
   refine ⟨a16,_,n18,g1,fun k5 h5=>⟨_,_,knew_of (ti:=⟨1,8,false,5,0,0,[],[.int .i64 0]⟩) (lit_kold (if_pos rfl) rfl),?_⟩⟩
   obtain ⟨a13',c13',H11,f1,f2,f3⟩:=u3.app (x:=x19) (y1.trans (Le.new h1)) h5 (by omega)
   obtain ⟨g3,g4⟩:=f2.swap.cut
   rw [<- eN] at f1
   refine ⟨a13',_,c13',H11,f1,⟨rfl,rfl,rfl,rfl,⟨_,_,_,g3,rfl⟩,trivial⟩,fun _=>?_,fun z=>(by cases z)⟩
   exact j2 ok (f3.kold o1.rw_.row) g4.gn.row (f3.kold o2.rw_.row) g4.gp.row (by omega) (by omega) ⟨n5-(i+1),by omega,rfl,rfl,X',P++[x19],N,i+1,hi1,by omega,rfl,by omega,by omega,rfl,rfl,rfl,rfl,hXX,f3,o1.rw_,o2.rw_,g4.swap⟩
end
end Va
end Go.Proofs.Ytagpapnkiihlbaa
namespace Go.Proofs.Ytagpapnkiihlbaa
open Go.Ev Go.Ew Go.RowKit
namespace Va
theorem tys:tysOk Try.prog tyL:=by unfold tysOk; kernel_rfl
theorem mixed:Try.prog.follows .mixedOrders=true:=by kernel_rfl
theorem own:ownKnob Try.prog.godebug=none:=by kernel_rfl
def fnB6:List Nat:=[6,7,8,9,11,12,13,14,15]
def xtB6:List (Nat × Nat):=[]
theorem fnsB6:(fnsOf Try.prog fnB6).all (fnOk (envOf Try.prog tyL fnB6 plL xtB6))=true:=by kernel_rfl
theorem okB6:EnvOk (envOf Try.prog tyL fnB6 plL xtB6):=env_ok tys mixed fnsB6 (fun g hg=>by simp [xtB6] at hg) (fun g hg=>by simp [xtB6] at hg) (fun g hg=>by simp [xtB6] at hg)
theorem hereB6:(tget (envOf Try.prog tyL fnB6 plL xtB6).ff 6).isSome=true:=by kernel_rfl
set_option maxRecDepth 100000 in
theorem runsB6:saysTrue (callA (envOf Try.prog tyL fnB6 plL xtB6) (ev (envOf Try.prog tyL fnB6 plL xtB6) 100000) 6 [] ⟨.nil,0⟩)=true:=by kernel_rfl
theorem walkB6 (w:World):Calls Try.prog 6 #[] w fun e w'=>e = .returned (.bool true)/\Below w.heap.size w w':=by
 obtain ⟨fn,hfn⟩:=Option.isSome_iff_exists.1 hereB6
 exact law_true okB6 hfn (by unfold unkU; omega) runsB6 w
theorem nameB6 : (Try.f6.name == "runtime.NumGoroutine") = false := by kernel_rfl
theorem bodyB6:Try.f6.body.isNone=false:=by kernel_rfl
theorem enterB6 (w:World):(callFunc 6 #[]).run Try.prog w = .ok (.enter 6 #[]) w:=by
 simp only [callFunc,Sem.run_bind,run_program,Result.andThen_ok,Try.func6,nameB6,bodyB6,Bool.false_eq_true,if_false,Sem.run_pure]
theorem fns:(fnsOf Try.prog fnL).all (fnOk (env Try.prog))=true:=by kernel_rfl
theorem ok:EnvOk (env Try.prog):=env_ok tys mixed fns (fun g hg=>by simp [xtL] at hg) (fun g hg=>by simp [xtL] at hg) (fun g hg=>by
 have e:g=6:=by simpa [xtL] using hg
 subst e
 exact fun w=>⟨enterB6 w,walkB6 w⟩)
end Va
end Go.Proofs.Ytagpapnkiihlbaa
namespace Go.Ew
open Go.Ev Go.Deep Go.RowKit
def treeOf {α:Type} (f:Nat->Option α):Nat->BT (Option α)
 | 0=>.nil
 | n+1=>tset (treeOf f n) n (f n)
theorem tree_get {α:Type} (f:Nat->Option α):∀ n k,tget (treeOf f n) k=if k<n then f k else none
 | 0,k=>by simp [treeOf,tget]
 | n+1,k=>by
   rw [treeOf,tget_tset,tree_get f n]
   by_cases e:n=k
   .subst e; simp
   .rw [if_neg e]
    by_cases h:k<n
    .rw [if_pos h,if_pos (by omega)]
    .rw [if_neg h,if_neg (by omega)]
def absV (N:Nat):Value->Option Value
 | .pointer (some a)=>if a.spot=none/\a.block<N then some (.pointer (some a)) else none
 | .slice (some a) l c=>if a.spot=none/\a.block<N/\c<unkU then some (.slice (some a) l c) else if l=0 then some vague else none
 | v=>if isPlain v=true then some v else none
def thW (N:Nat):Th:=fun n=>if n<N then some (n,0,0) else none
theorem absV_S {N:Nat} {v u:Value} (h:absV N v=some u):S (thW N) u v:=by
 unfold absV at h
 split at h
 .rename_i a
  split at h
  .rename_i hq
   cases h
   refine ⟨hq.1,(a.block,0,0),by simp [thW,hq.2],?_⟩
   obtain ⟨b,o,sp⟩:=a
   obtain ⟨h1,h2⟩:=hq
   cases h1
   simp
  .cases h
 .rename_i a l c
  split at h
  .rename_i hq
   cases h
   obtain ⟨b,o,sp⟩:=a
   obtain ⟨h1,h2,h3⟩:=hq
   cases h1
   exact .inl ⟨rfl,(b,0,0),c,by simp only at h2; simp [thW,h2],.inl ⟨h3,rfl⟩,by simp⟩
  .split at h
   .rename_i hl
    cases h
    subst hl
    exact .inr ⟨by simp,rfl,Nat.le_refl _,_,_,rfl⟩
   .cases h
 .split at h
  .rename_i hp
   cases h
   exact S_plain hp
  .cases h
def bsz (w:World) (b:Nat):Nat:=match w.heap[b]? with
 | some (.cells c _ _)=>c.size
 | _=>0
def blkOf (w:World) (b:Nat) (i:Nat):Option Value:=match w.cell? ⟨b,i,none⟩ with
 | some v=>if w.frozen? ⟨b,i,none⟩=false then absV w.heap.size v else none
 | none=>none
def entW (w:World) (b:Nat):Ent:=⟨treeOf (blkOf w b) (bsz w b),0,roU,none⟩
def KW (w:World):KH:=fun b=>if b<w.heap.size then some (entW w b) else none
def snapW (w:World):Hp:=⟨treeOf (fun b=>some (entW w b)) w.heap.size,w.heap.size⟩
theorem snap_get (w:World) (k:Nat):tget (snapW w).m k=KW w k:=tree_get _ _ _
theorem KW_some {w:World} {k:Nat} {e:Ent} (h:KW w k=some e):k<w.heap.size/\e=entW w k:=by
 unfold KW at h
 split at h
 .rename_i q; cases h; exact ⟨q,rfl⟩
 .cases h
theorem HR_snap [LG] (w:World):HR (thW w.heap.size) (snapW w) w:=by
 refine ⟨fun n e x he hx=>?_,fun n m e e' x y h1 h2 hne h3 h4=>?_,fun n hn=>?_⟩
 .rw [snap_get] at he
  obtain ⟨h1,rfl⟩:=KW_some he
  have hx':x=(n,0,0):=by
   simp only [thW,if_pos h1,Option.some.injEq] at hx
   exact hx.symm
  subst hx'
  refine ⟨hx,h1,fun i v hi=>?_,fun o ho=>(by cases ho),fun hu=>⟨by simp [entW],fun i hi=>by simp at hi⟩⟩
  simp only [entW,tree_get] at hi
  split at hi
  .unfold blkOf at hi
   simp only [Nat.zero_add]
   cases hc:w.cell? ⟨n,i,none⟩ with
   | none=>rw [hc] at hi; cases hi
   | some u =>
     rw [hc] at hi
     simp only at hi
     split at hi
     .rename_i hf
      exact ⟨⟨u,rfl,absV_S hi⟩,hf⟩
     .cases hi
  .cases hi
 .unfold thW at h3 h4
  split at h3
  .split at h4
   .cases h3; cases h4; exact hne
   .cases h4
  .cases h3
 .have:¬ n<w.heap.size:=by have:w.heap.size<=n:=hn; omega
  simp [thW,this]
theorem cell_lt {w:World} {b o:Nat} {v:Value} (h:w.cell? ⟨b,o,none⟩=some v):b<w.heap.size/\o<bsz w b:=by
 unfold World.cell? at h
 unfold bsz
 cases hb:w.heap[b]? with
 | none=>simp [hb] at h
 | some ob =>
   refine ⟨(Array.getElem?_eq_some_iff.1 hb).1,?_⟩
   rw [hb] at h
   cases ob<;>simp at h ⊢
   rename_i c t fr
   exact (Array.getElem?_eq_some_iff.1 h).1
theorem KW_cell {w:World} {b o:Nat} {v u:Value} (h:w.cell? ⟨b,o,none⟩=some v) (hf:w.frozen? ⟨b,o,none⟩=false) (ha:absV w.heap.size v=some u):∃ e,KW w b=some e/\tget e.cells o=some u:=by
 obtain ⟨h1,h2⟩:=cell_lt h
 refine ⟨entW w b,by unfold KW; rw [if_pos h1],?_⟩
 simp only [entW,tree_get,if_pos h2]
 unfold blkOf
 rw [h]
 simp only [hf,if_true,ha]
theorem KW_ld {w:World} {b o:Nat} {v u:Value} (h:w.cell? ⟨b,o,none⟩=some v) (hf:w.frozen? ⟨b,o,none⟩=false) (ha:absV w.heap.size v=some u):ld (KW w) ⟨b,o,none⟩ [u]:=by
 obtain ⟨e,h1,h2⟩:=KW_cell h hf ha
 refine ⟨rfl,e,h1,?_⟩
 simp only [List.length_singleton,rd,h2]
theorem top {E:Env} (hE:EnvOk E) {g:Nat} {fn:Func} (hfn:tget E.ff g=some fn) {args cargs:List Value} {w:World} {v:Value} (hp:isPlain v=true) (hD:Does E g args (KW w) fun r _=>r=v) (ha:all2 (W (thW w.heap.size)) args cargs) :
 Calls E.P g cargs.toArray w fun e w'=>e = .returned v/\Below w.heap.size w w':=by
 letI:=lgOf E
 obtain ⟨r,h',H',⟨n,hrun⟩,hq,_⟩:=hD.run (snapW w) (fun k hk=>by
  rw [snap_get]
  have:¬ k<w.heap.size:=by have:w.heap.size<=k:=hk; omega
  simp [KW,this]) (fun k e q=>by rw [snap_get]; exact q)
 subst hq
 rcases (call_sound hE (lgOf_ok E) (ev_sound hE (lgOf_ok E) n) (snapW w) g args r h' (hrun n (Nat.le_refl _)) (thW w.heap.size) w cargs (HR_snap w) ha).1 hD.lt with ⟨_,h2⟩ | ⟨u,h1,_,_⟩
 .refine h2.mono fun e w' hq=>?_
  obtain ⟨θ',u,rfl,q1,q2,q3⟩:=hq
  rw [W_plain hp q3]
  refine ⟨rfl,q1.os,q1.tape,q1.output,q1.size,fun k hk=>q1.frame k hk fun n e x q hu _=>?_⟩
  rw [snap_get] at q
  obtain ⟨_,rfl⟩:=KW_some q
  exact absurd rfl hu
 .exfalso
  obtain ⟨f1,f2,c',f3,_⟩:=hE.ff g fn hfn
  have f2' : ¬ fn.name = "runtime.NumGoroutine" := fun e => by rw [e] at f2; simp at f2
  simp [callFunc,f1,f2',f3] at h1
section
variable {H : Type} {enc : TypeId × Value -> H} {P : Program} {w : World}
theorem cells_get {b n:Nat} {a:Addr} {cs:List Value} (h:w.cells? b a n=some cs):cs.length=n/\∀ i v,cs[i]? = some v->w.cell? (a.add i)=some v:=by
 unfold World.cells? at h
 split at h
 .refine ⟨by simpa using mapM_some_length h,fun i v hv=>?_⟩
  have hi:i<n:=by
   have:=mapM_some_length h
   rcases Nat.lt_or_ge i n with q | q
   .exact q
   .rw [List.getElem?_eq_none (by simp at this; omega)] at hv; cases hv
  have:=mapM_some_get h i i (by simp [hi])
  rw [this]; exact hv
 .cases h
theorem cell_spot {a:Addr} {v:Value} (h:w.cell? a=some v):a.spot=none:=by
 unfold World.cell? at h
 cases hs:a.spot with
 | none=>rfl
 | some s =>
   rw [hs] at h
   split at h<;>simp_all
theorem arg_slice {t e:TypeId} {v:Value} {d:DataW H} {ps:List MemPlace} (ht:P.underlying t=some (.slice e)) (he:P.cellsOf e=1) (h:DataW.Trod enc P w 0 (fun _=>true) true t v d ps) (hf:w.noneFrozen ps) (hv:∃ a l c,v = .slice a l c) :
 ∃ a n c,absV w.heap.size v=some (.slice a n c)/\∀ i,i<n->∃ b o x y m,a=some ⟨b,o,none⟩/\w.cell? ⟨b,o+i,none⟩=some x/\w.frozen? ⟨b,o+i,none⟩=false/\DataW.trod enc P w 0 (fun _=>true) true m e [x]=some y/\∀ p∈y.2,p∈ps:=by
 obtain ⟨fuel,hd⟩:=h
 obtain ⟨a0,l0,c0,rfl⟩:=hv
 have hcs:(Value.slice a0 l0 c0).cells.toList=[.slice a0 l0 c0]:=rfl
 rw [hcs] at hd
 rcases DataW.trod_slice ht hd with ⟨h1,h2⟩ | ⟨a,len,cap,elems,rest,n,_,h1,h2,_,h3,h4,h5,h6,_⟩
 .cases h1
  exact ⟨none,0,0,rfl,fun i hi=>by omega⟩
 .cases h1
  simp only [Prod.mk.injEq] at h2
  obtain ⟨rfl,rfl⟩:=h2
  have hmax:maxLen<unkU:=by decide
  by_cases hl:l0=0
  .subst hl
   have hab:absV w.heap.size (.slice (some a) 0 c0)=if a.spot=none/\a.block<w.heap.size/\c0<unkU then some (.slice (some a) 0 c0) else if 0=0 then some vague else none:=rfl
   by_cases hq:a.spot=none/\a.block<w.heap.size/\c0<unkU
   .rw [if_pos hq] at hab
    exact ⟨_,_,_,hab,fun i hi=>by omega⟩
   .rw [if_neg hq,if_pos rfl] at hab
    exact ⟨_,_,_,hab,fun i hi=>by omega⟩
  .have elem:∀ i,i<l0->∃ x y,w.cell? (a.add i)=some x/\DataW.trod enc P w 0 (fun _=>true) true n e [x]=some y/\y∈elems:=by
    intro i hi
    have h7:=h6 i hi
    rw [List.getElem?_eq_getElem (by omega)] at h7
    obtain ⟨cs,k1,k2⟩:=Option.bind_eq_some_iff.1 h7
    obtain ⟨k3,k4⟩:=cells_get k1
    rw [he] at k3 k4
    match cs,k3 with
    | [x],_ =>
      have k5:=k4 0 x rfl
      have e1:(a.add (i*1)).add 0=a.add i:=by
       rw [Nat.mul_one]
       generalize a.add i=z
       obtain ⟨b,o,sp⟩:=z
       unfold Addr.add
       simp
      rw [e1] at k5
      exact ⟨x,_,k5,k2,List.getElem_mem _⟩
   obtain ⟨x0,_,c1,_,_⟩:=elem 0 (by omega)
   have hs:a.spot=none:=by
    have:=cell_spot c1
    obtain ⟨b,o,sp⟩:=a
    unfold Addr.add at this
    simpa using this
   obtain ⟨b,o,sp⟩:=a
   cases hs
   rw [add_addr] at c1
   have hb:=(cell_lt c1).1
   have hcu:c0<unkU:=by omega
   refine ⟨some ⟨b,o,none⟩,l0,c0,by simp [absV,hb,hcu],fun i hi=>?_⟩
   obtain ⟨x,y,k1,k2,k3⟩:=elem i hi
   rw [add_addr] at k1
   refine ⟨b,o,x,y,n,rfl,k1,hf b (o+i) ?_,k2,fun p hp=>?_⟩
   .refine List.mem_append_left _ ?_
    unfold MemPlace.row
    rw [he,Nat.mul_one]
    exact List.mem_map.2 ⟨i,by simp; omega,rfl⟩
   .refine List.mem_append_right _ (List.mem_flatMap.2 ⟨y,by simp [k3],hp⟩)
theorem trod_int {t:TypeId} {k:IntKind} {x:Value} {m:Nat} {y:DataW H × List MemPlace} (ht:P.underlying t=some (.int k)) (h:DataW.trod enc P w 0 (fun _=>true) true m t [x]=some y):∃ n,x = .int k n/\(Lit.int k n).wf=true/\y=(.lit (.int k n),[]):=by
 cases m with
 | zero=>simp [DataW.trod] at h
 | succ m =>
   unfold DataW.trod at h
   rw [ht] at h
   cases x<;>simp at h
   rename_i k' n
   obtain ⟨⟨rfl,h2⟩,h3⟩:=h
   exact ⟨n,rfl,h2,h3.symm⟩
theorem trodAll_below {W W':World} (hl:laidOutB P=true) (hb:Below W.heap.size W W'):∀ (ts:List TypeId) (vs:List Value) (ds:List (DataW H)) (ps:List MemPlace),(∀ t∈ts,P.readableRec t=true/\t<P.types.size)->
 DataW.TrodAll enc P W 0 (fun _=>true) true ts vs ds ps->(∀ x∈ps,x.block<W.heap.size)->DataW.TrodAll enc P W' 0 (fun b=>decide (b<W.heap.size)) true ts vs ds ps
 | [],[],[],ps,_,h,_=>h
 | t :: ts,v :: vs,d :: ds,ps,ht,⟨p,q,h1,h2,h3⟩,hlt=>by
   subst h3
   exact ⟨p,q,Below.trod hl (ht t (by simp)).1 (ht t (by simp)).2 h1 hb (fun x hx=>hlt x (by simp [hx])),trodAll_below hl hb ts vs ds q (fun t' h'=>ht t' (by simp [h'])) h2 (fun x hx=>hlt x (by simp [hx])),rfl⟩
 | [],_ :: _,_,_,_,h,_=>by cases h
 | [],[],_ :: _,_,_,h,_=>by cases h
 | _ :: _,[],_,_,_,h,_=>by cases h
 | _ :: _,_ :: _,[],_,_,h,_=>by cases h
theorem arg_u8 {t e:TypeId} {v:Value} {d:DataW H} {ps:List MemPlace} (ht:P.underlying t=some (.slice e)) (he:P.cellsOf e=1) (hu:P.underlying e=some (.int .u8)) (h:DataW.Trod enc P w 0 (fun _=>true) true t v d ps) (hf:w.noneFrozen ps) (hv:∃ a l c,v = .slice a l c) :
 ∃ a n c,absV w.heap.size v=some (.slice a n c)/\∀ i,i<n->∃ b o x,a=some ⟨b,o,none⟩/\ld (KW w) ⟨b,o+i,none⟩ [.int .u8 x]/\0<=x/\x<=255:=by
 obtain ⟨a,n,c,h1,h2⟩:=arg_slice ht he h hf hv
 refine ⟨a,n,c,h1,fun i hi=>?_⟩
 obtain ⟨b,o,x,y,m,k1,k2,k3,k4,_⟩:=h2 i hi
 obtain ⟨z,rfl,hz,_⟩:=trod_int hu k4
 refine ⟨b,o,z,k1,KW_ld k2 k3 rfl,?_⟩
 simp only [Lit.wf,Bool.and_eq_true,decide_eq_true_eq] at hz
 have e1:IntKind.min .u8=0:=by decide
 have e2:IntKind.max .u8=255:=by decide
 omega
theorem absV_W {N:Nat} {v u:Value} (h:absV N v=some u):W (thW N) u v:=W_of_S (absV_S h)
theorem arg_byte {t:TypeId} {v:Value} {d:DataW H} {ps:List MemPlace} (ht:P.underlying t=some (.int .u8)) (h:DataW.Trod enc P w 0 (fun _=>true) true t v d ps) (hv:∃ n,v = .int .u8 n):∃ n:Nat,v = .int .u8 n/\n<=255:=by
 obtain ⟨m,rfl⟩:=hv
 obtain ⟨fuel,hd⟩:=h
 obtain ⟨z,e,hz,_⟩:=trod_int ht hd
 cases e
 simp only [Lit.wf,Bool.and_eq_true,decide_eq_true_eq] at hz
 have e1:IntKind.min .u8=0:=by decide
 have e2:IntKind.max .u8=255:=by decide
 exact ⟨m.toNat,by congr 1; omega,by omega⟩
theorem arg_ints {t e:TypeId} {v:Value} {d:DataW H} {ps:List MemPlace} (ht:P.underlying t=some (.slice e)) (he:P.cellsOf e=1) (hu:P.underlying e=some (.int .i64)) (h:DataW.Trod enc P w 0 (fun _=>true) true t v d ps) (hf:w.noneFrozen ps) (hv:∃ a l c,v = .slice a l c) :
 ∃ a c,∃ l:List Int,absV w.heap.size v=some (.slice a l.length c)/\(∀ i (hi:i<l.length),∃ b o,a=some ⟨b,o,none⟩/\ld (KW w) ⟨b,o+i*1,none⟩ [.int .i64 l[i]])/\∀ x∈l,IntKind.min .i64<=x/\x<=IntKind.max .i64:=by
 obtain ⟨a,n,c,h1,h2⟩:=arg_slice ht he h hf hv
 have hx:∀ i:Fin n,∃ x:Int,(∃ b o,a=some ⟨b,o,none⟩/\ld (KW w) ⟨b,o+i.1*1,none⟩ [.int .i64 x])/\IntKind.min .i64<=x/\x<=IntKind.max .i64:=fun i=>by
  obtain ⟨b,o,x,y,m,k1,k2,k3,k4,_⟩:=h2 i.1 i.2
  obtain ⟨z,rfl,hz,_⟩:=trod_int hu k4
  simp only [Lit.wf,Bool.and_eq_true,decide_eq_true_eq] at hz
  refine ⟨z,⟨b,o,k1,?_⟩,hz.1,hz.2⟩
  rw [Nat.mul_one]
  exact KW_ld k2 k3 rfl
 refine ⟨a,c,List.ofFn fun i=>(hx i).choose,by rw [List.length_ofFn]; exact h1,fun i hi=>?_,fun x hm=>?_⟩
 .rw [List.length_ofFn] at hi
  have:=(hx ⟨i,hi⟩).choose_spec.1
  simpa using this
 .obtain ⟨i,rfl⟩:=List.mem_ofFn.1 hm
  exact (hx i).choose_spec.2
end
end Go.Ew
