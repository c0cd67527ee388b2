import Derived.Test.YtibkijpnkmccpaaEwVc1
import Derived.Test.YtibkijpnkmccpaaEwS4
import Derived.Test.YtibkijpnkmccpaaEwFiB
set_option linter.unusedVariables false
set_option maxRecDepth 100000
namespace Go.Proofs.Ytibkijpnkmccpaa
open Go.Ev Go.Ew
namespace Va
def W3 (P:Program):WE:=⟨env P,tupT,[],mkTab [(6,[.tmp 5 .slice,.tmp 6 (.int .i64),.tmp 7 .slice,.tmp 9 .slice,.tmp 12 (.int .i64),.tmp 13 (.int .i64)]),(4,[.tmp 5 .slice,.tmp 6 (.int .i64),.tmp 7 .slice,.tmp 9 .slice,.tmp 12 (.int .i64)]),(2,[.tmp 5 .slice,.tmp 6 (.int .i64),.tmp 7 .slice,.tmp 8 .slice,.tmp 9 .slice,.tmp 10 .slice,.tmp 11 (.int .i64)]),(0,[.tmp 5 .slice,.tmp 6 (.int .i64)])],3⟩
def vc3_L2 (y1:OA) (y2 y3:Nat) (y4:Int) (y5:OA) (y6 y7:Nat) (y8:OA) (y9 y10:Nat) (y11:Int) (y12:KH) (y13:PQ) (y14:Nat) (y15:(Nat->(OA->(Nat->(Nat->(Int->(OA->(Nat->(Nat->(OA->(Nat->(Nat->(Int->(KH->Prop)))))))))))))):Prop :=
 (∃ (h:(Nat->OA->Nat->Nat->Int->OA->Nat->Nat->OA->Nat->Nat->Int->Int->KH->Prop)),(∃ (ai:Nat),h ai y1 y2 y3 y4 y5 y6 y7 y8 y9 y10 y11 0 y12)/\∀ (r:Nat) (i:(OA)) (j k:Nat) (l:Int) (f:(OA)) (g m:Nat) (d:(OA)) (e n:Nat) (a:Int),∀ (b:Int) (c:KH),h r i j k l f g m d e n a b c->((0:Int)<=a/\a<(e:Int))/\∃ (s t:Nat),d=some ⟨s,t,none⟩/\∃ (aj:(OA)) (o ak:Nat),ld c ⟨s,t+((Int.toNat a)*1),none⟩ [(.slice aj o ak)]/\(decide (b<(o:Int))=true->True/\((0:Int)<=a/\a<(g:Int))/\∃ (u v:Nat),f=some ⟨u,v,none⟩/\∃ (w:(OA)) (x al:Nat),ld c ⟨u,v+((Int.toNat a)*1),none⟩ [(.slice w x al)]/\((0:Int)<=b/\b<(x:Int))/\∃ (y z:Nat),w=some ⟨y,z,none⟩/\∃ (p:Int),ld c ⟨y,z+((Int.toNat b)*1),none⟩ [(.int .i64 p)]/\((0:Int)<=a/\a<(e:Int))/\∃ (aa ab:Nat),d=some ⟨aa,ab,none⟩/\∃ (ac:(OA)) (ad am:Nat),ld c ⟨aa,ab+((Int.toNat a)*1),none⟩ [(.slice ac ad am)]/\((0:Int)<=b/\b<(ad:Int))/\∃ (ae af:Nat),ac=some ⟨ae,af,none⟩/\∃ (q:Int),ld c ⟨ae,af+((Int.toNat b)*1),none⟩ [(.int .i64 q)]/\(decide (p≠q)=true->y13 (.bool false) c)/\(decide (p≠q)=false->∃ (ag:Nat),(ag:Nat)<r/\h ag i j k l f g m d e n a (IntKind.wrap .i64 (b+1)) c))/\(decide (b<(o:Int))=false->∃ (ah:Nat),(ah:Nat)<y14/\y15 ah i j k l f g m d e n (IntKind.wrap .i64 (a+1)) c))
def vc3_L4 (y1:OA) (y2 y3:Nat) (y4:Int) (y5:OA) (y6 y7:Nat) (y8:OA) (y9 y10:Nat) (y11:KH) (y12:PQ) (y13:Nat) (y14:(Nat->(OA->(Nat->(Nat->(Int->(KH->Prop))))))):Prop :=
 (∃ (d:(Nat->OA->Nat->Nat->Int->OA->Nat->Nat->OA->Nat->Nat->Int->KH->Prop)),(∃ (v:Nat),d v y1 y2 y3 y4 y5 y6 y7 y8 y9 y10 0 y11)/\∀ (n:Nat) (e:(OA)) (f g:Nat) (h:Int) (i:(OA)) (j o:Nat) (k:(OA)) (c p:Nat) (a:Int),∀ (b:KH),d n e f g h i j o k c p a b->(decide (a<(c:Int))=true->True/\((0:Int)<=a/\a<(j:Int))/\∃ (q r:Nat),i=some ⟨q,r,none⟩/\∃ (w:(OA)) (l x:Nat),ld b ⟨q,r+((Int.toNat a)*1),none⟩ [(.slice w l x)]/\((0:Int)<=a/\a<(c:Int))/\∃ (s t:Nat),k=some ⟨s,t,none⟩/\∃ (y:(OA)) (m z:Nat),ld b ⟨s,t+((Int.toNat a)*1),none⟩ [(.slice y m z)]/\(decide ((l:Int)≠(m:Int))=true->y12 (.bool false) b)/\(decide ((l:Int)≠(m:Int))=false->vc3_L2 e f g h i j o k c p a b y12 n d))/\(decide (a<(c:Int))=false->∃ (u:Nat),(u:Nat)<y13/\y14 u e f g (IntKind.wrap .i64 (h+1)) b))
def vc3_L5 (y1:OA) (y2 y3:Nat) (y4:Int) (y5:OA) (y6 y7:Nat) (y8:OA) (y9 y10:Nat) (y11:OA) (y12 y13:Nat) (y14:OA) (y15 y16:Nat) (y17:KH) (y18:PQ) (y19:Nat) (y20:(Nat->(OA->(Nat->(Nat->(Int->(KH->Prop))))))):Prop :=
 (∃ (d:(Nat->OA->Nat->Nat->Int->OA->Nat->Nat->OA->Nat->Nat->OA->Nat->Nat->OA->Nat->Nat->Int->KH->Prop)),(∃ (ah:Nat),d ah y1 y2 y3 y4 y5 y6 y7 y8 y9 y10 y11 y12 y13 y14 y15 y16 0 y17)/\∀ (z:Nat) (e:(OA)) (f g:Nat) (h:Int) (i:(OA)) (j k:Nat) (l:(OA)) (m aa:Nat) (n:(OA)),∀ (o p:Nat) (q:(OA)) (c ab:Nat) (a:Int) (b:KH),d z e f g h i j k l m aa n o p q c ab a b->(decide (a<(c:Int))=true->True/\((0:Int)<=a/\a<(m:Int))/\∃ (ac ad:Nat),l=some ⟨ac,ad,none⟩/\∃ (r s t u:Int),ld b ⟨ac,ad+((Int.toNat a)*4),none⟩ [.int .i64 r,.int .i64 s,.int .i64 t,.int .i64 u]/\((0:Int)<=a/\a<(c:Int))/\∃ (ae af:Nat),q=some ⟨ae,af,none⟩/\∃ (v w x y:Int),ld b ⟨ae,af+((Int.toNat a)*4),none⟩ [.int .i64 v,.int .i64 w,.int .i64 x,.int .i64 y]/\(((!((decide (r=v))&&((decide (s=w))&&((decide (t=x))&&((decide (u=y))&&true))))):Bool)=true->y18 (.bool false) b)/\(((!((decide (r=v))&&((decide (s=w))&&((decide (t=x))&&((decide (u=y))&&true))))):Bool)=false->∃ (ag:Nat),(ag:Nat)<z/\d ag e f g h i j k l m aa n o p q c ab (IntKind.wrap .i64 (a+1)) b))/\(decide (a<(c:Int))=false->vc3_L4 e f g h i j k n o p b y18 y19 y20))
def vc3_L7 (y1:Nat) (y2:KH) (y3:OA) (y4 y5:Nat) (y6:OA) (y7 y8:Nat) (y9:OA) (y10 y11:Nat) (y12:OA) (y13 y14:Nat) (y15:OA) (y16 y17:Nat) (y18:OA) (y19 y20:Nat) (y21:PQ):Prop :=
 (∃ (i:(Nat->OA->Nat->Nat->Int->KH->Prop)),(∃ (ar:Nat),i ar (some ⟨y1,0,none⟩) 2 2 0 (KH.new y2 y1 (mkEnt [.slice y3 y4 y5,.slice y6 y7 y8,.slice y9 y10 y11,.slice y12 y13 y14,.slice y15 y16 y17,.slice y18 y19 y20] 0)))/\∀ (k:Nat) (b:(OA)) (c l:Nat) (a:Int) (d:KH),i k b c l a d->(decide (a<2)=true->((0:Int)<=a/\a<(c:Int))/\∃ (m n:Nat),b=some ⟨m,n,none⟩/\∃ (o:(OA)) (p q:Nat) (r:(OA)) (s t:Nat) (u:(OA)) (v w:Nat),ld d ⟨m,n+((Int.toNat a)*3),none⟩ [.slice o p q,.slice r s t,.slice u v w]/\Does (env Try.prog) 11 [(.agg #[.slice o p q,.slice r s t,.slice u v w])] d fun au aq=>∃ (x:(OA)) (e y:Nat) (z:(OA)) (f aa:Nat),au=(.tuple #[.slice x e y,.slice z f aa])/\((0:Int)<=a/\a<(c:Int))/\∃ (ab ac:Nat),b=some ⟨ab,ac,none⟩/\∃ (ad:(OA)) (ae af:Nat) (ag:(OA)) (ah ai:Nat) (aj:(OA)) (ak al:Nat),ld aq ⟨ab,ac+((Int.toNat a)*3),none⟩ [.slice ad ae af,.slice ag ah ai,.slice aj ak al]/\Does (env Try.prog) 12 [(.agg #[.slice ad ae af,.slice ag ah ai,.slice aj ak al])] aq fun av j=>∃ (am:(OA)) (g an:Nat) (ao:(OA)) (h ap:Nat),av=(.tuple #[.slice am g an,.slice ao h ap])/\(decide ((e:Int)≠(g:Int))=true->y21 (.bool false) j)/\(decide ((e:Int)≠(g:Int))=false->(decide ((f:Int)≠(h:Int))=true->y21 (.bool false) j)/\(decide ((f:Int)≠(h:Int))=false->vc3_L5 b c l a x e y z f aa am g an ao h ap j y21 k i)))/\(decide (a<2)=false->y21 (.bool true) d))
def vc3 (p0:OA) (p0n p0c:Nat) (p1:Int) (H:KH) (Q:PQ):Prop :=
 Does (env Try.prog) 7 [] H fun y b=>∃ (a:Bool),y=(.bool a)/\((!a)=true->Q (.bool false) b)/\((!a)=false->(decide ((150:Int)<(p0n:Int))=true->Q (.bool true) b)/\(decide ((150:Int)<(p0n:Int))=false->Does (env Try.prog) 8 [(.slice p0 p0n p0c)] b fun z aa=>∃ (c d:Nat),z=(.pointer (some ⟨c,d,none⟩))/\Does (env Try.prog) 9 [(.pointer (some ⟨c,d,none⟩))] aa fun ab ac=>∃ (e:(OA)) (f g:Nat) (h:(OA)) (i j:Nat) (k:(OA)) (l m:Nat),ab=(.agg #[.slice e f g,.slice h i j,.slice k l m])/\Does (env Try.prog) 10 [(.int .i64 (IntKind.wrap .i64 p1))] ac fun ad x=>∃ (n:(OA)) (o p:Nat) (q:(OA)) (r s:Nat) (t:(OA)) (u v:Nat),ad=(.agg #[.slice n o p,.slice q r s,.slice t u v])/\∀ (w:Nat),((x w):(Option (Ent)))=none->vc3_L7 w x e f g h i j k l m n o p q r s t u v Q))
theorem fn3 (ok:EnvOk (env Try.prog)) {p0:OA} {p0n p0c:Nat} {p1:Int} {H:KH} {Q:PQ} (h:vc3 p0 p0n p0c p1 H Q):Does (env Try.prog) 3 [.slice p0 p0n p0c,.int .u8 p1] H Q :=
 wFun_sound (W:=W3 Try.prog) ok.tt (blt_lt (by kernel_rfl)) (ff_of ok (by kernel_rfl) Try.func3) (Eq.mpr (by kernel_rfl) h)
def W4 (P:Program):WE:=⟨env P,tupT,[5,7,8,9],mkTab [(2,[.ref 5 5 0,.box 5 [.slice none 0 0,.slice none 0 0,.slice none 0 0],.ref 7 7 0,.box 7 [.int .i64 0,.slice none 0 0,.slice none 0 0],.tmp 10 .bool,.tmp 13 .slice,.tmp 14 .bool,.tmp 15 (.int .i64)]),(0,[.ref 5 5 0,.box 5 [.slice none 0 0,.slice none 0 0,.slice none 0 0],.tmp 6 (.int .i64),.ref 7 7 0,.box 7 [.int .i64 0,.slice none 0 0,.slice none 0 0],.ref 8 8 0,.box 8 [.slice none 0 0,.slice none 0 0,.slice none 0 0],.ref 9 9 0,.box 9 [.slice none 0 0,.slice none 0 0,.slice none 0 0],.tmp 10 .bool,.tmp 11 (.int .i64)])],4⟩
def vc4_L2 (y1:OA) (y2 y3:Nat) (y4:OA) (y5 y6:Nat) (y7:OA) (y8 y9:Nat) (y10:Int) (y11:OA) (y12 y13:Nat) (y14:OA) (y15 y16:Nat) (y17:Bool) (y18:OA) (y19 y20:Nat) (y21:KH) (y22:PQ):Prop :=
 (∃ (f:(Nat->OA->Nat->Nat->OA->Nat->Nat->OA->Nat->Nat->Int->OA->Nat->Nat->OA->Nat->Nat->Bool->OA->Nat->Nat->Bool->Int->KH->Prop)),(∃ (ai:Nat),f ai y1 y2 y3 y4 y5 y6 y7 y8 y9 y10 y11 y12 y13 y14 y15 y16 y17 y18 y19 y20 false 0 y21)/\∀ (i:Nat) (j:(OA)) (k l:Nat) (m:(OA)) (n o:Nat) (p:(OA)) (d q:Nat) (g:Int) (r:(OA)),∀ (s t:Nat) (u:(OA)) (v w:Nat) (h:Bool) (e:(OA)) (b x:Nat) (y:Bool) (a:Int) (c:KH),f i j k l m n o p d q g r s t u v w h e b x y a c->(decide (a<(b:Int))=true->True/\(y=true->∃ (aa:Nat),(aa:Nat)<i/\f aa j k l m n o p d q g r s t u v w h e b x true (IntKind.wrap .i64 (a+1)) c)/\(y=false->((0:Int)<=a/\a<(b:Int))/\∃ (ab ac:Nat),e=some ⟨ab,ac,none⟩/\(none:(Option Nat))=none/\∃ (z:Int),ld c ⟨ab,(ac+((Int.toNat a)*4))+3,none⟩ [(.int .i64 z)]/\(decide (z=(d:Int))=true->((0:Int)<=a/\a<(b:Int))/\∃ (ad ae:Nat),e=some ⟨ad,ae,none⟩/\(none:(Option Nat))=none/\∃ (af:Int),ld c ⟨ad,(ae+((Int.toNat a)*4))+0,none⟩ [(.int .i64 af)]/\∃ (ag:Nat),(ag:Nat)<i/\f ag j k l m n o p d q g r s t u v w h e b x (decide (af=g)) (IntKind.wrap .i64 (a+1)) c)/\(decide (z=(d:Int))=false->∃ (ah:Nat),(ah:Nat)<i/\f ah j k l m n o p d q g r s t u v w h e b x false (IntKind.wrap .i64 (a+1)) c)))/\(decide (a<(b:Int))=false->y22 (.bool (y == h)) c))
def vc4_L4 (y1:OA) (y2 y3:Nat) (y4:OA) (y5 y6:Nat) (y7:OA) (y8 y9:Nat) (y10 y11:Int) (y12:OA) (y13 y14:Nat) (y15:OA) (y16 y17:Nat) (y18:OA) (y19 y20:Nat) (y21:OA) (y22 y23:Nat) (y24:OA) (y25 y26:Nat) (y27:OA) (y28 y29:Nat) (y30:KH) (y31:PQ):Prop :=
 (∃ (k:(Nat->OA->Nat->Nat->OA->Nat->Nat->OA->Nat->Nat->Int->Int->OA->Nat->Nat->OA->Nat->Nat->OA->Nat->Nat->OA->Nat->Nat->OA->Nat->Nat->OA->Nat->Nat->OA->Nat->Nat->OA->Nat->Nat->Bool->Int->KH->Prop)),(∃ (aw:Nat),k aw y1 y2 y3 y4 y5 y6 y7 y8 y9 (Int.tmod (IntKind.wrap .i64 y10) (y8:Int)) y11 y12 y13 y14 y15 y16 y17 y1 y2 y3 y4 y5 y6 y18 y19 y20 y21 y22 y23 y24 y25 y26 y27 y28 y29 false 0 y30)/\∀ (an:Nat) (c:(OA)) (a d:Nat) (e:(OA)) (f g:Nat) (h:(OA)) (i j:Nat) (l m:Int),∀ (n:(OA)) (o p:Nat) (q:(OA)) (r s:Nat) (t:(OA)) (u v:Nat) (w:(OA)) (x y:Nat),∀ (z:(OA)) (aa ab:Nat) (ac:(OA)) (ad ae:Nat) (af:(OA)) (ag ah:Nat) (ai:(OA)) (aj ak:Nat),∀ (al:Bool) (b:Int) (am:KH),k an c a d e f g h i j l m n o p q r s t u v w x y z aa ab ac ad ae af ag ah ai aj ak al b am->(decide (b<=(a:Int))=true->(al=true->∃ (ao:Nat),(ao:Nat)<an/\k ao c a d e f g h i j l m n o p q r s t u v w x y z aa ab ac ad ae af ag ah ai aj ak true (IntKind.wrap .i64 (b+1)) am)/\(al=false->Does (env Try.prog) 14 [.agg #[.slice ac ad ae,.slice af ag ah,.slice ai aj ak],.agg #[.slice c a d,.slice e f g,.slice h i j],.int .i64 l,.int .i64 b] am fun ba bb=>∃ (ap:Bool),ba=(.bool ap)/\∃ (aq:Nat),(aq:Nat)<an/\k aq c a d e f g h i j l m n o p q r s t u v w x y z aa ab ac ad ae af ag ah ai aj ak ap (IntKind.wrap .i64 (b+1)) bb))/\(decide (b<=(a:Int))=false->Does (env Try.prog) 11 [(.agg #[.slice t u v,.slice w x y,.slice z aa ab])] am fun bc bd=>∃ (ax:(OA)) (ay az:Nat) (ar:(OA)) (au av:Nat),bc=(.tuple #[.slice ax ay az,.slice ar au av])/\vc4_L2 c a d e f g h i j m n o p q r s al ar au av bd y31))
def vc4 (p0:OA) (p0n p0c:Nat) (p1:Int) (H:KH) (Q:PQ):Prop :=
 Does (env Try.prog) 7 [] H fun ay v=>∃ (o:Bool),ay=(.bool o)/\((!o)=true->Q (.bool false) v)/\((!o)=false->(decide ((150:Int)<(p0n:Int))=true->Q (.bool true) v)/\(decide ((150:Int)<(p0n:Int))=false->Does (env Try.prog) 8 [(.slice p0 p0n p0c)] v fun az ba=>∃ (w x:Nat),az=(.pointer (some ⟨w,x,none⟩))/\Does (env Try.prog) 9 [(.pointer (some ⟨w,x,none⟩))] ba fun bb j=>∃ (p:(OA)) (q r:Nat) (s:(OA)) (t u:Nat) (l:(OA)) (b n:Nat),bb=(.agg #[.slice p q r,.slice s t u,.slice l b n])/\(b:Int)≠0/\((0:Int)<=(Int.tmod (IntKind.wrap .i64 p1) (b:Int))/\((Int.tmod (IntKind.wrap .i64 p1) (b:Int)):Int)<(b:Int))/\∃ (y z:Nat),l=some ⟨y,z,none⟩/\∃ (c:Int) (d:(OA)) (e f:Nat) (g:(OA)) (h i:Nat),ld j ⟨y,z+((Int.toNat (Int.tmod (IntKind.wrap .i64 p1) (b:Int)))*3),none⟩ [.int .i64 c,.slice d e f,.slice g h i]/\(decide ((16:Int)<=(b:Int))=true->Q (.bool true) j)/\(decide ((16:Int)<=(b:Int))=false->True/\∀ (k:Nat),((j k):(Option (Ent)))=none->∀ (a:Nat),(((KH.new j k (mkEnt (lrep [.int .i64 0,.slice none 0 0,.slice none 0 0] 0) 0)) a):(Option (Ent)))=none->∀ (aa:Nat),(((KH.new (KH.new j k (mkEnt (lrep [.int .i64 0,.slice none 0 0,.slice none 0 0] 0) 0)) a (mkEnt [.int .i64 c,.slice d e f,.slice g h i] 0)) aa):(Option (Ent)))=none->∃ (ab:Nat) (ac:(List Value)),((knew (hideK (KH.new (KH.new j k (mkEnt (lrep [.int .i64 0,.slice none 0 0,.slice none 0 0] 0) 0)) a (mkEnt [.int .i64 c,.slice d e f,.slice g h i] 0)) [a]) ⟨3,56,true,3,0,0,[(0,1),(1,1),(2,1)],[.int .i64 0,.slice none 0 0,.slice none 0 0]⟩ (.slice l b n)):(Option (Nat × (List Value))))=(some (ab,ac))/\∃ (ad:(OA)) (ae af:Nat) (m:KH),((kappend (hideK (KH.new (KH.new j k (mkEnt (lrep [.int .i64 0,.slice none 0 0,.slice none 0 0] 0) 0)) a (mkEnt [.int .i64 c,.slice d e f,.slice g h i] 0)) [a]) aa ⟨3,56,true,3,0,0,[(0,1),(1,1),(2,1)],[.int .i64 0,.slice none 0 0,.slice none 0 0]⟩ (some ⟨k,0,none⟩) 0 0 ab ac):(Option (Value × KH)))=(some (.slice ad ae af,m))/\(((m a):(Option (Ent)))=none->(((.agg #[.int .i64 c,.slice d e f,.slice g h i]):Value)=(.agg #[.int .i64 c,.slice d e f,.slice g h i])/\True)/\∀ (ag:Nat),(((backK (KH.new (KH.new j k (mkEnt (lrep [.int .i64 0,.slice none 0 0,.slice none 0 0] 0) 0)) a (mkEnt [.int .i64 c,.slice d e f,.slice g h i] 0)) m [a]) ag):(Option (Ent)))=none->∃ (ah:Nat) (ai:(List Value)),((knew (backK (KH.new (KH.new j k (mkEnt (lrep [.int .i64 0,.slice none 0 0,.slice none 0 0] 0) 0)) a (mkEnt [.int .i64 c,.slice d e f,.slice g h i] 0)) m [a]) ⟨3,56,true,3,0,0,[(0,1),(1,1),(2,1)],[.int .i64 0,.slice none 0 0,.slice none 0 0]⟩ (.slice (some ⟨a,0,none⟩) 1 1)):(Option (Nat × (List Value))))=(some (ah,ai))/\∃ (aj:(OA)) (ak al:Nat) (am:KH),((kappend (backK (KH.new (KH.new j k (mkEnt (lrep [.int .i64 0,.slice none 0 0,.slice none 0 0] 0) 0)) a (mkEnt [.int .i64 c,.slice d e f,.slice g h i] 0)) m [a]) ag ⟨3,56,true,3,0,0,[(0,1),(1,1),(2,1)],[.int .i64 0,.slice none 0 0,.slice none 0 0]⟩ ad ae af ah ai):(Option (Value × KH)))=(some (.slice aj ak al,am))/\True/\True/\Does (env Try.prog) 13 [(.agg #[.slice p q r,.slice s t u,.slice l b n])] am fun bc bd=>∃ (an:(OA)) (ao ap:Nat) (aq:(OA)) (ar au:Nat) (av:(OA)) (aw ax:Nat),bc=(.agg #[.slice an ao ap,.slice aq ar au,.slice av aw ax])/\vc4_L4 p q r s t u l b n p1 c d e f g h i aj ak al an ao ap aq ar au av aw ax bd Q))))
theorem fn4 (ok:EnvOk (env Try.prog)) {p0:OA} {p0n p0c:Nat} {p1:Int} {H:KH} {Q:PQ} (h:vc4 p0 p0n p0c p1 H Q):Does (env Try.prog) 4 [.slice p0 p0n p0c,.int .u8 p1] H Q :=
 wFun_sound (W:=W4 Try.prog) ok.tt (blt_lt (by kernel_rfl)) (ff_of ok (by kernel_rfl) Try.func4) (Eq.mpr (by kernel_rfl) h)
def W6 (P:Program):WE:=⟨env P,tupT,[3,10],mkTab [(4,[.ref 3 3 0,.box 3 [.slice none 0 0,.slice none 0 0,.slice none 0 0],.tmp 4 .slice,.tmp 5 .slice,.tmp 9 (.int .i64)]),(2,[.ref 3 3 0,.box 3 [.slice none 0 0,.slice none 0 0,.slice none 0 0],.tmp 4 .slice,.tmp 5 .slice,.tmp 6 (.int .i64),.tmp 7 (.int .i64)]),(0,[.ref 3 3 0,.box 3 [.slice none 0 0,.slice none 0 0,.slice none 0 0],.tmp 4 .slice,.tmp 5 .slice,.tmp 6 (.int .i64)])],6⟩
def vc6_L1 (y1:OA) (y2 y3:Nat) (y4:OA) (y5 y6:Nat) (y7:OA) (y8 y9:Nat) (y10:OA) (y11 y12:Nat) (y13:OA) (y14 y15:Nat) (y16:Int) (y17:KH) (y18:PQ) (y19:Nat) (y20:(Nat->(OA->(Nat->(Nat->(OA->(Nat->(Nat->(OA->(Nat->(Nat->(OA->(Nat->(Nat->(OA->(Nat->(Nat->(Int->(KH->Prop))))))))))))))))))):Prop :=
 (∃ (i:(Nat->OA->Nat->Nat->OA->Nat->Nat->OA->Nat->Nat->OA->Nat->Nat->OA->Nat->Nat->Int->Int->KH->Prop)),(∃ (ak:Nat),i ak y1 y2 y3 y4 y5 y6 y7 y8 y9 y10 y11 y12 y13 y14 y15 y16 0 y17)/\∀ (u:Nat) (j:(OA)) (k l:Nat) (m:(OA)) (n o:Nat) (h:(OA)) (e p:Nat) (f:(OA)) (g:Nat),∀ (q:Nat) (r:(OA)) (s t:Nat) (a d:Int) (b:KH),i u j k l m n o h e p f g q r s t a d b->((0:Int)<=a/\a<(g:Int))/\∃ (x y:Nat),f=some ⟨x,y,none⟩/\∃ (al:(OA)) (v am:Nat),ld b ⟨x,y+((Int.toNat a)*1),none⟩ [(.slice al v am)]/\(decide (d<(v:Int))=true->((0:Int)<=a/\a<(g:Int))/\∃ (z aa:Nat),f=some ⟨z,aa,none⟩/\∃ (ab:(OA)) (ac an:Nat),ld b ⟨z,aa+((Int.toNat a)*1),none⟩ [(.slice ab ac an)]/\((0:Int)<=d/\d<(ac:Int))/\∃ (ad ae:Nat),ab=some ⟨ad,ae,none⟩/\∃ (c:Int),ld b ⟨ad,ae+((Int.toNat d)*1),none⟩ [(.int .i64 c)]/\(decide (c<(-1))=true->y18 (.bool false) b)/\(decide (c<(-1))=false->(decide ((e:Int)<=c)=true->y18 (.bool false) b)/\(decide ((e:Int)<=c)=false->(decide ((0:Int)<=c)=true->((0:Int)<=c/\c<(e:Int))/\∃ (af ag:Nat),h=some ⟨af,ag,none⟩/\(none:(Option Nat))=none/\∃ (w:Int),ld b ⟨af,(ag+((Int.toNat c)*3))+0,none⟩ [(.int .i64 w)]/\(decide (w≠a)=true->y18 (.bool false) b)/\(decide (w≠a)=false->∃ (ah:Nat),(ah:Nat)<u/\i ah j k l m n o h e p f g q r s t a (IntKind.wrap .i64 (d+1)) b))/\(decide ((0:Int)<=c)=false->∃ (ai:Nat),(ai:Nat)<u/\i ai j k l m n o h e p f g q r s t a (IntKind.wrap .i64 (d+1)) b))))/\(decide (d<(v:Int))=false->∃ (aj:Nat),(aj:Nat)<y19/\y20 aj j k l m n o h e p f g q r s t (IntKind.wrap .i64 (a+1)) b))
def vc6_L5 (y1:OA) (y2 y3:Nat) (y4:OA) (y5 y6:Nat) (y7:OA) (y8 y9:Nat) (y10:OA) (y11 y12:Nat) (y13:OA) (y14 y15:Nat) (y16:KH) (y17:PQ):Prop :=
 (∃ (m:(Nat->OA->Nat->Nat->OA->Nat->Nat->OA->Nat->Nat->OA->Nat->Nat->OA->Nat->Nat->Int->KH->Prop)),(∃ (bh:Nat),m bh y1 y2 y3 y4 y5 y6 y7 y8 y9 y10 y11 y12 y13 y14 y15 0 y16)/\∀ (p:Nat) (q:(OA)) (j r:Nat) (s:(OA)) (k t:Nat) (l:(OA)) (i u:Nat) (n:(OA)) (o:Nat),∀ (v:Nat) (f:(OA)) (d w:Nat) (b:Int) (a:KH),m p q j r s k t l i u n o v f d w b a->(decide (b<(d:Int))=true->((0:Int)<=b/\b<(d:Int))/\∃ (af ag:Nat),f=some ⟨af,ag,none⟩/\∃ (c e g h:Int),ld a ⟨af,ag+((Int.toNat b)*4),none⟩ [.int .i64 c,.int .i64 e,.int .i64 g,.int .i64 h]/\True/\(decide (c<0)=true->y17 (.bool false) a)/\(decide (c<0)=false->(decide ((k:Int)<=c)=true->y17 (.bool false) a)/\(decide ((k:Int)<=c)=false->(decide (e<0)=true->y17 (.bool false) a)/\(decide (e<0)=false->(decide ((j:Int)<e)=true->y17 (.bool false) a)/\(decide ((j:Int)<e)=false->(decide (g<0)=true->y17 (.bool false) a)/\(decide (g<0)=false->(decide (h<=g)=true->y17 (.bool false) a)/\(decide (h<=g)=false->(decide ((i:Int)<=h)=true->y17 (.bool false) a)/\(decide ((i:Int)<=h)=false->((0:Int)<=g/\g<(i:Int))/\∃ (ah ai:Nat),l=some ⟨ah,ai,none⟩/\(none:(Option Nat))=none/\∃ (x:Int),ld a ⟨ah,(ai+((Int.toNat g)*3))+0,none⟩ [(.int .i64 x)]/\(decide (x≠c)=true->y17 (.bool false) a)/\(decide (x≠c)=false->((0:Int)<=h/\h<(i:Int))/\∃ (aj ak:Nat),l=some ⟨aj,ak,none⟩/\(none:(Option Nat))=none/\∃ (y:Int),ld a ⟨aj,(ak+((Int.toNat h)*3))+0,none⟩ [(.int .i64 y)]/\(decide (y≠c)=true->y17 (.bool false) a)/\(decide (y≠c)=false->((0:Int)<=c/\c<(o:Int))/\∃ (al am:Nat),n=some ⟨al,am,none⟩/\∃ (an:(OA)) (ao bi:Nat),ld a ⟨al,am+((Int.toNat c)*1),none⟩ [(.slice an ao bi)]/\((0:Int)<=e/\e<(ao:Int))/\∃ (ap aq:Nat),an=some ⟨ap,aq,none⟩/\∃ (z:Int),ld a ⟨ap,aq+((Int.toNat e)*1),none⟩ [(.int .i64 z)]/\(decide (z≠g)=true->y17 (.bool false) a)/\(decide (z≠g)=false->True/\(decide ((0:Int)<b)=true->((0:Int)<=(IntKind.wrap .i64 (b-1))/\((IntKind.wrap .i64 (b-1)):Int)<(d:Int))/\∃ (ar au:Nat),f=some ⟨ar,au,none⟩/\(none:(Option Nat))=none/\∃ (aa:Int),ld a ⟨ar,(au+((Int.toNat (IntKind.wrap .i64 (b-1)))*4))+0,none⟩ [(.int .i64 aa)]/\(decide (c<aa)=true->y17 (.bool false) a)/\(decide (c<aa)=false->((0:Int)<=(IntKind.wrap .i64 (b-1))/\((IntKind.wrap .i64 (b-1)):Int)<(d:Int))/\∃ (av aw:Nat),f=some ⟨av,aw,none⟩/\(none:(Option Nat))=none/\∃ (ab:Int),ld a ⟨av,(aw+((Int.toNat (IntKind.wrap .i64 (b-1)))*4))+0,none⟩ [(.int .i64 ab)]/\(decide (ab=c)=true->((0:Int)<=(IntKind.wrap .i64 (b-1))/\((IntKind.wrap .i64 (b-1)):Int)<(d:Int))/\∃ (ax ay:Nat),f=some ⟨ax,ay,none⟩/\(none:(Option Nat))=none/\∃ (ac:Int),ld a ⟨ax,(ay+((Int.toNat (IntKind.wrap .i64 (b-1)))*4))+1,none⟩ [(.int .i64 ac)]/\(decide (e<ac)=true->y17 (.bool false) a)/\(decide (e<ac)=false->((0:Int)<=(IntKind.wrap .i64 (b-1))/\((IntKind.wrap .i64 (b-1)):Int)<(d:Int))/\∃ (az ba:Nat),f=some ⟨az,ba,none⟩/\(none:(Option Nat))=none/\∃ (ad:Int),ld a ⟨az,(ba+((Int.toNat (IntKind.wrap .i64 (b-1)))*4))+1,none⟩ [(.int .i64 ad)]/\(decide (ad=e)=true->((0:Int)<=(IntKind.wrap .i64 (b-1))/\((IntKind.wrap .i64 (b-1)):Int)<(d:Int))/\∃ (bb bc:Nat),f=some ⟨bb,bc,none⟩/\(none:(Option Nat))=none/\∃ (ae:Int),ld a ⟨bb,(bc+((Int.toNat (IntKind.wrap .i64 (b-1)))*4))+3,none⟩ [(.int .i64 ae)]/\(decide (h<=ae)=true->y17 (.bool false) a)/\(decide (h<=ae)=false->∃ (bd:Nat),(bd:Nat)<p/\m bd q j r s k t l i u n o v f d w (IntKind.wrap .i64 (b+1)) a))/\(decide (ad=e)=false->∃ (be:Nat),(be:Nat)<p/\m be q j r s k t l i u n o v f d w (IntKind.wrap .i64 (b+1)) a)))/\(decide (ab=c)=false->∃ (bf:Nat),(bf:Nat)<p/\m bf q j r s k t l i u n o v f d w (IntKind.wrap .i64 (b+1)) a)))/\(decide ((0:Int)<b)=false->∃ (bg:Nat),(bg:Nat)<p/\m bg q j r s k t l i u n o v f d w (IntKind.wrap .i64 (b+1)) a))))))))))))/\(decide (b<(d:Int))=false->y17 (.bool true) a))
def vc6_L6 (y1:OA) (y2 y3:Nat) (y4:OA) (y5 y6:Nat) (y7:OA) (y8 y9:Nat) (y10:OA) (y11 y12:Nat) (y13:OA) (y14 y15:Nat) (y16:KH) (y17:PQ):Prop :=
 (∃ (f:(Nat->OA->Nat->Nat->OA->Nat->Nat->OA->Nat->Nat->OA->Nat->Nat->OA->Nat->Nat->Int->KH->Prop)),(∃ (w:Nat),f w y1 y2 y3 y4 y5 y6 y7 y8 y9 y10 y11 y12 y13 y14 y15 0 y16)/\∀ (t:Nat) (g:(OA)) (c h:Nat) (i:(OA)) (j k:Nat) (l:(OA)) (m n:Nat) (e:(OA)) (b:Nat),∀ (o:Nat) (p:(OA)) (q r:Nat) (a:Int) (d:KH),f t g c h i j k l m n e b o p q r a d->(decide (a<(b:Int))=true->True/\((0:Int)<=a/\a<(b:Int))/\∃ (u v:Nat),e=some ⟨u,v,none⟩/\∃ (x:(OA)) (s y:Nat),ld d ⟨u,v+((Int.toNat a)*1),none⟩ [(.slice x s y)]/\(((decide ((s:Int)≠(IntKind.wrap .i64 ((c:Int)+1)))):Bool)=true->y17 (.bool false) d)/\(((decide ((s:Int)≠(IntKind.wrap .i64 ((c:Int)+1)))):Bool)=false->vc6_L1 g c h i j k l m n e b o p q r a d y17 t f))/\(decide (a<(b:Int))=false->vc6_L5 g c h i j k l m n e b o p q r d y17))
def vc6 (p0:OA) (p0n p0c:Nat) (H:KH) (Q:PQ):Prop :=
 Does (env Try.prog) 7 [] H fun u l=>∃ (c:Bool),u=(.bool c)/\((!c)=true->Q (.bool false) l)/\((!c)=false->(decide ((150:Int)<(p0n:Int))=true->Q (.bool true) l)/\(decide ((150:Int)<(p0n:Int))=false->Does (env Try.prog) 8 [(.slice p0 p0n p0c)] l fun v w=>∃ (m n:Nat),v=(.pointer (some ⟨m,n,none⟩))/\Does (env Try.prog) 9 [(.pointer (some ⟨m,n,none⟩))] w fun x y=>∃ (d:(OA)) (e f:Nat) (g:(OA)) (a h:Nat) (i:(OA)) (j k:Nat),x=(.agg #[.slice d e f,.slice g a h,.slice i j k])/\Does (env Try.prog) 11 [(.agg #[.slice d e f,.slice g a h,.slice i j k])] y fun z t=>∃ (o:(OA)) (b p:Nat) (q:(OA)) (r s:Nat),z=(.tuple #[.slice o b p,.slice q r s])/\(decide ((b:Int)≠(a:Int))=true->Q (.bool false) t)/\(decide ((b:Int)≠(a:Int))=false->vc6_L6 d e f g a h i j k o b p q r s t Q)))
theorem fn6 (ok:EnvOk (env Try.prog)) {p0:OA} {p0n p0c:Nat} {H:KH} {Q:PQ} (h:vc6 p0 p0n p0c H Q):Does (env Try.prog) 6 [.slice p0 p0n p0c] H Q :=
 wFun_sound (W:=W6 Try.prog) ok.tt (blt_lt (by kernel_rfl)) (ff_of ok (by kernel_rfl) Try.func6) (Eq.mpr (by kernel_rfl) h)
def W11 (P:Program):WE:=⟨env P,tupT,[1],mkTab [],11⟩
def vc11 (p0_0:OA) (p0_0n p0_0c:Nat) (p0_1:OA) (p0_1n p0_1c:Nat) (p0_2:OA) (p0_2n p0_2c:Nat) (H:KH) (Q:PQ):Prop :=
 Does (env Try.prog) 20 [(.agg #[.slice p0_0 p0_0n p0_0c,.slice p0_1 p0_1n p0_1c,.slice p0_2 p0_2n p0_2c])] H fun l k=>∃ (a:Bool),l=(.bool a)/\((!a)=true->Q (.tuple #[.slice none 0 0,.slice none 0 0]) k)/\((!a)=false->Does (env Try.prog) 21 [(.agg #[.slice p0_0 p0_0n p0_0c,.slice p0_1 p0_1n p0_1c,.slice p0_2 p0_2n p0_2c])] k fun m n=>∃ (b:(OA)) (c d:Nat),m=(.slice b c d)/\Does (env Try.prog) 22 [.slice b c d,.func (.func 23) #[] #[]] n fun o p=>∃ (e:(OA)) (f g:Nat),o=(.slice e f g)/\Does (env Try.prog) 24 [.slice b c d,.func (.func 25) #[] #[]] p fun q r=>∃ (h:(OA)) (i j:Nat),q=(.slice h i j)/\Q (.tuple #[.slice e f g,.slice h i j]) r)
theorem fn11 (ok:EnvOk (env Try.prog)) {p0_0:OA} {p0_0n p0_0c:Nat} {p0_1:OA} {p0_1n p0_1c:Nat} {p0_2:OA} {p0_2n p0_2c:Nat} {H:KH} {Q:PQ} (h:vc11 p0_0 p0_0n p0_0c p0_1 p0_1n p0_1c p0_2 p0_2n p0_2c H Q):Does (env Try.prog) 11 [.agg #[.slice p0_0 p0_0n p0_0c,.slice p0_1 p0_1n p0_1c,.slice p0_2 p0_2n p0_2c]] H Q :=
 wFun_sound (W:=W11 Try.prog) ok.tt (blt_lt (by kernel_rfl)) (ff_of ok (by kernel_rfl) Try.func11) (Eq.mpr (by kernel_rfl) h)
def W12 (P:Program):WE:=⟨env P,tupT,[1,4],mkTab [(4,[.ref 1 1 0,.box 1 [.slice none 0 0,.slice none 0 0,.slice none 0 0],.ref 4 4 0,.box 4 [.slice none 0 0,.slice none 0 0,.slice none 0 0],.tmp 5 .slice,.tmp 6 .slice,.tmp 7 (.int .i64),.tmp 8 .slice,.tmp 9 (.int .i64),.tmp 10 (.int .i64),.tmp 11 (.int .i64)]),(2,[.ref 1 1 0,.box 1 [.slice none 0 0,.slice none 0 0,.slice none 0 0],.ref 4 4 0,.box 4 [.slice none 0 0,.slice none 0 0,.slice none 0 0],.tmp 5 .slice,.tmp 6 .slice,.tmp 7 (.int .i64),.tmp 8 .slice,.tmp 9 (.int .i64)]),(0,[.ref 1 1 0,.box 1 [.slice none 0 0,.slice none 0 0,.slice none 0 0],.ref 4 4 0,.box 4 [.slice none 0 0,.slice none 0 0,.slice none 0 0],.tmp 5 .slice,.tmp 6 .slice,.tmp 7 (.int .i64)])],12⟩
def vc12_L3 (y1:OA) (y2 y3:Nat) (y4:OA) (y5 y6:Nat) (y7:OA) (y8 y9:Nat) (y10:OA) (y11 y12:Nat) (y13:OA) (y14 y15:Nat) (y16:OA) (y17 y18:Nat) (y19:OA) (y20 y21:Nat) (y22:OA) (y23 y24:Nat) (y25:Int) (y26:OA) (y27 y28:Nat) (y29:Int) (y30:KH) (y31:Nat) (y32:(Nat->(OA->(Nat->(Nat->(OA->(Nat->(Nat->(OA->(Nat->(Nat->(OA->(Nat->(Nat->(OA->(Nat->(Nat->(OA->(Nat->(Nat->(OA->(Nat->(Nat->(OA->(Nat->(Nat->(Int->(OA->(Nat->(Nat->(Int->(KH->Prop)))))))))))))))))))))))))))))))):Prop :=
 (∃ (x:(Nat->OA->Nat->Nat->OA->Nat->Nat->OA->Nat->Nat->OA->Nat->Nat->OA->Nat->Nat->OA->Nat->Nat->OA->Nat->Nat->OA->Nat->Nat->Int->OA->Nat->Nat->Int->Int->Int->KH->Prop)),(∃ (bk:Nat),x bk y1 y2 y3 y4 y5 y6 y7 y8 y9 y10 y11 y12 y13 y14 y15 y16 y17 y18 y19 y20 y21 y22 y23 y24 y25 y26 y27 y28 y29 (-1) 0 y30)/\∀ (ai:Nat) (h:(OA)) (i j:Nat) (k:(OA)) (l m:Nat) (f:(OA)) (d n:Nat) (o:(OA)) (p:Nat),∀ (q:Nat) (r:(OA)) (s t:Nat) (u:(OA)) (v w:Nat) (y:(OA)) (z aa:Nat) (ab:(OA)) (ac:Nat),∀ (ad:Nat) (c:Int) (ae:(OA)) (af ag:Nat) (e b a:Int) (g:KH),x ai h i j k l m f d n o p q r s t u v w y z aa ab ac ad c ae af ag e b a g->(decide (a<(d:Int))=true->((0:Int)<=a/\a<(d:Int))/\∃ (an ao:Nat),f=some ⟨an,ao,none⟩/\(none:(Option Nat))=none/\∃ (al:Int),ld g ⟨an,(ao+((Int.toNat a)*3))+0,none⟩ [(.int .i64 al)]/\(decide (al≠c)=true->∃ (ap:Nat),(ap:Nat)<ai/\x ap h i j k l m f d n o p q r s t u v w y z aa ab ac ad c ae af ag e b (IntKind.wrap .i64 (a+1)) g)/\(decide (al≠c)=false->Does (env Try.prog) 14 [.agg #[.slice o p q,.slice r s t,.slice u v w],.agg #[.slice h i j,.slice k l m,.slice f d n],.int .i64 a,.int .i64 e] g fun bl ah=>∃ (am:Bool),bl=(.bool am)/\((!am)=true->∃ (aq:Nat),(aq:Nat)<ai/\x aq h i j k l m f d n o p q r s t u v w y z aa ab ac ad c ae af ag e b (IntKind.wrap .i64 (a+1)) ah)/\((!am)=false->(decide (b<0)=true->∃ (ar:Nat),(ar:Nat)<ai/\x ar h i j k l m f d n o p q r s t u v w y z aa ab ac ad c ae af ag e a (IntKind.wrap .i64 (a+1)) ah)/\(decide (b<0)=false->∀ (aj:Nat),((ah aj):(Option (Ent)))=none->∀ (au:Nat),(((KH.new ah aj (mkEnt [.int .i64 c,.int .i64 e,.int .i64 b,.int .i64 a] 0)) au):(Option (Ent)))=none->∃ (av:Nat) (aw:(List Value)),((knew (KH.new ah aj (mkEnt [.int .i64 c,.int .i64 e,.int .i64 b,.int .i64 a] 0)) ⟨4,32,true,3,0,0,[(0,1),(1,1),(2,1),(3,1)],[.int .i64 0,.int .i64 0,.int .i64 0,.int .i64 0]⟩ (.slice (some ⟨aj,0,none⟩) 1 1)):(Option (Nat × (List Value))))=(some (av,aw))/\∃ (ax:(OA)) (ay az:Nat) (ba:KH),((kappend (KH.new ah aj (mkEnt [.int .i64 c,.int .i64 e,.int .i64 b,.int .i64 a] 0)) au ⟨4,32,true,3,0,0,[(0,1),(1,1),(2,1),(3,1)],[.int .i64 0,.int .i64 0,.int .i64 0,.int .i64 0]⟩ ab ac ad av aw):(Option (Value × KH)))=(some (.slice ax ay az,ba))/\∃ (bb:Nat),(bb:Nat)<ai/\x bb h i j k l m f d n o p q r s t u v w y z aa ax ay az c ae af ag e b (IntKind.wrap .i64 (a+1)) ba))))/\(decide (a<(d:Int))=false->∀ (ak:Nat),((g ak):(Option (Ent)))=none->∀ (bc:Nat),(((KH.new g ak (mkEnt [(.int .i64 b)] 0)) bc):(Option (Ent)))=none->∃ (bd:Nat) (be:(List Value)),((knew (KH.new g ak (mkEnt [(.int .i64 b)] 0)) ⟨1,8,false,5,0,0,[],[(.int .i64 0)]⟩ (.slice (some ⟨ak,0,none⟩) 1 1)):(Option (Nat × (List Value))))=(some (bd,be))/\∃ (bf:(OA)) (bg bh:Nat) (bi:KH),((kappend (KH.new g ak (mkEnt [(.int .i64 b)] 0)) bc ⟨1,8,false,5,0,0,[],[(.int .i64 0)]⟩ ae af ag bd be):(Option (Value × KH)))=(some (.slice bf bg bh,bi))/\∃ (bj:Nat),(bj:Nat)<y31/\y32 bj h i j k l m f d n o p q r s t u v w y z aa ab ac ad c bf bg bh (IntKind.wrap .i64 (e+1)) bi))
def vc12_L5 (y1:OA) (y2 y3:Nat) (y4:OA) (y5 y6:Nat) (y7:OA) (y8 y9:Nat) (y10:OA) (y11 y12:Nat) (y13:OA) (y14 y15:Nat) (y16:OA) (y17 y18:Nat) (y19:OA) (y20 y21:Nat) (y22:OA) (y23 y24:Nat) (y25:Int) (y26:KH) (y27:Nat) (y28:(Nat->(OA->(Nat->(Nat->(OA->(Nat->(Nat->(OA->(Nat->(Nat->(OA->(Nat->(Nat->(OA->(Nat->(Nat->(OA->(Nat->(Nat->(OA->(Nat->(Nat->(OA->(Nat->(Nat->(Int->(KH->Prop)))))))))))))))))))))))))))):Prop :=
 (∃ (h:(Nat->OA->Nat->Nat->OA->Nat->Nat->OA->Nat->Nat->OA->Nat->Nat->OA->Nat->Nat->OA->Nat->Nat->OA->Nat->Nat->OA->Nat->Nat->Int->OA->Nat->Nat->Int->KH->Prop)),(∃ (ap:Nat),h ap y1 y2 y3 y4 y5 y6 y7 y8 y9 y10 y11 y12 y13 y14 y15 y16 y17 y18 y19 y20 y21 y22 y23 y24 y25 none 0 0 0 y26)/\∀ (ag:Nat) (i:(OA)) (b j:Nat) (k:(OA)) (l m:Nat) (n:(OA)) (o p:Nat) (q:(OA)) (r:Nat),∀ (s:Nat) (t:(OA)) (u v:Nat) (w:(OA)) (x y:Nat) (z:(OA)) (aa ab:Nat) (ac:(OA)) (ad:Nat),∀ (ae:Nat) (af:Int) (c:(OA)) (d e:Nat) (g:Int) (a:KH),h ag i b j k l m n o p q r s t u v w x y z aa ab ac ad ae af c d e g a->(decide (g<=(b:Int))=true->vc12_L3 i b j k l m n o p q r s t u v w x y z aa ab ac ad ae af c d e g a ag h)/\(decide (g<=(b:Int))=false->∀ (f:Nat),((a f):(Option (Ent)))=none->∀ (ah:Nat),(((KH.new a f (mkEnt [(.slice c d e)] 0)) ah):(Option (Ent)))=none->∃ (ai:Nat) (aj:(List Value)),((knew (KH.new a f (mkEnt [(.slice c d e)] 0)) ⟨1,24,false,1,3,0,[],[(.slice none 0 0)]⟩ (.slice (some ⟨f,0,none⟩) 1 1)):(Option (Nat × (List Value))))=(some (ai,aj))/\∃ (ak:(OA)) (al am:Nat) (an:KH),((kappend (KH.new a f (mkEnt [(.slice c d e)] 0)) ah ⟨1,24,false,1,3,0,[],[(.slice none 0 0)]⟩ z aa ab ai aj):(Option (Value × KH)))=(some (.slice ak al am,an))/\∃ (ao:Nat),(ao:Nat)<y27/\y28 ao i b j k l m n o p q r s t u v w x y ak al am ac ad ae (IntKind.wrap .i64 (af+1)) an))
def vc12_L6 (y1:OA) (y2 y3:Nat) (y4:OA) (y5 y6:Nat) (y7:OA) (y8 y9:Nat) (y10:OA) (y11 y12:Nat) (y13:OA) (y14 y15:Nat) (y16:OA) (y17 y18:Nat) (y19:KH) (y20:PQ):Prop :=
 (∃ (c:(Nat->OA->Nat->Nat->OA->Nat->Nat->OA->Nat->Nat->OA->Nat->Nat->OA->Nat->Nat->OA->Nat->Nat->OA->Nat->Nat->OA->Nat->Nat->Int->KH->Prop)),(∃ (ac:Nat),c ac y1 y2 y3 y4 y5 y6 y7 y8 y9 y10 y11 y12 y13 y14 y15 y16 y17 y18 none 0 0 none 0 0 0 y19)/\∀ (k:Nat) (l:(OA)) (m n:Nat) (o:(OA)) (a p:Nat) (q:(OA)) (r s:Nat) (t:(OA)) (u:Nat),∀ (v:Nat) (w:(OA)) (x y:Nat) (z:(OA)) (aa ab:Nat) (d:(OA)) (e f:Nat) (g:(OA)) (h:Nat),∀ (i:Nat) (b:Int) (j:KH),c k l m n o a p q r s t u v w x y z aa ab d e f g h i b j->(decide (b<(a:Int))=true->vc12_L5 l m n o a p q r s t u v w x y z aa ab d e f g h i b j k c)/\(decide (b<(a:Int))=false->y20 (.tuple #[.slice d e f,.slice g h i]) j))
def vc12 (p0_0:OA) (p0_0n p0_0c:Nat) (p0_1:OA) (p0_1n p0_1c:Nat) (p0_2:OA) (p0_2n p0_2c:Nat) (H:KH) (Q:PQ):Prop :=
 Does (env Try.prog) 26 [(.agg #[.slice p0_0 p0_0n p0_0c,.slice p0_1 p0_1n p0_1c,.slice p0_2 p0_2n p0_2c])] H fun l k=>∃ (a:Bool),l=(.bool a)/\((!a)=true->Q (.tuple #[.slice none 0 0,.slice none 0 0]) k)/\((!a)=false->Does (env Try.prog) 13 [(.agg #[.slice p0_0 p0_0n p0_0c,.slice p0_1 p0_1n p0_1c,.slice p0_2 p0_2n p0_2c])] k fun m n=>∃ (b:(OA)) (c d:Nat) (e:(OA)) (f g:Nat) (h:(OA)) (i j:Nat),m=(.agg #[.slice b c d,.slice e f g,.slice h i j])/\vc12_L6 p0_0 p0_0n p0_0c p0_1 p0_1n p0_1c p0_2 p0_2n p0_2c b c d e f g h i j n Q)
theorem fn12 (ok:EnvOk (env Try.prog)) {p0_0:OA} {p0_0n p0_0c:Nat} {p0_1:OA} {p0_1n p0_1c:Nat} {p0_2:OA} {p0_2n p0_2c:Nat} {H:KH} {Q:PQ} (h:vc12 p0_0 p0_0n p0_0c p0_1 p0_1n p0_1c p0_2 p0_2n p0_2c H Q):Does (env Try.prog) 12 [.agg #[.slice p0_0 p0_0n p0_0c,.slice p0_1 p0_1n p0_1c,.slice p0_2 p0_2n p0_2c]] H Q :=
 wFun_sound (W:=W12 Try.prog) ok.tt (blt_lt (by kernel_rfl)) (ff_of ok (by kernel_rfl) Try.func12) (Eq.mpr (by kernel_rfl) h)
def W14 (P:Program):WE:=⟨env P,tupT,[4,5],mkTab [],14⟩
def vc14 (p0_0:OA) (p0_0n p0_0c:Nat) (p0_1:OA) (p0_1n p0_1c:Nat) (p0_2:OA) (p0_2n p0_2c:Nat) (p1_0:OA) (p1_0n p1_0c:Nat) (p1_1:OA) (p1_1n p1_1c:Nat) (p1_2:OA) (p1_2n p1_2c:Nat) (p2 p3:Int) (H:KH) (Q:PQ):Prop :=
 (True/\((0:Int)<=p2/\p2<(p1_2n:Int))/\∃ (g h:Nat),p1_2=some ⟨g,h,none⟩/\(none:(Option Nat))=none/\∃ (i:(OA)) (j k:Nat),ld H ⟨g,(h+((Int.toNat p2)*3))+1,none⟩ [(.slice i j k)]/\Does (env Try.prog) 27 [.agg #[.slice p0_0 p0_0n p0_0c,.slice p0_1 p0_1n p0_1c,.slice p0_2 p0_2n p0_2c],.agg #[.slice p1_0 p1_0n p1_0c,.slice p1_1 p1_1n p1_1c,.slice p1_2 p1_2n p1_2c],.slice i j k] H fun aj a=>∃ (l:(OA)) (c ag:Nat) (b:Bool),aj=(.tuple #[.slice l c ag,.bool b])/\True/\True/\(decide (p3<(c:Int))=true->((0:Int)<=p3/\p3<(c:Int))/\∃ (m n:Nat),l=some ⟨m,n,none⟩/\∃ (f:Bool),ld a ⟨m,n+((Int.toNat p3)*1),none⟩ [(.bool f)]/\(f=true->Q (.bool true) a)/\(f=false->(b=true->((0:Int)<=p2/\p2<(p1_2n:Int))/\∃ (o p:Nat),p1_2=some ⟨o,p,none⟩/\(none:(Option Nat))=none/\∃ (d:Int),ld a ⟨o,(p+((Int.toNat p2)*3))+0,none⟩ [(.int .i64 d)]/\((0:Int)<=d/\d<(p0_2n:Int))/\∃ (q r:Nat),p0_2=some ⟨q,r,none⟩/\∃ (s:(OA)) (t ah:Nat),ld a ⟨q,r+((Int.toNat d)*1),none⟩ [(.slice s t ah)]/\((0:Int)<=p3/\p3<(t:Int))/\∃ (u v:Nat),s=some ⟨u,v,none⟩/\∃ (w:Bool),ld a ⟨u,v+((Int.toNat p3)*1),none⟩ [(.bool w)]/\Q (.bool w) a)/\(b=false->Q (.bool false) a)))/\(decide (p3<(c:Int))=false->(b=true->((0:Int)<=p2/\p2<(p1_2n:Int))/\∃ (x y:Nat),p1_2=some ⟨x,y,none⟩/\(none:(Option Nat))=none/\∃ (e:Int),ld a ⟨x,(y+((Int.toNat p2)*3))+0,none⟩ [(.int .i64 e)]/\((0:Int)<=e/\e<(p0_2n:Int))/\∃ (z aa:Nat),p0_2=some ⟨z,aa,none⟩/\∃ (ab:(OA)) (ac ai:Nat),ld a ⟨z,aa+((Int.toNat e)*1),none⟩ [(.slice ab ac ai)]/\((0:Int)<=p3/\p3<(ac:Int))/\∃ (ad ae:Nat),ab=some ⟨ad,ae,none⟩/\∃ (af:Bool),ld a ⟨ad,ae+((Int.toNat p3)*1),none⟩ [(.bool af)]/\Q (.bool af) a)/\(b=false->Q (.bool false) a)))
theorem fn14 (ok:EnvOk (env Try.prog)) {p0_0:OA} {p0_0n p0_0c:Nat} {p0_1:OA} {p0_1n p0_1c:Nat} {p0_2:OA} {p0_2n p0_2c:Nat} {p1_0:OA} {p1_0n p1_0c:Nat} {p1_1:OA} {p1_1n p1_1c:Nat} {p1_2:OA} {p1_2n p1_2c:Nat} {p2 p3:Int} {H:KH} {Q:PQ} (h:vc14 p0_0 p0_0n p0_0c p0_1 p0_1n p0_1c p0_2 p0_2n p0_2c p1_0 p1_0n p1_0c p1_1 p1_1n p1_1c p1_2 p1_2n p1_2c p2 p3 H Q):Does (env Try.prog) 14 [.agg #[.slice p0_0 p0_0n p0_0c,.slice p0_1 p0_1n p0_1c,.slice p0_2 p0_2n p0_2c],.agg #[.slice p1_0 p1_0n p1_0c,.slice p1_1 p1_1n p1_1c,.slice p1_2 p1_2n p1_2c],.int .i64 p2,.int .i64 p3] H Q :=
 wFun_sound (W:=W14 Try.prog) ok.tt (blt_lt (by kernel_rfl)) (ff_of ok (by kernel_rfl) Try.func14) (Eq.mpr (by kernel_rfl) h)
def W21 (P:Program):WE:=⟨env P,tupT,[],mkTab [],21⟩
def vc21 (p0_0:OA) (p0_0n p0_0c:Nat) (p0_1:OA) (p0_1n p0_1c:Nat) (p0_2:OA) (p0_2n p0_2c:Nat) (H:KH) (Q:PQ):Prop :=
 (∀ (b:Nat),((H b):(Option (Ent)))=none->∃ (g:(OA)) (h i:Nat) (j:(OA)) (k l:Nat) (m:(OA)) (n o:Nat),ld (KH.new H b (mkEnt (Array.toList #[Value.slice p0_0 p0_0n p0_0c,.slice p0_1 p0_1n p0_1c,.slice p0_2 p0_2n p0_2c]) 0)) ⟨b,0,none⟩ [.slice g h i,.slice j k l,.slice m n o]/\Does (env Try.prog) 33 [(.agg #[.slice g h i,.slice j k l,.slice m n o])] (KH.new H b (mkEnt (Array.toList #[Value.slice p0_0 p0_0n p0_0c,.slice p0_1 p0_1n p0_1c,.slice p0_2 p0_2n p0_2c]) 0)) fun z c=>∃ (d:(OA)) (e f:Nat),z=(.slice d e f)/\∀ (a:Nat),((c a):(Option (Ent)))=none->(∃ (p:(List Value)),((List.length p):Nat)=(List.length [(Value.slice d e f)])/\ld (KH.new c a (mkEnt [(.slice none 0 0)] 0)) ⟨a,0,none⟩ p)/\KH.may (KH.new c a (mkEnt [(.slice none 0 0)] 0)) a/\(none:(Option Nat))=none/\∃ (v:(OA)) (q w:Nat),ld (KH.put (KH.new c a (mkEnt [(.slice none 0 0)] 0)) ⟨a,0,none⟩ [(.slice d e f)]) ⟨b,0+1,none⟩ [(.slice v q w)]/\(none:(Option Nat))=none/\∃ (x:(OA)) (r y:Nat),ld (KH.put (KH.new c a (mkEnt [(.slice none 0 0)] 0)) ⟨a,0,none⟩ [(.slice d e f)]) ⟨b,0+0,none⟩ [(.slice x r y)]/\Does (env Try.prog) 34 [.int .i64 (q:Int),.int .i64 (IntKind.wrap .i64 ((r:Int)+1)),.func (.func 35) #[] #[.pointer (some ⟨b,0,none⟩),.pointer (some ⟨a,0,none⟩)]] (KH.put (KH.new c a (mkEnt [(.slice none 0 0)] 0)) ⟨a,0,none⟩ [(.slice d e f)]) fun aa ab=>∃ (s:(OA)) (t u:Nat),aa=(.slice s t u)/\Q (.slice s t u) ab)
theorem fn21 (ok:EnvOk (env Try.prog)) {p0_0:OA} {p0_0n p0_0c:Nat} {p0_1:OA} {p0_1n p0_1c:Nat} {p0_2:OA} {p0_2n p0_2c:Nat} {H:KH} {Q:PQ} (h:vc21 p0_0 p0_0n p0_0c p0_1 p0_1n p0_1c p0_2 p0_2n p0_2c H Q):Does (env Try.prog) 21 [.agg #[.slice p0_0 p0_0n p0_0c,.slice p0_1 p0_1n p0_1c,.slice p0_2 p0_2n p0_2c]] H Q :=
 wFun_sound (W:=W21 Try.prog) ok.tt (blt_lt (by kernel_rfl)) (ff_of ok (by kernel_rfl) Try.func21) (Eq.mpr (by kernel_rfl) h)
def W22 (P:Program):WE:=⟨env P,tupT,[],mkTab [(2,[.tmp 1 .fnk,.tmp 5 .slice,.tmp 8 .slice,.tmp 11 .slice,.tmp 12 (.int .i64),.tmp 13 (.int .i64),.tmp 17 .slice,.tmp 18 (.int .i64),.tmp 19 (.int .i64)]),(0,[.tmp 1 .fnk,.tmp 5 .slice,.tmp 11 .slice,.tmp 12 (.int .i64),.tmp 13 (.int .i64)])],22⟩
def vc22_L2 (y1:Nat) (y2:(List Value)) (y3:OA) (y4 y5:Nat) (y6:OA) (y7 y8:Nat) (y9 y10:Int) (y11:OA) (y12 y13:Nat) (y14:KH) (y15:Nat) (y16:(Nat->(Nat->((List Value)->(OA->(Nat->(Nat->(OA->(Nat->(Nat->(Int->(Int->(KH->Prop))))))))))))):Prop :=
 (∃ (m:(Nat->Nat->List Value->OA->Nat->Nat->OA->Nat->Nat->OA->Nat->Nat->Int->Int->OA->Nat->Nat->Int->Int->KH->Prop)),(∃ (aw:Nat),m aw y1 (Array.toList (List.toArray y2)) y3 y4 y5 none 0 0 y6 y7 y8 y9 y10 y11 y12 y13 (y12:Int) 0 y14)/\∀ (x h:Nat) (i:(List Value)) (n:(OA)) (o p:Nat) (c:(OA)) (d e:Nat) (q:(OA)) (r s:Nat),∀ (t u:Int) (v:(OA)) (w y:Nat) (j a:Int) (b:KH),m x h i n o p c d e q r s t u v w y j a b->(decide (a<j)=true->((0:Int)<=a/\a<(w:Int))/\∃ (z aa:Nat),v=some ⟨z,aa,none⟩/\∃ (ab:(OA)) (ac ad:Nat),ld b ⟨z,aa+((Int.toNat a)*1),none⟩ [(.slice ab ac ad)]/\Does (env Try.prog) h ([(.slice ab ac ad)]++i) b fun ax l=>∃ (k:Int),ax=(.int .i64 k)/\∀ (f:Nat),((l f):(Option (Ent)))=none->∀ (ae:Nat),(((KH.new l f (mkEnt [(.int .i64 k)] 0)) ae):(Option (Ent)))=none->∃ (af:Nat) (ag:(List Value)),((knew (KH.new l f (mkEnt [(.int .i64 k)] 0)) ⟨1,8,false,5,0,0,[],[(.int .i64 0)]⟩ (.slice (some ⟨f,0,none⟩) 1 1)):(Option (Nat × (List Value))))=(some (af,ag))/\∃ (ah:(OA)) (ai aj:Nat) (ak:KH),((kappend (KH.new l f (mkEnt [(.int .i64 k)] 0)) ae ⟨1,8,false,5,0,0,[],[(.int .i64 0)]⟩ c d e af ag):(Option (Value × KH)))=(some (.slice ah ai aj,ak))/\∃ (al:Nat),(al:Nat)<x/\m al h (Array.toList (List.toArray i)) n o p ah ai aj q r s t u v w y j (IntKind.wrap .i64 (a+1)) ak)/\(decide (a<j)=false->∀ (g:Nat),((b g):(Option (Ent)))=none->∀ (am:Nat),(((KH.new b g (mkEnt [(.slice c d e)] 0)) am):(Option (Ent)))=none->∃ (an:Nat) (ao:(List Value)),((knew (KH.new b g (mkEnt [(.slice c d e)] 0)) ⟨1,24,false,1,3,0,[],[(.slice none 0 0)]⟩ (.slice (some ⟨g,0,none⟩) 1 1)):(Option (Nat × (List Value))))=(some (an,ao))/\∃ (ap:(OA)) (aq ar:Nat) (au:KH),((kappend (KH.new b g (mkEnt [(.slice c d e)] 0)) am ⟨1,24,false,1,3,0,[],[(.slice none 0 0)]⟩ n o p an ao):(Option (Value × KH)))=(some (.slice ap aq ar,au))/\∃ (av:Nat),(av:Nat)<y15/\y16 av h (Array.toList (List.toArray i)) ap aq ar q r s t (IntKind.wrap .i64 (u+1)) au))
def vc22_L3 (y1:Nat) (y2:OA) (y3 y4:Nat) (y5:KH) (y6:PQ):Prop :=
 (∃ (d:(Nat->Nat->List Value->OA->Nat->Nat->OA->Nat->Nat->Int->Int->KH->Prop)),(∃ (s:Nat),d s y1 (Array.toList #[]) none 0 0 y2 y3 y4 (y3:Int) 0 y5)/\∀ (j k:Nat) (l:(List Value)) (e:(OA)) (f g:Nat) (h:(OA)) (i m:Nat) (b a:Int) (c:KH),d j k l e f g h i m b a c->(decide (a<b)=true->((0:Int)<=a/\a<(i:Int))/\∃ (n o:Nat),h=some ⟨n,o,none⟩/\∃ (p:(OA)) (q r:Nat),ld c ⟨n,o+((Int.toNat a)*1),none⟩ [(.slice p q r)]/\vc22_L2 k l e f g h i m b a p q r c j d)/\(decide (a<b)=false->y6 (.slice e f g) c))
def vc22 (p0:OA) (p0n p0c p1:Nat) (H:KH) (Q:PQ):Prop :=
 (vc22_L3 p1 p0 p0n p0c H Q)
theorem fn22 (ok:EnvOk (env Try.prog)) {p0:OA} {p0n p0c p1:Nat} {H:KH} {Q:PQ} (h:vc22 p0 p0n p0c p1 H Q):Does (env Try.prog) 22 [.slice p0 p0n p0c,.func (.func p1) #[] #[]] H Q :=
 wFun_sound (W:=W22 Try.prog) ok.tt (blt_lt (by kernel_rfl)) (ff_of ok (by kernel_rfl) Try.func22) (Eq.mpr (by kernel_rfl) h)
def W23 (P:Program):WE:=⟨env P,tupT,[],mkTab [],23⟩
def vc23 (p0:OA) (p0n p0c:Nat) (H:KH) (Q:PQ):Prop :=
 ((decide ((p0n:Int)=0)=true->Q (.int .i64 (-1)) H)/\(decide ((p0n:Int)=0)=false->((0:Int)<=0/\(0:Int)<(p0n:Int))/\∃ (a b:Nat),p0=some ⟨a,b,none⟩/\∃ (c:Int),ld H ⟨a,b+((Int.toNat 0)*1),none⟩ [(.int .i64 c)]/\Q (.int .i64 c) H))
theorem fn23 (ok:EnvOk (env Try.prog)) {p0:OA} {p0n p0c:Nat} {H:KH} {Q:PQ} (h:vc23 p0 p0n p0c H Q):Does (env Try.prog) 23 [.slice p0 p0n p0c] H Q :=
 wFun_sound (W:=W23 Try.prog) ok.tt (blt_lt (by kernel_rfl)) (ff_of ok (by kernel_rfl) Try.func23) (Eq.mpr (by kernel_rfl) h)
def W24 (P:Program):WE:=⟨env P,tupT,[],mkTab [(2,[.tmp 1 .fnk,.tmp 5 .slice,.tmp 6 (.int .i64),.tmp 10 .slice,.tmp 11 (.int .i64),.tmp 12 (.int .i64),.tmp 17 .slice,.tmp 18 (.int .i64),.tmp 19 (.int .i64)]),(0,[.tmp 1 .fnk,.tmp 5 .slice,.tmp 10 .slice,.tmp 11 (.int .i64),.tmp 12 (.int .i64)])],24⟩
def vc24_L1 (y1:Nat) (y2:(List Value)) (y3:OA) (y4 y5:Nat) (y6:Int) (y7:OA) (y8 y9:Nat) (y10:Int) (y11:OA) (y12 y13:Nat) (y14:KH) (y15:Nat) (y16:(Nat->(Nat->((List Value)->(OA->(Nat->(Nat->(OA->(Nat->(Nat->(Int->(Int->(KH->Prop))))))))))))):Prop :=
 (∃ (f:(Nat->Nat->List Value->OA->Nat->Nat->Int->OA->Nat->Nat->Int->Int->OA->Nat->Nat->Int->Int->KH->Prop)),(∃ (al:Nat),f al y1 (Array.toList (List.toArray y2)) y3 y4 y5 y6 y7 y8 y9 y10 y6 y11 y12 y13 (y12:Int) 0 y14)/\∀ (s b:Nat) (c:(List Value)) (g:(OA)) (h i:Nat) (j:Int) (k:(OA)) (l m:Nat) (n o:Int),∀ (p:(OA)) (q t:Nat) (d a:Int) (e:KH),f s b c g h i j k l m n o p q t d a e->(decide (a<d)=true->((0:Int)<=a/\a<(q:Int))/\∃ (u v:Nat),p=some ⟨u,v,none⟩/\∃ (w:(OA)) (x y:Nat),ld e ⟨u,v+((Int.toNat a)*1),none⟩ [(.slice w x y)]/\Does (env Try.prog) b ([.int .i64 j,.int .i64 a,.slice w x y]++c) e fun am r=>∃ (z:(OA)) (aa ab:Nat),am=(.slice z aa ab)/\∀ (ac:Nat),((r ac):(Option (Ent)))=none->∃ (ad:Nat) (ae:(List Value)),((knew r ⟨4,32,true,3,0,0,[(0,1),(1,1),(2,1),(3,1)],[.int .i64 0,.int .i64 0,.int .i64 0,.int .i64 0]⟩ (.slice z aa ab)):(Option (Nat × (List Value))))=(some (ad,ae))/\∃ (af:(OA)) (ag ah:Nat) (ai:KH),((kappend r ac ⟨4,32,true,3,0,0,[(0,1),(1,1),(2,1),(3,1)],[.int .i64 0,.int .i64 0,.int .i64 0,.int .i64 0]⟩ g h i ad ae):(Option (Value × KH)))=(some (.slice af ag ah,ai))/\∃ (aj:Nat),(aj:Nat)<s/\f aj b (Array.toList (List.toArray c)) af ag ah j k l m n o p q t d (IntKind.wrap .i64 (a+1)) ai)/\(decide (a<d)=false->∃ (ak:Nat),(ak:Nat)<y15/\y16 ak b (Array.toList (List.toArray c)) g h i k l m n (IntKind.wrap .i64 (o+1)) e))
def vc24_L2 (y1:Nat) (y2:OA) (y3 y4:Nat) (y5:KH) (y6:PQ):Prop :=
 (∃ (d:(Nat->Nat->List Value->OA->Nat->Nat->OA->Nat->Nat->Int->Int->KH->Prop)),(∃ (s:Nat),d s y1 (Array.toList #[]) none 0 0 y2 y3 y4 (y3:Int) 0 y5)/\∀ (j k:Nat) (l:(List Value)) (e:(OA)) (f g:Nat) (h:(OA)) (i m:Nat) (b a:Int) (c:KH),d j k l e f g h i m b a c->(decide (a<b)=true->((0:Int)<=a/\a<(i:Int))/\∃ (n o:Nat),h=some ⟨n,o,none⟩/\∃ (p:(OA)) (q r:Nat),ld c ⟨n,o+((Int.toNat a)*1),none⟩ [(.slice p q r)]/\vc24_L1 k l e f g a h i m b p q r c j d)/\(decide (a<b)=false->y6 (.slice e f g) c))
def vc24 (p0:OA) (p0n p0c p1:Nat) (H:KH) (Q:PQ):Prop :=
 (vc24_L2 p1 p0 p0n p0c H Q)
theorem fn24 (ok:EnvOk (env Try.prog)) {p0:OA} {p0n p0c p1:Nat} {H:KH} {Q:PQ} (h:vc24 p0 p0n p0c p1 H Q):Does (env Try.prog) 24 [.slice p0 p0n p0c,.func (.func p1) #[] #[]] H Q :=
 wFun_sound (W:=W24 Try.prog) ok.tt (blt_lt (by kernel_rfl)) (ff_of ok (by kernel_rfl) Try.func24) (Eq.mpr (by kernel_rfl) h)
def W25 (P:Program):WE:=⟨env P,tupT,[],mkTab [(0,[.tmp 0 (.int .i64),.tmp 1 (.int .i64),.tmp 2 .slice,.tmp 7 .slice,.tmp 10 .slice,.tmp 11 (.int .i64),.tmp 12 (.int .i64)])],25⟩
def vc25_L1 (y1 y2:Int) (y3:OA) (y4 y5:Nat) (y6:KH) (y7:PQ):Prop :=
 (∃ (g:(Nat->Int->Int->OA->Nat->Nat->OA->Nat->Nat->OA->Nat->Nat->Int->Int->KH->Prop)),(∃ (af:Nat),g af y1 y2 y3 y4 y5 none 0 0 y3 y4 y5 (y4:Int) 0 y6)/\∀ (s:Nat) (b c:Int) (h:(OA)) (i j:Nat) (k:(OA)) (l m:Nat) (n:(OA)) (o t:Nat),∀ (d a:Int) (e:KH),g s b c h i j k l m n o t d a e->(decide (a<d)=true->((0:Int)<=a/\a<(o:Int))/\∃ (u v:Nat),n=some ⟨u,v,none⟩/\∃ (p:Int),ld e ⟨u,v+((Int.toNat a)*1),none⟩ [(.int .i64 p)]/\(decide ((0:Int)<a)=true->Does (env Try.prog) 23 [(.slice h i j)] e fun ag r=>∃ (q:Int),ag=(.int .i64 q)/\∀ (f:Nat),((r f):(Option (Ent)))=none->∀ (w:Nat),(((KH.new r f (mkEnt [.int .i64 b,.int .i64 c,.int .i64 q,.int .i64 p] 0)) w):(Option (Ent)))=none->∃ (x:Nat) (y:(List Value)),((knew (KH.new r f (mkEnt [.int .i64 b,.int .i64 c,.int .i64 q,.int .i64 p] 0)) ⟨4,32,true,3,0,0,[(0,1),(1,1),(2,1),(3,1)],[.int .i64 0,.int .i64 0,.int .i64 0,.int .i64 0]⟩ (.slice (some ⟨f,0,none⟩) 1 1)):(Option (Nat × (List Value))))=(some (x,y))/\∃ (z:(OA)) (aa ab:Nat) (ac:KH),((kappend (KH.new r f (mkEnt [.int .i64 b,.int .i64 c,.int .i64 q,.int .i64 p] 0)) w ⟨4,32,true,3,0,0,[(0,1),(1,1),(2,1),(3,1)],[.int .i64 0,.int .i64 0,.int .i64 0,.int .i64 0]⟩ k l m x y):(Option (Value × KH)))=(some (.slice z aa ab,ac))/\∃ (ad:Nat),(ad:Nat)<s/\g ad b c h i j z aa ab n o t d (IntKind.wrap .i64 (a+1)) ac)/\(decide ((0:Int)<a)=false->∃ (ae:Nat),(ae:Nat)<s/\g ae b c h i j k l m n o t d (IntKind.wrap .i64 (a+1)) e))/\(decide (a<d)=false->y7 (.slice k l m) e))
def vc25 (p0 p1:Int) (p2:OA) (p2n p2c:Nat) (H:KH) (Q:PQ):Prop :=
 (vc25_L1 p0 p1 p2 p2n p2c H Q)
theorem fn25 (ok:EnvOk (env Try.prog)) {p0 p1:Int} {p2:OA} {p2n p2c:Nat} {H:KH} {Q:PQ} (h:vc25 p0 p1 p2 p2n p2c H Q):Does (env Try.prog) 25 [.int .i64 p0,.int .i64 p1,.slice p2 p2n p2c] H Q :=
 wFun_sound (W:=W25 Try.prog) ok.tt (blt_lt (by kernel_rfl)) (ff_of ok (by kernel_rfl) Try.func25) (Eq.mpr (by kernel_rfl) h)
def W33 (P:Program):WE:=⟨env P,tupT,[1,6],mkTab [(2,[.ref 1 1 0,.box 1 [.slice none 0 0,.slice none 0 0,.slice none 0 0],.tmp 3 .slice,.tmp 4 .slice,.tmp 9 .slice,.tmp 15 .slice,.tmp 16 (.int .i64),.tmp 17 (.int .i64),.tmp 36 .slice,.tmp 37 (.int .i64),.tmp 38 (.int .i64)]),(0,[.ref 1 1 0,.box 1 [.slice none 0 0,.slice none 0 0,.slice none 0 0],.tmp 3 .slice,.tmp 4 .slice,.tmp 15 .slice,.tmp 16 (.int .i64),.tmp 17 (.int .i64)])],33⟩
def vc33_J1 (y1:KH) (y2:OA) (y3 y4:Nat) (y5:OA) (y6 y7 y8:Nat) (y9:(Nat->(OA->(Nat->(Nat->(OA->(Nat->(Nat->(OA->(Nat->(Nat->(OA->(Nat->(Nat->(OA->(Nat->(Nat->(OA->(Nat->(Nat->(Int->(Int->(KH->Prop))))))))))))))))))))))) (y10:OA) (y11 y12:Nat) (y13:OA) (y14 y15:Nat) (y16:OA) (y17 y18:Nat) (y19:OA) (y20 y21:Nat) (y22:OA) (y23 y24:Nat) (y25 y26:Int):Prop :=
 (∀ (a:Nat),((y1 a):(Option (Ent)))=none->∀ (b:Nat),(((KH.new y1 a (mkEnt [(.slice y2 y3 y4)] 0)) b):(Option (Ent)))=none->∃ (c:Nat) (d:(List Value)),((knew (KH.new y1 a (mkEnt [(.slice y2 y3 y4)] 0)) ⟨1,24,false,1,4,0,[],[(.slice none 0 0)]⟩ (.slice (some ⟨a,0,none⟩) 1 1)):(Option (Nat × (List Value))))=(some (c,d))/\∃ (e:(OA)) (f g:Nat) (h:KH),((kappend (KH.new y1 a (mkEnt [(.slice y2 y3 y4)] 0)) b ⟨1,24,false,1,4,0,[],[(.slice none 0 0)]⟩ y5 y6 y7 c d):(Option (Value × KH)))=(some (.slice e f g,h))/\∃ (i:Nat),(i:Nat)<y8/\y9 i y10 y11 y12 y13 y14 y15 y16 y17 y18 y19 y20 y21 e f g y22 y23 y24 y25 (IntKind.wrap .i64 (y26+1)) h)
def vc33_L2 (y1:OA) (y2 y3:Nat) (y4:OA) (y5 y6:Nat) (y7:OA) (y8 y9:Nat) (y10:OA) (y11 y12:Nat) (y13:OA) (y14 y15:Nat) (y16:OA) (y17 y18:Nat) (y19:OA) (y20 y21:Nat) (y22 y23:Int) (y24:OA) (y25 y26:Nat) (y27:KH) (y28:Nat) (y29:(Nat->(OA->(Nat->(Nat->(OA->(Nat->(Nat->(OA->(Nat->(Nat->(OA->(Nat->(Nat->(OA->(Nat->(Nat->(OA->(Nat->(Nat->(Int->(Int->(KH->Prop))))))))))))))))))))))):Prop :=
 (∃ (f:(Nat->OA->Nat->Nat->OA->Nat->Nat->OA->Nat->Nat->OA->Nat->Nat->OA->Nat->Nat->OA->Nat->Nat->OA->Nat->Nat->Int->Int->OA->Nat->Nat->Int->Int->KH->Prop)),(∃ (av:Nat),f av y1 y2 y3 y4 y5 y6 y7 y8 y9 y10 y11 y12 y13 y14 y15 y16 y17 y18 y19 y20 y21 y22 y23 y24 y25 y26 (y25:Int) 0 y27)/\∀ (af:Nat) (g:(OA)) (h i:Nat) (j:(OA)) (k l:Nat) (m:(OA)) (n o:Nat) (p:(OA)) (q:Nat),∀ (r:Nat) (s:(OA)) (t u:Nat) (c:(OA)) (d v:Nat) (w:(OA)) (x y:Nat) (z aa:Int),∀ (ab:(OA)) (ac ag:Nat) (e a:Int) (b:KH),f af g h i j k l m n o p q r s t u c d v w x y z aa ab ac ag e a b->(decide (a<e)=true->((0:Int)<=a/\a<(ac:Int))/\∃ (al am:Nat),ab=some ⟨al,am,none⟩/\∃ (ah:Bool),ld b ⟨al,am+((Int.toNat a)*1),none⟩ [(.bool ah)]/\((0:Int)<=a/\a<(d:Int))/\∃ (an ao:Nat),c=some ⟨an,ao,none⟩/\∃ (ai:Bool),ld b ⟨an,ao+((Int.toNat a)*1),none⟩ [(.bool ai)]/\(ai=true->((0:Int)<=a/\a<(d:Int))/\∃ (ad aj:Nat),c=some ⟨ad,aj,none⟩/\(∃ (ap:(List Value)),((List.length ap):Nat)=(List.length [(Value.bool true)])/\ld b ⟨ad,aj+((Int.toNat a)*1),none⟩ ap)/\KH.may b ad/\∃ (aq:Nat),(aq:Nat)<af/\f aq g h i j k l m n o p q r s t u c d v w x y z aa ab ac ag e (IntKind.wrap .i64 (a+1)) (KH.put b ⟨ad,aj+((Int.toNat a)*1),none⟩ [(.bool true)]))/\(ai=false->((0:Int)<=a/\a<(d:Int))/\∃ (ae ak:Nat),c=some ⟨ae,ak,none⟩/\(∃ (ar:(List Value)),((List.length ar):Nat)=(List.length [(Value.bool ah)])/\ld b ⟨ae,ak+((Int.toNat a)*1),none⟩ ar)/\KH.may b ae/\∃ (au:Nat),(au:Nat)<af/\f au g h i j k l m n o p q r s t u c d v w x y z aa ab ac ag e (IntKind.wrap .i64 (a+1)) (KH.put b ⟨ae,ak+((Int.toNat a)*1),none⟩ [(.bool ah)])))/\(decide (a<e)=false->vc33_J1 b c d v s t u y28 y29 g h i j k l m n o p q r w x y z aa))
def vc33_L4 (y1:OA) (y2 y3:Nat) (y4:OA) (y5 y6:Nat) (y7:OA) (y8 y9:Nat) (y10:OA) (y11 y12:Nat) (y13:KH) (y14:PQ):Prop :=
 (∃ (d:(Nat->OA->Nat->Nat->OA->Nat->Nat->OA->Nat->Nat->OA->Nat->Nat->OA->Nat->Nat->OA->Nat->Nat->Int->Int->KH->Prop)),(∃ (ax:Nat),d ax y1 y2 y3 y4 y5 y6 y7 y8 y9 y10 y11 y12 none 0 0 y7 y8 y9 (y8:Int) 0 y13)/\∀ (y:Nat) (e:(OA)) (f g:Nat) (h:(OA)) (i j:Nat) (k:(OA)) (l m:Nat) (n:(OA)) (o:Nat),∀ (z:Nat) (p:(OA)) (q r:Nat) (s:(OA)) (t aa:Nat) (b a:Int) (u:KH),d y e f g h i j k l m n o z p q r s t aa b a u->(decide (a<b)=true->((0:Int)<=a/\a<(t:Int))/\∃ (af ag:Nat),s=some ⟨af,ag,none⟩/\∃ (v:Int) (ah:(OA)) (ai aj:Nat) (ay:(OA)) (az ba:Nat),ld u ⟨af,ag+((Int.toNat a)*3),none⟩ [.int .i64 v,.slice ah ai aj,.slice ay az ba]/\Does (env Try.prog) 48 [.agg #[.slice e f g,.slice h i j,.slice k l m],.slice ah ai aj] u fun bb x=>∃ (ak:(OA)) (al am:Nat) (ab:Bool),bb=(.tuple #[.slice ak al am,.bool ab])/\∀ (c:Nat),((x c):(Option (Ent)))=none->∀ (an:Nat),(((KH.new x c (mkEnt [(.bool false)] 0)) an):(Option (Ent)))=none->∃ (ao:Nat) (ap:(List Value)),((knew (KH.new x c (mkEnt [(.bool false)] 0)) ⟨1,1,false,9,0,0,[],[(.bool false)]⟩ (.slice (some ⟨c,0,none⟩) 1 1)):(Option (Nat × (List Value))))=(some (ao,ap))/\∃ (ac:(OA)) (ad ae:Nat) (w:KH),((kappend (KH.new x c (mkEnt [(.bool false)] 0)) an ⟨1,1,false,9,0,0,[],[(.bool false)]⟩ ak al am ao ap):(Option (Value × KH)))=(some (.slice ac ad ae,w))/\(ab=true->((0:Int)<=v/\v<(o:Int))/\∃ (aq ar:Nat),n=some ⟨aq,ar,none⟩/\∃ (au:(OA)) (av aw:Nat),ld w ⟨aq,ar+((Int.toNat v)*1),none⟩ [(.slice au av aw)]/\vc33_L2 e f g h i j k l m n o z p q r ac ad ae s t aa b a au av aw w y d)/\(ab=false->vc33_J1 w ac ad ae p q r y d e f g h i j k l m n o z s t aa b a))/\(decide (a<b)=false->y14 (.slice p q r) u))
def vc33 (p0_0:OA) (p0_0n p0_0c:Nat) (p0_1:OA) (p0_1n p0_1c:Nat) (p0_2:OA) (p0_2n p0_2c:Nat) (H:KH) (Q:PQ):Prop :=
 Does (env Try.prog) 47 [(.agg #[.slice p0_0 p0_0n p0_0c,.slice p0_1 p0_1n p0_1c,.slice p0_2 p0_2n p0_2c])] H fun d e=>∃ (a:(OA)) (b c:Nat),d=(.slice a b c)/\vc33_L4 p0_0 p0_0n p0_0c p0_1 p0_1n p0_1c p0_2 p0_2n p0_2c a b c e Q
theorem fn33 (ok:EnvOk (env Try.prog)) {p0_0:OA} {p0_0n p0_0c:Nat} {p0_1:OA} {p0_1n p0_1c:Nat} {p0_2:OA} {p0_2n p0_2c:Nat} {H:KH} {Q:PQ} (h:vc33 p0_0 p0_0n p0_0c p0_1 p0_1n p0_1c p0_2 p0_2n p0_2c H Q):Does (env Try.prog) 33 [.agg #[.slice p0_0 p0_0n p0_0c,.slice p0_1 p0_1n p0_1c,.slice p0_2 p0_2n p0_2c]] H Q :=
 wFun_sound (W:=W33 Try.prog) ok.tt (blt_lt (by kernel_rfl)) (ff_of ok (by kernel_rfl) Try.func33) (Eq.mpr (by kernel_rfl) h)
def W34 (P:Program):WE:=⟨env P,tupT,[],mkTab [(2,[.tmp 1 (.int .i64),.tmp 2 .fnk,.tmp 7 .slice,.tmp 8 (.int .i64),.tmp 9 .slice,.tmp 11 (.int .i64),.tmp 12 (.int .i64),.tmp 18 (.int .i64),.tmp 19 (.int .i64)]),(0,[.tmp 1 (.int .i64),.tmp 2 .fnk,.tmp 7 .slice,.tmp 11 (.int .i64),.tmp 12 (.int .i64)])],34⟩
def vc34_L2 (y1:Int) (y2:Nat) (y3:(List Value)) (y4:OA) (y5 y6:Nat) (y7:Int) (y8:Nat) (y9:Int) (y10:KH) (y11:Nat) (y12:(Nat->(Int->(Nat->((List Value)->(OA->(Nat->(Nat->(Int->(Int->(KH->Prop))))))))))):Prop :=
 (∃ (k:(Nat->Int->Nat->List Value->OA->Nat->Nat->Int->OA->Nat->Nat->Int->Int->Int->Int->KH->Prop)),(∃ (ai:Nat),k ai y1 y2 (Array.toList (List.toArray y3)) y4 y5 y6 y7 (some ⟨y8,0,none⟩) (Int.toNat y1) (Int.toNat y1) y9 y7 (((Int.toNat y1):Nat):Int) 0 (KH.new y10 y8 (mkEnt (lrep [(.slice none 0 0)] (Int.toNat y1)) 0)))/\∀ (x:Nat) (l:Int) (g:Nat) (h:(List Value)) (m:(OA)) (n o:Nat) (p:Int) (b:(OA)) (c e:Nat) (q:Int),∀ (r i a:Int) (d:KH),k x l g h m n o p b c e q r i a d->(decide (a<i)=true->Does (env Try.prog) g ([.int .i64 p,.int .i64 a]++h) d fun aj w=>∃ (s:(OA)) (t u:Nat),aj=(.slice s t u)/\((0:Int)<=a/\a<(c:Int))/\∃ (j v:Nat),b=some ⟨j,v,none⟩/\(∃ (y:(List Value)),((List.length y):Nat)=(List.length [(Value.slice s t u)])/\ld w ⟨j,v+((Int.toNat a)*1),none⟩ y)/\KH.may w j/\∃ (z:Nat),(z:Nat)<x/\k z l g (Array.toList (List.toArray h)) m n o p b c e q r i (IntKind.wrap .i64 (a+1)) (KH.put w ⟨j,v+((Int.toNat a)*1),none⟩ [(.slice s t u)]))/\(decide (a<i)=false->∀ (f:Nat),((d f):(Option (Ent)))=none->∀ (aa:Nat),(((KH.new d f (mkEnt [(.slice b c e)] 0)) aa):(Option (Ent)))=none->∃ (ab:Nat) (ac:(List Value)),((knew (KH.new d f (mkEnt [(.slice b c e)] 0)) ⟨1,24,false,1,83,0,[],[(.slice none 0 0)]⟩ (.slice (some ⟨f,0,none⟩) 1 1)):(Option (Nat × (List Value))))=(some (ab,ac))/\∃ (ad:(OA)) (ae af:Nat) (ag:KH),((kappend (KH.new d f (mkEnt [(.slice b c e)] 0)) aa ⟨1,24,false,1,83,0,[],[(.slice none 0 0)]⟩ m n o ab ac):(Option (Value × KH)))=(some (.slice ad ae af,ag))/\∃ (ah:Nat),(ah:Nat)<y11/\y12 ah l g (Array.toList (List.toArray h)) ad ae af q (IntKind.wrap .i64 (r+1)) ag))
def vc34_L3 (y1:Int) (y2:Nat) (y3:(List Value)) (y4:Int) (y5:KH) (y6:PQ):Prop :=
 (∃ (e:(Nat->Int->Nat->List Value->OA->Nat->Nat->Int->Int->KH->Prop)),(∃ (m:Nat),e m y1 y2 (Array.toList (List.toArray y3)) none 0 0 y4 0 y5)/\∀ (i:Nat) (a:Int) (j:Nat) (k:(List Value)) (f:(OA)) (g h:Nat) (b c:Int) (d:KH),e i a j k f g h b c d->(decide (c<b)=true->((0:Int)<=a/\a<=a/\a<=1000000)/\∀ (l:Nat),((d l):(Option (Ent)))=none->vc34_L2 a j k f g h c l b d i e)/\(decide (c<b)=false->y6 (.slice f g h) d))
def vc34 (p0 p1:Int) (p2:Nat) (p2k:(List Value)) (H:KH) (Q:PQ):Prop :=
 (vc34_L3 p1 p2 p2k p0 H Q)
theorem fn34 (ok:EnvOk (env Try.prog)) {p0 p1:Int} {p2:Nat} {p2k:List Value} {H:KH} {Q:PQ} (h:vc34 p0 p1 p2 p2k H Q):Does (env Try.prog) 34 [.int .i64 p0,.int .i64 p1,.func (.func p2) #[] (List.toArray p2k)] H Q :=
 wFun_sound (W:=W34 Try.prog) ok.tt (blt_lt (by kernel_rfl)) (ff_of ok (by kernel_rfl) Try.func34) (Eq.mpr (by kernel_rfl) h)
def W35 (P:Program):WE:=⟨env P,tupT,[],mkTab [(0,[.tmp 1 (.int .i64),.tmp 3 .ptr,.tmp 7 .slice,.tmp 12 .slice,.tmp 13 (.int .i64),.tmp 14 (.int .i64)])],35⟩
def vc35_L1 (y1:Int) (y2 y3:Nat) (y4:OA) (y5 y6:Nat) (y7:KH) (y8:PQ):Prop :=
 (∃ (g:(Nat->Int->Nat->Nat->OA->Nat->Nat->OA->Nat->Nat->Int->Int->KH->Prop)),(∃ (ak:Nat),(none:(Option Nat))=none/\g ak y1 y2 y3 none 0 0 y4 y5 y6 (y5:Int) 0 y7)/\∀ (o:Nat) (d:Int) (h i:Nat) (j:(OA)) (k l:Nat) (m:(OA)) (n p:Nat) (e b:Int),∀ (a:KH),g o d h i j k l m n p e b a->(decide (b<e)=true->((0:Int)<=b/\b<(n:Int))/\∃ (r s:Nat),m=some ⟨r,s,none⟩/\∃ (c:Int),ld a ⟨r,s+((Int.toNat b)*1),none⟩ [(.int .i64 c)]/\∃ (t:(OA)) (u al:Nat),ld a ⟨h,i,none⟩ [(.slice t u al)]/\((0:Int)<=c/\c<(u:Int))/\∃ (v w:Nat),t=some ⟨v,w,none⟩/\∃ (x:(OA)) (y am:Nat),ld a ⟨v,w+((Int.toNat c)*1),none⟩ [(.slice x y am)]/\((0:Int)<=d/\d<(y:Int))/\∃ (z aa:Nat),x=some ⟨z,aa,none⟩/\∃ (q:Bool),ld a ⟨z,aa+((Int.toNat d)*1),none⟩ [(.bool q)]/\(q=true->∀ (f:Nat),((a f):(Option (Ent)))=none->∀ (ab:Nat),(((KH.new a f (mkEnt [(.int .i64 c)] 0)) ab):(Option (Ent)))=none->∃ (ac:Nat) (ad:(List Value)),((knew (KH.new a f (mkEnt [(.int .i64 c)] 0)) ⟨1,8,false,5,0,0,[],[(.int .i64 0)]⟩ (.slice (some ⟨f,0,none⟩) 1 1)):(Option (Nat × (List Value))))=(some (ac,ad))/\∃ (ae:(OA)) (af ag:Nat) (ah:KH),((kappend (KH.new a f (mkEnt [(.int .i64 c)] 0)) ab ⟨1,8,false,5,0,0,[],[(.int .i64 0)]⟩ j k l ac ad):(Option (Value × KH)))=(some (.slice ae af ag,ah))/\∃ (ai:Nat),(ai:Nat)<o/\(none:(Option Nat))=none/\g ai d h i ae af ag m n p e (IntKind.wrap .i64 (b+1)) ah)/\(q=false->∃ (aj:Nat),(aj:Nat)<o/\(none:(Option Nat))=none/\g aj d h i j k l m n p e (IntKind.wrap .i64 (b+1)) a))/\(decide (b<e)=false->y8 (.slice j k l) a))
def vc35 (p0 p1:Int) (k0b k0o k1b k1o:Nat) (H:KH) (Q:PQ):Prop :=
 (∃ (a:(OA)) (b c:Nat) (d:(OA)) (e f:Nat) (g:(OA)) (h i:Nat),ld H ⟨k0b,k0o,none⟩ [.slice a b c,.slice d e f,.slice g h i]/\Does (env Try.prog) 36 [.agg #[.slice a b c,.slice d e f,.slice g h i],.int .i64 p0] H fun m n=>∃ (j:(OA)) (k l:Nat),m=(.slice j k l)/\vc35_L1 p1 k1b k1o j k l n Q)
theorem fn35 (ok:EnvOk (env Try.prog)) {p0 p1:Int} {k0b k0o k1b k1o:Nat} {H:KH} {Q:PQ} (h:vc35 p0 p1 k0b k0o k1b k1o H Q):Does (env Try.prog) 35 [.int .i64 p0,.int .i64 p1,.pointer (some ⟨k0b,k0o,none⟩),.pointer (some ⟨k1b,k1o,none⟩)] H Q :=
 wFun_sound (W:=W35 Try.prog) ok.tt (blt_lt (by kernel_rfl)) (ff_of ok (by kernel_rfl) Try.func35) (Eq.mpr (by kernel_rfl) h)
end Va
end Go.Proofs.Ytibkijpnkmccpaa
set_option linter.unusedSimpArgs false
namespace Go.Ew
open Go.Ev Go.Deep
section
variable {Z H H' : KH} {R : List Rr}
theorem Rwz.box {b:Nat} {cs:List Value} (w:Rwz Z H R) (l:Le H H') (hb:H b=none) (he:∃ e,H' b=some e/\wrB e=true/\rd e.cells 0 cs.length=some cs):Ps Z H' b cs R :=
 ⟨⟨w.le.trans l,w.le.none hb,fun r q=>(w.up l).ok r q,fun r q k z=>⟨w.fr r q k z,fun y=>by
  obtain ⟨e,h⟩:=(w.ok r q).has z
  rw [y,hb] at h; cases h⟩,w.dj⟩,he⟩
theorem Ps.done {p:Nat} {cs:List Value} (h:Ps Z H p cs R):∃ Z',Le Z Z'/\Rwz Z' H R/\∀ sz n,cs.length=n*sz->kold Z' sz (some ⟨p,0,none⟩) n=some cs:=by
 obtain ⟨e,h1,h2,h3⟩:=h.e
 refine ⟨Z.new p e,Le.new h.r.zp,⟨fun k e' q=>?_,h.r.ok,fun r q k z=>new_none (h.r.fr r q k z).1 (h.r.fr r q k z).2,h.r.dj⟩,fun sz n hn=>kold_some.2 ⟨e,if_pos rfl,by rw [<- hn]; exact h3⟩⟩
 simp only [KH.new] at q
 by_cases z:k=p
 .rw [if_pos z] at q; cases q; rw [z]; exact h1
 .rw [if_neg z] at q; exact h.r.le k e' q
theorem more_base {a:OA} {sz n:Nat} {ds:List Value} (lz:Le Z H) (l:Le H H') (hf:∀ b,blk a=some b->H b=none) (hk:kold H' sz a n=some ds):∃ Z',Le Z Z'/\Le Z' H'/\kold Z' sz a n=some ds/\∀ k,Z k=none->blk a≠some k->Z' k=none:=by
 cases a with
 | none=>exact ⟨Z,Le.refl Z,lz.trans l,hk,fun k q _=>q⟩
 | some ad =>
   cases hs:ad.spot with
   | some s =>
     refine ⟨Z,Le.refl Z,lz.trans l,?_,fun k q _=>q⟩
     unfold Ew.kold at hk ⊢
     simp only [hs] at hk ⊢
     exact hk
   | none =>
     obtain ⟨b,o,sp⟩:=ad
     simp only at hs
     subst hs
     obtain ⟨e,h1,h2⟩:=kold_some.1 hk
     have hb:H b=none:=hf b rfl
     refine ⟨Z.new b e,Le.new (lz.none hb),fun k e' q=>?_,kold_some.2 ⟨e,if_pos rfl,h2⟩,fun k q w=>new_none q fun y=>w (by rw [y]; rfl)⟩
     simp only [KH.new] at q
     by_cases z:k=b
     .rw [if_pos z] at q; cases q; rw [z]; exact h1
     .rw [if_neg z] at q; exact l _ _ (lz k e' q)
theorem Ps.take {p:Nat} {cs:List Value} {a:OA} {sz n:Nat} {ds:List Value} (w:Ps Z H p cs R) (l:Le H H') (hf:∀ b,blk a=some b->H b=none) (hk:kold H' sz a n=some ds):∃ Z',Le Z Z'/\Ps Z' H' p cs R/\kold Z' sz a n=some ds:=by
 obtain ⟨Z',l1,l2,k,f⟩:=more_base w.r.le l hf hk
 refine ⟨Z',l1,⟨⟨l2,f p w.r.zp fun y=>?_,(w.up l).r.ok,fun r q j z=>⟨f j (w.r.fr r q j z).1 fun y=>?_,(w.r.fr r q j z).2⟩,w.r.dj⟩,(w.up l).e⟩,k⟩
 .obtain ⟨e,h,_⟩:=w.e
  rw [hf p y] at h; cases h
 .obtain ⟨e,h⟩:=(w.r.ok r q).has z
  rw [hf j y] at h; cases h
theorem Own.box {sz n c:Nat} {a:OA} {cs:List Value} (h:Own Z H sz a n c cs) (hn:0<n):∃ b,a=some ⟨b,0,none⟩/\Z b=none/\∃ e,H b=some e/\wrB e=true/\rd e.cells 0 cs.length=some cs:=by
 have hl:=kold_len h.cells
 cases h with
 | nil=>omega
 | lit b _ _ h1 h2 h3 h4=>exact ⟨b,rfl,h4,_,h1,rfl,mk_rd⟩
 | grown b _ _ e h1 h2 h3 h4 h5 h6=>exact ⟨b,rfl,h5,e,h1,h6,by rw [hl]; exact h4⟩
end
def RwG (H:KH) (a:OA) (N len:Nat) (P:KH->OA->Int->Prop):Prop:=∃ (ad:Int->OA) (cp:Int->Nat),kold H 1 a N=some (famC (fun i=>[.slice (ad i) len (cp i)]) N)/\∀ i:Nat,i<N->P H (ad i) i
theorem RwG.up {H H':KH} {a:OA} {N len:Nat} {P:KH->OA->Int->Prop} (hP:∀ {a i},P H a i->P H' a i) (h:RwG H a N len P) (l:Le H H'):RwG H' a N len P:=by
 obtain ⟨ad,cp,h1,h2⟩:=h
 exact ⟨ad,cp,l.kold h1,fun i hi=>hP (h2 i hi)⟩
theorem RwG.at_ {H:KH} {a:OA} {N len i:Nat} {P:KH->OA->Int->Prop} (h:RwG H a N len P) (hi:i<N):∃ b o a' c',a=some ⟨b,o,none⟩/\ld H ⟨b,o+i*1,none⟩ [.slice a' len c']/\P H a' i:=by
 obtain ⟨ad,cp,h1,h2⟩:=h
 obtain ⟨b,o,e,r⟩:=fam_ld (k:=1) (fun _=>rfl) h1 hi
 exact ⟨b,o,_,_,e,r,h2 i hi⟩
def bitP (X:Int->Int->Bool) (len:Nat) (H:KH) (a:OA) (i:Int):Prop:=kold H 1 a len=some (famC (bit1 (X i)) len)
def int1 (e:Int->Int) (t:Int):List Value:=[.int .i64 (e t)]
def intP (e:Int->Int->Int) (len:Nat) (H:KH) (a:OA) (i:Int):Prop:=kold H 1 a len=some (famC (int1 (e i)) len)
def ch1 (ad:Int->OA) (f:Int->List Int) (cp:Int->Nat) (j:Int):List Value:=[.slice (ad j) (f j).length (cp j)]
def ChR (C:Nat) (f:Int->Int->List Int) (H:KH) (a:OA) (i:Int):Prop:=∃ (ad:Int->OA) (cp:Int->Nat),kold H 1 a C=some (famC (ch1 ad (f i) cp) C)/\∀ j:Nat,j<C->kold H 1 (ad j) (f i j).length=some (inC (f i j))
theorem ChR.up {C:Nat} {f:Int->Int->List Int} {H H':KH} {a:OA} {i:Int} (l:Le H H') (h:ChR C f H a i):ChR C f H' a i:=by
 obtain ⟨ad,cp,h1,h2⟩:=h
 exact ⟨ad,cp,l.kold h1,fun j hj=>l.kold (h2 j hj)⟩
theorem bitP.up {X:Int->Int->Bool} {len:Nat} {H H':KH} {a:OA} {i:Int} (l:Le H H') (h:bitP X len H a i):bitP X len H' a i:=l.kold h
theorem intP.up {X:Int->Int->Int} {len:Nat} {H H':KH} {a:OA} {i:Int} (l:Le H H') (h:intP X len H a i):intP X len H' a i:=l.kold h
theorem fam_app (h:Int->List Value) (n:Nat):famC h (n+1)=famC h n++h (n:Int):=by
 unfold famC
 rw [List.range_succ,List.flatMap_append]; simp
def mB (nl:Int->Bool) (fs fl:Int->Int->Bool) (p:Pr) (t:Int):Bool:=(ofK nl fs p.right).1 t||((ofK nl fs p.right).2&&fl p.left t)
def mX (G:List Pr) (nl:Int->Bool) (fs fl:Int->Int->Bool) (i t:Int):Bool:=match G[i.toNat]? with
 | some p=>mB nl fs fl p t
 | none=>false
theorem mX_at {G:List Pr} {nl:Int->Bool} {fs fl:Int->Int->Bool} {i:Nat} (h:i<G.length) (t:Int):mX G nl fs fl (i:Int) t=mB nl fs fl G[i] t:=by
 have e:Int.toNat ((i:Nat):Int)=i:=by omega
 unfold mX
 rw [e,List.getElem?_eq_getElem h]
def chK (ls:List Int) (X:Int->Int->Bool) (n t:Int) (k:Nat):List Int:=(offP ls n k).filter fun i=>X i t
def chG (g:Gm) (X:Int->Int->Bool) (n t:Int):List Int:=chK (lefts g) X n t g.prods.length
theorem offP_at {ls:List Int} {n:Int} {k:Nat} {x:Int} (h:x∈offP ls n k):∃ p:Nat,p<k/\x=p/\ls[p]? = some n:=by
 unfold offP at h
 obtain ⟨j,hj,rfl⟩:=List.mem_map.1 h
 obtain ⟨h1,h2⟩:=List.mem_filter.1 hj
 exact ⟨j,List.mem_range.1 h1,rfl,of_decide_eq_true h2⟩
theorem chK_len (ls:List Int) (X:Int->Int->Bool) (n t:Int) (k:Nat):(chK ls X n t k).length<=k:=Nat.le_trans (List.length_filter_le _ _) (offP_len ls n k)
def ent (l:List Int):Int:=l.headD (-1)
structure Clh where
 nt:Int
 tok:Int
 a:Int
 b:Int
def clV (l:List Clh):List Value:=l.flatMap fun x=>[.int .i64 x.nt,.int .i64 x.tok,.int .i64 x.a,.int .i64 x.b]
theorem clV_app (l m:List Clh):clV (l++m)=clV l++clV m:=List.flatMap_append
theorem clV_len (l:List Clh):(clV l).length=l.length*4:=fm_len (k:=4) (fun _=>rfl) l
def cl1 (n t:Int) (l:List Int):List Clh:=l.tail.map fun b=>⟨n,t,ent l,b⟩
def clR (f:Int->Int->List Int) (n:Int) (C:Nat):List Clh:=(List.range C).flatMap fun t:Nat=>cl1 n t (f n t)
def clA (f:Int->Int->List Int) (N C:Nat):List Clh:=(List.range N).flatMap fun n:Nat=>clR f n C
theorem clR_succ (f:Int->Int->List Int) (n:Int) (C:Nat):clR f n (C+1)=clR f n C++cl1 n C (f n C):=by
 unfold clR
 rw [List.range_succ,List.flatMap_append]; simp
theorem clA_succ (f:Int->Int->List Int) (N C:Nat):clA f (N+1) C=clA f N C++clR f N C:=by
 unfold clA
 rw [List.range_succ,List.flatMap_append]; simp
theorem cl1_len {n t:Int} {l:List Int} {k:Nat} (h:l.length<=k):(cl1 n t l).length<=k:=by
 unfold cl1
 rw [List.length_map,List.length_tail]; omega
theorem clR_len {f:Int->Int->List Int} {k:Nat} (h:∀ n t,(f n t).length<=k) (n:Int):∀ C:Nat,(clR f n C).length<=C*k
 | 0=>by simp [clR]
 | C+1=>by
   rw [clR_succ,List.length_append,Nat.succ_mul]
   have:=clR_len h n C
   have:=cl1_len (n:=n) (t:=C) (h n C)
   omega
theorem clA_len {f:Int->Int->List Int} {k:Nat} (h:∀ n t,(f n t).length<=k) (C:Nat):∀ N:Nat,(clA f N C).length<=N*(C*k)
 | 0=>by simp [clA]
 | N+1=>by
   rw [clA_succ,List.length_append,Nat.succ_mul]
   have:=clA_len h C N
   have:=clR_len h N C
   omega
def tiCl:TI:=⟨4,32,true,3,0,0,[(0,1),(1,1),(2,1),(3,1)],[.int .i64 0,.int .i64 0,.int .i64 0,.int .i64 0]⟩
def tiII:TI:=⟨1,24,false,1,3,0,[],[.slice none 0 0]⟩
def tiCh:TI:=⟨1,24,false,1,83,0,[],[.slice none 0 0]⟩
theorem cl1_take {n t:Int} {l:List Int} {i:Nat} (h:i<l.length):cl1 n t (l.take (i+1))=cl1 n t (l.take i)++(if 0<i then [⟨n,t,ent l,l[i]⟩] else []):=by
 cases l with
 | nil=>simp at h
 | cons x r =>
   cases i with
   | zero=>simp [cl1]
   | succ i =>
     have hi:i<r.length:=by simpa using h
     have e:r.take (i+1)=r.take i++[r[i]]:=by rw [List.take_add_one,List.getElem?_eq_getElem hi]; rfl
     rw [List.take_succ_cons,List.take_succ_cons,e,if_pos (Nat.succ_pos i)]
     show List.map (fun b=>(⟨n,t,x,b⟩:Clh)) (r.take i++[r[i]])=List.map (fun b=>(⟨n,t,x,b⟩:Clh)) (r.take i)++[⟨n,t,x,r[i]⟩]
     rw [List.map_append]; rfl
theorem take_suc {α:Type} {l:List α} {i:Nat} (h:i<l.length):l.take (i+1)=l.take i++[l[i]]:=by rw [List.take_add_one,List.getElem?_eq_getElem h]; rfl
end Go.Ew
namespace Go.Proofs.Ytibkijpnkmccpaa
open Go.Ev Go.Ew
namespace Va
theorem c7 {H:KH} {Q:PQ} (hq:Q (.bool true) H):Does (env Try.prog) 7 [] H Q:=does_true (by kernel_rfl) (by kernel_rfl) (by kernel_rfl) hq
section
variable (ok : EnvOk (env Try.prog))
include ok
theorem c23 {a:OA} {c:Nat} {l:List Int} {H:KH} {Q:PQ} (hk:kold H 1 a l.length=some (inC l)) (hq:Q (.int .i64 (ent l)) H):Does (env Try.prog) 23 [.slice a l.length c] H Q:=by
 refine fn23 ok ⟨fun z=>?_,fun z=>?_⟩
 .have z:=of_decide_eq_true z
  have e:l=[]:=List.eq_nil_of_length_eq_zero (by omega)
  rw [e] at hq
  exact hq
 .have z:=of_decide_eq_false z
  have h0:0<l.length:=by omega
  obtain ⟨b,o,e,r⟩:=in_ld hk h0
  refine ⟨⟨by omega,by omega⟩,b,o,e,_,r,?_⟩
  have e1:ent l=l[0]:=by
   cases l with
   | nil=>simp at h0
   | cons x r=>rfl
  rw [<- e1]; exact hq
theorem c25 {a:OA} {c:Nat} {n t:Int} {l:List Int} {H:KH} {Q:PQ} (hk:kold H 1 a l.length=some (inC l)) (hl:l.length<=1000)
 (hq:∀ a' c' H',Le H H'->kold H' 4 a' (cl1 n t l).length=some (clV (cl1 n t l))->Q (.slice a' (cl1 n t l).length c') H'):Does (env Try.prog) 25 [.int .i64 n,.int .i64 t,.slice a l.length c] H Q:=by
 refine fn25 ok ?_
 show vc25_L1 _ _ _ _ _ _ _
 unfold vc25_L1
 refine ⟨fun k x4 x5 a6 n7 n8 a9 n10 n11 a12 n13 n14 x15 x16 H17=>x4=n/\x5=t/\a6=a/\n7=l.length/\a12=a/\n13=l.length/\x15=l.length/\∃ i:Nat,x16=i/\i<=l.length/\k=l.length-i/\n10=(cl1 n t (l.take i)).length/\Nr H H17 4 a9 n10 n11 (clV (cl1 n t (l.take i))),⟨_,rfl,rfl,rfl,rfl,rfl,rfl,rfl,0,rfl,by omega,rfl,rfl,.nil (Le.refl H)⟩,?_⟩
 rintro k x4 x5 a6 n7 n8 a9 n10 n11 a12 n13 n14 x15 x16 H17 ⟨rfl,rfl,rfl,rfl,rfl,rfl,rfl,i,rfl,hi,rfl,rfl,o⟩
 refine ⟨fun z=>?_,fun z=>?_⟩
 .have z:i<l.length:=by have:=of_decide_eq_true z; omega
  have e0:Int.toNat ((i:Nat):Int)=i:=by omega
  have hi1:IntKind.wrap .i64 (((i:Nat):Int)+1)=((i+1:Nat):Int):=by rw [wrap64 (by omega) (by omega)]; omega
  obtain ⟨b,p,e,r⟩:=in_ld (o.le.kold hk) z
  have ec:=cl1_take (n:=x4) (t:=x5) z
  have hlen:=cl1_len (n:=x4) (t:=x5) (l:=l.take i) (k:=l.length) (by rw [List.length_take]; omega)
  rw [e0,hi1]
  refine ⟨⟨by omega,by omega⟩,b,p,e,_,r,fun y=>?_,fun y=>?_⟩
  .have y:0<i:=by have:=of_decide_eq_true y; omega
   rw [if_pos y] at ec
   refine c23 ok (o.le.kold hk) ⟨_,rfl,fun n7 h7 n8 h8=>⟨1,_,knew_of (ti:=tiCl) (lit_kold (if_pos rfl) rfl),?_⟩⟩
   obtain ⟨a',c',H',f1,f2,f3⟩:=(o.up (Le.new h7)).app (ti:=tiCl) (nm:=n8) (m:=1) (new:=[.int .i64 x4,.int .i64 x5,.int .i64 (ent l),.int .i64 l[i]]) h8 rfl (by omega) (by decide) (by decide)
   refine ⟨a',_,c',H',f1,l.length-(i+1),by omega,rfl,rfl,rfl,rfl,rfl,rfl,rfl,i+1,rfl,z,rfl,by rw [ec,List.length_append]; rfl,?_⟩
   rw [ec,clV_app]; exact f2
  .have y:¬ 0<i:=by have:=of_decide_eq_false y; omega
   rw [if_neg y,List.append_nil] at ec
   exact ⟨l.length-(i+1),by omega,rfl,rfl,rfl,rfl,rfl,rfl,rfl,i+1,rfl,z,rfl,by rw [ec],by rw [ec]; exact o⟩
 .have z:i=l.length:=by have:=of_decide_eq_false z; omega
  subst z
  rw [List.take_length] at o ⊢
  exact hq _ _ _ o.le o.row
theorem c50 {x:Pr} {nt:Int} {b:Nat} {H:KH} {Q:PQ} (hb:ld H ⟨b,0,none⟩ [.int .i64 nt]) (hq:Q (.bool (decide (x.left=nt))) H):Does (env Try.prog) 50 [prV x,.pointer (some ⟨b,0,none⟩)] H Q:=fn50 ok ⟨_,hb,hq⟩
theorem c49 {g:Gm} {nt:Int} {b:Nat} {H:KH} {Q:PQ} (hg:GI H g) (hb:ld H ⟨b,0,none⟩ [.int .i64 nt]) (hs:g.prods.length<=100000) (hq:∀ a c H',Ni H H' a c (offG g nt)->Q (.slice a (offG g nt).length c) H'):Does (env Try.prog) 49 [.slice g.pa g.prods.length g.pc,.func (.func 50) #[] #[.pointer (some ⟨b,0,none⟩)]] H Q:=by
 refine fn49 ok (p1:=50) (p1k:=[.pointer (some ⟨b,0,none⟩)]) ?_
 show vc49_L1 _ _ _ _ _ _ _
 unfold vc49_L1
 refine ⟨fun k n4 l5 a6 n7 n8 a9 n10 n11 x12 x13 H14=>n4=50/\l5=[.pointer (some ⟨b,0,none⟩)]/\a9=g.pa/\n10=g.prods.length/\x12=g.prods.length/\∃ i:Nat,x13=i/\i<=g.prods.length/\k=g.prods.length-i/\n7=(offP (lefts g) nt i).length/\Nr H H14 1 a6 n7 n8 (inC (offP (lefts g) nt i)),⟨_,rfl,rfl,rfl,rfl,rfl,0,rfl,by omega,rfl,rfl,.nil (Le.refl H)⟩,?_⟩
 rintro k n4 l5 a6 n7 n8 a9 n10 n11 x12 x13 H14 ⟨rfl,rfl,rfl,rfl,rfl,i,rfl,hi,rfl,rfl,o⟩
 refine ⟨fun hlt=>?_,fun hge=>?_⟩
 .have hlt:i<g.prods.length:=by have:=of_decide_eq_true hlt; omega
  have e0:Int.toNat ((i:Nat):Int)=i:=by omega
  have hi1:IntKind.wrap .i64 (((i:Nat):Int)+1)=((i+1:Nat):Int):=by rw [wrap64 (by omega) (by omega)]; omega
  have hl:=offP_len (lefts g) nt i
  obtain ⟨b0,o0,ha,r0⟩:=pr_ld (o.le.kold hg.p) hlt
  rw [e0,hi1]
  refine ⟨⟨by omega,by omega⟩,b0,o0,ha,_,_,_,_,_,_,_,r0,c50 ok (x:=g.prods[i]) (o.le.ld hb) ⟨_,rfl,fun z=>fun n6 h6 n7 h7=>⟨_,_,knew_of (ti:=tiI) (lit_kold (if_pos rfl) rfl),?_⟩,fun z=>?_⟩⟩
  .have z:=of_decide_eq_true z
   obtain ⟨a5,c5,H5,f1,f2,f3⟩:=(o.up (Le.new h6)).app (ti:=tiI) (nm:=n7) (m:=1) (new:=[.int .i64 ((i:Nat):Int)]) h7 rfl (by omega) (by decide) (by decide)
   have e:offP (lefts g) nt (i+1)=offP (lefts g) nt i++[((i:Nat):Int)]:=by rw [offP_succ,if_pos (by rw [lefts_at hlt,z])]
   refine ⟨a5,_,c5,H5,f1,g.prods.length-(i+1),by omega,rfl,rfl,rfl,rfl,rfl,i+1,rfl,by omega,rfl,by rw [e,List.length_append]; rfl,?_⟩
   rw [e,inC_app]; exact f2
  .have z:=of_decide_eq_false z
   have e:offP (lefts g) nt (i+1)=offP (lefts g) nt i:=by rw [offP_succ,if_neg (by rw [lefts_at hlt]; exact fun w=>z (Option.some.inj w)),List.append_nil]
   refine ⟨g.prods.length-(i+1),by omega,rfl,rfl,rfl,rfl,rfl,i+1,rfl,by omega,rfl,by rw [e],?_⟩
   rw [e]; exact o
 .have hge:i=g.prods.length:=by have:=of_decide_eq_false hge; omega
  subst hge
  exact hq _ _ _ o
theorem c36 {g:Gm} {nt:Int} {H:KH} {Q:PQ} (hg:GI H g) (hs:g.prods.length<=100000) (hq:∀ a c H',Ni H H' a c (offG g nt)->Q (.slice a (offG g nt).length c) H'):Does (env Try.prog) 36 [gv g,.int .i64 nt] H Q:=by
 refine fn36 ok fun n1 h1=>c31 ok (v:=.bool true) ⟨_,_,_,_,_,_,_,_,_,rfl,?_⟩
 exact c49 ok (hg.up (Le.new h1)) ⟨rfl,_,if_pos rfl,mk_rd (cs:=[.int .i64 nt]) (u:=0)⟩ hs fun a c H' o=>⟨a,_,c,rfl,hq a c H' (o.from_ (Le.new h1))⟩
theorem c35 {g:Gm} {n:Int} {t k0 k1 c:Nat} {a:OA} {X:Int->Int->Bool} {H:KH} {Q:PQ} (hk0:ld H ⟨k0,0,none⟩ [.slice g.ta g.toks.length g.tc,.slice g.na g.nts.length g.nc,.slice g.pa g.prods.length g.pc]) (hk1:ld H ⟨k1,0,none⟩ [.slice a g.prods.length c]) (hg:GI H g) (hm:MayG g) (hX:RwG H a g.prods.length (g.toks.length+1) (bitP X (g.toks.length+1))) (ht:t<g.toks.length+1)
 (hq:∀ a c H',Ni H H' a c (chG g X n t)->Q (.slice a (chG g X n t).length c) H'):Does (env Try.prog) 35 [.int .i64 n,.int .i64 ((t:Nat):Int),.pointer (some ⟨k0,0,none⟩),.pointer (some ⟨k1,0,none⟩)] H Q:=by
 have hP:=hm.p
 refine fn35 ok ⟨_,_,_,_,_,_,_,_,_,hk0,c36 ok hg (by omega) fun a1 c1 H1 o1=>⟨a1,_,c1,rfl,?_⟩⟩
 have hlo:=offP_len (lefts g) n g.prods.length
 show vc35_L1 _ _ _ _ _ _ _ _
 unfold vc35_L1
 refine ⟨fun k x4 n5 n6 a7 n8 n9 a10 n11 n12 x13 x14 H15=>x4=t/\n5=k1/\n6=0/\a10=a1/\n11=(offG g n).length/\x13=(offG g n).length/\∃ i:Nat,x14=i/\i<=(offG g n).length/\k=(offG g n).length-i/\n8=(((offG g n).take i).filter fun i=>X i t).length/\Nr H1 H15 1 a7 n8 n9 (inC (((offG g n).take i).filter fun i=>X i t)),⟨_,rfl,rfl,rfl,rfl,rfl,rfl,rfl,0,rfl,by omega,rfl,rfl,.nil (Le.refl H1)⟩,?_⟩
 rintro k x4 n5 n6 a7 n8 n9 a10 n11 n12 x13 x14 H15 ⟨rfl,rfl,rfl,rfl,rfl,rfl,i,rfl,hi,rfl,rfl,o⟩
 have hlo:(offG g n).length<=g.prods.length:=hlo
 refine ⟨fun z=>?_,fun z=>?_⟩
 .have z:i<(offG g n).length:=by have:=of_decide_eq_true z; omega
  have e0:Int.toNat ((i:Nat):Int)=i:=by omega
  have et:Int.toNat ((t:Nat):Int)=t:=by omega
  have hi1:IntKind.wrap .i64 (((i:Nat):Int)+1)=((i+1:Nat):Int):=by rw [wrap64 (by omega) (by omega)]; omega
  have l15:=o1.le.trans o.le
  obtain ⟨b,p,e,r⟩:=in_ld (o.le.kold o1.row) z
  obtain ⟨y,hy,ey,_⟩:=offP_at (List.getElem_mem (l:=offG g n) z)
  have ts:=take_suc z
  have fl:(((offG g n).take i).filter fun i=>X i t).length<=g.prods.length:=Nat.le_trans (List.length_filter_le _ _) (by rw [List.length_take]; omega)
  rw [e0,hi1]
  refine ⟨⟨by omega,by omega⟩,b,p,e,_,r,_,_,_,l15.ld hk1,⟨by omega,by omega⟩,?_⟩
  obtain ⟨b2,p2,a2,c2,e2,r2,q2⟩:=(hX.up (fun h=>bitP.up l15 h) l15).at_ hy
  obtain ⟨b3,p3,e3,r3⟩:=bit_ld q2 ht
  have ey2:Int.toNat (offG g n)[i]=y:=by omega
  rw [ey2,et]
  refine ⟨b2,p2,e2,_,_,_,r2,⟨by omega,by omega⟩,b3,p3,e3,_,r3,fun w=>fun n15 h15 n16 h16=>⟨1,_,knew_of (ti:=tiI) (lit_kold (if_pos rfl) rfl),?_⟩,fun w=>?_⟩
  .rw [<- ey] at w
   have ef:((offG g n).take (i+1)).filter (fun i=>X i t)=((offG g n).take i).filter (fun i=>X i t)++[(offG g n)[i]]:=by rw [ts,List.filter_append]; simp [w]
   obtain ⟨a5,c5,H5,f1,f2,f3⟩:=(o.up (Le.new h15)).app (ti:=tiI) (nm:=n16) (m:=1) (new:=[.int .i64 (offG g n)[i]]) h16 rfl (by omega) (by decide) (by decide)
   refine ⟨a5,_,c5,H5,f1,(offG g n).length-(i+1),by omega,rfl,rfl,rfl,rfl,rfl,rfl,rfl,i+1,rfl,z,rfl,by rw [ef,List.length_append]; rfl,?_⟩
   rw [ef,inC_app]; exact f2
  .rw [<- ey] at w
   have ef:((offG g n).take (i+1)).filter (fun i=>X i t)=((offG g n).take i).filter (fun i=>X i t):=by rw [ts,List.filter_append]; simp [w]
   exact ⟨(offG g n).length-(i+1),by omega,rfl,rfl,rfl,rfl,rfl,rfl,rfl,i+1,rfl,z,rfl,by rw [ef],by rw [ef]; exact o⟩
 .have z:i=(offG g n).length:=by have:=of_decide_eq_false z; omega
  subst z
  rw [List.take_length] at o ⊢
  exact hq _ _ _ (o.from_ o1.le)
theorem c48o {g:Gm} {ra:OA} {rc:Nat} {r:List Sy} {H:KH} {nl:Int->Bool} {fs:Int->Int->Bool} {Q:PQ} (hg:GI H g) (hm:MayG g) (hr:kold H 2 ra r.length=some (syC r)) (hs:SymsIn g.toks.length g.nts.length r) (hl:r.length<=1000) (iN:IsN g.prods nl) (iF:IsF g.prods fs)
 (hq:∀ a c Y H',Le H Y->Le Y H'->Own Y H' 1 a g.toks.length c (famC (bit1 (ofK nl fs r).1) g.toks.length)->Q (.tuple #[.slice a g.toks.length c,.bool (ofK nl fs r).2]) H'):Does (env Try.prog) 48 [gv g,.slice ra r.length rc] H Q:=by
 have ht:=hm.t
 refine fn48 ok (c20 ok hg hm.few fun b H2 l2 hb=>⟨b,rfl,fun z=>?_,fun z=>c62 ok (hg.up l2) hm fun b1 b2 H3 nl' fs' l3 k1 hN k2 hI hF=>⟨_,_,_,_,_,_,_,rfl,c63 ok k1 k2 ((l2.trans l3).kold hr) hs ht.2 hl fun H11 l11=>⟨_,_,_,_,_,_,_,_,_,_,rfl,fun n22 h22=>?_⟩⟩⟩)
 .rw [hb.2 hm] at z; cases z
 rw [isN_eq hN iN,isF_eq hF iF]
 have w0:=Bx9.mk0 (F:=fun _=>false) h22
 have w1:Bx9 H11 (KH.put (H11.new n22 (mkEnt (kC fun _=>false) 0)) ⟨n22,0,none⟩ (kC (ofK nl fs r).1)) n22 (ofK nl fs r).1:=Bxs.put w0 (j:=()) trivial (xs:=[]) (ys:=kC fun _=>false) (zs:=[]) (vs:=kC (ofK nl fs r).1) (by simp) rfl (cs':=fun _=>kC (ofK nl fs r).1) (by simp) fun _ _ hi=>absurd rfl hi
 have eM:Int.toNat ((g.toks.length:Nat):Int)=g.toks.length:=by omega
 rw [eM]
 refine ⟨⟨kC fun _=>false,rfl,w0.all⟩,Bxs.may w0 (j:=()) trivial,rfl,⟨by omega,by omega⟩,c64 ok (w1.cut (by omega)) (by omega) (by omega) fun a' c' H' l' o=>⟨_,_,_,rfl,hq a' c' _ H' (l2.trans (l3.trans (l11.trans w1.le))) l' o⟩⟩
end
end Va
end Go.Proofs.Ytibkijpnkmccpaa
namespace Go.Ew
open Go.Ev Go.Deep
def hd1 (ad:Int->OA) (len:Nat) (cp:Int->Nat) (j:Int):List Value:=[.slice (ad j) len (cp j)]
structure Bnd (H0 Z H:KH) (a:OA) (i c len:Nat) (P:KH->OA->Int->Prop) (ad:Int->OA) (cp:Int->Nat):Prop where
 le:Le H0 Z
 p:∀ j:Nat,j<i->P Z (ad j) j
 w:Rwz Z H [⟨1,a,i,c,famC (hd1 ad len cp) i⟩]
theorem Bnd.nil (H:KH) (len:Nat) (P:KH->OA->Int->Prop):Bnd H H H none 0 0 len P (fun _=>none) (fun _=>0):=⟨Le.refl H,fun j h=>absurd h (by omega),(Rwz.nil (Le.refl H)).none_⟩
theorem Bnd.add {H0 Z Z' H H':KH} {a a2:OA} {i c c2 len n1 n2:Nat} {P:KH->OA->Int->Prop} {ad:Int->OA} {cp:Int->Nat} {ti:TI} (h:Bnd H0 Z H a i c len P ad cp) (hP:∀ {Z Z' a j},Le Z Z'->P Z a j->P Z' a j)
 (l:Le Z Z') (w:Rwz Z' H' [⟨1,a,i,c,famC (hd1 ad len cp) i⟩]) (p:P Z' a2 i) (h1:H' n1=none) (h2:(H'.new n1 (mkEnt [.slice a2 len c2] 0)) n2=none) (hs:ti.size=1) (hb:ti.bytes<=1000000) (hi:i<1000000) :
 ∃ a' c' H'',kappend (H'.new n1 (mkEnt [.slice a2 len c2] 0)) n2 ti a i c 1 [.slice a2 len c2]=some (.slice a' (i+1) c',H'')/\∃ ad' cp',Bnd H0 Z' H'' a' (i+1) c' len P ad' cp':=by
 obtain ⟨a',c',H'',f1,f2⟩:=(w.new h1).app (ti:=ti) (nm:=n2) (m:=1) (new:=[.slice a2 len c2]) h2 hs.symm (by rw [hs]; rfl) (by show i+1<=_; omega) hb (by omega) (by omega)
 refine ⟨a',c',H'',f1,fun j=>if j=(i:Int) then a2 else ad j,fun j=>if j=(i:Int) then c2 else cp j,h.le.trans l,fun j hj=>?_,?_⟩
 .by_cases z:j=i
  .subst z
   show P Z' (if ((j:Nat):Int)=j then a2 else ad j) j
   rw [if_pos rfl]; exact p
  .show P Z' (if ((j:Nat):Int)=i then a2 else ad j) j
   rw [if_neg (by omega)]
   exact hP l (h.p j (by omega))
 .have e:famC (hd1 (fun j=>if j=(i:Int) then a2 else ad j) len fun j=>if j=(i:Int) then c2 else cp j) (i+1)=famC (hd1 ad len cp) i++[.slice a2 len c2]:=by
   rw [fam_app]
   congr 1
   .refine fam_congr fun j hj=>?_
    have hne:((j:Nat):Int)≠(i:Int):=by omega
    simp only [hd1,if_neg hne]
   .simp [hd1]
  rw [e]; exact f2
theorem Bnd.done {H0 Z H:KH} {a:OA} {i c len:Nat} {P:KH->OA->Int->Prop} {ad:Int->OA} {cp:Int->Nat} (h:Bnd H0 Z H a i c len P ad cp) (hP:∀ {Z Z' a j},Le Z Z'->P Z a j->P Z' a j):Le H0 H/\RwG H a i len P :=
 ⟨h.le.trans h.w.le,ad,cp,h.w.head.row,fun j hj=>hP h.w.le (h.p j hj)⟩
theorem fam_len1 (g:Int->Value) (n:Nat):(famC (fun i=>[g i]) n).length=n:=by rw [fam_len (k:=1) (fun _=>rfl),Nat.mul_one]
theorem fam_get1 (g:Int->Value) {n k:Nat} (h:k<n):(famC (fun i=>[g i]) n)[k]? = some (g k):=by
 have e:famC (fun i=>[g i]) n=(List.range n).map fun i:Nat=>g i:=by
  unfold famC
  clear h
  induction n with
  | zero=>rfl
  | succ n ih=>rw [List.range_succ,List.flatMap_append,List.map_append,ih]; rfl
 rw [e,List.getElem?_map,List.getElem?_range h]; rfl
theorem fam_set1 {g g':Int->Value} {n k:Nat} {v:Value} (h:k<n) (e:∀ j:Nat,j≠k->g' j=g j) (ev:g' k=v):(famC (fun i=>[g i]) n).set k v=famC (fun i=>[g' i]) n:=by
 apply List.ext_getElem?
 intro j
 by_cases hj:j<n
 .rw [fam_get1 g' hj,List.getElem?_set]
  by_cases z:k=j
  .subst z
   rw [if_pos rfl,if_pos (by rw [fam_len1]; exact h),ev]
  .rw [if_neg z,fam_get1 g hj,e j (by omega)]
 .rw [List.getElem?_eq_none (by rw [List.length_set,fam_len1]; omega),List.getElem?_eq_none (by rw [fam_len1]; omega)]
end Go.Ew
namespace Go.Proofs.Ytibkijpnkmccpaa
open Go.Ev Go.Ew
namespace Va
section
variable (ok : EnvOk (env Try.prog))
include ok
theorem c22 {a:OA} {c N C:Nat} {f:Int->Int->List Int} {H:KH} {Q:PQ} (hG:RwG H a N C (ChR C f)) (hN:N<=1000) (hC:C<=1000)
 (hq:∀ a' c' H',Le H H'->RwG H' a' N C (intP (fun n t=>ent (f n t)) C)->Q (.slice a' N c') H'):Does (env Try.prog) 22 [.slice a N c,.func (.func 23) #[] #[]] H Q:=by
 refine fn22 ok ?_
 show vc22_L3 _ _ _ _ _ _
 unfold vc22_L3
 refine ⟨fun k n4 l5 a6 n7 n8 a9 n10 n11 x12 x13 H14=>(23=n4/\[]=l5/\a=a9/\N=n10/\((N:Nat):Int)=x12)/\∃ (i:Nat) (Z:KH) (ad:Int->OA) (cp:Int->Nat),x13=i/\i<=N/\k=N-i/\n7=i/\Bnd H Z H14 a6 i n8 C (intP (fun n t=>ent (f n t)) C) ad cp,⟨N,⟨rfl,rfl,rfl,rfl,rfl⟩,0,_,_,_,rfl,by omega,rfl,rfl,Bnd.nil H C _⟩,?_⟩
 rintro k n4 l5 a6 n7 n8 a9 n10 n11 x12 x13 H14 ⟨⟨rfl,rfl,rfl,rfl,rfl⟩,i,Z,ad,cp,rfl,hi,rfl,rfl,w⟩
 refine ⟨fun z=>?_,fun z=>?_⟩
 .have z:n7<N:=by have:=of_decide_eq_true z; omega
  have e0:Int.toNat ((n7:Nat):Int)=n7:=by omega
  have hi1:IntKind.wrap .i64 (((n7:Nat):Int)+1)=((n7+1:Nat):Int):=by rw [wrap64 (by omega) (by omega)]; omega
  obtain ⟨b,o,a1,c1,e1,r1,adc,cpc,q1,q2⟩:=(hG.up (fun h=>ChR.up w.le h) w.le).at_ z
  rw [e0]
  refine ⟨⟨by omega,by omega⟩,b,o,e1,_,_,_,w.w.le.ld r1,?_⟩
  unfold vc22_L2
  refine ⟨fun k m4 l5 b6 m7 m8 a9' n10' n11' a12 n13 n14 x15 x16 a17 n18 n19 x20 x21 H22=>(23=m4/\[]=l5/\a6=b6/\n7=m7/\n8=m8/\a=a12/\N=n13/\n11=n14/\((N:Nat):Int)=x15/\((n7:Nat):Int)=x16/\a1=a17/\C=n18/\((C:Nat):Int)=x20)/\∃ j:Nat,x21=j/\j<=C/\k=C-j/\n10'=j/\Rwz Z H22 [⟨1,a9',j,n11',famC (int1 fun t=>ent (f n7 t)) j⟩,⟨1,a6,n7,n8,famC (hd1 ad C cp) n7⟩],⟨C,⟨rfl,rfl,rfl,rfl,rfl,rfl,rfl,rfl,rfl,rfl,rfl,rfl,rfl⟩,0,rfl,by omega,rfl,rfl,w.w.none_⟩,?_⟩
  rintro k m4 l5 b6 m7 m8 a9' n10' n11' a12 n13 n14 x15 x16 a17 n18 n19 x20 x21 H22 ⟨⟨rfl,rfl,rfl,rfl,rfl,rfl,rfl,rfl,rfl,rfl,rfl,rfl,rfl⟩,j,rfl,hj,rfl,rfl,v⟩
  refine ⟨fun y=>?_,fun y=>?_⟩
  .have y:n10'<C:=by have:=of_decide_eq_true y; omega
   have f0:Int.toNat ((n10':Nat):Int)=n10':=by omega
   have hj1:IntKind.wrap .i64 (((n10':Nat):Int)+1)=((n10'+1:Nat):Int):=by rw [wrap64 (by omega) (by omega)]; omega
   obtain ⟨b2,o2,e2,r2⟩:=fam_ld (k:=1) (fun _=>rfl) q1 y
   rw [f0,hj1]
   refine ⟨⟨by omega,by omega⟩,b2,o2,e2,_,_,_,v.le.ld r2,c23 ok (v.le.kold (q2 n10' y)) ⟨_,rfl,fun n9 h9 n10 h10=>⟨1,_,knew_of (ti:=tiI) (lit_kold (if_pos rfl) rfl),?_⟩⟩⟩
   obtain ⟨a',c',H',g1,g2⟩:=(v.new h9).app (ti:=tiI) (nm:=n10) (m:=1) (new:=[.int .i64 (ent (f n7 n10'))]) h10 rfl rfl (by show n10'+1<=_; omega) (by decide) (by decide)
   refine ⟨a',_,c',H',g1,C-(n10'+1),by omega,⟨rfl,rfl,rfl,rfl,rfl,rfl,rfl,rfl,rfl,rfl,rfl,rfl,rfl⟩,n10'+1,rfl,y,rfl,rfl,?_⟩
   rw [fam_app]; exact g2
  .have y:n10'=C:=by have:=of_decide_eq_false y; omega
   subst y
   obtain ⟨Z',lz,v',kz⟩:=v.freeze
   intro n1 h1 n2 h2
   refine ⟨1,_,knew_of (ti:=tiII) (lit_kold (if_pos rfl) rfl),?_⟩
   obtain ⟨a',c',H',g1,ad',cp',g2⟩:=w.add (ti:=tiII) (fun l h=>intP.up l h) lz v' kz h1 h2 rfl (by decide) (by omega)
   rw [hi1]
   exact ⟨a',_,c',H',g1,N-(n7+1),by omega,⟨rfl,rfl,rfl,rfl,rfl⟩,n7+1,Z',ad',cp',rfl,z,rfl,rfl,g2⟩
 .have z:n7=N:=by have:=of_decide_eq_false z; omega
  subst z
  obtain ⟨d1,d2⟩:=w.done fun l h=>intP.up l h
  exact hq _ _ _ d1 d2
theorem c24 {a:OA} {c N C:Nat} {f:Int->Int->List Int} {H:KH} {Q:PQ} (hG:RwG H a N C (ChR C f)) (hN:N<=100) (hC:C<=100) (hf:∀ n t,(f n t).length<=16)
 (hq:∀ a' c' H',Le H H'->kold H' 4 a' (clA f N C).length=some (clV (clA f N C))->Q (.slice a' (clA f N C).length c') H'):Does (env Try.prog) 24 [.slice a N c,.func (.func 25) #[] #[]] H Q:=by
 refine fn24 ok ?_
 show vc24_L2 _ _ _ _ _ _
 unfold vc24_L2
 refine ⟨fun k n4 l5 a6 n7 n8 a9 n10 n11 x12 x13 H14=>(25=n4/\[]=l5/\a=a9/\N=n10/\((N:Nat):Int)=x12)/\∃ i:Nat,x13=i/\i<=N/\k=N-i/\n7=(clA f i C).length/\Nr H H14 4 a6 n7 n8 (clV (clA f i C)),⟨N,⟨rfl,rfl,rfl,rfl,rfl⟩,0,rfl,by omega,rfl,rfl,.nil (Le.refl H)⟩,?_⟩
 rintro k n4 l5 a6 n7 n8 a9 n10 n11 x12 x13 H14 ⟨⟨rfl,rfl,rfl,rfl,rfl⟩,i,rfl,hi,rfl,rfl,w⟩
 refine ⟨fun z=>?_,fun z=>?_⟩
 .have z:i<N:=by have:=of_decide_eq_true z; omega
  have e0:Int.toNat ((i:Nat):Int)=i:=by omega
  have hi1:IntKind.wrap .i64 (((i:Nat):Int)+1)=((i+1:Nat):Int):=by rw [wrap64 (by omega) (by omega)]; omega
  obtain ⟨b,o,a1,c1,e1,r1,adc,cpc,q1,q2⟩:=hG.at_ z
  have hA:=clA_len hf C i
  have hA2:i*(C*16)<=100*(100*16):=Nat.mul_le_mul (by omega) (by omega)
  rw [e0]
  refine ⟨⟨by omega,by omega⟩,b,o,e1,_,_,_,w.le.ld r1,?_⟩
  unfold vc24_L1
  refine ⟨fun k m4 l5 b6 m7 m8 x9 a10 n11' n12 x13 x14 a15 n16 n17 x18 x19 H20=>(25=m4/\[]=l5/\((i:Nat):Int)=x9/\a=a10/\N=n11'/\n11=n12/\((N:Nat):Int)=x13/\((i:Nat):Int)=x14/\a1=a15/\C=n16/\((C:Nat):Int)=x18)/\∃ j:Nat,x19=j/\j<=C/\k=C-j/\m7=(clA f i C++clR f i j).length/\Nr H H20 4 b6 m7 m8 (clV (clA f i C++clR f i j)),⟨C,⟨rfl,rfl,rfl,rfl,rfl,rfl,rfl,rfl,rfl,rfl,rfl⟩,0,rfl,by omega,rfl,by simp [clR],by simpa [clR] using w⟩,?_⟩
  clear w
  rintro k m4 l5 b6 m7 m8 x9 a10 n11' n12 x13 x14 a15 n16 n17 x18 x19 H20 ⟨⟨rfl,rfl,rfl,rfl,rfl,rfl,rfl,rfl,rfl,rfl,rfl⟩,j,rfl,hj,rfl,rfl,v⟩
  refine ⟨fun y=>?_,fun y=>?_⟩
  .have y:j<C:=by have:=of_decide_eq_true y; omega
   have f0:Int.toNat ((j:Nat):Int)=j:=by omega
   have hj1:IntKind.wrap .i64 (((j:Nat):Int)+1)=((j+1:Nat):Int):=by rw [wrap64 (by omega) (by omega)]; omega
   obtain ⟨b2,o2,e2,r2⟩:=fam_ld (k:=1) (fun _=>rfl) q1 y
   have hR:=clR_len hf i j
   have hR2:j*16<=100*16:=Nat.mul_le_mul (by omega) (by omega)
   have hc1:=cl1_len (n:=(i:Int)) (t:=(j:Int)) (hf i j)
   rw [f0,hj1]
   refine ⟨⟨by omega,by omega⟩,b2,o2,e2,_,_,_,v.le.ld r2,c25 ok (v.le.kold (q2 j y)) (by have:=hf i j; omega) fun a' c' H' l' k'=>⟨_,_,_,rfl,fun n11 h11=>?_⟩⟩
   obtain ⟨a2,c2,H2,g1,g2,g3⟩:=(v.up l').app (ti:=tiCl) (nm:=n11) (m:=(cl1 i j (f i j)).length) (new:=clV (cl1 i j (f i j))) h11 (clV_len _) (by rw [List.length_append]; omega) (by decide) (by decide)
   refine ⟨_,_,knew_of (ti:=tiCl) k',a2,_,c2,H2,g1,C-(j+1),by omega,⟨rfl,rfl,rfl,rfl,rfl,rfl,rfl,rfl,rfl,rfl,rfl⟩,j+1,rfl,y,rfl,?_,?_⟩
   .rw [clR_succ,<- List.append_assoc,List.length_append (bs:=cl1 _ _ _)]
   .rw [clR_succ,<- List.append_assoc,clV_app (m:=cl1 _ _ _)]
    exact g2
  .have y:j=C:=by have:=of_decide_eq_false y; omega
   subst y
   rw [hi1]
   rw [<- clA_succ] at v ⊢
   exact ⟨N-(i+1),by omega,⟨rfl,rfl,rfl,rfl,rfl⟩,i+1,rfl,z,rfl,rfl,v⟩
 .have z:i=N:=by have:=of_decide_eq_false z; omega
  subst z
  exact hq _ _ _ w.le w.row
end
end Va
end Go.Proofs.Ytibkijpnkmccpaa
namespace Go.Ew
open Go.Ev Go.Deep
theorem fam_one (g:Int->Value) (n:Nat) (v:Value) (e:∀ i:Nat,i<n->g i=v):lrep [v] n=famC (fun i=>[g i]) n:=fam_rep fun i hi=>by rw [e i hi]
end Go.Ew
namespace Go.Proofs.Ytibkijpnkmccpaa
open Go.Ev Go.Ew
namespace Va
section
variable (ok : EnvOk (env Try.prog))
include ok
theorem c34 {N C p:Nat} {caps:List Value} {f:Int->Int->List Int} {H:KH} {Q:PQ} (hN:N<=1000) (hC:C<=1000)
 (hcell:∀ (H':KH) (i t:Nat) (Q':PQ),Le H H'->i<N->t<C->(∀ a c H'',Ni H' H'' a c (f i t)->Q' (.slice a (f i t).length c) H'')->Does (env Try.prog) p ([.int .i64 ((i:Nat):Int),.int .i64 ((t:Nat):Int)]++caps) H' Q')
 (hq:∀ a c H',Le H H'->RwG H' a N C (ChR C f)->Q (.slice a N c) H'):Does (env Try.prog) 34 [.int .i64 ((N:Nat):Int),.int .i64 ((C:Nat):Int),.func (.func p) #[] caps.toArray] H Q:=by
 refine fn34 ok ?_
 show vc34_L3 _ _ _ _ _ _
 unfold vc34_L3
 refine ⟨fun k x4 n5 l6 a7 n8 n9 x10 x11 H12=>(((C:Nat):Int)=x4/\p=n5/\caps=l6/\((N:Nat):Int)=x10)/\∃ (i:Nat) (Z:KH) (ad:Int->OA) (cp:Int->Nat),x11=i/\i<=N/\k=N-i/\n8=i/\Bnd H Z H12 a7 i n9 C (ChR C f) ad cp,⟨N,⟨rfl,rfl,rfl,rfl⟩,0,_,_,_,rfl,by omega,rfl,rfl,Bnd.nil H C _⟩,?_⟩
 rintro k x4 n5 l6 a7 n8 n9 x10 x11 H12 ⟨⟨rfl,rfl,rfl,rfl⟩,i,Z,ad,cp,rfl,hi,rfl,rfl,w⟩
 refine ⟨fun z=>?_,fun z=>?_⟩
 .have z:n8<N:=by have:=of_decide_eq_true z; omega
  have hi1:IntKind.wrap .i64 (((n8:Nat):Int)+1)=((n8+1:Nat):Int):=by rw [wrap64 (by omega) (by omega)]; omega
  have eC:Int.toNat ((C:Nat):Int)=C:=by omega
  refine ⟨⟨by omega,by omega,by omega⟩,fun n13 h13=>?_⟩
  unfold vc34_L2
  rw [eC,fam_one (fun _=>.slice none 0 0) C (.slice none 0 0) fun _ _=>rfl]
  refine ⟨fun k x4 n5 l6 b7 m8 m9 x10 a11 n12 n13' x14 x15 x16 x17 H18=>(((C:Nat):Int)=x4/\p=n5/\caps=l6/\a7=b7/\n8=m8/\n9=m9/\((n8:Nat):Int)=x10/\some ⟨n13,0,none⟩=a11/\C=n12/\C=n13'/\((N:Nat):Int)=x14/\((n8:Nat):Int)=x15/\((C:Nat):Int)=x16)/\∃ (t:Nat) (Y:KH) (adc:Int->OA) (cpc:Int->Nat) (F:Int->List Int),x17=t/\t<=C/\k=C-t/\Le Z Y/\(∀ j:Nat,j<t->F j=f n8 j/\kold Y 1 (adc j) (F j).length=some (inC (F j)))/\Ps Y H18 n13 (famC (ch1 adc F cpc) C) [⟨1,a7,n8,n9,famC (hd1 ad C cp) n8⟩],⟨C,⟨rfl,rfl,rfl,rfl,rfl,rfl,rfl,rfl,rfl,rfl,rfl,rfl,rfl⟩,0,Z,fun _=>none,fun _=>0,fun _=>[],rfl,by omega,rfl,Le.refl Z,fun j hj=>absurd hj (by omega),w.w.box (Le.new h13) h13 ⟨_,new_self,rfl,mk_rd⟩⟩,?_⟩
  rintro k x4 n5 l6 b7 m8 m9 x10 a11 n12 n13' x14 x15 x16 x17 H18 ⟨⟨rfl,rfl,rfl,rfl,rfl,rfl,rfl,rfl,rfl,rfl,rfl,rfl,rfl⟩,t,Y,adc,cpc,F,rfl,ht,rfl,lY,hF,v⟩
  have lH:Le H Y:=w.le.trans lY
  refine ⟨fun y=>?_,fun y=>?_⟩
  .have y:t<C:=by have:=of_decide_eq_true y; omega
   have f0:Int.toNat ((t:Nat):Int)=t:=by omega
   have ht1:IntKind.wrap .i64 (((t:Nat):Int)+1)=((t+1:Nat):Int):=by rw [wrap64 (by omega) (by omega)]; omega
   refine hcell H18 n8 t _ (lH.trans v.r.le) z y fun a c H2 o=>⟨_,_,_,rfl,⟨by omega,by omega⟩,n13,0,rfl,?_⟩
   obtain ⟨Y',l1,v1,k1⟩:=v.take o.le o.fr o.row
   rw [f0,ht1,Nat.zero_add,Nat.mul_one]
   refine ⟨⟨[.slice (adc t) (F t).length (cpc t)],rfl,v1.ld (fam_get1 (fun i=>.slice (adc i) (F i).length (cpc i)) y)⟩,v1.may,C-(t+1),by omega,⟨rfl,rfl,rfl,rfl,rfl,rfl,rfl,rfl,rfl,rfl,rfl,rfl,rfl⟩,t+1,Y',(fun j=>if j=(t:Int) then a else adc j),(fun j=>if j=(t:Int) then c else cpc j),(fun j=>if j=(t:Int) then f n8 t else F j),rfl,y,rfl,lY.trans l1,fun j hj=>?_,?_⟩
   .by_cases e:j=t
    .subst e
     simp only [if_true]
     exact ⟨trivial,k1⟩
    .have e':((j:Nat):Int)≠(t:Int):=by omega
     simp only [if_neg e']
     exact ⟨(hF j (by omega)).1,l1.kold (hF j (by omega)).2⟩
   .have:=v1.put (k:=t) (v:=.slice a (f n8 t).length c) (by rw [show famC (ch1 adc F cpc) C=famC (fun i=>[.slice (adc i) (F i).length (cpc i)]) C from rfl,fam_len1]; exact y)
    rw [show famC (ch1 adc F cpc) C=famC (fun i=>[.slice (adc i) (F i).length (cpc i)]) C from rfl] at this
    rw [fam_set1 (g':=fun j=>.slice (if j=(t:Int) then a else adc j) (if j=(t:Int) then f n8 t else F j).length (if j=(t:Int) then c else cpc j)) y (fun j hj=>by
     have e':((j:Nat):Int)≠(t:Int):=by omega
     simp only [if_neg e']) (by simp)] at this
    exact this
  .have y:t=C:=by have:=of_decide_eq_false y; omega
   subst y
   obtain ⟨Y',l1,v1,k1⟩:=v.done
   have k1:=k1 1 t (by rw [show famC (ch1 adc F cpc) t=famC (fun i=>[.slice (adc i) (F i).length (cpc i)]) t from rfl,fam_len1]; omega)
   have ef:famC (ch1 adc F cpc) t=famC (ch1 adc (f n8) cpc) t:=fam_congr fun j hj=>by unfold ch1; rw [(hF j hj).1]
   rw [ef] at k1
   intro n1 h1 n2 h2
   refine ⟨1,_,knew_of (ti:=tiCh) (lit_kold (if_pos rfl) rfl),?_⟩
   obtain ⟨a',c',H',g1,ad',cp',g2⟩:=w.add (ti:=tiCh) (a2:=some ⟨n13,0,none⟩) (c2:=t) (fun l h=>ChR.up l h) (lY.trans l1) v1 ⟨adc,cpc,k1,fun j hj=>by rw [<- (hF j hj).1]; exact l1.kold (hF j hj).2⟩ h1 h2 rfl (by decide) (by omega)
   rw [hi1]
   exact ⟨a',_,c',H',g1,N-(n8+1),by omega,⟨rfl,rfl,rfl,rfl⟩,n8+1,Y',ad',cp',rfl,z,rfl,rfl,g2⟩
 .have z:n8=N:=by have:=of_decide_eq_false z; omega
  subst z
  obtain ⟨d1,d2⟩:=w.done fun l h=>ChR.up l h
  exact hq _ _ _ d1 d2
end
end Va
end Go.Proofs.Ytibkijpnkmccpaa
namespace Go.Ew
open Go.Ev Go.Deep
theorem ofK_lt {g:Gm} (hm:MayG g) {nl:Int->Bool} {fs:Int->Int->Bool} (iF:IsF g.prods fs) {r:List Sy} (hs:SymsIn g.toks.length g.nts.length r) {t:Int} (h:(ofK nl fs r).1 t=true):0<=t/\t<g.toks.length:=by
 refine ofK_mem (B:=fun t=>0<=t/\t<g.toks.length) (fun x t q=>?_) (fun s q w=>⟨(hs s q).1,(hs s q).2.1 w⟩) t h
 obtain ⟨_,_,_,p,hp,s,hsr,w,rfl⟩:=((iF x t).1 q).left
 obtain ⟨j,hj,rfl⟩:=List.mem_iff_getElem.1 hp
 have:=SymsIn.of hm hj s hsr
 exact ⟨this.1,this.2.1 w⟩
def I33 (H0:KH) (g:Gm) (X:Int->Int->Bool) (aF:OA) (cF:Nat) (k:Nat) (a4:OA) (n5:Nat) (n6:Nat) (a7:OA) (n8:Nat) (n9:Nat) (a10:OA) (n11:Nat) (n12:Nat) (a13:OA) (n14:Nat) (n15:Nat) (a16:OA) (n17:Nat) (n18:Nat) (a19:OA) (n20:Nat) (n21:Nat) (x22:Int) (x23:Int) (H:KH):Prop:=(((g.ta:OA)=a4)/\((g.toks.length:Nat)=n5)/\((g.tc:Nat)=n6)/\((g.na:OA)=a7)/\((g.nts.length:Nat)=n8)/\((g.nc:Nat)=n9)/\((g.pa:OA)=a10)/\((g.prods.length:Nat)=n11)/\((g.pc:Nat)=n12)/\((aF:OA)=a13)/\((g.nts.length:Nat)=n14)/\((cF:Nat)=n15)/\((g.pa:OA)=a19)/\((g.prods.length:Nat)=n20)/\((g.pc:Nat)=n21)/\((((g.prods.length:Nat):Int):Int)=x22))/\∃ i:Nat,∃ Z:KH,∃ ad:Int->OA,∃ cp:Int->Nat,(x23=i)/\(i<=g.prods.length)/\(k=g.prods.length-i)/\(n17=i)/\(Bnd H0 Z H a16 i n18 (g.toks.length+1) (bitP X (g.toks.length+1)) ad cp)
theorem I33.mk {H0:KH} {g:Gm} {X:Int->Int->Bool} {aF:OA} {cF:Nat} {k:Nat} {a16:OA} {n17:Nat} {n18:Nat} {x23:Int} {H:KH} (i:Nat) (Z:KH) (ad:Int->OA) (cp:Int->Nat) (h0:x23=i) (h1:i<=g.prods.length) (h2:k=g.prods.length-i) (h3:n17=i) (h4:Bnd H0 Z H a16 i n18 (g.toks.length+1) (bitP X (g.toks.length+1)) ad cp):I33 H0 g X aF cF k g.ta g.toks.length g.tc g.na g.nts.length g.nc g.pa g.prods.length g.pc aF g.nts.length cF a16 n17 n18 g.pa g.prods.length g.pc (((g.prods.length:Nat):Int)) x23 H:=⟨⟨rfl,rfl,rfl,rfl,rfl,rfl,rfl,rfl,rfl,rfl,rfl,rfl,rfl,rfl,rfl,rfl⟩,i,Z,ad,cp,h0,h1,h2,h3,h4⟩
def I33b (Z:KH) (g:Gm) (aF:OA) (cF:Nat) (a16:OA) (i n18:Nat) (nb cb:Nat) (aW:OA) (cW:Nat) (f0 f1:Int->Bool) (R:List Rr) (k:Nat) (a4:OA) (n5:Nat) (n6:Nat) (a7:OA) (n8:Nat) (n9:Nat) (a10:OA) (n11:Nat) (n12:Nat) (a13:OA) (n14:Nat) (n15:Nat) (b16:OA) (m17:Nat) (m18:Nat) (a19:OA) (n20:Nat) (n21:Nat) (a22:OA) (n23:Nat) (n24:Nat) (x25:Int) (x26:Int) (a27:OA) (n28:Nat) (n29:Nat) (x30:Int) (x31:Int) (H:KH):Prop:=(((g.ta:OA)=a4)/\((g.toks.length:Nat)=n5)/\((g.tc:Nat)=n6)/\((g.na:OA)=a7)/\((g.nts.length:Nat)=n8)/\((g.nc:Nat)=n9)/\((g.pa:OA)=a10)/\((g.prods.length:Nat)=n11)/\((g.pc:Nat)=n12)/\((aF:OA)=a13)/\((g.nts.length:Nat)=n14)/\((cF:Nat)=n15)/\((a16:OA)=b16)/\((i:Nat)=m17)/\((n18:Nat)=m18)/\((some ⟨nb,0,none⟩:OA)=a19)/\((g.toks.length+1:Nat)=n20)/\((cb:Nat)=n21)/\((g.pa:OA)=a22)/\((g.prods.length:Nat)=n23)/\((g.pc:Nat)=n24)/\((((g.prods.length:Nat):Int):Int)=x25)/\((((i:Nat):Int):Int)=x26)/\((aW:OA)=a27)/\((g.toks.length+1:Nat)=n28)/\((cW:Nat)=n29)/\((((g.toks.length+1:Nat):Int):Int)=x30))/\∃ t:Nat,(x31=t)/\(t<=g.toks.length+1)/\(k=g.toks.length+1-t)/\(Ps Z H nb (famC (bit1 fun j=>bif decide (j<t) then f1 j else f0 j) (g.toks.length+1)) R)
theorem I33b.mk {Z:KH} {g:Gm} {aF:OA} {cF:Nat} {a16:OA} {i n18:Nat} {nb cb:Nat} {aW:OA} {cW:Nat} {f0 f1:Int->Bool} {R:List Rr} {k:Nat} {x31:Int} {H:KH} (t:Nat) (h0:x31=t) (h1:t<=g.toks.length+1) (h2:k=g.toks.length+1-t) (h3:Ps Z H nb (famC (bit1 fun j=>bif decide (j<t) then f1 j else f0 j) (g.toks.length+1)) R):I33b Z g aF cF a16 i n18 nb cb aW cW f0 f1 R k g.ta g.toks.length g.tc g.na g.nts.length g.nc g.pa g.prods.length g.pc aF g.nts.length cF a16 i n18 (some ⟨nb,0,none⟩) (g.toks.length+1) cb g.pa g.prods.length g.pc (((g.prods.length:Nat):Int)) (((i:Nat):Int)) aW (g.toks.length+1) cW (((g.toks.length+1:Nat):Int)) x31 H:=⟨⟨rfl,rfl,rfl,rfl,rfl,rfl,rfl,rfl,rfl,rfl,rfl,rfl,rfl,rfl,rfl,rfl,rfl,rfl,rfl,rfl,rfl,rfl,rfl,rfl,rfl,rfl,rfl⟩,t,h0,h1,h2,h3⟩
end Go.Ew
namespace Go.Proofs.Ytibkijpnkmccpaa
open Go.Ev Go.Ew
namespace Va
section
variable (ok : EnvOk (env Try.prog))
include ok
theorem c33 {g:Gm} {H:KH} {nl:Int->Bool} {fs fl:Int->Int->Bool} {Q:PQ} (hg:GI H g) (hm:MayG g) (iN:IsN g.prods nl) (iF:IsF g.prods fs) (iL:IsL g.prods g.toks.length fl)
 (hq:∀ a c H',Le H H'->RwG H' a g.prods.length (g.toks.length+1) (bitP (mX g.prods nl fs fl) (g.toks.length+1))->Q (.slice a g.prods.length c) H'):Does (env Try.prog) 33 [gv g] H Q:=by
 have hP:=hm.p
 have hT:=hm.t
 refine fn33 ok (c47 ok hg hm fun aF cF H2 fl' l2 hr hL=>⟨_,_,_,rfl,?_⟩)
 rw [isL_eq hL iL] at hr
 unfold vc33_L4
 refine ⟨I33 H2 g (mX g.prods nl fs fl) aF cF,⟨g.prods.length,I33.mk 0 _ _ _ rfl (by omega) rfl rfl (Bnd.nil H2 _ _)⟩,?_⟩
 rintro k a4 n5 n6 a7 n8 n9 a10 n11 n12 a13 n14 n15 a16 n17 n18 a19 n20 n21 x22 x23 H ⟨⟨rfl,rfl,rfl,rfl,rfl,rfl,rfl,rfl,rfl,rfl,rfl,rfl,rfl,rfl,rfl,rfl⟩,i,Z,ad,cp,rfl,hi,rfl,rfl,w⟩
 refine ⟨fun z=>?_,fun z=>?_⟩
 .have z:n17<g.prods.length:=by have:=of_decide_eq_true z; omega
  have e0:Int.toNat ((n17:Nat):Int)=n17:=by omega
  have hi1:IntKind.wrap .i64 (((n17:Nat):Int)+1)=((n17+1:Nat):Int):=by rw [wrap64 (by omega) (by omega)]; omega
  have l24:=w.le.trans w.w.le
  have gH:=hg.up (l2.trans l24)
  obtain ⟨b0,o0,ha,r0⟩:=pr_ld gH.p z
  have po:=hm.pr n17 z
  have si:=SymsIn.of hm z
  rw [e0]
  refine ⟨⟨by omega,by omega⟩,b0,o0,ha,_,_,_,_,_,_,_,r0,c48o ok gH hm (gH.pi n17 z).1 si (by have:=po.b; omega) iN iF fun a12 n14 Y H11 lY lH o=>⟨_,_,_,_,rfl,fun n16 h16 n17' h17=>⟨1,_,knew_of (ti:=tiB) (lit_kold (if_pos rfl) rfl),?_⟩⟩⟩
  obtain ⟨a20,n22,H23,f1,f2,f3,f4,f5⟩:=(Own.mono (Le.new h16) o).append (ti:=tiB) (nm:=n17') (m:=1) (new:=[.bool false]) (lH.trans (Le.new h16)) h17 rfl (by omega) (by decide) (by decide)
  refine ⟨a20,_,n22,H23,f1,?_⟩
  have h9:(ofK nl fs g.prods[n17].right).1 (g.toks.length:Int)=false:=by
   cases q:(ofK nl fs g.prods[n17].right).1 (g.toks.length:Int)
   .rfl
   .have:=ofK_lt hm iF si q; omega
  have ef:famC (bit1 (ofK nl fs g.prods[n17].right).1) g.toks.length++[.bool false]=famC (bit1 (ofK nl fs g.prods[n17].right).1) (g.toks.length+1):=by rw [fam_app]; unfold bit1; rw [h9]
  rw [ef] at f2
  obtain ⟨nb,rfl,hb,he⟩:=Own.box f2 (by omega)
  have v:Ps Z H23 nb (famC (bit1 (ofK nl fs g.prods[n17].right).1) (g.toks.length+1)) [⟨1,a16,n17,n18,famC (hd1 ad (g.toks.length+1) cp) n17⟩]:=w.w.box (lY.trans f3) (lY.none hb) he
  have fin:∀ (F:Int->Bool) H',Ps Z H' nb (famC (bit1 F) (g.toks.length+1)) [⟨1,a16,n17,n18,famC (hd1 ad (g.toks.length+1) cp) n17⟩]->(∀ t:Nat,t<g.toks.length+1->F t=mB nl fs fl g.prods[n17] t)->vc33_J1 H' (some ⟨nb,0,none⟩) (g.toks.length+1) n22 a16 n17 n18 (g.prods.length-n17) (I33 H2 g (mX g.prods nl fs fl) aF cF) g.ta g.toks.length g.tc g.na g.nts.length g.nc g.pa g.prods.length g.pc aF g.nts.length cF g.pa g.prods.length g.pc ((g.prods.length:Nat):Int) ((n17:Nat):Int):=fun F H' v hF=>by
   obtain ⟨Z',l1,v1,k1⟩:=v.done
   have k1:=k1 1 (g.toks.length+1) (by rw [bit_len]; omega)
   rw [bit_congr (f':=mX g.prods nl fs fl n17) fun t ht=>by rw [hF t ht,mX_at z]] at k1
   unfold vc33_J1
   intro n1 h1 n2 h2
   refine ⟨1,_,knew_of (ti:=tiH) (lit_kold (if_pos rfl) rfl),?_⟩
   obtain ⟨a',c',H'',g1,ad',cp',g2⟩:=w.add (ti:=tiH) (a2:=some ⟨nb,0,none⟩) (c2:=n22) (fun l h=>bitP.up l h) l1 v1 k1 h1 h2 rfl (by decide) (by omega)
   rw [hi1]
   exact ⟨a',_,c',H'',g1,_,by omega,I33.mk (n17+1) Z' ad' cp' rfl z rfl rfl g2⟩
  refine ⟨fun q=>⟨⟨po.a.1,po.a.2⟩,?_⟩,fun q=>fin _ H23 v fun t ht=>by unfold mB; rw [q,Bool.false_and,Bool.or_false]⟩
  obtain ⟨bF,oF,aW,cW,eF,rF,kW⟩:=hr.at_ (i:=g.prods[n17].left.toNat) (by have:=po.a; omega)
  have el:((g.prods[n17].left.toNat:Nat):Int)=g.prods[n17].left:=by have:=po.a; omega
  rw [el] at kW
  have l23:Le H2 H23:=l24.trans (lY.trans f3)
  refine ⟨bF,oF,eF,_,_,_,l23.ld rF,?_⟩
  unfold vc33_L2
  refine ⟨I33b Z g aF cF a16 n17 n18 nb n22 aW cW (ofK nl fs g.prods[n17].right).1 (mB nl fs fl g.prods[n17]) [⟨1,a16,n17,n18,famC (hd1 ad (g.toks.length+1) cp) n17⟩],⟨g.toks.length+1,I33b.mk 0 rfl (by omega) rfl ?_⟩,?_⟩
  .rw [bit_congr (f':=(ofK nl fs g.prods[n17].right).1) fun j hj=>by rw [decide_eq_false (by omega),cond_false]]
   exact v
  rintro k a4 n5 n6 a7 n8 n9 a10 n11 n12 a13 n14 n15 b16 m17 m18 a19 n20 n21 a22 n23 n24 x25 x26 a27 n28 n29 x30 x31 H ⟨⟨rfl,rfl,rfl,rfl,rfl,rfl,rfl,rfl,rfl,rfl,rfl,rfl,rfl,rfl,rfl,rfl,rfl,rfl,rfl,rfl,rfl,rfl,rfl,rfl,rfl,rfl,rfl⟩,t,rfl,ht,rfl,v2⟩
  have l32:Le H2 H:=w.le.trans v2.r.le
  refine ⟨fun y=>?_,fun y=>fin _ H v2 fun j hj=>by
   have y:t=g.toks.length+1:=by have:=of_decide_eq_false y; omega
   rw [decide_eq_true (by omega),cond_true]⟩
  have y:t<g.toks.length+1:=by have:=of_decide_eq_true y; omega
  have f0:Int.toNat ((t:Nat):Int)=t:=by omega
  have ht1:IntKind.wrap .i64 (((t:Nat):Int)+1)=((t+1:Nat):Int):=by rw [wrap64 (by omega) (by omega)]; omega
  obtain ⟨bW,oW,eW,rW⟩:=bit_ld kW y
  have ev:(bif decide ((t:Int)<t) then mB nl fs fl g.prods[n17] t else (ofK nl fs g.prods[n17].right).1 t)=(ofK nl fs g.prods[n17].right).1 t:=by rw [decide_eq_false (by omega),cond_false]
  have ldF:ld H ⟨nb,0+t*1,none⟩ [.bool ((ofK nl fs g.prods[n17].right).1 t)]:=by
   rw [Nat.zero_add,Nat.mul_one,<- ev]
   exact v2.ld (fam_get1 (fun j=>.bool (bif decide (j<t) then mB nl fs fl g.prods[n17] j else (ofK nl fs g.prods[n17].right).1 j)) y)
  have put:∀ b:Bool,b=mB nl fs fl g.prods[n17] t->Ps Z (H.put ⟨nb,0+t*1,none⟩ [.bool b]) nb (famC (bit1 fun j=>bif decide (j<(t+1:Nat)) then mB nl fs fl g.prods[n17] j else (ofK nl fs g.prods[n17].right).1 j) (g.toks.length+1)) [⟨1,a16,n17,n18,famC (hd1 ad (g.toks.length+1) cp) n17⟩]:=fun b hb=>by
   have:=v2.put (k:=t) (v:=.bool b) (by rw [bit_len]; exact y)
   rw [show famC (bit1 fun j=>bif decide (j<(t:Int)) then mB nl fs fl g.prods[n17] j else (ofK nl fs g.prods[n17].right).1 j) (g.toks.length+1)=famC (fun j=>[.bool (bif decide (j<(t:Int)) then mB nl fs fl g.prods[n17] j else (ofK nl fs g.prods[n17].right).1 j)]) (g.toks.length+1) from rfl] at this
   rw [fam_set1 (g':=fun j=>.bool (bif decide (j<(t+1:Nat)) then mB nl fs fl g.prods[n17] j else (ofK nl fs g.prods[n17].right).1 j)) y (fun j hj=>by
    by_cases hlt:j<t
    .rw [decide_eq_true (by omega:((j:Nat):Int)<(t+1:Nat)),decide_eq_true (by omega:((j:Nat):Int)<(t:Int))]
    .rw [decide_eq_false (by omega:¬ ((j:Nat):Int)<(t+1:Nat)),decide_eq_false (by omega:¬ ((j:Nat):Int)<(t:Int))]) (by rw [decide_eq_true (by omega),cond_true,<- hb])] at this
   rw [Nat.zero_add,Nat.mul_one]
   exact this
  rw [f0,ht1]
  refine ⟨⟨by omega,by omega⟩,bW,oW,eW,_,l32.ld rW,⟨by omega,by omega⟩,nb,0,rfl,_,ldF,fun q2=>⟨⟨by omega,by omega⟩,nb,0,rfl,⟨[.bool ((ofK nl fs g.prods[n17].right).1 t)],rfl,ldF⟩,v2.may,_,by omega,I33b.mk (t+1) rfl y rfl (put _ ?_)⟩,fun q2=>⟨⟨by omega,by omega⟩,nb,0,rfl,⟨[.bool ((ofK nl fs g.prods[n17].right).1 t)],rfl,ldF⟩,v2.may,_,by omega,I33b.mk (t+1) rfl y rfl (put _ ?_)⟩⟩
  .unfold mB; rw [q2,Bool.true_or]
  .unfold mB; rw [q2,q,Bool.true_and,Bool.false_or]
 .have z:n17=g.prods.length:=by have:=of_decide_eq_false z; omega
  subst z
  obtain ⟨d1,d2⟩:=w.done fun l h=>bitP.up l h
  exact hq _ _ _ (l2.trans d1) d2
theorem c21 {g:Gm} {H:KH} {nl:Int->Bool} {fs fl:Int->Int->Bool} {Q:PQ} (hg:GI H g) (hm:MayG g) (iN:IsN g.prods nl) (iF:IsF g.prods fs) (iL:IsL g.prods g.toks.length fl)
 (hq:∀ a c H',Le H H'->RwG H' a g.nts.length (g.toks.length+1) (ChR (g.toks.length+1) (chG g (mX g.prods nl fs fl)))->Q (.slice a g.nts.length c) H'):Does (env Try.prog) 21 [gv g] H Q:=by
 have hN:=hm.n
 have hT:=hm.t
 have hP:=hm.p
 refine fn21 ok fun n1 h1=>?_
 have hl:=Le.new (e:=mkEnt [.slice g.ta g.toks.length g.tc,.slice g.na g.nts.length g.nc,.slice g.pa g.prods.length g.pc] 0) h1
 have r:ld (H.new n1 (mkEnt [.slice g.ta g.toks.length g.tc,.slice g.na g.nts.length g.nc,.slice g.pa g.prods.length g.pc] 0)) ⟨n1,0,none⟩ [.slice g.ta g.toks.length g.tc,.slice g.na g.nts.length g.nc,.slice g.pa g.prods.length g.pc]:=⟨rfl,_,if_pos rfl,mk_rd⟩
 refine ⟨_,_,_,_,_,_,_,_,_,r,c33 ok (hg.up hl) hm iN iF iL fun a13 n15 H12 l1 hX=>⟨_,_,_,rfl,fun n16 h16=>?_⟩⟩
 have hl2:=Le.new (e:=mkEnt [.slice none 0 0] 0) h16
 have r16:ld (H12.new n16 (mkEnt [.slice none 0 0] 0)) ⟨n16,0,none⟩ [.slice none 0 0]:=⟨rfl,_,if_pos rfl,mk_rd⟩
 refine ⟨⟨[.slice none 0 0],rfl,r16⟩,⟨_,if_pos rfl,rfl⟩,rfl,?_⟩
 generalize hK:KH.put (KH.new H12 n16 _) _ _=K
 have lK:Le H12 K:=by rw [<- hK]; exact le_put hl2 h16
 have rK:ld K ⟨n16,0,none⟩ [.slice a13 g.prods.length n15]:=by
  rw [<- hK]
  refine ⟨rfl,_,put_at (if_pos rfl),?_⟩
  exact rdWr (xs:=[]) (ys:=[.slice none 0 0]) (zs:=[]) (vs:=[.slice a13 g.prods.length n15]) (N:=1) (o:=0) mk_rd rfl rfl
 have r':=(l1.trans lK).ld r
 have gK:=hg.up (hl.trans (l1.trans lK))
 have hX:=hX.up (fun h=>bitP.up lK h) lK
 have e1:IntKind.wrap .i64 ((g.toks.length:Int)+1)=((g.toks.length+1:Nat):Int):=by rw [wrap64 (by omega) (by omega)]; omega
 refine ⟨_,_,_,ldSub (m:=1) r' 1 (by simp),rfl,_,_,_,ldSub (m:=1) r' 0 (by simp),?_⟩
 rw [e1]
 refine c34 ok (f:=chG g (mX g.prods nl fs fl)) (caps:=[.pointer (some ⟨n1,0,none⟩),.pointer (some ⟨n16,0,none⟩)]) (by omega) (by omega) (fun H' i t Q' l hi ht hQ=>c35 ok (l.ld r') (l.ld rK) (gK.up l) hm (hX.up (fun h=>bitP.up l h) l) ht hQ) fun a c H' l hG=>⟨_,_,_,rfl,hq a c H' (hl.trans (l1.trans (lK.trans l))) hG⟩
theorem c11 {g:Gm} {H:KH} {nl:Int->Bool} {fs fl:Int->Int->Bool} {Q:PQ} (hg:GI H g) (hm:MayG g) (iN:IsN g.prods nl) (iF:IsF g.prods fs) (iL:IsL g.prods g.toks.length fl)
 (hq:∀ a c b d H',Le H H'->RwG H' a g.nts.length (g.toks.length+1) (intP (fun n t=>ent (chG g (mX g.prods nl fs fl) n t)) (g.toks.length+1))->kold H' 4 b (clA (chG g (mX g.prods nl fs fl)) g.nts.length (g.toks.length+1)).length=some (clV (clA (chG g (mX g.prods nl fs fl)) g.nts.length (g.toks.length+1)))->Q (.tuple #[.slice a g.nts.length c,.slice b (clA (chG g (mX g.prods nl fs fl)) g.nts.length (g.toks.length+1)).length d]) H'):Does (env Try.prog) 11 [gv g] H Q:=by
 have hN:=hm.n
 have hT:=hm.t
 have hP:=hm.p
 refine fn11 ok (c20 ok hg hm.few fun b H2 l2 hb=>⟨b,rfl,fun z=>?_,fun z=>c21 ok (hg.up l2) hm iN iF iL fun a3 c3 H3 l3 hG=>⟨_,_,_,rfl,c22 ok hG (by omega) (by omega) fun a4 c4 H4 l4 hT=>⟨_,_,_,rfl,c24 ok (hG.up (fun h=>ChR.up l4 h) l4) (by omega) (by omega) (fun n t=>Nat.le_trans (chK_len _ _ _ _ _) hP.2) fun a5 c5 H5 l5 hC=>⟨_,_,_,rfl,hq _ _ _ _ H5 (l2.trans (l3.trans (l4.trans l5))) (hT.up (fun h=>intP.up l5 h) l5) hC⟩⟩⟩⟩)
 rw [hb.2 hm] at z; cases z
end
end Va
end Go.Proofs.Ytibkijpnkmccpaa
