import Derived.Test.YtdflpllfkengdaaEwS4
import Derived.Test.YtdflpllfkengdaaEvDraw4
set_option linter.unusedVariables false
set_option maxRecDepth 100000
namespace Go.Proofs.Ytdflpllfkengdaa
open Go.Ev Go.Ew
namespace Va
def tupT:Go.Deep.BT (Option (List Nat)):=mkTab tupL
def W5 (P:Program):WE:=⟨env P,tupT,[3],mkTab [(2,[.ref 3 3 0,.box 3 [.slice none 0 0,.slice none 0 0,.slice none 0 0],.tmp 4 (.int .i64),.tmp 5 (.int .i64),.tmp 6 .slice,.tmp 7 (.int .i64)]),(0,[.ref 3 3 0,.box 3 [.slice none 0 0,.slice none 0 0,.slice none 0 0],.tmp 4 (.int .i64),.tmp 5 (.int .i64)])],5⟩
def vc5_L1 (y1:OA) (y2 y3:Nat) (y4:OA) (y5 y6:Nat) (y7:OA) (y8 y9:Nat) (y10 y11:Int) (y12:OA) (y13 y14:Nat) (y15:KH) (y16:PQ) (y17:Nat) (y18:(Nat->(OA->(Nat->(Nat->(OA->(Nat->(Nat->(OA->(Nat->(Nat->(Int->(Int->(KH->Prop)))))))))))))):Prop :=
 (∃ (h:(Nat->OA->Nat->Nat->OA->Nat->Nat->OA->Nat->Nat->Int->Int->OA->Nat->Nat->Int->KH->Prop)),(∃ (an:Nat),h an y1 y2 y3 y4 y5 y6 y7 y8 y9 y10 y11 y12 y13 y14 0 y15)/\∀ (r:Nat) (i:(OA)) (j k:Nat) (l:(OA)) (m n:Nat) (g:(OA)) (e o:Nat) (p f:Int),∀ (d:(OA)) (c s:Nat) (a:Int) (b:KH),h r i j k l m n g e o p f d c s a b->(decide (a<(c:Int))=true->True/\((0:Int)<=a/\a<(c:Int))/\∃ (y z:Nat),d=some ⟨y,z,none⟩/\∃ (t:Int),ld b ⟨y,z+((Int.toNat a)*1),none⟩ [(.int .i64 t)]/\(decide (t<0)=true->y16 (.bool false) b)/\(decide (t<0)=false->((0:Int)<=a/\a<(c:Int))/\∃ (aa ab:Nat),d=some ⟨aa,ab,none⟩/\∃ (u:Int),ld b ⟨aa,ab+((Int.toNat a)*1),none⟩ [(.int .i64 u)]/\(decide ((e:Int)<=u)=true->y16 (.bool false) b)/\(decide ((e:Int)<=u)=false->((0:Int)<=a/\a<(c:Int))/\∃ (ac ad:Nat),d=some ⟨ac,ad,none⟩/\∃ (q:Int),ld b ⟨ac,ad+((Int.toNat a)*1),none⟩ [(.int .i64 q)]/\((0:Int)<=q/\q<(e:Int))/\∃ (ae af:Nat),g=some ⟨ae,af,none⟩/\(none:(Option Nat))=none/\∃ (v:Int),ld b ⟨ae,(af+((Int.toNat q)*3))+0,none⟩ [(.int .i64 v)]/\(decide (v≠f)=true->y16 (.bool false) b)/\(decide (v≠f)=false->(decide ((0:Int)<a)=true->((0:Int)<=a/\a<(c:Int))/\∃ (ag ah:Nat),d=some ⟨ag,ah,none⟩/\∃ (w:Int),ld b ⟨ag,ah+((Int.toNat a)*1),none⟩ [(.int .i64 w)]/\((0:Int)<=(IntKind.wrap .i64 (a-1))/\((IntKind.wrap .i64 (a-1)):Int)<(c:Int))/\∃ (ai aj:Nat),d=some ⟨ai,aj,none⟩/\∃ (x:Int),ld b ⟨ai,aj+((Int.toNat (IntKind.wrap .i64 (a-1)))*1),none⟩ [(.int .i64 x)]/\(decide (w<=x)=true->y16 (.bool false) b)/\(decide (w<=x)=false->∃ (ak:Nat),(ak:Nat)<r/\h ak i j k l m n g e o p f d c s (IntKind.wrap .i64 (a+1)) b))/\(decide ((0:Int)<a)=false->∃ (al:Nat),(al:Nat)<r/\h al i j k l m n g e o p f d c s (IntKind.wrap .i64 (a+1)) b)))))/\(decide (a<(c:Int))=false->∃ (am:Nat),(am:Nat)<y17/\y18 am i j k l m n g e o (IntKind.wrap .i64 (p+(c:Int))) (IntKind.wrap .i64 (f+1)) b))
def vc5_L3 (y1:OA) (y2 y3:Nat) (y4:OA) (y5 y6:Nat) (y7:OA) (y8 y9:Nat) (y10:KH) (y11:PQ):Prop :=
 (∃ (m:(Nat->OA->Nat->Nat->OA->Nat->Nat->OA->Nat->Nat->Int->Int->KH->Prop)),(∃ (s:Nat),m s y1 y2 y3 y4 y5 y6 y7 y8 y9 0 0 y10)/\∀ (n:Nat) (d:(OA)) (e f:Nat) (g:(OA)) (a h:Nat) (i:(OA)) (b j:Nat) (k c:Int),∀ (l:KH),m n d e f g a h i b j k c l->(decide (c<(a:Int))=true->Does (env Try.prog) 15 [.agg #[.slice d e f,.slice g a h,.slice i b j],.int .i64 c] l fun v w=>∃ (o:(OA)) (p q:Nat),v=(.slice o p q)/\vc5_L1 d e f g a h i b j k c o p q w y11 n m)/\(decide (c<(a:Int))=false->(decide (k=(b:Int))=true->Does (env Try.prog) 15 [.agg #[.slice d e f,.slice g a h,.slice i b j],.int .i64 (a:Int)] l fun x y=>∃ (t:(OA)) (r u:Nat),x=(.slice t r u)/\y11 (.bool (decide ((r:Int)=0))) y)/\(decide (k=(b:Int))=false->y11 (.bool false) l)))
def vc5 (p0:OA) (p0n p0c:Nat) (H:KH) (Q:PQ):Prop :=
 Does (env Try.prog) 6 [] H fun n b=>∃ (a:Bool),n=(.bool a)/\((!a)=true->Q (.bool false) b)/\((!a)=false->(decide ((150:Int)<(p0n:Int))=true->Q (.bool true) b)/\(decide ((150:Int)<(p0n:Int))=false->Does (env Try.prog) 8 [(.slice p0 p0n p0c)] b fun o p=>∃ (c d:Nat),o=(.pointer (some ⟨c,d,none⟩))/\Does (env Try.prog) 9 [(.pointer (some ⟨c,d,none⟩))] p fun q r=>∃ (e:(OA)) (f g:Nat) (h:(OA)) (i j:Nat) (k:(OA)) (l m:Nat),q=(.agg #[.slice e f g,.slice h i j,.slice k l m])/\vc5_L3 e f g h i j k l m r Q))
theorem fn5 (ok:EnvOk (env Try.prog)) {p0:OA} {p0n p0c:Nat} {H:KH} {Q:PQ} (h:vc5 p0 p0n p0c H Q):Does (env Try.prog) 5 [.slice p0 p0n p0c] H Q :=
 wFun_sound (W:=W5 Try.prog) ok.tt (blt_lt (by kernel_rfl)) (ff_of ok (by kernel_rfl) Try.func5) (Eq.mpr (by kernel_rfl) h)
def W8 (P:Program):WE:=⟨env P,tupT,[],mkTab [],8⟩
def vc8 (p0:OA) (p0n p0c:Nat) (H:KH) (Q:PQ):Prop :=
 (∀ (a:Nat),((H a):(Option (Ent)))=none->Q (.pointer (some ⟨a,0,none⟩)) (KH.new H a (mkEnt (Array.toList #[Value.slice p0 p0n p0c,.int .i64 0]) 0)))
theorem fn8 (ok:EnvOk (env Try.prog)) {p0:OA} {p0n p0c:Nat} {H:KH} {Q:PQ} (h:vc8 p0 p0n p0c H Q):Does (env Try.prog) 8 [.slice p0 p0n p0c] H Q :=
 wFun_sound (W:=W8 Try.prog) ok.tt (blt_lt (by kernel_rfl)) (ff_of ok (by kernel_rfl) Try.func8) (Eq.mpr (by kernel_rfl) h)
def W9 (P:Program):WE:=⟨env P,tupT,[2,3,7,9,11],mkTab [(6,[.tmp 0 .ptr,.ref 2 2 0,.box 2 [.slice none 0 0,.slice none 0 0,.slice none 0 0],.ref 3 3 0,.box 3 [.slice none 0 0,.slice none 0 0,.slice none 0 0],.tmp 8 (.int .i64),.ref 9 9 0,.box 9 [.int .i64 0,.slice none 0 0,.slice none 0 0],.tmp 10 (.int .i64)]),(4,[.tmp 0 .ptr,.ref 2 2 0,.box 2 [.slice none 0 0,.slice none 0 0,.slice none 0 0],.ref 3 3 0,.box 3 [.slice none 0 0,.slice none 0 0,.slice none 0 0],.tmp 8 (.int .i64)]),(2,[.tmp 0 .ptr,.ref 2 2 0,.box 2 [.slice none 0 0,.slice none 0 0,.slice none 0 0],.ref 3 3 0,.box 3 [.slice none 0 0,.slice none 0 0,.slice none 0 0],.tmp 6 (.int .i64)]),(0,[.tmp 0 .ptr,.ref 2 2 0,.box 2 [.slice none 0 0,.slice none 0 0,.slice none 0 0],.ref 3 3 0,.box 3 [.slice none 0 0,.slice none 0 0,.slice none 0 0],.tmp 4 (.int .i64)])],9⟩
def vc9_J4 (y1:KH) (y2 y3:Int) (y4:OA) (y5 y6 y7:Nat) (y8:(Nat->(Nat->(Nat->(OA->(Nat->(Nat->(OA->(Nat->(Nat->(OA->(Nat->(Nat->(OA->(Nat->(Nat->(OA->(Nat->(Nat->(OA->(Nat->(Nat->(Int->(Int->(OA->(Nat->(Nat->(OA->(Nat->(Nat->(Int->(KH->Prop)))))))))))))))))))))))))))))))) (y9 y10:Nat) (y11:OA) (y12 y13:Nat) (y14:OA) (y15 y16:Nat) (y17:OA) (y18 y19:Nat) (y20:OA) (y21 y22:Nat) (y23:OA) (y24 y25:Nat) (y26:OA) (y27 y28:Nat) (y29 y30:Int) (y31:OA) (y32 y33:Nat) (y34:Int):Prop :=
 (∀ (a:Nat),((y1 a):(Option (Ent)))=none->∀ (b:Nat),(((KH.new y1 a (mkEnt [.bool (decide (y2<3)),.int .i64 y3] 0)) b):(Option (Ent)))=none->∃ (c:Nat) (d:(List Value)),((knew (KH.new y1 a (mkEnt [.bool (decide (y2<3)),.int .i64 y3] 0)) ⟨2,16,true,3,0,0,[(0,1),(1,1)],[.bool false,.int .i64 0]⟩ (.slice (some ⟨a,0,none⟩) 1 1)):(Option (Nat × (List Value))))=(some (c,d))/\∃ (e:(OA)) (f g:Nat) (h:KH),((kappend (KH.new y1 a (mkEnt [.bool (decide (y2<3)),.int .i64 y3] 0)) b ⟨2,16,true,3,0,0,[(0,1),(1,1)],[.bool false,.int .i64 0]⟩ y4 y5 y6 c d):(Option (Value × KH)))=(some (.slice e f g,h))/\∃ (i:Nat),(i:Nat)<y7/\(none:(Option Nat))=none/\y8 i y9 y10 y11 y12 y13 y14 y15 y16 y17 y18 y19 y20 y21 y22 y23 y24 y25 y26 y27 y28 y29 y30 e f g y31 y32 y33 (IntKind.wrap .i64 (y34-1)) h)
def vc9_L7 (y1 y2:Nat) (y3:OA) (y4 y5:Nat) (y6:OA) (y7 y8:Nat) (y9:OA) (y10 y11:Nat) (y12:OA) (y13 y14:Nat) (y15:OA) (y16 y17:Nat) (y18:OA) (y19 y20:Nat) (y21 y22 y23:Int) (y24:KH) (y25:Nat) (y26:(Nat->(Nat->(Nat->(OA->(Nat->(Nat->(OA->(Nat->(Nat->(OA->(Nat->(Nat->(OA->(Nat->(Nat->(OA->(Nat->(Nat->(OA->(Nat->(Nat->(Int->(KH->Prop)))))))))))))))))))))))):Prop :=
 (∃ (s:(Nat->Nat->Nat->OA->Nat->Nat->OA->Nat->Nat->OA->Nat->Nat->OA->Nat->Nat->OA->Nat->Nat->OA->Nat->Nat->Int->Int->OA->Nat->Nat->OA->Nat->Nat->Int->KH->Prop)),(∃ (az:Nat),(none:(Option Nat))=none/\s az y1 y2 y3 y4 y5 y6 y7 y8 y9 y10 y11 y12 y13 y14 y15 y16 y17 y18 y19 y20 y21 y22 none 0 0 none 0 0 y23 y24)/\∀ (ak a b:Nat) (t:(OA)) (u v:Nat) (w:(OA)) (x y:Nat) (z:(OA)) (aa ab:Nat),∀ (i:(OA)) (g j:Nat) (k:(OA)) (h l:Nat) (m:(OA)) (n o:Nat) (ac c:Int) (d:(OA)),∀ (e f:Nat) (ad:(OA)) (ae af:Nat) (p:Int) (al:KH),s ak a b t u v w x y z aa ab i g j k h l m n o ac c d e f ad ae af p al->(decide ((0:Int)<p)=true->Does (env Try.prog) 17 [.pointer (some ⟨a,b,none⟩),.int .i64 5] al fun ba bb=>∃ (q:Int),ba=(.int .i64 q)/\Does (env Try.prog) 17 [.pointer (some ⟨a,b,none⟩),.int .i64 (h:Int)] bb fun bc ay=>∃ (am:Int),bc=(.int .i64 am)/\(decide (q<3)=true->Does (env Try.prog) 17 [.pointer (some ⟨a,b,none⟩),.int .i64 (g:Int)] ay fun bd be=>∃ (an:Int),bd=(.int .i64 an)/\vc9_J4 be q an d e f ak s a b t u v w x y z aa ab i g j k h l m n o ac c ad ae af p)/\(decide (q<3)=false->vc9_J4 ay q am d e f ak s a b t u v w x y z aa ab i g j k h l m n o ac c ad ae af p))/\(decide ((0:Int)<p)=false->Does (env Try.prog) 18 [.pointer (some ⟨a,b,none⟩),.agg #[.slice i g j,.slice k h l,.slice m n o],.agg #[.int .i64 c,.slice d e f,.slice ad ae af]] al fun bf aj=>∃ (ag:(OA)) (ah ai:Nat),bf=(.slice ag ah ai)/\∀ (r:Nat),((aj r):(Option (Ent)))=none->∀ (ao:Nat),(((KH.new aj r (mkEnt [.int .i64 c,.slice d e f,.slice ag ah ai] 0)) ao):(Option (Ent)))=none->∃ (ap:Nat) (aq:(List Value)),((knew (KH.new aj r (mkEnt [.int .i64 c,.slice d e f,.slice ag ah ai] 0)) ⟨3,56,true,3,0,0,[(0,1),(1,1),(2,1)],[.int .i64 0,.slice none 0 0,.slice none 0 0]⟩ (.slice (some ⟨r,0,none⟩) 1 1)):(Option (Nat × (List Value))))=(some (ap,aq))/\∃ (ar:(OA)) (au av:Nat) (aw:KH),((kappend (KH.new aj r (mkEnt [.int .i64 c,.slice d e f,.slice ag ah ai] 0)) ao ⟨3,56,true,3,0,0,[(0,1),(1,1),(2,1)],[.int .i64 0,.slice none 0 0,.slice none 0 0]⟩ m n o ap aq):(Option (Value × KH)))=(some (.slice ar au av,aw))/\∃ (ax:Nat),(ax:Nat)<y25/\(none:(Option Nat))=none/\y26 ax a b t u v w x y z aa ab i g j k h l ar au av (IntKind.wrap .i64 (ac-1)) aw))
def vc9_L9 (y1 y2:Nat) (y3:OA) (y4 y5:Nat) (y6:OA) (y7 y8:Nat) (y9:OA) (y10 y11:Nat) (y12:OA) (y13 y14:Nat) (y15:OA) (y16 y17:Nat) (y18:OA) (y19 y20:Nat) (y21:Int) (y22:KH) (y23:PQ):Prop :=
 (∃ (e:(Nat->Nat->Nat->OA->Nat->Nat->OA->Nat->Nat->OA->Nat->Nat->OA->Nat->Nat->OA->Nat->Nat->OA->Nat->Nat->Int->KH->Prop)),(∃ (aa:Nat),(none:(Option Nat))=none/\e aa y1 y2 y3 y4 y5 y6 y7 y8 y9 y10 y11 y12 y13 y14 y15 y16 y17 y18 y19 y20 (IntKind.wrap .i64 (y21+1)) y22)/\∀ (o a b:Nat) (p:(OA)) (q r:Nat) (s:(OA)) (t u:Nat) (v:(OA)) (w x:Nat),∀ (f:(OA)) (g h:Nat) (i:(OA)) (c j:Nat) (k:(OA)) (l m:Nat) (d:Int) (n:KH),e o a b p q r s t u v w x f g h i c j k l m d n->(decide ((0:Int)<d)=true->Does (env Try.prog) 17 [.pointer (some ⟨a,b,none⟩),.int .i64 (c:Int)] n fun ab ac=>∃ (y:Int),ab=(.int .i64 y)/\Does (env Try.prog) 17 [.pointer (some ⟨a,b,none⟩),.int .i64 4] ac fun ad ae=>∃ (z:Int),ad=(.int .i64 z)/\vc9_L7 a b p q r s t u v w x f g h i c j k l m d y z ae o e)/\(decide ((0:Int)<d)=false->y23 (.agg #[.slice f g h,.slice i c j,.slice k l m]) n))
def vc9_L10 (y1 y2:Nat) (y3:OA) (y4 y5:Nat) (y6:OA) (y7 y8:Nat) (y9:OA) (y10 y11:Nat) (y12:OA) (y13 y14:Nat) (y15:OA) (y16 y17:Nat) (y18:OA) (y19 y20:Nat) (y21:Int) (y22:KH) (y23:PQ):Prop :=
 (∃ (l:(Nat->Nat->Nat->OA->Nat->Nat->OA->Nat->Nat->OA->Nat->Nat->OA->Nat->Nat->OA->Nat->Nat->OA->Nat->Nat->Int->KH->Prop)),(∃ (bo:Nat),(none:(Option Nat))=none/\l bo y1 y2 y3 y4 y5 y6 y7 y8 y9 y10 y11 y12 y13 y14 y15 y16 y17 y18 y19 y20 (IntKind.wrap .i64 (y21+1)) y22)/\∀ (am b c:Nat) (m:(OA)) (n o:Nat) (p:(OA)) (q r:Nat) (s:(OA)) (t u:Nat),∀ (v:(OA)) (w x:Nat) (y:(OA)) (a z:Nat) (aa:(OA)) (ab ac:Nat) (g:Int) (d:KH),l am b c m n o p q r s t u v w x y a z aa ab ac g d->(decide ((0:Int)<g)=true->∀ (f:Nat),((d f):(Option (Ent)))=none->∃ (ar:(List Value)) (e:(List (UInt8))),((kold (KH.new d f (mkEnt [(.int .u8 (IntKind.wrap .u8 (IntKind.wrap .i64 (97+(a:Int)))))] 0)) 1 (some ⟨f,0,none⟩) 1):(Option (List Value)))=(some ar)/\((bytesOfCells ar):(Option (List (UInt8))))=(some e)/\(((ByteArray.size (ByteArray.mk #[110]))+(ByteArray.size (ByteArray.mk (List.toArray e)))):Nat)<=1000000/\(decide ((0:Int)<(a:Int))=true->∀ (an:Nat),(((KH.new d f (mkEnt [(.int .u8 (IntKind.wrap .u8 (IntKind.wrap .i64 (97+(a:Int)))))] 0)) an):(Option (Ent)))=none->Does (env Try.prog) 17 [.pointer (some ⟨b,c,none⟩),.int .i64 3] (KH.new (KH.new d f (mkEnt [(.int .u8 (IntKind.wrap .u8 (IntKind.wrap .i64 (97+(a:Int)))))] 0)) an (mkEnt [.string (ByteArray.mk #[105]),.string (ByteArray.mk #[106])] 0)) fun bp aq=>∃ (au:Int),bp=(.int .i64 au)/\∃ (ad:(OA)) (ae af:Nat),((kslice aq 1 (some ⟨an,0,none⟩) 2 2 none (some (.int .i64 au))):(Option Value))=(some (.slice ad ae af))/\∀ (ao:Nat),((aq ao):(Option (Ent)))=none->Does (env Try.prog) 17 [.pointer (some ⟨b,c,none⟩),.int .i64 3] (KH.new aq ao (mkEnt [.string (ByteArray.mk #[115]),.string (ByteArray.mk #[117])] 0)) fun bq j=>∃ (av:Int),bq=(.int .i64 av)/\∃ (ag:(OA)) (ah ai:Nat),((kslice j 1 (some ⟨ao,0,none⟩) 2 2 none (some (.int .i64 av))):(Option Value))=(some (.slice ag ah ai))/\∀ (h:Nat),((j h):(Option (Ent)))=none->∀ (aw:Nat),(((KH.new j h (mkEnt [.string ((ByteArray.mk #[110])++(ByteArray.mk (List.toArray e))),.slice ad ae af,.slice ag ah ai] 0)) aw):(Option (Ent)))=none->∃ (ax:Nat) (ay:(List Value)),((knew (KH.new j h (mkEnt [.string ((ByteArray.mk #[110])++(ByteArray.mk (List.toArray e))),.slice ad ae af,.slice ag ah ai] 0)) ⟨3,64,true,3,0,0,[(0,1),(1,1),(2,1)],[.string (ByteArray.mk #[]),.slice none 0 0,.slice none 0 0]⟩ (.slice (some ⟨h,0,none⟩) 1 1)):(Option (Nat × (List Value))))=(some (ax,ay))/\∃ (az:(OA)) (ba bb:Nat) (bc:KH),((kappend (KH.new j h (mkEnt [.string ((ByteArray.mk #[110])++(ByteArray.mk (List.toArray e))),.slice ad ae af,.slice ag ah ai] 0)) aw ⟨3,64,true,3,0,0,[(0,1),(1,1),(2,1)],[.string (ByteArray.mk #[]),.slice none 0 0,.slice none 0 0]⟩ y a z ax ay):(Option (Value × KH)))=(some (.slice az ba bb,bc))/\∃ (bd:Nat),(bd:Nat)<am/\(none:(Option Nat))=none/\l bd b c m n o p q r s t u v w x az ba bb aa ab ac (IntKind.wrap .i64 (g-1)) bc)/\(decide ((0:Int)<(a:Int))=false->∀ (ap:Nat),(((KH.new d f (mkEnt [(.int .u8 (IntKind.wrap .u8 (IntKind.wrap .i64 (97+(a:Int)))))] 0)) ap):(Option (Ent)))=none->Does (env Try.prog) 17 [.pointer (some ⟨b,c,none⟩),.int .i64 3] (KH.new (KH.new d f (mkEnt [(.int .u8 (IntKind.wrap .u8 (IntKind.wrap .i64 (97+(a:Int)))))] 0)) ap (mkEnt [.string (ByteArray.mk #[115]),.string (ByteArray.mk #[117])] 0)) fun br k=>∃ (be:Int),br=(.int .i64 be)/\∃ (aj:(OA)) (ak al:Nat),((kslice k 1 (some ⟨ap,0,none⟩) 2 2 none (some (.int .i64 be))):(Option Value))=(some (.slice aj ak al))/\∀ (i:Nat),((k i):(Option (Ent)))=none->∀ (bf:Nat),(((KH.new k i (mkEnt [.string ((ByteArray.mk #[110])++(ByteArray.mk (List.toArray e))),.slice none 0 0,.slice aj ak al] 0)) bf):(Option (Ent)))=none->∃ (bg:Nat) (bh:(List Value)),((knew (KH.new k i (mkEnt [.string ((ByteArray.mk #[110])++(ByteArray.mk (List.toArray e))),.slice none 0 0,.slice aj ak al] 0)) ⟨3,64,true,3,0,0,[(0,1),(1,1),(2,1)],[.string (ByteArray.mk #[]),.slice none 0 0,.slice none 0 0]⟩ (.slice (some ⟨i,0,none⟩) 1 1)):(Option (Nat × (List Value))))=(some (bg,bh))/\∃ (bi:(OA)) (bj bk:Nat) (bl:KH),((kappend (KH.new k i (mkEnt [.string ((ByteArray.mk #[110])++(ByteArray.mk (List.toArray e))),.slice none 0 0,.slice aj ak al] 0)) bf ⟨3,64,true,3,0,0,[(0,1),(1,1),(2,1)],[.string (ByteArray.mk #[]),.slice none 0 0,.slice none 0 0]⟩ y a z bg bh):(Option (Value × KH)))=(some (.slice bi bj bk,bl))/\∃ (bm:Nat),(bm:Nat)<am/\(none:(Option Nat))=none/\l bm b c m n o p q r s t u v w x bi bj bk aa ab ac (IntKind.wrap .i64 (g-1)) bl))/\(decide ((0:Int)<g)=false->Does (env Try.prog) 17 [.pointer (some ⟨b,c,none⟩),.int .i64 7] d fun bs bt=>∃ (bn:Int),bs=(.int .i64 bn)/\vc9_L9 b c m n o p q r s t u v w x y a z aa ab ac bn bt y23))
def vc9_L11 (y1 y2:Nat) (y3:Int) (y4:KH) (y5:PQ):Prop :=
 (∃ (i:(Nat->Nat->Nat->OA->Nat->Nat->OA->Nat->Nat->OA->Nat->Nat->OA->Nat->Nat->OA->Nat->Nat->OA->Nat->Nat->Int->KH->Prop)),(∃ (al:Nat),(none:(Option Nat))=none/\i al y1 y2 none 0 0 none 0 0 none 0 0 none 0 0 none 0 0 none 0 0 (IntKind.wrap .i64 (y3+1)) y4)/\∀ (aa f g:Nat) (j:(OA)) (k l:Nat) (m:(OA)) (n o:Nat) (p:(OA)) (q r:Nat),∀ (s:(OA)) (a t:Nat) (u:(OA)) (v w:Nat) (x:(OA)) (y z:Nat) (h:Int) (b:KH),i aa f g j k l m n o p q r s a t u v w x y z h b->(decide ((0:Int)<h)=true->∀ (d:Nat),((b d):(Option (Ent)))=none->∃ (ab:(List Value)) (c:(List (UInt8))),((kold (KH.new b d (mkEnt [(.int .u8 (IntKind.wrap .u8 (IntKind.wrap .i64 (97+(a:Int)))))] 0)) 1 (some ⟨d,0,none⟩) 1):(Option (List Value)))=(some ab)/\((bytesOfCells ab):(Option (List (UInt8))))=(some c)/\(((ByteArray.size (ByteArray.mk #[116]))+(ByteArray.size (ByteArray.mk (List.toArray c)))):Nat)<=1000000/\∀ (e:Nat),(((KH.new b d (mkEnt [(.int .u8 (IntKind.wrap .u8 (IntKind.wrap .i64 (97+(a:Int)))))] 0)) e):(Option (Ent)))=none->∀ (ac:Nat),(((KH.new (KH.new b d (mkEnt [(.int .u8 (IntKind.wrap .u8 (IntKind.wrap .i64 (97+(a:Int)))))] 0)) e (mkEnt [.string ((ByteArray.mk #[116])++(ByteArray.mk (List.toArray c))),.string (ByteArray.mk (List.toArray c)),.bool false] 0)) ac):(Option (Ent)))=none->∃ (ad:Nat) (ae:(List Value)),((knew (KH.new (KH.new b d (mkEnt [(.int .u8 (IntKind.wrap .u8 (IntKind.wrap .i64 (97+(a:Int)))))] 0)) e (mkEnt [.string ((ByteArray.mk #[116])++(ByteArray.mk (List.toArray c))),.string (ByteArray.mk (List.toArray c)),.bool false] 0)) ⟨3,40,true,3,0,0,[(0,1),(1,1),(2,1)],[.string (ByteArray.mk #[]),.string (ByteArray.mk #[]),.bool false]⟩ (.slice (some ⟨e,0,none⟩) 1 1)):(Option (Nat × (List Value))))=(some (ad,ae))/\∃ (af:(OA)) (ag ah:Nat) (ai:KH),((kappend (KH.new (KH.new b d (mkEnt [(.int .u8 (IntKind.wrap .u8 (IntKind.wrap .i64 (97+(a:Int)))))] 0)) e (mkEnt [.string ((ByteArray.mk #[116])++(ByteArray.mk (List.toArray c))),.string (ByteArray.mk (List.toArray c)),.bool false] 0)) ac ⟨3,40,true,3,0,0,[(0,1),(1,1),(2,1)],[.string (ByteArray.mk #[]),.string (ByteArray.mk #[]),.bool false]⟩ s a t ad ae):(Option (Value × KH)))=(some (.slice af ag ah,ai))/\∃ (aj:Nat),(aj:Nat)<aa/\(none:(Option Nat))=none/\i aj f g j k l m n o p q r af ag ah u v w x y z (IntKind.wrap .i64 (h-1)) ai)/\(decide ((0:Int)<h)=false->Does (env Try.prog) 17 [.pointer (some ⟨f,g,none⟩),.int .i64 4] b fun am an=>∃ (ak:Int),am=(.int .i64 ak)/\vc9_L10 f g j k l m n o p q r s a t u v w x y z ak an y5))
def vc9 (p0b p0o:Nat) (H:KH) (Q:PQ):Prop :=
 Does (env Try.prog) 17 [.pointer (some ⟨p0b,p0o,none⟩),.int .i64 3] H fun b c=>∃ (a:Int),b=(.int .i64 a)/\vc9_L11 p0b p0o a c Q
theorem fn9 (ok:EnvOk (env Try.prog)) {p0b p0o:Nat} {H:KH} {Q:PQ} (h:vc9 p0b p0o H Q):Does (env Try.prog) 9 [.pointer (some ⟨p0b,p0o,none⟩)] H Q :=
 wFun_sound (W:=W9 Try.prog) ok.tt (blt_lt (by kernel_rfl)) (ff_of ok (by kernel_rfl) Try.func9) (Eq.mpr (by kernel_rfl) h)
def W15 (P:Program):WE:=⟨env P,tupT,[2],mkTab [],15⟩
def vc15 (p0_0:OA) (p0_0n p0_0c:Nat) (p0_1:OA) (p0_1n p0_1c:Nat) (p0_2:OA) (p0_2n p0_2c:Nat) (p1:Int) (H:KH) (Q:PQ):Prop :=
 (∀ (a:Nat),((H a):(Option (Ent)))=none->Does (env Try.prog) 22 [(.agg #[.slice p0_0 p0_0n p0_0c,.slice p0_1 p0_1n p0_1c,.slice p0_2 p0_2n p0_2c])] (KH.new H a (mkEnt [(.int .i64 p1)] 0)) fun n o=>∃ (h:(OA)) (i j:Nat) (k:(OA)) (l m:Nat) (b:(OA)) (c d:Nat),n=(.agg #[.slice h i j,.slice k l m,.slice b c d])/\Does (env Try.prog) 32 [.slice b c d,.func (.func 33) #[] #[(.pointer (some ⟨a,0,none⟩))]] o fun p q=>∃ (e:(OA)) (f g:Nat),p=(.slice e f g)/\Q (.slice e f g) q)
theorem fn15 (ok:EnvOk (env Try.prog)) {p0_0:OA} {p0_0n p0_0c:Nat} {p0_1:OA} {p0_1n p0_1c:Nat} {p0_2:OA} {p0_2n p0_2c:Nat} {p1:Int} {H:KH} {Q:PQ} (h:vc15 p0_0 p0_0n p0_0c p0_1 p0_1n p0_1c p0_2 p0_2n p0_2c p1 H Q):Does (env Try.prog) 15 [.agg #[.slice p0_0 p0_0n p0_0c,.slice p0_1 p0_1n p0_1c,.slice p0_2 p0_2n p0_2c],.int .i64 p1] H Q :=
 wFun_sound (W:=W15 Try.prog) ok.tt (blt_lt (by kernel_rfl)) (ff_of ok (by kernel_rfl) Try.func15) (Eq.mpr (by kernel_rfl) h)
def W17 (P:Program):WE:=⟨env P,tupT,[],mkTab [],17⟩
def vc17 (p0b p0o:Nat) (p1:Int) (H:KH) (Q:PQ):Prop :=
 (True/\(none:(Option Nat))=none/\∃ (c:Int),ld H ⟨p0b,p0o+1,none⟩ [(.int .i64 c)]/\(none:(Option Nat))=none/\∃ (k:(OA)) (d l:Nat),ld H ⟨p0b,p0o+0,none⟩ [(.slice k d l)]/\(decide ((d:Int)<=c)=true->Q (.int .i64 0) H)/\(decide ((d:Int)<=c)=false->(none:(Option Nat))=none/\∃ (a:Int),ld H ⟨p0b,p0o+1,none⟩ [(.int .i64 a)]/\(none:(Option Nat))=none/\(∃ (e:(List Value)),((List.length e):Nat)=(List.length [(Value.int .i64 (IntKind.wrap .i64 (a+1)))])/\ld H ⟨p0b,p0o+1,none⟩ e)/\KH.may H p0b/\True/\(none:(Option Nat))=none/\∃ (f:(OA)) (g m:Nat),ld (KH.put H ⟨p0b,p0o+1,none⟩ [(.int .i64 (IntKind.wrap .i64 (a+1)))]) ⟨p0b,p0o+0,none⟩ [(.slice f g m)]/\(none:(Option Nat))=none/\∃ (b:Int),ld (KH.put H ⟨p0b,p0o+1,none⟩ [(.int .i64 (IntKind.wrap .i64 (a+1)))]) ⟨p0b,p0o+1,none⟩ [(.int .i64 b)]/\((0:Int)<=(IntKind.wrap .i64 (b-1))/\((IntKind.wrap .i64 (b-1)):Int)<(g:Int))/\∃ (h i:Nat),f=some ⟨h,i,none⟩/\∃ (j:Int),ld (KH.put H ⟨p0b,p0o+1,none⟩ [(.int .i64 (IntKind.wrap .i64 (a+1)))]) ⟨h,i+((Int.toNat (IntKind.wrap .i64 (b-1)))*1),none⟩ [(.int .u8 j)]/\p1≠0/\Q (.int .i64 (Int.tmod (IntKind.wrap .i64 j) p1)) (KH.put H ⟨p0b,p0o+1,none⟩ [(.int .i64 (IntKind.wrap .i64 (a+1)))])))
theorem fn17 (ok:EnvOk (env Try.prog)) {p0b p0o:Nat} {p1:Int} {H:KH} {Q:PQ} (h:vc17 p0b p0o p1 H Q):Does (env Try.prog) 17 [.pointer (some ⟨p0b,p0o,none⟩),.int .i64 p1] H Q :=
 wFun_sound (W:=W17 Try.prog) ok.tt (blt_lt (by kernel_rfl)) (ff_of ok (by kernel_rfl) Try.func17) (Eq.mpr (by kernel_rfl) h)
def W18 (P:Program):WE:=⟨env P,tupT,[4,5,13],mkTab [(6,[.tmp 0 .ptr,.tmp 7 .slice,.tmp 8 .slice,.tmp 12 (.int .i64),.ref 13 13 0,.box 13 [.int .i64 0,.int .i64 0,.int .i64 0,.string ⟨#[]⟩,.slice none 0 0,.int .i64 0,.int .i64 0,.slice none 0 0],.tmp 14 (.int .i64)]),(4,[.tmp 0 .ptr,.tmp 7 .slice,.tmp 8 .slice,.tmp 12 (.int .i64)]),(2,[.tmp 0 .ptr,.ref 4 4 0,.box 4 [.slice none 0 0,.slice none 0 0,.slice none 0 0],.ref 5 5 0,.box 5 [.int .i64 0,.slice none 0 0,.slice none 0 0],.tmp 7 .slice,.tmp 8 .slice,.tmp 9 (.int .i64),.tmp 10 (.int .i64),.tmp 11 (.int .i64)]),(0,[.tmp 0 .ptr,.ref 4 4 0,.box 4 [.slice none 0 0,.slice none 0 0,.slice none 0 0],.ref 5 5 0,.box 5 [.int .i64 0,.slice none 0 0,.slice none 0 0],.tmp 7 .slice,.tmp 8 .slice,.tmp 9 (.int .i64)])],18⟩
def vc18_J0 (y1:OA) (y2 y3:Nat) (y4:OA) (y5 y6:Nat) (y7:OA) (y8 y9:Nat) (y10 y11:Int) (y12:KH) (y13:Int) (y14:OA) (y15 y16 y17:Nat) (y18:(Nat->(Nat->(Nat->(OA->(Nat->(Nat->(OA->(Nat->(Nat->(OA->(Nat->(Nat->(Int->(OA->(Nat->(Nat->(OA->(Nat->(Nat->(OA->(Nat->(Nat->(OA->(Nat->(Nat->(Int->(Int->(Int->(KH->Prop)))))))))))))))))))))))))))))) (y19 y20:Nat) (y21:Int) (y22:OA) (y23 y24:Nat) (y25:OA) (y26 y27:Nat) (y28:OA) (y29 y30:Nat):Prop :=
 Does (env Try.prog) 35 [.agg #[.slice y1 y2 y3,.slice y4 y5 y6,.slice y7 y8 y9],.int .i64 y10,.int .i64 y11] y12 fun ah c=>∃ (q:Bool),ah=(.bool q)/\((((decide (y13=0)) == q):Bool)=true->Does (env Try.prog) 20 [.int .i64 y13,.int .i64 y11] c fun ai p=>∃ (d e f:Int) (g:ByteArray) (h:(OA)) (i j:Nat) (k l:Int) (m:(OA)) (n o:Nat),ai=(.agg #[.int .i64 d,.int .i64 e,.int .i64 f,.string g,.slice h i j,.int .i64 k,.int .i64 l,.slice m n o])/\∀ (a:Nat),((p a):(Option (Ent)))=none->∀ (r:Nat),(((KH.new p a (mkEnt [.int .i64 d,.int .i64 e,.int .i64 f,.string g,.slice h i j,.int .i64 k,.int .i64 l,.slice m n o] 0)) r):(Option (Ent)))=none->∃ (s:Nat) (t:(List Value)),((knew (KH.new p a (mkEnt [.int .i64 d,.int .i64 e,.int .i64 f,.string g,.slice h i j,.int .i64 k,.int .i64 l,.slice m n o] 0)) ⟨8,104,true,3,0,0,[(0,1),(1,4),(5,1),(6,1),(7,1)],[.int .i64 0,.int .i64 0,.int .i64 0,.string (ByteArray.mk #[]),.slice none 0 0,.int .i64 0,.int .i64 0,.slice none 0 0]⟩ (.slice (some ⟨a,0,none⟩) 1 1)):(Option (Nat × (List Value))))=(some (s,t))/\∃ (u:(OA)) (v w:Nat) (x:KH),((kappend (KH.new p a (mkEnt [.int .i64 d,.int .i64 e,.int .i64 f,.string g,.slice h i j,.int .i64 k,.int .i64 l,.slice m n o] 0)) r ⟨8,104,true,3,0,0,[(0,1),(1,4),(5,1),(6,1),(7,1)],[.int .i64 0,.int .i64 0,.int .i64 0,.string (ByteArray.mk #[]),.slice none 0 0,.int .i64 0,.int .i64 0,.slice none 0 0]⟩ y14 y15 y16 s t):(Option (Value × KH)))=(some (.slice u v w,x))/\∃ (y:Nat),(y:Nat)<y17/\(none:(Option Nat))=none/\y18 y y19 y20 y1 y2 y3 y4 y5 y6 y7 y8 y9 y21 y22 y23 y24 y25 y26 y27 y28 y29 y30 u v w y13 y10 (IntKind.wrap .i64 (y11+1)) x)/\((((decide (y13=0)) == q):Bool)=false->∀ (b:Nat),((c b):(Option (Ent)))=none->∀ (z:Nat),(((KH.new c b (mkEnt [.int .i64 y13,.int .i64 y11,.int .i64 0,.int .i64 0,.int .i64 0,.string (ByteArray.mk #[]),.slice none 0 0,.int .i64 0,.int .i64 0,.slice none 0 0] 0)) z):(Option (Ent)))=none->∃ (aa:Nat) (ab:(List Value)),((knew (KH.new c b (mkEnt [.int .i64 y13,.int .i64 y11,.int .i64 0,.int .i64 0,.int .i64 0,.string (ByteArray.mk #[]),.slice none 0 0,.int .i64 0,.int .i64 0,.slice none 0 0] 0)) ⟨10,120,true,3,0,0,[(0,1),(1,1),(2,8)],[.int .i64 0,.int .i64 0,.int .i64 0,.int .i64 0,.int .i64 0,.string (ByteArray.mk #[]),.slice none 0 0,.int .i64 0,.int .i64 0,.slice none 0 0]⟩ (.slice (some ⟨b,0,none⟩) 1 1)):(Option (Nat × (List Value))))=(some (aa,ab))/\∃ (ac:(OA)) (ad ae:Nat) (af:KH),((kappend (KH.new c b (mkEnt [.int .i64 y13,.int .i64 y11,.int .i64 0,.int .i64 0,.int .i64 0,.string (ByteArray.mk #[]),.slice none 0 0,.int .i64 0,.int .i64 0,.slice none 0 0] 0)) z ⟨10,120,true,3,0,0,[(0,1),(1,1),(2,8)],[.int .i64 0,.int .i64 0,.int .i64 0,.int .i64 0,.int .i64 0,.string (ByteArray.mk #[]),.slice none 0 0,.int .i64 0,.int .i64 0,.slice none 0 0]⟩ y28 y29 y30 aa ab):(Option (Value × KH)))=(some (.slice ac ad ae,af))/\∃ (ag:Nat),(ag:Nat)<y17/\(none:(Option Nat))=none/\y18 ag y19 y20 y1 y2 y3 y4 y5 y6 y7 y8 y9 y21 y22 y23 y24 y25 y26 y27 ac ad ae y14 y15 y16 y13 y10 (IntKind.wrap .i64 (y11+1)) af)
def vc18_L1 (y1 y2:Nat) (y3:OA) (y4 y5:Nat) (y6:OA) (y7 y8:Nat) (y9:OA) (y10 y11:Nat) (y12:Int) (y13:OA) (y14 y15:Nat) (y16:OA) (y17 y18:Nat) (y19:OA) (y20 y21:Nat) (y22:OA) (y23 y24:Nat) (y25 y26:Int) (y27:KH) (y28:Nat) (y29:(Nat->(Nat->(Nat->(OA->(Nat->(Nat->(OA->(Nat->(Nat->(OA->(Nat->(Nat->(Int->(OA->(Nat->(Nat->(OA->(Nat->(Nat->(OA->(Nat->(Nat->(OA->(Nat->(Nat->(Int->(KH->Prop)))))))))))))))))))))))))))):Prop :=
 (∃ (k:(Nat->Nat->Nat->OA->Nat->Nat->OA->Nat->Nat->OA->Nat->Nat->Int->OA->Nat->Nat->OA->Nat->Nat->OA->Nat->Nat->OA->Nat->Nat->Int->Int->Int->KH->Prop)),(∃ (ah:Nat),(none:(Option Nat))=none/\k ah y1 y2 y3 y4 y5 y6 y7 y8 y9 y10 y11 y12 y13 y14 y15 y16 y17 y18 y19 y20 y21 y22 y23 y24 y25 y26 0 y27)/\∀ (ad l m:Nat) (a:(OA)) (b c:Nat) (d:(OA)) (e f:Nat) (g:(OA)) (h i:Nat),∀ (n:Int) (o:(OA)) (p q:Nat) (r:(OA)) (s t:Nat) (u:(OA)) (v w:Nat) (x:(OA)) (y:Nat),∀ (z:Nat) (aa ab j:Int) (ae:KH),k ad l m a b c d e f g h i n o p q r s t u v w x y z aa ab j ae->Does (env Try.prog) 34 [.agg #[.slice a b c,.slice d e f,.slice g h i],.int .i64 ab] ae fun ai ag=>∃ (ac:Int),ai=(.int .i64 ac)/\(decide (j<ac)=true->vc18_J0 a b c d e f g h i ab j ag aa x y z ad k l m n o p q r s t u v w)/\(decide (j<ac)=false->∃ (af:Nat),(af:Nat)<y28/\(none:(Option Nat))=none/\y29 af l m a b c d e f g h i n o p q r s t u v w x y z (IntKind.wrap .i64 (aa+1)) ag))
def vc18_L2 (y1 y2:Nat) (y3:OA) (y4 y5:Nat) (y6:OA) (y7 y8:Nat) (y9:OA) (y10 y11:Nat) (y12:Int) (y13:OA) (y14 y15:Nat) (y16:OA) (y17 y18:Nat) (y19:OA) (y20 y21:Nat) (y22:OA) (y23 y24:Nat) (y25:Int) (y26:KH) (y27:Nat) (y28:(Nat->(Nat->(Nat->(OA->(Nat->(Nat->(OA->(Nat->(Nat->(OA->(Nat->(Nat->(Int->(OA->(Nat->(Nat->(OA->(Nat->(Nat->(OA->(Nat->(Nat->(OA->(Nat->(Nat->(Int->(KH->Prop)))))))))))))))))))))))))))):Prop :=
 (∃ (k:(Nat->Nat->Nat->OA->Nat->Nat->OA->Nat->Nat->OA->Nat->Nat->Int->OA->Nat->Nat->OA->Nat->Nat->OA->Nat->Nat->OA->Nat->Nat->Int->Int->Int->KH->Prop)),(∃ (ah:Nat),(none:(Option Nat))=none/\k ah y1 y2 y3 y4 y5 y6 y7 y8 y9 y10 y11 y12 y13 y14 y15 y16 y17 y18 y19 y20 y21 y22 y23 y24 y25 y12 0 y26)/\∀ (ad l m:Nat) (a:(OA)) (b c:Nat) (d:(OA)) (e f:Nat) (g:(OA)) (h i:Nat),∀ (n:Int) (o:(OA)) (p q:Nat) (r:(OA)) (s t:Nat) (u:(OA)) (v w:Nat) (x:(OA)) (y:Nat),∀ (z:Nat) (aa ab j:Int) (ae:KH),k ad l m a b c d e f g h i n o p q r s t u v w x y z aa ab j ae->Does (env Try.prog) 34 [.agg #[.slice a b c,.slice d e f,.slice g h i],.int .i64 ab] ae fun ai ag=>∃ (ac:Int),ai=(.int .i64 ac)/\(decide (j<ac)=true->vc18_J0 a b c d e f g h i ab j ag aa x y z ad k l m n o p q r s t u v w)/\(decide (j<ac)=false->∃ (af:Nat),(af:Nat)<y27/\(none:(Option Nat))=none/\y28 af l m a b c d e f g h i n o p q r s t u v w x y z (IntKind.wrap .i64 (aa+1)) ag))
def vc18_J5 (y1:Int) (y2:Nat) (y3:OA) (y4 y5 y6:Int) (y7:ByteArray) (y8:OA) (y9 y10:Nat) (y11 y12:Int) (y13:OA) (y14 y15:Nat) (y16:KH) (y17:Nat) (y18:(Nat->(Nat->(Nat->(OA->(Nat->(Nat->(OA->(Nat->(Nat->(Int->(KH->Prop)))))))))))) (y19 y20 y21:Nat) (y22:OA) (y23 y24:Nat):Prop :=
 (((0:Int)<=y1/\y1<(y2:Int))/\∃ (a b:Nat),y3=some ⟨a,b,none⟩/\(none:(Option Nat))=none/\(∃ (c:(List Value)),((List.length c):Nat)=(List.length (Array.toList #[Value.int .i64 y4,.int .i64 y5,.int .i64 y6,.string y7,.slice y8 y9 y10,.int .i64 y11,.int .i64 y12,.slice y13 y14 y15]))/\ld y16 ⟨a,(b+((Int.toNat y1)*10))+2,none⟩ c)/\KH.may y16 a/\∃ (d:Nat),(d:Nat)<y17/\(none:(Option Nat))=none/\y18 d y19 y20 y3 y2 y21 y22 y23 y24 (IntKind.wrap .i64 (y1+1)) (KH.put y16 ⟨a,(b+((Int.toNat y1)*10))+2,none⟩ (Array.toList #[Value.int .i64 y4,.int .i64 y5,.int .i64 y6,.string y7,.slice y8 y9 y10,.int .i64 y11,.int .i64 y12,.slice y13 y14 y15])))
def vc18_L6 (y1 y2:Nat) (y3:OA) (y4 y5:Nat) (y6:OA) (y7 y8:Nat) (y9 y10 y11 y12:Int) (y13:ByteArray) (y14:OA) (y15 y16:Nat) (y17 y18:Int) (y19:OA) (y20 y21:Nat) (y22:Int) (y23:KH) (y24:Nat) (y25:(Nat->(Nat->(Nat->(OA->(Nat->(Nat->(OA->(Nat->(Nat->(Int->(KH->Prop)))))))))))):Prop :=
 (∃ (ae:(Nat->Nat->Nat->OA->Nat->Nat->OA->Nat->Nat->Int->Int->Int->Int->ByteArray->OA->Nat->Nat->Int->Int->OA->Nat->Nat->Int->KH->Prop)),(∃ (bc:Nat),(none:(Option Nat))=none/\ae bc y1 y2 y3 y4 y5 y6 y7 y8 y9 y10 y11 y12 y13 y14 y15 y16 y17 y18 y19 y20 y21 y22 y23)/\∀ (ah g h:Nat) (w:(OA)) (x y:Nat) (c:(OA)) (b e:Nat) (z i j:Int),∀ (k:Int) (l:ByteArray) (m:(OA)) (n o:Nat) (p q:Int) (r:(OA)) (s t:Nat) (aa:Int) (d:KH),ae ah g h w x y c b e z i j k l m n o p q r s t aa d->(decide ((0:Int)<aa)=true->(decide ((0:Int)<(b:Int))=true->True/\∀ (a:Nat),((d a):(Option (Ent)))=none->Does (env Try.prog) 17 [.pointer (some ⟨g,h,none⟩),.int .i64 4] (hideK (KH.new d a (mkEnt [.int .i64 4,.int .i64 7,.int .i64 13,.int .i64 14] 0)) [a]) fun bd u=>∃ (f:Int),bd=(.int .i64 f)/\(((u a):(Option (Ent)))=none->(((.agg #[.int .i64 i,.int .i64 j,.int .i64 k,.string l,.slice m n o,.int .i64 p,.int .i64 q,.slice r s t]):Value)=(.agg #[.int .i64 i,.int .i64 j,.int .i64 k,.string l,.slice m n o,.int .i64 p,.int .i64 q,.slice r s t])/\((.slice c b e):Value)=(.slice c b e)/\((.pointer (some ⟨g,h,none⟩)):Value)=(.pointer (some ⟨g,h,none⟩))/\((.slice c b e):Value)=(.slice c b e)/\((.int .i64 (b:Int)):Value)=(.int .i64 (b:Int))/\True)/\((0:Int)<=f/\f<(4:Int))/\∃ (ab ac:Nat),((some ⟨a,0,none⟩):(OA))=(some ⟨ab,ac,none⟩)/\∃ (af:Int),ld (backK (KH.new d a (mkEnt [.int .i64 4,.int .i64 7,.int .i64 13,.int .i64 14] 0)) u [a]) ⟨ab,ac+((Int.toNat f)*1),none⟩ [(.int .i64 af)]/\Does (env Try.prog) 17 [.pointer (some ⟨g,h,none⟩),.int .i64 (b:Int)] (hideK (backK (KH.new d a (mkEnt [.int .i64 4,.int .i64 7,.int .i64 13,.int .i64 14] 0)) u [a]) [a]) fun be v=>∃ (ad:Int),be=(.int .i64 ad)/\(((v a):(Option (Ent)))=none->((((0:Int)<=f/\f<(4:Int))/\∃ (ai aj:Nat),((some ⟨a,0,none⟩):(OA))=(some ⟨ai,aj,none⟩)/\((.pointer (some ⟨ai,aj+((Int.toNat f)*1),none⟩)):Value)=(.pointer (some ⟨ab,ac+((Int.toNat f)*1),none⟩)))/\(∃ (ak:Int),ld (backK (backK (KH.new d a (mkEnt [.int .i64 4,.int .i64 7,.int .i64 13,.int .i64 14] 0)) u [a]) v [a]) ⟨ab,ac+((Int.toNat f)*1),none⟩ [(.int .i64 ak)]/\((.int .i64 ak):Value)=(.int .i64 af))/\((.agg #[.int .i64 i,.int .i64 j,.int .i64 k,.string l,.slice m n o,.int .i64 p,.int .i64 q,.slice r s t]):Value)=(.agg #[.int .i64 i,.int .i64 j,.int .i64 k,.string l,.slice m n o,.int .i64 p,.int .i64 q,.slice r s t])/\((.slice c b e):Value)=(.slice c b e)/\True)/\((0:Int)<=ad/\ad<(b:Int))/\∃ (al am:Nat),c=some ⟨al,am,none⟩/\∃ (an ao ap:Int) (aq:ByteArray) (ar:(OA)) (au av:Nat) (aw ax:Int) (ay:(OA)) (az ba:Nat),ld (backK (backK (KH.new d a (mkEnt [.int .i64 4,.int .i64 7,.int .i64 13,.int .i64 14] 0)) u [a]) v [a]) ⟨al,am+((Int.toNat ad)*8),none⟩ [.int .i64 an,.int .i64 ao,.int .i64 ap,.string aq,.slice ar au av,.int .i64 aw,.int .i64 ax,.slice ay az ba]/\∀ (ag:Nat),(((backK (backK (KH.new d a (mkEnt [.int .i64 4,.int .i64 7,.int .i64 13,.int .i64 14] 0)) u [a]) v [a]) ag):(Option (Ent)))=none->True/\∃ (bb:Nat),(bb:Nat)<ah/\(none:(Option Nat))=none/\ae bb g h w x y c b e z af 0 0 (ByteArray.mk #[]) none 0 0 0 0 (some ⟨ag,0,none⟩) 2 2 (IntKind.wrap .i64 (aa-1)) (KH.new (backK (backK (KH.new d a (mkEnt [.int .i64 4,.int .i64 7,.int .i64 13,.int .i64 14] 0)) u [a]) v [a]) ag (mkEnt [.int .i64 i,.int .i64 j,.int .i64 k,.string l,.slice m n o,.int .i64 p,.int .i64 q,.slice r s t,.int .i64 an,.int .i64 ao,.int .i64 ap,.string aq,.slice ar au av,.int .i64 aw,.int .i64 ax,.slice ay az ba] 0)))))/\(decide ((0:Int)<(b:Int))=false->vc18_J5 z x w i j k l m n o p q r s t d y24 y25 g h y c b e))/\(decide ((0:Int)<aa)=false->vc18_J5 z x w i j k l m n o p q r s t d y24 y25 g h y c b e))
def vc18_L8 (y1 y2:Nat) (y3:OA) (y4 y5:Nat) (y6:OA) (y7 y8:Nat) (y9:KH) (y10:PQ):Prop :=
 (∃ (e:(Nat->Nat->Nat->OA->Nat->Nat->OA->Nat->Nat->Int->KH->Prop)),(∃ (aa:Nat),(none:(Option Nat))=none/\e aa y1 y2 y3 y4 y5 y6 y7 y8 0 y9)/\∀ (i b c:Nat) (f:(OA)) (a g:Nat) (j:(OA)) (k l:Nat) (d:Int) (h:KH),e i b c f a g j k l d h->(decide (d<(a:Int))=true->Does (env Try.prog) 17 [.pointer (some ⟨b,c,none⟩),.int .i64 5] h fun ab ac=>∃ (m:Int),ab=(.int .i64 m)/\Does (env Try.prog) 19 [(.agg #[.int .i64 1,.int .i64 m,.string (ByteArray.mk #[]),.slice none 0 0])] ac fun ad ae=>∃ (n o p:Int) (q:ByteArray) (r:(OA)) (s t:Nat) (u v:Int) (w:(OA)) (x y:Nat),ad=(.agg #[.int .i64 n,.int .i64 o,.int .i64 p,.string q,.slice r s t,.int .i64 u,.int .i64 v,.slice w x y])/\Does (env Try.prog) 17 [.pointer (some ⟨b,c,none⟩),.int .i64 3] ae fun af ag=>∃ (z:Int),af=(.int .i64 z)/\vc18_L6 b c f a g j k l d n o p q r s t u v w x y z ag i e)/\(decide (d<(a:Int))=false->y10 (.slice f a g) h))
def vc18_L9 (y1 y2:Nat) (y3:OA) (y4 y5:Nat) (y6:OA) (y7 y8:Nat) (y9:OA) (y10 y11:Nat) (y12:Int) (y13:OA) (y14 y15:Nat) (y16:OA) (y17 y18:Nat) (y19:KH) (y20:PQ):Prop :=
 (∃ (e:(Nat->Nat->Nat->OA->Nat->Nat->OA->Nat->Nat->OA->Nat->Nat->Int->OA->Nat->Nat->OA->Nat->Nat->OA->Nat->Nat->OA->Nat->Nat->Int->KH->Prop)),(∃ (ar:Nat),(none:(Option Nat))=none/\e ar y1 y2 y3 y4 y5 y6 y7 y8 y9 y10 y11 y12 y13 y14 y15 y16 y17 y18 none 0 0 none 0 0 0 y19)/\∀ (o f g:Nat) (p:(OA)) (q r:Nat) (s:(OA)) (t u:Nat) (v:(OA)) (w x:Nat),∀ (y:Int) (d:(OA)) (c z:Nat) (aa:(OA)) (ab ac:Nat) (h:(OA)) (i j:Nat) (k:(OA)) (l:Nat),∀ (m:Nat) (a:Int) (b:KH),e o f g p q r s t u v w x y d c z aa ab ac h i j k l m a b->(decide (a<=(c:Int))=true->(decide ((0:Int)<a)=true->((0:Int)<=(IntKind.wrap .i64 (a-1))/\((IntKind.wrap .i64 (a-1)):Int)<(c:Int))/\∃ (ae af:Nat),d=some ⟨ae,af,none⟩/\(none:(Option Nat))=none/\∃ (ag:Int),ld b ⟨ae,(af+((Int.toNat (IntKind.wrap .i64 (a-1)))*2))+1,none⟩ [(.int .i64 ag)]/\((0:Int)<=(IntKind.wrap .i64 (a-1))/\((IntKind.wrap .i64 (a-1)):Int)<(c:Int))/\∃ (ah ai:Nat),d=some ⟨ah,ai,none⟩/\(none:(Option Nat))=none/\∃ (ad:Bool),ld b ⟨ah,(ai+((Int.toNat (IntKind.wrap .i64 (a-1)))*2))+0,none⟩ [(.bool ad)]/\(ad=true->∀ (n:Nat),((b n):(Option (Ent)))=none->∀ (aj:Nat),(((KH.new b n (mkEnt [.int .i64 2,.int .i64 0,.int .i64 0,.string (ByteArray.mk #[]),.slice none 0 0,.int .i64 a,.int .i64 0,.slice none 0 0] 0)) aj):(Option (Ent)))=none->∃ (ak:Nat) (al:(List Value)),((knew (KH.new b n (mkEnt [.int .i64 2,.int .i64 0,.int .i64 0,.string (ByteArray.mk #[]),.slice none 0 0,.int .i64 a,.int .i64 0,.slice none 0 0] 0)) ⟨8,104,true,3,0,0,[(0,1),(1,4),(5,1),(6,1),(7,1)],[.int .i64 0,.int .i64 0,.int .i64 0,.string (ByteArray.mk #[]),.slice none 0 0,.int .i64 0,.int .i64 0,.slice none 0 0]⟩ (.slice (some ⟨n,0,none⟩) 1 1)):(Option (Nat × (List Value))))=(some (ak,al))/\∃ (am:(OA)) (an ao:Nat) (ap:KH),((kappend (KH.new b n (mkEnt [.int .i64 2,.int .i64 0,.int .i64 0,.string (ByteArray.mk #[]),.slice none 0 0,.int .i64 a,.int .i64 0,.slice none 0 0] 0)) aj ⟨8,104,true,3,0,0,[(0,1),(1,4),(5,1),(6,1),(7,1)],[.int .i64 0,.int .i64 0,.int .i64 0,.string (ByteArray.mk #[]),.slice none 0 0,.int .i64 0,.int .i64 0,.slice none 0 0]⟩ k l m ak al):(Option (Value × KH)))=(some (.slice am an ao,ap))/\∃ (aq:Nat),(aq:Nat)<o/\(none:(Option Nat))=none/\e aq f g p q r s t u v w x y d c z aa ab ac h i j am an ao (IntKind.wrap .i64 (a+1)) ap)/\(ad=false->vc18_L1 f g p q r s t u v w x y d c z aa ab ac h i j k l m a ag b o e))/\(decide ((0:Int)<a)=false->vc18_L2 f g p q r s t u v w x y d c z aa ab ac h i j k l m a b o e))/\(decide (a<=(c:Int))=false->vc18_L8 f g h i j k l m b y20))
def vc18 (p0b p0o:Nat) (p1_0:OA) (p1_0n p1_0c:Nat) (p1_1:OA) (p1_1n p1_1c:Nat) (p1_2:OA) (p1_2n p1_2c:Nat) (p2_0:Int) (p2_1:OA) (p2_1n p2_1c:Nat) (p2_2:OA) (p2_2n p2_2c:Nat) (H:KH) (Q:PQ):Prop :=
 (vc18_L9 p0b p0o p1_0 p1_0n p1_0c p1_1 p1_1n p1_1c p1_2 p1_2n p1_2c p2_0 p2_1 p2_1n p2_1c p2_2 p2_2n p2_2c H Q)
theorem fn18 (ok:EnvOk (env Try.prog)) {p0b p0o:Nat} {p1_0:OA} {p1_0n p1_0c:Nat} {p1_1:OA} {p1_1n p1_1c:Nat} {p1_2:OA} {p1_2n p1_2c:Nat} {p2_0:Int} {p2_1:OA} {p2_1n p2_1c:Nat} {p2_2:OA} {p2_2n p2_2c:Nat} {H:KH} {Q:PQ} (h:vc18 p0b p0o p1_0 p1_0n p1_0c p1_1 p1_1n p1_1c p1_2 p1_2n p1_2c p2_0 p2_1 p2_1n p2_1c p2_2 p2_2n p2_2c H Q):Does (env Try.prog) 18 [.pointer (some ⟨p0b,p0o,none⟩),.agg #[.slice p1_0 p1_0n p1_0c,.slice p1_1 p1_1n p1_1c,.slice p1_2 p1_2n p1_2c],.agg #[.int .i64 p2_0,.slice p2_1 p2_1n p2_1c,.slice p2_2 p2_2n p2_2c]] H Q :=
 wFun_sound (W:=W18 Try.prog) ok.tt (blt_lt (by kernel_rfl)) (ff_of ok (by kernel_rfl) Try.func18) (Eq.mpr (by kernel_rfl) h)
def W19 (P:Program):WE:=⟨env P,tupT,[1,2],mkTab [],19⟩
def vc19 (p0_0 p0_1:Int) (p0_2:ByteArray) (p0_3:OA) (p0_3n p0_3c:Nat) (H:KH) (Q:PQ):Prop :=
 (Q (.agg #[.int .i64 0,.int .i64 p0_0,.int .i64 p0_1,.string p0_2,.slice p0_3 p0_3n p0_3c,.int .i64 0,.int .i64 0,.slice none 0 0]) H)
theorem fn19 (ok:EnvOk (env Try.prog)) {p0_0 p0_1:Int} {p0_2:ByteArray} {p0_3:OA} {p0_3n p0_3c:Nat} {H:KH} {Q:PQ} (h:vc19 p0_0 p0_1 p0_2 p0_3 p0_3n p0_3c H Q):Does (env Try.prog) 19 [.agg #[.int .i64 p0_0,.int .i64 p0_1,.string p0_2,.slice p0_3 p0_3n p0_3c]] H Q :=
 wFun_sound (W:=W19 Try.prog) ok.tt (blt_lt (by kernel_rfl)) (ff_of ok (by kernel_rfl) Try.func19) (Eq.mpr (by kernel_rfl) h)
def W20 (P:Program):WE:=⟨env P,tupT,[4],mkTab [],20⟩
def vc20 (p0 p1:Int) (H:KH) (Q:PQ):Prop :=
 (Q (.agg #[.int .i64 1,.int .i64 0,.int .i64 0,.string (ByteArray.mk #[]),.slice none 0 0,.int .i64 p0,.int .i64 p1,.slice none 0 0]) H)
theorem fn20 (ok:EnvOk (env Try.prog)) {p0 p1:Int} {H:KH} {Q:PQ} (h:vc20 p0 p1 H Q):Does (env Try.prog) 20 [.int .i64 p0,.int .i64 p1] H Q :=
 wFun_sound (W:=W20 Try.prog) ok.tt (blt_lt (by kernel_rfl)) (ff_of ok (by kernel_rfl) Try.func20) (Eq.mpr (by kernel_rfl) h)
def W22 (P:Program):WE:=⟨env P,tupT,[1,2],mkTab [],22⟩
def vc22 (p0_0:OA) (p0_0n p0_0c:Nat) (p0_1:OA) (p0_1n p0_1c:Nat) (p0_2:OA) (p0_2n p0_2c:Nat) (H:KH) (Q:PQ):Prop :=
 (Q (.agg #[.slice p0_0 p0_0n p0_0c,.slice p0_1 p0_1n p0_1c,.slice p0_2 p0_2n p0_2c]) H)
theorem fn22 (ok:EnvOk (env Try.prog)) {p0_0:OA} {p0_0n p0_0c:Nat} {p0_1:OA} {p0_1n p0_1c:Nat} {p0_2:OA} {p0_2n p0_2c:Nat} {H:KH} {Q:PQ} (h:vc22 p0_0 p0_0n p0_0c p0_1 p0_1n p0_1c p0_2 p0_2n p0_2c H Q):Does (env Try.prog) 22 [.agg #[.slice p0_0 p0_0n p0_0c,.slice p0_1 p0_1n p0_1c,.slice p0_2 p0_2n p0_2c]] H Q :=
 wFun_sound (W:=W22 Try.prog) ok.tt (blt_lt (by kernel_rfl)) (ff_of ok (by kernel_rfl) Try.func22) (Eq.mpr (by kernel_rfl) h)
def W32 (P:Program):WE:=⟨env P,tupT,[7],mkTab [(0,[.tmp 1 .fnk,.tmp 5 .slice,.tmp 8 .slice,.tmp 9 (.int .i64),.tmp 10 (.int .i64)])],32⟩
def vc32_L1 (y1:Nat) (y2:(List Value)) (y3:OA) (y4 y5:Nat) (y6:KH) (y7:PQ):Prop :=
 (∃ (e:(Nat->Nat->List Value->OA->Nat->Nat->OA->Nat->Nat->Int->Int->KH->Prop)),(∃ (ai:Nat),e ai y1 (Array.toList (List.toArray y2)) none 0 0 y3 y4 y5 (y4:Int) 0 y6)/\∀ (n f:Nat) (g:(List Value)) (h:(OA)) (i j:Nat) (k:(OA)) (l o:Nat) (b a:Int) (m:KH),e n f g h i j k l o b a m->(decide (a<b)=true->((0:Int)<=a/\a<(l:Int))/\∃ (q r:Nat),k=some ⟨q,r,none⟩/\∃ (s:Int) (t:(OA)) (u v:Nat) (w:(OA)) (x y:Nat),ld m ⟨q,r+((Int.toNat a)*3),none⟩ [.int .i64 s,.slice t u v,.slice w x y]/\Does (env Try.prog) f ([(.agg #[.int .i64 s,.slice t u v,.slice w x y])]++g) m fun aj d=>∃ (p:Bool),aj=(.bool p)/\(p=true->∀ (c:Nat),((d c):(Option (Ent)))=none->∀ (z:Nat),(((KH.new d c (mkEnt [(.int .i64 a)] 0)) z):(Option (Ent)))=none->∃ (aa:Nat) (ab:(List Value)),((knew (KH.new d c (mkEnt [(.int .i64 a)] 0)) ⟨1,8,false,5,0,0,[],[(.int .i64 0)]⟩ (.slice (some ⟨c,0,none⟩) 1 1)):(Option (Nat × (List Value))))=(some (aa,ab))/\∃ (ac:(OA)) (ad ae:Nat) (af:KH),((kappend (KH.new d c (mkEnt [(.int .i64 a)] 0)) z ⟨1,8,false,5,0,0,[],[(.int .i64 0)]⟩ h i j aa ab):(Option (Value × KH)))=(some (.slice ac ad ae,af))/\∃ (ag:Nat),(ag:Nat)<n/\e ag f (Array.toList (List.toArray g)) ac ad ae k l o b (IntKind.wrap .i64 (a+1)) af)/\(p=false->∃ (ah:Nat),(ah:Nat)<n/\e ah f (Array.toList (List.toArray g)) h i j k l o b (IntKind.wrap .i64 (a+1)) d))/\(decide (a<b)=false->y7 (.slice h i j) m))
def vc32 (p0:OA) (p0n p0c p1:Nat) (p1k:(List Value)) (H:KH) (Q:PQ):Prop :=
 (vc32_L1 p1 p1k p0 p0n p0c H Q)
theorem fn32 (ok:EnvOk (env Try.prog)) {p0:OA} {p0n p0c p1:Nat} {p1k:List Value} {H:KH} {Q:PQ} (h:vc32 p0 p0n p0c p1 p1k H Q):Does (env Try.prog) 32 [.slice p0 p0n p0c,.func (.func p1) #[] (List.toArray p1k)] H Q :=
 wFun_sound (W:=W32 Try.prog) ok.tt (blt_lt (by kernel_rfl)) (ff_of ok (by kernel_rfl) Try.func32) (Eq.mpr (by kernel_rfl) h)
def W33 (P:Program):WE:=⟨env P,tupT,[2],mkTab [],33⟩
def vc33 (p0_0:Int) (p0_1:OA) (p0_1n p0_1c:Nat) (p0_2:OA) (p0_2n p0_2c k0b k0o:Nat) (H:KH) (Q:PQ):Prop :=
 (∃ (a:Int),ld H ⟨k0b,k0o,none⟩ [(.int .i64 a)]/\Q (.bool (decide (p0_0=a))) H)
theorem fn33 (ok:EnvOk (env Try.prog)) {p0_0:Int} {p0_1:OA} {p0_1n p0_1c:Nat} {p0_2:OA} {p0_2n p0_2c k0b k0o:Nat} {H:KH} {Q:PQ} (h:vc33 p0_0 p0_1 p0_1n p0_1c p0_2 p0_2n p0_2c k0b k0o H Q):Does (env Try.prog) 33 [.agg #[.int .i64 p0_0,.slice p0_1 p0_1n p0_1c,.slice p0_2 p0_2n p0_2c],.pointer (some ⟨k0b,k0o,none⟩)] H Q :=
 wFun_sound (W:=W33 Try.prog) ok.tt (blt_lt (by kernel_rfl)) (ff_of ok (by kernel_rfl) Try.func33) (Eq.mpr (by kernel_rfl) h)
def W34 (P:Program):WE:=⟨env P,tupT,[2],mkTab [],34⟩
def vc34 (p0_0:OA) (p0_0n p0_0c:Nat) (p0_1:OA) (p0_1n p0_1c:Nat) (p0_2:OA) (p0_2n p0_2c:Nat) (p1:Int) (H:KH) (Q:PQ):Prop :=
 ((decide (p1<0)=true->Q (.int .i64 0) H)/\(decide (p1<0)=false->(decide ((p0_1n:Int)<=p1)=true->Q (.int .i64 0) H)/\(decide ((p0_1n:Int)<=p1)=false->True/\((0:Int)<=p1/\p1<(p0_1n:Int))/\∃ (a b:Nat),p0_1=some ⟨a,b,none⟩/\(none:(Option Nat))=none/\∃ (g:(OA)) (c h:Nat),ld H ⟨a,(b+((Int.toNat p1)*3))+1,none⟩ [(.slice g c h)]/\((0:Int)<=p1/\p1<(p0_1n:Int))/\∃ (d e:Nat),p0_1=some ⟨d,e,none⟩/\(none:(Option Nat))=none/\∃ (i:(OA)) (f j:Nat),ld H ⟨d,(e+((Int.toNat p1)*3))+2,none⟩ [(.slice i f j)]/\Q (.int .i64 (IntKind.wrap .i64 ((c:Int)+(f:Int)))) H)))
theorem fn34 (ok:EnvOk (env Try.prog)) {p0_0:OA} {p0_0n p0_0c:Nat} {p0_1:OA} {p0_1n p0_1c:Nat} {p0_2:OA} {p0_2n p0_2c:Nat} {p1:Int} {H:KH} {Q:PQ} (h:vc34 p0_0 p0_0n p0_0c p0_1 p0_1n p0_1c p0_2 p0_2n p0_2c p1 H Q):Does (env Try.prog) 34 [.agg #[.slice p0_0 p0_0n p0_0c,.slice p0_1 p0_1n p0_1c,.slice p0_2 p0_2n p0_2c],.int .i64 p1] H Q :=
 wFun_sound (W:=W34 Try.prog) ok.tt (blt_lt (by kernel_rfl)) (ff_of ok (by kernel_rfl) Try.func34) (Eq.mpr (by kernel_rfl) h)
def W35 (P:Program):WE:=⟨env P,tupT,[3],mkTab [],35⟩
def vc35 (p0_0:OA) (p0_0n p0_0c:Nat) (p0_1:OA) (p0_1n p0_1c:Nat) (p0_2:OA) (p0_2n p0_2c:Nat) (p1 p2:Int) (H:KH) (Q:PQ):Prop :=
 ((decide ((0:Int)<=p1)=true->(decide (p1<(p0_1n:Int))=true->(decide ((0:Int)<=p2)=true->((0:Int)<=p1/\p1<(p0_1n:Int))/\∃ (a b:Nat),p0_1=some ⟨a,b,none⟩/\(none:(Option Nat))=none/\∃ (d:(OA)) (c e:Nat),ld H ⟨a,(b+((Int.toNat p1)*3))+1,none⟩ [(.slice d c e)]/\Q (.bool (decide (p2<(c:Int)))) H)/\(decide ((0:Int)<=p2)=false->Q (.bool false) H))/\(decide (p1<(p0_1n:Int))=false->Q (.bool false) H))/\(decide ((0:Int)<=p1)=false->Q (.bool false) H))
theorem fn35 (ok:EnvOk (env Try.prog)) {p0_0:OA} {p0_0n p0_0c:Nat} {p0_1:OA} {p0_1n p0_1c:Nat} {p0_2:OA} {p0_2n p0_2c:Nat} {p1 p2:Int} {H:KH} {Q:PQ} (h:vc35 p0_0 p0_0n p0_0c p0_1 p0_1n p0_1c p0_2 p0_2n p0_2c p1 p2 H Q):Does (env Try.prog) 35 [.agg #[.slice p0_0 p0_0n p0_0c,.slice p0_1 p0_1n p0_1c,.slice p0_2 p0_2n p0_2c],.int .i64 p1,.int .i64 p2] H Q :=
 wFun_sound (W:=W35 Try.prog) ok.tt (blt_lt (by kernel_rfl)) (ff_of ok (by kernel_rfl) Try.func35) (Eq.mpr (by kernel_rfl) h)
end Va
end Go.Proofs.Ytdflpllfkengdaa
set_option linter.unusedSimpArgs false
namespace Go.Ew
open Go.Ev Go.Deep
structure Sy where
 tok:Bool
 pos:Int
structure Tk where
 name:ByteArray
 rex:ByteArray
 skip:Bool
structure Nt where
 name:ByteArray
 ia:OA
 ic:Nat
 inh:List ByteArray
 sa:OA
 sc:Nat
 syn:List ByteArray
structure Pr where
 left:Int
 ra:OA
 rc:Nat
 right:List Sy
 ua:OA
 un:Nat
 uc:Nat
structure Gm where
 ta:OA
 tc:Nat
 toks:List Tk
 na:OA
 nc:Nat
 nts:List Nt
 pa:OA
 pc:Nat
 prods:List Pr
def syC (l:List Sy):List Value:=l.flatMap fun s=>[.bool s.tok,.int .i64 s.pos]
def tkC (l:List Tk):List Value:=l.flatMap fun t=>[.string t.name,.string t.rex,.bool t.skip]
def ntC (l:List Nt):List Value:=l.flatMap fun x=>[.string x.name,.slice x.ia x.inh.length x.ic,.slice x.sa x.syn.length x.sc]
def prC (l:List Pr):List Value:=l.flatMap fun x=>[.int .i64 x.left,.slice x.ra x.right.length x.rc,.slice x.ua x.un x.uc]
def gv (g:Gm):Value:=.agg #[.slice g.ta g.toks.length g.tc,.slice g.na g.nts.length g.nc,.slice g.pa g.prods.length g.pc]
section
variable {H : KH} {a : OA} {i : Nat}
theorem sy_ld {l:List Sy} (h:kold H 2 a l.length=some (syC l)) (hi:i<l.length):∃ b o,a=some ⟨b,o,none⟩/\ld H ⟨b,o+i*2,none⟩ [.bool l[i].tok,.int .i64 l[i].pos]:=it_ld (k:=2) (f:=fun (s:Sy)=>[.bool s.tok,.int .i64 s.pos]) (fun _=>rfl) h hi
theorem nt_ld {l:List Nt} (h:kold H 3 a l.length=some (ntC l)) (hi:i<l.length):∃ b o,a=some ⟨b,o,none⟩/\ld H ⟨b,o+i*3,none⟩ [.string l[i].name,.slice l[i].ia l[i].inh.length l[i].ic,.slice l[i].sa l[i].syn.length l[i].sc]:=it_ld (k:=3) (f:=fun (x:Nt)=>[.string x.name,.slice x.ia x.inh.length x.ic,.slice x.sa x.syn.length x.sc]) (fun _=>rfl) h hi
theorem pr_ld {l:List Pr} (h:kold H 3 a l.length=some (prC l)) (hi:i<l.length):∃ b o,a=some ⟨b,o,none⟩/\ld H ⟨b,o+i*3,none⟩ [.int .i64 l[i].left,.slice l[i].ra l[i].right.length l[i].rc,.slice l[i].ua l[i].un l[i].uc]:=it_ld (k:=3) (f:=fun (x:Pr)=>[.int .i64 x.left,.slice x.ra x.right.length x.rc,.slice x.ua x.un x.uc]) (fun _=>rfl) h hi
end
def NtsI (H:KH) (l:List Nt):Prop:=∀ i (h:i<l.length),kold H 1 l[i].ia l[i].inh.length=some (sC l[i].inh)/\kold H 1 l[i].sa l[i].syn.length=some (sC l[i].syn)
def PrsI (H:KH) (l:List Pr):Prop:=∀ i (h:i<l.length),kold H 2 l[i].ra l[i].right.length=some (syC l[i].right)
theorem NtsI.up {H H':KH} {l:List Nt} (h:NtsI H l) (hl:Le H H'):NtsI H' l:=fun i hi=>⟨hl.kold (h i hi).1,hl.kold (h i hi).2⟩
theorem PrsI.up {H H':KH} {l:List Pr} (h:PrsI H l) (hl:Le H H'):PrsI H' l:=fun i hi=>hl.kold (h i hi)
structure GI (H:KH) (g:Gm):Prop where
 t:kold H 3 g.ta g.toks.length=some (tkC g.toks)
 n:kold H 3 g.na g.nts.length=some (ntC g.nts)
 p:kold H 3 g.pa g.prods.length=some (prC g.prods)
 ni:NtsI H g.nts
 pi:PrsI H g.prods
theorem GI.up {H H':KH} {g:Gm} (h:GI H g) (hl:Le H H'):GI H' g:=⟨hl.kold h.t,hl.kold h.n,hl.kold h.p,h.ni.up hl,h.pi.up hl⟩
structure Few (g:Gm):Prop where
 t:g.toks.length<=1000
 n:g.nts.length<=1000
 p:g.prods.length<=1000
 ts:∀ i (h:i<g.toks.length),g.toks[i].name.size<=1048576
 ns:∀ i (h:i<g.nts.length),g.nts[i].name.size<=1048576/\g.nts[i].inh.length<=1000/\g.nts[i].syn.length<=1000/\(∀ s∈g.nts[i].inh,s.size<=1048576)/\∀ s∈g.nts[i].syn,s.size<=1048576
 ps:∀ i (h:i<g.prods.length),g.prods[i].right.length<=1000
structure NameOk (s:ByteArray):Prop where
 a:1<=s.size
 b:s.size<=8
 c:∀ i,i<s.size->(97<=byteAt s i/\byteAt s i<=122)\/(0<i/\48<=byteAt s i/\byteAt s i<=57)
structure NamesOk (l:List ByteArray):Prop where
 a:∀ i (h:i<l.length),NameOk l[i]
 b:∀ i (h:i<l.length) j (h2:j<i),l[i]≠l[j]'(by omega)
structure SymOk (T:List Tk) (N:Nat) (s:Sy):Prop where
 a:0<=s.pos
 b:s.tok=true->∃ h:s.pos.toNat<T.length,T[s.pos.toNat].skip=false
 c:s.tok=false->s.pos<N
structure AttrsOk (x:Nt):Prop where
 a:x.inh.length+x.syn.length<=4
 b:NamesOk (x.inh++x.syn)
structure ProdOk (T:List Tk) (N:Nat) (p:Pr):Prop where
 a:0<=p.left/\p.left<N
 b:p.right.length<=5
 c:∀ i (h:i<p.right.length),SymOk T N p.right[i]
def namesG (g:Gm):List ByteArray:=g.toks.map Tk.name++g.nts.map Nt.name
structure MayG (g:Gm):Prop where
 t:1<=g.toks.length/\g.toks.length<=8
 n:1<=g.nts.length/\g.nts.length<=8
 p:1<=g.prods.length/\g.prods.length<=16
 nm:NamesOk (namesG g)
 at_:∀ i (h:i<g.nts.length),AttrsOk g.nts[i]
 pr:∀ i (h:i<g.prods.length),ProdOk g.toks g.nts.length g.prods[i]
def SameN (x y:Nt):Prop:=x.name=y.name/\x.inh=y.inh/\x.syn=y.syn
def SameP (x y:Pr):Prop:=x.left=y.left/\x.right=y.right
structure SameG (g h:Gm):Prop where
 t:g.toks=h.toks
 n:∃ e:g.nts.length=h.nts.length,∀ i (h1:i<g.nts.length),SameN g.nts[i] (h.nts[i]'(by omega))
 p:∃ e:g.prods.length=h.prods.length,∀ i (h1:i<g.prods.length),SameP g.prods[i] (h.prods[i]'(by omega))
end Go.Ew
namespace Go.Proofs.Ytdflpllfkengdaa
open Go.Ev Go.Ew
namespace Va
section
variable (ok : EnvOk (env Try.prog))
include ok
omit ok in
theorem c6 {H:KH} {Q:PQ} (hq:Q (.bool true) H):Does (env Try.prog) 6 [] H Q:=does_true (by kernel_rfl) (by kernel_rfl) (by kernel_rfl) hq
theorem c22 {v:Value} {H:KH} {Q:PQ} {g:Gm} (hq:Q (gv g) H):Does (env Try.prog) 22 [gv g] H Q:=fn22 ok hq
end
end Va
end Go.Proofs.Ytdflpllfkengdaa
namespace Go.Ew
open Go.Ev Go.Deep
def prV (x:Pr):Value:=.agg #[.int .i64 x.left,.slice x.ra x.right.length x.rc,.slice x.ua x.un x.uc]
structure Nr (X H:KH) (sz:Nat) (a:OA) (n c:Nat) (cs:List Value):Prop where
 le:Le X H
 g:Gs H sz a n c cs
 fr:∀ k,blk a=some k->X k=none
theorem Nr.nil {X H:KH} {sz:Nat} (h:Le X H):Nr X H sz none 0 0 []:=⟨h,.nil,fun k z=>(by cases z)⟩
theorem Nr.up {X H H':KH} {sz n c:Nat} {a:OA} {cs:List Value} (h:Nr X H sz a n c cs) (hl:Le H H'):Nr X H' sz a n c cs:=⟨h.le.trans hl,h.g.agree fun k e _ q=>hl k e q,h.fr⟩
theorem Nr.from_ {X Y H:KH} {sz n c:Nat} {a:OA} {cs:List Value} (h:Nr Y H sz a n c cs) (hl:Le X Y):Nr X H sz a n c cs:=⟨hl.trans h.le,h.g,fun k z=>hl.none (h.fr k z)⟩
theorem Nr.row {X H:KH} {sz n c:Nat} {a:OA} {cs:List Value} (h:Nr X H sz a n c cs):kold H sz a n=some cs:=h.g.row
theorem Nr.app {X H:KH} {ti:TI} {n c nm m:Nat} {a:OA} {cs new:List Value} (h:Nr X H ti.size a n c cs) (hn:H nm=none) (hm:new.length=m*ti.size) (hs:n+m<=1000000) (hb:ti.bytes<=1000000) (hz:1<=ti.size) (hro:ti.size<=1000000:=by decide) :
 ∃ a' c' H',kappend H nm ti a n c m new=some (.slice a' (n+m) c',H')/\Nr X H' ti.size a' (n+m) c' (cs++new)/\(∀ k e,H k=some e->blk a≠some k->H' k=some e):=by
 obtain ⟨a',c',H',f1,f2,f3,f4⟩:=h.g.appends (ti:=ti) (nm:=nm) (m:=m) (new:=new) hn hm hs hb hz hro
 refine ⟨a',c',H',f1,⟨fun k e q=>f3 k e (h.le k e q) (fun z=>by rw [h.fr k z] at q; cases q),f2,fun k z=>?_⟩,f3⟩
 rcases f4 k z with w | w
 .exact h.fr k w
 .rw [w]; exact h.le.none hn
def tiI:TI:=⟨1,8,false,5,0,0,[],[.int .i64 0]⟩
def offP (ls:List Int) (nt:Int) (i:Nat):List Int:=List.map (fun j:Nat=>(j:Int)) ((List.range i).filter fun j=>decide (ls[j]? = some nt))
def lefts (g:Gm):List Int:=g.prods.map Pr.left
def offG (g:Gm) (nt:Int):List Int:=offP (lefts g) nt g.prods.length
theorem offP_succ (ls:List Int) (nt:Int) (i:Nat):offP ls nt (i+1)=offP ls nt i++(if ls[i]? = some nt then [(i:Int)] else []):=by
 unfold offP
 rw [List.range_succ,List.filter_append,List.map_append]
 congr 1
 by_cases h:ls[i]? = some nt
 .rw [if_pos h]; simp [h]
 .rw [if_neg h]; simp [h]
theorem offP_len (ls:List Int) (nt:Int) (i:Nat):(offP ls nt i).length<=i:=by
 unfold offP
 rw [List.length_map]
 have:=List.length_filter_le (fun j=>decide (ls[j]? = some nt)) (List.range i)
 rwa [List.length_range] at this
theorem lefts_at {g:Gm} {i:Nat} (h:i<g.prods.length):(lefts g)[i]? = some g.prods[i].left:=by unfold lefts; simp [h]
def Ni (X H:KH) (a:OA) (c:Nat) (l:List Int):Prop:=Nr X H 1 a l.length c (inC l)
end Go.Ew
namespace Go.Proofs.Ytdflpllfkengdaa
open Go.Ev Go.Ew
namespace Va
section
variable (ok : EnvOk (env Try.prog))
include ok
theorem c33 {x:Pr} {nt:Int} {b:Nat} {H:KH} {Q:PQ} (hb:ld H ⟨b,0,none⟩ [.int .i64 nt]) (hq:Q (.bool (decide (x.left=nt))) H):Does (env Try.prog) 33 [prV x,.pointer (some ⟨b,0,none⟩)] H Q:=fn33 ok ⟨_,hb,hq⟩
theorem c32 {g:Gm} {nt:Int} {b:Nat} {H:KH} {Q:PQ} (hg:GI H g) (hb:ld H ⟨b,0,none⟩ [.int .i64 nt]) (hs:g.prods.length<=100000) (hq:∀ a c H',Ni H H' a c (offG g nt)->Q (.slice a (offG g nt).length c) H'):Does (env Try.prog) 32 [.slice g.pa g.prods.length g.pc,.func (.func 33) #[] #[.pointer (some ⟨b,0,none⟩)]] H Q:=by
 refine fn32 ok (p1:=33) (p1k:=[.pointer (some ⟨b,0,none⟩)]) ?_
 show vc32_L1 _ _ _ _ _ _ _
 unfold vc32_L1
 refine ⟨fun k n4 l5 a6 n7 n8 a9 n10 n11 x12 x13 H14=>n4=33/\l5=[.pointer (some ⟨b,0,none⟩)]/\a9=g.pa/\n10=g.prods.length/\x12=g.prods.length/\∃ i:Nat,x13=i/\i<=g.prods.length/\k=g.prods.length-i/\n7=(offP (lefts g) nt i).length/\Nr H H14 1 a6 n7 n8 (inC (offP (lefts g) nt i)),⟨_,rfl,rfl,rfl,rfl,rfl,0,rfl,by omega,rfl,rfl,.nil (Le.refl H)⟩,?_⟩
 rintro k n4 l5 a6 n7 n8 a9 n10 n11 x12 x13 H14 ⟨rfl,rfl,rfl,rfl,rfl,i,rfl,hi,rfl,rfl,o⟩
 refine ⟨fun hlt=>?_,fun hge=>?_⟩
 .have hlt:i<g.prods.length:=by have:=of_decide_eq_true hlt; omega
  have e0:Int.toNat ((i:Nat):Int)=i:=by omega
  have hi1:IntKind.wrap .i64 (((i:Nat):Int)+1)=((i+1:Nat):Int):=by rw [wrap64 (by omega) (by omega)]; omega
  have hl:=offP_len (lefts g) nt i
  obtain ⟨b0,o0,ha,r0⟩:=pr_ld (o.le.kold hg.p) hlt
  rw [e0,hi1]
  refine ⟨⟨by omega,by omega⟩,b0,o0,ha,_,_,_,_,_,_,_,r0,c33 ok (x:=g.prods[i]) (o.le.ld hb) ⟨_,rfl,fun z=>fun n6 h6 n7 h7=>⟨_,_,knew_of (ti:=tiI) (lit_kold (if_pos rfl) rfl),?_⟩,fun z=>?_⟩⟩
  .have z:=of_decide_eq_true z
   obtain ⟨a5,c5,H5,f1,f2,f3⟩:=(o.up (Le.new h6)).app (ti:=tiI) (nm:=n7) (m:=1) (new:=[.int .i64 ((i:Nat):Int)]) h7 rfl (by omega) (by decide) (by decide)
   have e:offP (lefts g) nt (i+1)=offP (lefts g) nt i++[((i:Nat):Int)]:=by rw [offP_succ,if_pos (by rw [lefts_at hlt,z])]
   refine ⟨a5,_,c5,H5,f1,g.prods.length-(i+1),by omega,rfl,rfl,rfl,rfl,rfl,i+1,rfl,by omega,rfl,by rw [e,List.length_append]; rfl,?_⟩
   rw [e,inC_app]; exact f2
  .have z:=of_decide_eq_false z
   have e:offP (lefts g) nt (i+1)=offP (lefts g) nt i:=by rw [offP_succ,if_neg (by rw [lefts_at hlt]; exact fun w=>z (Option.some.inj w)),List.append_nil]
   refine ⟨g.prods.length-(i+1),by omega,rfl,rfl,rfl,rfl,rfl,i+1,rfl,by omega,rfl,by rw [e],?_⟩
   rw [e]; exact o
 .have hge:i=g.prods.length:=by have:=of_decide_eq_false hge; omega
  subst hge
  exact hq _ _ _ o
theorem c15 {g:Gm} {nt:Int} {H:KH} {Q:PQ} (hg:GI H g) (hs:g.prods.length<=100000) (hq:∀ a c H',Ni H H' a c (offG g nt)->Q (.slice a (offG g nt).length c) H'):Does (env Try.prog) 15 [gv g,.int .i64 nt] H Q:=by
 refine fn15 ok fun n1 h1=>c22 ok (v:=.bool true) ⟨_,_,_,_,_,_,_,_,_,rfl,?_⟩
 exact c32 ok (hg.up (Le.new h1)) ⟨rfl,_,if_pos rfl,mk_rd (cs:=[.int .i64 nt]) (u:=0)⟩ hs fun a c H' o=>⟨a,_,c,rfl,hq a c H' (o.from_ (Le.new h1))⟩
end
end Va
end Go.Proofs.Ytdflpllfkengdaa
namespace Go.Ew
open Go.Ev Go.Deep
structure PkB (Z:KH) (a:OA) (n:Nat):Prop where
 b:∀ i,i<n->∃ b o x,a=some ⟨b,o,none⟩/\ld Z ⟨b,o+i,none⟩ [.int .u8 x]/\0<=x/\x<=255
 n:n<=150
theorem PkB.up {Z Z':KH} {a:OA} {n:Nat} (h:PkB Z a n) (hl:Le Z Z'):PkB Z' a n:=⟨fun i hi=>by
 obtain ⟨b,o,x,h1,h2,h3⟩:=h.b i hi
 exact ⟨b,o,x,h1,hl.ld h2,h3⟩,h.n⟩
structure PkE (H:KH) (p:Nat) (a:OA) (n c:Nat):Prop where
 ex:∃ e x,H p=some e/\wrB e=true/\rd e.cells 0 2=some [.slice a n c,.int .i64 x]/\0<=x/\x<=n
theorem PkE.up {H H':KH} {p n c:Nat} {a:OA} (h:PkE H p a n c) (hl:∀ e,H p=some e->H' p=some e):PkE H' p a n c:=by
 obtain ⟨e,x,h1,h2⟩:=h.ex
 exact ⟨e,x,hl e h1,h2⟩
structure St (Z H:KH) (p:Nat) (a:OA) (n c:Nat) (R:List Rr):Prop where
 r:Rws Z H p R
 e:PkE H p a n c
section
variable {Z H : KH} {p n c : Nat} {a : OA} {R : List Rr}
theorem St.ne (h:St Z H p a n c R) {nm:Nat} (hn:H nm=none):nm≠p:=fun z=>by
 obtain ⟨e,x,h1,_⟩:=h.e.ex
 rw [z,h1] at hn; cases hn
theorem St.new (h:St Z H p a n c R) {nm:Nat} {E:Ent} (hn:H nm=none):St Z (H.new nm E) p a n c R:=⟨h.r.step fun k e _ q=>Le.new hn k e q,h.e.up fun e q=>Le.new hn p e q⟩
theorem St.perm (h:St Z H p a n c R) {R':List Rr} (q:R.Perm R'):St Z H p a n c R':=⟨h.r.perm q,h.e⟩
theorem St.none_ {sz:Nat} (h:St Z H p a n c R):St Z H p a n c (⟨sz,none,0,0,[]⟩ :: R):=⟨h.r.none_,h.e⟩
theorem St.tail {r:Rr} (h:St Z H p a n c (r :: R)):St Z H p a n c R:=⟨h.r.tail,h.e⟩
theorem St.app {r:Rr} {nm m:Nat} {ti:TI} {new:List Value} (h:St Z H p a n c (r :: R)) (hn:H nm=none) (hsz:r.sz=ti.size) (hm:new.length=m*ti.size) (hs:r.n+m<=1000000) (hb:ti.bytes<=1000000) (hz:1<=ti.size) (hro:ti.size<=1000000:=by decide) :
 ∃ a' c' H',kappend H nm ti r.a r.n r.c m new=some (.slice a' (r.n+m) c',H')/\St Z H' p a n c (⟨r.sz,a',r.n+m,c',r.cs++new⟩ :: R):=by
 obtain ⟨a',c',H',f1,f2,f3,f4⟩:=h.r.app (ti:=ti) (nm:=nm) (m:=m) (new:=new) hn (h.ne hn) hsz hm hs hb hz hro
 exact ⟨a',c',H',f1,f2,h.e.up f3⟩
theorem St.grow (h:St Z H p a n c R) {nm:Nat} {E:Ent} (hn:H nm=none):St (Z.new nm E) (H.new nm E) p a n c R/\Le Z (Z.new nm E):=by
 have hz:Z nm=none:=h.r.le.none hn
 refine ⟨⟨(h.new hn).r.base h.r.le.new2 (new_none h.r.zp (fun z=>h.ne hn z.symm)) fun r q k z=>?_,(h.new hn).e⟩,Le.new hz⟩
 obtain ⟨e,q2⟩:=(h.r.ok r q).has z
 exact new_none (h.r.fr r q k z).1 fun w=>by rw [w,hn] at q2; cases q2
theorem St.freeze {r:Rr} (h:St Z H p a n c (r :: R)):∃ Z',Le Z Z'/\St Z' H p a n c R/\kold Z' r.sz r.a r.n=some r.cs:=by
 have g:=h.r.head
 have hd:=List.pairwise_cons.1 h.r.dj
 cases hb:blk r.a with
 | none =>
   exact ⟨Z,Le.refl Z,h.tail,(g.agree (H':=Z) fun k e w _=>by rw [hb] at w; cases w).row⟩
 | some b =>
   obtain ⟨e,he⟩:=g.has hb
   have hf:=h.r.fr r (List.mem_cons_self ..) b hb
   have hle:Le (Z.new b e) H:=fun k e' q=>by
    simp only [KH.new] at q
    by_cases z:k=b
    .rw [if_pos z] at q; cases q; rw [z]; exact he
    .rw [if_neg z] at q; exact h.r.le k e' q
   refine ⟨Z.new b e,Le.new hf.1,⟨h.tail.r.base hle (new_none h.r.zp fun z=>hf.2 z.symm) fun s q k z=>new_none (h.r.fr s (List.mem_cons_of_mem _ q) k z).1 fun w=>hd.1 s q b hb (by rw [<- w]; exact z),h.e⟩,?_⟩
   refine (g.agree (H':=Z.new b e) fun k e' w q=>?_).row
   rw [hb] at w
   cases w
   rw [he] at q
   cases q
   exact if_pos rfl
theorem St.enter (h:St Z H p a n c R):St (H.del p) H p a n c []/\Le Z (H.del p):=⟨⟨.nil (del_le H p) (if_pos rfl),h.e⟩,fun k e q=>del_at (h.r.le k e q) fun z=>by rw [z,h.r.zp] at q; cases q⟩
theorem St.leave {H':KH} (h:St Z H p a n c R) (h':St (H.del p) H' p a n c []):St Z H' p a n c R:=⟨h.r.step fun k e z q=>h'.r.le k e (del_at q z),h'.e⟩
end
theorem hide_new {H:KH} {n:Nat} {e:Ent} (h:H n=none):hideK (H.new n e) [n]=H:=new_del h
theorem len_of {α:Type} {f:α->List Value} {k n:Nat} (hf:∀ x,(f x).length=k) (hk:0<k) {H:KH} {a:OA} {l:List α} (h:kold H k a n=some (l.flatMap f)):n=l.length:=by
 have h1:=kold_len h
 rw [fm_len hf] at h1
 exact (Nat.eq_of_mul_eq_mul_right hk h1).symm
structure Xi where
 a:Int
 b:Int
 c:Int
 s:ByteArray
 la:OA
 ln:Nat
 lc:Nat
 d:Int
 e:Int
 ma:OA
 mn:Nat
 mc:Nat
def xiC (x:Xi):List Value:=[.int .i64 x.a,.int .i64 x.b,.int .i64 x.c,.string x.s,.slice x.la x.ln x.lc,.int .i64 x.d,.int .i64 x.e,.slice x.ma x.mn x.mc]
def exC (l:List Xi):List Value:=l.flatMap xiC
theorem exC_app (l m:List Xi):exC (l++m)=exC l++exC m:=List.flatMap_append
theorem ex_ld {H:KH} {a:OA} {i:Nat} {l:List Xi} (h:kold H 8 a l.length=some (exC l)) (hi:i<l.length):∃ b o,a=some ⟨b,o,none⟩/\ld H ⟨b,o+i*8,none⟩ (xiC l[i]):=it_ld (k:=8) (f:=xiC) (fun _=>rfl) h hi
def tiX:TI:=⟨8,104,true,3,0,0,[(0,1),(1,4),(5,1),(6,1),(7,1)],[.int .i64 0,.int .i64 0,.int .i64 0,.string ⟨#[]⟩,.slice none 0 0,.int .i64 0,.int .i64 0,.slice none 0 0]⟩
def tiU:TI:=⟨10,120,true,3,0,0,[(0,1),(1,1),(2,8)],[.int .i64 0,.int .i64 0,.int .i64 0,.int .i64 0,.int .i64 0,.string ⟨#[]⟩,.slice none 0 0,.int .i64 0,.int .i64 0,.slice none 0 0]⟩
theorem St.write {Z H:KH} {p n c sz rn rc:Nat} {a ra:OA} {R:List Rr} {xs ys zs vs:List Value} (h:St Z H p a n c (⟨sz,ra,rn,rc,xs++ys++zs⟩ :: R)) (hy:ys.length=vs.length) (h0:0<(xs++ys++zs).length):∃ b o,ra=some ⟨b,o,none⟩/\ld H ⟨b,o+xs.length,none⟩ ys/\KH.may H b/\St Z (H.put ⟨b,o+xs.length,none⟩ vs) p a n c (⟨sz,ra,rn,rc,xs++vs++zs⟩ :: R):=by
 obtain ⟨b,o,e,f1,f2,f3,f4,_⟩:=h.r.write (vs:=vs) hy h0
 exact ⟨b,o,e,f1,f2,f3,h.e.up fun e q=>put_ne (fun z=>f4 z.symm) q⟩
abbrev T18:=Nat->Nat->Nat->OA->Nat->Nat->OA->Nat->Nat->OA->Nat->Nat->Int->OA->Nat->Nat->OA->Nat->Nat->OA->Nat->Nat->OA->Nat->Nat->Int->KH->Prop
end Go.Ew
namespace Go.Proofs.Ytdflpllfkengdaa
open Go.Ev Go.Ew
namespace Va
section
variable (ok : EnvOk (env Try.prog))
include ok
theorem c17 {Z H:KH} {p n c m:Nat} {a:OA} {R:List Rr} {Q:PQ} (hb:PkB Z a n) (h:St Z H p a n c R) (hm:0<m) (hq:∀ (x:Int) H',0<=x->x<m->St Z H' p a n c R->Q (.int .i64 x) H'):Does (env Try.prog) 17 [.pointer (some ⟨p,0,none⟩),.int .i64 ((m:Nat):Int)] H Q:=by
 obtain ⟨e,x,h1,h2,h3,h4,h5⟩:=h.e.ex
 have hn:=hb.n
 have full:ld H ⟨p,0,none⟩ [.slice a n c,.int .i64 x]:=⟨rfl,e,h1,h3⟩
 refine fn17 ok ⟨trivial,rfl,x,ldSub full 1 1 (by simp),rfl,a,n,c,ldSub full 0 1 (by simp),fun z=>hq 0 H (by omega) (by omega) h,fun z=>?_⟩
 have z:x<n:=by have:=of_decide_eq_false z; omega
 have e1:IntKind.wrap .i64 (x+1)=x+1:=wrap64 (by omega) (by omega)
 have e2:IntKind.wrap .i64 (x+1-1)=x:=by rw [wrap64 (by omega) (by omega)]; omega
 have hr:rd (wr e.cells 1 [.int .i64 (x+1)]) 0 2=some [.slice a n c,.int .i64 (x+1)]:=by
  have:=rdWr (e:=e.cells) (N:=2) (o:=1) (xs:=[.slice a n c]) (ys:=[.int .i64 x]) (zs:=[]) (vs:=[.int .i64 (x+1)]) h3 rfl rfl
  simpa using this
 have hp1:(H.put ⟨p,0+1,none⟩ [.int .i64 (x+1)]) p=some ⟨wr e.cells (0+1) [.int .i64 (x+1)],e.len,e.unk,none⟩:=put_at h1
 have full2:ld (H.put ⟨p,0+1,none⟩ [.int .i64 (x+1)]) ⟨p,0,none⟩ [.slice a n c,.int .i64 (x+1)]:=⟨rfl,_,hp1,hr⟩
 have hst:St Z (H.put ⟨p,0+1,none⟩ [.int .i64 (x+1)]) p a n c R:=⟨h.r.step fun k e' k1 q=>put_ne k1 q,⟨_,x+1,hp1,wrB_keep h2,hr,by omega,by omega⟩⟩
 obtain ⟨b,o,y,ha,hy,y1,y2⟩:=hb.b x.toNat (by omega)
 have ey:IntKind.wrap .i64 y=y:=wrap64 (by omega) (by omega)
 refine ⟨rfl,x,ldSub full 1 1 (by simp),rfl,⟨[.int .i64 x],rfl,ldSub full 1 1 (by simp)⟩,⟨e,h1,h2⟩,trivial,?_⟩
 rw [e1]
 refine ⟨rfl,a,n,c,ldSub full2 0 1 (by simp),rfl,x+1,ldSub full2 1 1 (by simp),?_⟩
 rw [e2]
 refine ⟨⟨by omega,by omega⟩,b,o,ha,y,?_,by omega,?_⟩
 .rw [Nat.mul_one]
  exact hst.r.le.ld hy
 .rw [ey]
  exact hq _ _ (Int.tmod_nonneg _ y1) (Int.tmod_lt_of_pos _ (by omega)) hst
theorem c8 {a:OA} {n c:Nat} {H:KH} {Q:PQ} (hb:PkB H a n) (hq:∀ p H',H p=none->St H H' p a n c []->Q (.pointer (some ⟨p,0,none⟩)) H'):Does (env Try.prog) 8 [.slice a n c] H Q :=
 fn8 ok fun n1 h1=>hq n1 _ h1 ⟨.nil (Le.new h1) h1,⟨mkEnt [.slice a n c,.int .i64 0] 0,0,if_pos rfl,rfl,mk_rd (cs:=[.slice a n c,.int .i64 0]) (u:=0),by omega,by omega⟩⟩
theorem c19 {k x:Int} {s:ByteArray} {a:OA} {n c:Nat} {H:KH} {Q:PQ} (hq:Q (.agg #[.int .i64 0,.int .i64 k,.int .i64 x,.string s,.slice a n c,.int .i64 0,.int .i64 0,.slice none 0 0]) H):Does (env Try.prog) 19 [.agg #[.int .i64 k,.int .i64 x,.string s,.slice a n c]] H Q:=fn19 ok hq
theorem c20 {x y:Int} {H:KH} {Q:PQ} (hq:Q (.agg #[.int .i64 1,.int .i64 0,.int .i64 0,.string ⟨#[]⟩,.slice none 0 0,.int .i64 x,.int .i64 y,.slice none 0 0]) H):Does (env Try.prog) 20 [.int .i64 x,.int .i64 y] H Q:=fn20 ok hq
theorem c34 {ta na pa:OA} {tn tc nc pn pc:Nat} {nts:List Nt} {x:Int} {H:KH} {Q:PQ} (hn:kold H 3 na nts.length=some (ntC nts)) (hs:∀ i (h:i<nts.length),nts[i].inh.length+nts[i].syn.length<=4) (hq:∀ (y:Int),0<=y->y<=4->Q (.int .i64 y) H):Does (env Try.prog) 34 [.agg #[.slice ta tn tc,.slice na nts.length nc,.slice pa pn pc],.int .i64 x] H Q:=by
 refine fn34 ok ⟨fun z=>hq 0 (by omega) (by omega),fun z=>⟨fun z2=>hq 0 (by omega) (by omega),fun z2=>?_⟩⟩
 have z:=of_decide_eq_false z
 have z2:=of_decide_eq_false z2
 obtain ⟨b,o,ha,r⟩:=nt_ld hn (i:=x.toNat) (by omega)
 have:=hs x.toNat (by omega)
 refine ⟨trivial,⟨by omega,by omega⟩,b,o,ha,rfl,_,_,_,ldSub r 1 1 (by simp),⟨by omega,by omega⟩,b,o,ha,rfl,_,_,_,ldSub r 2 1 (by simp),?_⟩
 rw [wrap64 (by omega) (by omega)]
 exact hq _ (by omega) (by omega)
theorem c35 {ta na pa:OA} {tn tc nc pn pc:Nat} {nts:List Nt} {x y:Int} {H:KH} {Q:PQ} (hn:kold H 3 na nts.length=some (ntC nts)) (hq:∀ b,Q (.bool b) H):Does (env Try.prog) 35 [.agg #[.slice ta tn tc,.slice na nts.length nc,.slice pa pn pc],.int .i64 x,.int .i64 y] H Q:=by
 refine fn35 ok ⟨fun z=>⟨fun z2=>⟨fun z3=>?_,fun _=>hq _⟩,fun _=>hq _⟩,fun _=>hq _⟩
 have z:=of_decide_eq_true z
 have z2:=of_decide_eq_true z2
 obtain ⟨b,o,ha,r⟩:=nt_ld hn (i:=x.toNat) (by omega)
 exact ⟨⟨by omega,by omega⟩,b,o,ha,rfl,_,_,_,ldSub r 1 1 (by simp),hq _⟩
theorem l18 {Z H:KH} {p n c:Nat} {a:OA} {nts:List Nt} {na:OA} {right:List Sy} {occ:Nat} {nt:Int} (hb:PkB Z a n) (hn:kold Z 3 na nts.length=some (ntC nts)) (hs:∀ i (h:i<nts.length),nts[i].inh.length+nts[i].syn.length<=4) (ho:occ<=100)
 {a6 a12 a16 a19 a22 a25:OA} {n7 n8 n11 n13 n14 n17 n18 n20 n21 n23 n24 n26 n27:Nat} {x15:Int} {os:List Value} {ins:List Xi} (h:St Z H p a n c [⟨10,a22,n23,n24,os⟩,⟨8,a25,n26,n27,exC ins⟩]) (hc:n23+n26<=5*occ) {k0:Nat} (hk:0<k0) {cont:T18}
 (hq:∀ a22 n23 n24 a25 n26 n27 os ins H',St Z H' p a n c [⟨10,a22,n23,n24,os⟩,⟨8,a25,n26,n27,exC ins⟩]->n23+n26<=5*(occ+1)->cont (k0-1) p 0 a6 n7 n8 na nts.length n11 a12 n13 n14 x15 a16 n17 n18 a19 n20 n21 a22 n23 n24 a25 n26 n27 ((occ+1:Nat):Int) H') :
 vc18_L1 p 0 a6 n7 n8 na nts.length n11 a12 n13 n14 x15 a16 n17 n18 a19 n20 n21 a22 n23 n24 a25 n26 n27 ((occ:Nat):Int) nt H k0 cont:=by
 unfold vc18_L1
 refine ⟨fun k n4 n5 b6 m7 m8 a9 n10 m11 b12 m13 m14 y15 b16 m17 m18 b19 m20 m21 a22 n23 n24 a25 n26 n27 x28 x29 x30 H=>n4=p/\n5=0/\b6=a6/\m7=n7/\m8=n8/\a9=na/\n10=nts.length/\m11=n11/\b12=a12/\m13=n13/\m14=n14/\y15=x15/\b16=a16/\m17=n17/\m18=n18/\b19=a19/\m20=n20/\m21=n21/\x28=occ/\x29=nt/\∃ j:Nat,x30=j/\j<=4/\k=4-j/\n23+n26<=5*occ+j/\∃ os ins,St Z H p a n c [⟨10,a22,n23,n24,os⟩,⟨8,a25,n26,n27,exC ins⟩],⟨4,rfl,rfl,rfl,rfl,rfl,rfl,rfl,rfl,rfl,rfl,rfl,rfl,rfl,rfl,rfl,rfl,rfl,rfl,rfl,rfl,rfl,0,rfl,by omega,rfl,by omega,os,ins,h⟩,?_⟩
 rintro k n4 n5 b6 m7 m8 a9 n10 m11 b12 m13 m14 y15 b16 m17 m18 b19 m20 m21 a22 n23 n24 a25 n26 n27 x28 x29 x30 H ⟨rfl,rfl,rfl,rfl,rfl,rfl,rfl,rfl,rfl,rfl,rfl,rfl,rfl,rfl,rfl,rfl,rfl,rfl,rfl,rfl,j,rfl,hj,rfl,hc,os,ins,h⟩
 have hj1:IntKind.wrap .i64 (((j:Nat):Int)+1)=((j+1:Nat):Int):=by rw [wrap64 (by omega) (by omega)]; omega
 refine c34 ok (h.r.le.kold hn) hs fun y y0 y4=>⟨y,rfl,fun z=>?_,fun z=>?_⟩
 .have z:=of_decide_eq_true z
  unfold vc18_J0
  refine c35 ok (h.r.le.kold hn) fun b=>⟨b,rfl,fun _=>c20 ok ⟨_,_,_,_,_,_,_,_,_,_,_,_,rfl,fun n18 h18 n19 h19=>⟨_,_,knew_of (ti:=tiX) (lit_kold (if_pos rfl) rfl),?_⟩⟩,fun _=>fun n27 h27 n28 h28=>⟨_,_,knew_of (ti:=tiU) (lit_kold (if_pos rfl) rfl),?_⟩⟩
  .obtain ⟨a5,c5,H5,f1,f2⟩:=((h.new h18).perm (.swap _ _ _)).app (ti:=tiX) (nm:=n19) (m:=1) (new:=xiC ⟨1,0,0,⟨#[]⟩,none,0,0,((occ:Nat):Int),((j:Nat):Int),none,0,0⟩) h19 rfl rfl (by show n26+1<=_; omega) (by decide) (by decide)
   refine ⟨a5,_,c5,H5,f1,4-(j+1),by omega,rfl,rfl,rfl,rfl,rfl,rfl,rfl,rfl,rfl,rfl,rfl,rfl,rfl,rfl,rfl,rfl,rfl,rfl,rfl,rfl,rfl,j+1,hj1,by omega,rfl,by show n23+(n26+1)<=_; omega,os,ins++[⟨1,0,0,⟨#[]⟩,none,0,0,((occ:Nat):Int),((j:Nat):Int),none,0,0⟩],?_⟩
   rw [exC_app]
   exact f2.perm (.swap _ _ _)
  .obtain ⟨a5,c5,H5,f1,f2⟩:=(h.new h27).app (ti:=tiU) (nm:=n28) (m:=1) (new:=[.int .i64 ((occ:Nat):Int),.int .i64 ((j:Nat):Int),.int .i64 0,.int .i64 0,.int .i64 0,.string ⟨#[]⟩,.slice none 0 0,.int .i64 0,.int .i64 0,.slice none 0 0]) h28 rfl rfl (by show n23+1<=_; omega) (by decide) (by decide)
   exact ⟨a5,_,c5,H5,f1,4-(j+1),by omega,rfl,rfl,rfl,rfl,rfl,rfl,rfl,rfl,rfl,rfl,rfl,rfl,rfl,rfl,rfl,rfl,rfl,rfl,rfl,rfl,rfl,j+1,hj1,by omega,rfl,by show (n23+1)+n26<=_; omega,_,ins,f2⟩
 .have ho1:IntKind.wrap .i64 (((occ:Nat):Int)+1)=((occ+1:Nat):Int):=by rw [wrap64 (by omega) (by omega)]; omega
  rw [ho1]
  exact ⟨k0-1,by omega,rfl,hq _ _ _ _ _ _ os ins _ h (by omega)⟩
theorem c18 {Z H:KH} {p n c:Nat} {a:OA} {nts:List Nt} {na ra ta pa ua:OA} {tn tc nc pn pc rc un uc:Nat} {right:List Sy} {left:Int} {Q:PQ} (hb:PkB Z a n) (h:St Z H p a n c []) (hn:kold Z 3 na nts.length=some (ntC nts)) (hs:∀ i (h:i<nts.length),nts[i].inh.length+nts[i].syn.length<=4) (hr:kold Z 2 ra right.length=some (syC right)) (hrl:right.length<=50)
 (hq:∀ a' n' c' H',St Z H' p a n c []->Q (.slice a' n' c') H'):Does (env Try.prog) 18 [.pointer (some ⟨p,0,none⟩),.agg #[.slice ta tn tc,.slice na nts.length nc,.slice pa pn pc],.agg #[.int .i64 left,.slice ra right.length rc,.slice ua un uc]] H Q:=by
 refine fn18 ok ?_
 show vc18_L9 _ _ _ _ _ _ _ _ _ _ _ _ _ _ _ _ _ _ _ _
 unfold vc18_L9
 refine ⟨fun k n4 n5 a6 n7 n8 a9 n10 n11 a12 n13 n14 x15 a16 n17 n18 a19 n20 n21 a22 n23 n24 a25 n26 n27 x28 H=>n4=p/\n5=0/\a9=na/\n10=nts.length/\a16=ra/\n17=right.length/\∃ occ:Nat,x28=occ/\occ<=right.length+1/\k=right.length+1-occ/\n23+n26<=5*occ/\∃ os ins,St Z H p a n c [⟨10,a22,n23,n24,os⟩,⟨8,a25,n26,n27,exC ins⟩],⟨_,rfl,rfl,rfl,rfl,rfl,rfl,rfl,0,rfl,by omega,rfl,by omega,[],[],h.none_.none_⟩,?_⟩
 rintro k n4 n5 a6 n7 n8 a9 n10 n11 a12 n13 n14 x15 a16 n17 n18 a19 n20 n21 a22 n23 n24 a25 n26 n27 x28 H ⟨rfl,rfl,rfl,rfl,rfl,rfl,occ,rfl,hocc,rfl,hc,os,ins,h⟩
 refine ⟨fun z=>?_,fun z=>?_⟩
 .have z:occ<=right.length:=by have:=of_decide_eq_true z; omega
  have ho1:IntKind.wrap .i64 (((occ:Nat):Int)+1)=((occ+1:Nat):Int):=by rw [wrap64 (by omega) (by omega)]; omega
  have L:∀ nt,vc18_L1 n4 0 a6 n7 n8 a9 nts.length n11 a12 n13 n14 x15 a16 right.length n18 a19 n20 n21 a22 n23 n24 a25 n26 n27 ((occ:Nat):Int) nt H (right.length+1-occ) (fun k n4' n5 a6 n7 n8 a9' n10 n11 a12 n13 n14 x15 a16' n17 n18 a19 n20 n21 a22 n23 n24 a25 n26 n27 x28 H=>n4'=n4/\n5=0/\a9'=a9/\n10=nts.length/\a16'=a16/\n17=right.length/\∃ occ:Nat,x28=occ/\occ<=right.length+1/\k=right.length+1-occ/\n23+n26<=5*occ/\∃ os ins,St Z H n4 a n c [⟨10,a22,n23,n24,os⟩,⟨8,a25,n26,n27,exC ins⟩]):=fun nt =>
   l18 ok (right:=right) hb hn hs (by omega) h hc (by omega) fun a22 n23 n24 a25 n26 n27 os ins H' h' hc'=>⟨rfl,rfl,rfl,rfl,rfl,rfl,occ+1,rfl,by omega,by omega,hc',os,ins,h'⟩
  refine ⟨fun z2=>?_,fun z2=>L x15⟩
  have z2:0<occ:=by have:=of_decide_eq_true z2; omega
  have em:IntKind.wrap .i64 (((occ:Nat):Int)-1)=((occ-1:Nat):Int):=by rw [wrap64 (by omega) (by omega)]; omega
  have et:Int.toNat ((occ-1:Nat):Int)=occ-1:=by omega
  obtain ⟨b0,o0,ha,r0⟩:=sy_ld (h.r.le.kold hr) (i:=occ-1) (by omega)
  rw [em,et]
  refine ⟨⟨by omega,by omega⟩,b0,o0,ha,rfl,_,ldSub r0 1 1 (by simp),⟨by omega,by omega⟩,b0,o0,ha,rfl,_,ldSub r0 0 1 (by simp),fun _=>fun n7' h7 n8' h8=>⟨_,_,knew_of (ti:=tiX) (lit_kold (if_pos rfl) rfl),?_⟩,fun _=>L _⟩
  obtain ⟨a5,c5,H5,f1,f2⟩:=((h.new h7).perm (.swap _ _ _)).app (ti:=tiX) (nm:=n8') (m:=1) (new:=xiC ⟨2,0,0,⟨#[]⟩,none,0,0,((occ:Nat):Int),0,none,0,0⟩) h8 rfl rfl (by show n26+1<=_; omega) (by decide) (by decide)
  refine ⟨a5,_,c5,H5,f1,right.length+1-(occ+1),by omega,rfl,rfl,rfl,rfl,rfl,rfl,rfl,occ+1,ho1,by omega,rfl,by show n23+(n26+1)<=_; omega,os,ins++[⟨2,0,0,⟨#[]⟩,none,0,0,((occ:Nat):Int),0,none,0,0⟩],?_⟩
  rw [exC_app]
  exact f2.perm (.swap _ _ _)
 .clear z hn hr hs
  obtain ⟨Z',hZ,h',hin⟩:=(h.perm (.swap _ _ _)).freeze
  clear h
  have h:=h'
  clear h'
  have hin:kold Z' 8 a25 n26=some (exC ins):=hin
  have el:n26=ins.length:=len_of (k:=8) (f:=xiC) (fun _=>rfl) (by decide) hin
  subst el
  have hb:=hb.up hZ
  have hq:∀ a' n' c' H',St Z' H' n4 a n c []->Q (.slice a' n' c') H':=fun a' n' c' H' s=>hq a' n' c' H' ⟨s.r.base (hZ.trans s.r.le) (hZ.none s.r.zp) (fun r q=>by cases q),s.e⟩
  have hn23:n23<=1000:=by omega
  clear hc hrl hocc hZ
  unfold vc18_L8
  refine ⟨fun k m4 n5 a6 n7 n8 a9 n10 n11 x12 H13=>m4=n4/\n5=0/\a6=a22/\n7=n23/\n8=n24/\a9=a25/\n10=ins.length/\∃ i:Nat,x12=i/\i<=n23/\k=n23-i/\∃ os,St Z' H13 n4 a n c [⟨10,a22,n23,n24,os⟩],⟨_,rfl,rfl,rfl,rfl,rfl,rfl,rfl,rfl,0,rfl,by omega,rfl,os,h⟩,?_⟩
  clear h
  rintro k m4 n5 a6 n7 n8 a9 n10 n11 x12 H13 ⟨rfl,rfl,rfl,rfl,rfl,rfl,rfl,i,rfl,hi,rfl,os,h⟩
  refine ⟨fun z=>?_,fun z=>hq _ _ _ _ h.tail⟩
  have hlt:i<n7:=by have:=of_decide_eq_true z; omega
  have e0:Int.toNat ((i:Nat):Int)=i:=by omega
  have hi1:IntKind.wrap .i64 (((i:Nat):Int)+1)=((i+1:Nat):Int):=by rw [wrap64 (by omega) (by omega)]; omega
  refine c17 ok (m:=5) hb h (by decide) fun x3 H2 x30 x31 h=>⟨x3,rfl,c19 ok ⟨_,_,_,_,_,_,_,_,_,_,_,_,rfl,c17 ok (m:=3) hb h (by decide) fun x20 H19 x0 x1 h=>⟨x20,rfl,?_⟩⟩⟩
  unfold vc18_L6
  refine ⟨fun k m4' n5 a6' n7' n8' a9' n10 n11 x12 x13 x14 x15 s16 a17 n18 n19 x20 x21 a22 n23 n24 x25 H26=>m4'=m4/\n5=0/\a6'=a6/\n7'=n7/\n8'=n8/\a9'=a9/\n10=ins.length/\x12=i/\0<=x25/\x25<=3/\k=x25.toNat/\∃ os,St Z' H26 m4 a n c [⟨10,a6,n7,n8,os⟩],⟨_,rfl,rfl,rfl,rfl,rfl,rfl,rfl,rfl,rfl,x0,by omega,rfl,os,h⟩,?_⟩
  clear h
  rintro k m4' n5 a6' n7' n8' a9' n10 n11' x12 x13 x14 x15 s16 a17 n18 n19 x20 x21 a22 n23 n24 x25 H26 ⟨rfl,rfl,rfl,rfl,rfl,rfl,rfl,rfl,w0,w3,rfl,os,h⟩
  have J:∀ n11',vc18_J5 ((i:Nat):Int) n7' a6' x13 x14 x15 s16 a17 n18 n19 x20 x21 a22 n23 n24 H26 (n7'-i) (fun k m4 n5 a6 n7 n8 a9 n10 n11 x12 H13=>m4=m4'/\n5=0/\a6=a6'/\n7=n7'/\n8=n8'/\a9=a9'/\n10=ins.length/\∃ i:Nat,x12=i/\i<=n7'/\k=n7'-i/\∃ os,St Z' H13 m4' a n c [⟨10,a6',n7',n8',os⟩]) m4' 0 n8' a9' ins.length n11':=fun n11'=>by
   unfold vc18_J5
   have hol:=kold_len h.r.head.row
   have hol:os.length=n7'*10:=hol
   have hsp:os=os.take (i*10+2)++(os.drop (i*10+2)).take 8++os.drop (i*10+10):=by
    rw [List.append_assoc,show os.drop (i*10+10)=(os.drop (i*10+2)).drop 8 by rw [List.drop_drop],List.take_append_drop,List.take_append_drop]
   have l1:(os.take (i*10+2)).length=i*10+2:=by rw [List.length_take]; omega
   have l2:((os.drop (i*10+2)).take 8).length=8:=by rw [List.length_take,List.length_drop]; omega
   rw [hsp] at h
   obtain ⟨b,o,ea,f1,f2,f3⟩:=h.write (vs:=[.int .i64 x13,.int .i64 x14,.int .i64 x15,.string s16,.slice a17 n18 n19,.int .i64 x20,.int .i64 x21,.slice a22 n23 n24]) l2 (by rw [<- hsp]; omega)
   rw [l1,<- Nat.add_assoc] at f1 f3
   rw [e0,hi1]
   exact ⟨⟨by omega,by omega⟩,b,o,ea,rfl,⟨_,l2,f1⟩,f2,n7'-(i+1),by omega,rfl,rfl,rfl,rfl,rfl,rfl,rfl,rfl,i+1,rfl,by omega,rfl,_,f3⟩
  refine ⟨fun z=>⟨fun z2=>⟨trivial,fun n1 h1=>?_⟩,fun _=>J _⟩,fun _=>J _⟩
  clear J
  have z:=of_decide_eq_true z
  have z2:0<ins.length:=by have:=of_decide_eq_true z2; omega
  rw [hide_new h1]
  refine c17 ok (m:=4) hb h (by decide) fun x4 H3 x40 x41 h=>⟨x4,rfl,fun h3=>⟨⟨rfl,rfl,rfl,rfl,rfl,trivial⟩,⟨by omega,by omega⟩,n1,0,rfl,?_⟩⟩
  rw [back_new,hide_new h3]
  have hl:∀ H:KH,kold (H.new n1 (mkEnt [.int .i64 4,.int .i64 7,.int .i64 13,.int .i64 14] 0)) 1 (some ⟨n1,0,none⟩) ([4,7,13,14]:List Int).length=some (inC [4,7,13,14]):=fun H=>lit_kold (if_pos rfl) rfl
  obtain ⟨b2,o2,e2,r2⟩:=in_ld (hl H3) (i:=x4.toNat) (by show _<4; omega)
  cases e2
  refine ⟨_,r2,c17 ok (m:=ins.length) hb h z2 fun x10 H9 x100 x101 h=>⟨x10,rfl,fun h9=>?_⟩⟩
  rw [back_new]
  obtain ⟨b3,o3,e3,r3⟩:=in_ld (hl H9) (i:=x4.toNat) (by show _<4; omega)
  cases e3
  obtain ⟨b4,o4,e4,r4⟩:=ex_ld ((h.new (E:=mkEnt [.int .i64 4,.int .i64 7,.int .i64 13,.int .i64 14] 0) h9).r.le.kold hin) (i:=x10.toNat) (by omega)
  have ew:IntKind.wrap .i64 (x25-1)=x25-1:=wrap64 (by omega) (by omega)
  refine ⟨⟨⟨⟨by omega,by omega⟩,n1,0,rfl,rfl⟩,⟨_,r3,rfl⟩,rfl,rfl,trivial⟩,⟨by omega,by omega⟩,b4,o4,e4,_,_,_,_,_,_,_,_,_,_,_,_,r4,fun n28 h28=>⟨trivial,(x25-1).toNat,by omega,rfl,rfl,rfl,rfl,rfl,rfl,rfl,rfl,rfl,?_⟩⟩
  rw [ew]
  exact ⟨by omega,by omega,rfl,os,(h.new h9).new h28⟩
end
end Va
end Go.Proofs.Ytdflpllfkengdaa
namespace Go.Ew
open Go.Ev Go.Deep
def tiT:TI:=⟨3,40,true,3,0,0,[(0,1),(1,1),(2,1)],[.string ⟨#[]⟩,.string ⟨#[]⟩,.bool false]⟩
def tiN:TI:=⟨3,64,true,3,0,0,[(0,1),(1,1),(2,1)],[.string ⟨#[]⟩,.slice none 0 0,.slice none 0 0]⟩
def tiP:TI:=⟨3,56,true,3,0,0,[(0,1),(1,1),(2,1)],[.int .i64 0,.slice none 0 0,.slice none 0 0]⟩
def tiY:TI:=⟨2,16,true,3,0,0,[(0,1),(1,1)],[.bool false,.int .i64 0]⟩
def IJ:List ByteArray:=[⟨#[105]⟩,⟨#[106]⟩]
def SU:List ByteArray:=[⟨#[115]⟩,⟨#[117]⟩]
def byN (i:Nat):UInt8:=(97+i).toUInt8
def nmT (i:Nat):ByteArray:=⟨#[116,byN i]⟩
def nmN (i:Nat):ByteArray:=⟨#[110,byN i]⟩
def tkN (i:Nat):Tk:=⟨nmT i,⟨[byN i].toArray⟩,false⟩
theorem catT (u:UInt8):(⟨#[116]⟩:ByteArray)++⟨[u].toArray⟩=⟨#[116,u]⟩:=ByteArray.ext (by simp [ByteArray.data_append])
theorem catN (i:Nat):(⟨#[110]⟩:ByteArray)++⟨[byN i].toArray⟩=nmN i:=ByteArray.ext (by simp [ByteArray.data_append,nmN])
theorem by_cells {i:Nat} (h:i<5):bytesOfCells [.int .u8 (IntKind.wrap .u8 (IntKind.wrap .i64 (97+((i:Nat):Int))))]=some [byN i]:=by
 match i,h with
 | 0,_=>rfl
 | 1,_=>rfl
 | 2,_=>rfl
 | 3,_=>rfl
 | 4,_=>rfl
theorem app_all {α:Type} {P:Nat->α->Prop} {l:List α} {x:α} (h:∀ i (hi:i<l.length),P i l[i]) (hx:P l.length x):∀ i (hi:i<(l++[x]).length),P i (l++[x])[i]:=fun i hi=>by
 by_cases e:i<l.length
 .rw [List.getElem_append_left e]; exact h i e
 .have:i=l.length:=by simp at hi; omega
  subst this
  simpa using hx
theorem NtsI.app {H:KH} {l:List Nt} {x:Nt} (h:NtsI H l) (h1:kold H 1 x.ia x.inh.length=some (sC x.inh)) (h2:kold H 1 x.sa x.syn.length=some (sC x.syn)):NtsI H (l++[x]):=fun i hi=>app_all (P:=fun _ (x:Nt)=>kold H 1 x.ia x.inh.length=some (sC x.inh)/\kold H 1 x.sa x.syn.length=some (sC x.syn)) h ⟨h1,h2⟩ i hi
theorem PrsI.app {H:KH} {l:List Pr} {x:Pr} (h:PrsI H l) (h1:kold H 2 x.ra x.right.length=some (syC x.right)):PrsI H (l++[x]):=fun i hi=>app_all (P:=fun _ (x:Pr)=>kold H 2 x.ra x.right.length=some (syC x.right)) h h1 i hi
structure MadeN (i:Nat) (x:Nt):Prop where
 a:x.name=nmN i
 b:∃ u,x.inh=IJ.take u
 c:∃ v,x.syn=SU.take v
def nameB (s:ByteArray):Bool:=decide (1<=s.size)&&decide (s.size<=8)&&(List.range s.size).all fun i=>(decide (97<=byteAt s i)&&decide (byteAt s i<=122))||(decide (0<i)&&decide (48<=byteAt s i)&&decide (byteAt s i<=57))
theorem nameB_ok {s:ByteArray} (h:nameB s=true):NameOk s:=by
 unfold nameB at h
 simp only [Bool.and_eq_true,decide_eq_true_eq,List.all_eq_true,List.mem_range,Bool.or_eq_true] at h
 obtain ⟨⟨h1,h2⟩,h3⟩:=h
 exact ⟨h1,h2,fun i hi=>by
  rcases h3 i hi with q | ⟨⟨q1,q2⟩,q3⟩
  .exact .inl q
  .exact .inr ⟨q1,q2,q3⟩⟩
def namesB (l:List ByteArray):Bool:=l.all nameB&&(List.range l.length).all fun i=>(List.range i).all fun j=>!(strEq ((l[i]?).getD ⟨#[]⟩) ((l[j]?).getD ⟨#[]⟩))
theorem namesB_ok {l:List ByteArray} (h:namesB l=true):NamesOk l:=by
 unfold namesB at h
 simp only [Bool.and_eq_true,List.all_eq_true,List.mem_range] at h
 refine ⟨fun i hi=>nameB_ok (h.1 _ (List.getElem_mem hi)),fun i hi j hj e=>?_⟩
 have:=h.2 i hi j hj
 rw [List.getElem?_eq_getElem hi,List.getElem?_eq_getElem (by omega:j<l.length),Option.getD_some,Option.getD_some,strEq_iff.2 e] at this
 cases this
theorem names_made {t n:Nat} (ht:t<=3) (hn:n<=4):NamesOk ((List.range t).map nmT++(List.range n).map nmN):=by
 apply namesB_ok
 match t,ht,n,hn with
 | 0,_,0,_=>decide +kernel
 | 0,_,1,_=>decide +kernel
 | 0,_,2,_=>decide +kernel
 | 0,_,3,_=>decide +kernel
 | 0,_,4,_=>decide +kernel
 | 1,_,0,_=>decide +kernel
 | 1,_,1,_=>decide +kernel
 | 1,_,2,_=>decide +kernel
 | 1,_,3,_=>decide +kernel
 | 1,_,4,_=>decide +kernel
 | 2,_,0,_=>decide +kernel
 | 2,_,1,_=>decide +kernel
 | 2,_,2,_=>decide +kernel
 | 2,_,3,_=>decide +kernel
 | 2,_,4,_=>decide +kernel
 | 3,_,0,_=>decide +kernel
 | 3,_,1,_=>decide +kernel
 | 3,_,2,_=>decide +kernel
 | 3,_,3,_=>decide +kernel
 | 3,_,4,_=>decide +kernel
theorem attrs_made (u v:Nat):NamesOk (IJ.take u++SU.take v):=by
 apply namesB_ok
 have e:∀ (l:List ByteArray) (u:Nat),l.length=2->l.take u=l.take (min u 2):=fun l u h=>by rw [<- h,<- List.take_take,List.take_length]
 rw [e IJ u rfl,e SU v rfl]
 have h1:min u 2<=2:=Nat.min_le_right _ _
 have h2:min v 2<=2:=Nat.min_le_right _ _
 generalize min u 2=u at *
 generalize min v 2=v at *
 match u,h1,v,h2 with
 | 0,_,0,_=>decide +kernel
 | 0,_,1,_=>decide +kernel
 | 0,_,2,_=>decide +kernel
 | 1,_,0,_=>decide +kernel
 | 1,_,1,_=>decide +kernel
 | 1,_,2,_=>decide +kernel
 | 2,_,0,_=>decide +kernel
 | 2,_,1,_=>decide +kernel
 | 2,_,2,_=>decide +kernel
theorem MadeN.few {i:Nat} {x:Nt} (h:MadeN i x):x.inh.length+x.syn.length<=4:=by
 obtain ⟨u,hu⟩:=h.b
 obtain ⟨v,hv⟩:=h.c
 rw [hu,hv,List.length_take,List.length_take]
 show min u 2+min v 2<=4
 omega
theorem MadeN.ok {i:Nat} {x:Nt} (h:MadeN i x):AttrsOk x:=⟨h.few,by
 obtain ⟨u,hu⟩:=h.b
 obtain ⟨v,hv⟩:=h.c
 rw [hu,hv]
 exact attrs_made u v⟩
theorem MadeN.names {l:List Nt} (h:∀ i (hi:i<l.length),MadeN i l[i]):l.map Nt.name=(List.range l.length).map nmN:=List.ext_getElem (by simp) fun i h1 h2=>by
 have hi:i<l.length:=by simpa using h1
 simp [(h i hi).a]
def rowT (g:Gm):Rr:=⟨3,g.ta,g.toks.length,g.tc,tkC g.toks⟩
def rowN (g:Gm):Rr:=⟨3,g.na,g.nts.length,g.nc,ntC g.nts⟩
def rowP (g:Gm):Rr:=⟨3,g.pa,g.prods.length,g.pc,prC g.prods⟩
end Go.Ew
namespace Go.Proofs.Ytdflpllfkengdaa
open Go.Ev Go.Ew
namespace Va
section
variable (ok : EnvOk (env Try.prog))
include ok
theorem c9 {Z H:KH} {p n c:Nat} {a:OA} {Q:PQ} (hb:PkB Z a n) (h:St Z H p a n c [])
 (hq:∀ g Z' H',Le Z Z'->St Z' H' p a n c [rowP g,rowN g,rowT g]->NtsI Z' g.nts->PrsI Z' g.prods->MayG g->Q (gv g) H'):Does (env Try.prog) 9 [.pointer (some ⟨p,0,none⟩)] H Q:=by
 refine fn9 ok (c17 ok (m:=3) hb h (by decide) fun x3 H2 x30 x31 h=>⟨x3,rfl,?_⟩)
 have e1:IntKind.wrap .i64 (x3+1)=(((x3+1).toNat:Nat):Int):=by rw [wrap64 (by omega) (by omega)]; omega
 unfold vc9_L11
 rw [e1]
 refine ⟨fun k n4 n5 a6 n7 n8 a9 n10 n11 a12 n13 n14 a15 n16 n17 a18 n19 n20 a21 n22 n23 x24 H25=>n4=p/\n5=0/\a18=none/\n19=0/\n20=0/\a21=none/\n22=0/\n23=0/\∃ i m:Nat,x24=m/\k=m/\n16=i/\i+m<=3/\1<=i+m/\St Z H25 p a n c [⟨3,a15,n16,n17,tkC ((List.range i).map tkN)⟩],⟨(x3+1).toNat,rfl,rfl,rfl,rfl,rfl,rfl,rfl,rfl,rfl,0,(x3+1).toNat,rfl,rfl,rfl,by omega,by omega,h.none_⟩,?_⟩
 clear h
 rintro k n4 n5 a6 n7 n8 a9 n10 n11 a12 n13 n14 a15 n16 n17 a18 n19 n20 a21 n22 n23 x24 H25 ⟨rfl,rfl,rfl,rfl,rfl,rfl,rfl,rfl,i,m,rfl,rfl,rfl,hi,hi1,h⟩
 refine ⟨fun z=>?_,fun z=>?_⟩
 .have z:0<k:=by have:=of_decide_eq_true z; omega
  intro n1 h1
  refine ⟨_,_,lit_kold (if_pos rfl) rfl,by_cells (by omega),by show 1+1<=1000000; omega,?_⟩
  rw [catT]
  refine fun n4' h4 n5' h5=>⟨_,_,knew_of (ti:=tiT) (lit_kold (if_pos rfl) rfl),?_⟩
  obtain ⟨a8,c8,H11,f1,f2⟩:=((h.new h1).new h4).app (ti:=tiT) (nm:=n5') (m:=1) (new:=[.string ⟨#[116,byN n16]⟩,.string ⟨[byN n16].toArray⟩,.bool false]) h5 rfl rfl (by show n16+1<=_; omega) (by decide) (by decide)
  have ew:IntKind.wrap .i64 (((k:Nat):Int)-1)=((k-1:Nat):Int):=by rw [wrap64 (by omega) (by omega)]; omega
  refine ⟨a8,_,c8,H11,f1,k-1,by omega,rfl,rfl,rfl,rfl,rfl,rfl,rfl,rfl,rfl,n16+1,k-1,ew,rfl,rfl,by omega,by omega,?_⟩
  have e:tkC ((List.range (n16+1)).map tkN)=tkC ((List.range n16).map tkN)++[.string ⟨#[116,byN n16]⟩,.string ⟨[byN n16].toArray⟩,.bool false]:=by
   rw [List.range_succ,List.map_append]
   unfold tkC
   rw [List.flatMap_append]; rfl
  rw [e]
  exact f2
 have z:k=0:=by have:=of_decide_eq_false z; omega
 subst z
 clear z e1 x30 x31
 refine c17 ok (m:=4) hb h (by decide) fun x28 H27 x280 x281 h=>⟨x28,rfl,?_⟩
 have hT:1<=n16/\n16<=3:=by omega
 clear hi hi1
 generalize hts:(List.range n16).map tkN=toks at h
 have hTl:toks.length=n16:=by rw [<- hts]; simp
 subst hTl
 have e1:IntKind.wrap .i64 (x28+1)=(((x28+1).toNat:Nat):Int):=by rw [wrap64 (by omega) (by omega)]; omega
 unfold vc9_L10
 rw [e1]
 refine ⟨fun k m4 n5 a6 n7 n8 a9 n10 n11 a12 n13 n14 b15 n16 m17 a18 n19 n20 a21 n22 n23 x24 H25=>m4=n4/\n5=0/\b15=a15/\n16=toks.length/\m17=n17/\a21=none/\n22=0/\n23=0/\∃ nts,∃ m:Nat,x24=m/\k=m/\n19=nts.length/\nts.length+m<=4/\1<=nts.length+m/\(∀ i (h:i<nts.length),MadeN i nts[i])/\∃ Z',Le Z Z'/\St Z' H25 n4 a n c [⟨3,a18,n19,n20,ntC nts⟩,⟨3,a15,toks.length,n17,tkC toks⟩]/\NtsI Z' nts,⟨(x28+1).toNat,rfl,rfl,rfl,rfl,rfl,rfl,rfl,rfl,rfl,[],(x28+1).toNat,rfl,rfl,rfl,by show 0+_<=4; omega,by show 1<=0+_; omega,fun i h=>absurd h (by simp),Z,Le.refl Z,h.none_,fun i h=>absurd h (by simp)⟩,?_⟩
 clear h
 rintro k m4 n5 a6 n7 n8 a9 n10 n11 a12 n13 n14 b15 n16 m17 a18 n19 n20 a21 n22 n23 x24 H25 ⟨rfl,rfl,rfl,rfl,rfl,rfl,rfl,rfl,nts,m,rfl,rfl,rfl,hi,hi1,hmd,Z',hZ,h,hni⟩
 refine ⟨fun z=>?_,fun z=>?_⟩
 .have m:Nat:=k
  have z:0<k:=by have:=of_decide_eq_true z; omega
  clear m
  generalize k=m at *
  refine fun n1 h1=>⟨_,_,lit_kold (if_pos rfl) rfl,by_cells (by omega),by show 1+1<=1000000; omega,fun _=>fun n4' h4=>?_,fun _=>?_⟩
  .skip
   obtain ⟨S1,q1⟩:=(h.new (E:=mkEnt [.int .u8 (IntKind.wrap .u8 (IntKind.wrap .i64 (97+((nts.length:Nat):Int))))] 0) h1).grow (E:=mkEnt (sC IJ) 0) h4
   refine c17 ok (m:=3) (hb.up (hZ.trans q1)) S1 (by decide) fun x7 H6 x70 x71 S2=>⟨x7,rfl,?_⟩
   obtain ⟨u,rfl⟩:∃ u:Nat,x7=u:=⟨x7.toNat,by omega⟩
   have hu:u<=2:=by omega
   have eu:(IJ.take u).length=u:=by rw [List.length_take]; show min u 2=u; omega
   obtain ⟨a8,c8,k1,k1'⟩:=cut_lo (H:=Z'.new n4' (mkEnt (sC IJ) 0)) (sz:=1) (n:=2) (c:=2) (a:=some ⟨n4',0,none⟩) (cs:=sC IJ) (k:=u) (.inl ⟨rfl,2,rfl,Nat.le_refl _⟩) (lit_kold (if_pos rfl) rfl) hu
   have k1':kold (Z'.new n4' (mkEnt (sC IJ) 0)) 1 a8 (IJ.take u).length=some (sC (IJ.take u)):=by
    rw [eu,k1']; unfold sC; rw [(fm_cut (k:=1) (fun _=>rfl) IJ u).2]
   refine ⟨a8,u,c8,S2.r.le.kslice k1,fun n12 h12=>?_⟩
   have hZ1:=hZ.trans q1
   obtain ⟨S3,q2⟩:=S2.grow (E:=mkEnt (sC SU) 0) h12
   refine c17 ok (m:=3) (hb.up (hZ1.trans q2)) S3 (by decide) fun x4 H3 x40 x41 S4=>⟨x4,rfl,?_⟩
   obtain ⟨v,rfl⟩:∃ v:Nat,x4=v:=⟨x4.toNat,by omega⟩
   have hv:v<=2:=by omega
   have ev:(SU.take v).length=v:=by rw [List.length_take]; show min v 2=v; omega
   obtain ⟨a5,c5,k2,k2'⟩:=cut_lo (H:=KH.new (Z'.new n4' (mkEnt (sC IJ) 0)) n12 (mkEnt (sC SU) 0)) (sz:=1) (n:=2) (c:=2) (a:=some ⟨n12,0,none⟩) (cs:=sC SU) (k:=v) (.inl ⟨rfl,2,rfl,Nat.le_refl _⟩) (lit_kold (if_pos rfl) rfl) hv
   have k2':kold (KH.new (Z'.new n4' (mkEnt (sC IJ) 0)) n12 (mkEnt (sC SU) 0)) 1 a5 (SU.take v).length=some (sC (SU.take v)):=by
    rw [ev,k2']; unfold sC; rw [(fm_cut (k:=1) (fun _=>rfl) SU v).2]
   refine ⟨a5,v,c5,S4.r.le.kslice k2,fun n8' h8 n9' h9=>⟨_,_,knew_of (ti:=tiN) (lit_kold (if_pos rfl) rfl),?_⟩⟩
   rw [catN]
   obtain ⟨a13,c13,H15,f1,f2⟩:=(S4.new h8).app (ti:=tiN) (nm:=n9') (m:=1) (new:=[.string (nmN nts.length),.slice a8 u c8,.slice a5 v c5]) h9 rfl rfl (by show nts.length+1<=_; omega) (by decide) (by decide)
   have ew:IntKind.wrap .i64 (((m:Nat):Int)-1)=((m-1:Nat):Int):=by rw [wrap64 (by omega) (by omega)]; omega
   have en:ntC (nts++[⟨nmN nts.length,a8,c8,IJ.take u,a5,c5,SU.take v⟩])=ntC nts++[.string (nmN nts.length),.slice a8 u c8,.slice a5 v c5]:=by
    unfold ntC
    rw [List.flatMap_append,List.flatMap_cons,List.flatMap_nil,List.append_nil,ev]
    rw [eu]
   refine ⟨a13,_,c13,H15,f1,m-1,by omega,rfl,rfl,rfl,rfl,rfl,rfl,rfl,rfl,rfl,nts++[⟨nmN nts.length,a8,c8,IJ.take u,a5,c5,SU.take v⟩],m-1,ew,rfl,by rw [List.length_append]; rfl,by rw [List.length_append]; show nts.length+1+_<=4; omega,by rw [List.length_append]; show 1<=nts.length+1+_; omega,app_all hmd ⟨rfl,⟨u,rfl⟩,v,rfl⟩,_,hZ1.trans q2,?_,(hni.up (q1.trans q2)).app (q2.kold k1') k2'⟩
   rw [en]
   exact f2
  .skip
   have S2:=h.new (E:=mkEnt [.int .u8 (IntKind.wrap .u8 (IntKind.wrap .i64 (97+((nts.length:Nat):Int))))] 0) h1
   have q1:=Le.refl Z'
   have hZ1:=hZ
   have eu:([]:List ByteArray).length=0:=rfl
   have k1':kold Z' 1 none ([]:List ByteArray).length=some (sC []):=rfl
   intro n12 h12
   obtain ⟨S3,q2⟩:=S2.grow (E:=mkEnt (sC SU) 0) h12
   refine c17 ok (m:=3) (hb.up (hZ1.trans q2)) S3 (by decide) fun x4 H3 x40 x41 S4=>⟨x4,rfl,?_⟩
   obtain ⟨v,rfl⟩:∃ v:Nat,x4=v:=⟨x4.toNat,by omega⟩
   have hv:v<=2:=by omega
   have ev:(SU.take v).length=v:=by rw [List.length_take]; show min v 2=v; omega
   obtain ⟨a5,c5,k2,k2'⟩:=cut_lo (H:=KH.new Z' n12 (mkEnt (sC SU) 0)) (sz:=1) (n:=2) (c:=2) (a:=some ⟨n12,0,none⟩) (cs:=sC SU) (k:=v) (.inl ⟨rfl,2,rfl,Nat.le_refl _⟩) (lit_kold (if_pos rfl) rfl) hv
   have k2':kold (KH.new Z' n12 (mkEnt (sC SU) 0)) 1 a5 (SU.take v).length=some (sC (SU.take v)):=by
    rw [ev,k2']; unfold sC; rw [(fm_cut (k:=1) (fun _=>rfl) SU v).2]
   refine ⟨a5,v,c5,S4.r.le.kslice k2,fun n8' h8 n9' h9=>⟨_,_,knew_of (ti:=tiN) (lit_kold (if_pos rfl) rfl),?_⟩⟩
   rw [catN]
   obtain ⟨a13,c13,H15,f1,f2⟩:=(S4.new h8).app (ti:=tiN) (nm:=n9') (m:=1) (new:=[.string (nmN nts.length),.slice none 0 0,.slice a5 v c5]) h9 rfl rfl (by show nts.length+1<=_; omega) (by decide) (by decide)
   have ew:IntKind.wrap .i64 (((m:Nat):Int)-1)=((m-1:Nat):Int):=by rw [wrap64 (by omega) (by omega)]; omega
   have en:ntC (nts++[⟨nmN nts.length,none,0,[],a5,c5,SU.take v⟩])=ntC nts++[.string (nmN nts.length),.slice none 0 0,.slice a5 v c5]:=by
    unfold ntC
    rw [List.flatMap_append,List.flatMap_cons,List.flatMap_nil,List.append_nil,ev]
    rfl
   refine ⟨a13,_,c13,H15,f1,m-1,by omega,rfl,rfl,rfl,rfl,rfl,rfl,rfl,rfl,rfl,nts++[⟨nmN nts.length,none,0,[],a5,c5,SU.take v⟩],m-1,ew,rfl,by rw [List.length_append]; rfl,by rw [List.length_append]; show nts.length+1+_<=4; omega,by rw [List.length_append]; show 1<=nts.length+1+_; omega,app_all hmd ⟨rfl,⟨0,rfl⟩,v,rfl⟩,_,hZ1.trans q2,?_,(hni.up (q1.trans q2)).app (q2.kold k1') k2'⟩
   rw [en]
   exact f2
 have z:k=0:=by have:=of_decide_eq_false z; omega
 subst z
 have hN:1<=nts.length/\nts.length<=4:=by omega
 clear z hi hi1 x280 x281 e1
 refine c17 ok (m:=7) (hb.up hZ) h (by decide) fun x28' H27' y0 y1 h'=>⟨x28',rfl,?_⟩
 clear h
 have e2:IntKind.wrap .i64 (x28'+1)=(((x28'+1).toNat:Nat):Int):=by rw [wrap64 (by omega) (by omega)]; omega
 unfold vc9_L9
 rw [e2]
 refine ⟨fun k o4 n5 a6 n7 n8 a9 n10 n11 a12 n13 n14 c15 n16 o17 c18 n19 o20 a21 n22 n23 x24 H25=>o4=m4/\n5=0/\c15=b15/\n16=toks.length/\o17=m17/\c18=a18/\n19=nts.length/\o20=n20/\∃ prods,∃ m:Nat,x24=m/\k=m/\n22=prods.length/\prods.length+m<=7/\1<=prods.length+m/\(∀ i (h:i<prods.length),ProdOk toks nts.length prods[i])/\∃ Z2,Le Z' Z2/\St Z2 H25 m4 a n c [⟨3,a21,n22,n23,prC prods⟩,⟨3,a18,nts.length,n20,ntC nts⟩,⟨3,b15,toks.length,m17,tkC toks⟩]/\PrsI Z2 prods,⟨(x28'+1).toNat,rfl,rfl,rfl,rfl,rfl,rfl,rfl,rfl,rfl,[],(x28'+1).toNat,rfl,rfl,rfl,by show 0+_<=7; omega,by show 1<=0+_; omega,fun i h=>absurd h (by simp),Z',Le.refl Z',h'.none_,fun i h=>absurd h (by simp)⟩,?_⟩
 clear h'
 rintro k o4 n5 a6 n7 n8 a9 n10 n11 a12 n13 n14 c15 n16 o17 c18 n19 o20 a21 n22 n23 x24 H25 ⟨rfl,rfl,rfl,rfl,rfl,rfl,rfl,rfl,prods,m,rfl,rfl,rfl,hi,hi1,hpr,Z2,hZ2,h,hpi⟩
 have hb2:=hb.up (hZ.trans hZ2)
 refine ⟨fun z=>?_,fun z=>?_⟩
 .have z:0<k:=by have:=of_decide_eq_true z; omega
  refine c17 ok (m:=nts.length) hb2 h (by omega) fun left H2 l0 l1 h=>⟨left,rfl,c17 ok (m:=4) hb2 h (by decide) fun x6 H5 x60 x61 h=>⟨x6,rfl,?_⟩⟩
  have e6:x6=((x6.toNat:Nat):Int):=by omega
  rw [e6]
  unfold vc9_L7
  refine ⟨fun k' q4 n5 a6 n7 n8 a9 n10 n11 a12 n13 n14 q15 n16 q17 q18 n19 q20 q21 n22 q23 x24 x25 a26 n27 n28 a29 n30 n31 x32 H33=>q4=o4/\n5=0/\q15=c15/\n16=toks.length/\q17=o17/\q18=c18/\n19=nts.length/\q20=o20/\q21=a21/\n22=prods.length/\q23=n23/\x24=k/\x25=left/\∃ right,∃ m:Nat,x32=m/\k'=m/\n27=right.length/\right.length+m<=3/\(∀ i (h:i<right.length),SymOk toks nts.length right[i])/\St Z2 H33 o4 a n c [⟨2,a26,n27,n28,syC right⟩,⟨3,a21,prods.length,n23,prC prods⟩,⟨3,c18,nts.length,o20,ntC nts⟩,⟨3,c15,toks.length,o17,tkC toks⟩],⟨x6.toNat,rfl,rfl,rfl,rfl,rfl,rfl,rfl,rfl,rfl,rfl,rfl,rfl,rfl,rfl,[],x6.toNat,rfl,rfl,rfl,by show 0+_<=3; omega,fun i h=>absurd h (by simp),h.none_⟩,?_⟩
  clear h
  rintro k' q4 n5 a6 n7 n8 a9 n10 n11 a12 n13 n14 q15 n16 q17 q18 n19 q20 q21 n22 q23 x24 x25 a26 n27 n28 a29 n30 n31 x32 H33 ⟨rfl,rfl,rfl,rfl,rfl,rfl,rfl,rfl,rfl,rfl,rfl,rfl,rfl,right,m,rfl,rfl,rfl,hm,hsy,h⟩
  refine ⟨fun z3=>?_,fun z3=>?_⟩
  .have z3:0<k':=by have:=of_decide_eq_true z3; omega
   have ew:IntKind.wrap .i64 (((k':Nat):Int)-1)=((k'-1:Nat):Int):=by rw [wrap64 (by omega) (by omega)]; omega
   have J:∀ (K:KH) (x3 at_:Int),SymOk toks nts.length ⟨decide (x3<3),at_⟩->St Z2 K q4 a n c [⟨2,a26,right.length,n28,syC right⟩,⟨3,q21,prods.length,q23,prC prods⟩,⟨3,q18,nts.length,q20,ntC nts⟩,⟨3,q15,toks.length,q17,tkC toks⟩]->vc9_J4 K x3 at_ a26 right.length n28 k' (fun k' q4' n5 a6 n7 n8 a9 n10 n11 a12 n13 n14 q15' n16 q17' q18' n19 q20' q21' n22 q23' x24 x25' a26 n27 n28 a29 n30 n31 x32 H33=>q4'=q4/\n5=0/\q15'=q15/\n16=toks.length/\q17'=q17/\q18'=q18/\n19=nts.length/\q20'=q20/\q21'=q21/\n22=prods.length/\q23'=q23/\x24=k/\x25'=x25/\∃ right,∃ m:Nat,x32=m/\k'=m/\n27=right.length/\right.length+m<=3/\(∀ i (h:i<right.length),SymOk toks nts.length right[i])/\St Z2 H33 q4 a n c [⟨2,a26,n27,n28,syC right⟩,⟨3,q21,prods.length,q23,prC prods⟩,⟨3,q18,nts.length,q20,ntC nts⟩,⟨3,q15,toks.length,q17,tkC toks⟩]) q4 0 a6 n7 n8 a9 n10 n11 a12 n13 n14 q15 toks.length q17 q18 nts.length q20 q21 prods.length q23 ((k:Nat):Int) x25 a29 n30 n31 ((k':Nat):Int):=fun K x3 at_ hs hK=>by
    unfold vc9_J4
    refine fun n1 h1 n2 h2=>⟨_,_,knew_of (ti:=tiY) (lit_kold (if_pos rfl) rfl),?_⟩
    obtain ⟨a5,c5,H8,f1,f2⟩:=(hK.new h1).app (ti:=tiY) (nm:=n2) (m:=1) (new:=[.bool (decide (x3<3)),.int .i64 at_]) h2 rfl rfl (by show right.length+1<=_; omega) (by decide) (by decide)
    refine ⟨a5,_,c5,H8,f1,k'-1,by omega,rfl,rfl,rfl,rfl,rfl,rfl,rfl,rfl,rfl,rfl,rfl,rfl,rfl,rfl,right++[⟨decide (x3<3),at_⟩],k'-1,ew,rfl,by rw [List.length_append]; rfl,by rw [List.length_append]; show right.length+1+_<=3; omega,app_all (P:=fun _ s=>SymOk toks nts.length s) hsy hs,?_⟩
    have e:syC (right++[⟨decide (x3<3),at_⟩])=syC right++[.bool (decide (x3<3)),.int .i64 at_]:=List.flatMap_append
    rw [e]
    exact f2
   refine c17 ok (m:=5) hb2 h (by decide) fun x3 H2 x30 x31 h=>⟨x3,rfl,c17 ok (m:=nts.length) hb2 h (by omega) fun x6 H5 x60 x61 h=>⟨x6,rfl,fun z4=>?_,fun z4=>?_⟩⟩
   .refine c17 ok (m:=toks.length) hb2 h (by omega) fun x9 H8 x90 x91 h=>⟨x9,rfl,J _ _ _ ⟨x90,fun _=>⟨by show x9.toNat<_; omega,?_⟩,fun w=>?_⟩ h⟩
    .have:∀ i (hi:i<toks.length),toks[i].skip=false:=fun i hi=>by
      have e:toks[i]=((List.range toks.length).map tkN)[i]'(by simpa using hi):=by congr 1; exact hts.symm
      rw [e,List.getElem_map]; rfl
     exact this _ _
    .have w:decide (x3<3)=false:=w
     rw [z4] at w; cases w
   .exact J _ _ _ ⟨x60,fun w=>(by have w:decide (x3<3)=true:=w; rw [z4] at w; cases w),fun _=>x61⟩ h
  .have z3:k'=0:=by have:=of_decide_eq_false z3; omega
   subst z3
   obtain ⟨Z3,hZ3,S,hrr⟩:=h.freeze
   obtain ⟨he,hl⟩:=S.enter
   have g2:=S.r.ok ⟨3,q18,nts.length,q20,ntC nts⟩ (by simp)
   have f2:=S.r.fr ⟨3,q18,nts.length,q20,ntC nts⟩ (by simp)
   have hn:kold (H33.del q4) 3 q18 nts.length=some (ntC nts):=(g2.agree (H':=H33.del q4) fun k e w q=>del_at q (f2 k w).2).row
   refine c18 ok (nts:=nts) (right:=right) (hb2.up (hZ3.trans hl)) he hn (fun i hi=>(hmd i hi).few) (hl.kold hrr) (by omega) fun a' n' c' H2 s=>⟨a',n',c',rfl,?_⟩
   have S:=S.leave s
   refine fun n6 h6 n7' h7=>⟨_,_,knew_of (ti:=tiP) (lit_kold (if_pos rfl) rfl),?_⟩
   obtain ⟨a10,c10,H13,f1,f2⟩:=(S.new h6).app (ti:=tiP) (nm:=n7') (m:=1) (new:=[.int .i64 x25,.slice a26 right.length n28,.slice a' n' c']) h7 rfl rfl (by show prods.length+1<=_; omega) (by decide) (by decide)
   have ew:IntKind.wrap .i64 (((k:Nat):Int)-1)=((k-1:Nat):Int):=by rw [wrap64 (by omega) (by omega)]; omega
   refine ⟨a10,_,c10,H13,f1,k-1,by omega,rfl,rfl,rfl,rfl,rfl,rfl,rfl,rfl,rfl,prods++[⟨x25,a26,n28,right,a',n',c'⟩],k-1,ew,rfl,by rw [List.length_append]; rfl,by rw [List.length_append]; show prods.length+1+_<=7; omega,by rw [List.length_append]; show 1<=prods.length+1+_; omega,app_all (P:=fun _ x=>ProdOk toks nts.length x) hpr ⟨⟨l0,l1⟩,by show right.length<=5; omega,hsy⟩,Z3,hZ2.trans hZ3,?_,(hpi.up hZ3).app hrr⟩
   have e:prC (prods++[⟨x25,a26,n28,right,a',n',c'⟩])=prC prods++[.int .i64 x25,.slice a26 right.length n28,.slice a' n' c']:=List.flatMap_append
   rw [e]
   exact f2
 have z:k=0:=by have:=of_decide_eq_false z; omega
 subst z
 refine hq ⟨c15,o17,toks,c18,o20,nts,a21,n23,prods⟩ Z2 H25 (hZ.trans hZ2) h (hni.up hZ2) hpi ⟨⟨by show 1<=toks.length; omega,by show toks.length<=8; omega⟩,⟨by show 1<=nts.length; omega,by show nts.length<=8; omega⟩,⟨by show 1<=prods.length; omega,by show prods.length<=16; omega⟩,?_,fun i hi=>(hmd i hi).ok,hpr⟩
 show NamesOk (toks.map Tk.name++nts.map Nt.name)
 have e1:toks.map Tk.name=(List.range toks.length).map nmT:=by
  rw [<- hts]; simp [tkN,Function.comp_def]
 rw [e1,MadeN.names hmd]
 exact names_made (by omega) (by omega)
end
end Va
end Go.Proofs.Ytdflpllfkengdaa
namespace Go.Ew
open Go.Ev Go.Deep
theorem St.gi {Z H:KH} {p n c:Nat} {a:OA} {g:Gm} (h:St Z H p a n c [rowP g,rowN g,rowT g]) (h1:NtsI Z g.nts) (h2:PrsI Z g.prods):GI H g :=
 ⟨(h.r.ok (rowT g) (by simp)).row,(h.r.ok (rowN g) (by simp)).row,(h.r.ok (rowP g) (by simp)).row,h1.up h.r.le,h2.up h.r.le⟩
theorem offP_mem {ls:List Int} {nt:Int} {i:Nat} {v:Int} (h:v∈offP ls nt i):∃ m:Nat,v=m/\m<i/\ls[m]? = some nt:=by
 unfold offP at h
 obtain ⟨m,hm,rfl⟩:=List.mem_map.1 h
 obtain ⟨h1,h2⟩:=List.mem_filter.1 hm
 exact ⟨m,rfl,List.mem_range.1 h1,of_decide_eq_true h2⟩
theorem offP_rises (ls:List Int) (nt:Int) (i:Nat):(offP ls nt i).Pairwise (· < ·):=by
 unfold offP
 refine List.Pairwise.map _ (fun a b h=>?_) (List.Pairwise.filter _ List.pairwise_lt_range)
 exact Int.ofNat_lt.2 h
def sumO (ls:List Int) (i:Nat):Nat->Nat
 | 0=>0
 | k+1=>sumO ls i k+(offP ls (k:Int) i).length
theorem sumO_step {ls:List Int} {i:Nat} {x:Int} (hx:ls[i]? = some x) (h0:0<=x):∀ N:Nat,sumO ls (i+1) N=sumO ls i N+if x<N then 1 else 0
 | 0=>by rw [if_neg (by omega)]; rfl
 | N+1=>by
   show sumO ls (i+1) N+(offP ls (N:Int) (i+1)).length=sumO ls i N+(offP ls (N:Int) i).length+_
   rw [sumO_step hx h0 N,offP_succ,List.length_append]
   have e:(if ls[i]? = some (N:Int) then [(i:Int)] else []).length=if x=N then 1 else 0:=by
    rw [hx]
    by_cases h:x=N
    .subst h; simp
    .rw [if_neg (fun w=>h (Option.some.inj w)),if_neg h]; rfl
   rw [e]
   by_cases h:x=N
   .rw [if_pos h,if_neg (by omega:¬ x<(N:Int)),if_pos (by omega:x<((N+1:Nat):Int))]; omega
   .rw [if_neg h]
    by_cases h2:x<N
    .rw [if_pos h2,if_pos (by omega:x<((N+1:Nat):Int))]; omega
    .rw [if_neg h2,if_neg (by omega:¬ x<((N+1:Nat):Int))]; omega
theorem sumO_all {ls:List Int} {N:Nat} (h:∀ x∈ls,0<=x/\x<N):∀ i,i<=ls.length->sumO ls i N=i
 | 0,_=>by
   have:∀ N,sumO ls 0 N=0:=fun N=>by
    induction N with
    | zero=>rfl
    | succ k ih=>show sumO ls 0 k+(offP ls (k:Int) 0).length=0; rw [ih]; rfl
   exact this N
 | i+1,hi=>by
   have hm:=h _ (List.getElem_mem (by omega:i<ls.length))
   rw [sumO_step (List.getElem?_eq_getElem (by omega)) hm.1,sumO_all h i (by omega),if_pos hm.2]
theorem offG_none {g:Gm} {N:Nat} (h:∀ x∈lefts g,x<N):offG g N=[]:=by
 rw [List.eq_nil_iff_forall_not_mem]
 intro v hv
 obtain ⟨m,_,_,hm⟩:=offP_mem hv
 have:=h _ (List.mem_of_getElem? hm)
 omega
theorem MayG.lefts {g:Gm} (h:MayG g):∀ x∈lefts g,0<=x/\x<g.nts.length:=fun x hx=>by
 obtain ⟨y,hy,rfl⟩:=List.mem_map.1 hx
 obtain ⟨i,hi,rfl⟩:=List.mem_iff_getElem.1 hy
 exact (h.pr i hi).a
end Go.Ew
namespace Go.Proofs.Ytdflpllfkengdaa
open Go.Ev Go.Ew
namespace Va
section
variable (ok : EnvOk (env Try.prog))
include ok
theorem c5 {a:OA} {n c:Nat} {H:KH} (hl:∀ i,i<n->∃ b o x,a=some ⟨b,o,none⟩/\ld H ⟨b,o+i,none⟩ [.int .u8 x]/\0<=x/\x<=255):Does (env Try.prog) 5 [.slice a n c] H fun v _=>v = .bool true:=by
 refine fn5 ok (c6 ⟨true,rfl,fun z=>(by cases z),fun _=>⟨fun _=>rfl,fun z=>?_⟩⟩)
 have hn:n<=150:=by have:=of_decide_eq_false z; omega
 have hb:PkB H a n:=⟨hl,hn⟩
 refine c8 ok hb fun p H2 _ h=>⟨p,0,rfl,c9 ok hb h fun g Z' H6 hZ s h1 h2 hg=>⟨_,_,_,_,_,_,_,_,_,rfl,?_⟩⟩
 have gi:=s.gi h1 h2
 clear s h1 h2 h hb z
 have t1:=hg.t
 have t2:=hg.n
 have t3:=hg.p
 have hle:=hg.lefts
 unfold vc5_L3
 refine ⟨fun k a4 n5 n6 a7 n8 n9 a10 n11 n12 x13 x14 H15=>a4=g.ta/\n5=g.toks.length/\n6=g.tc/\a7=g.na/\n8=g.nts.length/\n9=g.nc/\a10=g.pa/\n11=g.prods.length/\n12=g.pc/\Le H6 H15/\∃ i:Nat,x14=i/\i<=g.nts.length/\k=g.nts.length-i/\x13=((sumO (lefts g) g.prods.length i:Nat):Int)/\sumO (lefts g) g.prods.length i<=i*16,⟨_,rfl,rfl,rfl,rfl,rfl,rfl,rfl,rfl,rfl,Le.refl H6,0,rfl,by omega,rfl,rfl,by show 0<=_; omega⟩,?_⟩
 rintro k a4 n5 n6 a7 n8 n9 a10 n11 n12 x13 x14 H15 ⟨rfl,rfl,rfl,rfl,rfl,rfl,rfl,rfl,rfl,hH,i,rfl,hi,rfl,rfl,hsum⟩
 refine ⟨fun z=>?_,fun z=>?_⟩
 .have hlt:i<g.nts.length:=by have:=of_decide_eq_true z; omega
  refine c15 ok (g:=g) (gi.up hH) (by omega) fun a18 c20 H17 o=>⟨a18,_,c20,rfl,?_⟩
  have hol:(offG g i).length<=g.prods.length:=offP_len _ _ _
  have hi1:IntKind.wrap .i64 (((i:Nat):Int)+1)=((i+1:Nat):Int):=by rw [wrap64 (by omega) (by omega)]; omega
  unfold vc5_L1
  refine ⟨fun k' a4 n5 n6 a7 n8 n9 a10 n11 n12 x13 x14 a15 n16 n17 x18 H19=>a4=g.ta/\n5=g.toks.length/\n6=g.tc/\a7=g.na/\n8=g.nts.length/\n9=g.nc/\a10=g.pa/\n11=g.prods.length/\n12=g.pc/\x13=((sumO (lefts g) g.prods.length i:Nat):Int)/\x14=i/\a15=a18/\n16=(offG g i).length/\H19=H17/\∃ j:Nat,x18=j/\j<=(offG g i).length/\k'=(offG g i).length-j,⟨_,rfl,rfl,rfl,rfl,rfl,rfl,rfl,rfl,rfl,rfl,rfl,rfl,rfl,rfl,0,rfl,by omega,rfl⟩,?_⟩
  rintro k' a4 n5 n6 a7 n8 n9 a10 n11 n12 x13 x14 a15 n16 n17 x18 H19 ⟨rfl,rfl,rfl,rfl,rfl,rfl,rfl,rfl,rfl,rfl,rfl,rfl,rfl,rfl,j,rfl,hj,rfl⟩
  refine ⟨fun z2=>?_,fun z2=>?_⟩
  .have hlt2:j<(offG g i).length:=by have:=of_decide_eq_true z2; omega
   have e0:Int.toNat ((j:Nat):Int)=j:=by omega
   have hj1:IntKind.wrap .i64 (((j:Nat):Int)+1)=((j+1:Nat):Int):=by rw [wrap64 (by omega) (by omega)]; omega
   obtain ⟨b0,o0,ha,r0⟩:=in_ld (Nr.row o) hlt2
   obtain ⟨m,em,hm,hml⟩:=offP_mem (List.getElem_mem hlt2)
   obtain ⟨b1,o1,ha1,r1⟩:=pr_ld (o.le.kold (hH.kold gi.p)) hm
   have el:g.prods[m].left=i:=by
    rw [lefts_at hm] at hml
    exact Option.some.inj hml
   rw [em] at r0
   have et:Int.toNat ((m:Nat):Int)=m:=by omega
   rw [e0,hj1]
   refine ⟨trivial,⟨by omega,by omega⟩,b0,o0,ha,_,r0,fun w=>by have:=of_decide_eq_true w; omega,fun _=>⟨⟨by omega,by omega⟩,b0,o0,ha,_,r0,fun w=>by have:=of_decide_eq_true w; omega,fun _=>⟨⟨by omega,by omega⟩,b0,o0,ha,_,r0,⟨by omega,by omega⟩,b1,o1,ha1,rfl,_,?_,fun w=>absurd el (of_decide_eq_true w),fun _=>⟨fun w=>?_,fun _=>?_⟩⟩⟩⟩
   .rw [et]; exact ldSub r1 0 1 (by simp)
   .have w:0<j:=by have:=of_decide_eq_true w; omega
    have ew:IntKind.wrap .i64 (((j:Nat):Int)-1)=((j-1:Nat):Int):=by rw [wrap64 (by omega) (by omega)]; omega
    have e3:Int.toNat ((j-1:Nat):Int)=j-1:=by omega
    obtain ⟨b2,o2,ha2,r2⟩:=in_ld (Nr.row o) (i:=j-1) (by omega)
    have hlt3:=List.pairwise_iff_getElem.1 (offP_rises (lefts g) i g.prods.length) (j-1) j (by show _<(offG g i).length; omega) hlt2 (by omega)
    have hlt3:(offG g i)[j-1]'(by omega)<(offG g i)[j]:=hlt3
    rw [em] at hlt3
    rw [ew,e3]
    refine ⟨⟨by omega,by omega⟩,b0,o0,ha,_,r0,⟨by omega,by omega⟩,b2,o2,ha2,_,r2,fun v=>by have:=of_decide_eq_true v; omega,fun _=>⟨(offG g i).length-(j+1),by omega,rfl,rfl,rfl,rfl,rfl,rfl,rfl,rfl,rfl,rfl,rfl,rfl,rfl,rfl,j+1,rfl,by omega,rfl⟩⟩
   .exact ⟨(offG g i).length-(j+1),by omega,rfl,rfl,rfl,rfl,rfl,rfl,rfl,rfl,rfl,rfl,rfl,rfl,rfl,rfl,j+1,rfl,by omega,rfl⟩
  .have e4:sumO (lefts g) g.prods.length (i+1)=sumO (lefts g) g.prods.length i+(offG g i).length:=rfl
   have e5:IntKind.wrap .i64 (((sumO (lefts g) g.prods.length i:Nat):Int)+(((offG g i).length:Nat):Int))=((sumO (lefts g) g.prods.length (i+1):Nat):Int):=by rw [e4,wrap64 (by omega) (by omega)]; omega
   rw [hi1,e5]
   exact ⟨g.nts.length-(i+1),by omega,rfl,rfl,rfl,rfl,rfl,rfl,rfl,rfl,rfl,hH.trans o.le,i+1,rfl,by omega,rfl,rfl,by rw [e4]; omega⟩
 .have hge:i=g.nts.length:=by have:=of_decide_eq_false z; omega
  subst hge
  have hall:=sumO_all (fun x hx=>hle x hx) g.prods.length (by unfold lefts; simp)
  refine ⟨fun _=>c15 ok (g:=g) (gi.up hH) (by omega) fun a18 c20 H17 o=>⟨a18,_,c20,rfl,?_⟩,fun w=>?_⟩
  .rw [offG_none fun x hx=>(hle x hx).2]; rfl
  .have:=of_decide_eq_false w
   rw [hall] at this
   exact absurd rfl this
end
end Va
end Go.Proofs.Ytdflpllfkengdaa
namespace Go.Proofs.Ytdflpllfkengdaa
open Go.Ev Go.Ew Go.RowKit
namespace Va
theorem tys:tysOk Try.prog tyL:=by unfold tysOk; kernel_rfl
theorem mixed:Try.prog.follows .mixedOrders=true:=by kernel_rfl
theorem own:ownKnob Try.prog.godebug=none:=by kernel_rfl
def fnB6:List Nat:=[6,10,11,13,15,19,20,21,22,23,25,26,27,28,29,32,33,36,37,38,39,40,41,42,43,44,46,47,48,49,50,51,52,53,54,55,56,57,58,59,60,61]
def xtB6:List (Nat × Nat):=[]
theorem fnsB6:(fnsOf Try.prog fnB6).all (fnOk (envOf Try.prog tyL fnB6 plL xtB6))=true:=by kernel_rfl
theorem okB6:EnvOk (envOf Try.prog tyL fnB6 plL xtB6):=env_ok tys mixed fnsB6 (fun g hg=>by simp [xtB6] at hg) (fun g hg=>by simp [xtB6] at hg) (fun g hg=>by simp [xtB6] at hg)
theorem hereB6:(tget (envOf Try.prog tyL fnB6 plL xtB6).ff 6).isSome=true:=by kernel_rfl
set_option maxRecDepth 100000 in
theorem runsB6:saysTrue (callA (envOf Try.prog tyL fnB6 plL xtB6) (ev (envOf Try.prog tyL fnB6 plL xtB6) 100000) 6 [] ⟨.nil,0⟩)=true:=by kernel_rfl
theorem walkB6 (w:World):Calls Try.prog 6 #[] w fun e w'=>e = .returned (.bool true)/\Below w.heap.size w w':=by
 obtain ⟨fn,hfn⟩:=Option.isSome_iff_exists.1 hereB6
 exact law_true okB6 hfn (by unfold unkU; omega) runsB6 w
theorem nameB6 : (Try.f6.name == "runtime.NumGoroutine") = false := by kernel_rfl
theorem bodyB6:Try.f6.body.isNone=false:=by kernel_rfl
theorem enterB6 (w:World):(callFunc 6 #[]).run Try.prog w = .ok (.enter 6 #[]) w:=by
 simp only [callFunc,Sem.run_bind,run_program,Result.andThen_ok,Try.func6,nameB6,bodyB6,Bool.false_eq_true,if_false,Sem.run_pure]
theorem fns:(fnsOf Try.prog fnL).all (fnOk (env Try.prog))=true:=by kernel_rfl
theorem ok:EnvOk (env Try.prog):=env_ok tys mixed fns (fun g hg=>by simp [xtL] at hg) (fun g hg=>by simp [xtL] at hg) (fun g hg=>by
 have e:g=6:=by simpa [xtL] using hg
 subst e
 exact fun w=>⟨enterB6 w,walkB6 w⟩)
end Va
end Go.Proofs.Ytdflpllfkengdaa
