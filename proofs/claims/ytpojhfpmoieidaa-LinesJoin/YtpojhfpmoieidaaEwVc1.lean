import Derived.Test.YtpojhfpmoieidaaEwS4
import Derived.Test.YtpojhfpmoieidaaEvDraw4
import Derived.Carry
set_option linter.unusedVariables false
set_option maxRecDepth 100000
namespace Go.Proofs.Ytpojhfpmoieidaa
open Go.Ev Go.Ew
namespace Va
def tupT:Go.Deep.BT (Option (List Nat)):=mkTab tupL
def W3 (P:Program):WE:=⟨env P,tupT,[],mkTab [(0,[.tmp 0 .str,.tmp 5 (.int .i64),.tmp 6 .slice,.tmp 7 (.int .i64),.tmp 9 (.int .i64)])],3⟩
def vc3_L1 (y1:ByteArray) (y2:Int) (y3:OA) (y4 y5:Nat) (y6 y7:Int) (y8:KH) (y9:PQ):Prop :=
 (∃ (i:(Nat->ByteArray->Int->OA->Nat->Nat->Int->Int->KH->Prop)),(∃ (r:Nat),i r y1 (Int.tmod (IntKind.wrap .i64 y2) (IntKind.wrap .i64 ((((ByteArray.size y1):Nat):Int)+1))) y3 y4 y5 y6 y7 y8)/\∀ (k:Nat) (c:ByteArray) (e:Int) (f:(OA)) (g l:Nat) (a b:Int) (d:KH),i k c e f g l a b d->(decide (b<e)=true->((0:Int)<=b/\b<(((ByteArray.size c):Nat):Int))/\(((decide (((byteAt c (Int.toNat b)):Int)=10)):Bool)=true->y9 (.bool false) d)/\(((decide (((byteAt c (Int.toNat b)):Int)=10)):Bool)=false->∃ (m:Nat),(m:Nat)<k/\i m c e f g l a (IntKind.wrap .i64 (b+1)) d))/\(decide (b<e)=false->((0:Int)<=(IntKind.wrap .i64 (a-1))/\((IntKind.wrap .i64 (a-1)):Int)<(g:Int))/\∃ (n o:Nat),f=some ⟨n,o,none⟩/\∃ (j:Int),ld d ⟨n,o+((Int.toNat (IntKind.wrap .i64 (a-1)))*1),none⟩ [(.int .i64 j)]/\(decide (j=0)=true->y9 (.bool true) d)/\(decide (j=0)=false->((0:Int)<=(IntKind.wrap .i64 (a-1))/\((IntKind.wrap .i64 (a-1)):Int)<(g:Int))/\∃ (p q:Nat),f=some ⟨p,q,none⟩/\∃ (h:Int),ld d ⟨p,q+((Int.toNat (IntKind.wrap .i64 (a-1)))*1),none⟩ [(.int .i64 h)]/\((0:Int)<=(IntKind.wrap .i64 (h-1))/\((IntKind.wrap .i64 (h-1)):Int)<(((ByteArray.size c):Nat):Int))/\y9 (.bool (decide (((byteAt c (Int.toNat (IntKind.wrap .i64 (h-1)))):Int)=10))) d)))
def vc3 (p0:ByteArray) (p1:Int) (H:KH) (Q:PQ):Prop :=
 Does (env Try.prog) 6 [] H fun o i=>∃ (f:Bool),o=(.bool f)/\((!f)=true->Q (.bool false) i)/\((!f)=false->(((decide ((60:Int)<(((ByteArray.size p0):Nat):Int))):Bool)=true->Q (.bool true) i)/\(((decide ((60:Int)<(((ByteArray.size p0):Nat):Int))):Bool)=false->((IntKind.wrap .i64 ((((ByteArray.size p0):Nat):Int)+1)):Int)≠0/\Does (env Try.prog) 7 [(.string p0)] i fun p q=>∃ (d:(OA)) (b g:Nat),p=(.slice d b g)/\Does (env Try.prog) 8 [.slice d b g,.int .i64 (Int.tmod (IntKind.wrap .i64 p1) (IntKind.wrap .i64 ((((ByteArray.size p0):Nat):Int)+1)))] q fun r c=>∃ (a e:Int),r=(.tuple #[.int .i64 a,.int .i64 e])/\(decide (a<1)=true->Q (.bool false) c)/\(decide (a<1)=false->(decide ((b:Int)<a)=true->Q (.bool false) c)/\(decide ((b:Int)<a)=false->(decide (e<0)=true->Q (.bool false) c)/\(decide (e<0)=false->((0:Int)<=(IntKind.wrap .i64 (a-1))/\((IntKind.wrap .i64 (a-1)):Int)<(b:Int))/\∃ (j k:Nat),d=some ⟨j,k,none⟩/\∃ (h:Int),ld c ⟨j,k+((Int.toNat (IntKind.wrap .i64 (a-1)))*1),none⟩ [(.int .i64 h)]/\(((decide (((IntKind.wrap .i64 (h+e)):Int)≠(Int.tmod (IntKind.wrap .i64 p1) (IntKind.wrap .i64 ((((ByteArray.size p0):Nat):Int)+1))))):Bool)=true->Q (.bool false) c)/\(((decide (((IntKind.wrap .i64 (h+e)):Int)≠(Int.tmod (IntKind.wrap .i64 p1) (IntKind.wrap .i64 ((((ByteArray.size p0):Nat):Int)+1))))):Bool)=false->((0:Int)<=(IntKind.wrap .i64 (a-1))/\((IntKind.wrap .i64 (a-1)):Int)<(b:Int))/\∃ (l m:Nat),d=some ⟨l,m,none⟩/\∃ (n:Int),ld c ⟨l,m+((Int.toNat (IntKind.wrap .i64 (a-1)))*1),none⟩ [(.int .i64 n)]/\vc3_L1 p0 p1 d b g a n c Q))))))
theorem fn3 (ok:EnvOk (env Try.prog)) {p0:ByteArray} {p1:Int} {H:KH} {Q:PQ} (h:vc3 p0 p1 H Q):Does (env Try.prog) 3 [.string p0,.int .u8 p1] H Q :=
 wFun_sound (W:=W3 Try.prog) ok.tt (blt_lt (by kernel_rfl)) (ff_of ok (by kernel_rfl) Try.func3) (Eq.mpr (by kernel_rfl) h)
def W5 (P:Program):WE:=⟨env P,tupT,[],mkTab [(0,[.tmp 0 .str,.tmp 1 .str,.tmp 5 .slice,.tmp 6 .slice,.tmp 7 .slice,.tmp 8 (.int .i64)])],5⟩
def vc5_L2 (y1 y2:ByteArray) (y3:OA) (y4 y5:Nat) (y6:OA) (y7 y8:Nat) (y9:OA) (y10 y11:Nat) (y12:KH) (y13:PQ):Prop :=
 (∃ (k:(Nat->ByteArray->ByteArray->OA->Nat->Nat->OA->Nat->Nat->OA->Nat->Nat->Int->KH->Prop)),(∃ (aw:Nat),k aw y1 y2 y3 y4 y5 y6 y7 y8 y9 y10 y11 0 y12)/\∀ (o:Nat) (e l:ByteArray) (i:(OA)) (b m:Nat) (g:(OA)) (h n:Nat) (f:(OA)) (d j:Nat),∀ (a:Int) (c:KH),k o e l i b m g h n f d j a c->(decide (a<(d:Int))=true->True/\(decide (a<(b:Int))=true->((0:Int)<=a/\a<(d:Int))/\∃ (w x:Nat),f=some ⟨w,x,none⟩/\∃ (p:Int),ld c ⟨w,x+((Int.toNat a)*1),none⟩ [(.int .i64 p)]/\((0:Int)<=a/\a<(b:Int))/\∃ (y z:Nat),i=some ⟨y,z,none⟩/\∃ (q:Int),ld c ⟨y,z+((Int.toNat a)*1),none⟩ [(.int .i64 q)]/\(decide (p≠q)=true->y13 (.bool false) c)/\(decide (p≠q)=false->(decide ((b:Int)<=a)=true->((0:Int)<=a/\a<(d:Int))/\∃ (aa ab:Nat),f=some ⟨aa,ab,none⟩/\∃ (r:Int),ld c ⟨aa,ab+((Int.toNat a)*1),none⟩ [(.int .i64 r)]/\((0:Int)<=(IntKind.wrap .i64 ((IntKind.wrap .i64 (a-(b:Int)))+1))/\((IntKind.wrap .i64 ((IntKind.wrap .i64 (a-(b:Int)))+1)):Int)<(h:Int))/\∃ (ac ad:Nat),g=some ⟨ac,ad,none⟩/\∃ (s:Int),ld c ⟨ac,ad+((Int.toNat (IntKind.wrap .i64 ((IntKind.wrap .i64 (a-(b:Int)))+1)))*1),none⟩ [(.int .i64 s)]/\(((decide (r≠(IntKind.wrap .i64 (s+(((ByteArray.size e):Nat):Int))))):Bool)=true->y13 (.bool false) c)/\(((decide (r≠(IntKind.wrap .i64 (s+(((ByteArray.size e):Nat):Int))))):Bool)=false->∃ (ae:Nat),(ae:Nat)<o/\k ae e l i b m g h n f d j (IntKind.wrap .i64 (a+1)) c))/\(decide ((b:Int)<=a)=false->∃ (af:Nat),(af:Nat)<o/\k af e l i b m g h n f d j (IntKind.wrap .i64 (a+1)) c)))/\(decide (a<(b:Int))=false->(decide ((b:Int)<=a)=true->((0:Int)<=a/\a<(d:Int))/\∃ (ag ah:Nat),f=some ⟨ag,ah,none⟩/\∃ (t:Int),ld c ⟨ag,ah+((Int.toNat a)*1),none⟩ [(.int .i64 t)]/\((0:Int)<=(IntKind.wrap .i64 ((IntKind.wrap .i64 (a-(b:Int)))+1))/\((IntKind.wrap .i64 ((IntKind.wrap .i64 (a-(b:Int)))+1)):Int)<(h:Int))/\∃ (ai aj:Nat),g=some ⟨ai,aj,none⟩/\∃ (u:Int),ld c ⟨ai,aj+((Int.toNat (IntKind.wrap .i64 ((IntKind.wrap .i64 (a-(b:Int)))+1)))*1),none⟩ [(.int .i64 u)]/\(((decide (t≠(IntKind.wrap .i64 (u+(((ByteArray.size e):Nat):Int))))):Bool)=true->y13 (.bool false) c)/\(((decide (t≠(IntKind.wrap .i64 (u+(((ByteArray.size e):Nat):Int))))):Bool)=false->∃ (ak:Nat),(ak:Nat)<o/\k ak e l i b m g h n f d j (IntKind.wrap .i64 (a+1)) c))/\(decide ((b:Int)<=a)=false->∃ (al:Nat),(al:Nat)<o/\k al e l i b m g h n f d j (IntKind.wrap .i64 (a+1)) c)))/\(decide (a<(d:Int))=false->Does (env Try.prog) 9 [.slice i b m,.agg #[.int .i64 (((ByteArray.size e):Nat):Int),.int .i64 0,.string l]] c fun ax ay=>∃ (am:(OA)) (an ao:Nat),ax=(.slice am an ao)/\Does (env Try.prog) 10 [.slice am an ao,.slice f d j] ay fun az av=>∃ (v:Bool),az=(.bool v)/\(v=true->Does (env Try.prog) 9 [.slice g h n,.agg #[.int .i64 0,.int .i64 0,.string e]] av fun ba bb=>∃ (ap:(OA)) (aq ar:Nat),ba=(.slice ap aq ar)/\Does (env Try.prog) 10 [.slice ap aq ar,.slice f d j] bb fun bc bd=>∃ (au:Bool),bc=(.bool au)/\y13 (.bool au) bd)/\(v=false->y13 (.bool false) av)))
def vc5 (p0 p1:ByteArray) (H:KH) (Q:PQ):Prop :=
 Does (env Try.prog) 6 [] H fun m d=>∃ (e:Bool),m=(.bool e)/\((!e)=true->Q (.bool false) d)/\((!e)=false->(((decide ((60:Int)<(((ByteArray.size p0):Nat):Int))):Bool)=true->Q (.bool true) d)/\(((decide ((60:Int)<(((ByteArray.size p0):Nat):Int))):Bool)=false->(((decide ((60:Int)<(((ByteArray.size p1):Nat):Int))):Bool)=true->Q (.bool true) d)/\(((decide ((60:Int)<(((ByteArray.size p1):Nat):Int))):Bool)=false->Does (env Try.prog) 7 [(.string p0)] d fun n o=>∃ (f:(OA)) (a g:Nat),n=(.slice f a g)/\Does (env Try.prog) 7 [(.string p1)] o fun p q=>∃ (h:(OA)) (b i:Nat),p=(.slice h b i)/\(((ByteArray.size p0)+(ByteArray.size p1)):Nat)<=1000000/\Does (env Try.prog) 7 [(.string (p0++p1))] q fun r l=>∃ (j:(OA)) (c k:Nat),r=(.slice j c k)/\(((decide ((c:Int)≠(IntKind.wrap .i64 ((IntKind.wrap .i64 ((a:Int)+(b:Int)))-1)))):Bool)=true->Q (.bool false) l)/\(((decide ((c:Int)≠(IntKind.wrap .i64 ((IntKind.wrap .i64 ((a:Int)+(b:Int)))-1)))):Bool)=false->vc5_L2 p0 p1 f a g h b i j c k l Q))))
theorem fn5 (ok:EnvOk (env Try.prog)) {p0 p1:ByteArray} {H:KH} {Q:PQ} (h:vc5 p0 p1 H Q):Does (env Try.prog) 5 [.string p0,.string p1] H Q :=
 wFun_sound (W:=W5 Try.prog) ok.tt (blt_lt (by kernel_rfl)) (ff_of ok (by kernel_rfl) Try.func5) (Eq.mpr (by kernel_rfl) h)
def W7 (P:Program):WE:=⟨env P,tupT,[],mkTab [],7⟩
def vc7 (p0:ByteArray) (H:KH) (Q:PQ):Prop :=
 (∀ (a:Nat),((H a):(Option (Ent)))=none->Does (env Try.prog) 12 [.string p0,.int .i64 0] (KH.new H a (mkEnt [(.int .i64 0)] 0)) fun g h=>∃ (b:Nat) (c:(List Value)),g=(.func (.func b) #[] (List.toArray c))/\Does (env Try.prog) 11 [.slice (some ⟨a,0,none⟩) 1 1,.func (.func b) #[] (List.toArray c)] h fun i j=>∃ (d:(OA)) (e f:Nat),i=(.slice d e f)/\Q (.slice d e f) j)
theorem fn7 (ok:EnvOk (env Try.prog)) {p0:ByteArray} {H:KH} {Q:PQ} (h:vc7 p0 H Q):Does (env Try.prog) 7 [.string p0] H Q :=
 wFun_sound (W:=W7 Try.prog) ok.tt (blt_lt (by kernel_rfl)) (ff_of ok (by kernel_rfl) Try.func7) (Eq.mpr (by kernel_rfl) h)
def W8 (P:Program):WE:=⟨env P,tupT,[],mkTab [(2000012,[.tmp 3 .bool,.tmp 4 .bool,.tmp 5 .bool]),(1000012,[.tmp 12 (.int .i64),.tmp 13 (.int .i64)])],8⟩
def vc8 (p0:OA) (p0n p0c:Nat) (p1:Int) (H:KH) (Q:PQ):Prop :=
 (∀ (c:Nat),((H c):(Option (Ent)))=none->∀ (b:Nat),(((KH.new H c (mkEnt [(.int .i64 p1)] 0)) b):(Option (Ent)))=none->∀ (d:Nat),(((KH.new (KH.new H c (mkEnt [(.int .i64 p1)] 0)) b (mkEnt [(.int .i64 0)] 0)) d):(Option (Ent)))=none->∃ (l:Int),ld (KH.new (KH.new (KH.new H c (mkEnt [(.int .i64 p1)] 0)) b (mkEnt [(.int .i64 0)] 0)) d (mkEnt [(.int .i64 0)] 0)) ⟨c,0,none⟩ [(.int .i64 l)]/\(∃ (p:(List Value)),((List.length p):Nat)=(List.length [(Value.int .i64 (max l 0))])/\ld (KH.new (KH.new (KH.new H c (mkEnt [(.int .i64 p1)] 0)) b (mkEnt [(.int .i64 0)] 0)) d (mkEnt [(.int .i64 0)] 0)) ⟨c,0,none⟩ p)/\KH.may (KH.new (KH.new (KH.new H c (mkEnt [(.int .i64 p1)] 0)) b (mkEnt [(.int .i64 0)] 0)) d (mkEnt [(.int .i64 0)] 0)) c/\Does (env Try.prog) 13 [(.slice p0 p0n p0c)] (KH.put (KH.new (KH.new (KH.new H c (mkEnt [(.int .i64 p1)] 0)) b (mkEnt [(.int .i64 0)] 0)) d (mkEnt [(.int .i64 0)] 0)) ⟨c,0,none⟩ [(.int .i64 (max l 0))]) fun ac ab=>∃ (m:Nat) (q:(List Value)),ac=(.func (.func m) #[] (List.toArray q))/\FnIn (env Try.prog) m/\∀ (a:Nat) (j:Lp),((ab a):(Option (Ent)))=none->(∀ (h:Int) (g:Int) (f:KH) (n:(PQ)),((f a):(Option (Ent)))=(some (lpE j 0 none))->(∃ (o:Int),ld (KH.del f a) ⟨c,0,none⟩ [(.int .i64 o)]/\(decide (g<=o)=true->True/\∃ (i:Int),ld (KH.del f a) ⟨c,0,none⟩ [(.int .i64 i)]/\(∃ (r:(List Value)),((List.length r):Nat)=(List.length [(Value.int .i64 (IntKind.wrap .i64 (h+1)))])/\ld (KH.del f a) ⟨b,0,none⟩ r)/\KH.may (KH.del f a) b/\((∃ (s:Int),ld (KH.put (KH.del f a) ⟨b,0,none⟩ [(.int .i64 (IntKind.wrap .i64 (h+1)))]) ⟨c,0,none⟩ [(.int .i64 s)]/\((.int .i64 s):Value)=(.int .i64 i))/\((.int .i64 g):Value)=(.int .i64 g)/\((.int .i64 (IntKind.wrap .i64 (i-g))):Value)=(.int .i64 (IntKind.wrap .i64 (i-g)))/\True)/\(∃ (t:(List Value)),((List.length t):Nat)=(List.length [(Value.int .i64 (IntKind.wrap .i64 (i-g)))])/\ld (KH.put (KH.del f a) ⟨b,0,none⟩ [(.int .i64 (IntKind.wrap .i64 (h+1)))]) ⟨d,0,none⟩ t)/\KH.may (KH.put (KH.del f a) ⟨b,0,none⟩ [(.int .i64 (IntKind.wrap .i64 (h+1)))]) d/\True/\((((KH.put (KH.put (KH.del f a) ⟨b,0,none⟩ [(.int .i64 (IntKind.wrap .i64 (h+1)))]) ⟨d,0,none⟩ [(.int .i64 (IntKind.wrap .i64 (i-g)))]) a):(Option (Ent)))=none->n (.bool false) (KH.new (KH.put (KH.put (KH.del f a) ⟨b,0,none⟩ [(.int .i64 (IntKind.wrap .i64 (h+1)))]) ⟨d,0,none⟩ [(.int .i64 (IntKind.wrap .i64 (i-g)))]) a (lpE j 2 (some .ret)))))/\(decide (g<=o)=false->(((KH.del f a) a):(Option (Ent)))=none->n (.bool true) (KH.new (KH.del f a) a (lpE j 0 none))))->DoesR (env Try.prog) a [.int .i64 h,.int .i64 g] f n)->Does (env Try.prog) m ([(.func (.yield a) #[] #[])]++q) (KH.new ab a (lpE j 0 none)) fun ad e=>(((e a):(Option (Ent)))=(some (lpE j 0 none))/\True/\∃ (k:Int),ld (KH.del e a) ⟨c,0,none⟩ [(.int .i64 k)]/\(∃ (u:(List Value)),((List.length u):Nat)=(List.length [(Value.int .i64 1)])/\ld (KH.del e a) ⟨b,0,none⟩ u)/\KH.may (KH.del e a) b/\((∃ (v:Int),ld (KH.put (KH.del e a) ⟨b,0,none⟩ [(.int .i64 1)]) ⟨c,0,none⟩ [(.int .i64 v)]/\((.int .i64 v):Value)=(.int .i64 k))/\True)/\(∃ (w:(List Value)),((List.length w):Nat)=(List.length [(Value.int .i64 k)])/\ld (KH.put (KH.del e a) ⟨b,0,none⟩ [(.int .i64 1)]) ⟨d,0,none⟩ w)/\KH.may (KH.put (KH.del e a) ⟨b,0,none⟩ [(.int .i64 1)]) d/\True/\∃ (x:Int),ld (KH.put (KH.put (KH.del e a) ⟨b,0,none⟩ [(.int .i64 1)]) ⟨d,0,none⟩ [(.int .i64 k)]) ⟨b,0,none⟩ [(.int .i64 x)]/\∃ (y:Int),ld (KH.put (KH.put (KH.del e a) ⟨b,0,none⟩ [(.int .i64 1)]) ⟨d,0,none⟩ [(.int .i64 k)]) ⟨d,0,none⟩ [(.int .i64 y)]/\Q (.tuple #[.int .i64 x,.int .i64 y]) (KH.put (KH.put (KH.del e a) ⟨b,0,none⟩ [(.int .i64 1)]) ⟨d,0,none⟩ [(.int .i64 k)]))\/((((e a):(Option (Ent)))=(some (lpE j 2 (some .ret)))/\∃ (z:Int),ld (KH.del e a) ⟨b,0,none⟩ [(.int .i64 z)]/\∃ (aa:Int),ld (KH.del e a) ⟨d,0,none⟩ [(.int .i64 aa)]/\Q (.tuple #[.int .i64 z,.int .i64 aa]) (KH.del e a))\/False))
theorem fn8 (ok:EnvOk (env Try.prog)) {p0:OA} {p0n p0c:Nat} {p1:Int} {H:KH} {Q:PQ} (h:vc8 p0 p0n p0c p1 H Q):Does (env Try.prog) 8 [.slice p0 p0n p0c,.int .i64 p1] H Q :=
 wFun_sound (W:=W8 Try.prog) ok.tt (blt_lt (by kernel_rfl)) (ff_of ok (by kernel_rfl) Try.func8) (Eq.mpr (by kernel_rfl) h)
def W9 (P:Program):WE:=⟨env P,tupT,[3],mkTab [],9⟩
def vc9 (p0:OA) (p0n p0c:Nat) (p1_0 p1_1:Int) (p1_2:ByteArray) (H:KH) (Q:PQ):Prop :=
 Does (env Try.prog) 15 [.slice p0 p0n p0c,.agg #[.int .i64 p1_0,.int .i64 p1_1,.string p1_2]] H fun p q=>∃ (a:Nat) (b:(List Value)),p=(.func (.func a) #[] (List.toArray b))/\Does (env Try.prog) 14 [(.func (.func a) #[] (List.toArray b))] q fun r s=>∃ (c:(OA)) (d e:Nat),r=(.slice c d e)/\Does (env Try.prog) 12 [.string p1_2,.int .i64 p1_0] s fun t u=>∃ (f:Nat) (g:(List Value)),t=(.func (.func f) #[] (List.toArray g))/\Does (env Try.prog) 11 [.slice c d e,.func (.func f) #[] (List.toArray g)] u fun v w=>∃ (h:(OA)) (i j:Nat),v=(.slice h i j)/\Does (env Try.prog) 16 [.slice p0 p0n p0c,.agg #[.int .i64 p1_0,.int .i64 p1_1,.string p1_2]] w fun x y=>∃ (k:Nat) (l:(List Value)),x=(.func (.func k) #[] (List.toArray l))/\Does (env Try.prog) 11 [.slice h i j,.func (.func k) #[] (List.toArray l)] y fun z aa=>∃ (m:(OA)) (n o:Nat),z=(.slice m n o)/\Q (.slice m n o) aa
theorem fn9 (ok:EnvOk (env Try.prog)) {p0:OA} {p0n p0c:Nat} {p1_0 p1_1:Int} {p1_2:ByteArray} {H:KH} {Q:PQ} (h:vc9 p0 p0n p0c p1_0 p1_1 p1_2 H Q):Does (env Try.prog) 9 [.slice p0 p0n p0c,.agg #[.int .i64 p1_0,.int .i64 p1_1,.string p1_2]] H Q :=
 wFun_sound (W:=W9 Try.prog) ok.tt (blt_lt (by kernel_rfl)) (ff_of ok (by kernel_rfl) Try.func9) (Eq.mpr (by kernel_rfl) h)
def W10 (P:Program):WE:=⟨env P,tupT,[],mkTab [(0,[.tmp 0 .slice,.tmp 1 .slice,.tmp 5 (.int .i64)])],10⟩
def vc10_L1 (y1:OA) (y2 y3:Nat) (y4:OA) (y5 y6:Nat) (y7:KH) (y8:PQ):Prop :=
 (∃ (d:(Nat->OA->Nat->Nat->OA->Nat->Nat->Int->KH->Prop)),(∃ (r:Nat),d r y1 y2 y3 y4 y5 y6 0 y7)/\∀ (j:Nat) (e:(OA)) (c k:Nat) (f:(OA)) (g l:Nat) (a:Int) (b:KH),d j e c k f g l a b->(decide (a<(c:Int))=true->True/\((0:Int)<=a/\a<(c:Int))/\∃ (m n:Nat),e=some ⟨m,n,none⟩/\∃ (h:Int),ld b ⟨m,n+((Int.toNat a)*1),none⟩ [(.int .i64 h)]/\((0:Int)<=a/\a<(g:Int))/\∃ (o p:Nat),f=some ⟨o,p,none⟩/\∃ (i:Int),ld b ⟨o,p+((Int.toNat a)*1),none⟩ [(.int .i64 i)]/\(decide (h≠i)=true->y8 (.bool false) b)/\(decide (h≠i)=false->∃ (q:Nat),(q:Nat)<j/\d q e c k f g l (IntKind.wrap .i64 (a+1)) b))/\(decide (a<(c:Int))=false->y8 (.bool true) b))
def vc10 (p0:OA) (p0n p0c:Nat) (p1:OA) (p1n p1c:Nat) (H:KH) (Q:PQ):Prop :=
 ((decide ((p0n:Int)≠(p1n:Int))=true->Q (.bool false) H)/\(decide ((p0n:Int)≠(p1n:Int))=false->vc10_L1 p0 p0n p0c p1 p1n p1c H Q))
theorem fn10 (ok:EnvOk (env Try.prog)) {p0:OA} {p0n p0c:Nat} {p1:OA} {p1n p1c:Nat} {H:KH} {Q:PQ} (h:vc10 p0 p0n p0c p1 p1n p1c H Q):Does (env Try.prog) 10 [.slice p0 p0n p0c,.slice p1 p1n p1c] H Q :=
 wFun_sound (W:=W10 Try.prog) ok.tt (blt_lt (by kernel_rfl)) (ff_of ok (by kernel_rfl) Try.func10) (Eq.mpr (by kernel_rfl) h)
def W11 (P:Program):WE:=⟨env P,tupT,[],mkTab [(2000007,[.tmp 2 .bool]),(1000007,[.tmp 7 (.int .i64)])],11⟩
def vc11 (p0:OA) (p0n p0c p1:Nat) (p1k:(List Value)) (H:KH) (Q:PQ):Prop :=
 (∀ (b:Nat),((H b):(Option (Ent)))=none->FnIn (env Try.prog) p1/\∀ (a:Nat) (d:Lp),(((KH.new H b (mkEnt [(.slice p0 p0n p0c)] 0)) a):(Option (Ent)))=none->(∀ (h:Int) (c:KH) (l:(PQ)),((c a):(Option (Ent)))=(some (lpE d 0 none))->(∃ (m:(OA)) (n o:Nat),ld (KH.del c a) ⟨b,0,none⟩ [(.slice m n o)]/\∀ (e:Nat),(((KH.del c a) e):(Option (Ent)))=none->∀ (p:Nat),(((KH.new (KH.del c a) e (mkEnt [(.int .i64 h)] 0)) p):(Option (Ent)))=none->∃ (q:Nat) (r:(List Value)),((knew (KH.new (KH.del c a) e (mkEnt [(.int .i64 h)] 0)) ⟨1,8,false,5,0,0,[],[(.int .i64 0)]⟩ (.slice (some ⟨e,0,none⟩) 1 1)):(Option (Nat × (List Value))))=(some (q,r))/\∃ (i:(OA)) (j k:Nat) (f:KH),((kappend (KH.new (KH.del c a) e (mkEnt [(.int .i64 h)] 0)) p ⟨1,8,false,5,0,0,[],[(.int .i64 0)]⟩ m n o q r):(Option (Value × KH)))=(some (.slice i j k,f))/\(∃ (s:(List Value)),((List.length s):Nat)=(List.length [(Value.slice i j k)])/\ld f ⟨b,0,none⟩ s)/\KH.may f b/\((((KH.put f ⟨b,0,none⟩ [(.slice i j k)]) a):(Option (Ent)))=none->l (.bool true) (KH.new (KH.put f ⟨b,0,none⟩ [(.slice i j k)]) a (lpE d 0 none))))->DoesR (env Try.prog) a [(.int .i64 h)] c l)->Does (env Try.prog) p1 ([(.func (.yield a) #[] #[])]++p1k) (KH.new (KH.new H b (mkEnt [(.slice p0 p0n p0c)] 0)) a (lpE d 0 none)) fun w g=>(((g a):(Option (Ent)))=(some (lpE d 0 none))/\∃ (t:(OA)) (u v:Nat),ld (KH.del g a) ⟨b,0,none⟩ [(.slice t u v)]/\Q (.slice t u v) (KH.del g a))\/((((g a):(Option (Ent)))=(some (lpE d 2 (some .ret)))/\Q (.slice none 0 0) (KH.del g a))\/False))
theorem fn11 (ok:EnvOk (env Try.prog)) {p0:OA} {p0n p0c p1:Nat} {p1k:List Value} {H:KH} {Q:PQ} (h:vc11 p0 p0n p0c p1 p1k H Q):Does (env Try.prog) 11 [.slice p0 p0n p0c,.func (.func p1) #[] (List.toArray p1k)] H Q :=
 wFun_sound (W:=W11 Try.prog) ok.tt (blt_lt (by kernel_rfl)) (ff_of ok (by kernel_rfl) Try.func11) (Eq.mpr (by kernel_rfl) h)
def W12 (P:Program):WE:=⟨env P,tupT,[],mkTab [],12⟩
def vc12 (p0:ByteArray) (p1:Int) (H:KH) (Q:PQ):Prop :=
 (∀ (a:Nat),((H a):(Option (Ent)))=none->∀ (b:Nat),(((KH.new H a (mkEnt [(.string p0)] 0)) b):(Option (Ent)))=none->Q (.func (.func 17) #[] #[.pointer (some ⟨a,0,none⟩),.pointer (some ⟨b,0,none⟩)]) (KH.new (KH.new H a (mkEnt [(.string p0)] 0)) b (mkEnt [(.int .i64 p1)] 0)))
theorem fn12 (ok:EnvOk (env Try.prog)) {p0:ByteArray} {p1:Int} {H:KH} {Q:PQ} (h:vc12 p0 p1 H Q):Does (env Try.prog) 12 [.string p0,.int .i64 p1] H Q :=
 wFun_sound (W:=W12 Try.prog) ok.tt (blt_lt (by kernel_rfl)) (ff_of ok (by kernel_rfl) Try.func12) (Eq.mpr (by kernel_rfl) h)
def W13 (P:Program):WE:=⟨env P,tupT,[],mkTab [],13⟩
def vc13 (p0:OA) (p0n p0c:Nat) (H:KH) (Q:PQ):Prop :=
 (∀ (a:Nat),((H a):(Option (Ent)))=none->Q (.func (.func 18) #[] #[(.pointer (some ⟨a,0,none⟩))]) (KH.new H a (mkEnt [(.slice p0 p0n p0c)] 0)))
theorem fn13 (ok:EnvOk (env Try.prog)) {p0:OA} {p0n p0c:Nat} {H:KH} {Q:PQ} (h:vc13 p0 p0n p0c H Q):Does (env Try.prog) 13 [.slice p0 p0n p0c] H Q :=
 wFun_sound (W:=W13 Try.prog) ok.tt (blt_lt (by kernel_rfl)) (ff_of ok (by kernel_rfl) Try.func13) (Eq.mpr (by kernel_rfl) h)
def W14 (P:Program):WE:=⟨env P,tupT,[],mkTab [],14⟩
def vc14 (p0:Nat) (p0k:(List Value)) (H:KH) (Q:PQ):Prop :=
 Does (env Try.prog) 11 [.slice none 0 0,.func (.func p0) #[] (List.toArray p0k)] H fun d e=>∃ (a:(OA)) (b c:Nat),d=(.slice a b c)/\Q (.slice a b c) e
theorem fn14 (ok:EnvOk (env Try.prog)) {p0:Nat} {p0k:List Value} {H:KH} {Q:PQ} (h:vc14 p0 p0k H Q):Does (env Try.prog) 14 [.func (.func p0) #[] (List.toArray p0k)] H Q :=
 wFun_sound (W:=W14 Try.prog) ok.tt (blt_lt (by kernel_rfl)) (ff_of ok (by kernel_rfl) Try.func14) (Eq.mpr (by kernel_rfl) h)
def W15 (P:Program):WE:=⟨env P,tupT,[],mkTab [],15⟩
def vc15 (p0:OA) (p0n p0c:Nat) (p1_0 p1_1:Int) (p1_2:ByteArray) (H:KH) (Q:PQ):Prop :=
 (∀ (a:Nat),((H a):(Option (Ent)))=none->∀ (b:Nat),(((KH.new H a (mkEnt [(.slice p0 p0n p0c)] 0)) b):(Option (Ent)))=none->Q (.func (.func 19) #[] #[.pointer (some ⟨a,0,none⟩),.pointer (some ⟨b,0,none⟩)]) (KH.new (KH.new H a (mkEnt [(.slice p0 p0n p0c)] 0)) b (mkEnt (Array.toList #[Value.int .i64 p1_0,.int .i64 p1_1,.string p1_2]) 0)))
theorem fn15 (ok:EnvOk (env Try.prog)) {p0:OA} {p0n p0c:Nat} {p1_0 p1_1:Int} {p1_2:ByteArray} {H:KH} {Q:PQ} (h:vc15 p0 p0n p0c p1_0 p1_1 p1_2 H Q):Does (env Try.prog) 15 [.slice p0 p0n p0c,.agg #[.int .i64 p1_0,.int .i64 p1_1,.string p1_2]] H Q :=
 wFun_sound (W:=W15 Try.prog) ok.tt (blt_lt (by kernel_rfl)) (ff_of ok (by kernel_rfl) Try.func15) (Eq.mpr (by kernel_rfl) h)
def W16 (P:Program):WE:=⟨env P,tupT,[],mkTab [],16⟩
def vc16 (p0:OA) (p0n p0c:Nat) (p1_0 p1_1:Int) (p1_2:ByteArray) (H:KH) (Q:PQ):Prop :=
 (∀ (a:Nat),((H a):(Option (Ent)))=none->∀ (b:Nat),(((KH.new H a (mkEnt [(.slice p0 p0n p0c)] 0)) b):(Option (Ent)))=none->Q (.func (.func 20) #[] #[.pointer (some ⟨a,0,none⟩),.pointer (some ⟨b,0,none⟩)]) (KH.new (KH.new H a (mkEnt [(.slice p0 p0n p0c)] 0)) b (mkEnt (Array.toList #[Value.int .i64 p1_0,.int .i64 p1_1,.string p1_2]) 0)))
theorem fn16 (ok:EnvOk (env Try.prog)) {p0:OA} {p0n p0c:Nat} {p1_0 p1_1:Int} {p1_2:ByteArray} {H:KH} {Q:PQ} (h:vc16 p0 p0n p0c p1_0 p1_1 p1_2 H Q):Does (env Try.prog) 16 [.slice p0 p0n p0c,.agg #[.int .i64 p1_0,.int .i64 p1_1,.string p1_2]] H Q :=
 wFun_sound (W:=W16 Try.prog) ok.tt (blt_lt (by kernel_rfl)) (ff_of ok (by kernel_rfl) Try.func16) (Eq.mpr (by kernel_rfl) h)
def W17 (P:Program):WE:=⟨env P,tupT,[],mkTab [(0,[.tmp 0 .yld,.tmp 1 .ptr,.tmp 2 .ptr,.tmp 6 (.int .i64),.tmp 7 (.int .i64)]),(3000000,[])],17⟩
def vc17_L1 (y1 y2 y3 y4 y5:Nat) (y6:ByteArray) (y7:KH) (y8:PQ):Prop :=
 (∃ (d:(Nat->Nat->Nat->Nat->Nat->Nat->Int->Int->KH->Prop)),(∃ (q:Nat),(none:(Option Nat))=none/\(none:(Option Nat))=none/\d q y1 y2 y3 y4 y5 (((ByteArray.size y6):Nat):Int) 0 y7)/\∀ (k e f g h i:Nat) (c a:Int) (b:KH),d k e f g h i c a b->(decide (a<c)=true->∃ (j:ByteArray),ld b ⟨f,g,none⟩ [(.string j)]/\((0:Int)<=a/\a<(((ByteArray.size j):Nat):Int))/\(((decide (((byteAt j (Int.toNat a)):Int)=10)):Bool)=true->∃ (m:Int),ld b ⟨h,i,none⟩ [(.int .i64 m)]/\DoesR (env Try.prog) e [(.int .i64 (IntKind.wrap .i64 ((IntKind.wrap .i64 (m+a))+1)))] b fun r p=>∃ (l:Bool),r=(.bool l)/\((!l)=true->y8 (.tuple #[]) p)/\((!l)=false->∃ (n:Nat),(n:Nat)<k/\(none:(Option Nat))=none/\(none:(Option Nat))=none/\d n e f g h i c (IntKind.wrap .i64 (a+1)) p))/\(((decide (((byteAt j (Int.toNat a)):Int)=10)):Bool)=false->∃ (o:Nat),(o:Nat)<k/\(none:(Option Nat))=none/\(none:(Option Nat))=none/\d o e f g h i c (IntKind.wrap .i64 (a+1)) b))/\(decide (a<c)=false->y8 (.tuple #[]) b))
def vc17 (p0 k0b k0o k1b k1o:Nat) (H:KH) (Q:PQ):Prop :=
 (∃ (a:ByteArray),ld H ⟨k0b,k0o,none⟩ [(.string a)]/\vc17_L1 p0 k0b k0o k1b k1o a H Q)
theorem fn17 (ok:EnvOk (env Try.prog)) {p0 k0b k0o k1b k1o:Nat} {H:KH} {Q:PQ} (h:vc17 p0 k0b k0o k1b k1o H Q):Does (env Try.prog) 17 [.func (.yield p0) #[] #[],.pointer (some ⟨k0b,k0o,none⟩),.pointer (some ⟨k1b,k1o,none⟩)] H Q :=
 wFun_sound (W:=W17 Try.prog) ok.tt (blt_lt (by kernel_rfl)) (ff_of ok (by kernel_rfl) Try.func17) (Eq.mpr (by kernel_rfl) h)
def W18 (P:Program):WE:=⟨env P,tupT,[],mkTab [(0,[.tmp 0 .yld,.tmp 1 .ptr,.tmp 3 (.int .i64)]),(3000000,[])],18⟩
def vc18_L1 (y1 y2 y3 y4:Nat) (y5:KH) (y6:PQ):Prop :=
 (∃ (c:(Nat->Nat->Nat->Nat->Int->KH->Prop)),(∃ (p:Nat),(none:(Option Nat))=none/\c p y1 y2 y3 (IntKind.wrap .i64 ((y4:Int)-1)) y5)/\∀ (h d e f:Nat) (a:Int) (b:KH),c h d e f a b->(decide ((0:Int)<=a)=true->∃ (i:(OA)) (j q:Nat),ld b ⟨e,f,none⟩ [(.slice i j q)]/\((0:Int)<=a/\a<(j:Int))/\∃ (k l:Nat),i=some ⟨k,l,none⟩/\∃ (m:Int),ld b ⟨k,l+((Int.toNat a)*1),none⟩ [(.int .i64 m)]/\DoesR (env Try.prog) d [.int .i64 a,.int .i64 m] b fun r o=>∃ (g:Bool),r=(.bool g)/\((!g)=true->y6 (.tuple #[]) o)/\((!g)=false->∃ (n:Nat),(n:Nat)<h/\(none:(Option Nat))=none/\c n d e f (IntKind.wrap .i64 (a-1)) o))/\(decide ((0:Int)<=a)=false->y6 (.tuple #[]) b))
def vc18 (p0 k0b k0o:Nat) (H:KH) (Q:PQ):Prop :=
 (∃ (b:(OA)) (a c:Nat),ld H ⟨k0b,k0o,none⟩ [(.slice b a c)]/\vc18_L1 p0 k0b k0o a H Q)
theorem fn18 (ok:EnvOk (env Try.prog)) {p0 k0b k0o:Nat} {H:KH} {Q:PQ} (h:vc18 p0 k0b k0o H Q):Does (env Try.prog) 18 [.func (.yield p0) #[] #[],.pointer (some ⟨k0b,k0o,none⟩)] H Q :=
 wFun_sound (W:=W18 Try.prog) ok.tt (blt_lt (by kernel_rfl)) (ff_of ok (by kernel_rfl) Try.func18) (Eq.mpr (by kernel_rfl) h)
def W19 (P:Program):WE:=⟨env P,tupT,[],mkTab [(0,[.tmp 0 .yld,.tmp 2 .ptr,.tmp 6 .slice,.tmp 7 (.int .i64),.tmp 8 (.int .i64)]),(3000000,[])],19⟩
def vc19_L1 (y1 y2 y3:Nat) (y4:OA) (y5 y6:Nat) (y7:KH) (y8:PQ):Prop :=
 (∃ (d:(Nat->Nat->Nat->Nat->OA->Nat->Nat->Int->Int->KH->Prop)),(∃ (t:Nat),(none:(Option Nat))=none/\d t y1 y2 y3 y4 y5 y6 (y5:Int) 0 y7)/\∀ (k e f g:Nat) (h:(OA)) (i l:Nat) (c a:Int) (b:KH),d k e f g h i l c a b->(decide (a<c)=true->((0:Int)<=a/\a<(i:Int))/\∃ (o p:Nat),h=some ⟨o,p,none⟩/\∃ (j:Int),ld b ⟨o,p+((Int.toNat a)*1),none⟩ [(.int .i64 j)]/\(none:(Option Nat))=none/\∃ (m:Int),ld b ⟨f,g+0,none⟩ [(.int .i64 m)]/\(decide (j<=m)=true->DoesR (env Try.prog) e [(.int .i64 j)] b fun u s=>∃ (n:Bool),u=(.bool n)/\((!n)=true->y8 (.tuple #[]) s)/\((!n)=false->∃ (q:Nat),(q:Nat)<k/\(none:(Option Nat))=none/\d q e f g h i l c (IntKind.wrap .i64 (a+1)) s))/\(decide (j<=m)=false->∃ (r:Nat),(r:Nat)<k/\(none:(Option Nat))=none/\d r e f g h i l c (IntKind.wrap .i64 (a+1)) b))/\(decide (a<c)=false->y8 (.tuple #[]) b))
def vc19 (p0 k0b k0o k1b k1o:Nat) (H:KH) (Q:PQ):Prop :=
 (∃ (a:(OA)) (b c:Nat),ld H ⟨k0b,k0o,none⟩ [(.slice a b c)]/\vc19_L1 p0 k1b k1o a b c H Q)
theorem fn19 (ok:EnvOk (env Try.prog)) {p0 k0b k0o k1b k1o:Nat} {H:KH} {Q:PQ} (h:vc19 p0 k0b k0o k1b k1o H Q):Does (env Try.prog) 19 [.func (.yield p0) #[] #[],.pointer (some ⟨k0b,k0o,none⟩),.pointer (some ⟨k1b,k1o,none⟩)] H Q :=
 wFun_sound (W:=W19 Try.prog) ok.tt (blt_lt (by kernel_rfl)) (ff_of ok (by kernel_rfl) Try.func19) (Eq.mpr (by kernel_rfl) h)
def W20 (P:Program):WE:=⟨env P,tupT,[],mkTab [(0,[.tmp 0 .yld,.tmp 2 .ptr,.tmp 6 .slice,.tmp 7 (.int .i64),.tmp 8 (.int .i64)]),(3000000,[])],20⟩
def vc20_L1 (y1 y2 y3:Nat) (y4:OA) (y5 y6:Nat) (y7:KH) (y8:PQ):Prop :=
 (∃ (f:(Nat->Nat->Nat->Nat->OA->Nat->Nat->Int->Int->KH->Prop)),(∃ (w:Nat),(none:(Option Nat))=none/\f w y1 y2 y3 y4 y5 y6 (y5:Int) 0 y7)/\∀ (k g c d:Nat) (h:(OA)) (i l:Nat) (e b:Int) (a:KH),f k g c d h i l e b a->(decide (b<e)=true->((0:Int)<=b/\b<(i:Int))/\∃ (p q:Nat),h=some ⟨p,q,none⟩/\∃ (j:Int),ld a ⟨p,q+((Int.toNat b)*1),none⟩ [(.int .i64 j)]/\(none:(Option Nat))=none/\∃ (m:Int),ld a ⟨c,d+0,none⟩ [(.int .i64 m)]/\(none:(Option Nat))=none/\∃ (n:Int),ld a ⟨c,d+1,none⟩ [(.int .i64 n)]/\(((decide (((IntKind.wrap .i64 (m+n)):Int)<j)):Bool)=true->(none:(Option Nat))=none/\∃ (r:Int),ld a ⟨c,d+1,none⟩ [(.int .i64 r)]/\(none:(Option Nat))=none/\∃ (s:ByteArray),ld a ⟨c,d+2,none⟩ [(.string s)]/\DoesR (env Try.prog) g [(.int .i64 (IntKind.wrap .i64 ((IntKind.wrap .i64 (j-r))+(((ByteArray.size s):Nat):Int))))] a fun x v=>∃ (o:Bool),x=(.bool o)/\((!o)=true->y8 (.tuple #[]) v)/\((!o)=false->∃ (t:Nat),(t:Nat)<k/\(none:(Option Nat))=none/\f t g c d h i l e (IntKind.wrap .i64 (b+1)) v))/\(((decide (((IntKind.wrap .i64 (m+n)):Int)<j)):Bool)=false->∃ (u:Nat),(u:Nat)<k/\(none:(Option Nat))=none/\f u g c d h i l e (IntKind.wrap .i64 (b+1)) a))/\(decide (b<e)=false->y8 (.tuple #[]) a))
def vc20 (p0 k0b k0o k1b k1o:Nat) (H:KH) (Q:PQ):Prop :=
 (∃ (a:(OA)) (b c:Nat),ld H ⟨k0b,k0o,none⟩ [(.slice a b c)]/\vc20_L1 p0 k1b k1o a b c H Q)
theorem fn20 (ok:EnvOk (env Try.prog)) {p0 k0b k0o k1b k1o:Nat} {H:KH} {Q:PQ} (h:vc20 p0 k0b k0o k1b k1o H Q):Does (env Try.prog) 20 [.func (.yield p0) #[] #[],.pointer (some ⟨k0b,k0o,none⟩),.pointer (some ⟨k1b,k1o,none⟩)] H Q :=
 wFun_sound (W:=W20 Try.prog) ok.tt (blt_lt (by kernel_rfl)) (ff_of ok (by kernel_rfl) Try.func20) (Eq.mpr (by kernel_rfl) h)
end Va
end Go.Proofs.Ytpojhfpmoieidaa
set_option linter.unusedSimpArgs false
namespace Go.Ew
open Go.Ev Go.Deep
def brk:Int->List UInt8->List Int
 | _,[]=>[]
 | i,b :: r=>if b=10 then (i+1) :: brk (i+1) r else brk (i+1) r
theorem brk_app:∀ (l m:List UInt8) (i:Int),brk i (l++m)=brk i l++brk (i+((l.length:Nat):Int)) m
 | [],m,i=>by simp [brk]
 | b :: l,m,i=>by
   have ih:=brk_app l m (i+1)
   have e:i+1+((l.length:Nat):Int)=i+(((b :: l).length:Nat):Int):=by rw [List.length_cons]; omega
   rw [e] at ih
   rw [List.cons_append]
   show (if b=10 then (i+1) :: brk (i+1) (l++m) else brk (i+1) (l++m))=(if b=10 then (i+1) :: brk (i+1) l else brk (i+1) l)++_
   rw [ih]
   split<;>rfl
theorem brk_shift:∀ (l:List UInt8) (i k:Int),brk (i+k) l=(brk i l).map (· + k)
 | [],i,k=>rfl
 | b :: l,i,k=>by
   have ih:=brk_shift l (i+1) k
   have e:i+1+k=i+k+1:=by omega
   rw [e] at ih
   show (if b=10 then (i+k+1) :: brk (i+k+1) l else brk (i+k+1) l)=(if b=10 then (i+1) :: brk (i+1) l else brk (i+1) l).map (· + k)
   rw [ih]
   split
   .rw [List.map_cons,e]
   .rfl
theorem brk_len:∀ (l:List UInt8) (i:Int),(brk i l).length<=l.length
 | [],i=>Nat.le_refl _
 | b :: l,i=>by
   have ih:=brk_len l (i+1)
   show (if b=10 then (i+1) :: brk (i+1) l else brk (i+1) l).length<=l.length+1
   split
   .rw [List.length_cons]; omega
   .omega
theorem brk_mem:∀ {l:List UInt8} {i x:Int},x∈brk i l↔∃ j:Nat,l[j]? = some 10/\x=i+((j:Nat):Int)+1
 | [],i,x=>by simp [brk]
 | b :: l,i,x=>by
   have ih:=brk_mem (l:=l) (i:=i+1) (x:=x)
   have hd:brk i (b :: l)=if b=10 then (i+1) :: brk (i+1) l else brk (i+1) l:=rfl
   rw [hd]
   constructor
   .intro h
    have hc:(b=10/\x=i+1)\/x∈brk (i+1) l:=by
     split at h
     .rename_i hb
      rcases List.mem_cons.1 h with z | z
      .exact .inl ⟨hb,z⟩
      .exact .inr z
     .exact .inr h
    rcases hc with ⟨hb,z⟩ | z
    .exact ⟨0,by simp [hb],by rw [z]; omega⟩
    .obtain ⟨j,j1,j2⟩:=ih.1 z
     exact ⟨j+1,by simpa using j1,by rw [j2]; omega⟩
   .rintro ⟨j,j1,j2⟩
    cases j with
    | zero =>
      have hb:b=10:=by simpa using j1
      rw [if_pos hb]
      exact List.mem_cons.2 (.inl (by rw [j2]; omega))
    | succ j =>
      have hm:x∈brk (i+1) l:=ih.2 ⟨j,by simpa using j1,by rw [j2]; omega⟩
      split
      .exact List.mem_cons.2 (.inr hm)
      .exact hm
theorem brk_in {l:List UInt8} {i x:Int} (h:x∈brk i l):i<x/\x<=i+((l.length:Nat):Int):=by
 obtain ⟨j,j1,j2⟩:=brk_mem.1 h
 have hj:j<l.length:=by
  rcases Nat.lt_or_ge j l.length with z | z
  .exact z
  .rw [List.getElem?_eq_none z] at j1; cases j1
 omega
theorem brk_sorted:∀ (l:List UInt8) (i:Int),(brk i l).Pairwise (· < ·)
 | [],i=>List.Pairwise.nil
 | b :: l,i=>by
   have ih:=brk_sorted l (i+1)
   show (if b=10 then (i+1) :: brk (i+1) l else brk (i+1) l).Pairwise _
   split
   .exact List.pairwise_cons.2 ⟨fun x hx=>(brk_in hx).1,ih⟩
   .exact ih
def stL (s:ByteArray):List Int:=0 :: brk 0 (byL s)
def ahL (c:Int) (l:List Int):List Int:=l.filter (fun x=>decide (x<=c))
def beL (c n p:Int) (l:List Int):List Int:=(l.filter (fun x=>decide (c+n<x))).map (fun x=>x-n+p)
theorem by10 {s:ByteArray} {i:Nat} (hi:i<s.size):byteAt s i=10↔(byL s)[i]? = some 10:=by
 have hl:i<(byL s).length:=by rw [byL_len]; exact hi
 unfold byteAt
 show ((((byL s)[i]?).getD 0).toNat:Int)=10↔_
 rw [List.getElem?_eq_getElem hl,Option.getD_some]
 constructor
 .intro h
  have:((byL s)[i]).toNat=10:=by omega
  congr 1
  exact UInt8.toNat_inj.1 this
 .intro h
  rw [Option.some.inj h]; rfl
end Go.Ew
namespace Go.Proofs.Ytpojhfpmoieidaa
open Go.Ev Go.Ew
namespace Va
section
variable (ok : EnvOk (env Try.prog))
include ok
omit ok in
theorem c6 {H:KH} {Q:PQ} (hq:Q (.bool true) H):Does (env Try.prog) 6 [] H Q:=does_true (by kernel_rfl) (by kernel_rfl) (by kernel_rfl) hq
theorem c17 {n1 o1 n2 o2:Nat} {s:ByteArray} {t:Int} {H:KH} (h1:ld H ⟨n1,o1,none⟩ [.string s]) (h2:ld H ⟨n2,o2,none⟩ [.int .i64 t]) (hs:s.size<=1000000) (ht:0<=t/\t<=1000000) :
 TellA (env Try.prog) inV 17 [.pointer (some ⟨n1,o1,none⟩),.pointer (some ⟨n2,o2,none⟩)] (brk t (byL s)) H:=by
 intro y Inv H0 Q hup hle hstep hend hinv0
 have g0:=hle _ _ hinv0
 refine fn17 ok ⟨s,g0.ld h1,?_⟩
 unfold vc17_L1
 refine ⟨fun m n4 n5 n6 n7 n8 x9 x10 H11=>n4=y/\n5=n1/\n6=o1/\n7=n2/\n8=o2/\x9=((s.size:Nat):Int)/\∃ i:Nat,x10=i/\i<=s.size/\m=s.size-i/\Inv (brk (t+((i:Nat):Int)) ((byL s).drop i)) H11,⟨_,rfl,rfl,rfl,rfl,rfl,rfl,rfl,rfl,0,rfl,by omega,rfl,by simpa using hinv0⟩,?_⟩
 rintro m n4 n5 n6 n7 n8 x9 x10 H11 ⟨rfl,rfl,rfl,rfl,rfl,rfl,i,rfl,hi,rfl,hinv⟩
 refine ⟨fun hlt=>?_,fun hge=>?_⟩
 .have hlt:i<s.size:=by have:=of_decide_eq_true hlt; omega
  have e0:Int.toNat ((i:Nat):Int)=i:=by omega
  have hle1:=hle _ _ hinv
  have hl:i<(byL s).length:=by rw [byL_len]; exact hlt
  have hi1:IntKind.wrap .i64 (((i:Nat):Int)+1)=((i+1:Nat):Int):=by rw [wrap64 (by omega) (by omega)]; omega
  have hd:(byL s).drop i=(byL s)[i] :: (byL s).drop (i+1):=List.drop_eq_getElem_cons hl
  have e1:t+((i:Nat):Int)+1=t+((i+1:Nat):Int):=by omega
  have hb:brk (t+((i:Nat):Int)) ((byL s).drop i)=if (byL s)[i]=10 then (t+((i+1:Nat):Int)) :: brk (t+((i+1:Nat):Int)) ((byL s).drop (i+1)) else brk (t+((i+1:Nat):Int)) ((byL s).drop (i+1)):=by
   rw [hd,<- e1]; rfl
  have b10:=by10 hlt
  rw [List.getElem?_eq_getElem hl] at b10
  rw [e0]
  refine ⟨s,hle1.ld h1,⟨by omega,by omega⟩,fun hc=>?_,fun hc=>?_⟩
  .have hc:=b10.1 (of_decide_eq_true hc)
   rw [hb,if_pos (Option.some.inj hc)] at hinv
   refine ⟨t,hle1.ld h2,?_⟩
   have w1:IntKind.wrap .i64 (t+((i:Nat):Int))=t+((i:Nat):Int):=wrap64 (by omega) (by omega)
   have w2:IntKind.wrap .i64 (t+((i:Nat):Int)+1)=t+((i+1:Nat):Int):=by rw [wrap64 (by omega) (by omega)]; omega
   rw [w1,w2,hi1]
   refine (hstep _ _ _ hinv).post fun v H3 hv=>?_
   obtain ⟨rfl,hv⟩:=hv
   exact ⟨true,rfl,fun h=>(by cases h),fun _=>⟨s.size-(i+1),by omega,rfl,rfl,rfl,rfl,rfl,rfl,rfl,rfl,i+1,rfl,by omega,rfl,hv⟩⟩
  .have hc:=of_decide_eq_false hc
   rw [hb,if_neg (fun z=>hc (b10.2 (by rw [z])))] at hinv
   rw [hi1]
   exact ⟨s.size-(i+1),by omega,rfl,rfl,rfl,rfl,rfl,rfl,rfl,rfl,i+1,rfl,by omega,rfl,hinv⟩
 .have hge:i=s.size:=by have:=of_decide_eq_false hge; omega
  rw [List.drop_eq_nil_of_le (by rw [byL_len]; omega)] at hinv
  exact hend _ hinv
theorem c19 {n1 o1 n2 o2:Nat} {a:OA} {c:Nat} {l:List Int} {x n:Int} {p:ByteArray} {H:KH} (h1:ld H ⟨n1,o1,none⟩ [.slice a l.length c]) (h2:ld H ⟨n2,o2,none⟩ [.int .i64 x,.int .i64 n,.string p]) (hl:kold H 1 a l.length=some (inC l)) (hs:l.length<=1000000) :
 TellA (env Try.prog) inV 19 [.pointer (some ⟨n1,o1,none⟩),.pointer (some ⟨n2,o2,none⟩)] (ahL x l) H:=by
 intro y Inv H0 Q hup hle hstep hend hinv0
 have g0:=hle _ _ hinv0
 have h20:ld H ⟨n2,o2+0,none⟩ [.int .i64 x]:=ldSub h2 0 1 (by show 0+1<=3; omega)
 refine fn19 ok ⟨a,_,c,g0.ld h1,?_⟩
 unfold vc19_L1
 refine ⟨fun m n4 n5 n6 a7 n8 n9 x10 x11 H12=>n4=y/\n5=n2/\n6=o2/\a7=a/\n8=l.length/\x10=((l.length:Nat):Int)/\∃ i:Nat,x11=i/\i<=l.length/\m=l.length-i/\Inv (ahL x (l.drop i)) H12,⟨_,rfl,rfl,rfl,rfl,rfl,rfl,rfl,0,rfl,by omega,rfl,hinv0⟩,?_⟩
 rintro m n4 n5 n6 a7 n8 n9 x10 x11 H12 ⟨rfl,rfl,rfl,rfl,rfl,rfl,i,rfl,hi,rfl,hinv⟩
 refine ⟨fun hlt=>?_,fun hge=>?_⟩
 .have hlt:i<l.length:=by have:=of_decide_eq_true hlt; omega
  have e0:Int.toNat ((i:Nat):Int)=i:=by omega
  have hle1:=hle _ _ hinv
  obtain ⟨b0,o0,ha,r0⟩:=in_ld (hle1.kold hl) hlt
  have hd:l.drop i=l[i] :: l.drop (i+1):=List.drop_eq_getElem_cons hlt
  have hi1:IntKind.wrap .i64 (((i:Nat):Int)+1)=((i+1:Nat):Int):=by rw [wrap64 (by omega) (by omega)]; omega
  rw [e0,hi1]
  refine ⟨⟨by omega,by omega⟩,b0,o0,ha,_,r0,rfl,x,hle1.ld h20,fun hc=>?_,fun hc=>?_⟩
  .have hg:ahL x (l.drop i)=l[i] :: ahL x (l.drop (i+1)):=by rw [hd]; exact List.filter_cons_of_pos hc
   rw [hg] at hinv
   refine (hstep _ _ _ hinv).post fun v H3 hv=>?_
   obtain ⟨rfl,hv⟩:=hv
   exact ⟨true,rfl,fun h=>(by cases h),fun _=>⟨l.length-(i+1),by omega,rfl,rfl,rfl,rfl,rfl,rfl,rfl,i+1,rfl,by omega,rfl,hv⟩⟩
  .have hg:ahL x (l.drop i)=ahL x (l.drop (i+1)):=by rw [hd]; exact List.filter_cons_of_neg (by rw [hc]; simp)
   rw [hg] at hinv
   exact ⟨l.length-(i+1),by omega,rfl,rfl,rfl,rfl,rfl,rfl,rfl,i+1,rfl,by omega,rfl,hinv⟩
 .have hge:i=l.length:=by have:=of_decide_eq_false hge; omega
  rw [List.drop_eq_nil_of_le (by omega)] at hinv
  exact hend _ hinv
theorem c20 {n1 o1 n2 o2:Nat} {a:OA} {c:Nat} {l:List Int} {x n:Int} {p:ByteArray} {H:KH} (h1:ld H ⟨n1,o1,none⟩ [.slice a l.length c]) (h2:ld H ⟨n2,o2,none⟩ [.int .i64 x,.int .i64 n,.string p]) (hl:kold H 1 a l.length=some (inC l)) (hs:l.length<=1000000)
 (hx:0<=x/\x<=1000000) (hn:0<=n/\n<=1000000) (hp:p.size<=1000000) (hi:∀ z∈l,0<=z/\z<=1000000) :
 TellA (env Try.prog) inV 20 [.pointer (some ⟨n1,o1,none⟩),.pointer (some ⟨n2,o2,none⟩)] (beL x n ((p.size:Nat):Int) l) H:=by
 intro y Inv H0 Q hup hle hstep hend hinv0
 have g0:=hle _ _ hinv0
 have h20:ld H ⟨n2,o2+0,none⟩ [.int .i64 x]:=ldSub h2 0 1 (by show 0+1<=3; omega)
 have h21:ld H ⟨n2,o2+1,none⟩ [.int .i64 n]:=ldSub h2 1 1 (by show 1+1<=3; omega)
 have h22:ld H ⟨n2,o2+2,none⟩ [.string p]:=ldSub h2 2 1 (by show 2+1<=3; omega)
 refine fn20 ok ⟨a,_,c,g0.ld h1,?_⟩
 unfold vc20_L1
 refine ⟨fun m n4 n5 n6 a7 n8 n9 x10 x11 H12=>n4=y/\n5=n2/\n6=o2/\a7=a/\n8=l.length/\x10=((l.length:Nat):Int)/\∃ i:Nat,x11=i/\i<=l.length/\m=l.length-i/\Inv (beL x n ((p.size:Nat):Int) (l.drop i)) H12,⟨_,rfl,rfl,rfl,rfl,rfl,rfl,rfl,0,rfl,by omega,rfl,hinv0⟩,?_⟩
 rintro m n4 n5 n6 a7 n8 n9 x10 x11 H12 ⟨rfl,rfl,rfl,rfl,rfl,rfl,i,rfl,hi',rfl,hinv⟩
 refine ⟨fun hlt=>?_,fun hge=>?_⟩
 .have hlt:i<l.length:=by have:=of_decide_eq_true hlt; omega
  have e0:Int.toNat ((i:Nat):Int)=i:=by omega
  have hle1:=hle _ _ hinv
  obtain ⟨b0,o0,ha,r0⟩:=in_ld (hle1.kold hl) hlt
  have hd:l.drop i=l[i] :: l.drop (i+1):=List.drop_eq_getElem_cons hlt
  have hm:=hi _ (List.getElem_mem hlt)
  have hi1:IntKind.wrap .i64 (((i:Nat):Int)+1)=((i+1:Nat):Int):=by rw [wrap64 (by omega) (by omega)]; omega
  have hw:IntKind.wrap .i64 (x+n)=x+n:=wrap64 (by omega) (by omega)
  rw [e0,hi1]
  refine ⟨⟨by omega,by omega⟩,b0,o0,ha,_,r0,rfl,x,hle1.ld h20,rfl,n,hle1.ld h21,?_⟩
  rw [hw]
  refine ⟨fun hc=>?_,fun hc=>?_⟩
  .have hg:beL x n ((p.size:Nat):Int) (l.drop i)=(l[i]-n+((p.size:Nat):Int)) :: beL x n ((p.size:Nat):Int) (l.drop (i+1)):=by
    unfold beL
    rw [hd,List.filter_cons_of_pos (p:=fun z=>decide (x+n<z)) hc]; rfl
   rw [hg] at hinv
   refine ⟨rfl,n,hle1.ld h21,rfl,p,hle1.ld h22,?_⟩
   have w1:IntKind.wrap .i64 (l[i]-n)=l[i]-n:=wrap64 (by omega) (by omega)
   have w2:IntKind.wrap .i64 (l[i]-n+((p.size:Nat):Int))=l[i]-n+((p.size:Nat):Int):=wrap64 (by omega) (by omega)
   rw [w1,w2]
   refine (hstep _ _ _ hinv).post fun v H3 hv=>?_
   obtain ⟨rfl,hv⟩:=hv
   exact ⟨true,rfl,fun h=>(by cases h),fun _=>⟨l.length-(i+1),by omega,rfl,rfl,rfl,rfl,rfl,rfl,rfl,i+1,rfl,by omega,rfl,hv⟩⟩
  .have hg:beL x n ((p.size:Nat):Int) (l.drop i)=beL x n ((p.size:Nat):Int) (l.drop (i+1)):=by
    unfold beL
    rw [hd,List.filter_cons_of_neg (p:=fun z=>decide (x+n<z)) (by rw [hc]; simp)]
   rw [hg] at hinv
   exact ⟨l.length-(i+1),by omega,rfl,rfl,rfl,rfl,rfl,rfl,rfl,i+1,rfl,by omega,rfl,hinv⟩
 .have hge:i=l.length:=by have:=of_decide_eq_false hge; omega
  rw [List.drop_eq_nil_of_le (by omega)] at hinv
  exact hend _ hinv
end
end Va
end Go.Proofs.Ytpojhfpmoieidaa
namespace Go.Ew
open Go.Ev Go.Deep
theorem kappend_blk {H H':KH} {nm n c m n' c':Nat} {ti:TI} {a a':OA} {new:List Value} (h:kappend H nm ti a n c m new=some (.slice a' n' c',H')):a'=a\/a'=some ⟨nm,0,none⟩:=by
 unfold kappend ob at h
 simp only [Bool.cond_eq_ite] at h
 repeat' split at h
 all_goals first
  | cases h; done
  | (simp only [Option.some.injEq,Prod.mk.injEq,Value.slice.injEq] at h
     obtain ⟨⟨h1,_,_⟩,_⟩:=h
     first | exact .inl h1.symm | exact .inr h1.symm)
theorem Le.new2 {X H:KH} {n:Nat} {e:Ent} (h:Le X H):Le (X.new n e) (H.new n e):=fun k e' q=>by
 simp only [KH.new] at q ⊢
 by_cases z:k=n
 .rw [if_pos z] at q ⊢; exact q
 .rw [if_neg z] at q ⊢; exact h _ _ q
theorem new_none {H:KH} {n k:Nat} {e:Ent} (q:H k=none) (h:k≠n):(H.new n e) k=none:=by simp only [KH.new]; rw [if_neg h]; exact q
theorem Own.two {X H:KH} {sz n c n1 n2:Nat} {a:OA} {cs:List Value} {e1 e2:Ent} (h:Own X H sz a n c cs) (h1:H n1=none) (h2:(H.new n1 e1) n2=none):Own ((X.new n1 e1).new n2 e2) ((H.new n1 e1).new n2 e2) sz a n c cs:=by
 refine h.base (fun b hb=>?_) fun k e hk q=>Le.new h2 _ _ (Le.new h1 _ _ q)
 obtain ⟨⟨e,q1⟩,q2⟩:=h.has hb
 exact new_none (new_none q2 (ne_of q1 h1)) (ne_of (Le.new h1 _ _ q1) h2)
end Go.Ew
namespace Go.Proofs.Ytpojhfpmoieidaa
open Go.Ev Go.Ew
namespace Va
section
variable (ok : EnvOk (env Try.prog))
include ok
theorem c11 {a:OA} {c g:Nat} {l ps:List Int} {k:List Value} {H Hb:KH} {Q:PQ} (hO:Own Hb H 1 a l.length c (inC l)) (hg:FnIn (env Try.prog) g) (hseq:TellA (env Try.prog) inV g k ps Hb) (hb:Le Hb H) (hs:l.length+ps.length<=100000)
 (hq:∀ a' c' H',Le Hb H'->Own Hb H' 1 a' (l++ps).length c' (inC (l++ps))->Q (.slice a' (l++ps).length c') H') :
 Does (env Try.prog) 11 [.slice a l.length c,.func (.func g) #[] k.toArray] H Q:=by
 refine fn11 ok fun n1 h1=>⟨hg,fun n2 L3 h2 hR=>?_⟩
 have n12:n1≠n2:=ne_of (if_pos rfl:(H.new n1 (mkEnt [.slice a l.length c] 0)) n1=_) h2
 have hHn2:H n2=none:=(Le.new h1).none h2
 have bx:BoxI (H.new n1 (mkEnt [.slice a l.length c] 0)) n1 (.slice a l.length c):=BoxI.mk0 (if_pos rfl)
 have hb1:Hb n1=none:=hb.none h1
 have hb2:Hb n2=none:=hb.none hHn2
 refine hseq n2 (fun r H1=>H1 n2=some (lpE L3 0 none)/\Le Hb H1/\∃ dn,dn++r=ps/\∃ a' c',BoxI H1 n1 (.slice a' (l++dn).length c')/\Own Hb H1 1 a' (l++dn).length c' (inC (l++dn))/\blk a'≠some n1/\blk a'≠some n2) _ _ ?_ (fun r H1 h=>h.2.1) ?_ ?_ ?_
 .rintro r X H1 ⟨q1,q2,dn,q3,a',c',q4,q5,q6,q7⟩ hXH
  exact ⟨hXH _ _ q1,q2.trans hXH,dn,q3,a',c',q4.up hXH,q5.mono hXH,q6,q7⟩
 .rintro x r H1 ⟨q1,q2,dn,q3,a',c',q4,q5,q6,q7⟩
  have hlen:dn.length+(r.length+1)=ps.length:=by rw [<- q3]; simp
  refine hR x H1 _ q1 ⟨a',_,c',(q4.del n12).ld,fun m1 g1 m2 g2=>?_⟩
  have l12:=Le.new (e:=mkEnt [Value.int .i64 x] 0) g1
  have leB:Le Hb (((H1.del n2).new m1 (mkEnt [Value.int .i64 x] 0))):=(le_del q2 hb2).trans l12
  have hOd:Own Hb ((H1.del n2).new m1 (mkEnt [Value.int .i64 x] 0)) 1 a' (l++dn).length c' (inC (l++dn)):=q5.base (fun b z=>(q5.has z).2) fun k e z1 z2=>l12 _ _ (del_at z2 (fun z=>q7 (by rw [z1,z])))
  obtain ⟨a'',c'',H',f1,f2,f3,f4,_⟩:=hOd.append (ti:=⟨1,8,false,5,0,0,[],[.int .i64 0]⟩) (m:=1) (nm:=m2) (new:=[.int .i64 x]) leB g2 rfl (by rw [List.length_append]; omega) (by decide) (by decide)
  have hl:(l++(dn++[x])).length=(l++dn).length+1:=by simp; omega
  obtain ⟨e,z1,z2,z3⟩:=(q4.del n12).ex
  have hbx:BoxI H' n1 (.slice a' (l++dn).length c'):=⟨e,f4 _ _ (l12 _ _ z1) (fun z=>q6 z),z2,z3⟩
  have hf5:∀ b,blk a''=some b->blk a'=some b\/b=m2:=fun b z=>by
   rcases kappend_blk f1 with y | y
   .rw [y] at z; exact .inl z
   .rw [y] at z; exact .inr (Option.some.inj z).symm
  have hne1:blk a''≠some n1:=fun z=>by
   rcases hf5 _ z with y | y
   .exact q6 y
   .rw [<- y,l12 _ _ z1] at g2; cases g2
  refine ⟨1,_,knew_of (lit_kold (if_pos rfl) rfl),a'',_,c'',H',f1,⟨[.slice a' (l++dn).length c'],rfl,hbx.ld⟩,hbx.may,fun hm=>⟨rfl,if_pos rfl,?_,dn++[x],by rw [List.append_assoc]; exact q3,a'',c'',?_,?_,hne1,?_⟩⟩
  .exact le_new (le_put f3 hb1) hb2
  .rw [hl]; exact (hbx.put _).new n12
  .rw [hl,<- List.append_assoc,inC_app]
   refine f2.base (fun b z=>(f2.has z).2) fun k e z1 z2=>new_at (put_ne (fun z=>hne1 (by rw [z1,z])) z2) (fun z=>?_)
   subst z
   have:=put_ne (o:=0) (vs:=[.slice a'' ((l++dn).length+1) c'']) n12.symm z2
   rw [hm] at this; cases this
  .intro z
   obtain ⟨⟨e,k1⟩,_⟩:=f2.has z
   have:=put_ne (o:=0) (vs:=[.slice a'' ((l++dn).length+1) c'']) n12.symm k1
   rw [hm] at this; cases this
 .rintro H1 ⟨q1,q2,dn,q3,a',c',q4,q5,q6,q7⟩
  rw [List.append_nil] at q3
  subst q3
  exact .inl ⟨q1,a',_,c',(q4.del n12).ld,hq a' c' _ (le_del q2 hb2) (q5.base (fun b z=>(q5.has z).2) fun k e z1 z2=>del_at z2 (fun z=>q7 (by rw [z1,z])))⟩
 .have hne:blk a≠some n1:=fun z=>by
   obtain ⟨⟨e,k1⟩,_⟩:=hO.has z
   rw [k1] at h1; cases h1
  have hne2:blk a≠some n2:=fun z=>by
   obtain ⟨⟨e,k1⟩,_⟩:=hO.has z
   rw [k1] at hHn2; cases hHn2
  refine ⟨if_pos rfl,(hb.trans (Le.new h1)).trans (Le.new h2),[],rfl,a,c,?_,?_,hne,hne2⟩
  .rw [List.append_nil]; exact bx.new n12
  .rw [List.append_nil]; exact hO.mono ((Le.new h1).trans (Le.new h2))
theorem c14 {g:Nat} {ps:List Int} {k:List Value} {H:KH} {Q:PQ} (hg:FnIn (env Try.prog) g) (hseq:TellA (env Try.prog) inV g k ps H) (hs:ps.length<=100000)
 (hq:∀ a' c' H',Le H H'->Own H H' 1 a' ps.length c' (inC ps)->Q (.slice a' ps.length c') H') :
 Does (env Try.prog) 14 [.func (.func g) #[] k.toArray] H Q :=
 fn14 ok (c11 ok (l:=[]) .nil hg hseq (Le.refl H) (by simpa using hs) fun a' c' H' h1 h2=>⟨a',_,c',rfl,hq a' c' H' h1 h2⟩)
theorem c12 {s:ByteArray} {t:Int} {H:KH} {Q:PQ} (hq:∀ n1,H n1=none->∀ n2,(H.new n1 (mkEnt [.string s] 0)) n2=none->Q (.func (.func 17) #[] #[.pointer (some ⟨n1,0,none⟩),.pointer (some ⟨n2,0,none⟩)]) ((H.new n1 (mkEnt [.string s] 0)).new n2 (mkEnt [.int .i64 t] 0))) :
 Does (env Try.prog) 12 [.string s,.int .i64 t] H Q:=fn12 ok fun n1 h1 n2 h2=>hq n1 h1 n2 h2
theorem c15 {a:OA} {n c:Nat} {x m:Int} {p:ByteArray} {H:KH} {Q:PQ} (hq:∀ n1,H n1=none->∀ n2,(H.new n1 (mkEnt [.slice a n c] 0)) n2=none->Q (.func (.func 19) #[] #[.pointer (some ⟨n1,0,none⟩),.pointer (some ⟨n2,0,none⟩)]) ((H.new n1 (mkEnt [.slice a n c] 0)).new n2 (mkEnt [.int .i64 x,.int .i64 m,.string p] 0))) :
 Does (env Try.prog) 15 [.slice a n c,.agg #[.int .i64 x,.int .i64 m,.string p]] H Q:=fn15 ok fun n1 h1 n2 h2=>hq n1 h1 n2 h2
theorem c16 {a:OA} {n c:Nat} {x m:Int} {p:ByteArray} {H:KH} {Q:PQ} (hq:∀ n1,H n1=none->∀ n2,(H.new n1 (mkEnt [.slice a n c] 0)) n2=none->Q (.func (.func 20) #[] #[.pointer (some ⟨n1,0,none⟩),.pointer (some ⟨n2,0,none⟩)]) ((H.new n1 (mkEnt [.slice a n c] 0)).new n2 (mkEnt [.int .i64 x,.int .i64 m,.string p] 0))) :
 Does (env Try.prog) 16 [.slice a n c,.agg #[.int .i64 x,.int .i64 m,.string p]] H Q:=fn16 ok fun n1 h1 n2 h2=>hq n1 h1 n2 h2
theorem c7 {s:ByteArray} {H:KH} {Q:PQ} (hs:s.size<=10000) (hq:∀ a c H',Le H H'->kold H' 1 a (stL s).length=some (inC (stL s))->Q (.slice a (stL s).length c) H'):Does (env Try.prog) 7 [.string s] H Q:=by
 refine fn7 ok fun n1 h1=>c12 ok fun m1 g1 m2 g2=>⟨17,[.pointer (some ⟨m1,0,none⟩),.pointer (some ⟨m2,0,none⟩)],rfl,?_⟩
 have hbl:(brk 0 (byL s)).length<=s.size:=by have:=brk_len (byL s) 0; rw [byL_len] at this; exact this
 have hO:Own H (H.new n1 (mkEnt [.int .i64 0] 0)) 1 (some ⟨n1,0,none⟩) 1 1 (inC [0]):=.lit n1 1 [.int .i64 0] (if_pos rfl) rfl (by unfold unkU; omega) h1
 have hO2:=hO.two (e2:=mkEnt [.int .i64 0] 0) g1 g2
 have lb:Le H ((H.new m1 (mkEnt [.string s] 0)).new m2 (mkEnt [.int .i64 0] 0)):=(Le.new ((Le.new h1).none g1)).trans (Le.new ((Le.new2 (Le.new h1)).none g2))
 have leb:Le ((H.new m1 (mkEnt [.string s] 0)).new m2 (mkEnt [.int .i64 0] 0)) (((H.new n1 (mkEnt [.int .i64 0] 0)).new m1 (mkEnt [.string s] 0)).new m2 (mkEnt [.int .i64 0] 0)):=Le.new2 (Le.new2 (Le.new h1))
 have n12:m1≠m2:=ne_of (if_pos rfl:((H.new n1 (mkEnt [.int .i64 0] 0)).new m1 (mkEnt [.string s] 0)) m1=_) g2
 refine c11 ok (l:=[0]) (ps:=brk 0 (byL s)) hO2 ⟨(by kernel_rfl)⟩ (c17 ok (s:=s) (t:=0) ?_ ?_ (by omega) (by omega)) leb (by show 1+_<=_; omega) fun a' c' H' l1 q=>⟨a',_,c',rfl,hq a' c' H' (lb.trans l1) q.cells⟩
 .exact ⟨rfl,_,new_at (if_pos rfl) n12,mk_rd (cs:=[.string s]) (u:=0)⟩
 .exact ⟨rfl,_,if_pos rfl,mk_rd (cs:=[.int .i64 0]) (u:=0)⟩
theorem c9 {a:OA} {c:Nat} {l:List Int} {x n:Int} {p:ByteArray} {H:KH} {Q:PQ} (hl:kold H 1 a l.length=some (inC l)) (hs:l.length<=10000) (hx:0<=x/\x<=10000) (hn:0<=n/\n<=10000) (hp:p.size<=10000) (hi:∀ z∈l,0<=z/\z<=10000)
 (hq:∀ a' c' H' r,r=ahL x l++brk x (byL p)++beL x n ((p.size:Nat):Int) l->Le H H'->kold H' 1 a' r.length=some (inC r)->Q (.slice a' r.length c') H') :
 Does (env Try.prog) 9 [.slice a l.length c,.agg #[.int .i64 x,.int .i64 n,.string p]] H Q:=by
 have la:(ahL x l).length<=l.length:=List.length_filter_le _ _
 have lb:(brk x (byL p)).length<=p.size:=by have:=brk_len (byL p) x; rw [byL_len] at this; exact this
 have lc:(beL x n ((p.size:Nat):Int) l).length<=l.length:=by unfold beL; rw [List.length_map]; exact List.length_filter_le _ _
 refine fn9 ok (c15 ok fun n1 h1 n2 h2=>⟨19,[.pointer (some ⟨n1,0,none⟩),.pointer (some ⟨n2,0,none⟩)],rfl,?_⟩)
 have n12:n1≠n2:=ne_of (if_pos rfl:(H.new n1 (mkEnt [.slice a l.length c] 0)) n1=_) h2
 have le1:Le H ((H.new n1 (mkEnt [.slice a l.length c] 0)).new n2 (mkEnt [.int .i64 x,.int .i64 n,.string p] 0)):=(Le.new h1).trans (Le.new h2)
 have T1:=c19 ok (n1:=n1) (o1:=0) (n2:=n2) (o2:=0) (a:=a) (c:=c) (l:=l) (x:=x) (n:=n) (p:=p) (H:=(H.new n1 (mkEnt [.slice a l.length c] 0)).new n2 (mkEnt [.int .i64 x,.int .i64 n,.string p] 0)) ⟨rfl,_,new_at (if_pos rfl) n12,mk_rd (cs:=[.slice a l.length c]) (u:=0)⟩ ⟨rfl,_,if_pos rfl,mk_rd (cs:=[.int .i64 x,.int .i64 n,.string p]) (u:=0)⟩ (le1.kold hl) (by omega)
 generalize (H.new n1 (mkEnt [.slice a l.length c] 0)).new n2 (mkEnt [.int .i64 x,.int .i64 n,.string p] 0)=H2 at le1 T1 ⊢
 refine c14 ok ⟨(by kernel_rfl)⟩ T1 (by omega) fun a7 c7 H6 le6 O6=>⟨a7,_,c7,rfl,c12 ok fun m1 g1 m2 g2=>⟨17,[.pointer (some ⟨m1,0,none⟩),.pointer (some ⟨m2,0,none⟩)],rfl,?_⟩⟩
 have m12:m1≠m2:=ne_of (if_pos rfl:(H6.new m1 (mkEnt [.string p] 0)) m1=_) g2
 have O11:=O6.two (e2:=mkEnt [.int .i64 x] 0) g1 g2
 have le11:Le ((H2.new m1 (mkEnt [.string p] 0)).new m2 (mkEnt [.int .i64 x] 0)) ((H6.new m1 (mkEnt [.string p] 0)).new m2 (mkEnt [.int .i64 x] 0)):=Le.new2 (Le.new2 le6)
 have leB:Le H2 ((H2.new m1 (mkEnt [.string p] 0)).new m2 (mkEnt [.int .i64 x] 0)):=(Le.new (le6.none g1)).trans (Le.new ((Le.new2 le6).none g2))
 have T2:=c17 ok (n1:=m1) (o1:=0) (n2:=m2) (o2:=0) (s:=p) (t:=x) (H:=(H2.new m1 (mkEnt [.string p] 0)).new m2 (mkEnt [.int .i64 x] 0)) ⟨rfl,_,new_at (if_pos rfl) m12,mk_rd (cs:=[.string p]) (u:=0)⟩ ⟨rfl,_,if_pos rfl,mk_rd (cs:=[.int .i64 x]) (u:=0)⟩ (by omega) (by omega)
 generalize (H2.new m1 (mkEnt [.string p] 0)).new m2 (mkEnt [.int .i64 x] 0)=B at O11 le11 leB T2 ⊢
 generalize (H6.new m1 (mkEnt [.string p] 0)).new m2 (mkEnt [.int .i64 x] 0)=H11 at O11 le11 ⊢
 refine c11 ok O11 ⟨(by kernel_rfl)⟩ T2 le11 (by omega) fun a16 c16' H15 le15 O15=>⟨a16,_,c16',rfl,c16 ok fun k1 f1 k2 f2=>⟨20,[.pointer (some ⟨k1,0,none⟩),.pointer (some ⟨k2,0,none⟩)],rfl,?_⟩⟩
 have k12:k1≠k2:=ne_of (if_pos rfl:(H15.new k1 (mkEnt [.slice a l.length c] 0)) k1=_) f2
 have O20:=O15.two (e2:=mkEnt [.int .i64 x,.int .i64 n,.string p] 0) f1 f2
 have le20:Le ((B.new k1 (mkEnt [.slice a l.length c] 0)).new k2 (mkEnt [.int .i64 x,.int .i64 n,.string p] 0)) ((H15.new k1 (mkEnt [.slice a l.length c] 0)).new k2 (mkEnt [.int .i64 x,.int .i64 n,.string p] 0)):=Le.new2 (Le.new2 le15)
 have leC:Le B ((B.new k1 (mkEnt [.slice a l.length c] 0)).new k2 (mkEnt [.int .i64 x,.int .i64 n,.string p] 0)):=(Le.new (le15.none f1)).trans (Le.new ((Le.new2 le15).none f2))
 have leH:=(le1.trans leB).trans leC
 have T3:=c20 ok (n1:=k1) (o1:=0) (n2:=k2) (o2:=0) (a:=a) (c:=c) (l:=l) (x:=x) (n:=n) (p:=p) (H:=(B.new k1 (mkEnt [.slice a l.length c] 0)).new k2 (mkEnt [.int .i64 x,.int .i64 n,.string p] 0)) ⟨rfl,_,new_at (if_pos rfl) k12,mk_rd (cs:=[.slice a l.length c]) (u:=0)⟩ ⟨rfl,_,if_pos rfl,mk_rd (cs:=[.int .i64 x,.int .i64 n,.string p]) (u:=0)⟩ (leH.kold hl) (by omega) (by omega) (by omega) (by omega) (fun z hz=>by have:=hi z hz; omega)
 refine c11 ok O20 ⟨(by kernel_rfl)⟩ T3 le20 (by rw [List.length_append]; omega) fun a25 c25 H24 le24 O24=>⟨a25,_,c25,rfl,hq a25 c25 H24 _ rfl (leH.trans le24) O24.cells⟩
theorem c10 {a a':OA} {c c':Nat} {l m:List Int} {H:KH} {Q:PQ} (hl:kold H 1 a l.length=some (inC l)) (hm:kold H 1 a' m.length=some (inC m)) (hs:l.length<=100000) (hq:Q (.bool (decide (l=m))) H):Does (env Try.prog) 10 [.slice a l.length c,.slice a' m.length c'] H Q:=by
 refine fn10 ok ⟨fun h=>?_,fun h=>?_⟩
 .have h:=of_decide_eq_true h
  rw [decide_eq_false (fun z=>h (by rw [z]))] at hq
  exact hq
 have h:l.length=m.length:=by have:=of_decide_eq_false h; omega
 unfold vc10_L1
 refine ⟨fun k a4 n5 n6 a7 n8 n9 x10 H11=>a4=a/\n5=l.length/\a7=a'/\n8=m.length/\H11=H/\∃ i:Nat,x10=i/\i<=l.length/\k=l.length-i/\∀ j (hj:j<l.length),j<i->l[j]=m[j]'(by omega),⟨_,rfl,rfl,rfl,rfl,rfl,0,rfl,by omega,rfl,fun j _ z=>absurd z (by omega)⟩,?_⟩
 rintro k a4 n5 n6 a7 n8 n9 x10 H11 ⟨rfl,rfl,rfl,rfl,rfl,i,rfl,hi,rfl,hv⟩
 refine ⟨fun hlt=>?_,fun hge=>?_⟩
 .have hlt:i<l.length:=by have:=of_decide_eq_true hlt; omega
  have e0:Int.toNat ((i:Nat):Int)=i:=by omega
  have hi1:IntKind.wrap .i64 (((i:Nat):Int)+1)=((i+1:Nat):Int):=by rw [wrap64 (by omega) (by omega)]; omega
  obtain ⟨b0,o0,ha,r0⟩:=in_ld hl hlt
  obtain ⟨b1,o1,ha1,r1⟩:=in_ld hm (i:=i) (by omega)
  rw [e0,hi1]
  refine ⟨trivial,⟨by omega,by omega⟩,b0,o0,ha,_,r0,⟨by omega,by omega⟩,b1,o1,ha1,_,r1,fun hc=>?_,fun hc=>?_⟩
  .have hc:=of_decide_eq_true hc
   rw [decide_eq_false (fun z=>hc (by simp only [z]))] at hq
   exact hq
  .have hc:l[i]=m[i]'(by omega):=by have:=of_decide_eq_false hc; omega
   refine ⟨l.length-(i+1),by omega,rfl,rfl,rfl,rfl,rfl,i+1,rfl,by omega,rfl,fun j hj z=>?_⟩
   by_cases y:j=i
   .subst y; exact hc
   .exact hv j hj (by omega)
 .have hge:i=l.length:=by have:=of_decide_eq_false hge; omega
  subst hge
  have:l=m:=List.ext_getElem h fun j h1 h2=>hv j h1 h1
  rw [decide_eq_true this] at hq
  exact hq
theorem c18 {kb ko:Nat} {a:OA} {c:Nat} {l:List Int} {H:KH} (hb:ld H ⟨kb,ko,none⟩ [.slice a l.length c]) (hl:kold H 1 a l.length=some (inC l)) (hs:l.length<=1000000) {y:Nat} (Inv:Nat->KH->Prop) (Stop:KH->Prop) {H0:KH} {Q:PQ}
 (hle:∀ i H1,Inv i H1->Le H H1) (hstep:∀ i (hi:i<l.length) H1,Inv (i+1) H1->DoesR (env Try.prog) y [.int .i64 ((i:Nat):Int),.int .i64 l[i]] H1 fun v H2=>(v = .bool true/\Inv i H2)\/(v = .bool false/\Stop H2))
 (hend:∀ H1,Inv 0 H1->Q (.tuple #[]) H1) (hstop:∀ H1,Stop H1->Q (.tuple #[]) H1) (hinv0:Inv l.length H0):Does (env Try.prog) 18 ([.func (.yield y) #[] #[]]++[.pointer (some ⟨kb,ko,none⟩)]) H0 Q:=by
 have g0:=hle _ _ hinv0
 refine fn18 ok ⟨a,_,c,g0.ld hb,?_⟩
 unfold vc18_L1
 have w0:IntKind.wrap .i64 (((l.length:Nat):Int)-1)=((l.length:Nat):Int)-1:=wrap64 (by omega) (by omega)
 refine ⟨fun m n4 n5 n6 x7 H8=>n4=y/\n5=kb/\n6=ko/\x7=((m:Nat):Int)-1/\m<=l.length/\Inv m H8,⟨l.length,rfl,rfl,rfl,rfl,w0,Nat.le_refl _,hinv0⟩,?_⟩
 rintro m n4 n5 n6 x7 H8 ⟨rfl,rfl,rfl,rfl,hm,hinv⟩
 refine ⟨fun hlt=>?_,fun hge=>?_⟩
 .have hlt:1<=m:=by have:=of_decide_eq_true hlt; omega
  obtain ⟨i,rfl⟩:∃ i,m=i+1:=⟨m-1,by omega⟩
  have e0:Int.toNat (((i+1:Nat):Int)-1)=i:=by omega
  have e1:((i+1:Nat):Int)-1=((i:Nat):Int):=by omega
  have hle1:=hle _ _ hinv
  obtain ⟨b0,o0,ha,r0⟩:=in_ld (hle1.kold hl) (i:=i) (by omega)
  have w1:IntKind.wrap .i64 (((i:Nat):Int)-1)=((i:Nat):Int)-1:=wrap64 (by omega) (by omega)
  rw [e0,e1,w1]
  refine ⟨a,l.length,c,hle1.ld hb,⟨by omega,by omega⟩,b0,o0,ha,_,r0,?_⟩
  refine (hstep i (by omega) _ hinv).post fun v H3 hv=>?_
  rcases hv with ⟨rfl,hv⟩ | ⟨rfl,hv⟩
  .exact ⟨true,rfl,fun h=>(by cases h),fun _=>⟨i,by omega,rfl,rfl,rfl,rfl,rfl,by omega,hv⟩⟩
  .exact ⟨false,rfl,fun _=>hstop _ hv,fun h=>by cases h⟩
 .have hge:m=0:=by have:=of_decide_eq_false hge; omega
  subst hge
  exact hend _ hinv
theorem c8 {a:OA} {c:Nat} {l:List Int} {x:Int} {H:KH} {Q:PQ} (hl:kold H 1 a l.length=some (inC l)) (hs:l.length<=10000) (hx:0<=x/\x<=10000) (hi:∀ z∈l,0<=z/\z<=10000)
 (hq:∀ i (hi:i<l.length),l[i]<=x->(∀ j (hj:j<l.length),i<j->x<l[j])->∀ H',Le H H'->Q (.tuple #[.int .i64 (((i:Nat):Int)+1),.int .i64 (x-l[i])]) H')
 (hq2:(∀ j (hj:j<l.length),x<l[j])->∀ H',Le H H'->Q (.tuple #[.int .i64 1,.int .i64 x]) H') :
 Does (env Try.prog) 8 [.slice a l.length c,.int .i64 x] H Q:=by
 refine fn8 ok fun n1 h1 n2 h2 n3 h3=>?_
 have n12:n1≠n2:=ne_of (if_pos rfl:(H.new n1 (mkEnt [.int .i64 x] 0)) n1=_) h2
 have a2:((H.new n1 (mkEnt [.int .i64 x] 0)).new n2 (mkEnt [.int .i64 0] 0)) n1=some (mkEnt [.int .i64 x] 0):=new_at (if_pos rfl) n12
 have n13:n1≠n3:=ne_of a2 h3
 have n23:n2≠n3:=ne_of (if_pos rfl:((H.new n1 (mkEnt [.int .i64 x] 0)).new n2 (mkEnt [.int .i64 0] 0)) n2=_) h3
 have H2n:H n2=none:=(Le.new h1).none h2
 have H3n:H n3=none:=((Le.new h1).trans (Le.new h2)).none h3
 have b1:BoxI (((H.new n1 (mkEnt [.int .i64 x] 0)).new n2 (mkEnt [.int .i64 0] 0)).new n3 (mkEnt [.int .i64 0] 0)) n1 (.int .i64 x):=BoxI.mk0 (new_at a2 n13)
 have b2:BoxI (((H.new n1 (mkEnt [.int .i64 x] 0)).new n2 (mkEnt [.int .i64 0] 0)).new n3 (mkEnt [.int .i64 0] 0)) n2 (.int .i64 0):=BoxI.mk0 (new_at (if_pos rfl) n23)
 have b3:BoxI (((H.new n1 (mkEnt [.int .i64 x] 0)).new n2 (mkEnt [.int .i64 0] 0)).new n3 (mkEnt [.int .i64 0] 0)) n3 (.int .i64 0):=BoxI.mk0 (if_pos rfl)
 have le3:Le H (((H.new n1 (mkEnt [.int .i64 x] 0)).new n2 (mkEnt [.int .i64 0] 0)).new n3 (mkEnt [.int .i64 0] 0)):=((Le.new h1).trans (Le.new h2)).trans (Le.new h3)
 refine ⟨x,b1.ld,?_⟩
 have hmx:max x 0=x:=by omega
 rw [hmx]
 refine ⟨⟨[.int .i64 x],rfl,b1.ld⟩,b1.may,?_⟩
 have c1:=b1.put (.int .i64 x)
 have c2:=b2.putNe (vs:=[.int .i64 x]) n12.symm
 have c3:=b3.putNe (vs:=[.int .i64 x]) n13.symm
 have leK:=le_put (o:=0) (vs:=[.int .i64 x]) le3 h1
 generalize (((H.new n1 (mkEnt [.int .i64 x] 0)).new n2 (mkEnt [.int .i64 0] 0)).new n3 (mkEnt [.int .i64 0] 0)).put ⟨n1,0,none⟩ [.int .i64 x]=K at c1 c2 c3 leK ⊢
 refine fn13 ok fun b4 h4=>⟨18,[.pointer (some ⟨b4,0,none⟩)],rfl,⟨(by kernel_rfl)⟩,fun n10 L11 h10 hR=>?_⟩
 have d1:=c1.new (e:=mkEnt [.slice a l.length c] 0) (c1.ne h4)
 have d2:=c2.new (e:=mkEnt [.slice a l.length c] 0) (c2.ne h4)
 have d3:=c3.new (e:=mkEnt [.slice a l.length c] 0) (c3.ne h4)
 have m1:=d1.ne h10
 have m2:=d2.ne h10
 have m3:=d3.ne h10
 have m4:b4≠n10:=ne_of (if_pos rfl:(K.new b4 (mkEnt [.slice a l.length c] 0)) b4=_) h10
 have H4n:H b4=none:=leK.none h4
 have H10n:H n10=none:=(leK.trans (Le.new h4)).none h10
 have leB:Le (H.new b4 (mkEnt [.slice a l.length c] 0)) (K.new b4 (mkEnt [.slice a l.length c] 0)):=Le.new2 leK
 have Bn:∀ k,H k=none->k≠b4->(H.new b4 (mkEnt [.slice a l.length c] 0)) k=none:=fun k q z=>new_none q z
 have B1:=Bn n1 h1 (c1.ne h4)
 have B2:=Bn n2 H2n (c2.ne h4)
 have B3:=Bn n3 H3n (c3.ne h4)
 have B10:=Bn n10 H10n m4.symm
 refine c18 ok (kb:=b4) (ko:=0) (a:=a) (c:=c) (l:=l) (H:=H.new b4 (mkEnt [.slice a l.length c] 0)) ⟨rfl,_,if_pos rfl,mk_rd (cs:=[.slice a l.length c]) (u:=0)⟩ ((Le.new H4n).kold hl) (by omega) (y:=n10)
  (fun i H1=>H1 n10=some (lpE L11 0 none)/\Le (H.new b4 (mkEnt [.slice a l.length c] 0)) H1/\BoxI H1 n1 (.int .i64 x)/\BoxI H1 n2 (.int .i64 0)/\BoxI H1 n3 (.int .i64 0)/\∀ j (hj:j<l.length),i<=j->x<l[j])
  (fun H1=>H1 n10=some (lpE L11 2 (some .ret))/\Le (H.new b4 (mkEnt [.slice a l.length c] 0)) H1/\∃ i,∃ hi:i<l.length,l[i]<=x/\(∀ j (hj:j<l.length),i<j->x<l[j])/\BoxI H1 n2 (.int .i64 (((i:Nat):Int)+1))/\BoxI H1 n3 (.int .i64 (x-l[i])))
  (fun i H1 h=>h.2.1) ?_ ?_ ?_ ?_
 .rintro i hlt H1 ⟨q1,q2,q3,q4,q5,q6⟩
  have hm:=hi _ (List.getElem_mem hlt)
  have w1:IntKind.wrap .i64 (((i:Nat):Int)+1)=((i:Nat):Int)+1:=wrap64 (by omega) (by omega)
  have r1:=q3.del m1
  have r2:=q4.del m2
  have r3:=q5.del m3
  have s1:=r1.putNe (vs:=[.int .i64 (((i:Nat):Int)+1)]) n12
  have s2:=r2.put (.int .i64 (((i:Nat):Int)+1))
  have s3:=r3.putNe (vs:=[.int .i64 (((i:Nat):Int)+1)]) n23.symm
  have led:=le_del q2 B10
  refine hR _ _ H1 _ q1 ⟨x,r1.ld,fun hc=>?_,fun hc hm2=>.inl ⟨rfl,if_pos rfl,le_new led B10,r1.new m1,r2.new m2,r3.new m3,fun j hj z=>?_⟩⟩
  .have hc:=of_decide_eq_true hc
   have w2:IntKind.wrap .i64 (x-l[i])=x-l[i]:=wrap64 (by omega) (by omega)
   rw [w1]
   refine ⟨trivial,x,r1.ld,?_⟩
   rw [w2]
   refine ⟨⟨[.int .i64 0],rfl,r2.ld⟩,r2.may,⟨⟨x,s1.ld,rfl⟩,rfl,rfl,trivial⟩,⟨[.int .i64 0],rfl,s3.ld⟩,s3.may,trivial,fun hm2=>.inr ⟨rfl,if_pos rfl,?_,i,hlt,hc,fun j hj z=>q6 j hj (by omega),?_,?_⟩⟩
   .exact le_new (le_put (le_put led B2) B3) B10
   .exact (s2.putNe n23).new m2
   .exact (s3.put _).new m3
  .have hc:=of_decide_eq_false hc
   by_cases e:j=i
   .subst e; omega
   .exact q6 j hj (by omega)
 .rintro H1 ⟨q1,q2,q3,q4,q5,q6⟩
  have r1:=q3.del m1
  have r2:=q4.del m2
  have r3:=q5.del m3
  have s1:=r1.putNe (vs:=[.int .i64 1]) n12
  have s2:=r2.put (.int .i64 1)
  have s3:=r3.putNe (vs:=[.int .i64 1]) n23.symm
  have led:=le_del q2 B10
  refine .inl ⟨q1,trivial,x,r1.ld,⟨[.int .i64 0],rfl,r2.ld⟩,r2.may,⟨⟨x,s1.ld,rfl⟩,trivial⟩,⟨[.int .i64 0],rfl,s3.ld⟩,s3.may,trivial,_,(s2.putNe n23).ld,_,(s3.put _).ld,hq2 (fun j hj=>q6 j hj (by omega)) _ ?_⟩
  exact (Le.new H4n).trans (le_put (le_put led B2) B3)
 .rintro H1 ⟨q1,q2,i,hlt,q3,q4,q5,q6⟩
  exact .inr (.inl ⟨q1,_,(q5.del m2).ld,_,(q6.del m3).ld,hq i hlt q3 q4 _ ((Le.new H4n).trans (le_del q2 B10))⟩)
 .exact ⟨if_pos rfl,leB.trans (Le.new h10),d1.new m1,d2.new m2,d3.new m3,fun j hj z=>absurd hj (by omega)⟩
end
end Va
end Go.Proofs.Ytpojhfpmoieidaa
namespace Go.Ew
open Go.Ev Go.Deep
theorem stL_len (s:ByteArray):(stL s).length<=s.size+1:=by
 have:=brk_len (byL s) 0
 rw [byL_len] at this
 show (brk 0 (byL s)).length+1<=_
 omega
theorem stL_pos (s:ByteArray):1<=(stL s).length:=by show 1<=(brk 0 (byL s)).length+1; omega
theorem stL_in {s:ByteArray} {x:Int} (h:x∈stL s):0<=x/\x<=((s.size:Nat):Int):=by
 rcases List.mem_cons.1 h with z | z
 .omega
 .have:=brk_in z; rw [byL_len] at this; omega
theorem stL_sorted (s:ByteArray):(stL s).Pairwise (· < ·):=List.pairwise_cons.2 ⟨fun x hx=>(brk_in hx).1,brk_sorted _ _⟩
theorem stL_has {s:ByteArray} {j:Nat} (h:(byL s)[j]? = some 10):((j:Nat):Int)+1∈stL s:=List.mem_cons.2 (.inr (brk_mem.2 ⟨j,h,by omega⟩))
theorem stL_of {s:ByteArray} {x:Int} (h:x∈stL s):x=0\/∃ j:Nat,(byL s)[j]? = some 10/\x=((j:Nat):Int)+1:=by
 rcases List.mem_cons.1 h with z | z
 .exact .inl z
 .obtain ⟨j,j1,j2⟩:=brk_mem.1 z
  exact .inr ⟨j,j1,by omega⟩
theorem no10 {s:ByteArray} {i j:Nat} {x:Int} (hi:i<(stL s).length) (h:∀ k (hk:k<(stL s).length),i<k->x<(stL s)[k]) (h1:(stL s)[i]<=((j:Nat):Int)) (h2:((j:Nat):Int)<x):(byL s)[j]?≠some 10:=fun z=>by
 obtain ⟨k,hk,e⟩:=List.getElem_of_mem (stL_has z)
 rcases Nat.lt_trichotomy i k with y | y | y
 .have:=h k hk y; omega
 .subst y; omega
 .have:=List.pairwise_iff_getElem.1 (stL_sorted s) k i hk hi y
  omega
theorem stL_app (s t:ByteArray):stL (s++t)=stL s++(brk 0 (byL t)).map (· + ((s.size:Nat):Int)):=by
 unfold stL
 rw [byL_app,brk_app,byL_len,brk_shift]; rfl
theorem brk_at (n:Int) (l:List UInt8):brk n l=(brk 0 l).map (· + n):=by
 have:=brk_shift l 0 n
 rw [Int.zero_add] at this
 exact this
theorem ed_end (s t:ByteArray):ahL ((s.size:Nat):Int) (stL s)++brk ((s.size:Nat):Int) (byL t)++beL ((s.size:Nat):Int) 0 ((t.size:Nat):Int) (stL s)=stL (s++t):=by
 have h1:ahL ((s.size:Nat):Int) (stL s)=stL s:=List.filter_eq_self.2 fun x hx=>decide_eq_true (stL_in hx).2
 have h2:(stL s).filter (fun x=>decide (((s.size:Nat):Int)+0<x))=[]:=List.filter_eq_nil_iff.2 fun x hx h=>by
  have:=(stL_in hx).2
  have:=of_decide_eq_true h
  omega
 unfold beL
 rw [h1,h2,stL_app,brk_at,List.map_nil,List.append_nil]
theorem ed_front (s t:ByteArray):ahL 0 (stL t)++brk 0 (byL s)++beL 0 0 ((s.size:Nat):Int) (stL t)=stL (s++t):=by
 have h1:(brk 0 (byL t)).filter (fun x=>decide (x<=0))=[]:=List.filter_eq_nil_iff.2 fun x hx h=>by
  have:=(brk_in hx).1
  have:=of_decide_eq_true h
  omega
 have h2:(brk 0 (byL t)).filter (fun x=>decide (0+0<x))=brk 0 (byL t):=List.filter_eq_self.2 fun x hx=>decide_eq_true (by have:=(brk_in hx).1; omega)
 have h3:ahL 0 (stL t)=[0]:=by
  unfold ahL stL
  rw [List.filter_cons_of_pos (by simp),h1]
 have h4:(stL t).filter (fun x=>decide (0+0<x))=brk 0 (byL t):=by
  unfold stL
  rw [List.filter_cons_of_neg (by simp),h2]
 unfold beL
 rw [h3,h4,stL_app]
 have h5:(fun x:Int=>x-0+((s.size:Nat):Int))=(· + ((s.size:Nat):Int)):=by funext x; omega
 rw [h5]
 rfl
end Go.Ew
namespace Go.Proofs.Ytpojhfpmoieidaa
open Go.Ev Go.Ew
namespace Va
section
variable (ok : EnvOk (env Try.prog))
include ok
theorem c3 {s:ByteArray} {b:Nat} {H:KH} (hb:b<=255):Does (env Try.prog) 3 [.string s,.int .u8 ((b:Nat):Int)] H fun v _=>v = .bool true:=by
 refine fn3 ok (c6 ⟨true,rfl,fun h=>(by cases h),fun _=>⟨fun _=>rfl,fun l0=>?_⟩⟩)
 have l0:s.size<=60:=by have:=of_decide_eq_false l0; omega
 have w1:IntKind.wrap .i64 (((s.size:Nat):Int)+1)=((s.size:Nat):Int)+1:=wrap64 (by omega) (by omega)
 have w2:IntKind.wrap .i64 ((b:Nat):Int)=((b:Nat):Int):=wrap64 (by omega) (by omega)
 have k0:=Int.tmod_nonneg (((s.size:Nat):Int)+1) (show (0:Int)<=((b:Nat):Int) by omega)
 have k1:=Int.tmod_lt_of_pos ((b:Nat):Int) (b:=((s.size:Nat):Int)+1) (by omega)
 unfold vc3_L1
 rw [w1,w2]
 generalize Int.tmod ((b:Nat):Int) (((s.size:Nat):Int)+1)=K at k0 k1 ⊢
 have hL:=stL_len s
 have hP:=stL_pos s
 refine ⟨by omega,c7 ok (by omega) fun a c H2 h2 k2=>⟨a,_,c,rfl,c8 ok k2 (by omega) ⟨by omega,by omega⟩ (fun z hz=>by have:=stL_in hz; omega) (fun i hi q1 q2 H7 h7=>?_) fun q2=>?_⟩⟩
 .have hin:=stL_in (List.getElem_mem hi)
  have e1:IntKind.wrap .i64 (((i:Nat):Int)+1-1)=((i:Nat):Int):=by rw [wrap64 (by omega) (by omega)]; omega
  have e2:Int.toNat ((i:Nat):Int)=i:=by omega
  obtain ⟨b0,o0,ha,r0⟩:=in_ld (h7.kold k2) hi
  refine ⟨_,_,rfl,fun z=>absurd (of_decide_eq_true z) (by omega),fun _=>⟨fun z=>absurd (of_decide_eq_true z) (by omega),fun _=>⟨fun z=>absurd (of_decide_eq_true z) (by omega),fun _=>?_⟩⟩⟩
  rw [e1,e2]
  have e3:IntKind.wrap .i64 ((stL s)[i]+(K-(stL s)[i]))=K:=by rw [wrap64 (by omega) (by omega)]; omega
  refine ⟨⟨by omega,by omega⟩,b0,o0,ha,_,r0,?_⟩
  rw [e3]
  refine ⟨fun z=>absurd rfl (of_decide_eq_true z),fun _=>⟨⟨by omega,by omega⟩,b0,o0,ha,_,r0,?_⟩⟩
  refine ⟨fun m s4 x5 a6 n7 n8 x9 x10 H11=>s4=s/\x5=K/\a6=a/\n7=(stL s).length/\x9=((i:Nat):Int)+1/\H11=H7/\∃ j:Nat,x10=j/\(stL s)[i]<=j/\(j:Int)<=K/\m=s.size-j,⟨_,rfl,rfl,rfl,rfl,rfl,rfl,((stL s)[i]).toNat,by omega,by omega,by omega,rfl⟩,?_⟩
  rintro m s4 x5 a6 n7 n8 x9 x10 H11 ⟨rfl,rfl,rfl,rfl,rfl,rfl,j,rfl,j1,j2,rfl⟩
  rw [e1,e2]
  have e4:Int.toNat ((j:Nat):Int)=j:=by omega
  refine ⟨fun hlt=>?_,fun hge=>⟨⟨by omega,by omega⟩,b0,o0,ha,_,r0,fun _=>rfl,fun hz=>⟨⟨by omega,by omega⟩,b0,o0,ha,_,r0,?_⟩⟩⟩
  .have hlt:=of_decide_eq_true hlt
   have hj:j<s4.size:=by omega
   rw [e4]
   refine ⟨⟨by omega,by omega⟩,fun hc=>?_,fun _=>⟨s4.size-(j+1),by omega,rfl,rfl,rfl,rfl,rfl,rfl,j+1,by rw [wrap64 (by omega) (by omega)]; omega,by omega,by omega,rfl⟩⟩
   exact absurd ((by10 hj).1 (of_decide_eq_true hc)) (no10 hi q2 j1 hlt)
  .have hz:=of_decide_eq_false hz
   obtain ⟨j',y1,y2⟩:∃ j':Nat,(byL s4)[j']? = some 10/\(stL s4)[i]=((j':Nat):Int)+1:=by
    rcases stL_of (List.getElem_mem hi) with y | y
    .exact absurd y hz
    .exact y
   have hj':j'<s4.size:=by
    rcases Nat.lt_or_ge j' s4.size with y | y
    .exact y
    .rw [List.getElem?_eq_none (by rw [byL_len]; exact y)] at y1; cases y1
   have e5:IntKind.wrap .i64 ((stL s4)[i]-1)=((j':Nat):Int):=by rw [wrap64 (by omega) (by omega)]; omega
   have e6:Int.toNat ((j':Nat):Int)=j':=by omega
   rw [e5,e6]
   refine ⟨⟨by omega,by omega⟩,?_⟩
   rw [decide_eq_true ((by10 hj').2 y1)]
 .have h0:(stL s)[0]=0:=rfl
  have:=q2 0 (by omega)
  omega
theorem c5 {s t:ByteArray} {H:KH}:Does (env Try.prog) 5 [.string s,.string t] H fun v _=>v = .bool true:=by
 refine fn5 ok (c6 ⟨true,rfl,fun h=>(by cases h),fun _=>⟨fun _=>rfl,fun l0=>⟨fun _=>rfl,fun l1=>?_⟩⟩⟩)
 have l0:s.size<=60:=by have:=of_decide_eq_false l0; omega
 have l1:t.size<=60:=by have:=of_decide_eq_false l1; omega
 have hst:(s++t).size=s.size+t.size:=ByteArray.size_append
 have hs:=stL_len s
 have ht:=stL_len t
 have ps:=stL_pos s
 have pt:=stL_pos t
 have hz:=stL_app s t
 have hzl:(stL (s++t)).length=(stL s).length+(brk 0 (byL t)).length:=by rw [hz,List.length_append,List.length_map]
 have htl:(stL t).length=(brk 0 (byL t)).length+1:=rfl
 refine c7 ok (by omega) fun a c H2 h2 k2=>⟨a,_,c,rfl,c7 ok (by omega) fun a' c' H3 h3 k3=>⟨a',_,c',rfl,by omega,c7 ok (by omega) fun a'' c'' H4 h4 k4=>⟨a'',_,c'',rfl,fun z=>?_,fun _=>?_⟩⟩⟩
 .have z:=of_decide_eq_true z
  rw [wrap64 (x:=((stL s).length:Int)+_) (by omega) (by omega),wrap64 (by omega) (by omega)] at z
  omega
 unfold vc5_L2
 refine ⟨fun m s4 s5 a6 n7 n8 a9 n10 n11 a12 n13 n14 x15 H16=>s4=s/\s5=t/\a6=a/\n7=(stL s).length/\a9=a'/\n10=(stL t).length/\a12=a''/\n13=(stL (s++t)).length/\H16=H4/\∃ i:Nat,x15=i/\i<=(stL (s++t)).length/\m=(stL (s++t)).length-i,⟨_,rfl,rfl,rfl,rfl,rfl,rfl,rfl,rfl,rfl,0,rfl,by omega,rfl⟩,?_⟩
 rintro m s4 s5 a6 n7 n8 a9 n10 n11 a12 n13 n14 x15 H16 ⟨rfl,rfl,rfl,rfl,rfl,rfl,rfl,rfl,rfl,i,rfl,hi,rfl⟩
 have K2:kold H16 1 a6 (stL s4).length=some (inC (stL s4)):=h4.kold (h3.kold k2)
 have K3:kold H16 1 a9 (stL s5).length=some (inC (stL s5)):=h4.kold k3
 refine ⟨fun hlt=>⟨trivial,?_⟩,fun _=>?_⟩
 .have hlt:i<(stL (s4++s5)).length:=by have:=of_decide_eq_true hlt; omega
  have e0:Int.toNat ((i:Nat):Int)=i:=by omega
  have hi1:IntKind.wrap .i64 (((i:Nat):Int)+1)=((i+1:Nat):Int):=by rw [wrap64 (by omega) (by omega)]; omega
  have goon:∃ n:Nat,n<(stL (s4++s5)).length-i/\(s4=s4/\s5=s5/\a6=a6/\(stL s4).length=(stL s4).length/\a9=a9/\(stL s5).length=(stL s5).length/\a12=a12/\(stL (s4++s5)).length=(stL (s4++s5)).length/\H16=H16/\∃ j:Nat,IntKind.wrap .i64 (((i:Nat):Int)+1)=j/\j<=(stL (s4++s5)).length/\n=(stL (s4++s5)).length-j) :=
   ⟨(stL (s4++s5)).length-(i+1),by omega,rfl,rfl,rfl,rfl,rfl,rfl,rfl,rfl,rfl,i+1,hi1,by omega,rfl⟩
  obtain ⟨b0,o0,ha,r0⟩:=in_ld k4 hlt
  rw [e0]
  have second:(stL s4).length<=i->∃ b1 o1,a9=some ⟨b1,o1,none⟩/\ld H16 ⟨b1,o1+(Int.toNat (IntKind.wrap .i64 (IntKind.wrap .i64 (((i:Nat):Int)-(((stL s4).length:Nat):Int))+1)))*1,none⟩ [.int .i64 ((stL (s4++s5))[i]-((s4.size:Nat):Int))]/\0<=IntKind.wrap .i64 (IntKind.wrap .i64 (((i:Nat):Int)-(((stL s4).length:Nat):Int))+1)/\IntKind.wrap .i64 (IntKind.wrap .i64 (((i:Nat):Int)-(((stL s4).length:Nat):Int))+1)<(((stL s5).length:Nat):Int):=fun hge=>by
   have w1:IntKind.wrap .i64 (((i:Nat):Int)-(((stL s4).length:Nat):Int))=((i:Nat):Int)-(((stL s4).length:Nat):Int):=wrap64 (by omega) (by omega)
   have w2:IntKind.wrap .i64 (((i:Nat):Int)-(((stL s4).length:Nat):Int)+1)=((i-(stL s4).length+1:Nat):Int):=by rw [wrap64 (by omega) (by omega)]; omega
   rw [w1,w2]
   have hk:i-(stL s4).length+1<(stL s5).length:=by omega
   obtain ⟨b1,o1,ha1,r1⟩:=in_ld K3 hk
   refine ⟨b1,o1,ha1,?_,by omega,by omega⟩
   have e1:Int.toNat ((i-(stL s4).length+1:Nat):Int)=i-(stL s4).length+1:=by omega
   rw [e1]
   have hv:(stL (s4++s5))[i]=(stL s5)[i-(stL s4).length+1]+((s4.size:Nat):Int):=by
    have g1:(stL (s4++s5))[i]? = some ((stL s5)[i-(stL s4).length+1]+((s4.size:Nat):Int)):=by
     rw [hz,List.getElem?_append_right hge,List.getElem?_map]
     have g2:(stL s5)[i-(stL s4).length+1]=(brk 0 (byL s5))[i-(stL s4).length]'(by omega):=rfl
     rw [g2,List.getElem?_eq_getElem (by omega)]; rfl
    rw [List.getElem?_eq_getElem hlt] at g1
    exact Option.some.inj g1
   rw [hv]
   have:(stL s5)[i-(stL s4).length+1]+((s4.size:Nat):Int)-((s4.size:Nat):Int)=(stL s5)[i-(stL s4).length+1]:=by omega
   rw [this]
   exact r1
  have hv:=stL_in (List.getElem_mem hlt)
  have w3:IntKind.wrap .i64 ((stL (s4++s5))[i]-((s4.size:Nat):Int)+((s4.size:Nat):Int))=(stL (s4++s5))[i]:=by rw [wrap64 (by omega) (by omega)]; omega
  refine ⟨fun hf=>?_,fun hf=>⟨fun hg=>?_,fun _=>goon⟩⟩
  .have hf:i<(stL s4).length:=by have:=of_decide_eq_true hf; omega
   obtain ⟨b1,o1,ha1,r1⟩:=in_ld K2 hf
   have hv:(stL (s4++s5))[i]=(stL s4)[i]:=by
    have g1:(stL (s4++s5))[i]? = some (stL s4)[i]:=by rw [hz,List.getElem?_append_left hf,List.getElem?_eq_getElem hf]
    rw [List.getElem?_eq_getElem hlt] at g1
    exact Option.some.inj g1
   refine ⟨⟨by omega,by omega⟩,b0,o0,ha,_,r0,⟨by omega,by omega⟩,b1,o1,ha1,_,r1,fun hc=>absurd hv (of_decide_eq_true hc),fun _=>⟨fun hg=>absurd (of_decide_eq_true hg) (by omega),fun _=>goon⟩⟩
  .have hg:(stL s4).length<=i:=by have:=of_decide_eq_true hg; omega
   obtain ⟨b1,o1,ha1,r1,y0,y1⟩:=second hg
   refine ⟨⟨by omega,by omega⟩,b0,o0,ha,_,r0,⟨y0,y1⟩,b1,o1,ha1,_,r1,?_⟩
   rw [w3]
   exact ⟨fun hc=>absurd rfl (of_decide_eq_true hc),fun _=>goon⟩
 .refine c9 ok K2 (by omega) ⟨by omega,by omega⟩ ⟨by omega,by omega⟩ (by omega) (fun z hz=>by have:=stL_in hz; omega) fun a1 c1 H5 r hr h5 k5=>?_
  rw [ed_end] at hr
  subst hr
  refine ⟨a1,_,c1,rfl,c10 ok k5 (h5.kold k4) (by omega) ⟨_,rfl,fun _=>?_,fun z=>?_⟩⟩
  .refine c9 ok (h5.kold K3) (by omega) ⟨by omega,by omega⟩ ⟨by omega,by omega⟩ (by omega) (fun z hz=>by have:=stL_in hz; omega) fun a2 c2 H6 r hr h6 k6=>?_
   rw [ed_front] at hr
   subst hr
   refine ⟨a2,_,c2,rfl,c10 ok k6 (h6.kold (h5.kold k4)) (by omega) ⟨_,rfl,?_⟩⟩
   rw [decide_eq_true rfl]
  .rw [decide_eq_true rfl] at z; cases z
end
end Va
end Go.Proofs.Ytpojhfpmoieidaa
namespace Go.Proofs.Ytpojhfpmoieidaa
open Go.Ev Go.Ew Go.RowKit
namespace Va
theorem tys:tysOk Try.prog tyL:=by unfold tysOk; kernel_rfl
theorem mixed:Try.prog.follows .mixedOrders=true:=by kernel_rfl
theorem own:ownKnob Try.prog.godebug=none:=by kernel_rfl
def fnB6:List Nat:=[6,7,8,9,11,12,13,14,15,16,17,18,19,20]
def xtB6:List (Nat × Nat):=[]
theorem fnsB6:(fnsOf Try.prog fnB6).all (fnOk (envOf Try.prog tyL fnB6 plL xtB6))=true:=by kernel_rfl
theorem okB6:EnvOk (envOf Try.prog tyL fnB6 plL xtB6):=env_ok tys mixed fnsB6 (fun g hg=>by simp [xtB6] at hg) (fun g hg=>by simp [xtB6] at hg) (fun g hg=>by simp [xtB6] at hg)
theorem hereB6:(tget (envOf Try.prog tyL fnB6 plL xtB6).ff 6).isSome=true:=by kernel_rfl
set_option maxRecDepth 100000 in
theorem runsB6:saysTrue (callA (envOf Try.prog tyL fnB6 plL xtB6) (ev (envOf Try.prog tyL fnB6 plL xtB6) 100000) 6 [] ⟨.nil,0⟩)=true:=by kernel_rfl
theorem walkB6 (w:World):Calls Try.prog 6 #[] w fun e w'=>e = .returned (.bool true)/\Below w.heap.size w w':=by
 obtain ⟨fn,hfn⟩:=Option.isSome_iff_exists.1 hereB6
 exact law_true okB6 hfn (by unfold unkU; omega) runsB6 w
theorem nameB6 : (Try.f6.name == "runtime.NumGoroutine") = false := by kernel_rfl
theorem bodyB6:Try.f6.body.isNone=false:=by kernel_rfl
theorem enterB6 (w:World):(callFunc 6 #[]).run Try.prog w = .ok (.enter 6 #[]) w:=by
 simp only [callFunc,Sem.run_bind,run_program,Result.andThen_ok,Try.func6,nameB6,bodyB6,Bool.false_eq_true,if_false,Sem.run_pure]
theorem fns:(fnsOf Try.prog fnL).all (fnOk (env Try.prog))=true:=by kernel_rfl
theorem ok:EnvOk (env Try.prog):=env_ok tys mixed fns (fun g hg=>by simp [xtL] at hg) (fun g hg=>by simp [xtL] at hg) (fun g hg=>by
 have e:g=6:=by simpa [xtL] using hg
 subst e
 exact fun w=>⟨enterB6 w,walkB6 w⟩)
end Va
end Go.Proofs.Ytpojhfpmoieidaa
namespace Go.Ew
open Go.Ev Go.Deep Go.RowKit
def treeOf {α:Type} (f:Nat->Option α):Nat->BT (Option α)
 | 0=>.nil
 | n+1=>tset (treeOf f n) n (f n)
theorem tree_get {α:Type} (f:Nat->Option α):∀ n k,tget (treeOf f n) k=if k<n then f k else none
 | 0,k=>by simp [treeOf,tget]
 | n+1,k=>by
   rw [treeOf,tget_tset,tree_get f n]
   by_cases e:n=k
   .subst e; simp
   .rw [if_neg e]
    by_cases h:k<n
    .rw [if_pos h,if_pos (by omega)]
    .rw [if_neg h,if_neg (by omega)]
def absV (N:Nat):Value->Option Value
 | .pointer (some a)=>if a.spot=none/\a.block<N then some (.pointer (some a)) else none
 | .slice (some a) l c=>if a.spot=none/\a.block<N/\c<unkU then some (.slice (some a) l c) else if l=0 then some vague else none
 | v=>if isPlain v=true then some v else none
def thW (N:Nat):Th:=fun n=>if n<N then some (n,0,0) else none
theorem absV_S {N:Nat} {v u:Value} (h:absV N v=some u):S (thW N) u v:=by
 unfold absV at h
 split at h
 .rename_i a
  split at h
  .rename_i hq
   cases h
   refine ⟨hq.1,(a.block,0,0),by simp [thW,hq.2],?_⟩
   obtain ⟨b,o,sp⟩:=a
   obtain ⟨h1,h2⟩:=hq
   cases h1
   simp
  .cases h
 .rename_i a l c
  split at h
  .rename_i hq
   cases h
   obtain ⟨b,o,sp⟩:=a
   obtain ⟨h1,h2,h3⟩:=hq
   cases h1
   exact .inl ⟨rfl,(b,0,0),c,by simp only at h2; simp [thW,h2],.inl ⟨h3,rfl⟩,by simp⟩
  .split at h
   .rename_i hl
    cases h
    subst hl
    exact .inr ⟨by simp,rfl,Nat.le_refl _,_,_,rfl⟩
   .cases h
 .split at h
  .rename_i hp
   cases h
   exact S_plain hp
  .cases h
def bsz (w:World) (b:Nat):Nat:=match w.heap[b]? with
 | some (.cells c _ _)=>c.size
 | _=>0
def blkOf (w:World) (b:Nat) (i:Nat):Option Value:=match w.cell? ⟨b,i,none⟩ with
 | some v=>if w.frozen? ⟨b,i,none⟩=false then absV w.heap.size v else none
 | none=>none
def entW (w:World) (b:Nat):Ent:=⟨treeOf (blkOf w b) (bsz w b),0,roU,none⟩
def KW (w:World):KH:=fun b=>if b<w.heap.size then some (entW w b) else none
def snapW (w:World):Hp:=⟨treeOf (fun b=>some (entW w b)) w.heap.size,w.heap.size⟩
theorem snap_get (w:World) (k:Nat):tget (snapW w).m k=KW w k:=tree_get _ _ _
theorem KW_some {w:World} {k:Nat} {e:Ent} (h:KW w k=some e):k<w.heap.size/\e=entW w k:=by
 unfold KW at h
 split at h
 .rename_i q; cases h; exact ⟨q,rfl⟩
 .cases h
theorem HR_snap [LG] (w:World):HR (thW w.heap.size) (snapW w) w:=by
 refine ⟨fun n e x he hx=>?_,fun n m e e' x y h1 h2 hne h3 h4=>?_,fun n hn=>?_⟩
 .rw [snap_get] at he
  obtain ⟨h1,rfl⟩:=KW_some he
  have hx':x=(n,0,0):=by
   simp only [thW,if_pos h1,Option.some.injEq] at hx
   exact hx.symm
  subst hx'
  refine ⟨hx,h1,fun i v hi=>?_,fun o ho=>(by cases ho),fun hu=>⟨by simp [entW],fun i hi=>by simp at hi⟩⟩
  simp only [entW,tree_get] at hi
  split at hi
  .unfold blkOf at hi
   simp only [Nat.zero_add]
   cases hc:w.cell? ⟨n,i,none⟩ with
   | none=>rw [hc] at hi; cases hi
   | some u =>
     rw [hc] at hi
     simp only at hi
     split at hi
     .rename_i hf
      exact ⟨⟨u,rfl,absV_S hi⟩,hf⟩
     .cases hi
  .cases hi
 .unfold thW at h3 h4
  split at h3
  .split at h4
   .cases h3; cases h4; exact hne
   .cases h4
  .cases h3
 .have:¬ n<w.heap.size:=by have:w.heap.size<=n:=hn; omega
  simp [thW,this]
theorem top {E:Env} (hE:EnvOk E) {g:Nat} {fn:Func} (hfn:tget E.ff g=some fn) {args cargs:List Value} {w:World} {v:Value} (hp:isPlain v=true) (hD:Does E g args (KW w) fun r _=>r=v) (ha:all2 (W (thW w.heap.size)) args cargs) :
 Calls E.P g cargs.toArray w fun e w'=>e = .returned v/\Below w.heap.size w w':=by
 letI:=lgOf E
 obtain ⟨r,h',H',⟨n,hrun⟩,hq,_⟩:=hD.run (snapW w) (fun k hk=>by
  rw [snap_get]
  have:¬ k<w.heap.size:=by have:w.heap.size<=k:=hk; omega
  simp [KW,this]) (fun k e q=>by rw [snap_get]; exact q)
 subst hq
 rcases (call_sound hE (lgOf_ok E) (ev_sound hE (lgOf_ok E) n) (snapW w) g args r h' (hrun n (Nat.le_refl _)) (thW w.heap.size) w cargs (HR_snap w) ha).1 hD.lt with ⟨_,h2⟩ | ⟨u,h1,_,_⟩
 .refine h2.mono fun e w' hq=>?_
  obtain ⟨θ',u,rfl,q1,q2,q3⟩:=hq
  rw [W_plain hp q3]
  refine ⟨rfl,q1.os,q1.tape,q1.output,q1.size,fun k hk=>q1.frame k hk fun n e x q hu _=>?_⟩
  rw [snap_get] at q
  obtain ⟨_,rfl⟩:=KW_some q
  exact absurd rfl hu
 .exfalso
  obtain ⟨f1,f2,c',f3,_⟩:=hE.ff g fn hfn
  have f2' : ¬ fn.name = "runtime.NumGoroutine" := fun e => by rw [e] at f2; simp at f2
  simp [callFunc,f1,f2',f3] at h1
section
variable {H : Type} {enc : TypeId × Value -> H} {P : Program} {w : World}
theorem trod_int {t:TypeId} {k:IntKind} {x:Value} {m:Nat} {y:DataW H × List MemPlace} (ht:P.underlying t=some (.int k)) (h:DataW.trod enc P w 0 (fun _=>true) true m t [x]=some y):∃ n,x = .int k n/\(Lit.int k n).wf=true/\y=(.lit (.int k n),[]):=by
 cases m with
 | zero=>simp [DataW.trod] at h
 | succ m =>
   unfold DataW.trod at h
   rw [ht] at h
   cases x<;>simp at h
   rename_i k' n
   obtain ⟨⟨rfl,h2⟩,h3⟩:=h
   exact ⟨n,rfl,h2,h3.symm⟩
theorem trodAll_below {W W':World} (hl:laidOutB P=true) (hb:Below W.heap.size W W'):∀ (ts:List TypeId) (vs:List Value) (ds:List (DataW H)) (ps:List MemPlace),(∀ t∈ts,P.readableRec t=true/\t<P.types.size)->
 DataW.TrodAll enc P W 0 (fun _=>true) true ts vs ds ps->(∀ x∈ps,x.block<W.heap.size)->DataW.TrodAll enc P W' 0 (fun b=>decide (b<W.heap.size)) true ts vs ds ps
 | [],[],[],ps,_,h,_=>h
 | t :: ts,v :: vs,d :: ds,ps,ht,⟨p,q,h1,h2,h3⟩,hlt=>by
   subst h3
   exact ⟨p,q,Below.trod hl (ht t (by simp)).1 (ht t (by simp)).2 h1 hb (fun x hx=>hlt x (by simp [hx])),trodAll_below hl hb ts vs ds q (fun t' h'=>ht t' (by simp [h'])) h2 (fun x hx=>hlt x (by simp [hx])),rfl⟩
 | [],_ :: _,_,_,_,h,_=>by cases h
 | [],[],_ :: _,_,_,h,_=>by cases h
 | _ :: _,[],_,_,_,h,_=>by cases h
 | _ :: _,_ :: _,[],_,_,h,_=>by cases h
theorem arg_byte {t:TypeId} {v:Value} {d:DataW H} {ps:List MemPlace} (ht:P.underlying t=some (.int .u8)) (h:DataW.Trod enc P w 0 (fun _=>true) true t v d ps) (hv:∃ n,v = .int .u8 n):∃ n:Nat,v = .int .u8 n/\n<=255:=by
 obtain ⟨m,rfl⟩:=hv
 obtain ⟨fuel,hd⟩:=h
 obtain ⟨z,e,hz,_⟩:=trod_int ht hd
 cases e
 simp only [Lit.wf,Bool.and_eq_true,decide_eq_true_eq] at hz
 have e1:IntKind.min .u8=0:=by decide
 have e2:IntKind.max .u8=255:=by decide
 exact ⟨m.toNat,by congr 1; omega,by omega⟩
end
end Go.Ew
