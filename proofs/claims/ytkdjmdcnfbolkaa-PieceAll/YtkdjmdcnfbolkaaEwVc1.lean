import Derived.Test.YtkdjmdcnfbolkaaEwS4
import Derived.Carry
import Derived.Test.YtkdjmdcnfbolkaaEwBd
import Derived.Test.YtkdjmdcnfbolkaaEvDraw4
set_option linter.unusedVariables false
set_option maxRecDepth 100000
namespace Go.Proofs.Ytkdjmdcnfbolkaa
open Go.Ev Go.Ew
namespace Va
def tupT:Go.Deep.BT (Option (List Nat)):=mkTab tupL
def W8 (P:Program):WE:=⟨env P,tupT,[2],mkTab [],8⟩
def vc8 (p0:ByteArray) (H:KH) (Q:PQ):Prop :=
 Does (env Try.prog) 14 [(.string p0)] H fun e f=>∃ (a:ByteArray),e=(.string a)/\Does (env Try.prog) 15 [.slice none 0 0,.agg #[.bool false,.int .i64 0,.int .i64 (((ByteArray.size p0):Nat):Int)]] f fun g h=>∃ (b:(OA)) (c d:Nat),g=(.slice b c d)/\Q (.agg #[.string a,.string (ByteArray.mk #[]),.slice b c d]) h
theorem fn8 (ok:EnvOk (env Try.prog)) {p0:ByteArray} {H:KH} {Q:PQ} (h:vc8 p0 H Q):Does (env Try.prog) 8 [.string p0] H Q :=
 wFun_sound (W:=W8 Try.prog) ok.tt (blt_lt (by kernel_rfl)) (ff_of ok (by kernel_rfl) Try.func8) (Eq.mpr (by kernel_rfl) h)
def W9 (P:Program):WE:=⟨env P,tupT,[2,3,4],mkTab [],9⟩
def vc9 (p0_0 p0_1:ByteArray) (p0_2:OA) (p0_2n p0_2c:Nat) (p1_0 p1_1:Int) (p1_2:ByteArray) (H:KH) (Q:PQ):Prop :=
 (True/\Does (env Try.prog) 12 [(.agg #[.string p0_0,.string p0_1,.slice p0_2 p0_2n p0_2c])] H fun n o=>∃ (b:Int),n=(.int .i64 b)/\(((3:Nat)=3/\((0+0):Nat)=(0+0))/\((.int .i64 p1_0):Value)=(.int .i64 p1_0)/\((3:Nat)=3/\((0+1):Nat)=(0+1))/\((.int .i64 p1_1):Value)=(.int .i64 p1_1)/\True)/\Does (env Try.prog) 16 [.int .i64 p1_0,.int .i64 p1_1,.int .i64 b] o fun p m=>∃ (a:Bool),p=(.bool a)/\True/\((!a)=true->True/\Does (env Try.prog) 14 [(.string p0_0)] m fun q r=>∃ (c:ByteArray),q=(.string c)/\(((2:Nat)=2/\((0+1):Nat)=(0+1))/\((.string p0_1):Value)=(.string p0_1)/\((2:Nat)=2/\((0+2):Nat)=(0+2))/\((.slice p0_2 p0_2n p0_2c):Value)=(.slice p0_2 p0_2n p0_2c)/\True)/\Does (env Try.prog) 14 [(.string p0_1)] r fun s t=>∃ (d:ByteArray),s=(.string d)/\(((2:Nat)=2/\((0+2):Nat)=(0+2))/\((.slice p0_2 p0_2n p0_2c):Value)=(.slice p0_2 p0_2n p0_2c)/\True)/\Does (env Try.prog) 17 [(.slice p0_2 p0_2n p0_2c)] t fun u v=>∃ (e:(OA)) (f g:Nat),u=(.slice e f g)/\True/\True/\Q (.tuple #[.agg #[.string c,.string d,.slice e f g],.bool false]) v)/\((!a)=false->True/\Does (env Try.prog) 14 [(.string p0_0)] m fun w x=>∃ (h:ByteArray),w=(.string h)/\(((2:Nat)=2/\((0+1):Nat)=(0+1))/\((.string p0_1):Value)=(.string p0_1)/\((3:Nat)=3/\((0+2):Nat)=(0+2))/\((.string p1_2):Value)=(.string p1_2)/\((.agg #[.string p0_0,.string p0_1,.slice p0_2 p0_2n p0_2c]):Value)=(.agg #[.string p0_0,.string p0_1,.slice p0_2 p0_2n p0_2c])/\((.agg #[.int .i64 p1_0,.int .i64 p1_1,.string p1_2]):Value)=(.agg #[.int .i64 p1_0,.int .i64 p1_1,.string p1_2])/\True)/\Does (env Try.prog) 18 [.string p0_1,.string p1_2] x fun y z=>∃ (i:ByteArray),y=(.string i)/\(((.agg #[.string p0_0,.string p0_1,.slice p0_2 p0_2n p0_2c]):Value)=(.agg #[.string p0_0,.string p0_1,.slice p0_2 p0_2n p0_2c])/\((.agg #[.int .i64 p1_0,.int .i64 p1_1,.string p1_2]):Value)=(.agg #[.int .i64 p1_0,.int .i64 p1_1,.string p1_2])/\True)/\Does (env Try.prog) 19 [.agg #[.string p0_0,.string p0_1,.slice p0_2 p0_2n p0_2c],.agg #[.int .i64 p1_0,.int .i64 p1_1,.string p1_2]] z fun aa ab=>∃ (j:(OA)) (k l:Nat),aa=(.slice j k l)/\True/\True/\Q (.tuple #[.agg #[.string h,.string i,.slice j k l],.bool true]) ab))
theorem fn9 (ok:EnvOk (env Try.prog)) {p0_0 p0_1:ByteArray} {p0_2:OA} {p0_2n p0_2c:Nat} {p1_0 p1_1:Int} {p1_2:ByteArray} {H:KH} {Q:PQ} (h:vc9 p0_0 p0_1 p0_2 p0_2n p0_2c p1_0 p1_1 p1_2 H Q):Does (env Try.prog) 9 [.agg #[.string p0_0,.string p0_1,.slice p0_2 p0_2n p0_2c],.agg #[.int .i64 p1_0,.int .i64 p1_1,.string p1_2]] H Q :=
 wFun_sound (W:=W9 Try.prog) ok.tt (blt_lt (by kernel_rfl)) (ff_of ok (by kernel_rfl) Try.func9) (Eq.mpr (by kernel_rfl) h)
def W10 (P:Program):WE:=⟨env P,tupT,[3],mkTab [],10⟩
def vc10 (p0:ByteArray) (p1_0 p1_1:Int) (p1_2:ByteArray) (H:KH) (Q:PQ):Prop :=
 Does (env Try.prog) 20 [.int .i64 (((ByteArray.size p0):Nat):Int),.agg #[.int .i64 p1_0,.int .i64 p1_1,.string p1_2]] H fun c b=>∃ (a:Bool),c=(.bool a)/\((!a)=true->Q (.tuple #[.string (ByteArray.mk #[]),.bool false]) b)/\((!a)=false->True/\((0:Int)<=0/\(0:Int)<=p1_0/\p1_0<=(((ByteArray.size p0):Nat):Int))/\(((ByteArray.size (strCut p0 0 p1_0))+(ByteArray.size p1_2)):Nat)<=1000000/\((0:Int)<=(IntKind.wrap .i64 (p1_0+p1_1))/\((IntKind.wrap .i64 (p1_0+p1_1)):Int)<=(((ByteArray.size p0):Nat):Int)/\((((ByteArray.size p0):Nat):Int):Int)<=(((ByteArray.size p0):Nat):Int))/\(((ByteArray.size ((strCut p0 0 p1_0)++p1_2))+(ByteArray.size (strCut p0 (IntKind.wrap .i64 (p1_0+p1_1)) (((ByteArray.size p0):Nat):Int)))):Nat)<=1000000/\Q (.tuple #[.string (((strCut p0 0 p1_0)++p1_2)++(strCut p0 (IntKind.wrap .i64 (p1_0+p1_1)) (((ByteArray.size p0):Nat):Int))),.bool true]) b)
theorem fn10 (ok:EnvOk (env Try.prog)) {p0:ByteArray} {p1_0 p1_1:Int} {p1_2:ByteArray} {H:KH} {Q:PQ} (h:vc10 p0 p1_0 p1_1 p1_2 H Q):Does (env Try.prog) 10 [.string p0,.agg #[.int .i64 p1_0,.int .i64 p1_1,.string p1_2]] H Q :=
 wFun_sound (W:=W10 Try.prog) ok.tt (blt_lt (by kernel_rfl)) (ff_of ok (by kernel_rfl) Try.func10) (Eq.mpr (by kernel_rfl) h)
def W11 (P:Program):WE:=⟨env P,tupT,[4],mkTab [(2000007,[.tmp 1 .bool,.tmp 3 .bool]),(1000007,[.agg 7 [.bool false,.int .i64 0,.int .i64 0]])],11⟩
def vc11 (p0_0 p0_1:ByteArray) (p0_2:OA) (p0_2n p0_2c:Nat) (H:KH) (Q:PQ):Prop :=
 (∀ (e:Nat),((H e):(Option (Ent)))=none->∀ (d:Nat),(((KH.new H e (mkEnt (Array.toList #[Value.string p0_0,.string p0_1,.slice p0_2 p0_2n p0_2c]) 0)) d):(Option (Ent)))=none->∃ (k l:ByteArray) (m:(OA)) (n o:Nat),ld (KH.new (KH.new H e (mkEnt (Array.toList #[Value.string p0_0,.string p0_1,.slice p0_2 p0_2n p0_2c]) 0)) d (bldE 56 (1005-1000) d none)) ⟨e,0,none⟩ [.string k,.string l,.slice m n o]/\Does (env Try.prog) 21 [(.agg #[.string k,.string l,.slice m n o])] (KH.new (KH.new H e (mkEnt (Array.toList #[Value.string p0_0,.string p0_1,.slice p0_2 p0_2n p0_2c]) 0)) d (bldE 56 (1005-1000) d none)) fun ab y=>∃ (i:Nat) (p:(List Value)),ab=(.func (.func i) #[] (List.toArray p))/\FnIn (env Try.prog) i/\∀ (b:Nat) (f:Lp),((y b):(Option (Ent)))=none->(∀ (q:Bool) (a:Int) (c:Int) (g:KH) (r:(PQ)),((g b):(Option (Ent)))=(some (lpE f 0 none))->(True/\∃ (s t:ByteArray) (u:(OA)) (v w:Nat),ld (KH.del g b) ⟨e,0,none⟩ [.string s,.string t,.slice u v w]/\Does (env Try.prog) 23 [.agg #[.string s,.string t,.slice u v w],.agg #[.bool q,.int .i64 a,.int .i64 c]] (KH.del g b) fun ac ad=>∃ (j:ByteArray),ac=(.string j)/\(((4:Nat)=4/\((0+1):Nat)=(0+1))/\((.int .i64 a):Value)=(.int .i64 a)/\((4:Nat)=4/\((0+1):Nat)=(0+1))/\((.int .i64 a):Value)=(.int .i64 a)/\((4:Nat)=4/\((0+2):Nat)=(0+2))/\((.int .i64 c):Value)=(.int .i64 c)/\((.int .i64 (IntKind.wrap .i64 (a+c))):Value)=(.int .i64 (IntKind.wrap .i64 (a+c)))/\True)/\((0:Int)<=a/\a<=(IntKind.wrap .i64 (a+c))/\((IntKind.wrap .i64 (a+c)):Int)<=(((ByteArray.size j):Nat):Int))/\Does (env Try.prog) 22 [.pointer (some ⟨d,0,none⟩),.string (strCut j a (IntKind.wrap .i64 (a+c)))] ad fun ae z=>∃ (aa:Int),ae=(.tuple #[.int .i64 aa,Value.nilIface])/\True/\(((z b):(Option (Ent)))=none->r (.bool true) (KH.new z b (lpE f 0 none))))->DoesR (env Try.prog) b [(.agg #[.bool q,.int .i64 a,.int .i64 c])] g r)->Does (env Try.prog) i ([(.func (.yield b) #[] #[])]++p) (KH.new y b (lpE f 0 none)) fun ah h=>(((h b):(Option (Ent)))=(some (lpE f 0 none))/\Does (env Try.prog) 24 [(.pointer (some ⟨d,0,none⟩))] (KH.del h b) fun af ag=>∃ (x:ByteArray),af=(.string x)/\Q (.string x) ag)\/((((h b):(Option (Ent)))=(some (lpE f 2 (some .ret)))/\Q (.string (ByteArray.mk #[])) (KH.del h b))\/False))
theorem fn11 (ok:EnvOk (env Try.prog)) {p0_0 p0_1:ByteArray} {p0_2:OA} {p0_2n p0_2c:Nat} {H:KH} {Q:PQ} (h:vc11 p0_0 p0_1 p0_2 p0_2n p0_2c H Q):Does (env Try.prog) 11 [.agg #[.string p0_0,.string p0_1,.slice p0_2 p0_2n p0_2c]] H Q :=
 wFun_sound (W:=W11 Try.prog) ok.tt (blt_lt (by kernel_rfl)) (ff_of ok (by kernel_rfl) Try.func11) (Eq.mpr (by kernel_rfl) h)
def W12 (P:Program):WE:=⟨env P,tupT,[1,4],mkTab [(2000007,[.tmp 3 .bool]),(1000007,[.agg 7 [.bool false,.int .i64 0,.int .i64 0]])],12⟩
def vc12 (p0_0 p0_1:ByteArray) (p0_2:OA) (p0_2n p0_2c:Nat) (H:KH) (Q:PQ):Prop :=
 (∀ (b:Nat),((H b):(Option (Ent)))=none->(∃ (i:(List Value)),((List.length i):Nat)=(List.length [(Value.int .i64 0)])/\ld (KH.new H b (mkEnt [(.int .i64 0)] 0)) ⟨b,0,none⟩ i)/\KH.may (KH.new H b (mkEnt [(.int .i64 0)] 0)) b/\Does (env Try.prog) 21 [(.agg #[.string p0_0,.string p0_1,.slice p0_2 p0_2n p0_2c])] (KH.put (KH.new H b (mkEnt [(.int .i64 0)] 0)) ⟨b,0,none⟩ [(.int .i64 0)]) fun q n=>∃ (h:Nat) (j:(List Value)),q=(.func (.func h) #[] (List.toArray j))/\FnIn (env Try.prog) h/\∀ (a:Nat) (d:Lp),((n a):(Option (Ent)))=none->(∀ (o:Bool) (p:Int) (f:Int) (c:KH) (k:(PQ)),((c a):(Option (Ent)))=(some (lpE d 0 none))->(∃ (g:Int),ld (KH.del c a) ⟨b,0,none⟩ [(.int .i64 g)]/\(∃ (l:(List Value)),((List.length l):Nat)=(List.length [(Value.int .i64 (IntKind.wrap .i64 (g+f)))])/\ld (KH.del c a) ⟨b,0,none⟩ l)/\KH.may (KH.del c a) b/\((((KH.put (KH.del c a) ⟨b,0,none⟩ [(.int .i64 (IntKind.wrap .i64 (g+f)))]) a):(Option (Ent)))=none->k (.bool true) (KH.new (KH.put (KH.del c a) ⟨b,0,none⟩ [(.int .i64 (IntKind.wrap .i64 (g+f)))]) a (lpE d 0 none))))->DoesR (env Try.prog) a [(.agg #[.bool o,.int .i64 p,.int .i64 f])] c k)->Does (env Try.prog) h ([(.func (.yield a) #[] #[])]++j) (KH.new n a (lpE d 0 none)) fun r e=>(((e a):(Option (Ent)))=(some (lpE d 0 none))/\∃ (m:Int),ld (KH.del e a) ⟨b,0,none⟩ [(.int .i64 m)]/\Q (.int .i64 m) (KH.del e a))\/((((e a):(Option (Ent)))=(some (lpE d 2 (some .ret)))/\Q (.int .i64 0) (KH.del e a))\/False))
theorem fn12 (ok:EnvOk (env Try.prog)) {p0_0 p0_1:ByteArray} {p0_2:OA} {p0_2n p0_2c:Nat} {H:KH} {Q:PQ} (h:vc12 p0_0 p0_1 p0_2 p0_2n p0_2c H Q):Does (env Try.prog) 12 [.agg #[.string p0_0,.string p0_1,.slice p0_2 p0_2n p0_2c]] H Q :=
 wFun_sound (W:=W12 Try.prog) ok.tt (blt_lt (by kernel_rfl)) (ff_of ok (by kernel_rfl) Try.func12) (Eq.mpr (by kernel_rfl) h)
def W13 (P:Program):WE:=⟨env P,tupT,[1,4],mkTab [(0,[.ref 1 1 0,.box 1 [.string ⟨#[]⟩,.string ⟨#[]⟩,.slice none 0 0],.tmp 6 .slice,.tmp 7 (.int .i64),.tmp 8 (.int .i64)])],13⟩
def vc13_L1 (y1 y2:ByteArray) (y3:OA) (y4 y5:Nat) (y6:KH) (y7:PQ):Prop :=
 (∃ (d:(Nat->ByteArray->ByteArray->OA->Nat->Nat->OA->Nat->Nat->Int->Int->KH->Prop)),(∃ (v:Nat),d v y1 y2 y3 y4 y5 y3 y4 y5 (y4:Int) 0 y6)/\∀ (m:Nat) (e f:ByteArray) (g:(OA)) (h i:Nat) (j:(OA)) (k n:Nat) (b a:Int) (c:KH),d m e f g h i j k n b a c->(decide (a<b)=true->((0:Int)<=a/\a<(k:Int))/\∃ (o p:Nat),j=some ⟨o,p,none⟩/\∃ (q:Bool) (r s:Int),ld c ⟨o,p+((Int.toNat a)*3),none⟩ [.bool q,.int .i64 r,.int .i64 s]/\Does (env Try.prog) 25 [.agg #[.string e,.string f,.slice g h i],.agg #[.bool q,.int .i64 r,.int .i64 s]] c fun w u=>∃ (l:Bool),w=(.bool l)/\((!l)=true->y7 (.bool false) u)/\((!l)=false->∃ (t:Nat),(t:Nat)<m/\d t e f g h i j k n b (IntKind.wrap .i64 (a+1)) u))/\(decide (a<b)=false->y7 (.bool true) c))
def vc13 (p0_0 p0_1:ByteArray) (p0_2:OA) (p0_2n p0_2c:Nat) (H:KH) (Q:PQ):Prop :=
 (vc13_L1 p0_0 p0_1 p0_2 p0_2n p0_2c H Q)
theorem fn13 (ok:EnvOk (env Try.prog)) {p0_0 p0_1:ByteArray} {p0_2:OA} {p0_2n p0_2c:Nat} {H:KH} {Q:PQ} (h:vc13 p0_0 p0_1 p0_2 p0_2n p0_2c H Q):Does (env Try.prog) 13 [.agg #[.string p0_0,.string p0_1,.slice p0_2 p0_2n p0_2c]] H Q :=
 wFun_sound (W:=W13 Try.prog) ok.tt (blt_lt (by kernel_rfl)) (ff_of ok (by kernel_rfl) Try.func13) (Eq.mpr (by kernel_rfl) h)
def W15 (P:Program):WE:=⟨env P,tupT,[3],mkTab [],15⟩
def vc15 (p0:OA) (p0n p0c:Nat) (p1_0:Bool) (p1_1 p1_2:Int) (H:KH) (Q:PQ):Prop :=
 ((decide (p1_2=0)=true->Q (.slice p0 p0n p0c) H)/\(decide (p1_2=0)=false->∀ (a:Nat),((H a):(Option (Ent)))=none->∀ (b:Nat),(((KH.new H a (mkEnt [.bool p1_0,.int .i64 p1_1,.int .i64 p1_2] 0)) b):(Option (Ent)))=none->∃ (c:Nat) (d:(List Value)),((knew (KH.new H a (mkEnt [.bool p1_0,.int .i64 p1_1,.int .i64 p1_2] 0)) ⟨3,24,true,3,0,0,[(0,1),(1,1),(2,1)],[.bool false,.int .i64 0,.int .i64 0]⟩ (.slice (some ⟨a,0,none⟩) 1 1)):(Option (Nat × (List Value))))=(some (c,d))/\∃ (e:(OA)) (f g:Nat) (h:KH),((kappend (KH.new H a (mkEnt [.bool p1_0,.int .i64 p1_1,.int .i64 p1_2] 0)) b ⟨3,24,true,3,0,0,[(0,1),(1,1),(2,1)],[.bool false,.int .i64 0,.int .i64 0]⟩ p0 p0n p0c c d):(Option (Value × KH)))=(some (.slice e f g,h))/\Q (.slice e f g) h))
theorem fn15 (ok:EnvOk (env Try.prog)) {p0:OA} {p0n p0c:Nat} {p1_0:Bool} {p1_1 p1_2:Int} {H:KH} {Q:PQ} (h:vc15 p0 p0n p0c p1_0 p1_1 p1_2 H Q):Does (env Try.prog) 15 [.slice p0 p0n p0c,.agg #[.bool p1_0,.int .i64 p1_1,.int .i64 p1_2]] H Q :=
 wFun_sound (W:=W15 Try.prog) ok.tt (blt_lt (by kernel_rfl)) (ff_of ok (by kernel_rfl) Try.func15) (Eq.mpr (by kernel_rfl) h)
def W16 (P:Program):WE:=⟨env P,tupT,[],mkTab [],16⟩
def vc16 (p0 p1 p2:Int) (H:KH) (Q:PQ):Prop :=
 ((decide ((0:Int)<=p0)=true->(decide ((0:Int)<=p1)=true->Q (.bool (decide (p1<=(IntKind.wrap .i64 (p2-p0))))) H)/\(decide ((0:Int)<=p1)=false->Q (.bool false) H))/\(decide ((0:Int)<=p0)=false->Q (.bool false) H))
theorem fn16 (ok:EnvOk (env Try.prog)) {p0 p1 p2:Int} {H:KH} {Q:PQ} (h:vc16 p0 p1 p2 H Q):Does (env Try.prog) 16 [.int .i64 p0,.int .i64 p1,.int .i64 p2] H Q :=
 wFun_sound (W:=W16 Try.prog) ok.tt (blt_lt (by kernel_rfl)) (ff_of ok (by kernel_rfl) Try.func16) (Eq.mpr (by kernel_rfl) h)
def W17 (P:Program):WE:=⟨env P,tupT,[],mkTab [],17⟩
def vc17 (p0:OA) (p0n p0c:Nat) (H:KH) (Q:PQ):Prop :=
 ((((Option.isNone p0):Bool)=true->Q (.slice none 0 0) H)/\(((Option.isNone p0):Bool)=false->∀ (a:Nat),((H a):(Option (Ent)))=none->∀ (b:Nat),(((KH.new H a (mkEnt (lrep [.bool false,.int .i64 0,.int .i64 0] 0) 0)) b):(Option (Ent)))=none->∃ (c:Nat) (d:(List Value)),((knew (KH.new H a (mkEnt (lrep [.bool false,.int .i64 0,.int .i64 0] 0) 0)) ⟨3,24,true,3,0,0,[(0,1),(1,1),(2,1)],[.bool false,.int .i64 0,.int .i64 0]⟩ (.slice p0 p0n p0c)):(Option (Nat × (List Value))))=(some (c,d))/\∃ (e:(OA)) (f g:Nat) (h:KH),((kappend (KH.new H a (mkEnt (lrep [.bool false,.int .i64 0,.int .i64 0] 0) 0)) b ⟨3,24,true,3,0,0,[(0,1),(1,1),(2,1)],[.bool false,.int .i64 0,.int .i64 0]⟩ (some ⟨a,0,none⟩) 0 0 c d):(Option (Value × KH)))=(some (.slice e f g,h))/\Q (.slice e f g) h))
theorem fn17 (ok:EnvOk (env Try.prog)) {p0:OA} {p0n p0c:Nat} {H:KH} {Q:PQ} (h:vc17 p0 p0n p0c H Q):Does (env Try.prog) 17 [.slice p0 p0n p0c] H Q :=
 wFun_sound (W:=W17 Try.prog) ok.tt (blt_lt (by kernel_rfl)) (ff_of ok (by kernel_rfl) Try.func17) (Eq.mpr (by kernel_rfl) h)
def W18 (P:Program):WE:=⟨env P,tupT,[],mkTab [],18⟩
def vc18 (p0 p1:ByteArray) (H:KH) (Q:PQ):Prop :=
 (∀ (a:Nat),((H a):(Option (Ent)))=none->Does (env Try.prog) 22 [.pointer (some ⟨a,0,none⟩),.string p0] (KH.new H a (bldE 56 (1005-1000) a none)) fun e f=>∃ (c:Int),e=(.tuple #[.int .i64 c,Value.nilIface])/\Does (env Try.prog) 22 [.pointer (some ⟨a,0,none⟩),.string p1] f fun g h=>∃ (d:Int),g=(.tuple #[.int .i64 d,Value.nilIface])/\Does (env Try.prog) 24 [(.pointer (some ⟨a,0,none⟩))] h fun i j=>∃ (b:ByteArray),i=(.string b)/\Q (.string b) j)
theorem fn18 (ok:EnvOk (env Try.prog)) {p0 p1:ByteArray} {H:KH} {Q:PQ} (h:vc18 p0 p1 H Q):Does (env Try.prog) 18 [.string p0,.string p1] H Q :=
 wFun_sound (W:=W18 Try.prog) ok.tt (blt_lt (by kernel_rfl)) (ff_of ok (by kernel_rfl) Try.func18) (Eq.mpr (by kernel_rfl) h)
def W19 (P:Program):WE:=⟨env P,tupT,[2,3],mkTab [],19⟩
def vc19 (p0_0 p0_1:ByteArray) (p0_2:OA) (p0_2n p0_2c:Nat) (p1_0 p1_1:Int) (p1_2:ByteArray) (H:KH) (Q:PQ):Prop :=
 Does (env Try.prog) 28 [.agg #[.string p0_0,.string p0_1,.slice p0_2 p0_2n p0_2c],.int .i64 0,.int .i64 p1_0] H fun o p=>∃ (d:Nat) (e:(List Value)),o=(.func (.func d) #[] (List.toArray e))/\Does (env Try.prog) 27 [(.func (.func d) #[] (List.toArray e))] p fun q r=>∃ (f:(OA)) (g h:Nat),q=(.slice f g h)/\Does (env Try.prog) 15 [.slice f g h,.agg #[.bool true,.int .i64 (((ByteArray.size p0_1):Nat):Int),.int .i64 (((ByteArray.size p1_2):Nat):Int)]] r fun s t=>∃ (a:(OA)) (b c:Nat),s=(.slice a b c)/\True/\Does (env Try.prog) 12 [(.agg #[.string p0_0,.string p0_1,.slice p0_2 p0_2n p0_2c])] t fun u v=>∃ (i:Int),u=(.int .i64 i)/\(((.slice a b c):Value)=(.slice a b c)/\((.agg #[.string p0_0,.string p0_1,.slice p0_2 p0_2n p0_2c]):Value)=(.agg #[.string p0_0,.string p0_1,.slice p0_2 p0_2n p0_2c])/\((3:Nat)=3/\((0+0):Nat)=(0+0))/\((.int .i64 p1_0):Value)=(.int .i64 p1_0)/\((3:Nat)=3/\((0+1):Nat)=(0+1))/\((.int .i64 p1_1):Value)=(.int .i64 p1_1)/\((.int .i64 (IntKind.wrap .i64 (p1_0+p1_1))):Value)=(.int .i64 (IntKind.wrap .i64 (p1_0+p1_1)))/\True)/\Does (env Try.prog) 28 [.agg #[.string p0_0,.string p0_1,.slice p0_2 p0_2n p0_2c],.int .i64 (IntKind.wrap .i64 (p1_0+p1_1)),.int .i64 i] v fun w x=>∃ (j:Nat) (k:(List Value)),w=(.func (.func j) #[] (List.toArray k))/\(((.slice a b c):Value)=(.slice a b c)/\True)/\Does (env Try.prog) 29 [.slice a b c,.func (.func j) #[] (List.toArray k)] x fun y z=>∃ (l:(OA)) (m n:Nat),y=(.slice l m n)/\True/\Q (.slice l m n) z
theorem fn19 (ok:EnvOk (env Try.prog)) {p0_0 p0_1:ByteArray} {p0_2:OA} {p0_2n p0_2c:Nat} {p1_0 p1_1:Int} {p1_2:ByteArray} {H:KH} {Q:PQ} (h:vc19 p0_0 p0_1 p0_2 p0_2n p0_2c p1_0 p1_1 p1_2 H Q):Does (env Try.prog) 19 [.agg #[.string p0_0,.string p0_1,.slice p0_2 p0_2n p0_2c],.agg #[.int .i64 p1_0,.int .i64 p1_1,.string p1_2]] H Q :=
 wFun_sound (W:=W19 Try.prog) ok.tt (blt_lt (by kernel_rfl)) (ff_of ok (by kernel_rfl) Try.func19) (Eq.mpr (by kernel_rfl) h)
def W20 (P:Program):WE:=⟨env P,tupT,[3],mkTab [],20⟩
def vc20 (p0 p1_0 p1_1:Int) (p1_2:ByteArray) (H:KH) (Q:PQ):Prop :=
 ((decide ((0:Int)<=p1_0)=true->(decide (p1_0<=p0)=true->(decide ((0:Int)<=p1_1)=true->Q (.bool (decide (p1_1<=(IntKind.wrap .i64 (p0-p1_0))))) H)/\(decide ((0:Int)<=p1_1)=false->Q (.bool false) H))/\(decide (p1_0<=p0)=false->Q (.bool false) H))/\(decide ((0:Int)<=p1_0)=false->Q (.bool false) H))
theorem fn20 (ok:EnvOk (env Try.prog)) {p0 p1_0 p1_1:Int} {p1_2:ByteArray} {H:KH} {Q:PQ} (h:vc20 p0 p1_0 p1_1 p1_2 H Q):Does (env Try.prog) 20 [.int .i64 p0,.agg #[.int .i64 p1_0,.int .i64 p1_1,.string p1_2]] H Q :=
 wFun_sound (W:=W20 Try.prog) ok.tt (blt_lt (by kernel_rfl)) (ff_of ok (by kernel_rfl) Try.func20) (Eq.mpr (by kernel_rfl) h)
def W21 (P:Program):WE:=⟨env P,tupT,[],mkTab [],21⟩
def vc21 (p0_0 p0_1:ByteArray) (p0_2:OA) (p0_2n p0_2c:Nat) (H:KH) (Q:PQ):Prop :=
 (∀ (a:Nat),((H a):(Option (Ent)))=none->Q (.func (.func 30) #[] #[(.pointer (some ⟨a,0,none⟩))]) (KH.new H a (mkEnt (Array.toList #[Value.string p0_0,.string p0_1,.slice p0_2 p0_2n p0_2c]) 0)))
theorem fn21 (ok:EnvOk (env Try.prog)) {p0_0 p0_1:ByteArray} {p0_2:OA} {p0_2n p0_2c:Nat} {H:KH} {Q:PQ} (h:vc21 p0_0 p0_1 p0_2 p0_2n p0_2c H Q):Does (env Try.prog) 21 [.agg #[.string p0_0,.string p0_1,.slice p0_2 p0_2n p0_2c]] H Q :=
 wFun_sound (W:=W21 Try.prog) ok.tt (blt_lt (by kernel_rfl)) (ff_of ok (by kernel_rfl) Try.func21) (Eq.mpr (by kernel_rfl) h)
def W23 (P:Program):WE:=⟨env P,tupT,[2,3],mkTab [],23⟩
def vc23 (p0_0 p0_1:ByteArray) (p0_2:OA) (p0_2n p0_2c:Nat) (p1_0:Bool) (p1_1 p1_2:Int) (H:KH) (Q:PQ):Prop :=
 ((p1_0=true->Q (.string p0_1) H)/\(p1_0=false->Q (.string p0_0) H))
theorem fn23 (ok:EnvOk (env Try.prog)) {p0_0 p0_1:ByteArray} {p0_2:OA} {p0_2n p0_2c:Nat} {p1_0:Bool} {p1_1 p1_2:Int} {H:KH} {Q:PQ} (h:vc23 p0_0 p0_1 p0_2 p0_2n p0_2c p1_0 p1_1 p1_2 H Q):Does (env Try.prog) 23 [.agg #[.string p0_0,.string p0_1,.slice p0_2 p0_2n p0_2c],.agg #[.bool p1_0,.int .i64 p1_1,.int .i64 p1_2]] H Q :=
 wFun_sound (W:=W23 Try.prog) ok.tt (blt_lt (by kernel_rfl)) (ff_of ok (by kernel_rfl) Try.func23) (Eq.mpr (by kernel_rfl) h)
def W25 (P:Program):WE:=⟨env P,tupT,[2,3],mkTab [],25⟩
def vc25 (p0_0 p0_1:ByteArray) (p0_2:OA) (p0_2n p0_2c:Nat) (p1_0:Bool) (p1_1 p1_2:Int) (H:KH) (Q:PQ):Prop :=
 (True/\(decide ((1:Int)<=p1_2)=true->Does (env Try.prog) 23 [.agg #[.string p0_0,.string p0_1,.slice p0_2 p0_2n p0_2c],.agg #[.bool p1_0,.int .i64 p1_1,.int .i64 p1_2]] H fun c d=>∃ (a:ByteArray),c=(.string a)/\(((3:Nat)=3/\((0+1):Nat)=(0+1))/\((.int .i64 p1_1):Value)=(.int .i64 p1_1)/\((3:Nat)=3/\((0+2):Nat)=(0+2))/\((.int .i64 p1_2):Value)=(.int .i64 p1_2)/\True)/\Does (env Try.prog) 16 [.int .i64 p1_1,.int .i64 p1_2,.int .i64 (((ByteArray.size a):Nat):Int)] d fun e f=>∃ (b:Bool),e=(.bool b)/\True/\Q (.bool b) f)/\(decide ((1:Int)<=p1_2)=false->(True/\True/\True/\True/\True)/\True/\Q (.bool false) H))
theorem fn25 (ok:EnvOk (env Try.prog)) {p0_0 p0_1:ByteArray} {p0_2:OA} {p0_2n p0_2c:Nat} {p1_0:Bool} {p1_1 p1_2:Int} {H:KH} {Q:PQ} (h:vc25 p0_0 p0_1 p0_2 p0_2n p0_2c p1_0 p1_1 p1_2 H Q):Does (env Try.prog) 25 [.agg #[.string p0_0,.string p0_1,.slice p0_2 p0_2n p0_2c],.agg #[.bool p1_0,.int .i64 p1_1,.int .i64 p1_2]] H Q :=
 wFun_sound (W:=W25 Try.prog) ok.tt (blt_lt (by kernel_rfl)) (ff_of ok (by kernel_rfl) Try.func25) (Eq.mpr (by kernel_rfl) h)
def W27 (P:Program):WE:=⟨env P,tupT,[],mkTab [],27⟩
def vc27 (p0:Nat) (p0k:(List Value)) (H:KH) (Q:PQ):Prop :=
 Does (env Try.prog) 29 [.slice none 0 0,.func (.func p0) #[] (List.toArray p0k)] H fun d e=>∃ (a:(OA)) (b c:Nat),d=(.slice a b c)/\Q (.slice a b c) e
theorem fn27 (ok:EnvOk (env Try.prog)) {p0:Nat} {p0k:List Value} {H:KH} {Q:PQ} (h:vc27 p0 p0k H Q):Does (env Try.prog) 27 [.func (.func p0) #[] (List.toArray p0k)] H Q :=
 wFun_sound (W:=W27 Try.prog) ok.tt (blt_lt (by kernel_rfl)) (ff_of ok (by kernel_rfl) Try.func27) (Eq.mpr (by kernel_rfl) h)
def W28 (P:Program):WE:=⟨env P,tupT,[],mkTab [],28⟩
def vc28 (p0_0 p0_1:ByteArray) (p0_2:OA) (p0_2n p0_2c:Nat) (p1 p2:Int) (H:KH) (Q:PQ):Prop :=
 (∀ (a:Nat),((H a):(Option (Ent)))=none->∀ (b:Nat),(((KH.new H a (mkEnt (Array.toList #[Value.string p0_0,.string p0_1,.slice p0_2 p0_2n p0_2c]) 0)) b):(Option (Ent)))=none->∀ (c:Nat),(((KH.new (KH.new H a (mkEnt (Array.toList #[Value.string p0_0,.string p0_1,.slice p0_2 p0_2n p0_2c]) 0)) b (mkEnt [(.int .i64 p1)] 0)) c):(Option (Ent)))=none->Q (.func (.func 32) #[] #[.pointer (some ⟨a,0,none⟩),.pointer (some ⟨b,0,none⟩),.pointer (some ⟨c,0,none⟩)]) (KH.new (KH.new (KH.new H a (mkEnt (Array.toList #[Value.string p0_0,.string p0_1,.slice p0_2 p0_2n p0_2c]) 0)) b (mkEnt [(.int .i64 p1)] 0)) c (mkEnt [(.int .i64 p2)] 0)))
theorem fn28 (ok:EnvOk (env Try.prog)) {p0_0 p0_1:ByteArray} {p0_2:OA} {p0_2n p0_2c:Nat} {p1 p2:Int} {H:KH} {Q:PQ} (h:vc28 p0_0 p0_1 p0_2 p0_2n p0_2c p1 p2 H Q):Does (env Try.prog) 28 [.agg #[.string p0_0,.string p0_1,.slice p0_2 p0_2n p0_2c],.int .i64 p1,.int .i64 p2] H Q :=
 wFun_sound (W:=W28 Try.prog) ok.tt (blt_lt (by kernel_rfl)) (ff_of ok (by kernel_rfl) Try.func28) (Eq.mpr (by kernel_rfl) h)
def W29 (P:Program):WE:=⟨env P,tupT,[5],mkTab [(2000007,[.tmp 2 .bool]),(1000007,[.agg 7 [.bool false,.int .i64 0,.int .i64 0]])],29⟩
def vc29 (p0:OA) (p0n p0c p1:Nat) (p1k:(List Value)) (H:KH) (Q:PQ):Prop :=
 (∀ (b:Nat),((H b):(Option (Ent)))=none->FnIn (env Try.prog) p1/\∀ (a:Nat) (d:Lp),(((KH.new H b (mkEnt [(.slice p0 p0n p0c)] 0)) a):(Option (Ent)))=none->(∀ (h:Bool) (i:Int) (j:Int) (c:KH) (n:(PQ)),((c a):(Option (Ent)))=(some (lpE d 0 none))->(∃ (o:(OA)) (p q:Nat),ld (KH.del c a) ⟨b,0,none⟩ [(.slice o p q)]/\∀ (e:Nat),(((KH.del c a) e):(Option (Ent)))=none->∀ (r:Nat),(((KH.new (KH.del c a) e (mkEnt [.bool h,.int .i64 i,.int .i64 j] 0)) r):(Option (Ent)))=none->∃ (s:Nat) (t:(List Value)),((knew (KH.new (KH.del c a) e (mkEnt [.bool h,.int .i64 i,.int .i64 j] 0)) ⟨3,24,true,3,0,0,[(0,1),(1,1),(2,1)],[.bool false,.int .i64 0,.int .i64 0]⟩ (.slice (some ⟨e,0,none⟩) 1 1)):(Option (Nat × (List Value))))=(some (s,t))/\∃ (k:(OA)) (l m:Nat) (f:KH),((kappend (KH.new (KH.del c a) e (mkEnt [.bool h,.int .i64 i,.int .i64 j] 0)) r ⟨3,24,true,3,0,0,[(0,1),(1,1),(2,1)],[.bool false,.int .i64 0,.int .i64 0]⟩ o p q s t):(Option (Value × KH)))=(some (.slice k l m,f))/\(∃ (u:(List Value)),((List.length u):Nat)=(List.length [(Value.slice k l m)])/\ld f ⟨b,0,none⟩ u)/\KH.may f b/\((((KH.put f ⟨b,0,none⟩ [(.slice k l m)]) a):(Option (Ent)))=none->n (.bool true) (KH.new (KH.put f ⟨b,0,none⟩ [(.slice k l m)]) a (lpE d 0 none))))->DoesR (env Try.prog) a [(.agg #[.bool h,.int .i64 i,.int .i64 j])] c n)->Does (env Try.prog) p1 ([(.func (.yield a) #[] #[])]++p1k) (KH.new (KH.new H b (mkEnt [(.slice p0 p0n p0c)] 0)) a (lpE d 0 none)) fun y g=>(((g a):(Option (Ent)))=(some (lpE d 0 none))/\∃ (v:(OA)) (w x:Nat),ld (KH.del g a) ⟨b,0,none⟩ [(.slice v w x)]/\Q (.slice v w x) (KH.del g a))\/((((g a):(Option (Ent)))=(some (lpE d 2 (some .ret)))/\Q (.slice none 0 0) (KH.del g a))\/False))
theorem fn29 (ok:EnvOk (env Try.prog)) {p0:OA} {p0n p0c p1:Nat} {p1k:List Value} {H:KH} {Q:PQ} (h:vc29 p0 p0n p0c p1 p1k H Q):Does (env Try.prog) 29 [.slice p0 p0n p0c,.func (.func p1) #[] (List.toArray p1k)] H Q :=
 wFun_sound (W:=W29 Try.prog) ok.tt (blt_lt (by kernel_rfl)) (ff_of ok (by kernel_rfl) Try.func29) (Eq.mpr (by kernel_rfl) h)
def W30 (P:Program):WE:=⟨env P,tupT,[4],mkTab [(0,[.tmp 0 .yld,.tmp 1 .ptr,.tmp 6 .slice,.tmp 7 (.int .i64),.tmp 8 (.int .i64)]),(3000000,[])],30⟩
def vc30_L1 (y1 y2 y3:Nat) (y4:OA) (y5 y6:Nat) (y7:KH) (y8:PQ):Prop :=
 (∃ (d:(Nat->Nat->Nat->Nat->OA->Nat->Nat->Int->Int->KH->Prop)),(∃ (ab:Nat),(none:(Option Nat))=none/\d ab y1 y2 y3 y4 y5 y6 (y5:Int) 0 y7)/\∀ (j e f g:Nat) (h:(OA)) (i k:Nat) (b a:Int) (c:KH),d j e f g h i k b a c->(decide (a<b)=true->((0:Int)<=a/\a<(i:Int))/\∃ (q r:Nat),h=some ⟨q,r,none⟩/\∃ (l:Bool) (m n:Int),ld c ⟨q,r+((Int.toNat a)*3),none⟩ [.bool l,.int .i64 m,.int .i64 n]/\∃ (s t:ByteArray) (u:(OA)) (v w:Nat),ld c ⟨f,g,none⟩ [.string s,.string t,.slice u v w]/\Does (env Try.prog) 25 [.agg #[.string s,.string t,.slice u v w],.agg #[.bool l,.int .i64 m,.int .i64 n]] c fun ac z=>∃ (o:Bool),ac=(.bool o)/\(o=true->DoesR (env Try.prog) e [(.agg #[.bool l,.int .i64 m,.int .i64 n])] z fun ad aa=>∃ (p:Bool),ad=(.bool p)/\((!p)=true->y8 (.tuple #[]) aa)/\((!p)=false->∃ (x:Nat),(x:Nat)<j/\(none:(Option Nat))=none/\d x e f g h i k b (IntKind.wrap .i64 (a+1)) aa))/\(o=false->∃ (y:Nat),(y:Nat)<j/\(none:(Option Nat))=none/\d y e f g h i k b (IntKind.wrap .i64 (a+1)) z))/\(decide (a<b)=false->y8 (.tuple #[]) c))
def vc30 (p0 k0b k0o:Nat) (H:KH) (Q:PQ):Prop :=
 ((none:(Option Nat))=none/\∃ (a:(OA)) (b c:Nat),ld H ⟨k0b,k0o+2,none⟩ [(.slice a b c)]/\vc30_L1 p0 k0b k0o a b c H Q)
theorem fn30 (ok:EnvOk (env Try.prog)) {p0 k0b k0o:Nat} {H:KH} {Q:PQ} (h:vc30 p0 k0b k0o H Q):Does (env Try.prog) 30 [.func (.yield p0) #[] #[],.pointer (some ⟨k0b,k0o,none⟩)] H Q :=
 wFun_sound (W:=W30 Try.prog) ok.tt (blt_lt (by kernel_rfl)) (ff_of ok (by kernel_rfl) Try.func30) (Eq.mpr (by kernel_rfl) h)
def W32 (P:Program):WE:=⟨env P,tupT,[6],mkTab [(2000011,[.tmp 2 .bool,.tmp 3 .bool,.tmp 4 .bool,.tmp 5 .bool]),(1000011,[.agg 11 [.bool false,.int .i64 0,.int .i64 0]]),(3000000,[])],32⟩
def vc32 (p0 k0b k0o k1b k1o k2b k2o:Nat) (H:KH) (Q:PQ):Prop :=
 (∀ (e:Nat),((H e):(Option (Ent)))=none->∀ (b:Nat),(((KH.new H e (mkEnt [(.func (.yield p0) #[] #[])] 0)) b):(Option (Ent)))=none->(∃ (q:(List Value)),((List.length q):Nat)=(List.length [(Value.int .i64 0)])/\ld (KH.new (KH.new H e (mkEnt [(.func (.yield p0) #[] #[])] 0)) b (mkEnt [(.int .i64 0)] 0)) ⟨b,0,none⟩ q)/\KH.may (KH.new (KH.new H e (mkEnt [(.func (.yield p0) #[] #[])] 0)) b (mkEnt [(.int .i64 0)] 0)) b/\∃ (r s:ByteArray) (t:(OA)) (u v:Nat),ld (KH.put (KH.new (KH.new H e (mkEnt [(.func (.yield p0) #[] #[])] 0)) b (mkEnt [(.int .i64 0)] 0)) ⟨b,0,none⟩ [(.int .i64 0)]) ⟨k0b,k0o,none⟩ [.string r,.string s,.slice t u v]/\Does (env Try.prog) 21 [(.agg #[.string r,.string s,.slice t u v])] (KH.put (KH.new (KH.new H e (mkEnt [(.func (.yield p0) #[] #[])] 0)) b (mkEnt [(.int .i64 0)] 0)) ⟨b,0,none⟩ [(.int .i64 0)]) fun ac ab=>∃ (o:Nat) (w:(List Value)),ac=(.func (.func o) #[] (List.toArray w))/\FnIn (env Try.prog) o/\∀ (a:Nat) (f:Lp),((ab a):(Option (Ent)))=none->(∀ (x:Bool) (y:Int) (d:Int) (c:KH) (j:(PQ)),((c a):(Option (Ent)))=(some (lpE f 0 none))->(True/\∃ (h:Int),ld (KH.del c a) ⟨k1b,k1o,none⟩ [(.int .i64 h)]/\∃ (i:Int),ld (KH.del c a) ⟨b,0,none⟩ [(.int .i64 i)]/\∃ (k:Int),ld (KH.del c a) ⟨k2b,k2o,none⟩ [(.int .i64 k)]/\∃ (l:Int),ld (KH.del c a) ⟨b,0,none⟩ [(.int .i64 l)]/\∃ (g:Int),ld (KH.del c a) ⟨b,0,none⟩ [(.int .i64 g)]/\(∃ (z:(List Value)),((List.length z):Nat)=(List.length [(Value.int .i64 (IntKind.wrap .i64 (g+d)))])/\ld (KH.del c a) ⟨b,0,none⟩ z)/\KH.may (KH.del c a) b/\(((decide (((max (IntKind.wrap .i64 (h-i)) 0):Int)<(min (IntKind.wrap .i64 (k-l)) d))):Bool)=true->∃ (aa:Nat),ld (KH.put (KH.del c a) ⟨b,0,none⟩ [(.int .i64 (IntKind.wrap .i64 (g+d)))]) ⟨e,0,none⟩ [(.func (.yield aa) #[] #[])]/\DoesR (env Try.prog) aa [(.agg #[.bool x,.int .i64 (IntKind.wrap .i64 (y+(max (IntKind.wrap .i64 (h-i)) 0))),.int .i64 (IntKind.wrap .i64 ((min (IntKind.wrap .i64 (k-l)) d)-(max (IntKind.wrap .i64 (h-i)) 0)))])] (KH.put (KH.del c a) ⟨b,0,none⟩ [(.int .i64 (IntKind.wrap .i64 (g+d)))]) fun ad m=>∃ (p:Bool),ad=(.bool p)/\((!p)=true->((m a):(Option (Ent)))=none->j (.bool false) (KH.new m a (lpE f 2 (some .ret))))/\((!p)=false->((m a):(Option (Ent)))=none->j (.bool true) (KH.new m a (lpE f 0 none))))/\(((decide (((max (IntKind.wrap .i64 (h-i)) 0):Int)<(min (IntKind.wrap .i64 (k-l)) d))):Bool)=false->(((KH.put (KH.del c a) ⟨b,0,none⟩ [(.int .i64 (IntKind.wrap .i64 (g+d)))]) a):(Option (Ent)))=none->j (.bool true) (KH.new (KH.put (KH.del c a) ⟨b,0,none⟩ [(.int .i64 (IntKind.wrap .i64 (g+d)))]) a (lpE f 0 none))))->DoesR (env Try.prog) a [(.agg #[.bool x,.int .i64 y,.int .i64 d])] c j)->Does (env Try.prog) o ([(.func (.yield a) #[] #[])]++w) (KH.new ab a (lpE f 0 none)) fun ae n=>(((n a):(Option (Ent)))=(some (lpE f 0 none))/\Q (.tuple #[]) (KH.del n a))\/((((n a):(Option (Ent)))=(some (lpE f 2 (some .ret)))/\Q (.tuple #[]) (KH.del n a))\/False))
theorem fn32 (ok:EnvOk (env Try.prog)) {p0 k0b k0o k1b k1o k2b k2o:Nat} {H:KH} {Q:PQ} (h:vc32 p0 k0b k0o k1b k1o k2b k2o H Q):Does (env Try.prog) 32 [.func (.yield p0) #[] #[],.pointer (some ⟨k0b,k0o,none⟩),.pointer (some ⟨k1b,k1o,none⟩),.pointer (some ⟨k2b,k2o,none⟩)] H Q :=
 wFun_sound (W:=W32 Try.prog) ok.tt (blt_lt (by kernel_rfl)) (ff_of ok (by kernel_rfl) Try.func32) (Eq.mpr (by kernel_rfl) h)
def W3 (P:Program):WE:=⟨env P,tupT,[5,8],mkTab [(0,[.tmp 0 .str,.tmp 1 .slice,.ref 5 5 0,.box 5 [.string ⟨#[]⟩,.string ⟨#[]⟩,.slice none 0 0],.tmp 6 .str,.tmp 7 (.int .i64)])],3⟩
def vc3_J3 (y1:Bool) (y2 y3:Nat) (y4:PQ) (y5:KH) (y6:Int) (y7:Nat) (y8:OA) (y9 y10 y11:ByteArray) (y12:OA) (y13:Nat) (y14:ByteArray) (y15:Nat) (y16:(Nat->(ByteArray->(OA->(Nat->(Nat->(ByteArray->(ByteArray->(OA->(Nat->(Nat->(ByteArray->(Int->(KH->Prop)))))))))))))) (y17:Nat) (y18:ByteArray):Prop :=
 ((y1=true->(((decide (((IntKind.wrap .i64 ((y2:Int)+2)):Int)<(y3:Int))):Bool)=true->y4 (.bool false) y5)/\(((decide (((IntKind.wrap .i64 ((y2:Int)+2)):Int)<(y3:Int))):Bool)=false->True/\((0:Int)<=y6/\y6<(y7:Int))/\∃ (j k:Nat),y8=some ⟨j,k,none⟩/\(none:(Option Nat))=none/\∃ (a:ByteArray),ld y5 ⟨j,(k+((Int.toNat y6)*3))+2,none⟩ [(.string a)]/\(((ByteArray.size y9)+(ByteArray.size a)):Nat)<=1000000/\Does (env Try.prog) 11 [(.agg #[.string y10,.string y11,.slice y12 y3 y13])] y5 fun r n=>∃ (b:ByteArray),r=(.string b)/\(((!(strEq b y14)):Bool)=true->y4 (.bool false) n)/\(((!(strEq b y14)):Bool)=false->Does (env Try.prog) 12 [(.agg #[.string y10,.string y11,.slice y12 y3 y13])] n fun s o=>∃ (c:Int),s=(.int .i64 c)/\(((decide (c≠(((ByteArray.size y14):Nat):Int))):Bool)=true->y4 (.bool false) o)/\(((decide (c≠(((ByteArray.size y14):Nat):Int))):Bool)=false->Does (env Try.prog) 13 [(.agg #[.string y10,.string y11,.slice y12 y3 y13])] o fun t h=>∃ (d:Bool),t=(.bool d)/\((!d)=true->y4 (.bool false) h)/\((!d)=false->(((!(strEq y11 (y9++a))):Bool)=true->y4 (.bool false) h)/\(((!(strEq y11 (y9++a))):Bool)=false->∃ (l:Nat),(l:Nat)<y15/\y16 l y14 y8 y7 y17 y10 y11 y12 y3 y13 (y9++a) (IntKind.wrap .i64 (y6+1)) h))))))/\(y1=false->Does (env Try.prog) 11 [(.agg #[.string y10,.string y11,.slice y12 y3 y13])] y5 fun u p=>∃ (e:ByteArray),u=(.string e)/\(((!(strEq e y18)):Bool)=true->y4 (.bool false) p)/\(((!(strEq e y18)):Bool)=false->Does (env Try.prog) 12 [(.agg #[.string y10,.string y11,.slice y12 y3 y13])] p fun v q=>∃ (f:Int),v=(.int .i64 f)/\(((decide (f≠(((ByteArray.size y18):Nat):Int))):Bool)=true->y4 (.bool false) q)/\(((decide (f≠(((ByteArray.size y18):Nat):Int))):Bool)=false->Does (env Try.prog) 13 [(.agg #[.string y10,.string y11,.slice y12 y3 y13])] q fun w i=>∃ (g:Bool),w=(.bool g)/\((!g)=true->y4 (.bool false) i)/\((!g)=false->(((!(strEq y11 y9)):Bool)=true->y4 (.bool false) i)/\(((!(strEq y11 y9)):Bool)=false->∃ (m:Nat),(m:Nat)<y15/\y16 m y18 y8 y7 y17 y10 y11 y12 y3 y13 y9 (IntKind.wrap .i64 (y6+1)) i))))))
def vc3_L6 (y1:ByteArray) (y2:OA) (y3 y4:Nat) (y5 y6:ByteArray) (y7:OA) (y8 y9:Nat) (y10:KH) (y11:PQ):Prop :=
 (∃ (h:(Nat->ByteArray->OA->Nat->Nat->ByteArray->ByteArray->OA->Nat->Nat->ByteArray->Int->KH->Prop)),(∃ (an:Nat),h an y1 y2 y3 y4 y5 y6 y7 y8 y9 (ByteArray.mk #[]) 0 y10)/\∀ (o:Nat) (d:ByteArray) (e:(OA)) (b p:Nat) (v w:ByteArray) (x:(OA)) (i y:Nat) (q:ByteArray) (a:Int),∀ (f:KH),h o d e b p v w x i y q a f->(decide (a<(b:Int))=true->((0:Int)<=a/\a<(b:Int))/\∃ (z aa:Nat),e=some ⟨z,aa,none⟩/\(none:(Option Nat))=none/\∃ (r:ByteArray),ld f ⟨z,(aa+((Int.toNat a)*3))+2,none⟩ [(.string r)]/\(((decide ((20:Int)<(((ByteArray.size r):Nat):Int))):Bool)=true->y11 (.bool true) f)/\(((decide ((20:Int)<(((ByteArray.size r):Nat):Int))):Bool)=false->True/\((0:Int)<=a/\a<(b:Int))/\∃ (ab ac:Nat),e=some ⟨ab,ac,none⟩/\∃ (ad ae:Int) (af:ByteArray),ld f ⟨ab,ac+((Int.toNat a)*3),none⟩ [.int .i64 ad,.int .i64 ae,.string af]/\Does (env Try.prog) 9 [.agg #[.string v,.string w,.slice x i y],.agg #[.int .i64 ad,.int .i64 ae,.string af]] f fun ao al=>∃ (j k:ByteArray) (l:(OA)) (m n:Nat) (g:Bool),ao=(.tuple #[.agg #[.string j,.string k,.slice l m n],.bool g])/\True/\(g=g/\True)/\((0:Int)<=a/\a<(b:Int))/\∃ (ag ah:Nat),e=some ⟨ag,ah,none⟩/\∃ (ai aj:Int) (ak:ByteArray),ld al ⟨ag,ah+((Int.toNat a)*3),none⟩ [.int .i64 ai,.int .i64 aj,.string ak]/\Does (env Try.prog) 10 [.string d,.agg #[.int .i64 ai,.int .i64 aj,.string ak]] al fun ap u=>∃ (s:ByteArray) (c:Bool),ap=(.tuple #[.string s,.bool c])/\(((!(g == c)):Bool)=true->y11 (.bool false) u)/\(((!(g == c)):Bool)=false->((!c)=true->Does (env Try.prog) 11 [(.agg #[.string j,.string k,.slice l m n])] u fun aq am=>∃ (t:ByteArray),aq=(.string t)/\(((!(strEq t d)):Bool)=true->y11 (.bool false) am)/\(((!(strEq t d)):Bool)=false->vc3_J3 c i m y11 am a b e q j k l n s o h p d))/\((!c)=false->vc3_J3 c i m y11 u a b e q j k l n s o h p d))))/\(decide (a<(b:Int))=false->y11 (.bool true) f))
def vc3 (p0:ByteArray) (p1:OA) (p1n p1c:Nat) (H:KH) (Q:PQ):Prop :=
 Does (env Try.prog) 7 [] H fun h a=>∃ (b:Bool),h=(.bool b)/\((!b)=true->Q (.bool false) a)/\((!b)=false->(((decide ((60:Int)<(((ByteArray.size p0):Nat):Int))):Bool)=true->Q (.bool true) a)/\(((decide ((60:Int)<(((ByteArray.size p0):Nat):Int))):Bool)=false->(decide ((20:Int)<(p1n:Int))=true->Q (.bool true) a)/\(decide ((20:Int)<(p1n:Int))=false->Does (env Try.prog) 8 [(.string p0)] a fun i j=>∃ (c d:ByteArray) (e:(OA)) (f g:Nat),i=(.agg #[.string c,.string d,.slice e f g])/\vc3_L6 p0 p1 p1n p1c c d e f g j Q)))
theorem fn3 (ok:EnvOk (env Try.prog)) {p0:ByteArray} {p1:OA} {p1n p1c:Nat} {H:KH} {Q:PQ} (h:vc3 p0 p1 p1n p1c H Q):Does (env Try.prog) 3 [.string p0,.slice p1 p1n p1c] H Q :=
 wFun_sound (W:=W3 Try.prog) ok.tt (blt_lt (by kernel_rfl)) (ff_of ok (by kernel_rfl) Try.func3) (Eq.mpr (by kernel_rfl) h)
end Va
end Go.Proofs.Ytkdjmdcnfbolkaa
set_option linter.unusedSimpArgs false
namespace Go.Ew
open Go.Ev Go.Deep
abbrev Pc:=Bool × Int × Int
def pcV (p:Pc):Value:=.agg #[.bool p.1,.int .i64 p.2.1,.int .i64 p.2.2]
def pcC (l:List Pc):List Value:=l.flatMap fun p=>[.bool p.1,.int .i64 p.2.1,.int .i64 p.2.2]
def srcP (o n:ByteArray) (p:Pc):ByteArray:=if p.1=true then n else o
def InP (o n:ByteArray) (p:Pc):Prop:=1<=p.2.2/\0<=p.2.1/\p.2.2+p.2.1<=(((srcP o n p).size:Nat):Int)
instance (o n:ByteArray) (p:Pc):Decidable (InP o n p):=by unfold InP; infer_instance
def thB (o n:ByteArray) (p:Pc):Bool:=decide (InP o n p)
def cutP (o n:ByteArray) (p:Pc):ByteArray:=strCut (srcP o n p) p.2.1 (p.2.1+p.2.2)
def txP (o n:ByteArray):List Pc->ByteArray
 | []=>⟨#[]⟩
 | p :: r=>cutP o n p++txP o n r
def lnP:List Pc->Int
 | []=>0
 | p :: r=>p.2.2+lnP r
def gdP (o n:ByteArray) (l:List Pc):List Pc:=l.filter (thB o n)
theorem pcC_len:∀ l:List Pc,(pcC l).length=l.length*3
 | []=>rfl
 | p :: r=>by
   have:=pcC_len r
   simp only [pcC,List.flatMap_cons,List.length_append,List.length_cons,List.length_nil] at this ⊢
   omega
theorem pcC_app (l m:List Pc):pcC (l++m)=pcC l++pcC m:=by simp [pcC]
theorem pcC_get:∀ {l:List Pc} {i:Nat} {p:Pc},l[i]? = some p->((pcC l).drop (i*3)).take 3=[.bool p.1,.int .i64 p.2.1,.int .i64 p.2.2]
 | [],i,p,h=>by simp at h
 | q :: r,0,p,h=>by
   simp only [List.getElem?_cons_zero,Option.some.injEq] at h
   subst h
   simp [pcC]
 | q :: r,i+1,p,h=>by
   have:=pcC_get (l:=r) (i:=i) (p:=p) (by simpa using h)
   have e:(i+1)*3=i*3+1+1+1:=by omega
   simp only [pcC,List.flatMap_cons,List.cons_append,List.nil_append,e,List.drop_succ_cons]
   exact this
theorem pc_ld {H:KH} {a:OA} {l:List Pc} (h:kold H 3 a l.length=some (pcC l)) {i:Nat} {p:Pc} (hi:l[i]? = some p):∃ b o,a=some ⟨b,o,none⟩/\ld H ⟨b,o+i*3,none⟩ [.bool p.1,.int .i64 p.2.1,.int .i64 p.2.2]:=by
 have hl:i<l.length:=by
  rcases Nat.lt_or_ge i l.length with z | z
  .exact z
  .rw [List.getElem?_eq_none z] at hi; cases hi
 obtain ⟨b,o,e,r⟩:=rowAddr h (by omega)
 refine ⟨b,o,e,?_⟩
 have:=r (i*3) 3 (by omega)
 rw [pcC_get hi] at this
 exact this
theorem rd_wr1 {c:BT (Option Value)} {u v:Value} (h:rd c 0 1=some [u]):rd (wr c 0 [v]) 0 1=some [v]:=by
 have:=rdWr (e:=c) (N:=1) (o:=0) (xs:=[]) (ys:=[u]) (zs:=[]) (vs:=[v]) (by simpa using h) rfl rfl
 simpa using this
theorem ba_empty (t:ByteArray):(⟨#[]⟩:ByteArray)++t=t:=by
 apply ByteArray.ext
 apply Array.toList_inj.1
 rw [ByteArray.data_append,Array.toList_append]
 rfl
theorem ba_empty_r (t:ByteArray):t++(⟨#[]⟩:ByteArray)=t:=by
 apply ByteArray.ext
 apply Array.toList_inj.1
 rw [ByteArray.data_append,Array.toList_append]
 simp
theorem ba_assoc (a b c:ByteArray):a++b++c=a++(b++c):=by
 apply ByteArray.ext
 apply Array.toList_inj.1
 simp only [ByteArray.data_append,Array.toList_append,List.append_assoc]
theorem txP_app (o n:ByteArray):∀ l m:List Pc,txP o n (l++m)=txP o n l++txP o n m
 | [],m=>(ba_empty _).symm
 | p :: l,m=>by
   rw [List.cons_append]
   show cutP o n p++txP o n (l++m)=cutP o n p++txP o n l++txP o n m
   rw [txP_app o n l m,ba_assoc]
theorem lnP_app:∀ l m:List Pc,lnP (l++m)=lnP l+lnP m
 | [],m=>by simp [lnP]
 | p :: l,m=>by
   rw [List.cons_append]
   show p.2.2+lnP (l++m)=p.2.2+lnP l+lnP m
   rw [lnP_app l m]; omega
theorem cutP_size {o n:ByteArray} {p:Pc} (h:InP o n p):(((cutP o n p).size:Nat):Int)=p.2.2:=by
 obtain ⟨h1,h2,h3⟩:=h
 unfold cutP strCut
 rw [ByteArray.size_extract]
 omega
theorem gdP_in {o n:ByteArray} {l:List Pc} {p:Pc} (h:p∈gdP o n l):InP o n p:=by
 have:=(List.mem_filter.1 h).2
 exact of_decide_eq_true this
theorem lnP_nonneg {o n:ByteArray}:∀ {l:List Pc},(∀ p∈l,InP o n p)->0<=lnP l
 | [],_=>Int.le_refl _
 | p :: l,h=>by
   have h1:=(h p (by simp)).1
   have:=lnP_nonneg (l:=l) fun q hq=>h q (by simp [hq])
   show 0<=p.2.2+lnP l
   omega
theorem txP_size {o n:ByteArray}:∀ {l:List Pc},(∀ p∈l,InP o n p)->(((txP o n l).size:Nat):Int)=lnP l
 | [],_=>rfl
 | p :: l,h=>by
   have h1:=cutP_size (h p (by simp))
   have:=txP_size (l:=l) fun q hq=>h q (by simp [hq])
   show (((cutP o n p++txP o n l).size:Nat):Int)=p.2.2+lnP l
   rw [ByteArray.size_append]; omega
end Go.Ew
namespace Go.Proofs.Ytkdjmdcnfbolkaa
open Go.Ev Go.Ew
namespace Va
section
variable (ok : EnvOk (env Try.prog))
include ok
theorem c16 {p0 p1:Int} {N:Nat} {H:KH} {Q:PQ} (h0:p0<9223372036854775808) (hN:N<=1000000) (hq:Q (.bool (decide (0<=p0/\0<=p1/\p1+p0<=((N:Nat):Int)))) H):Does (env Try.prog) 16 [.int .i64 p0,.int .i64 p1,.int .i64 ((N:Nat):Int)] H Q:=by
 refine fn16 ok ⟨fun q0=>⟨fun q1=>?_,fun q1=>?_⟩,fun q0=>?_⟩
 .have q0:=of_decide_eq_true q0
  have q1:=of_decide_eq_true q1
  rw [wrap64 (by omega) (by omega)]
  have e:(decide (0<=p0/\0<=p1/\p1+p0<=((N:Nat):Int)))=decide (p1<=((N:Nat):Int)-p0):=decide_eq_decide.2 ⟨fun h=>by omega,fun h=>by omega⟩
  rw [e] at hq
  exact hq
 .have q1:=of_decide_eq_false q1
  rw [decide_eq_false (by omega)] at hq
  exact hq
 .have q0:=of_decide_eq_false q0
  rw [decide_eq_false (by omega)] at hq
  exact hq
theorem c20 {p0 p1:Int} {p:ByteArray} {N:Nat} {H:KH} {Q:PQ} (h0:p0<9223372036854775808) (hN:N<=1000000) (hq:Q (.bool (decide (0<=p0/\0<=p1/\p1+p0<=((N:Nat):Int)))) H):Does (env Try.prog) 20 [.int .i64 ((N:Nat):Int),.agg #[.int .i64 p0,.int .i64 p1,.string p]] H Q:=by
 refine fn20 ok ⟨fun q0=>⟨fun q2=>⟨fun q1=>?_,fun q1=>?_⟩,fun q2=>?_⟩,fun q0=>?_⟩
 .have q0:=of_decide_eq_true q0
  have q1:=of_decide_eq_true q1
  have q2:=of_decide_eq_true q2
  rw [wrap64 (by omega) (by omega)]
  have e:(decide (0<=p0/\0<=p1/\p1+p0<=((N:Nat):Int)))=decide (p1<=((N:Nat):Int)-p0):=decide_eq_decide.2 ⟨fun h=>by omega,fun h=>by omega⟩
  rw [e] at hq
  exact hq
 .have q1:=of_decide_eq_false q1
  rw [decide_eq_false (by omega)] at hq
  exact hq
 .have q2:=of_decide_eq_false q2
  rw [decide_eq_false (by omega)] at hq
  exact hq
 .have q0:=of_decide_eq_false q0
  rw [decide_eq_false (by omega)] at hq
  exact hq
theorem c10 {p0 p1:Int} {s p:ByteArray} {H:KH} {Q:PQ} (h0:p0<9223372036854775808) (hs:s.size<=10000) (hp:p.size<=10000)
 (hno:¬ (0<=p0/\0<=p1/\p1+p0<=((s.size:Nat):Int))->Q (.tuple #[.string ⟨#[]⟩,.bool false]) H) (hq:∀ x n:Nat,p0=x->p1=n->x+n<=s.size->Q (.tuple #[.string (splT s x n p),.bool true]) H) :
 Does (env Try.prog) 10 [.string s,.agg #[.int .i64 p0,.int .i64 p1,.string p]] H Q:=by
 refine fn10 ok (c20 ok h0 (by omega) ⟨_,rfl,fun h=>hno fun z=>?_,fun h=>?_⟩)
 .rw [decide_eq_true z] at h; cases h
 have h:0<=p0/\0<=p1/\p1+p0<=((s.size:Nat):Int):=of_decide_eq_true (by simpa using h)
 obtain ⟨x,rfl⟩:=Int.eq_ofNat_of_zero_le h.1
 obtain ⟨n,rfl⟩:=Int.eq_ofNat_of_zero_le h.2.1
 have hw:IntKind.wrap .i64 (((x:Nat):Int)+((n:Nat):Int))=((x:Nat):Int)+((n:Nat):Int):=wrap64 (by omega) (by omega)
 rw [hw,splT_cat (by omega)]
 have s1:(strCut s 0 ((x:Nat):Int)).size<=s.size:=by unfold strCut; rw [ByteArray.size_extract]; omega
 have s2:(strCut s (((x:Nat):Int)+((n:Nat):Int)) ((s.size:Nat):Int)).size<=s.size:=by unfold strCut; rw [ByteArray.size_extract]; omega
 refine ⟨trivial,⟨by omega,by omega,by omega⟩,by omega,⟨by omega,by omega,by omega⟩,?_,hq x n rfl rfl (by omega)⟩
 rw [ByteArray.size_append]; omega
omit ok in
theorem c14 {s:ByteArray} {H:KH} {Q:PQ} (hs:s.size<=1000000) (hq:Q (.string s) H):Does (env Try.prog) 14 [.string s] H Q:=does_clone (by kernel_rfl) (by kernel_rfl) (by kernel_rfl) hs hq
omit ok in
theorem c22 {X H:KH} {nm:Nat} {s t:ByteArray} {Q:PQ} (hb:BdX 56 5 X H nm s) (hs:s.size<=1000000) (ht:t.size<=1000000) (hq:∀ H',BdX 56 5 X H' nm (s++t)->Q (.tuple #[.int .i64 ((t.size:Nat):Int),.nilIface]) H'):Does (env Try.prog) 22 [.pointer (some ⟨nm,0,none⟩),.string t] H Q :=
 does_write (by kernel_rfl) (by kernel_rfl) (by kernel_rfl) (by kernel_rfl) hb hs ht hq
omit ok in
theorem c24 {X H:KH} {nm:Nat} {s:ByteArray} {Q:PQ} (hb:BdX 56 5 X H nm s) (hs:s.size<=1000000) (hq:∀ H',Le X H'->Q (.string s) H'):Does (env Try.prog) 24 [.pointer (some ⟨nm,0,none⟩)] H Q :=
 does_str (by kernel_rfl) (by kernel_rfl) (by kernel_rfl) (by kernel_rfl) hb hs fun H' h _=>hq H' h
theorem c18 {s t:ByteArray} {H:KH} {Q:PQ} (hs:s.size<=500000) (ht:t.size<=500000) (hq:∀ H',Le H H'->Q (.string (s++t)) H'):Does (env Try.prog) 18 [.string s,.string t] H Q:=by
 refine fn18 ok fun n1 h1=>c22 (BdX.mk0 h1) (by show 0<=_; omega) (by omega) fun H2 b2=>⟨_,rfl,c22 b2 ?_ (by omega) fun H3 b3=>⟨_,rfl,c24 b3 ?_ fun H4 h4=>⟨_,rfl,?_⟩⟩⟩
 .rw [ba_empty]; omega
 .rw [ba_empty,ByteArray.size_append]; omega
 .rw [ba_empty]; exact hq H4 h4
theorem c23 {o n:ByteArray} {a:OA} {k c:Nat} {p:Pc} {H:KH} {Q:PQ} (hq:Q (.string (srcP o n p)) H):Does (env Try.prog) 23 [.agg #[.string o,.string n,.slice a k c],.agg #[.bool p.1,.int .i64 p.2.1,.int .i64 p.2.2]] H Q:=by
 refine fn23 ok ⟨fun h=>?_,fun h=>?_⟩
 .unfold srcP at hq; rw [if_pos h] at hq; exact hq
 .unfold srcP at hq; rw [if_neg (by rw [h]; simp)] at hq; exact hq
theorem c25 {o n:ByteArray} {a:OA} {k c:Nat} {p:Pc} {H:KH} {Q:PQ} (ho:o.size<=1000000) (hn:n.size<=1000000) (hx:p.2.1<9223372036854775808) (hq:Q (.bool (thB o n p)) H) :
 Does (env Try.prog) 25 [.agg #[.string o,.string n,.slice a k c],.agg #[.bool p.1,.int .i64 p.2.1,.int .i64 p.2.2]] H Q:=by
 have hs:(srcP o n p).size<=1000000:=by unfold srcP; split<;>omega
 refine fn25 ok ⟨trivial,fun h=>c23 ok ⟨_,rfl,⟨⟨rfl,rfl⟩,rfl,⟨rfl,rfl⟩,rfl,trivial⟩,c16 ok hx hs ⟨_,rfl,trivial,?_⟩⟩,fun h=>⟨⟨trivial,trivial,trivial,trivial,trivial⟩,trivial,?_⟩⟩
 .have h:=of_decide_eq_true h
  have e:thB o n p=decide (0<=p.2.1/\0<=p.2.2/\p.2.2+p.2.1<=(((srcP o n p).size:Nat):Int)):=by
   unfold thB InP
   exact decide_eq_decide.2 ⟨fun z=>by omega,fun z=>by omega⟩
  rw [e] at hq
  exact hq
 .have h:=of_decide_eq_false h
  have e:thB o n p=false:=by
   unfold thB InP
   exact decide_eq_false (by omega)
  rw [e] at hq
  exact hq
theorem c15 {a:OA} {c:Nat} {l:List Pc} {ex:List Value} {p:Pc} {H:KH} {Q:PQ} (hG:Gr H 3 a l.length c (pcC l) ex) (hs:l.length<=100000)
 (hq0:p.2.2=0->Q (.slice a l.length c) H) (hq:p.2.2≠0->∀ a' ex' H',(∀ k e,H k=some e->blk a≠some k->H' k=some e)->(∀ b,blk a'=some b->blk a=some b\/H b=none)->Gr H' 3 a' (l++[p]).length unkU (pcC (l++[p])) ex'->Q (.slice a' (l++[p]).length unkU) H') :
 Does (env Try.prog) 15 [.slice a l.length c,.agg #[.bool p.1,.int .i64 p.2.1,.int .i64 p.2.2]] H Q:=by
 refine fn15 ok ⟨fun h=>hq0 (of_decide_eq_true h),fun h n1 h1 n2 h2=>?_⟩
 have h:=of_decide_eq_false h
 have l1:=Le.new (e:=mkEnt [Value.bool p.1,.int .i64 p.2.1,.int .i64 p.2.2] 0) h1
 have hG2:=hG.agree (H':=H.new n1 (mkEnt [Value.bool p.1,.int .i64 p.2.1,.int .i64 p.2.2] 0)) fun q e z1 z2=>l1 q e z2
 obtain ⟨a',H',ex',f1,f2,_,f4,f5⟩:=hG2.append (ti:=⟨3,24,true,3,0,0,[(0,1),(1,1),(2,1)],[.bool false,.int .i64 0,.int .i64 0]⟩) (new:=[.bool p.1,.int .i64 p.2.1,.int .i64 p.2.2]) h2 rfl (by omega) (by decide) (by decide)
 refine ⟨1,_,knew_of (lit_kold (if_pos rfl) rfl),a',_,unkU,H',f1,?_⟩
 have hl:(l++[p]).length=l.length+1:=by simp
 have:=hq h a' ex' H' (fun q e z1 z2=>f4 q e (l1 q e z1) z2) (fun b hb=>?_) (by rw [hl,pcC_app]; exact f2)
 .rw [hl] at this; exact this
 .rcases f5 b hb with z | z
  .exact .inl z
  .subst z; exact .inr (l1.none h2)
theorem c17 {a:OA} {c:Nat} {l:List Pc} {H:KH} {Q:PQ} (hl:kold H 3 a l.length=some (pcC l)) (hs:l.length<=100000) (hq:∀ a' c' H',Le H H'->kold H' 3 a' l.length=some (pcC l)->Q (.slice a' l.length c') H') :
 Does (env Try.prog) 17 [.slice a l.length c] H Q:=by
 refine fn17 ok ⟨fun h=>?_,fun h n1 h1 n2 h2=>?_⟩
 .have:a=none:=by cases a with | none=>rfl | some x=>cases h
  subst this
  have h0:l.length=0:=by
   cases hn:Nat.beq l.length 0 with
   | true=>exact Nat.eq_of_beq_eq_true hn
   | false=>unfold kold at hl; rw [hn] at hl; cases hl
  have h0':l=[]:=List.eq_nil_of_length_eq_zero h0
  subst h0'
  exact hq none 0 H (Le.refl H) rfl
 .have l1:=Le.new (e:=mkEnt (lrep [Value.bool false,.int .i64 0,.int .i64 0] 0) 0) h1
  have hO:Own H (H.new n1 (mkEnt [] 0)) 3 (some ⟨n1,0,none⟩) 0 0 []:=.lit n1 0 [] (if_pos rfl) rfl (by unfold unkU; omega) h1
  obtain ⟨a',c',H',f1,f2,f3,f4,f5⟩:=Own.append (ti:=⟨3,24,true,3,0,0,[(0,1),(1,1),(2,1)],[.bool false,.int .i64 0,.int .i64 0]⟩) (m:=l.length) (nm:=n2) (new:=pcC l) hO (Le.new h1) h2 (pcC_len l) (by omega) (by decide) (by decide)
  refine ⟨l.length,pcC l,knew_of (l1.kold hl),a',_,c',H',f1,?_⟩
  rw [Nat.zero_add] at f2 ⊢
  exact hq a' c' H' f3 f2.cells
theorem c21 {o n:ByteArray} {a:OA} {k c:Nat} {H:KH} {Q:PQ} (hq:∀ n1,H n1=none->Q (.func (.func 30) #[] #[.pointer (some ⟨n1,0,none⟩)]) (H.new n1 (mkEnt [.string o,.string n,.slice a k c] 0))) :
 Does (env Try.prog) 21 [.agg #[.string o,.string n,.slice a k c]] H Q:=fn21 ok fun n1 h1=>hq n1 h1
theorem c28 {o n:ByteArray} {a:OA} {k c:Nat} {x y:Int} {H:KH} {Q:PQ} (hq:∀ n1 n2 n3 H',Le H H'->ld H' ⟨n1,0,none⟩ [.string o,.string n,.slice a k c]->ld H' ⟨n2,0,none⟩ [.int .i64 x]->ld H' ⟨n3,0,none⟩ [.int .i64 y]->Q (.func (.func 32) #[] #[.pointer (some ⟨n1,0,none⟩),.pointer (some ⟨n2,0,none⟩),.pointer (some ⟨n3,0,none⟩)]) H') :
 Does (env Try.prog) 28 [.agg #[.string o,.string n,.slice a k c],.int .i64 x,.int .i64 y] H Q:=by
 refine fn28 ok fun n1 h1 n2 h2 n3 h3=>hq n1 n2 n3 _ (((Le.new h1).trans (Le.new h2)).trans (Le.new h3)) ?_ ?_ ?_
 .exact ⟨rfl,_,(Le.new h3) _ _ ((Le.new h2) _ _ (if_pos rfl)),mk_rd (cs:=[.string o,.string n,.slice a k c]) (u:=0)⟩
 .exact ⟨rfl,_,(Le.new h3) _ _ (if_pos rfl),mk_rd (cs:=[.int .i64 x]) (u:=0)⟩
 .exact ⟨rfl,_,if_pos rfl,mk_rd (cs:=[.int .i64 y]) (u:=0)⟩
theorem c30 {kb ko:Nat} {o n:ByteArray} {a:OA} {c:Nat} {l:List Pc} {H:KH} (hb:ld H ⟨kb,ko,none⟩ [.string o,.string n,.slice a l.length c]) (hl:kold H 3 a l.length=some (pcC l)) (ho:o.size<=1000000) (hn:n.size<=1000000) (hx:∀ p∈l,p.2.1<9223372036854775808) (hs:l.length<=1000000) :
 TellA (env Try.prog) pcV 30 [.pointer (some ⟨kb,ko,none⟩)] (gdP o n l) H:=by
 intro y Inv H0 Q hup hle hstep hend hinv0
 have g0:=hle _ _ hinv0
 have hb2:ld H ⟨kb,ko+2,none⟩ [.slice a l.length c]:=ldSub hb 2 1 (by show 2+1<=3; omega)
 refine fn30 ok ⟨rfl,a,_,c,g0.ld hb2,?_⟩
 unfold vc30_L1
 refine ⟨fun m n4 n5 n6 a7 n8 n9 x10 x11 H12=>n4=y/\n5=kb/\n6=ko/\a7=a/\n8=l.length/\x10=((l.length:Nat):Int)/\∃ i:Nat,x11=i/\i<=l.length/\m=l.length-i/\Inv (gdP o n (l.drop i)) H12,⟨_,rfl,rfl,rfl,rfl,rfl,rfl,rfl,0,rfl,by omega,rfl,hinv0⟩,?_⟩
 rintro m n4 n5 n6 a7 n8 n9 x10 x11 H12 ⟨rfl,rfl,rfl,rfl,rfl,rfl,i,rfl,hi,rfl,hinv⟩
 refine ⟨fun hlt=>?_,fun hge=>?_⟩
 .have hlt:i<l.length:=by have:=of_decide_eq_true hlt; omega
  have e0:Int.toNat ((i:Nat):Int)=i:=by omega
  have hle1:=hle _ _ hinv
  obtain ⟨b0,o0,ha,r0⟩:=pc_ld (hle1.kold hl) (List.getElem?_eq_getElem hlt)
  have hd:l.drop i=l[i] :: l.drop (i+1):=List.drop_eq_getElem_cons hlt
  rw [e0]
  refine ⟨⟨by omega,by omega⟩,b0,o0,ha,_,_,_,r0,o,n,a7,l.length,c,hle1.ld hb,c25 ok ho hn (hx _ (List.getElem_mem hlt)) ⟨_,rfl,fun ht=>?_,fun ht=>?_⟩⟩
  .have hg:gdP o n (l.drop i)=l[i] :: gdP o n (l.drop (i+1)):=by rw [hd]; exact List.filter_cons_of_pos ht
   rw [hg] at hinv
   refine (hstep _ _ _ hinv).post fun v H3 hv=>?_
   obtain ⟨rfl,hv⟩:=hv
   exact ⟨true,rfl,fun h=>(by cases h),fun _=>⟨l.length-(i+1),by omega,rfl,rfl,rfl,rfl,rfl,rfl,rfl,i+1,by rw [wrap64 (by omega) (by omega)]; omega,by omega,rfl,hv⟩⟩
  .have hg:gdP o n (l.drop i)=gdP o n (l.drop (i+1)):=by rw [hd]; exact List.filter_cons_of_neg (by rw [ht]; simp)
   rw [hg] at hinv
   exact ⟨l.length-(i+1),by omega,rfl,rfl,rfl,rfl,rfl,rfl,rfl,i+1,by rw [wrap64 (by omega) (by omega)]; omega,by omega,rfl,hinv⟩
 .have hge:i=l.length:=by have:=of_decide_eq_false hge; omega
  rw [List.drop_eq_nil_of_le (by omega)] at hinv
  exact hend _ hinv
end
end Va
end Go.Proofs.Ytkdjmdcnfbolkaa
namespace Go.Ew
open Go.Ev Go.Deep
theorem le_del {X H:KH} {n:Nat} (h:Le X H) (hn:X n=none):Le X (H.del n):=fun k e q=>by
 simp only [KH.del]
 rw [if_neg (fun z=>by subst z; rw [hn] at q; cases q)]
 exact h k e q
theorem del_at {H:KH} {n k:Nat} {e:Ent} (q:H k=some e) (h:k≠n):(H.del n) k=some e:=by simp only [KH.del]; rw [if_neg h]; exact q
theorem put_at {H:KH} {p o:Nat} {vs:List Value} {e:Ent} (q:H p=some e):(H.put ⟨p,o,none⟩ vs) p=some ⟨wr e.cells o vs,e.len,e.unk,none⟩:=by simp only [KH.put,if_true,q,Option.map_some]
theorem new_at {H:KH} {n k:Nat} {e e':Ent} (q:H k=some e) (h:k≠n):(H.new n e') k=some e:=by simp only [KH.new]; rw [if_neg h]; exact q
theorem le_new {X H:KH} {n:Nat} {e:Ent} (h:Le X H) (hn:X n=none):Le X (H.new n e):=fun k e' q=>new_at (h k e' q) (fun z=>by subst z; rw [hn] at q; cases q)
theorem le_put {X H:KH} {p o:Nat} {vs:List Value} (h:Le X H) (hn:X p=none):Le X (H.put ⟨p,o,none⟩ vs):=fun k e' q=>put_ne (fun z=>by subst z; rw [hn] at q; cases q) (h k e' q)
def cutsP (lo hi:Int):Int->List Pc->List Pc
 | _,[]=>[]
 | d,p :: r=>if max (lo-d) 0<min (hi-d) p.2.2 then (p.1,p.2.1+max (lo-d) 0,min (hi-d) p.2.2-max (lo-d) 0) :: cutsP lo hi (d+p.2.2) r else cutsP lo hi (d+p.2.2) r
structure BoxI (H:KH) (b:Nat) (v:Value):Prop where
 ex:∃ e,H b=some e/\wrB e=true/\rd e.cells 0 1=some [v]
theorem BoxI.up {H H':KH} {b:Nat} {v:Value} (h:BoxI H b v) (hl:Le H H'):BoxI H' b v:=by
 obtain ⟨e,h1,h2,h3⟩:=h.ex
 exact ⟨e,hl _ _ h1,h2,h3⟩
theorem BoxI.ld {H:KH} {b:Nat} {v:Value} (h:BoxI H b v):Ew.ld H ⟨b,0,none⟩ [v]:=by
 obtain ⟨e,h1,h2,h3⟩:=h.ex
 exact ⟨rfl,e,h1,h3⟩
theorem BoxI.may {H:KH} {b:Nat} {v:Value} (h:BoxI H b v):KH.may H b:=by
 obtain ⟨e,h1,h2,h3⟩:=h.ex
 exact ⟨e,h1,h2⟩
theorem BoxI.put {H:KH} {b:Nat} {v:Value} (h:BoxI H b v) (u:Value):BoxI (H.put ⟨b,0,none⟩ [u]) b u:=by
 obtain ⟨e,h1,h2,h3⟩:=h.ex
 exact ⟨_,put_at h1,wrB_keep h2,rd_wr1 h3⟩
theorem BoxI.del {H:KH} {b n:Nat} {v:Value} (h:BoxI H b v) (hn:b≠n):BoxI (H.del n) b v:=by
 obtain ⟨e,h1,h2,h3⟩:=h.ex
 exact ⟨e,del_at h1 hn,h2,h3⟩
theorem BoxI.new {H:KH} {b n:Nat} {v:Value} {e:Ent} (h:BoxI H b v) (hn:b≠n):BoxI (H.new n e) b v:=by
 obtain ⟨e,h1,h2,h3⟩:=h.ex
 exact ⟨e,new_at h1 hn,h2,h3⟩
theorem BoxI.mk0 {H:KH} {b:Nat} {v:Value} (h:H b=some (mkEnt [v] 0)):BoxI H b v:=⟨_,h,rfl,mk_rd (cs:=[v]) (u:=0)⟩
theorem ne_of {H:KH} {a b:Nat} {e:Ent} (h1:H a=some e) (h2:H b=none):a≠b:=fun z=>by subst z; rw [h2] at h1; cases h1
end Go.Ew
namespace Go.Proofs.Ytkdjmdcnfbolkaa
open Go.Ev Go.Ew
namespace Va
section
variable (ok : EnvOk (env Try.prog))
include ok
theorem c12 {o n:ByteArray} {a:OA} {c:Nat} {l:List Pc} {H:KH} {Q:PQ} (hl:kold H 3 a l.length=some (pcC l)) (ho:o.size<=1000000) (hn:n.size<=1000000) (hx:∀ p∈l,p.2.1<9223372036854775808) (hs:l.length<=1000000) (hT:lnP (gdP o n l)<=1000000)
 (hq:∀ H',Le H H'->Q (.int .i64 (lnP (gdP o n l))) H'):Does (env Try.prog) 12 [.agg #[.string o,.string n,.slice a l.length c]] H Q:=by
 refine fn12 ok fun n1 h1=>?_
 have bx1:BoxI (H.new n1 (mkEnt [.int .i64 0] 0)) n1 (.int .i64 0):=BoxI.mk0 (if_pos rfl)
 refine ⟨⟨_,rfl,bx1.ld⟩,bx1.may,c21 ok fun n3 h3=>⟨30,[.pointer (some ⟨n3,0,none⟩)],rfl,⟨(by kernel_rfl)⟩,fun n7 L8 h7 hR=>?_⟩⟩
 have bx2:=bx1.put (.int .i64 0)
 obtain ⟨e2,hp2,_,_⟩:=bx2.ex
 have hn3:H n3=none:=by
  cases hk:H n3 with
  | none=>rfl
  | some e=>have:=(le_put (o:=0) (vs:=[.int .i64 0]) (Le.new (e:=mkEnt [.int .i64 0] 0) h1) h1:Le H _) _ _ hk; rw [h3] at this; cases this
 have n13:n1≠n3:=ne_of hp2 h3
 have hHc1:(H.new n3 (mkEnt [.string o,.string n,.slice a l.length c] 0)) n1=none:=by simp only [KH.new]; rw [if_neg n13]; exact h1
 have leK:Le (H.new n3 (mkEnt [.string o,.string n,.slice a l.length c] 0)) (((H.new n1 (mkEnt [.int .i64 0] 0)).put ⟨n1,0,none⟩ [.int .i64 0]).new n3 (mkEnt [.string o,.string n,.slice a l.length c] 0)):=fun k e q=>by
  simp only [KH.new] at q ⊢
  by_cases z:k=n3
  .rw [if_pos z] at q ⊢; exact q
  .rw [if_neg z] at q ⊢
   exact le_put (Le.new h1) h1 _ _ q
 have hHc7:(H.new n3 (mkEnt [.string o,.string n,.slice a l.length c] 0)) n7=none:=leK.none h7
 have bx3:=bx2.new (n:=n3) (e:=mkEnt [.string o,.string n,.slice a l.length c] 0) n13
 obtain ⟨e3,hp3,_,_⟩:=bx3.ex
 have n17:n1≠n7:=ne_of hp3 h7
 refine (c30 ok (H:=H.new n3 (mkEnt [.string o,.string n,.slice a l.length c] 0)) (kb:=n3) (ko:=0) ⟨rfl,_,if_pos rfl,mk_rd (cs:=[.string o,.string n,.slice a l.length c]) (u:=0)⟩ ((Le.new hn3).kold hl) ho hn hx hs) n7
  (fun r H1=>H1 n7=some (lpE L8 0 none)/\Le (H.new n3 (mkEnt [.string o,.string n,.slice a l.length c] 0)) H1/\∃ dn,dn++r=gdP o n l/\BoxI H1 n1 (.int .i64 (lnP dn))) _ _ ?_ (fun r H1 h=>h.2.1) ?_ ?_ ?_
 .rintro r X H1 ⟨q1,q2,dn,q3,q4⟩ hXH
  exact ⟨hXH _ _ q1,q2.trans hXH,dn,q3,q4.up hXH⟩
 .rintro p r H1 ⟨q1,q2,dn,q3,q4⟩
  have hin:∀ q∈gdP o n l,InP o n q:=fun q hq=>gdP_in hq
  have b1:0<=lnP dn:=lnP_nonneg (o:=o) (n:=n) fun q hq=>hin q (by rw [<- q3]; simp [hq])
  have b2:1<=p.2.2:=(hin p (by rw [<- q3]; simp)).1
  have b3:0<=lnP r:=lnP_nonneg (o:=o) (n:=n) fun q hq=>hin q (by rw [<- q3]; simp [hq])
  have b4:lnP (dn++p :: r)=lnP dn+(p.2.2+lnP r):=lnP_app _ _
  rw [q3] at b4
  have hw:IntKind.wrap .i64 (lnP dn+p.2.2)=lnP (dn++[p]):=by
   rw [wrap64 (by omega) (by omega),lnP_app]
   show _=lnP dn+(p.2.2+0)
   omega
  have bd:=q4.del n17
  refine hR p.1 p.2.1 p.2.2 H1 _ q1 ⟨lnP dn,bd.ld,⟨[.int .i64 (lnP dn)],rfl,bd.ld⟩,bd.may,fun hn7=>⟨rfl,if_pos rfl,?_,dn++[p],by rw [List.append_assoc]; exact q3,?_⟩⟩
  .exact le_new (le_put (le_del q2 hHc7) hHc1) hHc7
  .rw [hw]
   exact (bd.put _).new n17
 .rintro H1 ⟨q1,q2,dn,q3,q4⟩
  rw [List.append_nil] at q3
  subst q3
  exact .inl ⟨q1,_,(q4.del n17).ld,hq _ ((Le.new hn3).trans (le_del q2 hHc7))⟩
 .exact ⟨if_pos rfl,leK.trans (Le.new h7),[],rfl,bx3.new n17⟩
theorem c11 {o n:ByteArray} {a:OA} {c:Nat} {l:List Pc} {H:KH} {Q:PQ} (hl:kold H 3 a l.length=some (pcC l)) (ho:o.size<=1000000) (hn:n.size<=1000000) (hx:∀ p∈l,p.2.1<9223372036854775808) (hs:l.length<=1000000) (hT:lnP (gdP o n l)<=1000000)
 (hq:∀ H',Le H H'->Q (.string (txP o n (gdP o n l))) H'):Does (env Try.prog) 11 [.agg #[.string o,.string n,.slice a l.length c]] H Q:=by
 refine fn11 ok fun n1 h1 n2 h2=>⟨o,n,a,l.length,c,⟨rfl,_,Le.new h2 _ _ (if_pos rfl),mk_rd (cs:=[.string o,.string n,.slice a l.length c]) (u:=0)⟩,c21 ok fun n3 h3=>⟨30,[.pointer (some ⟨n3,0,none⟩)],rfl,⟨(by kernel_rfl)⟩,fun n12 L13 h12 hR=>?_⟩⟩
 generalize hT1:(mkEnt [.string o,.string n,.slice a l.length c] 0:Ent)=T1 at *
 have hT1':mkEnt (Array.toList #[Value.string o,.string n,.slice a l.length c]) 0=T1:=hT1
 have rdT:rd T1.cells 0 3=some [.string o,.string n,.slice a l.length c]:=by rw [<- hT1]; exact mk_rd (cs:=[.string o,.string n,.slice a l.length c]) (u:=0)
 have h2':(H.new n1 T1) n2=none:=h2
 have h3':((H.new n1 T1).new n2 (bldE 56 5 n2 none)) n3=none:=h3
 have hn3:(H.new n1 T1) n3=none:=(Le.new h2').none h3'
 have n23:n2≠n3:=ne_of (if_pos rfl:((H.new n1 T1).new n2 (bldE 56 5 n2 none)) n2=_) h3'
 have leK:Le ((H.new n1 T1).new n3 T1) (((H.new n1 T1).new n2 (bldE 56 5 n2 none)).new n3 T1):=fun k e q=>by
  simp only [KH.new] at q ⊢
  by_cases z:k=n3
  .rw [if_pos z] at q ⊢; exact q
  .rw [if_neg z] at q ⊢
   exact Le.new h2' _ _ q
 have h12':(((H.new n1 T1).new n2 (bldE 56 5 n2 none)).new n3 T1) n12=none:=h12
 have hX12:((H.new n1 T1).new n3 T1) n12=none:=leK.none h12'
 have hX2:((H.new n1 T1).new n3 T1) n2=none:=by show (if n2=n3 then some T1 else (H.new n1 T1) n2)=none; rw [if_neg n23]; exact h2'
 have hX1:((H.new n1 T1).new n3 T1) n1=some T1:=Le.new hn3 _ _ (if_pos rfl)
 have leX:Le H ((H.new n1 T1).new n3 T1):=(Le.new h1).trans (Le.new hn3)
 have b0:BdX 56 5 ((H.new n1 T1).new n3 T1) (((H.new n1 T1).new n2 (bldE 56 5 n2 none)).new n3 T1) n2 ⟨#[]⟩:=⟨leK,hX2,.inl ⟨rfl,Le.new h3' _ _ (if_pos rfl)⟩⟩
 have hin:∀ q∈gdP o n l,InP o n q:=fun q hq=>gdP_in hq
 have pre:∀ dn r,dn++r=gdP o n l->(txP o n dn).size<=1000000:=fun dn r e=>by
  have z1:=txP_size (o:=o) (n:=n) (l:=dn) fun q hq=>hin q (by rw [<- e]; simp [hq])
  have z2:0<=lnP r:=lnP_nonneg (o:=o) (n:=n) fun q hq=>hin q (by rw [<- e]; simp [hq])
  have z3:lnP (dn++r)=lnP dn+lnP r:=lnP_app _ _
  rw [e] at z3
  omega
 refine (c30 ok (H:=(H.new n1 T1).new n3 T1) (kb:=n3) (ko:=0) ⟨rfl,_,if_pos rfl,rdT⟩ (leX.kold hl) ho hn hx hs) n12
  (fun r H1=>H1 n12=some (lpE L13 0 none)/\∃ dn,dn++r=gdP o n l/\BdX 56 5 ((H.new n1 T1).new n3 T1) H1 n2 (txP o n dn)) _ _ ?_ (fun r H1 ⟨_,dn,_,b⟩=>b.le) ?_ ?_ ?_
 .rintro r X H1 ⟨q1,dn,q3,q4⟩ hXH
  exact ⟨hXH _ _ q1,dn,q3,q4.up hXH⟩
 .rintro p r H1 ⟨q1,dn,q3,q4⟩
  have hp:=hin p (by rw [<- q3]; simp)
  have hsrc:(srcP o n p).size<=1000000:=by unfold srcP; split<;>omega
  obtain ⟨p1,p2,p3⟩:=hp
  have hw:IntKind.wrap .i64 (p.2.1+p.2.2)=p.2.1+p.2.2:=wrap64 (by omega) (by omega)
  have hc:strCut (srcP o n p) p.2.1 (p.2.1+p.2.2)=cutP o n p:=rfl
  have hcs:=cutP_size (o:=o) (n:=n) (p:=p) ⟨p1,p2,p3⟩
  have bd:=q4.del q1 hX12
  refine hR p.1 p.2.1 p.2.2 H1 _ q1 ⟨trivial,o,n,a,l.length,c,⟨rfl,T1,bd.le _ _ hX1,rdT⟩,c23 ok ⟨_,rfl,⟨⟨rfl,rfl⟩,rfl,⟨rfl,rfl⟩,rfl,⟨rfl,rfl⟩,rfl,rfl,trivial⟩,?_⟩⟩
  rw [hw,hc]
  refine ⟨⟨by omega,by omega,by omega⟩,c22 bd (pre dn _ q3) (by omega) fun H5 b5=>⟨_,rfl,trivial,fun hn12=>⟨rfl,if_pos rfl,dn++[p],by rw [List.append_assoc]; exact q3,?_⟩⟩⟩
  rw [txP_app]
  show BdX 56 5 _ _ n2 (txP o n dn++(cutP o n p++⟨#[]⟩))
  rw [ba_empty_r]
  exact b5.up (Le.new hn12)
 .rintro H1 ⟨q1,dn,q3,q4⟩
  rw [List.append_nil] at q3
  subst q3
  exact .inl ⟨q1,c24 (q4.del q1 hX12) (pre _ [] (List.append_nil _)) fun H4 h4=>⟨_,rfl,hq H4 (leX.trans h4)⟩⟩
 .exact ⟨if_pos rfl,[],rfl,b0.up (Le.new h12')⟩
theorem c13 {o n:ByteArray} {a:OA} {c:Nat} {l:List Pc} {H:KH} {Q:PQ} (hl:kold H 3 a l.length=some (pcC l)) (ho:o.size<=1000000) (hn:n.size<=1000000) (hx:∀ p∈l,p.2.1<9223372036854775808) (hs:l.length<=1000000)
 (hq:Q (.bool (l.all (thB o n))) H):Does (env Try.prog) 13 [.agg #[.string o,.string n,.slice a l.length c]] H Q:=by
 refine fn13 ok ?_
 unfold vc13 vc13_L1
 refine ⟨fun m s4 s5 a6 n7 n8 a9 n10 n11 x12 x13 H14=>s4=o/\s5=n/\a6=a/\n7=l.length/\n8=c/\a9=a/\n10=l.length/\x12=((l.length:Nat):Int)/\H14=H/\∃ i:Nat,x13=i/\i<=l.length/\m=l.length-i/\l.all (thB o n)=(l.drop i).all (thB o n),⟨_,rfl,rfl,rfl,rfl,rfl,rfl,rfl,rfl,rfl,0,rfl,by omega,rfl,rfl⟩,?_⟩
 rintro m s4 s5 a6 n7 n8 a9 n10 n11 x12 x13 H14 ⟨rfl,rfl,rfl,rfl,rfl,rfl,rfl,rfl,rfl,i,rfl,hi,rfl,hall⟩
 refine ⟨fun hlt=>?_,fun hge=>?_⟩
 .have hlt:i<l.length:=by have:=of_decide_eq_true hlt; omega
  have e0:Int.toNat ((i:Nat):Int)=i:=by omega
  obtain ⟨b0,o0,ha,r0⟩:=pc_ld hl (List.getElem?_eq_getElem hlt)
  have hd:l.drop i=l[i] :: l.drop (i+1):=List.drop_eq_getElem_cons hlt
  rw [hd,List.all_cons] at hall
  rw [e0]
  refine ⟨⟨by omega,by omega⟩,b0,o0,ha,_,_,_,r0,c25 ok ho hn (hx _ (List.getElem_mem hlt)) ⟨_,rfl,fun ht=>?_,fun ht=>?_⟩⟩
  .have ht:thB s4 s5 l[i]=false:=by simpa using ht
   rw [hall,ht,Bool.false_and] at hq
   exact hq
  .have ht:thB s4 s5 l[i]=true:=by simpa using ht
   rw [ht,Bool.true_and] at hall
   exact ⟨l.length-(i+1),by omega,rfl,rfl,rfl,rfl,rfl,rfl,rfl,rfl,rfl,i+1,by rw [wrap64 (by omega) (by omega)]; omega,by omega,rfl,hall⟩
 .have hge:i=l.length:=by have:=of_decide_eq_false hge; omega
  rw [List.drop_eq_nil_of_le (by omega)] at hall
  rw [hall] at hq
  exact hq
end
end Va
end Go.Proofs.Ytkdjmdcnfbolkaa
namespace Go.Ew
open Go.Ev Go.Deep
theorem Gr.has {H:KH} {sz n c:Nat} {a:OA} {cs ex:List Value} (h:Gr H sz a n c cs ex) {b:Nat} (hb:blk a=some b):∃ e,H b=some e:=by
 cases h with
 | nil=>cases hb
 | on b' n e cs ex k1 k2 k3 k4 k5 k6 =>
   have z:b'=b:=Option.some.inj hb
   subst z
   exact ⟨e,k1⟩
end Go.Ew
namespace Go.Proofs.Ytkdjmdcnfbolkaa
open Go.Ev Go.Ew
namespace Va
section
variable (ok : EnvOk (env Try.prog))
include ok
theorem c32 {n1 n2 n3:Nat} {o n:ByteArray} {a:OA} {c:Nat} {l:List Pc} {lo hi:Int} {H:KH} (h1:ld H ⟨n1,0,none⟩ [.string o,.string n,.slice a l.length c]) (h2:ld H ⟨n2,0,none⟩ [.int .i64 lo]) (h3:ld H ⟨n3,0,none⟩ [.int .i64 hi])
 (hl:kold H 3 a l.length=some (pcC l)) (ho:o.size<=1000000) (hn:n.size<=1000000) (hx:∀ p∈l,p.2.1<9223372036854775808) (hs:l.length<=1000000) (hT:lnP (gdP o n l)<=1000000) (hlo:0<=lo/\lo<=1000000) (hhi:0<=hi/\hi<=1000000) :
 TellA (env Try.prog) pcV 32 [.pointer (some ⟨n1,0,none⟩),.pointer (some ⟨n2,0,none⟩),.pointer (some ⟨n3,0,none⟩)] (cutsP lo hi 0 (gdP o n l)) H:=by
 intro y Inv H0 Q hup hle hstep hend hinv0
 have g0:=hle _ _ hinv0
 refine fn32 ok fun b1 hb1 b2 hb2=>?_
 have bx1:BoxI ((H0.new b1 (mkEnt [.func (.yield y) #[] #[]] 0)).new b2 (mkEnt [.int .i64 0] 0)) b2 (.int .i64 0):=BoxI.mk0 (if_pos rfl)
 have le2:Le H0 ((H0.new b1 (mkEnt [.func (.yield y) #[] #[]] 0)).new b2 (mkEnt [.int .i64 0] 0)):=(Le.new hb1).trans (Le.new hb2)
 have h0b2:H0 b2=none:=(Le.new hb1).none hb2
 have n12:b1≠b2:=ne_of (if_pos rfl:(H0.new b1 (mkEnt [.func (.yield y) #[] #[]] 0)) b1=_) hb2
 have le3:Le H0 (((H0.new b1 (mkEnt [.func (.yield y) #[] #[]] 0)).new b2 (mkEnt [.int .i64 0] 0)).put ⟨b2,0,none⟩ [.int .i64 0]):=le_put le2 h0b2
 have bx2:=bx1.put (.int .i64 0)
 have bxy:(((H0.new b1 (mkEnt [.func (.yield y) #[] #[]] 0)).new b2 (mkEnt [.int .i64 0] 0)).put ⟨b2,0,none⟩ [.int .i64 0]) b1=some (mkEnt [.func (.yield y) #[] #[]] 0):=put_ne n12 (new_at (if_pos rfl) n12)
 refine ⟨⟨_,rfl,bx1.ld⟩,bx1.may,o,n,a,l.length,c,(g0.trans le3).ld h1,?_⟩
 generalize (((H0.new b1 (mkEnt [.func (.yield y) #[] #[]] 0)).new b2 (mkEnt [.int .i64 0] 0)).put ⟨b2,0,none⟩ [.int .i64 0])=K at le3 bx2 bxy ⊢
 refine c21 ok fun b3 hb3=>⟨30,[.pointer (some ⟨b3,0,none⟩)],rfl,⟨(by kernel_rfl)⟩,fun m L hm hR=>?_⟩
 generalize hT1:(mkEnt [.string o,.string n,.slice a l.length c] 0:Ent)=T1 at *
 have rdT:rd T1.cells 0 3=some [.string o,.string n,.slice a l.length c]:=by rw [<- hT1]; exact mk_rd (cs:=[.string o,.string n,.slice a l.length c]) (u:=0)
 have h0b3:H0 b3=none:=le3.none hb3
 have hHb3:H b3=none:=g0.none h0b3
 have n13:b1≠b3:=ne_of bxy hb3
 obtain ⟨e2,p2,_,_⟩:=bx2.ex
 have n23:b2≠b3:=ne_of p2 hb3
 have bx3:=bx2.new (n:=b3) (e:=T1) n23
 have bxy3:(K.new b3 T1) b1=some (mkEnt [.func (.yield y) #[] #[]] 0):=new_at bxy n13
 have n1m:b1≠m:=ne_of bxy3 hm
 obtain ⟨e3,p3,_,_⟩:=bx3.ex
 have n2m:b2≠m:=ne_of p3 hm
 have n3m:b3≠m:=ne_of (if_pos rfl:(K.new b3 T1) b3=_) hm
 have h0m:H0 m=none:=le3.none ((Le.new hb3).none hm)
 have hin:∀ q∈gdP o n l,InP o n q:=fun q hq=>gdP_in hq
 refine (c30 ok (H:=H.new b3 T1) (kb:=b3) (ko:=0) ⟨rfl,_,if_pos rfl,rdT⟩ ((Le.new hHb3).kold hl) ho hn hx hs) m
  (fun r H1=>H1 m=some (lpE L 0 none)/\∃ X dn,dn++r=gdP o n l/\Inv (cutsP lo hi (lnP dn) r) X/\Le X H1/\X m=none/\X b1=none/\X b2=none/\X b3=none/\H1 b1=some (mkEnt [.func (.yield y) #[] #[]] 0)/\BoxI H1 b2 (.int .i64 (lnP dn))/\H1 b3=some T1) _ _ ?_ ?_ ?_ ?_ ?_
 .rintro r X1 H1 ⟨q1,X,dn,q2,q3,q4,q5,q6,q7,q8,q9,q10,q11⟩ hXH
  exact ⟨hXH _ _ q1,X,dn,q2,q3,q4.trans hXH,q5,q6,q7,q8,hXH _ _ q9,q10.up hXH,hXH _ _ q11⟩
 .rintro r H1 ⟨q1,X,dn,q2,q3,q4,q5,q6,q7,q8,q9,q10,q11⟩ k e q
  simp only [KH.new] at q
  by_cases z:k=b3
  .rw [if_pos z] at q; cases q; rw [z]; exact q11
  .rw [if_neg z] at q; exact q4 _ _ (hle _ _ q3 _ _ q)
 .rintro p r H1 ⟨q1,X,dn,q2,q3,q4,q5,q6,q7,q8,q9,q10,q11⟩
  have hpin:=hin p (by rw [<- q2]; simp)
  have w1:0<=lnP dn:=lnP_nonneg (o:=o) (n:=n) fun q hq=>hin q (by rw [<- q2]; simp [hq])
  have w2:1<=p.2.2:=hpin.1
  have w3:0<=lnP r:=lnP_nonneg (o:=o) (n:=n) fun q hq=>hin q (by rw [<- q2]; simp [hq])
  have w4:lnP (dn++p :: r)=lnP dn+(p.2.2+lnP r):=lnP_app _ _
  rw [q2] at w4
  have hsrc:(srcP o n p).size<=1000000:=by unfold srcP; split<;>omega
  have w5:0<=p.2.1/\p.2.1<=1000000:=by obtain ⟨z1,z2,z3⟩:=hpin; omega
  have e1:IntKind.wrap .i64 (lo-lnP dn)=lo-lnP dn:=wrap64 (by omega) (by omega)
  have e2:IntKind.wrap .i64 (hi-lnP dn)=hi-lnP dn:=wrap64 (by omega) (by omega)
  have e3:IntKind.wrap .i64 (lnP dn+p.2.2)=lnP (dn++[p]):=by
   rw [wrap64 (by omega) (by omega),lnP_app]
   show _=lnP dn+(p.2.2+0)
   omega
  have leXd:Le X (H1.del m):=le_del q4 q5
  have leHd:=(hle _ _ q3).trans leXd
  have bd:=q10.del n2m
  refine hR p.1 p.2.1 p.2.2 H1 _ q1 ⟨trivial,lo,leHd.ld h2,_,bd.ld,hi,leHd.ld h3,_,bd.ld,_,bd.ld,⟨[.int .i64 (lnP dn)],rfl,bd.ld⟩,bd.may,?_⟩
  rw [e1,e2,e3]
  have bp:=bd.put (.int .i64 (lnP (dn++[p])))
  have leXp:Le X ((H1.del m).put ⟨b2,0,none⟩ [.int .i64 (lnP (dn++[p]))]):=le_put leXd q7
  have yat:((H1.del m).put ⟨b2,0,none⟩ [.int .i64 (lnP (dn++[p]))]) b1=some (mkEnt [.func (.yield y) #[] #[]] 0):=put_ne n12 (del_at q9 n1m)
  have tat:((H1.del m).put ⟨b2,0,none⟩ [.int .i64 (lnP (dn++[p]))]) b3=some T1:=put_ne n23.symm (del_at q11 n3m)
  have el:lnP (dn++[p])=lnP dn+p.2.2:=by rw [lnP_app]; show lnP dn+(p.2.2+0)=_; omega
  refine ⟨fun hc=>?_,fun hc hm2=>⟨rfl,if_pos rfl,X,dn++[p],by rw [List.append_assoc]; exact q2,?_,leXp.trans (Le.new hm2),q5,q6,q7,q8,new_at yat n1m,bp.new n2m,new_at tat n3m⟩⟩
  .have hc:=of_decide_eq_true hc
   have hcut:cutsP lo hi (lnP dn) (p :: r)=(p.1,p.2.1+max (lo-lnP dn) 0,min (hi-lnP dn) p.2.2-max (lo-lnP dn) 0) :: cutsP lo hi (lnP dn+p.2.2) r:=by
    show (if max (lo-lnP dn) 0<min (hi-lnP dn) p.2.2 then _ else _)=_
    rw [if_pos hc]
   rw [hcut] at q3
   have f1:IntKind.wrap .i64 (p.2.1+max (lo-lnP dn) 0)=p.2.1+max (lo-lnP dn) 0:=wrap64 (by omega) (by omega)
   have f2:IntKind.wrap .i64 (min (hi-lnP dn) p.2.2-max (lo-lnP dn) 0)=min (hi-lnP dn) p.2.2-max (lo-lnP dn) 0:=wrap64 (by omega) (by omega)
   rw [f1,f2]
   refine ⟨y,⟨rfl,_,yat,mk_rd (cs:=[.func (.yield y) #[] #[]]) (u:=0)⟩,DoesR.only leXp ((hstep _ _ _ q3).post fun v X' hv H' hl' hk=>?_)⟩
   obtain ⟨rfl,hv⟩:=hv
   obtain ⟨y1,y2⟩:=hk _ _ yat q6
   obtain ⟨t1,t2⟩:=hk _ _ tat q8
   obtain ⟨ep,pe1,pe2,pe3⟩:=bp.ex
   obtain ⟨s1,s2⟩:=hk _ _ pe1 q7
   refine ⟨true,rfl,fun z=>(by cases z),fun _ hm2=>⟨rfl,if_pos rfl,X',dn++[p],by rw [List.append_assoc]; exact q2,by rw [el]; exact hv,hl'.trans (Le.new hm2),?_,y2,s2,t2,new_at y1 n1m,BoxI.new ⟨ep,s1,pe2,pe3⟩ n2m,new_at t1 n3m⟩⟩
   exact hl'.none hm2
  .have hc:=of_decide_eq_false hc
   have hcut:cutsP lo hi (lnP dn) (p :: r)=cutsP lo hi (lnP dn+p.2.2) r:=by
    show (if max (lo-lnP dn) 0<min (hi-lnP dn) p.2.2 then _ else _)=_
    rw [if_neg hc]
   rw [hcut] at q3
   rw [el]
   exact q3
 .rintro H1 ⟨q1,X,dn,q2,q3,q4,q5,q6,q7,q8,q9,q10,q11⟩
  exact .inl ⟨q1,hend _ (hup _ _ _ q3 (le_del q4 q5))⟩
 .exact ⟨if_pos rfl,H0,[],rfl,hinv0,(le3.trans (Le.new hb3)).trans (Le.new hm),h0m,by
   exact hb1,h0b2,h0b3,new_at bxy3 n1m,bx3.new n2m,new_at (if_pos rfl) n3m⟩
theorem c29 {a:OA} {c g:Nat} {l ps:List Pc} {ex k:List Value} {H Hb:KH} {Q:PQ} (hG:Gr H 3 a l.length c (pcC l) ex) (hg:FnIn (env Try.prog) g) (hseq:TellA (env Try.prog) pcV g k ps Hb) (hb:Le Hb H) (hout:∀ b,blk a=some b->Hb b=none) (hs:l.length+ps.length<=100000)
 (hq:∀ a' c' ex' H',Le Hb H'->Gr H' 3 a' (l++ps).length c' (pcC (l++ps)) ex'->(∀ b,blk a'=some b->Hb b=none)->Q (.slice a' (l++ps).length c') H') :
 Does (env Try.prog) 29 [.slice a l.length c,.func (.func g) #[] k.toArray] H Q:=by
 refine fn29 ok fun n1 h1=>⟨hg,fun n2 L3 h2 hR=>?_⟩
 have n12:n1≠n2:=ne_of (if_pos rfl:(H.new n1 (mkEnt [.slice a l.length c] 0)) n1=_) h2
 have hHn2:H n2=none:=(Le.new h1).none h2
 have bx:BoxI (H.new n1 (mkEnt [.slice a l.length c] 0)) n1 (.slice a l.length c):=BoxI.mk0 (if_pos rfl)
 have hb1:Hb n1=none:=hb.none h1
 have hb2:Hb n2=none:=hb.none hHn2
 refine hseq n2 (fun r H1=>H1 n2=some (lpE L3 0 none)/\Le Hb H1/\∃ dn,dn++r=ps/\∃ a' c' ex',BoxI H1 n1 (.slice a' (l++dn).length c')/\Gr H1 3 a' (l++dn).length c' (pcC (l++dn)) ex'/\blk a'≠some n1/\blk a'≠some n2/\∀ b,blk a'=some b->Hb b=none) _ _ ?_ (fun r H1 h=>h.2.1) ?_ ?_ ?_
 .rintro r X H1 ⟨q1,q2,dn,q3,a',c',ex',q4,q5,q6,q7,q8⟩ hXH
  exact ⟨hXH _ _ q1,q2.trans hXH,dn,q3,a',c',ex',q4.up hXH,q5.agree fun k e _ z=>hXH _ _ z,q6,q7,q8⟩
 .rintro p r H1 ⟨q1,q2,dn,q3,a',c',ex',q4,q5,q6,q7,q8⟩
  have hlen:dn.length+(r.length+1)=ps.length:=by rw [<- q3]; simp
  refine hR p.1 p.2.1 p.2.2 H1 _ q1 ⟨a',_,c',(q4.del n12).ld,fun n12' h12 n13 h13=>?_⟩
  have l12:=Le.new (e:=mkEnt [Value.bool p.1,.int .i64 p.2.1,.int .i64 p.2.2] 0) h12
  have hGd:Gr ((H1.del n2).new n12' (mkEnt [Value.bool p.1,.int .i64 p.2.1,.int .i64 p.2.2] 0)) 3 a' (l++dn).length c' (pcC (l++dn)) ex':=q5.agree fun k e z1 z2=>l12 _ _ (del_at z2 (fun z=>q7 (by rw [z1,z])))
  obtain ⟨a'',H',ex'',f1,f2,_,f4,f5⟩:=hGd.append (ti:=⟨3,24,true,3,0,0,[(0,1),(1,1),(2,1)],[.bool false,.int .i64 0,.int .i64 0]⟩) (new:=[.bool p.1,.int .i64 p.2.1,.int .i64 p.2.2]) h13 rfl (by rw [List.length_append]; omega) (by decide) (by decide)
  have hl:(l++(dn++[p])).length=(l++dn).length+1:=by simp; omega
  have hbx:BoxI H' n1 (.slice a' (l++dn).length c'):=by
   obtain ⟨e,z1,z2,z3⟩:=(q4.del n12).ex
   exact ⟨e,f4 _ _ (l12 _ _ z1) (fun z=>q6 z),z2,z3⟩
  have hne1:blk a''≠some n1:=fun z=>by
   rcases f5 _ z with y | y
   .exact q6 y
   .obtain ⟨e,z1,z2,z3⟩:=(q4.del n12).ex
    rw [<- y,l12 _ _ z1] at h13; cases h13
  refine ⟨1,_,knew_of (lit_kold (if_pos rfl) rfl),a'',_,unkU,H',f1,⟨[.slice a' (l++dn).length c'],rfl,hbx.ld⟩,hbx.may,fun hm=>⟨rfl,if_pos rfl,fun k e z=>?_,dn++[p],by rw [List.append_assoc]; exact q3,a'',unkU,ex'',?_,?_,hne1,?_,fun b z=>?_⟩⟩
  .refine new_at (put_ne (ne_of z hb1) (f4 _ _ (l12 _ _ (del_at (q2 _ _ z) (ne_of z hb2))) (fun y=>by rw [q8 _ y] at z; cases z))) (ne_of z hb2)
  .rw [hl]; exact (hbx.put _).new n12
  .rw [hl,<- List.append_assoc,pcC_app]
   refine f2.agree fun k e z1 z2=>new_at (put_ne (fun z=>hne1 (by rw [z1,z])) z2) (fun z=>?_)
   subst z
   have:=put_ne (o:=0) (vs:=[.slice a'' ((l++dn).length+1) unkU]) n12.symm z2
   rw [hm] at this; cases this
  .intro z
   cases hH:H' n2 with
   | none =>
     obtain ⟨e,k1⟩:=f2.has z
     rw [k1] at hH; cases hH
   | some e =>
     have:=put_ne (o:=0) (vs:=[.slice a'' ((l++dn).length+1) unkU]) n12.symm hH
     rw [hm] at this; cases this
  .rcases f5 _ z with y | y
   .exact q8 _ y
   .cases hk:Hb b with
    | none=>rfl
    | some e =>
      have:=l12 _ _ (del_at (q2 _ _ hk) (ne_of hk hb2))
      rw [y,h13] at this; cases this
 .rintro H1 ⟨q1,q2,dn,q3,a',c',ex',q4,q5,q6,q7,q8⟩
  rw [List.append_nil] at q3
  subst q3
  exact .inl ⟨q1,a',_,c',(q4.del n12).ld,hq a' c' ex' _ (le_del q2 hb2) (q5.agree fun k e z1 z2=>del_at z2 (fun z=>q7 (by rw [z1,z]))) q8⟩
 .have hne:blk a≠some n1:=fun z=>by
   obtain ⟨e,k1⟩:=hG.has z
   rw [k1] at h1; cases h1
  have hne2:blk a≠some n2:=fun z=>by
   obtain ⟨e,k1⟩:=hG.has z
   rw [k1] at hHn2; cases hHn2
  refine ⟨if_pos rfl,(hb.trans (Le.new h1)).trans (Le.new h2),[],rfl,a,c,ex,?_,?_,hne,hne2,hout⟩
  .rw [List.append_nil]; exact bx.new n12
  .rw [List.append_nil]; exact hG.agree fun k e _ z=>Le.new h2 _ _ (Le.new h1 _ _ z)
theorem c27 {g:Nat} {ps:List Pc} {k:List Value} {H:KH} {Q:PQ} (hg:FnIn (env Try.prog) g) (hseq:TellA (env Try.prog) pcV g k ps H) (hs:ps.length<=100000)
 (hq:∀ a' c' ex' H',Le H H'->Gr H' 3 a' ps.length c' (pcC ps) ex'->(∀ b,blk a'=some b->H b=none)->Q (.slice a' ps.length c') H') :
 Does (env Try.prog) 27 [.func (.func g) #[] k.toArray] H Q :=
 fn27 ok (c29 ok (l:=[]) .nil hg hseq (Le.refl H) (fun b z=>by cases z) (by simpa using hs) fun a' c' ex' H' h1 h2 h3=>⟨a',_,c',rfl,hq a' c' ex' H' h1 h2 h3⟩)
end
end Va
end Go.Proofs.Ytkdjmdcnfbolkaa
namespace Go.Ew
open Go.Ev Go.Deep
def byL (s:ByteArray):List UInt8:=s.data.toList
theorem byL_app (s t:ByteArray):byL (s++t)=byL s++byL t:=by unfold byL; rw [ByteArray.data_append,Array.toList_append]
theorem byL_len (s:ByteArray):(byL s).length=s.size:=by unfold byL; rw [Array.length_toList]; rfl
theorem byL_inj {s t:ByteArray} (h:byL s=byL t):s=t:=by
 apply ByteArray.ext
 exact Array.toList_inj.1 h
theorem byL_cut (s:ByteArray) (a b:Int) (ha:0<=a):byL (strCut s a b)=((byL s).drop a.toNat).take (b.toNat-a.toNat):=by
 unfold byL strCut
 simp only [ByteArray.data_extract,Array.toList_extract,List.extract_eq_take_drop]
theorem byL_cutP {o n:ByteArray} {p:Pc} (h:InP o n p):byL (cutP o n p)=((byL (srcP o n p)).drop p.2.1.toNat).take p.2.2.toNat:=by
 obtain ⟨h1,h2,h3⟩:=h
 unfold cutP
 rw [byL_cut _ _ _ h2]
 congr 1
 omega
theorem byL_splT (s p:ByteArray) (x m:Nat):byL (splT s x m p)=(byL s).take x++byL p++(byL s).drop (x+m):=rfl
theorem cuts_cons (lo hi d:Int) (p:Pc) (r:List Pc):cutsP lo hi d (p :: r)=if max (lo-d) 0<min (hi-d) p.2.2 then (p.1,p.2.1+max (lo-d) 0,min (hi-d) p.2.2-max (lo-d) 0) :: cutsP lo hi (d+p.2.2) r else cutsP lo hi (d+p.2.2) r:=rfl
theorem part_in {o n:ByteArray} {p:Pc} {lo hi d:Int} (h:InP o n p) (hc:max (lo-d) 0<min (hi-d) p.2.2):InP o n (p.1,p.2.1+max (lo-d) 0,min (hi-d) p.2.2-max (lo-d) 0):=by
 obtain ⟨h1,h2,h3⟩:=h
 have e:srcP o n (p.1,p.2.1+max (lo-d) 0,min (hi-d) p.2.2-max (lo-d) 0)=srcP o n p:=rfl
 refine ⟨by simp only; omega,by simp only; omega,?_⟩
 rw [e]
 simp only; omega
theorem cutsP_in {o n:ByteArray} {lo hi:Int}:∀ {l:List Pc} {d:Int},(∀ p∈l,InP o n p)->∀ q∈cutsP lo hi d l,InP o n q
 | [],_,_,q,hq=>by cases hq
 | p :: r,d,h,q,hq=>by
   unfold cutsP at hq
   split at hq
   .rename_i hc
    rcases List.mem_cons.1 hq with rfl | hq
    .exact part_in (h p (by simp)) hc
    .exact cutsP_in (fun p hp=>h p (by simp [hp])) q hq
   .exact cutsP_in (fun p hp=>h p (by simp [hp])) q hq
theorem cutsP_tx {o n:ByteArray} {lo hi:Int}:∀ {l:List Pc} {d:Int},(∀ p∈l,InP o n p)->byL (txP o n (cutsP lo hi d l))=((byL (txP o n l)).take (hi-d).toNat).drop (lo-d).toNat
 | [],_,_=>by
   have e:byL (txP o n [])=[]:=rfl
   show byL (txP o n [])=_
   rw [e]; simp
 | p :: r,d,h=>by
   have hp:=h p (by simp)
   have ih:=cutsP_tx (lo:=lo) (hi:=hi) (l:=r) (d:=d+p.2.2) fun q hq=>h q (by simp [hq])
   have hcut:=byL_cutP hp
   have hlen:(byL (cutP o n p)).length=p.2.2.toNat:=by
    rw [byL_len]
    have:=cutP_size hp
    omega
   obtain ⟨h1,h2,h3⟩:=hp
   have e1:(hi-(d+p.2.2)).toNat=(hi-d).toNat-p.2.2.toNat:=by omega
   have e2:(lo-(d+p.2.2)).toNat=(lo-d).toNat-p.2.2.toNat:=by omega
   rw [e1,e2] at ih
   have hC:byL (txP o n (p :: r))=byL (cutP o n p)++byL (txP o n r):=byL_app _ _
   rw [hC,List.take_append,List.drop_append,hlen]
   have hrest:((byL (txP o n r)).take ((hi-d).toNat-p.2.2.toNat)).drop ((lo-d).toNat-((byL (cutP o n p)).take (hi-d).toNat).length)=((byL (txP o n r)).take ((hi-d).toNat-p.2.2.toNat)).drop ((lo-d).toNat-p.2.2.toNat):=by
    rw [List.length_take,hlen]
    by_cases hk:p.2.2.toNat<=(hi-d).toNat
    .rw [Nat.min_eq_right hk]
    .have:(hi-d).toNat-p.2.2.toNat=0:=by omega
     rw [this,List.take_zero]
     simp
   rw [hrest,<- ih,cuts_cons]
   split
   .rename_i hc
    have hpt:=byL_cutP (part_in (o:=o) (n:=n) (p:=p) (lo:=lo) (hi:=hi) (d:=d) ⟨h1,h2,h3⟩ hc)
    have es:srcP o n (p.1,p.2.1+max (lo-d) 0,min (hi-d) p.2.2-max (lo-d) 0)=srcP o n p:=rfl
    rw [es] at hpt
    show byL (cutP o n _++txP o n _)=_
    rw [byL_app,hpt,hcut]
    congr 1
    rw [List.take_take,List.drop_take,List.drop_drop]
    congr 1
    .simp only; omega
    .congr 1
     simp only; omega
   .rename_i hc
    have:((byL (cutP o n p)).take (hi-d).toNat).drop (lo-d).toNat=[]:=by
     apply List.drop_eq_nil_of_le
     rw [List.length_take,hlen]
     omega
    rw [this,List.nil_append]
theorem more_in {o n t:ByteArray} {p:Pc} (h:InP o n p):InP o (n++t) p:=by
 obtain ⟨h1,h2,h3⟩:=h
 refine ⟨h1,h2,?_⟩
 unfold srcP at h3 ⊢
 split
 .rename_i hb
  rw [if_pos hb] at h3
  rw [ByteArray.size_append]; omega
 .rename_i hb
  rw [if_neg hb] at h3
  exact h3
theorem more_cut {o n t:ByteArray} {p:Pc} (h:InP o n p):cutP o (n++t) p=cutP o n p:=by
 apply byL_inj
 rw [byL_cutP (more_in h),byL_cutP h]
 obtain ⟨h1,h2,h3⟩:=h
 unfold srcP at h3 ⊢
 split
 .rename_i hb
  rw [if_pos hb] at h3
  have:=byL_len n
  rw [byL_app,List.drop_append_of_le_length (by omega),List.take_append_of_le_length (by rw [List.length_drop]; omega)]
 .rfl
theorem more_tx {o n t:ByteArray}:∀ {l:List Pc},(∀ p∈l,InP o n p)->txP o (n++t) l=txP o n l
 | [],_=>rfl
 | p :: r,h=>by
   show cutP o (n++t) p++txP o (n++t) r=_
   rw [more_cut (h p (by simp)),more_tx fun q hq=>h q (by simp [hq])]
   rfl
theorem gdP_all {o n:ByteArray} {l:List Pc} (h:∀ p∈l,InP o n p):gdP o n l=l:=List.filter_eq_self.2 fun p hp=>decide_eq_true (h p hp)
def splP (n put:ByteArray) (x m N:Nat) (l:List Pc):List Pc :=
 (if put.size=0 then cutsP 0 x 0 l else cutsP 0 x 0 l++[(true,((n.size:Nat):Int),((put.size:Nat):Int))])++cutsP (x+m) N 0 l
theorem new_in {o n put:ByteArray} (h:put.size≠0):InP o (n++put) (true,((n.size:Nat):Int),((put.size:Nat):Int)):=by
 refine ⟨by simp only; omega,by simp only; omega,?_⟩
 unfold srcP
 rw [if_pos rfl,ByteArray.size_append]
 simp only; omega
theorem splP_in {o n put:ByteArray} {x m N:Nat} {l:List Pc} (h:∀ p∈l,InP o n p):∀ q∈splP n put x m N l,InP o (n++put) q:=by
 intro q hq
 unfold splP at hq
 rcases List.mem_append.1 hq with hq | hq
 .split at hq
  .exact more_in (cutsP_in h q hq)
  .rename_i h0
   rcases List.mem_append.1 hq with hq | hq
   .exact more_in (cutsP_in h q hq)
   .rw [List.mem_singleton.1 hq]; exact new_in h0
 .exact more_in (cutsP_in h q hq)
theorem splP_tx {o n put:ByteArray} {x m N:Nat} {l:List Pc} (h:∀ p∈l,InP o n p) (hN:(txP o n l).size=N):txP o (n++put) (splP n put x m N l)=splT (txP o n l) x m put:=by
 apply byL_inj
 rw [byL_splT]
 have hL:=byL_len (txP o n l)
 unfold splP
 rw [txP_app,byL_app]
 have t2:byL (txP o (n++put) (cutsP (x+m) N 0 l))=(byL (txP o n l)).drop (x+m):=by
  rw [more_tx (cutsP_in h),cutsP_tx h]
  have e1:(((N:Nat):Int)-0).toNat=N:=by omega
  have e2:(((x:Nat):Int)+((m:Nat):Int)-0).toNat=x+m:=by omega
  rw [e1,e2,List.take_of_length_le (by omega)]
 rw [t2]
 congr 1
 have t1:byL (txP o (n++put) (cutsP 0 x 0 l))=(byL (txP o n l)).take x:=by
  rw [more_tx (cutsP_in h),cutsP_tx h]
  have e1:(((x:Nat):Int)-0).toNat=x:=by omega
  rw [e1]
  simp
 split
 .rename_i h0
  have:byL put=[]:=List.eq_nil_of_length_eq_zero (by rw [byL_len]; exact h0)
  rw [t1,this,List.append_nil]
 .rename_i h0
  rw [txP_app,byL_app,t1]
  congr 1
  show byL (cutP o (n++put) _++txP o (n++put) [])=_
  have e:txP o (n++put) []=⟨#[]⟩:=rfl
  rw [e,ba_empty_r,byL_cutP (new_in h0)]
  unfold srcP
  rw [if_pos rfl,byL_app]
  have:=byL_len n
  have hp:=byL_len put
  simp only [Int.toNat_natCast]
  rw [<- this,List.drop_left,<- hp,List.take_length]
theorem cutsP_len (lo hi:Int):∀ (l:List Pc) (d:Int),(cutsP lo hi d l).length<=l.length
 | [],_=>Nat.le_refl _
 | p :: r,d=>by
   have:=cutsP_len lo hi r (d+p.2.2)
   unfold cutsP
   split<;>simp only [List.length_cons]<;>omega
theorem cuts_two {o n:ByteArray} {x m N:Nat}:∀ {l:List Pc} {d:Int},(∀ p∈l,InP o n p)->(cutsP 0 x d l).length+(cutsP (x+m) N d l).length<=l.length+(if d<x then 1 else 0)
 | [],d,_=>Nat.zero_le _
 | p :: r,d,h=>by
   have h1:=(h p (by simp)).1
   have ih:=cuts_two (x:=x) (m:=m) (N:=N) (l:=r) (d:=d+p.2.2) fun q hq=>h q (by simp [hq])
   unfold cutsP
   split<;>rename_i c1<;>split<;>rename_i c2<;>simp only [List.length_cons]<;>split at ih<;>split<;>omega
theorem splP_len {o n put:ByteArray} {x m N:Nat} {l:List Pc} (h:∀ p∈l,InP o n p):(splP n put x m N l).length<=l.length+2:=by
 have:=cuts_two (x:=x) (m:=m) (N:=N) (d:=0) h
 unfold splP
 rw [List.length_append]
 have:(if (0:Int)<((x:Nat):Int) then 1 else 0)<=1:=by split<;>omega
 split
 .omega
 .rw [List.length_append]
  simp only [List.length_cons,List.length_nil]
  omega
theorem new_le {X H:KH} {n:Nat} {e:Ent} (h:Le X H):Le (X.new n e) (H.new n e):=fun k e' q=>by
 simp only [KH.new] at q ⊢
 by_cases z:k=n
 .rw [if_pos z] at q ⊢; exact q
 .rw [if_neg z] at q ⊢; exact h _ _ q
def opP (s:ByteArray):List Pc:=if s.size=0 then [] else [(false,0,((s.size:Nat):Int))]
theorem opP_in (s:ByteArray):∀ p∈opP s,InP s ⟨#[]⟩ p:=by
 intro p hp
 unfold opP at hp
 split at hp
 .cases hp
 .rw [List.mem_singleton.1 hp]
  refine ⟨by simp only; omega,by simp only; omega,?_⟩
  unfold srcP
  rw [if_neg (by simp)]
  simp only; omega
theorem opP_tx (s:ByteArray):txP s ⟨#[]⟩ (opP s)=s:=by
 apply byL_inj
 by_cases h:s.size=0
 .have e:opP s=[]:=if_pos h
  have:byL s=[]:=List.eq_nil_of_length_eq_zero (by rw [byL_len]; exact h)
  rw [e,this]; rfl
 .have e:opP s=[(false,0,((s.size:Nat):Int))]:=if_neg h
  have hi:=opP_in s (false,0,((s.size:Nat):Int)) (by rw [e]; simp)
  rw [e]
  show byL (cutP s ⟨#[]⟩ _++⟨#[]⟩)=_
  rw [ba_empty_r,byL_cutP hi]
  unfold srcP
  rw [if_neg (by simp)]
  have:=byL_len s
  simp only [Int.toNat_natCast,Int.toNat_zero,List.drop_zero]
  rw [<- this,List.take_length]
theorem opP_len (s:ByteArray):(opP s).length<=1:=by unfold opP; split<;>simp
theorem in_lt {o n:ByteArray} {p:Pc} (h:InP o n p) (ho:o.size<=1000000) (hn:n.size<=1000000):p.2.1<9223372036854775808:=by
 obtain ⟨h1,h2,h3⟩:=h
 have:(srcP o n p).size<=1000000:=by unfold srcP; split<;>omega
 omega
end Go.Ew
namespace Go.Proofs.Ytkdjmdcnfbolkaa
open Go.Ev Go.Ew
namespace Va
section
variable (ok : EnvOk (env Try.prog))
include ok
theorem c8 {s:ByteArray} {H:KH} {Q:PQ} (hs:s.size<=1000000) (hq:∀ a' c' H',Le H H'->kold H' 3 a' (opP s).length=some (pcC (opP s))->Q (.agg #[.string s,.string ⟨#[]⟩,.slice a' (opP s).length c']) H'):Does (env Try.prog) 8 [.string s] H Q:=by
 refine fn8 ok (c14 hs ⟨_,rfl,c15 ok (l:=[]) (p:=(false,0,((s.size:Nat):Int))) .nil (by decide) (fun h0=>?_) fun h0 a' ex' H' h1 h2 h3=>?_⟩)
 .have h0:s.size=0:=by have h0:((s.size:Nat):Int)=0:=h0; omega
  have e:opP s=[]:=if_pos h0
  have:=hq none 0 H (Le.refl H) (by rw [e]; rfl)
  rw [e] at this
  exact ⟨_,_,_,rfl,this⟩
 .have h0:s.size≠0:=fun z=>h0 (by show ((s.size:Nat):Int)=0; omega)
  have e:opP s=[(false,0,((s.size:Nat):Int))]:=if_neg h0
  have:=hq a' unkU H' (fun k e q=>h1 _ _ q (by intro z; cases z)) (by rw [e]; exact h3.row)
  rw [e] at this
  exact ⟨_,_,_,rfl,this⟩
theorem c19 {o n put:ByteArray} {a:OA} {c x m:Nat} {l:List Pc} {H:KH} {Q:PQ} (hl:kold H 3 a l.length=some (pcC l)) (ho:o.size<=500000) (hn:n.size<=500000) (hp:put.size<=500000) (hv:∀ p∈l,InP o n p) (hs:l.length<=10000) (hT:(txP o n l).size<=500000) (hxm:x+m<=(txP o n l).size)
 (hq:∀ a' c' H',Le H H'->kold H' 3 a' (splP n put x m (txP o n l).size l).length=some (pcC (splP n put x m (txP o n l).size l))->Q (.slice a' (splP n put x m (txP o n l).size l).length c') H') :
 Does (env Try.prog) 19 [.agg #[.string o,.string n,.slice a l.length c],.agg #[.int .i64 ((x:Nat):Int),.int .i64 ((m:Nat):Int),.string put]] H Q:=by
 have hg:=gdP_all hv
 have hsz:=txP_size hv
 have hx:∀ p∈l,p.2.1<9223372036854775808:=fun p hp=>in_lt (hv p hp) (by omega) (by omega)
 have hw:IntKind.wrap .i64 (((x:Nat):Int)+((m:Nat):Int))=((x:Nat):Int)+((m:Nat):Int):=wrap64 (by omega) (by omega)
 have hlen1:=cutsP_len 0 ((x:Nat):Int) l 0
 have hlen2:=cutsP_len (((x:Nat):Int)+((m:Nat):Int)) (((txP o n l).size:Nat):Int) l 0
 refine fn19 ok (c28 ok fun n1 n2 n3 H2 hl2 k1 k2 k3=>⟨32,_,rfl,c27 ok (ps:=cutsP 0 x 0 l) (k:=[.pointer (some ⟨n1,0,none⟩),.pointer (some ⟨n2,0,none⟩),.pointer (some ⟨n3,0,none⟩)]) ⟨(by kernel_rfl)⟩ ?_ (by omega) fun a7 c9 ex H6 hl6 hG6 hout6=>⟨a7,_,c9,rfl,?_⟩⟩)
 .have:=c32 ok k1 k2 k3 (hl2.kold hl) (by omega) (by omega) hx (by omega) (by rw [hg]; omega) ⟨by omega,by omega⟩ ⟨by omega,by omega⟩
  rw [hg] at this
  exact this
 have key:∀ (l2:List Pc) (a12:OA) (c14:Nat) (ex12:List Value) (H11:KH),splP n put x m (txP o n l).size l=l2++cutsP (x+m) (txP o n l).size 0 l->l2.length<=l.length+1->Le H2 H11->Gr H11 3 a12 l2.length c14 (pcC l2) ex12->(∀ b,blk a12=some b->H2 b=none)->
  Does (env Try.prog) 12 [.agg #[.string o,.string n,.slice a l.length c]] H11 fun v15 H16=>∃ x17:Int,v15 = .int .i64 x17/\Does (env Try.prog) 28 [.agg #[.string o,.string n,.slice a l.length c],.int .i64 (((x:Nat):Int)+((m:Nat):Int)),.int .i64 x17] H16 fun v18 H19=>∃ (n20:Nat) (l21:List Value),v18 = .func (.func n20) #[] l21.toArray/\Does (env Try.prog) 29 [.slice a12 l2.length c14,.func (.func n20) #[] l21.toArray] H19 fun v22 H23=>∃ (a24:OA) (n25 n26:Nat),v22 = .slice a24 n25 n26/\Q (.slice a24 n25 n26) H23:=by
  intro l2 a12 c14 ex12 H11 he hl2' hle hG hout
  refine c12 ok ((hl2.trans hle).kold hl) (by omega) (by omega) hx (by omega) (by rw [hg]; omega) fun H16 h16=>⟨_,rfl,fn28 ok fun m1 g1 m2 g2 m3 g3=>⟨32,[.pointer (some ⟨m1,0,none⟩),.pointer (some ⟨m2,0,none⟩),.pointer (some ⟨m3,0,none⟩)],rfl,?_⟩⟩
  rw [hg]
  have leH16:Le H H16:=(hl2.trans hle).trans h16
  obtain ⟨X,hX1,hX2,hX3⟩:∃ X:KH,Le X H16/\(∀ b,blk a12=some b->X b=none)/\Le H X:=by
   cases hb:blk a12 with
   | none=>exact ⟨H16,Le.refl _,fun b z=>(by cases z),leH16⟩
   | some b=>exact ⟨H16.del b,del_le _ _,fun b' z=>(by cases z; simp [KH.del]),le_del leH16 (hl2.none (hout b hb))⟩
  have d1:X m1=none:=hX1.none g1
  have d2:(X.new m1 (mkEnt [.string o,.string n,.slice a l.length c] 0)) m2=none:=(new_le hX1).none g2
  have d3:((X.new m1 (mkEnt [.string o,.string n,.slice a l.length c] 0)).new m2 (mkEnt [.int .i64 (((x:Nat):Int)+((m:Nat):Int))] 0)) m3=none:=(new_le (new_le hX1)).none g3
  have u1:ld (((X.new m1 (mkEnt [.string o,.string n,.slice a l.length c] 0)).new m2 (mkEnt [.int .i64 (((x:Nat):Int)+((m:Nat):Int))] 0)).new m3 (mkEnt [.int .i64 (lnP l)] 0)) ⟨m1,0,none⟩ [.string o,.string n,.slice a l.length c]:=⟨rfl,_,Le.new d3 _ _ (Le.new d2 _ _ (if_pos rfl)),mk_rd (cs:=[.string o,.string n,.slice a l.length c]) (u:=0)⟩
  have u2:ld (((X.new m1 (mkEnt [.string o,.string n,.slice a l.length c] 0)).new m2 (mkEnt [.int .i64 (((x:Nat):Int)+((m:Nat):Int))] 0)).new m3 (mkEnt [.int .i64 (lnP l)] 0)) ⟨m2,0,none⟩ [.int .i64 (((x:Nat):Int)+((m:Nat):Int))]:=⟨rfl,_,Le.new d3 _ _ (if_pos rfl),mk_rd (cs:=[.int .i64 (((x:Nat):Int)+((m:Nat):Int))]) (u:=0)⟩
  have u3:ld (((X.new m1 (mkEnt [.string o,.string n,.slice a l.length c] 0)).new m2 (mkEnt [.int .i64 (((x:Nat):Int)+((m:Nat):Int))] 0)).new m3 (mkEnt [.int .i64 (lnP l)] 0)) ⟨m3,0,none⟩ [.int .i64 (lnP l)]:=⟨rfl,_,if_pos rfl,mk_rd (cs:=[.int .i64 (lnP l)]) (u:=0)⟩
  have leX:Le X (((X.new m1 (mkEnt [.string o,.string n,.slice a l.length c] 0)).new m2 (mkEnt [.int .i64 (((x:Nat):Int)+((m:Nat):Int))] 0)).new m3 (mkEnt [.int .i64 (lnP l)] 0)):=((Le.new d1).trans (Le.new d2)).trans (Le.new d3)
  have hseq:=c32 ok u1 u2 u3 ((hX3.trans leX).kold hl) (by omega) (by omega) hx (by omega) (by rw [hg]; omega) ⟨by omega,by omega⟩ ⟨by omega,by omega⟩
  rw [hg,<- hsz] at hseq
  rw [<- hsz] at *
  refine c29 ok (l:=l2) (hG.agree (H':=_) fun k e _ z=>?_) ⟨(by kernel_rfl)⟩ hseq (new_le (new_le (new_le hX1))) (fun b hb=>?_) (by omega) fun a' c' ex' H' r1 r2 r3=>⟨_,_,_,rfl,?_⟩
  .exact Le.new g3 _ _ (Le.new g2 _ _ (Le.new g1 _ _ (h16 _ _ z)))
  .obtain ⟨e,he⟩:=hG.has hb
   have he:=h16 _ _ he
   have b1:b≠m1:=ne_of he g1
   have he2:=Le.new (e:=mkEnt [.string o,.string n,.slice a l.length c] 0) g1 _ _ he
   have b2:b≠m2:=ne_of he2 g2
   have b3:b≠m3:=ne_of (Le.new (e:=mkEnt [.int .i64 (((x:Nat):Int)+((m:Nat):Int))] 0) g2 _ _ he2) g3
   simp only [KH.new]
   rw [if_neg b3,if_neg b2,if_neg b1]
   exact hX2 b hb
  .have:=hq a' c' H' ((hX3.trans leX).trans r1) (by rw [he]; exact r2.row)
   rw [he] at this
   exact this
 rw [hw]
 refine c15 ok (p:=(true,((n.size:Nat):Int),((put.size:Nat):Int))) hG6 (by omega) (fun h0=>⟨_,_,_,rfl,trivial,?_⟩) fun h0 a' ex' H' h1 h2 h3=>⟨_,_,_,rfl,trivial,?_⟩
 .have h0:put.size=0:=by have h0:((put.size:Nat):Int)=0:=h0; omega
  refine (key _ _ _ _ _ (by unfold splP; rw [if_pos h0]) (by omega) hl6 hG6 hout6).post ?_
  rintro v15 H16 ⟨x17,e1,hD⟩
  refine ⟨x17,e1,⟨rfl,rfl,⟨rfl,rfl⟩,rfl,⟨rfl,rfl⟩,rfl,rfl,trivial⟩,hD.post ?_⟩
  rintro v18 H19 ⟨n20,l21,e2,hD⟩
  refine ⟨n20,l21,e2,⟨rfl,trivial⟩,hD.post ?_⟩
  rintro v22 H23 ⟨a24,n25,n26,e3,hQ⟩
  exact ⟨a24,n25,n26,e3,trivial,hQ⟩
 .have h0:put.size≠0:=fun z=>h0 (by show ((put.size:Nat):Int)=0; omega)
  refine (key _ _ _ _ _ (by unfold splP; rw [if_neg h0]) (by rw [List.length_append]; simp only [List.length_cons,List.length_nil]; omega) (fun k e q=>h1 _ _ (hl6 _ _ q) (fun z=>by rw [hout6 _ z] at q; cases q)) h3 (fun b hb=>?_)).post ?_
  .rcases h2 b hb with z | z
   .exact hout6 _ z
   .exact hl6.none z
  rintro v15 H16 ⟨x17,e1,hD⟩
  refine ⟨x17,e1,⟨rfl,rfl,⟨rfl,rfl⟩,rfl,⟨rfl,rfl⟩,rfl,rfl,trivial⟩,hD.post ?_⟩
  rintro v18 H19 ⟨n20,l21,e2,hD⟩
  refine ⟨n20,l21,e2,⟨rfl,trivial⟩,hD.post ?_⟩
  rintro v22 H23 ⟨a24,n25,n26,e3,hQ⟩
  exact ⟨a24,n25,n26,e3,trivial,hQ⟩
theorem c9 {o n put:ByteArray} {a:OA} {c:Nat} {p0 p1:Int} {l:List Pc} {H:KH} {Q:PQ} (h0:p0<9223372036854775808) (hl:kold H 3 a l.length=some (pcC l)) (ho:o.size<=500000) (hn:n.size<=500000) (hp:put.size<=500000) (hv:∀ p∈l,InP o n p) (hs:l.length<=10000) (hT:(txP o n l).size<=500000)
 (hno:¬ (0<=p0/\0<=p1/\p1+p0<=(((txP o n l).size:Nat):Int))->∀ a' c' H',Le H H'->kold H' 3 a' l.length=some (pcC l)->Q (.tuple #[.agg #[.string o,.string n,.slice a' l.length c'],.bool false]) H')
 (hq:∀ x m:Nat,p0=x->p1=m->x+m<=(txP o n l).size->∀ a' c' H',Le H H'->kold H' 3 a' (splP n put x m (txP o n l).size l).length=some (pcC (splP n put x m (txP o n l).size l))->Q (.tuple #[.agg #[.string o,.string (n++put),.slice a' (splP n put x m (txP o n l).size l).length c'],.bool true]) H') :
 Does (env Try.prog) 9 [.agg #[.string o,.string n,.slice a l.length c],.agg #[.int .i64 p0,.int .i64 p1,.string put]] H Q:=by
 have hg:=gdP_all hv
 have hsz:=txP_size hv
 have hx:∀ p∈l,p.2.1<9223372036854775808:=fun p hp=>in_lt (hv p hp) (by omega) (by omega)
 refine fn9 ok ⟨trivial,c12 ok hl (by omega) (by omega) hx (by omega) (by rw [hg]; omega) fun H2 h2=>⟨_,rfl,⟨⟨rfl,rfl⟩,rfl,⟨rfl,rfl⟩,rfl,trivial⟩,?_⟩⟩
 rw [hg,<- hsz]
 refine c16 ok h0 (by omega) ⟨_,rfl,trivial,fun hb=>⟨trivial,?_⟩,fun hb=>⟨trivial,?_⟩⟩
 .have hb:¬ (0<=p0/\0<=p1/\p1+p0<=(((txP o n l).size:Nat):Int)):=fun z=>by rw [decide_eq_true z] at hb; cases hb
  exact c14 (by omega) ⟨_,rfl,⟨⟨rfl,rfl⟩,rfl,⟨rfl,rfl⟩,rfl,trivial⟩,c14 (by omega) ⟨_,rfl,⟨⟨rfl,rfl⟩,rfl,trivial⟩,c17 ok (h2.kold hl) (by omega) fun a' c' H' h3 h4=>⟨_,_,_,rfl,trivial,trivial,hno hb a' c' H' (h2.trans h3) h4⟩⟩⟩
 .have hb:0<=p0/\0<=p1/\p1+p0<=(((txP o n l).size:Nat):Int):=of_decide_eq_true (by simpa using hb)
  obtain ⟨x,rfl⟩:=Int.eq_ofNat_of_zero_le hb.1
  obtain ⟨m,rfl⟩:=Int.eq_ofNat_of_zero_le hb.2.1
  refine c14 (by omega) ⟨_,rfl,⟨⟨rfl,rfl⟩,rfl,⟨rfl,rfl⟩,rfl,rfl,rfl,trivial⟩,c18 ok (by omega) (by omega) fun H5 h5=>⟨_,rfl,⟨rfl,rfl,trivial⟩,?_⟩⟩
  exact c19 ok ((h2.trans h5).kold hl) ho hn hp hv hs hT (by omega) fun a' c' H' h6 h7=>⟨_,_,_,rfl,trivial,trivial,hq x m rfl rfl (by omega) a' c' H' ((h2.trans h5).trans h6) h7⟩
end
end Va
end Go.Proofs.Ytkdjmdcnfbolkaa
namespace Go.Ew
open Go.Ev Go.Deep
def SplA (H:KH) (a:OA) (n:Nat):Prop:=∀ i,i<n->∃ b o x y s,a=some ⟨b,o,none⟩/\ld H ⟨b,o+i*3,none⟩ [.int .i64 x,.int .i64 y,.string s]/\ld H ⟨b,o+i*3+2,none⟩ [.string s]/\x<9223372036854775808
theorem SplA.up {H H':KH} {a:OA} {n:Nat} (h:SplA H a n) (hl:Le H H'):SplA H' a n:=fun i hi=>by
 obtain ⟨b,o,x,y,s,h1,h2,h3,h4⟩:=h i hi
 exact ⟨b,o,x,y,s,h1,hl.ld h2,hl.ld h3,h4⟩
end Go.Ew
namespace Go.Proofs.Ytkdjmdcnfbolkaa
open Go.Ev Go.Ew
namespace Va
section
variable (ok : EnvOk (env Try.prog))
include ok
omit ok in
theorem c7 {H:KH} {Q:PQ} (hq:Q (.bool true) H):Does (env Try.prog) 7 [] H Q:=does_true (by kernel_rfl) (by kernel_rfl) (by kernel_rfl) hq
theorem c3 {s:ByteArray} {a:OA} {n c:Nat} {H:KH} (hA:SplA H a n):Does (env Try.prog) 3 [.string s,.slice a n c] H fun v _=>v = .bool true:=by
 refine fn3 ok (c7 ⟨true,rfl,fun h=>(by cases h),fun _=>⟨fun _=>rfl,fun l0=>⟨fun _=>rfl,fun l1=>?_⟩⟩⟩)
 have l0:s.size<=60:=by have:=of_decide_eq_false l0; omega
 have l1:n<=20:=by have:=of_decide_eq_false l1; omega
 refine c8 ok (by omega) fun a' c' H2 h2 k2=>⟨_,_,_,_,_,rfl,?_⟩
 unfold vc3_L6
 refine ⟨fun m s4 a5 n6 n7 s8 s9 a10 n11 n12 s13 x14 H15=>a5=a/\n6=n/\Le H H15/\s13=s9/\s8.size<=60/\∃ (i:Nat) (l:List Pc),x14=i/\i<=n/\m=n-i/\n11=l.length/\kold H15 3 a10 l.length=some (pcC l)/\(∀ p∈l,InP s8 s9 p)/\txP s8 s9 l=s4/\s4.size<=60+20*i/\s9.size<=20*i/\l.length<=1+2*i,
  ⟨n,rfl,rfl,h2,rfl,l0,0,opP s,rfl,by omega,rfl,rfl,k2,opP_in s,opP_tx s,by omega,by decide,by have:=opP_len s; omega⟩,?_⟩
 rintro m s4 a5 n6 n7 s8 s9 a10 n11 n12 s13 x14 H15 ⟨rfl,rfl,hle,rfl,z8,i,l,rfl,hi,rfl,rfl,hk,hv,rfl,z4,z9,zl⟩
 refine ⟨fun hlt=>?_,fun _=>rfl⟩
 have hlt:i<n6:=by have:=of_decide_eq_true hlt; omega
 have e0:Int.toNat ((i:Nat):Int)=i:=by omega
 have hi1:IntKind.wrap .i64 (((i:Nat):Int)+1)=((i+1:Nat):Int):=by rw [wrap64 (by omega) (by omega)]; omega
 have hA15:=hA.up hle
 obtain ⟨b0,o0,x,y,put,ha,r0,r1,hx⟩:=hA15 i hlt
 rw [e0]
 refine ⟨⟨by omega,by omega⟩,b0,o0,ha,rfl,put,r1,fun _=>rfl,fun hp=>?_⟩
 have hp:put.size<=20:=by have:=of_decide_eq_false hp; omega
 -- what is seen of a table
 have look:∀ {N:ByteArray} {a2:OA} {c2:Nat} {l2:List Pc} {H2:KH} {P:KH->Prop},kold H2 3 a2 l2.length=some (pcC l2)->N.size<=500->(∀ p∈l2,InP s8 N p)->l2.length<=100->(txP s8 N l2).size<=500->(∀ H',Le H2 H'->P H')->
  Does (env Try.prog) 11 [.agg #[.string s8,.string N,.slice a2 l2.length c2]] H2 fun v H'=>v = .string (txP s8 N l2)/\P H':=fun {N a2 c2 l2 H2 P} q1 q2 q3 q4 q5 q6=>by
  have hg:=gdP_all q3
  have hsz:=txP_size q3
  refine c11 ok q1 (by omega) (by omega) (fun p hp=>in_lt (q3 p hp) (by omega) (by omega)) (by omega) (by rw [hg]; omega) fun H' h'=>⟨by rw [hg],q6 H' h'⟩
 have look2:∀ {N:ByteArray} {a2:OA} {c2:Nat} {l2:List Pc} {H2:KH} {P:KH->Prop},kold H2 3 a2 l2.length=some (pcC l2)->N.size<=500->(∀ p∈l2,InP s8 N p)->l2.length<=100->(txP s8 N l2).size<=500->(∀ H',Le H2 H'->P H')->
  Does (env Try.prog) 12 [.agg #[.string s8,.string N,.slice a2 l2.length c2]] H2 fun v H'=>v = .int .i64 (((txP s8 N l2).size:Nat):Int)/\P H':=fun {N a2 c2 l2 H2 P} q1 q2 q3 q4 q5 q6=>by
  have hg:=gdP_all q3
  have hsz:=txP_size q3
  refine c12 ok q1 (by omega) (by omega) (fun p hp=>in_lt (q3 p hp) (by omega) (by omega)) (by omega) (by rw [hg]; omega) fun H' h'=>⟨by rw [hg,<- hsz],q6 H' h'⟩
 have look3:∀ {N:ByteArray} {a2:OA} {c2:Nat} {l2:List Pc} {H2:KH} {P:Prop},kold H2 3 a2 l2.length=some (pcC l2)->N.size<=500->(∀ p∈l2,InP s8 N p)->l2.length<=100->P->
  Does (env Try.prog) 13 [.agg #[.string s8,.string N,.slice a2 l2.length c2]] H2 fun v H'=>v = .bool true/\H'=H2/\P:=fun {N a2 c2 l2 H2 P} q1 q2 q3 q4 q6=>by
  refine c13 ok q1 (by omega) (by omega) (fun p hp=>in_lt (q3 p hp) (by omega) (by omega)) (by omega) ⟨?_,rfl,q6⟩
  have:l2.all (thB s8 N)=true:=List.all_eq_true.2 fun p hp=>decide_eq_true (q3 p hp)
  rw [this]
 refine ⟨trivial,⟨by omega,by omega⟩,b0,o0,ha,x,y,put,r0,c9 ok hx hk (by omega) (by omega) (by omega) hv (by omega) (by omega) (fun hno a2 c2 H7 h7 k7=>⟨_,_,_,_,_,_,rfl,trivial,⟨rfl,trivial⟩,⟨by omega,by omega⟩,b0,o0,ha,x,y,put,h7.ld r0,c10 ok hx (by omega) (by omega) (fun _=>⟨_,_,rfl,fun z=>(by cases z),fun _=>⟨fun _=>?_,fun z=>by cases z⟩⟩) fun xx mm e1 e2 e3=>absurd ⟨by omega,by omega,by omega⟩ hno⟩) fun xx mm e1 e2 e3 a2 c2 H7 h7 k7=>⟨_,_,_,_,_,_,rfl,trivial,⟨rfl,trivial⟩,⟨by omega,by omega⟩,b0,o0,ha,x,y,put,h7.ld r0,c10 ok hx (by omega) (by omega) (fun hno=>absurd ⟨by omega,by omega,by omega⟩ hno) fun x2 m2 f1 f2 f3=>⟨_,_,rfl,fun z=>(by cases z),fun _=>⟨fun z=>(by cases z),fun _=>?_⟩⟩⟩⟩
 .
  refine (look k7 (by omega) hv (by omega) (by omega) (P:=fun H'=>Le H7 H') fun H' h'=>h').post ?_
  rintro v H24 ⟨rfl,h24⟩
  refine ⟨_,rfl,fun z=>?_,fun _=>?_⟩
  .rw [strEq_iff.2 rfl] at z; cases z
  unfold vc3_J3
  refine ⟨fun z=>(by cases z),fun _=>?_⟩
  refine (look (h24.kold k7) (by omega) hv (by omega) (by omega) (P:=fun H'=>Le H24 H') fun H' h'=>h').post ?_
  rintro v H5 ⟨rfl,h5⟩
  refine ⟨_,rfl,fun z=>?_,fun _=>?_⟩
  .rw [strEq_iff.2 rfl] at z; cases z
  refine (look2 (h5.kold (h24.kold k7)) (by omega) hv (by omega) (by omega) (P:=fun H'=>Le H5 H') fun H' h'=>h').post ?_
  rintro v H8 ⟨rfl,h8⟩
  refine ⟨_,rfl,fun z=>absurd rfl (of_decide_eq_true z),fun _=>?_⟩
  refine (look3 (h8.kold (h5.kold (h24.kold k7))) (by omega) hv (by omega) (P:=True) trivial).post ?_
  rintro v H9 ⟨rfl,rfl,_⟩
  refine ⟨_,rfl,fun z=>(by cases z),fun _=>⟨fun z=>?_,fun _=>?_⟩⟩
  .rw [strEq_iff.2 rfl] at z; cases z
  exact ⟨n6-(i+1),by omega,rfl,rfl,((hle.trans h7).trans h24).trans (h5.trans h8),rfl,z8,i+1,l,hi1,by omega,rfl,rfl,h8.kold (h5.kold (h24.kold k7)),hv,rfl,by omega,by omega,by omega⟩
 .
  have q1:x2=xx:=by omega
  have q2:m2=mm:=by omega
  subst q1; subst q2
  have hv':=splP_in (put:=put) (x:=x2) (m:=m2) (N:=(txP s8 s13 l).size) hv
  have htx:=splP_tx (put:=put) (x:=x2) (m:=m2) hv rfl
  have hln:=splP_len (put:=put) (x:=x2) (m:=m2) (N:=(txP s8 s13 l).size) hv
  have hsz:=splT_size (s:=txP s8 s13 l) (p:=put) e3
  have hNs:(s13++put).size=s13.size+put.size:=ByteArray.size_append
  generalize hL2:splP s13 put x2 m2 (txP s8 s13 l).size l=l2 at k7 hv' htx hln
  unfold vc3_J3
  have hw2:IntKind.wrap .i64 (((l.length:Nat):Int)+2)=((l.length+2:Nat):Int):=by rw [wrap64 (by omega) (by omega)]; omega
  rw [hw2,e0]
  refine ⟨fun _=>⟨fun z=>absurd (of_decide_eq_true z) (by omega),fun _=>⟨trivial,⟨by omega,by omega⟩,b0,o0,ha,rfl,put,h7.ld r1,by omega,?_⟩⟩,fun z=>by cases z⟩
  refine (look k7 (by omega) hv' (by omega) (by rw [htx]; omega) (P:=fun H'=>Le H7 H') fun H' h'=>h').post ?_
  rintro v H24 ⟨rfl,h24⟩
  rw [htx]
  refine ⟨_,rfl,fun z=>?_,fun _=>?_⟩
  .rw [strEq_iff.2 rfl] at z; cases z
  refine (look2 (h24.kold k7) (by omega) hv' (by omega) (by rw [htx]; omega) (P:=fun H'=>Le H24 H') fun H' h'=>h').post ?_
  rintro v H8 ⟨rfl,h8⟩
  rw [htx]
  refine ⟨_,rfl,fun z=>absurd rfl (of_decide_eq_true z),fun _=>?_⟩
  refine (look3 (h8.kold (h24.kold k7)) (by omega) hv' (by omega) (P:=True) trivial).post ?_
  rintro v H9 ⟨rfl,rfl,_⟩
  refine ⟨_,rfl,fun z=>(by cases z),fun _=>⟨fun z=>?_,fun _=>?_⟩⟩
  .rw [strEq_iff.2 rfl] at z; cases z
  exact ⟨n6-(i+1),by omega,rfl,rfl,((hle.trans h7).trans h24).trans h8,rfl,z8,i+1,l2,hi1,by omega,rfl,rfl,h8.kold (h24.kold k7),hv',htx,by omega,by omega,by omega⟩
end
end Va
end Go.Proofs.Ytkdjmdcnfbolkaa
namespace Go.Ew
open Go.Ev Go.Deep Go.RowKit
def treeOf {α:Type} (f:Nat->Option α):Nat->BT (Option α)
 | 0=>.nil
 | n+1=>tset (treeOf f n) n (f n)
theorem tree_get {α:Type} (f:Nat->Option α):∀ n k,tget (treeOf f n) k=if k<n then f k else none
 | 0,k=>by simp [treeOf,tget]
 | n+1,k=>by
   rw [treeOf,tget_tset,tree_get f n]
   by_cases e:n=k
   .subst e; simp
   .rw [if_neg e]
    by_cases h:k<n
    .rw [if_pos h,if_pos (by omega)]
    .rw [if_neg h,if_neg (by omega)]
def absV (N:Nat):Value->Option Value
 | .pointer (some a)=>if a.spot=none/\a.block<N then some (.pointer (some a)) else none
 | .slice (some a) l c=>if a.spot=none/\a.block<N/\c<unkU then some (.slice (some a) l c) else if l=0 then some vague else none
 | v=>if isPlain v=true then some v else none
def thW (N:Nat):Th:=fun n=>if n<N then some (n,0,0) else none
theorem absV_S {N:Nat} {v u:Value} (h:absV N v=some u):S (thW N) u v:=by
 unfold absV at h
 split at h
 .rename_i a
  split at h
  .rename_i hq
   cases h
   refine ⟨hq.1,(a.block,0,0),by simp [thW,hq.2],?_⟩
   obtain ⟨b,o,sp⟩:=a
   obtain ⟨h1,h2⟩:=hq
   cases h1
   simp
  .cases h
 .rename_i a l c
  split at h
  .rename_i hq
   cases h
   obtain ⟨b,o,sp⟩:=a
   obtain ⟨h1,h2,h3⟩:=hq
   cases h1
   exact .inl ⟨rfl,(b,0,0),c,by simp only at h2; simp [thW,h2],.inl ⟨h3,rfl⟩,by simp⟩
  .split at h
   .rename_i hl
    cases h
    subst hl
    exact .inr ⟨by simp,rfl,Nat.le_refl _,_,_,rfl⟩
   .cases h
 .split at h
  .rename_i hp
   cases h
   exact S_plain hp
  .cases h
def bsz (w:World) (b:Nat):Nat:=match w.heap[b]? with
 | some (.cells c _ _)=>c.size
 | _=>0
def blkOf (w:World) (b:Nat) (i:Nat):Option Value:=match w.cell? ⟨b,i,none⟩ with
 | some v=>if w.frozen? ⟨b,i,none⟩=false then absV w.heap.size v else none
 | none=>none
def entW (w:World) (b:Nat):Ent:=⟨treeOf (blkOf w b) (bsz w b),0,roU,none⟩
def KW (w:World):KH:=fun b=>if b<w.heap.size then some (entW w b) else none
def snapW (w:World):Hp:=⟨treeOf (fun b=>some (entW w b)) w.heap.size,w.heap.size⟩
theorem snap_get (w:World) (k:Nat):tget (snapW w).m k=KW w k:=tree_get _ _ _
theorem KW_some {w:World} {k:Nat} {e:Ent} (h:KW w k=some e):k<w.heap.size/\e=entW w k:=by
 unfold KW at h
 split at h
 .rename_i q; cases h; exact ⟨q,rfl⟩
 .cases h
theorem HR_snap [LG] (w:World):HR (thW w.heap.size) (snapW w) w:=by
 refine ⟨fun n e x he hx=>?_,fun n m e e' x y h1 h2 hne h3 h4=>?_,fun n hn=>?_⟩
 .rw [snap_get] at he
  obtain ⟨h1,rfl⟩:=KW_some he
  have hx':x=(n,0,0):=by
   simp only [thW,if_pos h1,Option.some.injEq] at hx
   exact hx.symm
  subst hx'
  refine ⟨hx,h1,fun i v hi=>?_,fun o ho=>(by cases ho),fun hu=>⟨by simp [entW],fun i hi=>by simp at hi⟩⟩
  simp only [entW,tree_get] at hi
  split at hi
  .unfold blkOf at hi
   simp only [Nat.zero_add]
   cases hc:w.cell? ⟨n,i,none⟩ with
   | none=>rw [hc] at hi; cases hi
   | some u =>
     rw [hc] at hi
     simp only at hi
     split at hi
     .rename_i hf
      exact ⟨⟨u,rfl,absV_S hi⟩,hf⟩
     .cases hi
  .cases hi
 .unfold thW at h3 h4
  split at h3
  .split at h4
   .cases h3; cases h4; exact hne
   .cases h4
  .cases h3
 .have:¬ n<w.heap.size:=by have:w.heap.size<=n:=hn; omega
  simp [thW,this]
theorem cell_lt {w:World} {b o:Nat} {v:Value} (h:w.cell? ⟨b,o,none⟩=some v):b<w.heap.size/\o<bsz w b:=by
 unfold World.cell? at h
 unfold bsz
 cases hb:w.heap[b]? with
 | none=>simp [hb] at h
 | some ob =>
   refine ⟨(Array.getElem?_eq_some_iff.1 hb).1,?_⟩
   rw [hb] at h
   cases ob<;>simp at h ⊢
   rename_i c t fr
   exact (Array.getElem?_eq_some_iff.1 h).1
theorem KW_cell {w:World} {b o:Nat} {v u:Value} (h:w.cell? ⟨b,o,none⟩=some v) (hf:w.frozen? ⟨b,o,none⟩=false) (ha:absV w.heap.size v=some u):∃ e,KW w b=some e/\tget e.cells o=some u:=by
 obtain ⟨h1,h2⟩:=cell_lt h
 refine ⟨entW w b,by unfold KW; rw [if_pos h1],?_⟩
 simp only [entW,tree_get,if_pos h2]
 unfold blkOf
 rw [h]
 simp only [hf,if_true,ha]
theorem KW_ld {w:World} {b o:Nat} {v u:Value} (h:w.cell? ⟨b,o,none⟩=some v) (hf:w.frozen? ⟨b,o,none⟩=false) (ha:absV w.heap.size v=some u):ld (KW w) ⟨b,o,none⟩ [u]:=by
 obtain ⟨e,h1,h2⟩:=KW_cell h hf ha
 refine ⟨rfl,e,h1,?_⟩
 simp only [List.length_singleton,rd,h2]
theorem top {E:Env} (hE:EnvOk E) {g:Nat} {fn:Func} (hfn:tget E.ff g=some fn) {args cargs:List Value} {w:World} {v:Value} (hp:isPlain v=true) (hD:Does E g args (KW w) fun r _=>r=v) (ha:all2 (W (thW w.heap.size)) args cargs) :
 Calls E.P g cargs.toArray w fun e w'=>e = .returned v/\Below w.heap.size w w':=by
 letI:=lgOf E
 obtain ⟨r,h',H',⟨n,hrun⟩,hq,_⟩:=hD.run (snapW w) (fun k hk=>by
  rw [snap_get]
  have:¬ k<w.heap.size:=by have:w.heap.size<=k:=hk; omega
  simp [KW,this]) (fun k e q=>by rw [snap_get]; exact q)
 subst hq
 rcases (call_sound hE (lgOf_ok E) (ev_sound hE (lgOf_ok E) n) (snapW w) g args r h' (hrun n (Nat.le_refl _)) (thW w.heap.size) w cargs (HR_snap w) ha).1 hD.lt with ⟨_,h2⟩ | ⟨u,h1,_,_⟩
 .refine h2.mono fun e w' hq=>?_
  obtain ⟨θ',u,rfl,q1,q2,q3⟩:=hq
  rw [W_plain hp q3]
  refine ⟨rfl,q1.os,q1.tape,q1.output,q1.size,fun k hk=>q1.frame k hk fun n e x q hu _=>?_⟩
  rw [snap_get] at q
  obtain ⟨_,rfl⟩:=KW_some q
  exact absurd rfl hu
 .exfalso
  obtain ⟨f1,f2,c',f3,_⟩:=hE.ff g fn hfn
  have f2' : ¬ fn.name = "runtime.NumGoroutine" := fun e => by rw [e] at f2; simp at f2
  simp [callFunc,f1,f2',f3] at h1
section
variable {H : Type} {enc : TypeId × Value -> H} {P : Program} {w : World}
theorem cells_get {b n:Nat} {a:Addr} {cs:List Value} (h:w.cells? b a n=some cs):cs.length=n/\∀ i v,cs[i]? = some v->w.cell? (a.add i)=some v:=by
 unfold World.cells? at h
 split at h
 .refine ⟨by simpa using mapM_some_length h,fun i v hv=>?_⟩
  have hi:i<n:=by
   have:=mapM_some_length h
   rcases Nat.lt_or_ge i n with q | q
   .exact q
   .rw [List.getElem?_eq_none (by simp at this; omega)] at hv; cases hv
  have:=mapM_some_get h i i (by simp [hi])
  rw [this]; exact hv
 .cases h
theorem cell_spot {a:Addr} {v:Value} (h:w.cell? a=some v):a.spot=none:=by
 unfold World.cell? at h
 cases hs:a.spot with
 | none=>rfl
 | some s =>
   rw [hs] at h
   split at h<;>simp_all
theorem trod_int {t:TypeId} {k:IntKind} {x:Value} {m:Nat} {y:DataW H × List MemPlace} (ht:P.underlying t=some (.int k)) (h:DataW.trod enc P w 0 (fun _=>true) true m t [x]=some y):∃ n,x = .int k n/\(Lit.int k n).wf=true/\y=(.lit (.int k n),[]):=by
 cases m with
 | zero=>simp [DataW.trod] at h
 | succ m =>
   unfold DataW.trod at h
   rw [ht] at h
   cases x<;>simp at h
   rename_i k' n
   obtain ⟨⟨rfl,h2⟩,h3⟩:=h
   exact ⟨n,rfl,h2,h3.symm⟩
theorem trodAll_below {W W':World} (hl:laidOutB P=true) (hb:Below W.heap.size W W'):∀ (ts:List TypeId) (vs:List Value) (ds:List (DataW H)) (ps:List MemPlace),(∀ t∈ts,P.readableRec t=true/\t<P.types.size)->
 DataW.TrodAll enc P W 0 (fun _=>true) true ts vs ds ps->(∀ x∈ps,x.block<W.heap.size)->DataW.TrodAll enc P W' 0 (fun b=>decide (b<W.heap.size)) true ts vs ds ps
 | [],[],[],ps,_,h,_=>h
 | t :: ts,v :: vs,d :: ds,ps,ht,⟨p,q,h1,h2,h3⟩,hlt=>by
   subst h3
   exact ⟨p,q,Below.trod hl (ht t (by simp)).1 (ht t (by simp)).2 h1 hb (fun x hx=>hlt x (by simp [hx])),trodAll_below hl hb ts vs ds q (fun t' h'=>ht t' (by simp [h'])) h2 (fun x hx=>hlt x (by simp [hx])),rfl⟩
 | [],_ :: _,_,_,_,h,_=>by cases h
 | [],[],_ :: _,_,_,h,_=>by cases h
 | _ :: _,[],_,_,_,h,_=>by cases h
 | _ :: _,_ :: _,[],_,_,h,_=>by cases h
theorem absV_W {N:Nat} {v u:Value} (h:absV N v=some u):W (thW N) u v:=W_of_S (absV_S h)
end
end Go.Ew
namespace Go.Ew
open Go.Ev Go.Deep Go.RowKit
inductive FK where
 | int (k:IntKind)
 | str
 | bool
section
variable {H : Type} {enc : TypeId × Value -> H} {P : Program} {w : World}
end
end Go.Ew
namespace Go.Ew
open Go.Ev Go.Deep
end Go.Ew
namespace Go.Proofs.Ytkdjmdcnfbolkaa
open Go.Ev Go.Ew
namespace Va
section
variable (ok : EnvOk (env Try.prog))
include ok
end
end Va
end Go.Proofs.Ytkdjmdcnfbolkaa
namespace Go.Proofs.Ytkdjmdcnfbolkaa
open Go.Ev Go.Ew Go.RowKit
namespace Va
theorem tys:tysOk Try.prog tyL:=by unfold tysOk; kernel_rfl
theorem mixed:Try.prog.follows .mixedOrders=true:=by kernel_rfl
theorem own:ownKnob Try.prog.godebug=none:=by kernel_rfl
def fnB7:List Nat:=[7,8,9,11,12,13,15,16,17,18,19,21,23,25,27,28,29,30,32]
def xtB7:List (Nat × Nat):=[(14,7),(22,5),(24,6),(4294967352,1005)]
theorem fnsB7:(fnsOf Try.prog fnB7).all (fnOk (envOf Try.prog tyL fnB7 plL xtB7))=true:=by kernel_rfl
theorem okB7:EnvOk (envOf Try.prog tyL fnB7 plL xtB7):=env_okB tys mixed fnsB7 (fun g hg=>by simp [xtB7] at hg) (fun g hg=>by simp [xtB7] at hg) (fun g hg=>by simp [xtB7] at hg) (fun g hg=>by simp [xtB7] at hg) (T0:=56) (e0:=5) (by kernel_rfl) (fun g hg=>by
 have e:g=22:=by simpa [xtB7] using hg
 subst e
 exact writes) (fun g hg=>by
 have e:g=24:=by simpa [xtB7] using hg
 subst e
 exact says) (fun g hg=>by
 have e:g=14:=by simpa [xtB7] using hg
 subst e
 exact clones)
theorem hereB7:(tget (envOf Try.prog tyL fnB7 plL xtB7).ff 7).isSome=true:=by kernel_rfl
set_option maxRecDepth 100000 in
theorem runsB7:saysTrue (callA (envOf Try.prog tyL fnB7 plL xtB7) (ev (envOf Try.prog tyL fnB7 plL xtB7) 100000) 7 [] ⟨.nil,0⟩)=true:=by kernel_rfl
theorem walkB7 (w:World):Calls Try.prog 7 #[] w fun e w'=>e = .returned (.bool true)/\Below w.heap.size w w':=by
 obtain ⟨fn,hfn⟩:=Option.isSome_iff_exists.1 hereB7
 exact law_true okB7 hfn (by unfold unkU; omega) runsB7 w
theorem nameB7 : (Try.f7.name == "runtime.NumGoroutine") = false := by kernel_rfl
theorem bodyB7:Try.f7.body.isNone=false:=by kernel_rfl
theorem enterB7 (w:World):(callFunc 7 #[]).run Try.prog w = .ok (.enter 7 #[]) w:=by
 simp only [callFunc,Sem.run_bind,run_program,Result.andThen_ok,Try.func7,nameB7,bodyB7,Bool.false_eq_true,if_false,Sem.run_pure]
theorem fns:(fnsOf Try.prog fnL).all (fnOk (env Try.prog))=true:=by kernel_rfl
theorem ok:EnvOk (env Try.prog):=env_okB tys mixed fns (fun g hg=>by simp [xtL] at hg) (fun g hg=>by simp [xtL] at hg) (fun g hg=>by simp [xtL] at hg) (fun g hg=>by
 have e:g=7:=by simpa [xtL] using hg
 subst e
 exact fun w=>⟨enterB7 w,walkB7 w⟩) (T0:=56) (e0:=5) (by kernel_rfl) (fun g hg=>by
 have e:g=22:=by simpa [xtL] using hg
 subst e
 exact writes) (fun g hg=>by
 have e:g=24:=by simpa [xtL] using hg
 subst e
 exact says) (fun g hg=>by
 have e:g=14:=by simpa [xtL] using hg
 subst e
 exact clones)
end Va
end Go.Proofs.Ytkdjmdcnfbolkaa
