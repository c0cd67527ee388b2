import Derived.Test.YtfhjkkbaghanhaaGreatEwVc1
import Derived.Test.YtfhjkkbaghanhaaGreatEwS4
import Derived.Test.YtfhjkkbaghanhaaGreatEwLib
set_option linter.unusedVariables false
set_option maxRecDepth 100000
namespace Go.Proofs.YtfhjkkbaghanhaaGreat
open Go.Ev Go.Ew
namespace Va
def W10 (P:Program):WE:=⟨env P,tupT,[],mkTab [],10⟩
def vc10 (p0:OA) (p0n p0c:Nat) (H:KH) (Q:PQ):Prop :=
 Does (env Tryz.prog) 21 [(.slice p0 p0n p0c)] H fun l k=>∃ (c:(OA)) (d e:Nat) (a:Bool),l=(.tuple #[.slice c d e,.bool a])∧((!a)=true→Q (.tuple #[.slice none 0 0,.bool false]) k)∧((!a)=false→Does (env Tryz.prog) 23 [(.slice c d e)] k fun m n=>∃ (f:(OA)) (g h:Nat),m=(.slice f g h)∧Does (env Tryz.prog) 22 [(.slice f g h)] n fun o p=>∃ (i:(OA)) (b j:Nat),o=(.slice i b j)∧Q (.tuple #[.slice i b j,.bool (decide ((0:Int)<(b:Int)))]) p)
theorem fn10 (ok:EnvOk (env Tryz.prog)) {p0:OA} {p0n p0c:Nat} {H:KH} {Q:PQ} (h:vc10 p0 p0n p0c H Q):Does (env Tryz.prog) 10 [.slice p0 p0n p0c] H Q :=
 wFun_sound (W:=W10 Tryz.prog) ok.tt (blt_lt (by kernel_rfl)) (ff_of ok (by kernel_rfl) Tryz.func10) (Eq.mpr (by kernel_rfl) h)
def W17 (P:Program):WE:=⟨env P,tupT,[6],mkTab [(2000010,[.tmp 5 .bool]),(1000010,[.agg 10 [.int .i64 0,.int .i64 0,.int .i64 0]])],17⟩
def vc17 (p0:OA) (p0n p0c:Nat) (p1:ByteArray) (H:KH) (Q:PQ):Prop :=
 (∀ (b:Nat),((H b):(Option (Ent)))=none→Does (env Tryz.prog) 29 [.slice p0 p0n p0c,.string p1] (KH.new H b (mkEnt [(.slice none 0 0)] 0)) fun ab aa=>∃ (n:Nat) (o:(List Value)),ab=(.func (.func n) #[] (List.toArray o))∧FnIn (env Tryz.prog) n∧∀ (a:Nat) (d:Lp),((aa a):(Option (Ent)))=none→(∀ (h:Int) (i:Int) (j:Int) (c:KH) (p:(PQ)),((c a):(Option (Ent)))=(some (lpE d 0 none))→(∃ (q:(OA)) (r s:Nat),ld (KH.del c a) ⟨b,0,none⟩ [(.slice q r s)]∧∀ (e:Nat),(((KH.del c a) e):(Option (Ent)))=none→∀ (t:Nat),(((KH.new (KH.del c a) e (mkEnt [.int .i64 h,.int .i64 i,.int .i64 j] 0)) t):(Option (Ent)))=none→∃ (u:Nat) (v:(List Value)),((knew (KH.new (KH.del c a) e (mkEnt [.int .i64 h,.int .i64 i,.int .i64 j] 0)) ⟨3,24,true,3,0,0,[(0,1),(1,1),(2,1)],[.int .i64 0,.int .i64 0,.int .i64 0]⟩ (.slice (some ⟨e,0,none⟩) 1 1)):(Option (Nat × (List Value))))=(some (u,v))∧∃ (k:(OA)) (l m:Nat) (f:KH),((kappend (KH.new (KH.del c a) e (mkEnt [.int .i64 h,.int .i64 i,.int .i64 j] 0)) t ⟨3,24,true,3,0,0,[(0,1),(1,1),(2,1)],[.int .i64 0,.int .i64 0,.int .i64 0]⟩ q r s u v):(Option (Value × KH)))=(some (.slice k l m,f))∧(∃ (w:(List Value)),((List.length w):Nat)=(List.length [(Value.slice k l m)])∧ld f ⟨b,0,none⟩ w)∧KH.may f b∧((((KH.put f ⟨b,0,none⟩ [(.slice k l m)]) a):(Option (Ent)))=none→p (.bool true) (KH.new (KH.put f ⟨b,0,none⟩ [(.slice k l m)]) a (lpE d 0 none))))→DoesR (env Tryz.prog) a [(.agg #[.int .i64 h,.int .i64 i,.int .i64 j])] c p)→Does (env Tryz.prog) n ([(.func (.yield a) #[] #[])]++o) (KH.new aa a (lpE d 0 none)) fun ac g=>(((g a):(Option (Ent)))=(some (lpE d 0 none))∧∃ (x:(OA)) (y z:Nat),ld (KH.del g a) ⟨b,0,none⟩ [(.slice x y z)]∧Q (.slice x y z) (KH.del g a))∨((((g a):(Option (Ent)))=(some (lpE d 2 (some .ret)))∧Q (.slice none 0 0) (KH.del g a))∨False))
theorem fn17 (ok:EnvOk (env Tryz.prog)) {p0:OA} {p0n p0c:Nat} {p1:ByteArray} {H:KH} {Q:PQ} (h:vc17 p0 p0n p0c p1 H Q):Does (env Tryz.prog) 17 [.slice p0 p0n p0c,.string p1] H Q :=
 wFun_sound (W:=W17 Tryz.prog) ok.tt (blt_lt (by kernel_rfl)) (ff_of ok (by kernel_rfl) Tryz.func17) (Eq.mpr (by kernel_rfl) h)
def W21 (P:Program):WE:=⟨env P,tupT,[6],mkTab [(0,[.tmp 4 .slice,.tmp 9 .slice,.tmp 10 (.int .i64),.tmp 11 (.int .i64)])],21⟩
def vc21_L2 (y1:OA) (y2 y3:Nat) (y4:KH) (y5:PQ):Prop :=
 (∃ (i:(Nat→OA→Nat→Nat→OA→Nat→Nat→Int→Int→KH→Prop)),(∃ (ac:Nat),i ac none 0 0 y1 y2 y3 (y2:Int) 0 y4)∧∀ (p:Nat) (j:(OA)) (k l:Nat) (m:(OA)) (n q:Nat) (d a:Int) (e:KH),i p j k l m n q d a e→(decide (a<d)=true→((0:Int)≤a∧a<(n:Int))∧∃ (r s:Nat),m=some ⟨r,s,none⟩∧∃ (ad t:ByteArray) (ae:Bool),ld e ⟨r,s+((Int.toNat a)*3),none⟩ [.string ad,.string t,.bool ae]∧Does (env Tryz.prog) 31 [(.string t)] e fun af c=>∃ (f:(OA)) (g h:Nat) (o:Bool),af=(.tuple #[.slice f g h,.bool o])∧((!o)=true→y5 (.tuple #[.slice none 0 0,.bool false]) c)∧((!o)=false→∀ (b:Nat),((c b):(Option (Ent)))=none→∀ (u:Nat),(((KH.new c b (mkEnt [(.slice f g h)] 0)) u):(Option (Ent)))=none→∃ (v:Nat) (w:(List Value)),((knew (KH.new c b (mkEnt [(.slice f g h)] 0)) ⟨1,24,false,1,65,0,[],[(.slice none 0 0)]⟩ (.slice (some ⟨b,0,none⟩) 1 1)):(Option (Nat × (List Value))))=(some (v,w))∧∃ (x:(OA)) (y z:Nat) (aa:KH),((kappend (KH.new c b (mkEnt [(.slice f g h)] 0)) u ⟨1,24,false,1,65,0,[],[(.slice none 0 0)]⟩ j k l v w):(Option (Value × KH)))=(some (.slice x y z,aa))∧∃ (ab:Nat),(ab:Nat)<p∧i ab x y z m n q d (IntKind.wrap .i64 (a+1)) aa))∧(decide (a<d)=false→y5 (.tuple #[.slice j k l,.bool true]) e))
def vc21 (p0:OA) (p0n p0c:Nat) (H:KH) (Q:PQ):Prop :=
 (vc21_L2 p0 p0n p0c H Q)
theorem fn21 (ok:EnvOk (env Tryz.prog)) {p0:OA} {p0n p0c:Nat} {H:KH} {Q:PQ} (h:vc21 p0 p0n p0c H Q):Does (env Tryz.prog) 21 [.slice p0 p0n p0c] H Q :=
 wFun_sound (W:=W21 Tryz.prog) ok.tt (blt_lt (by kernel_rfl)) (ff_of ok (by kernel_rfl) Tryz.func21) (Eq.mpr (by kernel_rfl) h)
def W29 (P:Program):WE:=⟨env P,tupT,[],mkTab [],29⟩
def vc29 (p0:OA) (p0n p0c:Nat) (p1:ByteArray) (H:KH) (Q:PQ):Prop :=
 (∀ (a:Nat),((H a):(Option (Ent)))=none→∀ (b:Nat),(((KH.new H a (mkEnt [(.slice p0 p0n p0c)] 0)) b):(Option (Ent)))=none→Q (.func (.func 44) #[] #[.pointer (some ⟨b,0,none⟩),.pointer (some ⟨a,0,none⟩)]) (KH.new (KH.new H a (mkEnt [(.slice p0 p0n p0c)] 0)) b (mkEnt [(.string p1)] 0)))
theorem fn29 (ok:EnvOk (env Tryz.prog)) {p0:OA} {p0n p0c:Nat} {p1:ByteArray} {H:KH} {Q:PQ} (h:vc29 p0 p0n p0c p1 H Q):Does (env Tryz.prog) 29 [.slice p0 p0n p0c,.string p1] H Q :=
 wFun_sound (W:=W29 Tryz.prog) ok.tt (blt_lt (by kernel_rfl)) (ff_of ok (by kernel_rfl) Tryz.func29) (Eq.mpr (by kernel_rfl) h)
def W44 (P:Program):WE:=⟨env P,tupT,[5],mkTab [(0,[.tmp 0 .yld,.tmp 1 .ptr,.tmp 2 .ptr,.tmp 4 (.int .i64)])],44⟩
def vc44_L1 (y1 y2 y3 y4 y5:Nat) (y6:KH) (y7:PQ):Prop :=
 (∃ (f:(Nat→Nat→Nat→Nat→Nat→Nat→Int→KH→Prop)),(∃ (t:Nat),(none:(Option Nat))=none∧(none:(Option Nat))=none∧f t y1 y2 y3 y4 y5 0 y6)∧∀ (m g d e h i:Nat) (a:Int) (b:KH),f m g d e h i a b→∃ (j:ByteArray),ld b ⟨d,e,none⟩ [(.string j)]∧(((decide (a<(((ByteArray.size j):Nat):Int))):Bool)=true→True∧∃ (n:(OA)) (o p:Nat),ld b ⟨h,i,none⟩ [(.slice n o p)]∧∃ (c:ByteArray),ld b ⟨d,e,none⟩ [(.string c)]∧((0:Int)≤a∧a≤(((ByteArray.size c):Nat):Int)∧((((ByteArray.size c):Nat):Int):Int)≤(((ByteArray.size c):Nat):Int))∧Does (env Tryz.prog) 45 [.slice n o p,.string (strCut c a (((ByteArray.size c):Nat):Int))] b fun v w=>∃ (q u k:Int),v=(.agg #[.int .i64 q,.int .i64 u,.int .i64 k])∧True∧True∧DoesR (env Tryz.prog) g [(.agg #[.int .i64 q,.int .i64 a,.int .i64 k])] w fun x s=>∃ (l:Bool),x=(.bool l)∧((!l)=true→y7 (.tuple #[]) s)∧((!l)=false→∃ (r:Nat),(r:Nat)<m∧(none:(Option Nat))=none∧(none:(Option Nat))=none∧f r g d e h i (IntKind.wrap .i64 (a+k)) s))∧(((decide (a<(((ByteArray.size j):Nat):Int))):Bool)=false→y7 (.tuple #[]) b))
def vc44 (p0 k0b k0o k1b k1o:Nat) (H:KH) (Q:PQ):Prop :=
 (vc44_L1 p0 k0b k0o k1b k1o H Q)
theorem fn44 (ok:EnvOk (env Tryz.prog)) {p0 k0b k0o k1b k1o:Nat} {H:KH} {Q:PQ} (h:vc44 p0 k0b k0o k1b k1o H Q):Does (env Tryz.prog) 44 [.func (.yield p0) #[] #[],.pointer (some ⟨k0b,k0o,none⟩),.pointer (some ⟨k1b,k1o,none⟩)] H Q :=
 wFun_sound (W:=W44 Tryz.prog) ok.tt (blt_lt (by kernel_rfl)) (ff_of ok (by kernel_rfl) Tryz.func44) (Eq.mpr (by kernel_rfl) h)
def W45 (P:Program):WE:=⟨env P,tupT,[4],mkTab [],45⟩
def vc45 (p0:OA) (p0n p0c:Nat) (p1:ByteArray) (H:KH) (Q:PQ):Prop :=
 Does (env Tryz.prog) 68 [.slice p0 p0n p0c,.string p1] H fun e d=>∃ (b c:Int) (a:Bool),e=(.tuple #[.int .i64 b,.int .i64 c,.bool a])∧((!a)=true→Q (.agg #[.int .i64 (-1),.int .i64 0,.int .i64 1]) d)∧((!a)=false→Q (.agg #[.int .i64 b,.int .i64 0,.int .i64 c]) d)
theorem fn45 (ok:EnvOk (env Tryz.prog)) {p0:OA} {p0n p0c:Nat} {p1:ByteArray} {H:KH} {Q:PQ} (h:vc45 p0 p0n p0c p1 H Q):Does (env Tryz.prog) 45 [.slice p0 p0n p0c,.string p1] H Q :=
 wFun_sound (W:=W45 Tryz.prog) ok.tt (blt_lt (by kernel_rfl)) (ff_of ok (by kernel_rfl) Tryz.func45) (Eq.mpr (by kernel_rfl) h)
end Va
end Go.Proofs.YtfhjkkbaghanhaaGreat
