import Derived.Test.YtfhjkkbaghanhaaGreatEwS4
import Derived.IntWalk
set_option linter.unusedVariables false
set_option maxRecDepth 100000
namespace Go.Proofs.YtfhjkkbaghanhaaGreat
open Go.Ev Go.Ew
namespace Va
def W6 (P:Program):WE:=⟨env P,tupT,[],mkTab [],6⟩
def vc6 (p0:OA) (p0n p0c:Nat) (H:KH) (Q:PQ):Prop :=
 (∀ (a:Nat),((H a):(Option (Ent)))=none->Q (.pointer (some ⟨a,0,none⟩)) (KH.new H a (mkEnt (Array.toList #[Value.slice p0 p0n p0c,.int .i64 0]) 0)))
theorem fn6 (ok:EnvOk (env Tryz.prog)) {p0:OA} {p0n p0c:Nat} {H:KH} {Q:PQ} (h:vc6 p0 p0n p0c H Q):Does (env Tryz.prog) 6 [.slice p0 p0n p0c] H Q :=
 wFun_sound (W:=W6 Tryz.prog) ok.tt (blt_lt (by kernel_rfl)) (ff_of ok (by kernel_rfl) Tryz.func6) (Eq.mpr (by kernel_rfl) h)
def W19 (P:Program):WE:=⟨env P,tupT,[],mkTab [(0,[.tmp 0 .ptr,.tmp 3 .str,.tmp 4 (.int .i64)])],19⟩
def vc19_L2 (y1 y2:Nat) (y3:Int) (y4:KH) (y5:PQ):Prop :=
 (∃ (r:(Nat->Nat->Nat->ByteArray->Int->KH->Prop)),(∃ (af:Nat),(none:(Option Nat))=none/\r af y1 y2 (ByteArray.mk #[]) (IntKind.wrap .i64 (y3+1)) y4)/\∀ (w f g:Nat) (a:ByteArray) (m:Int) (d:KH),r w f g a m d->(decide ((0:Int)<m)=true->True/\∀ (b:Nat),((d b):(Option (Ent)))=none->∀ (c:Nat),(((KH.new d b (mkEnt [.string (ByteArray.mk #[97]),.string (ByteArray.mk #[98]),.string (ByteArray.mk #[91,97,98,93]),.string (ByteArray.mk #[97,98]),.string (ByteArray.mk #[40,97,124,98,41]),.string (ByteArray.mk #[91,97,45,99,48,45,49,93]),.string (ByteArray.mk #[40,97,98,124,97,41]),.string (ByteArray.mk #[46]),.string (ByteArray.mk #[92,43])] 0)) c):(Option (Ent)))=none->Does (env Tryz.prog) 18 [.pointer (some ⟨f,g,none⟩),.int .i64 9] (hideK (KH.new (KH.new d b (mkEnt [.string (ByteArray.mk #[97]),.string (ByteArray.mk #[98]),.string (ByteArray.mk #[91,97,98,93]),.string (ByteArray.mk #[97,98]),.string (ByteArray.mk #[40,97,124,98,41]),.string (ByteArray.mk #[91,97,45,99,48,45,49,93]),.string (ByteArray.mk #[40,97,98,124,97,41]),.string (ByteArray.mk #[46]),.string (ByteArray.mk #[92,43])] 0)) c (mkEnt [.string (ByteArray.mk #[]),.string (ByteArray.mk #[]),.string (ByteArray.mk #[42]),.string (ByteArray.mk #[43]),.string (ByteArray.mk #[63])] 0)) [c,b]) fun ag i=>∃ (e:Int),ag=(.int .i64 e)/\(((i c):(Option (Ent)))=none->((i b):(Option (Ent)))=none->(((.string a):Value)=(.string a)/\((.pointer (some ⟨f,g,none⟩)):Value)=(.pointer (some ⟨f,g,none⟩))/\True)/\((0:Int)<=e/\e<(9:Int))/\∃ (n o:Nat),((some ⟨b,0,none⟩):(OA))=(some ⟨n,o,none⟩)/\∃ (h:ByteArray),ld (backK (KH.new (KH.new d b (mkEnt [.string (ByteArray.mk #[97]),.string (ByteArray.mk #[98]),.string (ByteArray.mk #[91,97,98,93]),.string (ByteArray.mk #[97,98]),.string (ByteArray.mk #[40,97,124,98,41]),.string (ByteArray.mk #[91,97,45,99,48,45,49,93]),.string (ByteArray.mk #[40,97,98,124,97,41]),.string (ByteArray.mk #[46]),.string (ByteArray.mk #[92,43])] 0)) c (mkEnt [.string (ByteArray.mk #[]),.string (ByteArray.mk #[]),.string (ByteArray.mk #[42]),.string (ByteArray.mk #[43]),.string (ByteArray.mk #[63])] 0)) i [c,b]) ⟨n,o+((Int.toNat e)*1),none⟩ [(.string h)]/\(((ByteArray.size a)+(ByteArray.size h)):Nat)<=1000000/\Does (env Tryz.prog) 18 [.pointer (some ⟨f,g,none⟩),.int .i64 5] (hideK (backK (KH.new (KH.new d b (mkEnt [.string (ByteArray.mk #[97]),.string (ByteArray.mk #[98]),.string (ByteArray.mk #[91,97,98,93]),.string (ByteArray.mk #[97,98]),.string (ByteArray.mk #[40,97,124,98,41]),.string (ByteArray.mk #[91,97,45,99,48,45,49,93]),.string (ByteArray.mk #[40,97,98,124,97,41]),.string (ByteArray.mk #[46]),.string (ByteArray.mk #[92,43])] 0)) c (mkEnt [.string (ByteArray.mk #[]),.string (ByteArray.mk #[]),.string (ByteArray.mk #[42]),.string (ByteArray.mk #[43]),.string (ByteArray.mk #[63])] 0)) i [c,b]) [c,b]) fun ah l=>∃ (p:Int),ah=(.int .i64 p)/\(((l c):(Option (Ent)))=none->((l b):(Option (Ent)))=none->(((.string a):Value)=(.string a)/\(((0:Int)<=e/\e<(9:Int))/\∃ (x y:Nat),((some ⟨b,0,none⟩):(OA))=(some ⟨x,y,none⟩)/\((.pointer (some ⟨x,y+((Int.toNat e)*1),none⟩)):Value)=(.pointer (some ⟨n,o+((Int.toNat e)*1),none⟩)))/\(∃ (z:ByteArray),ld (backK (backK (KH.new (KH.new d b (mkEnt [.string (ByteArray.mk #[97]),.string (ByteArray.mk #[98]),.string (ByteArray.mk #[91,97,98,93]),.string (ByteArray.mk #[97,98]),.string (ByteArray.mk #[40,97,124,98,41]),.string (ByteArray.mk #[91,97,45,99,48,45,49,93]),.string (ByteArray.mk #[40,97,98,124,97,41]),.string (ByteArray.mk #[46]),.string (ByteArray.mk #[92,43])] 0)) c (mkEnt [.string (ByteArray.mk #[]),.string (ByteArray.mk #[]),.string (ByteArray.mk #[42]),.string (ByteArray.mk #[43]),.string (ByteArray.mk #[63])] 0)) i [c,b]) l [c,b]) ⟨n,o+((Int.toNat e)*1),none⟩ [(.string z)]/\((.string z):Value)=(.string h))/\((((ByteArray.size a)+(ByteArray.size h)):Nat)<=1000000/\((.string (a++h)):Value)=(.string (a++h)))/\True)/\((0:Int)<=p/\p<(5:Int))/\∃ (aa ab:Nat),((some ⟨c,0,none⟩):(OA))=(some ⟨aa,ab,none⟩)/\∃ (s:ByteArray),ld (backK (backK (KH.new (KH.new d b (mkEnt [.string (ByteArray.mk #[97]),.string (ByteArray.mk #[98]),.string (ByteArray.mk #[91,97,98,93]),.string (ByteArray.mk #[97,98]),.string (ByteArray.mk #[40,97,124,98,41]),.string (ByteArray.mk #[91,97,45,99,48,45,49,93]),.string (ByteArray.mk #[40,97,98,124,97,41]),.string (ByteArray.mk #[46]),.string (ByteArray.mk #[92,43])] 0)) c (mkEnt [.string (ByteArray.mk #[]),.string (ByteArray.mk #[]),.string (ByteArray.mk #[42]),.string (ByteArray.mk #[43]),.string (ByteArray.mk #[63])] 0)) i [c,b]) l [c,b]) ⟨aa,ab+((Int.toNat p)*1),none⟩ [(.string s)]/\(((ByteArray.size (a++h))+(ByteArray.size s)):Nat)<=1000000/\∃ (ac:Nat),(ac:Nat)<w/\(none:(Option Nat))=none/\r ac f g ((a++h)++s) (IntKind.wrap .i64 (m-1)) (backK (backK (KH.new (KH.new d b (mkEnt [.string (ByteArray.mk #[97]),.string (ByteArray.mk #[98]),.string (ByteArray.mk #[91,97,98,93]),.string (ByteArray.mk #[97,98]),.string (ByteArray.mk #[40,97,124,98,41]),.string (ByteArray.mk #[91,97,45,99,48,45,49,93]),.string (ByteArray.mk #[40,97,98,124,97,41]),.string (ByteArray.mk #[46]),.string (ByteArray.mk #[92,43])] 0)) c (mkEnt [.string (ByteArray.mk #[]),.string (ByteArray.mk #[]),.string (ByteArray.mk #[42]),.string (ByteArray.mk #[43]),.string (ByteArray.mk #[63])] 0)) i [c,b]) l [c,b]))))/\(decide ((0:Int)<m)=false->Does (env Tryz.prog) 18 [.pointer (some ⟨f,g,none⟩),.int .i64 4] d fun ai j=>∃ (t:Int),ai=(.int .i64 t)/\(decide (t=0)=true->(((decide (((((ByteArray.size a):Nat):Int):Int)<15)):Bool)=true->(((ByteArray.size a)+(ByteArray.size (ByteArray.mk #[124]))):Nat)<=1000000/\∀ (u:Nat),((j u):(Option (Ent)))=none->Does (env Tryz.prog) 18 [.pointer (some ⟨f,g,none⟩),.int .i64 3] (KH.new j u (mkEnt [.string (ByteArray.mk #[98]),.string (ByteArray.mk #[98,97]),.string (ByteArray.mk #[99,43])] 0)) fun aj v=>∃ (q:Int),aj=(.int .i64 q)/\((0:Int)<=q/\q<(3:Int))/\∃ (ad ae:Nat),((some ⟨u,0,none⟩):(OA))=(some ⟨ad,ae,none⟩)/\∃ (k:ByteArray),ld v ⟨ad,ae+((Int.toNat q)*1),none⟩ [(.string k)]/\(((ByteArray.size (a++(ByteArray.mk #[124])))+(ByteArray.size k)):Nat)<=1000000/\(((decide ((24:Int)<(((ByteArray.size ((a++(ByteArray.mk #[124]))++k)):Nat):Int))):Bool)=true->y5 (.string (ByteArray.mk #[97])) v)/\(((decide ((24:Int)<(((ByteArray.size ((a++(ByteArray.mk #[124]))++k)):Nat):Int))):Bool)=false->y5 (.string ((a++(ByteArray.mk #[124]))++k)) v))/\(((decide (((((ByteArray.size a):Nat):Int):Int)<15)):Bool)=false->(((decide ((24:Int)<(((ByteArray.size a):Nat):Int))):Bool)=true->y5 (.string (ByteArray.mk #[97])) j)/\(((decide ((24:Int)<(((ByteArray.size a):Nat):Int))):Bool)=false->y5 (.string a) j)))/\(decide (t=0)=false->(((decide ((24:Int)<(((ByteArray.size a):Nat):Int))):Bool)=true->y5 (.string (ByteArray.mk #[97])) j)/\(((decide ((24:Int)<(((ByteArray.size a):Nat):Int))):Bool)=false->y5 (.string a) j))))
def vc19 (p0b p0o:Nat) (H:KH) (Q:PQ):Prop :=
 Does (env Tryz.prog) 18 [.pointer (some ⟨p0b,p0o,none⟩),.int .i64 3] H fun b c=>∃ (a:Int),b=(.int .i64 a)/\vc19_L2 p0b p0o a c Q
theorem fn19 (ok:EnvOk (env Tryz.prog)) {p0b p0o:Nat} {H:KH} {Q:PQ} (h:vc19 p0b p0o H Q):Does (env Tryz.prog) 19 [.pointer (some ⟨p0b,p0o,none⟩)] H Q :=
 wFun_sound (W:=W19 Tryz.prog) ok.tt (blt_lt (by kernel_rfl)) (ff_of ok (by kernel_rfl) Tryz.func19) (Eq.mpr (by kernel_rfl) h)
def W20 (P:Program):WE:=⟨env P,tupT,[],mkTab [],20⟩
def vc20 (p0:ByteArray) (H:KH) (Q:PQ):Prop :=
 ((((decide (((((ByteArray.size p0):Nat):Int):Int)<1)):Bool)=true->Q (.tuple #[.slice none 0 0,.bool false]) H)/\(((decide (((((ByteArray.size p0):Nat):Int):Int)<1)):Bool)=false->(((decide ((24:Int)<(((ByteArray.size p0):Nat):Int))):Bool)=true->Q (.tuple #[.slice none 0 0,.bool false]) H)/\(((decide ((24:Int)<(((ByteArray.size p0):Nat):Int))):Bool)=false->∀ (a:Nat),((H a):(Option (Ent)))=none->Does (env Tryz.prog) 30 [.pointer (some ⟨a,0,none⟩),.int .i64 0] (KH.new H a (mkEnt (Array.toList #[Value.string p0,.int .i64 0,.bool false]) 0)) fun h b=>∃ (e:(OA)) (f g:Nat),h=(.slice e f g)/\(none:(Option Nat))=none/\∃ (c:Bool),ld b ⟨a,0+2,none⟩ [(.bool c)]/\(c=true->Q (.tuple #[.slice none 0 0,.bool false]) b)/\(c=false->(none:(Option Nat))=none/\∃ (d:Int),ld b ⟨a,0+1,none⟩ [(.int .i64 d)]/\(((decide (d≠(((ByteArray.size p0):Nat):Int))):Bool)=true->Q (.tuple #[.slice none 0 0,.bool false]) b)/\(((decide (d≠(((ByteArray.size p0):Nat):Int))):Bool)=false->Q (.tuple #[.slice e f g,.bool true]) b)))))
theorem fn20 (ok:EnvOk (env Tryz.prog)) {p0:ByteArray} {H:KH} {Q:PQ} (h:vc20 p0 H Q):Does (env Tryz.prog) 20 [.string p0] H Q :=
 wFun_sound (W:=W20 Tryz.prog) ok.tt (blt_lt (by kernel_rfl)) (ff_of ok (by kernel_rfl) Tryz.func20) (Eq.mpr (by kernel_rfl) h)
def W18 (P:Program):WE:=⟨env P,tupT,[],mkTab [],18⟩
def vc18 (p0b p0o:Nat) (p1:Int) (H:KH) (Q:PQ):Prop :=
 (True/\(none:(Option Nat))=none/\∃ (c:Int),ld H ⟨p0b,p0o+1,none⟩ [(.int .i64 c)]/\(none:(Option Nat))=none/\∃ (k:(OA)) (d l:Nat),ld H ⟨p0b,p0o+0,none⟩ [(.slice k d l)]/\(decide ((d:Int)<=c)=true->Q (.int .i64 0) H)/\(decide ((d:Int)<=c)=false->(none:(Option Nat))=none/\∃ (a:Int),ld H ⟨p0b,p0o+1,none⟩ [(.int .i64 a)]/\(none:(Option Nat))=none/\(∃ (e:(List Value)),((List.length e):Nat)=(List.length [(Value.int .i64 (IntKind.wrap .i64 (a+1)))])/\ld H ⟨p0b,p0o+1,none⟩ e)/\KH.may H p0b/\True/\(none:(Option Nat))=none/\∃ (f:(OA)) (g m:Nat),ld (KH.put H ⟨p0b,p0o+1,none⟩ [(.int .i64 (IntKind.wrap .i64 (a+1)))]) ⟨p0b,p0o+0,none⟩ [(.slice f g m)]/\(none:(Option Nat))=none/\∃ (b:Int),ld (KH.put H ⟨p0b,p0o+1,none⟩ [(.int .i64 (IntKind.wrap .i64 (a+1)))]) ⟨p0b,p0o+1,none⟩ [(.int .i64 b)]/\((0:Int)<=(IntKind.wrap .i64 (b-1))/\((IntKind.wrap .i64 (b-1)):Int)<(g:Int))/\∃ (h i:Nat),f=some ⟨h,i,none⟩/\∃ (j:Int),ld (KH.put H ⟨p0b,p0o+1,none⟩ [(.int .i64 (IntKind.wrap .i64 (a+1)))]) ⟨h,i+((Int.toNat (IntKind.wrap .i64 (b-1)))*1),none⟩ [(.int .u8 j)]/\p1≠0/\Q (.int .i64 (Int.tmod (IntKind.wrap .i64 j) p1)) (KH.put H ⟨p0b,p0o+1,none⟩ [(.int .i64 (IntKind.wrap .i64 (a+1)))])))
theorem fn18 (ok:EnvOk (env Tryz.prog)) {p0b p0o:Nat} {p1:Int} {H:KH} {Q:PQ} (h:vc18 p0b p0o p1 H Q):Does (env Tryz.prog) 18 [.pointer (some ⟨p0b,p0o,none⟩),.int .i64 p1] H Q :=
 wFun_sound (W:=W18 Tryz.prog) ok.tt (blt_lt (by kernel_rfl)) (ff_of ok (by kernel_rfl) Tryz.func18) (Eq.mpr (by kernel_rfl) h)
def W30 (P:Program):WE:=⟨env P,tupT,[],mkTab [(0,[.tmp 0 .ptr,.tmp 1 (.int .i64),.tmp 5 .slice])],30⟩
def vc30_L1 (y1 y2:Nat) (y3:Int) (y4:OA) (y5 y6:Nat) (y7:KH) (y8:PQ):Prop :=
 (∃ (j:(Nat->Nat->Nat->Int->OA->Nat->Nat->KH->Prop)),(∃ (ai:Nat),(none:(Option Nat))=none/\j ai y1 y2 y3 y4 y5 y6 y7)/\∀ (p a b:Nat) (k:Int) (f:(OA)) (g h:Nat) (i:KH),j p a b k f g h i->(none:(Option Nat))=none/\∃ (l:Bool),ld i ⟨a,b+2,none⟩ [(.bool l)]/\((!l)=true->Does (env Tryz.prog) 47 [(.pointer (some ⟨a,b,none⟩))] i fun aj e=>∃ (m:Int),aj=(.int .u8 m)/\(decide (m=124)=true->(none:(Option Nat))=none/\∃ (n:Int),ld e ⟨a,b+1,none⟩ [(.int .i64 n)]/\(none:(Option Nat))=none/\(∃ (q:(List Value)),((List.length q):Nat)=(List.length [(Value.int .i64 (IntKind.wrap .i64 (n+1)))])/\ld e ⟨a,b+1,none⟩ q)/\KH.may e a/\Does (env Tryz.prog) 46 [.pointer (some ⟨a,b,none⟩),.int .i64 k] (KH.put e ⟨a,b+1,none⟩ [(.int .i64 (IntKind.wrap .i64 (n+1)))]) fun ak o=>∃ (r:(OA)) (s t:Nat),ak=(.slice r s t)/\∀ (u:Nat),((o u):(Option (Ent)))=none->∃ (v:Nat) (w:(List Value)),((knew o ⟨2,32,true,3,0,0,[(0,1),(1,1)],[.int .i64 0,.slice none 0 0]⟩ (.slice r s t)):(Option (Nat × (List Value))))=(some (v,w))/\∃ (x:(OA)) (y z:Nat) (c:KH),((kappend o u ⟨2,32,true,3,0,0,[(0,1),(1,1)],[.int .i64 0,.slice none 0 0]⟩ f g h v w):(Option (Value × KH)))=(some (.slice x y z,c))/\∀ (d:Nat),((c d):(Option (Ent)))=none->∀ (aa:Nat),(((KH.new c d (mkEnt [.int .i64 3,.slice none 0 0] 0)) aa):(Option (Ent)))=none->∃ (ab:Nat) (ac:(List Value)),((knew (KH.new c d (mkEnt [.int .i64 3,.slice none 0 0] 0)) ⟨2,32,true,3,0,0,[(0,1),(1,1)],[.int .i64 0,.slice none 0 0]⟩ (.slice (some ⟨d,0,none⟩) 1 1)):(Option (Nat × (List Value))))=(some (ab,ac))/\∃ (ad:(OA)) (ae af:Nat) (ag:KH),((kappend (KH.new c d (mkEnt [.int .i64 3,.slice none 0 0] 0)) aa ⟨2,32,true,3,0,0,[(0,1),(1,1)],[.int .i64 0,.slice none 0 0]⟩ x y z ab ac):(Option (Value × KH)))=(some (.slice ad ae af,ag))/\∃ (ah:Nat),(ah:Nat)<p/\(none:(Option Nat))=none/\j ah a b k ad ae af ag)/\(decide (m=124)=false->y8 (.slice f g h) e))/\((!l)=false->y8 (.slice f g h) i))
def vc30 (p0b p0o:Nat) (p1:Int) (H:KH) (Q:PQ):Prop :=
 Does (env Tryz.prog) 46 [.pointer (some ⟨p0b,p0o,none⟩),.int .i64 p1] H fun d e=>∃ (a:(OA)) (b c:Nat),d=(.slice a b c)/\vc30_L1 p0b p0o p1 a b c e Q
theorem fn30 (ok:EnvOk (env Tryz.prog)) {p0b p0o:Nat} {p1:Int} {H:KH} {Q:PQ} (h:vc30 p0b p0o p1 H Q):Does (env Tryz.prog) 30 [.pointer (some ⟨p0b,p0o,none⟩),.int .i64 p1] H Q :=
 wFun_sound (W:=W30 Tryz.prog) ok.tt (blt_lt (by kernel_rfl)) (ff_of ok (by kernel_rfl) Tryz.func30) (Eq.mpr (by kernel_rfl) h)
def W46 (P:Program):WE:=⟨env P,tupT,[],mkTab [(0,[.tmp 0 .ptr,.tmp 1 (.int .i64),.tmp 5 .slice])],46⟩
def vc46_L1 (y1 y2:Nat) (y3:Int) (y4:OA) (y5 y6:Nat) (y7:KH) (y8:PQ):Prop :=
 (∃ (i:(Nat->Nat->Nat->Int->OA->Nat->Nat->KH->Prop)),(∃ (ak:Nat),(none:(Option Nat))=none/\i ak y1 y2 y3 y4 y5 y6 y7)/\∀ (q a b:Nat) (j:Int) (d:(OA)) (e f:Nat) (c:KH),i q a b j d e f c->True/\(none:(Option Nat))=none/\∃ (k:Bool),ld c ⟨a,b+2,none⟩ [(.bool k)]/\((!k)=true->(none:(Option Nat))=none/\∃ (l:Int),ld c ⟨a,b+1,none⟩ [(.int .i64 l)]/\(none:(Option Nat))=none/\∃ (m:ByteArray),ld c ⟨a,b+0,none⟩ [(.string m)]/\(((decide (l<(((ByteArray.size m):Nat):Int))):Bool)=true->Does (env Tryz.prog) 47 [(.pointer (some ⟨a,b,none⟩))] c fun al ai=>∃ (n:Int),al=(.int .u8 n)/\True/\(decide (n≠124)=true->Does (env Tryz.prog) 47 [(.pointer (some ⟨a,b,none⟩))] ai fun am aj=>∃ (o:Int),am=(.int .u8 o)/\True/\(decide (o≠41)=true->Does (env Tryz.prog) 69 [.pointer (some ⟨a,b,none⟩),.int .i64 j] aj fun an p=>∃ (r:(OA)) (s t:Nat),an=(.slice r s t)/\∀ (u:Nat),((p u):(Option (Ent)))=none->∃ (v:Nat) (w:(List Value)),((knew p ⟨2,32,true,3,0,0,[(0,1),(1,1)],[.int .i64 0,.slice none 0 0]⟩ (.slice r s t)):(Option (Nat × (List Value))))=(some (v,w))/\∃ (x:(OA)) (y z:Nat) (g:KH),((kappend p u ⟨2,32,true,3,0,0,[(0,1),(1,1)],[.int .i64 0,.slice none 0 0]⟩ d e f v w):(Option (Value × KH)))=(some (.slice x y z,g))/\∀ (h:Nat),((g h):(Option (Ent)))=none->∀ (aa:Nat),(((KH.new g h (mkEnt [.int .i64 2,.slice none 0 0] 0)) aa):(Option (Ent)))=none->∃ (ab:Nat) (ac:(List Value)),((knew (KH.new g h (mkEnt [.int .i64 2,.slice none 0 0] 0)) ⟨2,32,true,3,0,0,[(0,1),(1,1)],[.int .i64 0,.slice none 0 0]⟩ (.slice (some ⟨h,0,none⟩) 1 1)):(Option (Nat × (List Value))))=(some (ab,ac))/\∃ (ad:(OA)) (ae af:Nat) (ag:KH),((kappend (KH.new g h (mkEnt [.int .i64 2,.slice none 0 0] 0)) aa ⟨2,32,true,3,0,0,[(0,1),(1,1)],[.int .i64 0,.slice none 0 0]⟩ x y z ab ac):(Option (Value × KH)))=(some (.slice ad ae af,ag))/\∃ (ah:Nat),(ah:Nat)<q/\(none:(Option Nat))=none/\i ah a b j ad ae af ag)/\(decide (o≠41)=false->y8 (.slice d e f) aj))/\(decide (n≠124)=false->True/\y8 (.slice d e f) ai))/\(((decide (l<(((ByteArray.size m):Nat):Int))):Bool)=false->True/\True/\y8 (.slice d e f) c))/\((!k)=false->True/\True/\y8 (.slice d e f) c))
def vc46 (p0b p0o:Nat) (p1:Int) (H:KH) (Q:PQ):Prop :=
 Does (env Tryz.prog) 69 [.pointer (some ⟨p0b,p0o,none⟩),.int .i64 p1] H fun d e=>∃ (a:(OA)) (b c:Nat),d=(.slice a b c)/\vc46_L1 p0b p0o p1 a b c e Q
theorem fn46 (ok:EnvOk (env Tryz.prog)) {p0b p0o:Nat} {p1:Int} {H:KH} {Q:PQ} (h:vc46 p0b p0o p1 H Q):Does (env Tryz.prog) 46 [.pointer (some ⟨p0b,p0o,none⟩),.int .i64 p1] H Q :=
 wFun_sound (W:=W46 Tryz.prog) ok.tt (blt_lt (by kernel_rfl)) (ff_of ok (by kernel_rfl) Tryz.func46) (Eq.mpr (by kernel_rfl) h)
def W47 (P:Program):WE:=⟨env P,tupT,[],mkTab [],47⟩
def vc47 (p0b p0o:Nat) (H:KH) (Q:PQ):Prop :=
 (True/\(none:(Option Nat))=none/\∃ (b:Int),ld H ⟨p0b,p0o+1,none⟩ [(.int .i64 b)]/\(none:(Option Nat))=none/\∃ (c:ByteArray),ld H ⟨p0b,p0o+0,none⟩ [(.string c)]/\(((decide (((((ByteArray.size c):Nat):Int):Int)<=b)):Bool)=true->Q (.int .u8 0) H)/\(((decide (((((ByteArray.size c):Nat):Int):Int)<=b)):Bool)=false->True/\(none:(Option Nat))=none/\∃ (d:ByteArray),ld H ⟨p0b,p0o+0,none⟩ [(.string d)]/\(none:(Option Nat))=none/\∃ (a:Int),ld H ⟨p0b,p0o+1,none⟩ [(.int .i64 a)]/\((0:Int)<=a/\a<(((ByteArray.size d):Nat):Int))/\Q (.int .u8 (byteAt d (Int.toNat a))) H))
theorem fn47 (ok:EnvOk (env Tryz.prog)) {p0b p0o:Nat} {H:KH} {Q:PQ} (h:vc47 p0b p0o H Q):Does (env Tryz.prog) 47 [.pointer (some ⟨p0b,p0o,none⟩)] H Q :=
 wFun_sound (W:=W47 Tryz.prog) ok.tt (blt_lt (by kernel_rfl)) (ff_of ok (by kernel_rfl) Tryz.func47) (Eq.mpr (by kernel_rfl) h)
def W69 (P:Program):WE:=⟨env P,tupT,[],mkTab [(0,[.tmp 0 .ptr,.tmp 5 .slice])],69⟩
def vc69_J0 (y1:KH) (y2 y3 y4:Nat) (y5:(Nat->(Nat->(Nat->(OA->(Nat->(Nat->(KH->Prop)))))))) (y6:OA) (y7 y8:Nat):Prop :=
 ((none:(Option Nat))=none/\∃ (a:Int),ld y1 ⟨y2,y3+1,none⟩ [(.int .i64 a)]/\(none:(Option Nat))=none/\(∃ (b:(List Value)),((List.length b):Nat)=(List.length [(Value.int .i64 (IntKind.wrap .i64 (a+1)))])/\ld y1 ⟨y2,y3+1,none⟩ b)/\KH.may y1 y2/\∃ (c:Nat),(c:Nat)<y4/\(none:(Option Nat))=none/\y5 c y2 y3 y6 y7 y8 (KH.put y1 ⟨y2,y3+1,none⟩ [(.int .i64 (IntKind.wrap .i64 (a+1)))]))
def vc69_L2 (y1 y2:Nat) (y3:OA) (y4 y5:Nat) (y6:KH) (y7:PQ):Prop :=
 (∃ (e:(Nat->Nat->Nat->OA->Nat->Nat->KH->Prop)),(∃ (aj:Nat),(none:(Option Nat))=none/\e aj y1 y2 y3 y4 y5 y6)/\∀ (l c d:Nat) (f:(OA)) (g h:Nat) (m:KH),e l c d f g h m->(none:(Option Nat))=none/\∃ (n:Bool),ld m ⟨c,d+2,none⟩ [(.bool n)]/\((!n)=true->Does (env Tryz.prog) 47 [(.pointer (some ⟨c,d,none⟩))] m fun ak a=>∃ (b:Int),ak=(.int .u8 b)/\(decide (b=42)=true->∀ (i:Nat),((a i):(Option (Ent)))=none->∀ (o:Nat),(((KH.new a i (mkEnt [.int .i64 4,.slice none 0 0] 0)) o):(Option (Ent)))=none->∃ (p:Nat) (q:(List Value)),((knew (KH.new a i (mkEnt [.int .i64 4,.slice none 0 0] 0)) ⟨2,32,true,3,0,0,[(0,1),(1,1)],[.int .i64 0,.slice none 0 0]⟩ (.slice (some ⟨i,0,none⟩) 1 1)):(Option (Nat × (List Value))))=(some (p,q))/\∃ (r:(OA)) (s t:Nat) (u:KH),((kappend (KH.new a i (mkEnt [.int .i64 4,.slice none 0 0] 0)) o ⟨2,32,true,3,0,0,[(0,1),(1,1)],[.int .i64 0,.slice none 0 0]⟩ f g h p q):(Option (Value × KH)))=(some (.slice r s t,u))/\vc69_J0 u c d l e r s t)/\(decide (b=42)=false->(decide (b=43)=true->∀ (j:Nat),((a j):(Option (Ent)))=none->∀ (v:Nat),(((KH.new a j (mkEnt [.int .i64 5,.slice none 0 0] 0)) v):(Option (Ent)))=none->∃ (w:Nat) (x:(List Value)),((knew (KH.new a j (mkEnt [.int .i64 5,.slice none 0 0] 0)) ⟨2,32,true,3,0,0,[(0,1),(1,1)],[.int .i64 0,.slice none 0 0]⟩ (.slice (some ⟨j,0,none⟩) 1 1)):(Option (Nat × (List Value))))=(some (w,x))/\∃ (y:(OA)) (z aa:Nat) (ab:KH),((kappend (KH.new a j (mkEnt [.int .i64 5,.slice none 0 0] 0)) v ⟨2,32,true,3,0,0,[(0,1),(1,1)],[.int .i64 0,.slice none 0 0]⟩ f g h w x):(Option (Value × KH)))=(some (.slice y z aa,ab))/\vc69_J0 ab c d l e y z aa)/\(decide (b=43)=false->(decide (b=63)=true->∀ (k:Nat),((a k):(Option (Ent)))=none->∀ (ac:Nat),(((KH.new a k (mkEnt [.int .i64 6,.slice none 0 0] 0)) ac):(Option (Ent)))=none->∃ (ad:Nat) (ae:(List Value)),((knew (KH.new a k (mkEnt [.int .i64 6,.slice none 0 0] 0)) ⟨2,32,true,3,0,0,[(0,1),(1,1)],[.int .i64 0,.slice none 0 0]⟩ (.slice (some ⟨k,0,none⟩) 1 1)):(Option (Nat × (List Value))))=(some (ad,ae))/\∃ (af:(OA)) (ag ah:Nat) (ai:KH),((kappend (KH.new a k (mkEnt [.int .i64 6,.slice none 0 0] 0)) ac ⟨2,32,true,3,0,0,[(0,1),(1,1)],[.int .i64 0,.slice none 0 0]⟩ f g h ad ae):(Option (Value × KH)))=(some (.slice af ag ah,ai))/\vc69_J0 ai c d l e af ag ah)/\(decide (b=63)=false->y7 (.slice f g h) a))))/\((!n)=false->y7 (.slice none 0 0) m))
def vc69 (p0b p0o:Nat) (p1:Int) (H:KH) (Q:PQ):Prop :=
 Does (env Tryz.prog) 84 [.pointer (some ⟨p0b,p0o,none⟩),.int .i64 p1] H fun d e=>∃ (a:(OA)) (b c:Nat),d=(.slice a b c)/\vc69_L2 p0b p0o a b c e Q
theorem fn69 (ok:EnvOk (env Tryz.prog)) {p0b p0o:Nat} {p1:Int} {H:KH} {Q:PQ} (h:vc69 p0b p0o p1 H Q):Does (env Tryz.prog) 69 [.pointer (some ⟨p0b,p0o,none⟩),.int .i64 p1] H Q :=
 wFun_sound (W:=W69 Tryz.prog) ok.tt (blt_lt (by kernel_rfl)) (ff_of ok (by kernel_rfl) Tryz.func69) (Eq.mpr (by kernel_rfl) h)
def W84 (P:Program):WE:=⟨env P,tupT,[],mkTab [],84⟩
def vc84 (p0b p0o:Nat) (p1:Int) (H:KH) (Q:PQ):Prop :=
 Does (env Tryz.prog) 47 [(.pointer (some ⟨p0b,p0o,none⟩))] H fun aa a=>∃ (b:Int),aa=(.int .u8 b)/\(decide (b=40)=true->(none:(Option Nat))=none/\∃ (d:Int),ld a ⟨p0b,p0o+1,none⟩ [(.int .i64 d)]/\(none:(Option Nat))=none/\(∃ (o:(List Value)),((List.length o):Nat)=(List.length [(Value.int .i64 (IntKind.wrap .i64 (d+1)))])/\ld a ⟨p0b,p0o+1,none⟩ o)/\KH.may a p0b/\(decide ((12:Int)<=p1)=true->(none:(Option Nat))=none/\(∃ (p:(List Value)),((List.length p):Nat)=(List.length [(Value.bool true)])/\ld (KH.put a ⟨p0b,p0o+1,none⟩ [(.int .i64 (IntKind.wrap .i64 (d+1)))]) ⟨p0b,p0o+2,none⟩ p)/\KH.may (KH.put a ⟨p0b,p0o+1,none⟩ [(.int .i64 (IntKind.wrap .i64 (d+1)))]) p0b/\Q (.slice none 0 0) (KH.put (KH.put a ⟨p0b,p0o+1,none⟩ [(.int .i64 (IntKind.wrap .i64 (d+1)))]) ⟨p0b,p0o+2,none⟩ [(.bool true)]))/\(decide ((12:Int)<=p1)=false->Does (env Tryz.prog) 30 [.pointer (some ⟨p0b,p0o,none⟩),.int .i64 (IntKind.wrap .i64 (p1+1))] (KH.put a ⟨p0b,p0o+1,none⟩ [(.int .i64 (IntKind.wrap .i64 (d+1)))]) fun ab ac=>∃ (q:(OA)) (r s:Nat),ab=(.slice q r s)/\Does (env Tryz.prog) 47 [(.pointer (some ⟨p0b,p0o,none⟩))] ac fun ad c=>∃ (i:Int),ad=(.int .u8 i)/\(decide (i≠41)=true->(none:(Option Nat))=none/\(∃ (t:(List Value)),((List.length t):Nat)=(List.length [(Value.bool true)])/\ld c ⟨p0b,p0o+2,none⟩ t)/\KH.may c p0b/\Q (.slice none 0 0) (KH.put c ⟨p0b,p0o+2,none⟩ [(.bool true)]))/\(decide (i≠41)=false->(none:(Option Nat))=none/\∃ (j:Int),ld c ⟨p0b,p0o+1,none⟩ [(.int .i64 j)]/\(none:(Option Nat))=none/\(∃ (u:(List Value)),((List.length u):Nat)=(List.length [(Value.int .i64 (IntKind.wrap .i64 (j+1)))])/\ld c ⟨p0b,p0o+1,none⟩ u)/\KH.may c p0b/\Q (.slice q r s) (KH.put c ⟨p0b,p0o+1,none⟩ [(.int .i64 (IntKind.wrap .i64 (j+1)))]))))/\(decide (b=40)=false->(decide (b=91)=true->(none:(Option Nat))=none/\∃ (k:Int),ld a ⟨p0b,p0o+1,none⟩ [(.int .i64 k)]/\(none:(Option Nat))=none/\(∃ (v:(List Value)),((List.length v):Nat)=(List.length [(Value.int .i64 (IntKind.wrap .i64 (k+1)))])/\ld a ⟨p0b,p0o+1,none⟩ v)/\KH.may a p0b/\Does (env Tryz.prog) 94 [(.pointer (some ⟨p0b,p0o,none⟩))] (KH.put a ⟨p0b,p0o+1,none⟩ [(.int .i64 (IntKind.wrap .i64 (k+1)))]) fun ae af=>∃ (w:(OA)) (x y:Nat),ae=(.slice w x y)/\Q (.slice w x y) af)/\(decide (b=91)=false->(decide (b=46)=true->(none:(Option Nat))=none/\∃ (e:Int),ld a ⟨p0b,p0o+1,none⟩ [(.int .i64 e)]/\(none:(Option Nat))=none/\(∃ (z:(List Value)),((List.length z):Nat)=(List.length [(Value.int .i64 (IntKind.wrap .i64 (e+1)))])/\ld a ⟨p0b,p0o+1,none⟩ z)/\KH.may a p0b/\∀ (g:Nat),(((KH.put a ⟨p0b,p0o+1,none⟩ [(.int .i64 (IntKind.wrap .i64 (e+1)))]) g):(Option (Ent)))=none->∀ (l:Nat),(((KH.new (KH.put a ⟨p0b,p0o+1,none⟩ [(.int .i64 (IntKind.wrap .i64 (e+1)))]) g (mkEnt [.int .u8 32,.int .u8 126] 0)) l):(Option (Ent)))=none->Q (.slice (some ⟨l,0,none⟩) 1 1) (KH.new (KH.new (KH.put a ⟨p0b,p0o+1,none⟩ [(.int .i64 (IntKind.wrap .i64 (e+1)))]) g (mkEnt [.int .u8 32,.int .u8 126] 0)) l (mkEnt [.int .i64 1,.slice (some ⟨g,0,none⟩) 1 1] 0)))/\(decide (b=46)=false->Does (env Tryz.prog) 95 [.pointer (some ⟨p0b,p0o,none⟩),.string (ByteArray.mk #[40,41,91,93,124,42,43,63,46,92])] a fun ag n=>∃ (f:Int),ag=(.int .u8 f)/\∀ (h:Nat),((n h):(Option (Ent)))=none->∀ (m:Nat),(((KH.new n h (mkEnt [.int .u8 f,.int .u8 f] 0)) m):(Option (Ent)))=none->Q (.slice (some ⟨m,0,none⟩) 1 1) (KH.new (KH.new n h (mkEnt [.int .u8 f,.int .u8 f] 0)) m (mkEnt [.int .i64 1,.slice (some ⟨h,0,none⟩) 1 1] 0)))))
theorem fn84 (ok:EnvOk (env Tryz.prog)) {p0b p0o:Nat} {p1:Int} {H:KH} {Q:PQ} (h:vc84 p0b p0o p1 H Q):Does (env Tryz.prog) 84 [.pointer (some ⟨p0b,p0o,none⟩),.int .i64 p1] H Q :=
 wFun_sound (W:=W84 Tryz.prog) ok.tt (blt_lt (by kernel_rfl)) (ff_of ok (by kernel_rfl) Tryz.func84) (Eq.mpr (by kernel_rfl) h)
def W94 (P:Program):WE:=⟨env P,tupT,[4],mkTab [(0,[.tmp 0 .ptr,.tmp 3 .slice])],94⟩
def vc94_J2 (y1:KH) (y2 y3:Nat) (y4:Int) (y5:OA) (y6 y7 y8:Nat) (y9:(Nat->(Nat->(Nat->(OA->(Nat->(Nat->(KH->Prop)))))))):Prop :=
 (∀ (a:Nat),(((KH.put y1 ⟨y2,y3+2,none⟩ [(.bool true)]) a):(Option (Ent)))=none->∀ (b:Nat),(((KH.new (KH.put y1 ⟨y2,y3+2,none⟩ [(.bool true)]) a (mkEnt [.int .u8 y4,.int .u8 y4] 0)) b):(Option (Ent)))=none->∃ (c:Nat) (d:(List Value)),((knew (KH.new (KH.put y1 ⟨y2,y3+2,none⟩ [(.bool true)]) a (mkEnt [.int .u8 y4,.int .u8 y4] 0)) ⟨2,2,true,3,0,0,[(0,1),(1,1)],[.int .u8 0,.int .u8 0]⟩ (.slice (some ⟨a,0,none⟩) 1 1)):(Option (Nat × (List Value))))=(some (c,d))/\∃ (e:(OA)) (f g:Nat) (h:KH),((kappend (KH.new (KH.put y1 ⟨y2,y3+2,none⟩ [(.bool true)]) a (mkEnt [.int .u8 y4,.int .u8 y4] 0)) b ⟨2,2,true,3,0,0,[(0,1),(1,1)],[.int .u8 0,.int .u8 0]⟩ y5 y6 y7 c d):(Option (Value × KH)))=(some (.slice e f g,h))/\∃ (i:Nat),(i:Nat)<y8/\(none:(Option Nat))=none/\y9 i y2 y3 e f g h)
def vc94_J3 (y1:KH) (y2:Int) (y3:OA) (y4 y5 y6:Nat) (y7:(Nat->(Nat->(Nat->(OA->(Nat->(Nat->(KH->Prop)))))))) (y8 y9:Nat):Prop :=
 (∀ (a:Nat),((y1 a):(Option (Ent)))=none->∀ (b:Nat),(((KH.new y1 a (mkEnt [.int .u8 y2,.int .u8 y2] 0)) b):(Option (Ent)))=none->∃ (c:Nat) (d:(List Value)),((knew (KH.new y1 a (mkEnt [.int .u8 y2,.int .u8 y2] 0)) ⟨2,2,true,3,0,0,[(0,1),(1,1)],[.int .u8 0,.int .u8 0]⟩ (.slice (some ⟨a,0,none⟩) 1 1)):(Option (Nat × (List Value))))=(some (c,d))/\∃ (e:(OA)) (f g:Nat) (h:KH),((kappend (KH.new y1 a (mkEnt [.int .u8 y2,.int .u8 y2] 0)) b ⟨2,2,true,3,0,0,[(0,1),(1,1)],[.int .u8 0,.int .u8 0]⟩ y3 y4 y5 c d):(Option (Value × KH)))=(some (.slice e f g,h))/\∃ (i:Nat),(i:Nat)<y6/\(none:(Option Nat))=none/\y7 i y8 y9 e f g h)
def vc94_J4 (y1 y2:Nat) (y3:KH) (y4:OA) (y5 y6 y7:Nat) (y8:(Nat->(Nat->(Nat->(OA->(Nat->(Nat->(KH->Prop)))))))):Prop :=
 Does (env Tryz.prog) 95 [.pointer (some ⟨y1,y2,none⟩),.string (ByteArray.mk #[93,45,92])] y3 fun ae e=>∃ (a:Int),ae=(.int .u8 a)/\(none:(Option Nat))=none/\∃ (h:Bool),ld e ⟨y1,y2+2,none⟩ [(.bool h)]/\((!h)=true->Does (env Tryz.prog) 47 [(.pointer (some ⟨y1,y2,none⟩))] e fun af d=>∃ (i:Int),af=(.int .u8 i)/\(decide (i=45)=true->(none:(Option Nat))=none/\∃ (j:Int),ld d ⟨y1,y2+1,none⟩ [(.int .i64 j)]/\(none:(Option Nat))=none/\(∃ (k:(List Value)),((List.length k):Nat)=(List.length [(Value.int .i64 (IntKind.wrap .i64 (j+1)))])/\ld d ⟨y1,y2+1,none⟩ k)/\KH.may d y1/\Does (env Tryz.prog) 95 [.pointer (some ⟨y1,y2,none⟩),.string (ByteArray.mk #[93,45,92])] (KH.put d ⟨y1,y2+1,none⟩ [(.int .i64 (IntKind.wrap .i64 (j+1)))]) fun ag b=>∃ (c:Int),ag=(.int .u8 c)/\(decide (c<a)=true->(none:(Option Nat))=none/\(∃ (l:(List Value)),((List.length l):Nat)=(List.length [(Value.bool true)])/\ld b ⟨y1,y2+2,none⟩ l)/\KH.may b y1/\∀ (f:Nat),(((KH.put b ⟨y1,y2+2,none⟩ [(.bool true)]) f):(Option (Ent)))=none->∀ (m:Nat),(((KH.new (KH.put b ⟨y1,y2+2,none⟩ [(.bool true)]) f (mkEnt [.int .u8 a,.int .u8 c] 0)) m):(Option (Ent)))=none->∃ (n:Nat) (o:(List Value)),((knew (KH.new (KH.put b ⟨y1,y2+2,none⟩ [(.bool true)]) f (mkEnt [.int .u8 a,.int .u8 c] 0)) ⟨2,2,true,3,0,0,[(0,1),(1,1)],[.int .u8 0,.int .u8 0]⟩ (.slice (some ⟨f,0,none⟩) 1 1)):(Option (Nat × (List Value))))=(some (n,o))/\∃ (p:(OA)) (q r:Nat) (s:KH),((kappend (KH.new (KH.put b ⟨y1,y2+2,none⟩ [(.bool true)]) f (mkEnt [.int .u8 a,.int .u8 c] 0)) m ⟨2,2,true,3,0,0,[(0,1),(1,1)],[.int .u8 0,.int .u8 0]⟩ y4 y5 y6 n o):(Option (Value × KH)))=(some (.slice p q r,s))/\∃ (t:Nat),(t:Nat)<y7/\(none:(Option Nat))=none/\y8 t y1 y2 p q r s)/\(decide (c<a)=false->∀ (g:Nat),((b g):(Option (Ent)))=none->∀ (u:Nat),(((KH.new b g (mkEnt [.int .u8 a,.int .u8 c] 0)) u):(Option (Ent)))=none->∃ (v:Nat) (w:(List Value)),((knew (KH.new b g (mkEnt [.int .u8 a,.int .u8 c] 0)) ⟨2,2,true,3,0,0,[(0,1),(1,1)],[.int .u8 0,.int .u8 0]⟩ (.slice (some ⟨g,0,none⟩) 1 1)):(Option (Nat × (List Value))))=(some (v,w))/\∃ (x:(OA)) (y z:Nat) (aa:KH),((kappend (KH.new b g (mkEnt [.int .u8 a,.int .u8 c] 0)) u ⟨2,2,true,3,0,0,[(0,1),(1,1)],[.int .u8 0,.int .u8 0]⟩ y4 y5 y6 v w):(Option (Value × KH)))=(some (.slice x y z,aa))/\∃ (ab:Nat),(ab:Nat)<y7/\(none:(Option Nat))=none/\y8 ab y1 y2 x y z aa))/\(decide (i=45)=false->(decide (a<a)=true->(none:(Option Nat))=none/\(∃ (ac:(List Value)),((List.length ac):Nat)=(List.length [(Value.bool true)])/\ld d ⟨y1,y2+2,none⟩ ac)/\KH.may d y1/\vc94_J2 d y1 y2 a y4 y5 y6 y7 y8)/\(decide (a<a)=false->vc94_J3 d a y4 y5 y6 y7 y8 y1 y2)))/\((!h)=false->(decide (a<a)=true->(none:(Option Nat))=none/\(∃ (ad:(List Value)),((List.length ad):Nat)=(List.length [(Value.bool true)])/\ld e ⟨y1,y2+2,none⟩ ad)/\KH.may e y1/\vc94_J2 e y1 y2 a y4 y5 y6 y7 y8)/\(decide (a<a)=false->vc94_J3 e a y4 y5 y6 y7 y8 y1 y2))
def vc94_J5 (y1:KH) (y2 y3:Nat) (y4:PQ) (y5:OA) (y6 y7:Nat):Prop :=
 ((none:(Option Nat))=none/\∃ (a:Int),ld y1 ⟨y2,y3+1,none⟩ [(.int .i64 a)]/\(none:(Option Nat))=none/\(∃ (c:(List Value)),((List.length c):Nat)=(List.length [(Value.int .i64 (IntKind.wrap .i64 (a+1)))])/\ld y1 ⟨y2,y3+1,none⟩ c)/\KH.may y1 y2/\∀ (b:Nat),(((KH.put y1 ⟨y2,y3+1,none⟩ [(.int .i64 (IntKind.wrap .i64 (a+1)))]) b):(Option (Ent)))=none->y4 (.slice (some ⟨b,0,none⟩) 1 1) (KH.new (KH.put y1 ⟨y2,y3+1,none⟩ [(.int .i64 (IntKind.wrap .i64 (a+1)))]) b (mkEnt [.int .i64 1,.slice y5 y6 y7] 0)))
def vc94_L6 (y1 y2:Nat) (y3:KH) (y4:PQ):Prop :=
 (∃ (g:(Nat->Nat->Nat->OA->Nat->Nat->KH->Prop)),(∃ (l:Nat),(none:(Option Nat))=none/\g l y1 y2 none 0 0 y3)/\∀ (h a b:Nat) (d:(OA)) (c e:Nat) (f:KH),g h a b d c e f->(none:(Option Nat))=none/\∃ (i:Bool),ld f ⟨a,b+2,none⟩ [(.bool i)]/\((!i)=true->(decide ((c:Int)=0)=true->vc94_J4 a b f d c e h g)/\(decide ((c:Int)=0)=false->Does (env Tryz.prog) 47 [(.pointer (some ⟨a,b,none⟩))] f fun m k=>∃ (j:Int),m=(.int .u8 j)/\(decide (j≠93)=true->vc94_J4 a b k d c e h g)/\(decide (j≠93)=false->vc94_J5 k a b y4 d c e)))/\((!i)=false->vc94_J5 f a b y4 d c e))
def vc94 (p0b p0o:Nat) (H:KH) (Q:PQ):Prop :=
 (vc94_L6 p0b p0o H Q)
theorem fn94 (ok:EnvOk (env Tryz.prog)) {p0b p0o:Nat} {H:KH} {Q:PQ} (h:vc94 p0b p0o H Q):Does (env Tryz.prog) 94 [.pointer (some ⟨p0b,p0o,none⟩)] H Q :=
 wFun_sound (W:=W94 Tryz.prog) ok.tt (blt_lt (by kernel_rfl)) (ff_of ok (by kernel_rfl) Tryz.func94) (Eq.mpr (by kernel_rfl) h)
def W95 (P:Program):WE:=⟨env P,tupT,[],mkTab [],95⟩
def vc95_J0 (y1:KH) (y2 y3:Nat) (y4:PQ) (y5:Int):Prop :=
 ((none:(Option Nat))=none/\∃ (a:Int),ld (KH.put y1 ⟨y2,y3+2,none⟩ [(.bool true)]) ⟨y2,y3+1,none⟩ [(.int .i64 a)]/\(none:(Option Nat))=none/\(∃ (b:(List Value)),((List.length b):Nat)=(List.length [(Value.int .i64 (IntKind.wrap .i64 (a+1)))])/\ld (KH.put y1 ⟨y2,y3+2,none⟩ [(.bool true)]) ⟨y2,y3+1,none⟩ b)/\KH.may (KH.put y1 ⟨y2,y3+2,none⟩ [(.bool true)]) y2/\y4 (.int .u8 y5) (KH.put (KH.put y1 ⟨y2,y3+2,none⟩ [(.bool true)]) ⟨y2,y3+1,none⟩ [(.int .i64 (IntKind.wrap .i64 (a+1)))]))
def vc95_J1 (y1:KH) (y2 y3:Nat) (y4:PQ) (y5:Int):Prop :=
 ((none:(Option Nat))=none/\∃ (a:Int),ld y1 ⟨y2,y3+1,none⟩ [(.int .i64 a)]/\(none:(Option Nat))=none/\(∃ (b:(List Value)),((List.length b):Nat)=(List.length [(Value.int .i64 (IntKind.wrap .i64 (a+1)))])/\ld y1 ⟨y2,y3+1,none⟩ b)/\KH.may y1 y2/\y4 (.int .u8 y5) (KH.put y1 ⟨y2,y3+1,none⟩ [(.int .i64 (IntKind.wrap .i64 (a+1)))]))
def vc95 (p0b p0o:Nat) (p1:ByteArray) (H:KH) (Q:PQ):Prop :=
 Does (env Tryz.prog) 47 [(.pointer (some ⟨p0b,p0o,none⟩))] H fun n b=>∃ (a:Int),n=(.int .u8 a)/\(decide (a=92)=true->(none:(Option Nat))=none/\∃ (f:Int),ld b ⟨p0b,p0o+1,none⟩ [(.int .i64 f)]/\(none:(Option Nat))=none/\(∃ (i:(List Value)),((List.length i):Nat)=(List.length [(Value.int .i64 (IntKind.wrap .i64 (f+1)))])/\ld b ⟨p0b,p0o+1,none⟩ i)/\KH.may b p0b/\Does (env Tryz.prog) 47 [(.pointer (some ⟨p0b,p0o,none⟩))] (KH.put b ⟨p0b,p0o+1,none⟩ [(.int .i64 (IntKind.wrap .i64 (f+1)))]) fun o p=>∃ (c:Int),o=(.int .u8 c)/\Does (env Tryz.prog) 107 [.int .u8 c,.string p1] p fun q d=>∃ (g:Bool),q=(.bool g)/\((!g)=true->(none:(Option Nat))=none/\(∃ (j:(List Value)),((List.length j):Nat)=(List.length [(Value.bool true)])/\ld d ⟨p0b,p0o+2,none⟩ j)/\KH.may d p0b/\vc95_J0 d p0b p0o Q c)/\((!g)=false->vc95_J1 d p0b p0o Q c))/\(decide (a=92)=false->(decide (a<32)=true->(none:(Option Nat))=none/\(∃ (k:(List Value)),((List.length k):Nat)=(List.length [(Value.bool true)])/\ld b ⟨p0b,p0o+2,none⟩ k)/\KH.may b p0b/\vc95_J0 b p0b p0o Q a)/\(decide (a<32)=false->(decide ((126:Int)<a)=true->(none:(Option Nat))=none/\(∃ (l:(List Value)),((List.length l):Nat)=(List.length [(Value.bool true)])/\ld b ⟨p0b,p0o+2,none⟩ l)/\KH.may b p0b/\vc95_J0 b p0b p0o Q a)/\(decide ((126:Int)<a)=false->Does (env Tryz.prog) 107 [.int .u8 a,.string p1] b fun r e=>∃ (h:Bool),r=(.bool h)/\(h=true->(none:(Option Nat))=none/\(∃ (m:(List Value)),((List.length m):Nat)=(List.length [(Value.bool true)])/\ld e ⟨p0b,p0o+2,none⟩ m)/\KH.may e p0b/\vc95_J0 e p0b p0o Q a)/\(h=false->vc95_J1 e p0b p0o Q a))))
theorem fn95 (ok:EnvOk (env Tryz.prog)) {p0b p0o:Nat} {p1:ByteArray} {H:KH} {Q:PQ} (h:vc95 p0b p0o p1 H Q):Does (env Tryz.prog) 95 [.pointer (some ⟨p0b,p0o,none⟩),.string p1] H Q :=
 wFun_sound (W:=W95 Tryz.prog) ok.tt (blt_lt (by kernel_rfl)) (ff_of ok (by kernel_rfl) Tryz.func95) (Eq.mpr (by kernel_rfl) h)
def W107 (P:Program):WE:=⟨env P,tupT,[],mkTab [(0,[.tmp 0 (.int .u8),.tmp 1 .str,.tmp 5 (.int .i64)])],107⟩
def vc107_L0 (y1:Int) (y2:ByteArray) (y3:KH) (y4:PQ):Prop :=
 (∃ (e:(Nat->Int->ByteArray->Int->KH->Prop)),(∃ (h:Nat),e h y1 y2 0 y3)/\∀ (f:Nat) (c:Int) (b:ByteArray) (a:Int) (d:KH),e f c b a d->(((decide (a<(((ByteArray.size b):Nat):Int))):Bool)=true->((0:Int)<=a/\a<(((ByteArray.size b):Nat):Int))/\(((decide (((byteAt b (Int.toNat a)):Int)=c)):Bool)=true->y4 (.bool true) d)/\(((decide (((byteAt b (Int.toNat a)):Int)=c)):Bool)=false->∃ (g:Nat),(g:Nat)<f/\e g c b (IntKind.wrap .i64 (a+1)) d))/\(((decide (a<(((ByteArray.size b):Nat):Int))):Bool)=false->y4 (.bool false) d))
def vc107 (p0:Int) (p1:ByteArray) (H:KH) (Q:PQ):Prop :=
 (vc107_L0 p0 p1 H Q)
theorem fn107 (ok:EnvOk (env Tryz.prog)) {p0:Int} {p1:ByteArray} {H:KH} {Q:PQ} (h:vc107 p0 p1 H Q):Does (env Tryz.prog) 107 [.int .u8 p0,.string p1] H Q :=
 wFun_sound (W:=W107 Tryz.prog) ok.tt (blt_lt (by kernel_rfl)) (ff_of ok (by kernel_rfl) Tryz.func107) (Eq.mpr (by kernel_rfl) h)
end Va
end Go.Proofs.YtfhjkkbaghanhaaGreat
set_option linter.unusedSimpArgs false
namespace Go.Ew
open Go.Ev Go.Deep
def Le (H H':KH):Prop:=∀ k e,H k=some e->H' k=some e
theorem Le.refl (H:KH):Le H H:=fun _ _ q=>q
theorem Le.trans {H H' H'':KH} (a:Le H H') (b:Le H' H''):Le H H'':=fun k e q=>b k e (a k e q)
theorem Le.new {H:KH} {n:Nat} {e:Ent} (h:H n=none):Le H (H.new n e):=fun k e' q=>by
 simp only [KH.new]
 rw [if_neg (fun e1=>by subst e1; rw [h] at q; cases q)]
 exact q
theorem Le.ld {H H':KH} (h:Le H H') {a:Addr} {vs:List Value} (q:ld H a vs):ld H' a vs:=by
 obtain ⟨h1,e,h2,h3⟩:=q
 exact ⟨h1,e,h _ _ h2,h3⟩
theorem Le.none {H H':KH} (h:Le H H') {n:Nat} (q:H' n=none):H n=none:=by
 cases hk:H n with
 | none=>rfl
 | some e=>rw [h _ _ hk] at q; cases q
theorem Le.load {H H':KH} (h:Le H H') {a:Addr} {n:Nat} {cs:List Value} (q:H.load a n=some cs):H'.load a n=some cs:=by
 unfold KH.load at q ⊢
 split at q
 .rename_i e h1 h2
  simp only [h1,h _ _ h2]
  exact q
 .cases q
theorem Le.kold {H H':KH} (h:Le H H') {sz n:Nat} {a:OA} {cs:List Value} (q:kold H sz a n=some cs):kold H' sz a n=some cs:=by
 unfold Ew.kold at q ⊢
 cases a with
 | none=>exact q
 | some a =>
   simp only at q ⊢
   cases hs:a.spot with
   | none=>simp only [hs] at q ⊢; exact h.load q
   | some s=>simp only [hs] at q ⊢; exact q
theorem Le.kcap {H H':KH} (h:Le H H') {a:Addr} {cap sz c:Nat} (q:kcap H a cap sz=some c):kcap H' a cap sz=some c:=by
 unfold Ew.kcap at q ⊢
 cases hb:Nat.blt cap unkU<;>simp only [hb,cond_true,cond_false] at q ⊢
 .split at q
  .cases q
  .rename_i e he
   simp only [h _ _ he]
   exact q
 .exact q
theorem rd_take {e:BT (Option Value)} {n i:Nat} {cs:List Value} (h:rd e i n=some cs) {m:Nat} (hm:m<=n):rd e i m=some (cs.take m):=by
 have hl:=rd_len h
 refine rd_some (by simp; omega) fun j v hv=>?_
 have hj:j<m:=by
  rcases Nat.lt_or_ge j m with q | q
  .exact q
  .rw [List.getElem?_eq_none (by simp; omega)] at hv; cases hv
 rw [List.getElem?_take_of_lt hj] at hv
 exact rd_get h j v hv
theorem rd_drop {e:BT (Option Value)} {n i:Nat} {cs:List Value} (h:rd e i n=some cs) {m:Nat} (hm:m<=n):rd e (i+m) (n-m)=some (cs.drop m):=by
 have hl:=rd_len h
 refine rd_some (by simp; omega) fun j v hv=>?_
 rw [List.getElem?_drop] at hv
 have:=rd_get h (m+j) v hv
 rw [<- this]; congr 1; omega
theorem kold_some {H:KH} {sz n:Nat} {b o:Nat} {cs:List Value}:kold H sz (some ⟨b,o,none⟩) n=some cs↔∃ e,H b=some e/\rd e.cells o (n*sz)=some cs:=by
 unfold kold KH.load
 simp only
 constructor
 .intro h
  cases hb:H b with
  | none=>rw [hb] at h; cases h
  | some e=>rw [hb] at h; exact ⟨e,rfl,h⟩
 .rintro ⟨e,h1,h2⟩
  rw [h1]
  exact h2
theorem kold_len {H:KH} {sz n:Nat} {a:OA} {cs:List Value} (h:kold H sz a n=some cs):cs.length=n*sz:=by
 unfold kold at h
 cases a with
 | none =>
   simp only at h
   cases hn:Nat.beq n 0<;>simp [hn] at h
   subst h
   simp [Nat.eq_of_beq_eq_true hn]
 | some a =>
   simp only at h
   cases hs:a.spot with
   | none =>
     simp only [hs] at h
     unfold KH.load at h
     split at h
     .exact rd_len h
     .cases h
   | some s =>
     simp only [hs] at h
     cases hn:Nat.beq n 0<;>simp [hn] at h
     subst h
     simp [Nat.eq_of_beq_eq_true hn]
def SlOk (H:KH) (sz:Nat) (a:OA) (n c:Nat):Prop:=match a with
 | none=>n=0
 | some b=>(b.spot=none/\∃ cl,kcap H b c sz=some cl/\n<=cl)\/(b.spot≠none/\n=0)
theorem SlOk.mono {H H':KH} (h:Le H H') {sz n c:Nat} {a:OA} (q:SlOk H sz a n c):SlOk H' sz a n c:=by
 cases a with
 | none=>exact q
 | some b =>
   rcases q with ⟨h1,cl,h2,h3⟩ | q
   .exact .inl ⟨h1,cl,h.kcap h2,h3⟩
   .exact .inr q
theorem cut_lo {H:KH} {sz n c k:Nat} {a:OA} {cs:List Value} (ho:SlOk H sz a n c) (hc:kold H sz a n=some cs) (hk:k<=n) :
 ∃ a' c',kslice H sz a n c none (some (.int .i64 (k:Int)))=some (.slice a' k c')/\kold H sz a' k=some (cs.take (k*sz)):=by
 have hn:natOf n (some (.int .i64 (k:Int)))=some k:=by simp [natOf]
 cases a with
 | none =>
   have hn0:n=0:=ho
   subst hn0
   have hk0:k=0:=by omega
   subst hk0
   refine ⟨none,c,?_,?_⟩
   .rfl
   .simp [kold]
 | some b =>
   rcases ho with ⟨hs,cl,hcl,hle⟩ | ⟨hs,hn0⟩
   case inr =>
    subst hn0
    have hk0:k=0:=by omega
    subst hk0
    obtain ⟨bb,bo,sp⟩:=b
    cases sp with
    | none=>exact absurd rfl hs
    | some sp=>exact ⟨some ⟨bb,bo,some sp⟩,c,rfl,by simp [kold]⟩
   obtain ⟨bb,bo,sp⟩:=b
   cases hs
   obtain ⟨e,he,hrd⟩:=kold_some.1 hc
   have hb:(Nat.ble 0 k&&Nat.ble k cl&&Nat.ble n cl&&(⟨bb,bo,none⟩:Addr).spot.isNone)=true:=by
    simp only [Bool.and_eq_true]
    exact ⟨⟨⟨Nat.ble_eq_true_of_le (Nat.zero_le _),Nat.ble_eq_true_of_le (by omega)⟩,Nat.ble_eq_true_of_le hle⟩,rfl⟩
   have hrd':rd e.cells bo (k*sz)=some (cs.take (k*sz)):=rd_take hrd (Nat.mul_le_mul_right _ hk)
   have hfin:kold H sz (some ⟨bb,bo,none⟩) k=some (cs.take (k*sz)):=kold_some.2 ⟨e,he,hrd'⟩
   unfold kslice
   have hz0:natOf 0 none=some 0:=rfl
   simp only [hn,hz0,hcl,hb,cond_true,Nat.zero_mul,Nat.add_zero,Nat.sub_zero]
   cases hlt:Nat.blt c unkU<;>simp only [cond_true,cond_false]
   .cases h0:Nat.blt 0 cl<;>simp only [cond_true,cond_false]
    .have hz:Nat.beq 0 0=true:=rfl
     simp only [hz,cond_true]
     exact ⟨_,_,rfl,hfin⟩
    .exact ⟨_,_,rfl,hfin⟩
   .cases h0:Nat.beq c 0<;>simp only [cond_true,cond_false]
    .exact ⟨_,_,rfl,hfin⟩
    .exact ⟨_,_,rfl,hfin⟩
theorem cut_hi {H:KH} {sz n c k:Nat} {a:OA} {cs:List Value} (ho:SlOk H sz a n c) (hc:kold H sz a n=some cs) (hk:k<=n) :
 ∃ a' c',kslice H sz a n c (some (.int .i64 (k:Int))) none=some (.slice a' (n-k) c')/\kold H sz a' (n-k)=some (cs.drop (k*sz)):=by
 have hn:natOf 0 (some (.int .i64 (k:Int)))=some k:=by simp [natOf]
 have hcl':=kold_len hc
 cases a with
 | none =>
   have hn0:n=0:=ho
   subst hn0
   have hk0:k=0:=by omega
   subst hk0
   refine ⟨none,c,?_,?_⟩
   .rfl
   .simp at hcl'
    simp [kold,hcl']
 | some b =>
   rcases ho with ⟨hs,cl,hcl,hle⟩ | ⟨hs,hn0⟩
   case inr =>
    subst hn0
    have hk0:k=0:=by omega
    subst hk0
    obtain ⟨bb,bo,sp⟩:=b
    cases sp with
    | none=>exact absurd rfl hs
    | some sp =>
      refine ⟨some ⟨bb,bo,some sp⟩,c,rfl,?_⟩
      simp at hcl'
      simp [kold,hcl']
   obtain ⟨bb,bo,sp⟩:=b
   cases hs
   obtain ⟨e,he,hrd⟩:=kold_some.1 hc
   have hb:(Nat.ble k n&&Nat.ble n cl&&Nat.ble n cl&&(⟨bb,bo,none⟩:Addr).spot.isNone)=true:=by
    simp only [Bool.and_eq_true]
    exact ⟨⟨⟨Nat.ble_eq_true_of_le hk,Nat.ble_eq_true_of_le hle⟩,Nat.ble_eq_true_of_le hle⟩,rfl⟩
   have hrd':rd e.cells (bo+k*sz) ((n-k)*sz)=some (cs.drop (k*sz)):=by
    rw [Nat.sub_mul]
    exact rd_drop hrd (Nat.mul_le_mul_right _ hk)
   have hfin:kold H sz (some ⟨bb,bo+k*sz,none⟩) (n-k)=some (cs.drop (k*sz)):=kold_some.2 ⟨e,he,hrd'⟩
   have hend:n=k->cs.drop (k*sz)=[]:=fun e1=>List.drop_eq_nil_of_le (by rw [hcl',e1]; exact Nat.le_refl _)
   unfold kslice
   have hz0:natOf n none=some n:=rfl
   simp only [hn,hz0,hcl,hb,cond_true]
   cases hlt:Nat.blt c unkU<;>simp only [cond_true,cond_false]
   .cases h0:Nat.blt k cl<;>simp only [cond_true,cond_false]
    .have hge:¬ k<cl:=fun q=>by rw [show Nat.blt k cl=true from Nat.ble_eq_true_of_le q] at h0; cases h0
     have hnk:n=k:=by omega
     cases h1:Nat.beq k 0<;>simp only [cond_true,cond_false]
     .refine ⟨some ⟨0,0,some 0⟩,unkU,by rw [hnk,Nat.sub_self]; rfl,?_⟩
      rw [hend hnk,hnk,Nat.sub_self]
      rfl
     .have hk0:k=0:=Nat.eq_of_beq_eq_true h1
      subst hk0
      simp only [Nat.zero_mul,Nat.add_zero,Nat.sub_zero] at hfin ⊢
      exact ⟨_,_,rfl,hfin⟩
    .exact ⟨_,_,rfl,hfin⟩
   .cases h0:Nat.beq c k<;>simp only [cond_true,cond_false]
    .exact ⟨_,_,rfl,hfin⟩
    .refine ⟨_,_,rfl,?_⟩
     have hck:c=k:=Nat.eq_of_beq_eq_true h0
     have hcc:cl=c:=by
      unfold kcap at hcl
      rw [hlt] at hcl
      exact (Option.some.inj hcl).symm
     have hnk:n=k:=by omega
     rw [hend hnk,hnk,Nat.sub_self]
     exact kold_some.2 ⟨e,he,by simp [rd]⟩
inductive Own (H0 H:KH) (sz:Nat):OA->Nat->Nat->List Value->Prop where
 | nil:Own H0 H sz none 0 0 []
 | lit (b n:Nat) (cs:List Value) (h1:H b=some (mkEnt cs 0)) (h2:cs.length=n*sz) (h3:n<unkU) (h4:H0 b=none):Own H0 H sz (some ⟨b,0,none⟩) n n cs
 | grown (b n:Nat) (cs:List Value) (e:Ent) (h1:H b=some e) (h2:e.unk=sz) (h3:e.len=n*sz) (h4:rd e.cells 0 (n*sz)=some cs) (h5:H0 b=none) (h6:wrB e=true):Own H0 H sz (some ⟨b,0,none⟩) n unkU cs
theorem Own.cells {H0 H:KH} {sz n c:Nat} {a:OA} {cs:List Value} (h:Own H0 H sz a n c cs):kold H sz a n=some cs:=by
 cases h with
 | nil=>rfl
 | lit b _ _ h1 h2 =>
   refine kold_some.2 ⟨_,h1,?_⟩
   rw [<- h2]
   exact rd_some rfl fun j v hv=>by rw [Nat.zero_add]; simp only [mkEnt,tget_wr_nil]; exact hv
 | grown b _ _ e h1 h2 h3 h4=>exact kold_some.2 ⟨e,h1,h4⟩
theorem Own.ok {H0 H:KH} {sz n c:Nat} {a:OA} {cs:List Value} (h:Own H0 H sz a n c cs) (hsz:1<=sz):SlOk H sz a n c:=by
 cases h with
 | nil=>rfl
 | lit b _ _ h1 h2 h3 =>
   refine .inl ⟨rfl,n,?_,Nat.le_refl _⟩
   unfold kcap
   rw [show Nat.blt n unkU=true from Nat.ble_eq_true_of_le h3]
   rfl
 | grown b _ _ e h1 h2 h3 h4 =>
   refine .inl ⟨rfl,n,?_,Nat.le_refl _⟩
   unfold kcap
   have hb:Nat.blt unkU unkU=false:=rfl
   simp only [hb,cond_false,h1,h2,Nat.sub_self,Nat.zero_mul,h3]
   have hc:(Nat.beq sz sz&&Nat.beq 0 0&&Nat.ble 1 sz&&Nat.ble 0 (n*sz))=true:=by
    simp only [Bool.and_eq_true]
    exact ⟨⟨⟨by simp,rfl⟩,Nat.ble_eq_true_of_le hsz⟩,Nat.ble_eq_true_of_le (Nat.zero_le _)⟩
   rw [hc]
   simp only [cond_true,Nat.sub_zero,Nat.mul_div_cancel _ hsz]
def blk:OA->Option Nat
 | none=>none
 | some a=>some a.block
theorem Own.append {H0 H:KH} {ti:TI} {n c m nm:Nat} {a:OA} {cs new:List Value} (h:Own H0 H ti.size a n c cs) (hle:Le H0 H) (hnm:H nm=none) (hm:new.length=m*ti.size) (hs:n+m<=1000000) (hb:ti.bytes<=1000000) (hz:1<=ti.size) (hro:ti.size<=1000000:=by decide) :
 ∃ a' c' H',kappend H nm ti a n c m new=some (.slice a' (n+m) c',H')/\Own H0 H' ti.size a' (n+m) c' (cs++new)/\Le H0 H'/\(∀ k e,H k=some e->blk a≠some k->H' k=some e)/\(∀ k,H k=none->k≠nm->H' k=none):=by
 have hh:(Nat.ble (n+m) 1000000&&Nat.ble ti.bytes 1000000&&Nat.ble 1 ti.size)=true:=by
  simp only [Bool.and_eq_true]
  exact ⟨⟨Nat.ble_eq_true_of_le hs,Nat.ble_eq_true_of_le hb⟩,Nat.ble_eq_true_of_le hz⟩
 have h0n:H0 nm=none:=hle.none hnm
 have hput:∀ (k:Addr) (e:Ent),H k.block=some e->e.ob=none->H.put k []=H:=fun k e q1 q2=>by
  funext j
  simp only [KH.put,wr]
  split
  .rename_i ej
   subst ej
   rw [q1]
   cases e
   simp only at q2
   subst q2
   rfl
  .rfl
 have hwn:∀ cs,wrB (mkEnt cs ti.size)=true:=fun cs=>by
  unfold wrB mkEnt noOb
  have:Nat.beq ti.size roU=false:=by
   cases hb:Nat.beq ti.size roU with
   | false=>rfl
   | true=>have:=Nat.eq_of_beq_eq_true hb; unfold roU at this; omega
  simp [this]
 have hcl:=kold_len h.cells
 have mk:∀ H1:KH,Own H0 (H1.new nm (mkEnt (cs++new) ti.size)) ti.size (some ⟨nm,0,none⟩) (n+m) unkU (cs++new):=by
  intro H1
  have hlen:(cs++new).length=(n+m)*ti.size:=by rw [List.length_append,hcl,hm,Nat.add_mul]
  refine .grown nm _ _ (mkEnt (cs++new) ti.size) (by simp [KH.new]) rfl hlen ?_ h0n (hwn _)
  rw [<- hlen]
  exact rd_some rfl fun j v hv=>by rw [Nat.zero_add]; simp only [mkEnt,tget_wr_nil]; exact hv
 have frame:∀ k e,H k=some e->(H.new nm (mkEnt (cs++new) ti.size)) k=some e:=fun k e q=>Le.new hnm k e q
 have hnew0:m=0->new=[]:=fun e=>List.eq_nil_of_length_eq_zero (by rw [hm,e,Nat.zero_mul])
 have hlt0:∀ p q:Nat,¬ p<=q->Nat.ble p q=false:=fun p q hh=>by
  cases hb:Nat.ble p q with
  | false=>rfl
  | true=>exact absurd (Nat.le_of_ble_eq_true hb) hh
 cases h with
 | nil =>
   have hb0:Nat.blt 0 unkU=true:=rfl
   unfold kappend
   simp only [hh,cond_true,hb0]
   by_cases hm0:m=0
   .subst hm0
    rw [hnew0 rfl]
    exact ⟨none,0,H,rfl,.nil,hle,fun k e q _=>q,fun k q _=>q⟩
   .rw [hlt0 (0+m) 0 (by omega)]
    simp only [cond_false]
    exact ⟨_,_,_,rfl,mk H,hle.trans (Le.new hnm),fun k e q _=>frame k e q,fun k q hk=>by simp only [KH.new,if_neg hk]; exact q⟩
 | lit b _ _ h1 h2 h3 h4 =>
   have hb0:Nat.blt n unkU=true:=Nat.ble_eq_true_of_le h3
   unfold kappend
   simp only [hh,cond_true,hb0]
   by_cases hm0:m=0
   .subst hm0
    rw [hnew0 rfl,show Nat.ble (n+0) n=true from Nat.ble_eq_true_of_le (by omega)]
    have hst:kstore H ⟨b,0+n*ti.size,none⟩ []=some H:=by
     unfold kstore
     have hw0:wrB (mkEnt cs 0)=true:=rfl
     simp only [h1,List.length_nil,rd,hw0,cond_true]
     rw [hput _ _ h1 rfl]
    simp only [cond_true,hst,ob,List.append_nil]
    exact ⟨_,_,_,rfl,.lit b n cs h1 h2 h3 h4,hle,fun k e q _=>q,fun k q _=>q⟩
   .rw [hlt0 (n+m) n (by omega)]
    have hk:=(Own.lit (H0:=H0) (H:=H) (sz:=ti.size) b n cs h1 h2 h3 h4).cells
    simp only [cond_false,hk,ob]
    exact ⟨_,_,_,rfl,mk H,hle.trans (Le.new hnm),fun k e q _=>frame k e q,fun k q hk=>by simp only [KH.new,if_neg hk]; exact q⟩
 | grown b _ _ e h1 h2 h3 h4 h5 h6 =>
   have hb0:Nat.blt unkU unkU=false:=rfl
   unfold kappend
   have hq:(Nat.beq e.unk ti.size&&Nat.beq 0 ((unkU-unkU)*ti.size)&&(none:Option Nat).isNone&&wrB e)=true:=by
    rw [h2,Nat.sub_self,Nat.zero_mul,h6]
    simp
   simp only [hh,cond_true,hb0,cond_false,h1,hq]
   by_cases hm0:m=0
   .subst hm0
    rw [hnew0 rfl,show Nat.ble (0+(n+0)*ti.size) e.len=true from Nat.ble_eq_true_of_le (by rw [h3,Nat.add_zero,Nat.zero_add]; exact Nat.le_refl _)]
    have hst:kstore H ⟨b,0+n*ti.size,none⟩ []=some H:=by
     unfold kstore
     simp only [h1,List.length_nil,rd,h6,cond_true]
     rw [hput _ _ h1 (wrB_spec h6).2]
    simp only [cond_true,hst,ob,List.append_nil]
    exact ⟨_,_,_,rfl,.grown b n cs e h1 h2 h3 h4 h5 h6,hle,fun k e q _=>q,fun k q _=>q⟩
   .have hgt:¬ (0+(n+m)*ti.size<=e.len):=by
     rw [h3,Nat.add_mul]
     have:1*1<=m*ti.size:=Nat.mul_le_mul (by omega) hz
     omega
    rw [hlt0 _ _ hgt]
    simp only [cond_false,h4,ob]
    have hd:∀ k e',H k=some e'->some b≠some k->((H.del b).new nm (mkEnt (cs++new) ti.size)) k=some e':=by
     intro k e' q hne
     simp only [KH.new,KH.del]
     rw [if_neg (fun e1=>by subst e1; rw [hnm] at q; cases q),if_neg (fun e1=>hne (by rw [e1]))]
     exact q
    refine ⟨_,_,_,rfl,mk (H.del b),fun k e' q=>hd k e' (hle k e' q) (fun e1=>?_),fun k e' q hne=>hd k e' q hne,fun k q hk=>by
     simp only [KH.new,KH.del,if_neg hk]
     split
     .rfl
     .exact q⟩
    cases e1
    rw [h5] at q
    cases q
theorem Does.frame {E:Env} {g:Nat} {args:List Value} {K:KH} {p:Nat} {e:Ent} {Q:PQ} (hK:K p=none)
 (hf:Does E g args K fun v K'=>K' p=none->Q v (K'.new p e)):Does E g args (K.new p e) Q:=by
 refine ⟨hf.lt,fun h hn hh=>?_⟩
 have hp:tget h.m p=some e:=hh p e (by simp [KH.new])
 have hlt:p<h.nxt:=by
  rcases Nat.lt_or_ge p h.nxt with q | q
  .exact q
  .rw [hn p q] at hp; cases hp
 obtain ⟨v,h',K',h1,h2,h3,h4,h5,h6,h7⟩:=hf.run h hn fun k e' q=>hh k e' (by
  simp only [KH.new]
  rw [if_neg (fun ek=>by subst ek; rw [hK] at q; cases q)]
  exact q)
 have hK':K' p=none:=by
  cases hk:K' p with
  | none=>rfl
  | some e' =>
    rcases h7 p (by rw [hk]; simp) with q | q
    .exact absurd hK q
    .omega
 refine ⟨v,h',K'.new p e,h1,h2 hK',h3,fun k e' q=>?_,h5,fun k hk q=>?_,fun k q=>?_⟩
 .simp only [KH.new] at q
  by_cases ek:k=p
  .subst ek
   simp only [if_true] at q
   rw [h6 k hlt hK,hp]
   exact q
  .rw [if_neg ek] at q
   exact h4 k e' q
 .simp only [KH.new] at q
  by_cases ek:k=p
  .rw [if_pos ek] at q; cases q
  .rw [if_neg ek] at q
   exact h6 k hk q
 .simp only [KH.new] at q ⊢
  by_cases ek:k=p
  .rw [if_pos ek]; left; simp
  .rw [if_neg ek] at q ⊢
   exact h7 k q
theorem Does.more {E:Env} {g:Nat} {args:List Value} {H0 H:KH} {Q:PQ} (h:Does E g args H0 Q) (hl:Le H0 H):Does E g args H Q:=by
 refine ⟨h.lt,fun hp wf know=>?_⟩
 obtain ⟨v,h',H',h1,h2,h3,h4,h5,h6,h7⟩:=h.run hp wf fun k e q=>know k e (hl k e q)
 exact ⟨v,h',H',h1,h2,h3,h4,h5,fun k hk q=>h6 k hk (hl.none q),fun k q=>(h7 k q).imp (fun g e=>g (hl.none e)) id⟩
theorem Does.post {E:Env} {g:Nat} {args:List Value} {H:KH} {Q Q':PQ} (h:Does E g args H Q) (hq:∀ v H',Q v H'->Q' v H'):Does E g args H Q':=by
 refine ⟨h.lt,fun hp wf know=>?_⟩
 obtain ⟨v,h',H',h1,h2,h3⟩:=h.run hp wf know
 exact ⟨v,h',H',h1,hq v H' h2,h3⟩
def addL (X:KH):List (Nat × Ent)->KH
 | []=>X
 | (b,e) :: F=>(addL X F).new b e
def frL (X:KH):List (Nat × Ent)->Prop
 | []=>True
 | (b,_) :: F=>addL X F b=none/\frL X F
theorem addL_le {X:KH}:∀ {F:List (Nat × Ent)},frL X F->Le X (addL X F)
 | [],_=>Le.refl _
 | (b,e) :: F,h=>(addL_le h.2).trans (Le.new h.1)
theorem Does.frameL {E:Env} {g:Nat} {args:List Value} {X:KH}:∀ {F:List (Nat × Ent)} {Q:PQ},frL X F->(Does E g args X fun v X'=>frL X' F->Q v (addL X' F))->Does E g args (addL X F) Q
 | [],Q,_,h=>h.post fun v X' q=>q trivial
 | (b,e) :: F,Q,hf,h=>by
  refine Does.frame hf.1 (Does.frameL (F:=F) hf.2 (h.post fun v X' q h1 h2=>?_))
  exact q ⟨h2,h1⟩
theorem Does.keep {E:Env} {g:Nat} {args:List Value} {X H:KH} {F:List (Nat × Ent)} {Q:PQ} (hf:frL X F) (hl:Le (addL X F) H) (h:Does E g args X fun v X'=>frL X' F->∀ H',Le (addL X' F) H'->Q v H'):Does E g args H Q :=
 (Does.frameL hf (h.post fun v X' q h1=>q h1 _ (Le.refl _))).more hl
theorem DoesR.post {E:Env} {l:Nat} {args:List Value} {H:KH} {Q Q':PQ} (h:DoesR E l args H Q) (hq:∀ v H',Q v H'->Q' v H'):DoesR E l args H Q':=by
 refine ⟨fun hp wf know=>?_⟩
 obtain ⟨v,h',H',h1,h2,h3⟩:=h.run hp wf know
 exact ⟨v,h',H',h1,hq v H' h2,h3⟩
theorem wrap64 {x:Int} (h1 : -9223372036854775808<=x) (h2:x<=9223372036854775807):IntKind.wrap .i64 x=x:=IntWalk.i64_in x ⟨h1,h2⟩
inductive V where
 | mk (k i:Int) (s:ByteArray) (l:List V)
structure Row {α:Type} (c:α->α->Int) (x y z:α):Prop where
 neg:c y x = -c x y
 rng:c x y = -1\/c x y=0\/c x y=1
 t1:c x y<=0->c y z<=0->c x z<=0
 t2:c x y<0->c y z<=0->c x z<0
 t3:c x y<=0->c y z<0->c x z<0
theorem Le.kslice {H H':KH} (h:Le H H') {sz n c:Nat} {a:OA} {lo hi:Option Value} {v:Value} (q:kslice H sz a n c lo hi=some v):kslice H' sz a n c lo hi=some v:=by
 unfold Ew.kslice at q ⊢
 cases a with
 | none=>exact q
 | some b =>
   simp only at q ⊢
   cases hsn:b.spot.isNone with
   | false=>rw [hsn] at q; exact q
   | true =>
   rw [hsn,cond_true] at q
   rw [cond_true]
   cases hk:Ew.kcap H b c sz with
   | some x=>rw [hk] at q; rw [h.kcap hk]; exact q
   | none=>rw [hk] at q; split at q<;>simp_all
theorem Own.mono {H0 H H':KH} (h:Le H H') {sz n c:Nat} {a:OA} {cs:List Value} (q:Own H0 H sz a n c cs):Own H0 H' sz a n c cs:=by
 cases q with
 | nil=>exact .nil
 | lit b _ _ h1 h2 h3 h4=>exact .lit b n cs (h _ _ h1) h2 h3 h4
 | grown b _ _ e h1 h2 h3 h4 h5 h6=>exact .grown b n cs e (h _ _ h1) h2 h3 h4 h5 h6
theorem Own.of_lit {H:KH} {b sz n:Nat} {cs:List Value} (hb:H b=none) (h2:cs.length=n*sz) (h3:n<unkU):Own H (H.new b (mkEnt cs 0)) sz (some ⟨b,0,none⟩) n n cs :=
 .lit b n cs (by simp [KH.new]) h2 h3 hb
theorem knew_of {H:KH} {ti:TI} {a:OA} {n c:Nat} {cs:List Value} (h:kold H ti.size a n=some cs):knew H ti (.slice a n c)=some (n,cs):=by
 cases a with
 | none =>
   unfold kold at h
   unfold knew
   cases hn:Nat.beq n 0<;>simp [hn] at h ⊢
   subst h
   exact ⟨(Nat.eq_of_beq_eq_true hn).symm,rfl⟩
 | some b=>unfold knew; simp only [h,ob]
theorem mk_rd {cs:List Value} {u:Nat}:rd (mkEnt cs u).cells 0 cs.length=some cs:=rd_some rfl fun j v hv=>by rw [Nat.zero_add]; simp only [mkEnt,tget_wr_nil]; exact hv
abbrev Rg:=Int × Int
abbrev It:=Int × List Rg
structure RdS where
 items:List It
 outer:List (Bool × Int)
 parted:Bool
 atoms:Int
 cls:Option (List Rg × Int)
def putR (σ:RdS) (op:Int):RdS:={ σ with items:=σ.items++[(op,[])] }
def joinR (σ:RdS):RdS:=if σ.atoms=2 then { putR σ 2 with atoms:=1 } else σ
def addClassR (σ:RdS) (l:List Rg):RdS:={ joinR σ with items:=(joinR σ).items++[(1,l)],atoms:=(joinR σ).atoms+1 }
def repeatR (σ:RdS) (op:Int):Option RdS:=if σ.atoms=0 then none else some (putR σ op)
def endR (σ:RdS):Option RdS:=if σ.atoms=0 then none else some { (if (joinR σ).parted=true then putR (joinR σ) 3 else joinR σ) with parted:=true,atoms:=0 }
def openR (σ:RdS):Option RdS:=if σ.outer.length<12 then some { joinR σ with outer:=(joinR σ).outer++[((joinR σ).parted,(joinR σ).atoms)],parted:=false,atoms:=0 } else none
def closeR (σ:RdS):Option RdS:=match σ.outer.getLast? with
 | none=>none
 | some g=>match endR σ with
   | none=>none
   | some τ=>some { τ with outer:=σ.outer.dropLast,parted:=g.1,atoms:=g.2+1 }
def openC (σ:RdS):Option RdS:=if σ.outer.length<12 then some { σ with cls:=some ([],0) } else none
def addC (l:List Rg) (place c:Int):Option (List Rg × Int):=if place≠2 then some (l++[(c,c)],1) else match l.getLast? with
 | none=>none
 | some r=>if c<r.1 then none else some (l.dropLast++[(r.1,c)],0)
def wholeC (l:List Rg) (place:Int):Bool:=decide (0<l.length)&&decide (place≠2)
def marksB:List Int:=[40,41,91,93,124,42,43,63,46,92]
def clsB:List Int:=[93,45,92]
def standsB (c:Int) (esc:Bool) (sp:List Int):Bool:=decide (32<=c)&&(decide (c<=126)&&(decide (c∈sp) == esc))
def markR (σ:RdS) (c:Int):Option RdS :=
 if c=40 then openR σ else if c=41 then closeR σ else if c=91 then openC σ else if c=46 then some (addClassR σ [(32,126)]) else if c=124 then endR σ else
 if c=42 then repeatR σ 4 else if c=43 then repeatR σ 5 else if c=63 then repeatR σ 6 else none
def inClassR (σ:RdS) (l:List Rg) (place c:Int) (esc:Bool):Option RdS :=
 if standsB c esc clsB=true then (match addC l place c with
  | some x=>some { σ with cls:=some x }
  | none=>none)
 else if c=45 then (if place=1 then some { σ with cls:=some (l,2) } else none)
 else if c=93 then (if wholeC l place=true then some { addClassR σ l with cls:=none } else none)
 else none
def takeR (σ:RdS) (c:Int) (esc:Bool):Option RdS:=match σ.cls with
 | some (l,place)=>inClassR σ l place c esc
 | none=>if standsB c esc marksB=true then some (addClassR σ [(c,c)]) else markR σ c
def finR (σ:RdS):Option RdS:=match σ.cls with
 | some _=>none
 | none=>if σ.outer.length=0 then endR σ else none
def rgC (l:List Rg):List Value:=l.flatMap fun r=>[.int .u8 r.1,.int .u8 r.2]
def grC (l:List (Bool × Int)):List Value:=l.flatMap fun g=>[.bool g.1,.int .i64 g.2]
def ItC (X:KH):List It->List Value->Prop
 | [],cs=>cs=[]
 | (op,l) :: r,cs=>∃ a c ds,cs = .int .i64 op :: .slice a l.length c :: ds/\kold X 2 a l.length=some (rgC l)/\ItC X r ds
theorem ItC.mono {X X':KH} (h:Le X X'):∀ {l:List It} {cs:List Value},ItC X l cs->ItC X' l cs
 | [],cs,q=>q
 | (op,l) :: r,cs,⟨a,c,ds,h1,h2,h3⟩=>⟨a,c,ds,h1,h.kold h2,ItC.mono h h3⟩
theorem ItC.app {X:KH} {op:Int} {l:List Rg} {a:OA} {c:Nat} (hk:kold X 2 a l.length=some (rgC l)):∀ {r:List It} {cs:List Value},ItC X r cs->ItC X (r++[(op,l)]) (cs++[.int .i64 op,.slice a l.length c])
 | [],cs,q=>by
   have q:cs=[]:=q
   subst q
   exact ⟨a,c,[],rfl,hk,rfl⟩
 | (op',l') :: r,cs,⟨a',c',ds,h1,h2,h3⟩=>by
  subst h1
  exact ⟨a',c',_,rfl,h2,ItC.app hk h3⟩
theorem ItC.len {X:KH}:∀ {l:List It} {cs:List Value},ItC X l cs->cs.length=l.length*2
 | [],cs,q=>by
   have q:cs=[]:=q
   subst q; rfl
 | (op,l) :: r,cs,⟨a,c,ds,h1,h2,h3⟩=>by
  have:=ItC.len h3
  subst h1
  simp only [List.length_cons]
  omega
inductive Gr (H:KH) (sz:Nat):OA->Nat->Nat->List Value->List Value->Prop where
 | nil:Gr H sz none 0 0 [] []
 | on (b n:Nat) (e:Ent) (cs ex:List Value) (h1:H b=some e) (h2:e.unk=sz) (h3:e.len=(cs++ex).length) (h4:rd e.cells 0 (cs++ex).length=some (cs++ex)) (h5:wrB e=true) (h6:cs.length=n*sz):Gr H sz (some ⟨b,0,none⟩) n unkU cs ex
theorem grC_len:∀ l:List (Bool × Int),(grC l).length=l.length*2
 | []=>rfl
 | g :: l=>by
   have:=grC_len l
   simp only [grC,List.flatMap_cons,List.length_append,List.length_cons,List.length_nil] at this ⊢
   omega
theorem rgC_len:∀ l:List Rg,(rgC l).length=l.length*2
 | []=>rfl
 | g :: l=>by
   have:=rgC_len l
   simp only [rgC,List.flatMap_cons,List.length_append,List.length_cons,List.length_nil] at this ⊢
   omega
theorem grC_app (l m:List (Bool × Int)):grC (l++m)=grC l++grC m:=by simp [grC]
theorem rgC_app (l m:List Rg):rgC (l++m)=rgC l++rgC m:=by simp [rgC]
theorem ldSub {H:KH} {b o:Nat} {cs:List Value} (h:ld H ⟨b,o,none⟩ cs) (j m:Nat) (hj:j+m<=cs.length):ld H ⟨b,o+j,none⟩ ((cs.drop j).take m):=by
 obtain ⟨_,e,he,hr⟩:=h
 have h1:=rd_drop hr (m:=j) (by omega)
 have h2:=rd_take h1 (m:=m) (by omega)
 refine ⟨rfl,e,he,?_⟩
 have:((cs.drop j).take m).length=m:=by simp; omega
 rw [this]
 exact h2
theorem Gr.row {H:KH} {sz n c:Nat} {a:OA} {cs ex:List Value} (h:Gr H sz a n c cs ex):kold H sz a n=some cs:=by
 cases h with
 | nil=>rfl
 | on b _ e _ _ h1 h2 h3 h4 h5 h6 =>
   refine kold_some.2 ⟨e,h1,?_⟩
   have:=rd_take h4 (m:=n*sz) (by simp; omega)
   rw [<- h6,List.take_left] at this
   rw [<- h6]
   exact this
theorem Gr.agree {H H':KH} {sz n c:Nat} {a:OA} {cs ex:List Value} (h:Gr H sz a n c cs ex) (hk:∀ k e,blk a=some k->H k=some e->H' k=some e):Gr H' sz a n c cs ex:=by
 cases h with
 | nil=>exact .nil
 | on b _ e _ _ h1 h2 h3 h4 h5 h6=>exact .on b n e cs ex (hk b e rfl h1) h2 h3 h4 h5 h6
theorem rdWr {e:BT (Option Value)} {N o:Nat} {xs ys zs vs:List Value} (h:rd e 0 N=some (xs++ys++zs)) (hx:xs.length=o) (hy:ys.length=vs.length):rd (wr e o vs) 0 N=some (xs++vs++zs):=by
 have hl:=rd_len h
 refine rd_some (by simp at hl ⊢; omega) fun j v hv=>?_
 rw [Nat.zero_add,tget_wr]
 by_cases hb:o<=j/\j<o+vs.length
 .rw [if_pos hb]
  rw [List.append_assoc,List.getElem?_append_right (by omega),List.getElem?_append_left (by omega)] at hv
  rw [hx] at hv
  exact hv
 .rw [if_neg hb]
  have:=rd_get h j v ?_
  .simpa using this
  .by_cases hj:j<o
   .rw [List.append_assoc,List.getElem?_append_left (by omega)] at hv ⊢
    exact hv
   .rw [List.getElem?_append_right (by simp; omega)] at hv ⊢
    simp only [List.length_append] at hv ⊢
    rw [hy]
    exact hv
theorem Gr.append {H:KH} {ti:TI} {n c nm:Nat} {a:OA} {cs ex new:List Value} (h:Gr H ti.size a n c cs ex) (hnm:H nm=none) (hm:new.length=ti.size) (hs:n+1<=1000000) (hb:ti.bytes<=1000000) (hz:1<=ti.size) (hro:ti.size<=1000000:=by decide) :
 ∃ a' H' ex',kappend H nm ti a n c 1 new=some (.slice a' (n+1) unkU,H')/\Gr H' ti.size a' (n+1) unkU (cs++new) ex'/\(ex=[]->ex'=[])/\(∀ k e,H k=some e->blk a≠some k->H' k=some e)/\(∀ b,blk a'=some b->blk a=some b\/b=nm):=by
 have hh:(Nat.ble (n+1) 1000000&&Nat.ble ti.bytes 1000000&&Nat.ble 1 ti.size)=true:=by
  simp only [Bool.and_eq_true]
  exact ⟨⟨Nat.ble_eq_true_of_le hs,Nat.ble_eq_true_of_le hb⟩,Nat.ble_eq_true_of_le hz⟩
 have hwn:∀ cs,wrB (mkEnt cs ti.size)=true:=fun cs=>by
  unfold wrB mkEnt noOb
  have:Nat.beq ti.size roU=false:=by
   cases hb:Nat.beq ti.size roU with
   | false=>rfl
   | true=>have:=Nat.eq_of_beq_eq_true hb; unfold roU at this; omega
  simp [this]
 have hlt0:∀ p q:Nat,¬ p<=q->Nat.ble p q=false:=fun p q hh=>by
  cases hb:Nat.ble p q with
  | false=>rfl
  | true=>exact absurd (Nat.le_of_ble_eq_true hb) hh
 have mk:∀ H1:KH,cs.length=n*ti.size->Gr (H1.new nm (mkEnt (cs++new) ti.size)) ti.size (some ⟨nm,0,none⟩) (n+1) unkU (cs++new) []:=by
  intro H1 hcl
  refine .on nm _ (mkEnt (cs++new) ti.size) _ _ (by simp [KH.new]) rfl (by simp [mkEnt]) ?_ (hwn _) (by simp [hcl,hm,Nat.add_mul])
  rw [List.append_nil]
  exact rd_some rfl fun j v hv=>by rw [Nat.zero_add]; simp only [mkEnt,tget_wr_nil]; exact hv
 cases h with
 | nil =>
   have hb0:Nat.blt 0 unkU=true:=rfl
   unfold kappend
   simp only [hh,cond_true,hb0]
   rw [hlt0 (0+1) 0 (by omega)]
   simp only [cond_false]
   exact ⟨_,_,[],rfl,mk H (by simp),fun _=>rfl,fun k e q _=>Le.new hnm k e q,fun b q=>by cases q; exact .inr rfl⟩
 | on b _ e _ _ h1 h2 h3 h4 h5 h6 =>
   have hb0:Nat.blt unkU unkU=false:=rfl
   unfold kappend
   have hq:(Nat.beq e.unk ti.size&&Nat.beq 0 ((unkU-unkU)*ti.size)&&(none:Option Nat).isNone&&wrB e)=true:=by
    rw [h2,Nat.sub_self,Nat.zero_mul,h5]
    simp
   simp only [hh,cond_true,hb0,cond_false,h1,hq]
   have hlen:(cs++ex).length=n*ti.size+ex.length:=by simp [h6]
   by_cases hin:(n+1)*ti.size<=e.len
   .rw [show Nat.ble (0+(n+1)*ti.size) e.len=true from Nat.ble_eq_true_of_le (by omega)]
    have hex:ti.size<=ex.length:=by rw [h3,hlen,Nat.add_mul] at hin; omega
    have hrd:rd e.cells (0+n*ti.size) new.length=some (ex.take ti.size):=by
     have r1:=rd_drop h4 (m:=n*ti.size) (by omega)
     rw [hlen] at r1
     have r2:=rd_take r1 (m:=ti.size) (by simp; omega)
     rw [hm,<- h6] 
     rw [<- h6] at r2
     rw [List.drop_left] at r2
     exact r2
    have hst:kstore H ⟨b,0+n*ti.size,none⟩ new=some (H.put ⟨b,0+n*ti.size,none⟩ new):=by
     unfold kstore
     simp only [h1,h5,cond_true,hrd]
    simp only [cond_true,hst,ob]
    have hne:∀ k e',H k=some e'->k≠b->(H.put ⟨b,0+n*ti.size,none⟩ new) k=some e':=fun k e' q hk=>by
     simp only [KH.put]; rw [if_neg hk]; exact q
    refine ⟨_,_,ex.drop ti.size,rfl,?_,fun q=>by rw [q]; simp,fun k e' q hk=>hne k e' q (fun x=>hk (by rw [x]; rfl)),fun b' q=>.inl q⟩
    refine .on b _ ⟨wr e.cells (0+n*ti.size) new,e.len,e.unk,none⟩ _ _ (by simp only [KH.put,if_true,h1,Option.map_some]) h2 ?_ ?_ (wrB_keep h5) (by simp [h6,hm,Nat.add_mul])
    .simp only [List.length_append,List.length_drop] at h3 ⊢
     omega
    .have hl2:(cs++new++ex.drop ti.size).length=(cs++ex).length:=by simp only [List.length_append,List.length_drop]; omega
     rw [hl2]
     have he:cs++ex=cs++ex.take ti.size++ex.drop ti.size:=by rw [List.append_assoc,List.take_append_drop]
     have h4':rd e.cells 0 (cs++ex).length=some (cs++ex.take ti.size++ex.drop ti.size):=by rw [<- he]; exact h4
     exact rdWr h4' (by rw [h6,Nat.zero_add]) (by simp only [List.length_take,hm]; omega)
   .rw [hlt0 _ _ (by omega)]
    simp only [cond_false]
    have hrd:rd e.cells 0 (n*ti.size)=some cs:=by
     have:=rd_take h4 (m:=n*ti.size) (by omega)
     rw [<- h6,List.take_left] at this
     rw [<- h6]
     exact this
    simp only [hrd,ob]
    refine ⟨_,_,[],rfl,mk (H.del b) h6,fun _=>rfl,fun k e' q hne=>?_,fun b' q=>by cases q; exact .inr rfl⟩
    simp only [KH.new,KH.del]
    rw [if_neg (fun e1=>by subst e1; rw [hnm] at q; cases q),if_neg (fun e1=>hne (by rw [e1]; rfl))]
    exact q
def U8 (K:KH) (a:OA) (n:Nat):Prop:=∀ i,i<n->∃ b o x,a=some ⟨b,o,none⟩/\ld K ⟨b,o+i,none⟩ [.int .u8 x]/\0<=x/\x<=255
theorem U8.mono {K K':KH} (h:Le K K') {a:OA} {n:Nat} (q:U8 K a n):U8 K' a n:=fun i hi=>by
 obtain ⟨b,o,x,h1,h2,h3⟩:=q i hi
 exact ⟨b,o,x,h1,h.ld h2,h3⟩
structure PK (K:KH) (p:Nat) (H:KH):Prop where
 out:K p=none
 ex:∃ e a n c j,H=K.new p e/\wrB e=true/\rd e.cells 0 2=some [.slice a n c,.int .i64 j]/\0<=j/\n<=1000000/\U8 K a n
theorem PK.le {K H:KH} {p:Nat} (h:PK K p H):Le K H:=by
 obtain ⟨h1,e,a,n,c,j,rfl,_⟩:=h
 exact Le.new h1
theorem put_new {K:KH} {p o:Nat} {e:Ent} {vs:List Value}:(K.new p e).put ⟨p,o,none⟩ vs=K.new p ⟨wr e.cells o vs,e.len,e.unk,none⟩:=by
 funext k
 simp only [KH.put,KH.new]
 by_cases hk:k=p<;>simp [hk]
theorem rd_two {e:BT (Option Value)} {u v w:Value} (h:rd e 0 2=some [u,v]):rd (wr e 1 [w]) 0 2=some [u,w]:=by
 refine rd_some rfl fun j x hx=>?_
 rw [Nat.zero_add,tget_wr]
 match j,hx with
 | 0,hx =>
   rw [if_neg (by omega)]
   have:=rd_get h 0 u (by simp)
   simp at hx
   subst hx
   simpa using this
 | 1,hx =>
   rw [if_pos (by simp)]
   simpa using hx
 | j+2,hx=>simp at hx
end Go.Ew
namespace Go.Proofs.YtfhjkkbaghanhaaGreat
open Go.Ev Go.Ew
namespace Va
section
variable (ok : EnvOk (env Tryz.prog))
include ok
theorem c6 {a:OA} {n c:Nat} {H:KH} {Q:PQ} (hu:U8 H a n) (hn:n<=1000000) (hq:∀ p H',PK H p H'->Q (.pointer (some ⟨p,0,none⟩)) H'):Does (env Tryz.prog) 6 [.slice a n c] H Q:=by
 refine fn6 ok fun n1 hn1=>hq n1 _ ⟨hn1,_,a,n,c,0,rfl,rfl,mk_rd,by omega,hn,hu⟩
theorem c18 {K H:KH} {p:Nat} {m:Int} {Q:PQ} (hp:PK K p H) (hm:0<m) (hm2:m<=1000000) (hq:∀ x H',0<=x->x<m->PK K p H'->Q (.int .i64 x) H') :
 Does (env Tryz.prog) 18 [.pointer (some ⟨p,0,none⟩),.int .i64 m] H Q:=by
 have hp':=hp
 obtain ⟨h1,e,a,n,c,j,rfl,hwr,hr,hj,hn,hu⟩:=hp
 have hld:ld (K.new p e) ⟨p,0,none⟩ [.slice a n c,.int .i64 j]:=⟨rfl,e,by simp [KH.new],hr⟩
 refine fn18 ok ⟨trivial,rfl,j,ldSub hld 1 1 (by simp),rfl,a,n,c,ldSub hld 0 1 (by simp),fun h=>hq 0 _ (by omega) hm hp',fun h=>?_⟩
 have h:j<n:=by simpa using h
 have hw:IntKind.wrap .i64 (j+1)=j+1:=wrap64 (by omega) (by omega)
 have hw2:IntKind.wrap .i64 (j+1-1)=j:=by rw [wrap64 (by omega) (by omega)]; omega
 refine ⟨rfl,j,ldSub hld 1 1 (by simp),rfl,⟨[.int .i64 j],rfl,ldSub hld 1 1 (by simp)⟩,⟨⟨e,by simp [KH.new],hwr⟩⟩,trivial,rfl,?_⟩
 rw [hw,put_new]
 have hr2:=rd_two (w:=.int .i64 (j+1)) hr
 have hld2:ld (K.new p ⟨wr e.cells (0+1) [.int .i64 (j+1)],e.len,e.unk,none⟩) ⟨p,0,none⟩ [.slice a n c,.int .i64 (j+1)]:=⟨rfl,_,if_pos rfl,hr2⟩
 obtain ⟨j',rfl⟩:∃ j':Nat,j=j':=⟨j.toNat,by omega⟩
 obtain ⟨b,o,x,ha,hx,hx1,hx2⟩:=hu j' (by omega)
 refine ⟨a,n,c,ldSub hld2 0 1 (by simp),rfl,(j':Int)+1,ldSub hld2 1 1 (by simp),?_⟩
 rw [hw2]
 refine ⟨⟨by omega,by omega⟩,b,o,ha,x,?_,by omega,?_⟩
 .have:=Le.ld (Le.new h1 (e:=⟨wr e.cells (0+1) [.int .i64 ((j':Int)+1)],e.len,e.unk,none⟩)) hx
  simpa using this
 .rw [wrap64 (x:=x) (by omega) (by omega),Int.tmod_eq_emod_of_nonneg hx1]
  exact hq _ _ (Int.emod_nonneg _ (by omega)) (Int.emod_lt_of_pos _ hm) ⟨h1,_,a,n,c,(j':Int)+1,rfl,wrB_keep hwr,hr2,by omega,hn,hu⟩
end
end Va
end Go.Proofs.YtfhjkkbaghanhaaGreat
namespace Go.Ew
open Go.Ev Go.Deep
structure Pt (X H:KH) (p:Nat) (cs:List Value):Prop where
 le:Le X H
 xp:X p=none
 ex:∃ e,H p=some e/\wrB e=true/\rd e.cells 0 7=some cs
theorem Pt.ld {X H:KH} {p:Nat} {cs:List Value} (h:Pt X H p cs):ld H ⟨p,0,none⟩ cs:=by
 obtain ⟨e,h1,h2,h3⟩:=h.ex
 exact ⟨rfl,e,h1,by rw [rd_len h3]; exact h3⟩
theorem Pt.may {X H:KH} {p:Nat} {cs:List Value} (h:Pt X H p cs):KH.may H p:=by
 obtain ⟨e,h1,h2,h3⟩:=h.ex
 exact ⟨e,h1,h2⟩
theorem Pt.put {X H:KH} {p o:Nat} {a b c vs:List Value} (h:Pt X H p (a++b++c)) (ha:a.length=o) (hb:b.length=vs.length):Pt X (H.put ⟨p,o,none⟩ vs) p (a++vs++c):=by
 obtain ⟨e,h1,h2,h3⟩:=h.ex
 refine ⟨fun k e' q=>?_,h.xp,⟨wr e.cells o vs,e.len,e.unk,none⟩,by simp only [KH.put,if_true,h1,Option.map_some],wrB_keep h2,rdWr h3 ha hb⟩
 simp only [KH.put]
 rw [if_neg (fun x=>by rw [x,h.xp] at q; cases q)]
 exact h.le k e' q
theorem put_ne {H:KH} {p o:Nat} {vs:List Value} {k:Nat} {e:Ent} (hk:k≠p) (q:H k=some e):(H.put ⟨p,o,none⟩ vs) k=some e:=by
 simp only [KH.put]; rw [if_neg hk]; exact q
theorem Pt.agree {X X' H H':KH} {p:Nat} {cs:List Value} (h:Pt X H p cs) (hl:Le X' H') (hx:X' p=none) (hp:∀ e,H p=some e->H' p=some e):Pt X' H' p cs:=by
 obtain ⟨e,h1,h2,h3⟩:=h.ex
 exact ⟨hl,hx,e,hp e h1,h2,h3⟩
structure Co (X H:KH) (p:Nat) (σ:RdS) (kc:List Value) (ai:OA) (ci:Nat) (ao:OA) (co:Nat) (csI exo:List Value):Prop where
 pt:Pt X H p ([.slice ai σ.items.length ci,.slice ao σ.outer.length co,.bool σ.parted,.int .i64 σ.atoms]++kc)
 xi:∀ b,blk ai=some b->X b=none/\b≠p
 xo:∀ b,blk ao=some b->X b=none/\b≠p/\blk ai≠some b
 items:Gr H 2 ai σ.items.length ci csI []
 itc:ItC X σ.items csI
 outer:Gr H 2 ao σ.outer.length co (grC σ.outer) exo
 small:(0<=σ.atoms/\σ.atoms<=2)/\σ.outer.length<=12/\∀ g∈σ.outer,0<=g.2/\g.2<=1
def CoX (X H:KH) (p:Nat) (σ:RdS) (kc:List Value):Prop:=∃ ai ci ao co csI exo,Co X H p σ kc ai ci ao co csI exo
section
variable {X H : KH} {p : Nat} {σ : RdS} {kc : List Value} {ai : OA} {ci : Nat} {ao : OA} {co : Nat} {csI exo : List Value}
theorem Co.c0 (h:Co X H p σ kc ai ci ao co csI exo):ld H ⟨p,0,none⟩ [.slice ai σ.items.length ci]:=by
 have:=ldSub h.pt.ld 0 1 (by simp)
 simpa using this
theorem Co.c1 (h:Co X H p σ kc ai ci ao co csI exo):ld H ⟨p,1,none⟩ [.slice ao σ.outer.length co]:=by
 have:=ldSub h.pt.ld 1 1 (by simp)
 simpa using this
theorem Co.c2 (h:Co X H p σ kc ai ci ao co csI exo):ld H ⟨p,2,none⟩ [.bool σ.parted]:=by
 have:=ldSub h.pt.ld 2 1 (by simp)
 simpa using this
theorem Co.c3 (h:Co X H p σ kc ai ci ao co csI exo):ld H ⟨p,3,none⟩ [.int .i64 σ.atoms]:=by
 have:=ldSub h.pt.ld 3 1 (by simp)
 simpa using this
theorem Co.c88 (h:Co X H p σ kc ai ci ao co csI exo):ld H ⟨p,2,none⟩ [.bool σ.parted,.int .i64 σ.atoms]:=by
 have:=ldSub h.pt.ld 2 2 (by simp)
 simpa using this
theorem Co.setNow (h:Co X H p σ kc ai ci ao co csI exo) {b:Bool} {n:Int} (hn:0<=n/\n<=2):Co X (H.put ⟨p,2,none⟩ [.bool b,.int .i64 n]) p { σ with parted:=b,atoms:=n } kc ai ci ao co csI exo where
 pt:=by
  have:=h.pt
  have:=Pt.put (o:=2) (a:=[.slice ai σ.items.length ci,.slice ao σ.outer.length co]) (b:=[.bool σ.parted,.int .i64 σ.atoms]) (c:=kc) (vs:=[.bool b,.int .i64 n]) (by simpa using this) rfl rfl
  simpa using this
 xi:=h.xi
 xo:=h.xo
 items:=h.items.agree fun k e hk q=>put_ne (h.xi k hk).2 q
 itc:=h.itc
 outer:=h.outer.agree fun k e hk q=>put_ne (h.xo k hk).2.1 q
 small:=⟨hn,h.small.2⟩
theorem Co.setAtoms (h:Co X H p σ kc ai ci ao co csI exo) {n:Int} (hn:0<=n/\n<=2):Co X (H.put ⟨p,3,none⟩ [.int .i64 n]) p { σ with atoms:=n } kc ai ci ao co csI exo where
 pt:=by
  have:=h.pt
  have:=Pt.put (o:=3) (a:=[.slice ai σ.items.length ci,.slice ao σ.outer.length co,.bool σ.parted]) (b:=[.int .i64 σ.atoms]) (c:=kc) (vs:=[.int .i64 n]) (by simpa using this) rfl rfl
  simpa using this
 xi:=h.xi
 xo:=h.xo
 items:=h.items.agree fun k e hk q=>put_ne (h.xi k hk).2 q
 itc:=h.itc
 outer:=h.outer.agree fun k e hk q=>put_ne (h.xo k hk).2.1 q
 small:=⟨hn,h.small.2⟩
theorem Gr.at (h:Gr H 2 ai ci co csI exo) {b:Nat} (hb:blk ai=some b):∃ e,H b=some e:=by
 cases h with
 | nil=>cases hb
 | on b' n e _ _ h1=>cases hb; exact ⟨e,h1⟩
theorem Co.lit (h:Co X H p σ kc ai ci ao co csI exo) {n:Nat} {e:Ent} (hn:H n=none):Co (X.new n e) (H.new n e) p σ kc ai ci ao co csI exo where
 pt:=by
  refine h.pt.agree (fun k e' q=>?_) ?_ fun e' q=>Le.new hn _ _ q
  .simp only [KH.new] at q ⊢
   by_cases hk:k=n
   .rw [if_pos hk] at q ⊢; exact q
   .rw [if_neg hk] at q ⊢; exact h.pt.le k e' q
  .obtain ⟨e1,h1,_⟩:=h.pt.ex
   simp only [KH.new]
   rw [if_neg (fun x=>by rw [x,hn] at h1; cases h1)]
   exact h.pt.xp
 xi b q:=by
  obtain ⟨e1,h1⟩:=h.items.at q
  refine ⟨?_,(h.xi b q).2⟩
  simp only [KH.new]
  rw [if_neg (fun x=>by rw [x,hn] at h1; cases h1)]
  exact (h.xi b q).1
 xo b q:=by
  obtain ⟨e1,h1⟩:=h.outer.at q
  refine ⟨?_,(h.xo b q).2⟩
  simp only [KH.new]
  rw [if_neg (fun x=>by rw [x,hn] at h1; cases h1)]
  exact (h.xo b q).1
 items:=h.items.agree fun k e' _ q=>Le.new hn _ _ q
 itc:=h.itc.mono (Le.new (h.pt.le.none hn))
 outer:=h.outer.agree fun k e' _ q=>Le.new hn _ _ q
 small:=h.small
theorem Co.sub {H':KH} (h:Co X H p σ kc ai ci ao co csI exo) (hl:Le H H'):Co X H' p σ kc ai ci ao co csI exo where
 pt:=h.pt.agree (h.pt.le.trans hl) h.pt.xp fun e q=>hl _ _ q
 xi:=h.xi
 xo:=h.xo
 items:=h.items.agree fun k e _ q=>hl _ _ q
 itc:=h.itc
 outer:=h.outer.agree fun k e _ q=>hl _ _ q
 small:=h.small
abbrev IT2:TI:=⟨2,32,true,3,0,0,[(0,1),(1,1)],[.int .i64 0,.slice none 0 0]⟩
abbrev GT2:TI:=⟨2,16,true,3,0,0,[(0,1),(1,1)],[.bool false,.int .i64 0]⟩
theorem Co.item (h:Co X H p σ kc ai ci ao co csI exo) (hs:σ.items.length<=1000) {op:Int} {l:List Rg} {a:OA} {c nm:Nat} (hk:kold X 2 a l.length=some (rgC l)) (hnm:H nm=none) :
 ∃ a' H' ,kappend H nm IT2 ai σ.items.length ci 1 [.int .i64 op,.slice a l.length c]=some (.slice a' (σ.items.length+1) unkU,H')/\(∃ e,H' p=some e/\H p=some e)/\ld H' ⟨p,0,none⟩ [.slice ai σ.items.length ci]/\KH.may H' p/\
  Co X (H'.put ⟨p,0,none⟩ [.slice a' (σ.items.length+1) unkU]) p { σ with items:=σ.items++[(op,l)] } kc a' unkU ao co (csI++[.int .i64 op,.slice a l.length c]) exo:=by
 obtain ⟨a',H',ex',g1,g2,g3,g4,g5⟩:=Gr.append (ti:=IT2) (new:=[.int .i64 op,.slice a l.length c]) h.items hnm rfl (by omega) (by decide) (by decide)
 have g3:=g3 rfl
 subst g3
 obtain ⟨ep,hp1,hp2,hp3⟩:=h.pt.ex
 have hpi:blk ai≠some p:=fun x=>(h.xi p x).2 rfl
 have hp':=g4 p ep hp1 hpi
 have hX:Le X H':=fun k e q=>g4 k e (h.pt.le k e q) fun x=>by rw [(h.xi k x).1] at q; cases q
 have pt':Pt X H' p ([.slice ai σ.items.length ci,.slice ao σ.outer.length co,.bool σ.parted,.int .i64 σ.atoms]++kc):=h.pt.agree hX h.pt.xp fun e q=>g4 p e q hpi
 have hnX:X nm=none:=h.pt.le.none hnm
 have hout:∀ b,blk ao=some b->b≠nm:=fun b q x=>by
  obtain ⟨e1,h1⟩:=h.outer.at q
  rw [x,hnm] at h1; cases h1
 refine ⟨a',H',g1,⟨ep,hp',hp1⟩,?_,pt'.may,?_⟩
 .have:=ldSub pt'.ld 0 1 (by simp)
  simpa using this
 .have hx:∀ b,blk a'=some b->X b=none/\b≠p:=fun b q=>by
   rcases g5 b q with q | q
   .exact h.xi b q
   .subst q; exact ⟨hnX,fun x=>by rw [<- x,hnm] at hp1; cases hp1⟩
  refine ⟨?_,hx,fun b q=>⟨(h.xo b q).1,(h.xo b q).2.1,fun x=>?_⟩,?_,?_,?_,h.small⟩
  .have:=Pt.put (o:=0) (a:=[]) (b:=[.slice ai σ.items.length ci]) (c:=[.slice ao σ.outer.length co,.bool σ.parted,.int .i64 σ.atoms]++kc) (vs:=[.slice a' (σ.items.length+1) unkU]) (by simpa using pt') rfl rfl
   simpa using this
  .rcases g5 b x with x | x
   .exact (h.xo b q).2.2 x
   .exact hout b q x
  .have:=g2.agree (H':=H'.put ⟨p,0,none⟩ [.slice a' (σ.items.length+1) unkU]) fun k e hk q=>put_ne (hx k hk).2 q
   simpa using this
  .exact h.itc.app hk
  .exact h.outer.agree fun k e hk q=>put_ne (h.xo k hk).2.1 (g4 k e q fun x=>(h.xo k hk).2.2 x)
end
theorem join_len (σ:RdS):(joinR σ).items.length<=σ.items.length+1:=by
 unfold joinR putR
 split<;>simp
theorem join_atoms {σ:RdS} (h:0<=σ.atoms/\σ.atoms<=2):0<=(joinR σ).atoms/\(joinR σ).atoms<=1:=by
 unfold joinR putR
 split
 .simp
 .omega
theorem join_outer (σ:RdS):(joinR σ).outer=σ.outer:=by unfold joinR putR; split<;>rfl
theorem join_zero {σ:RdS} (h:σ.atoms≠0):(joinR σ).atoms≠0:=by
 unfold joinR putR
 split
 .simp
 .exact h
theorem stOk {H:KH} {a:Addr} {ws vs:List Value} (h:ld H a ws) (hl:ws.length=vs.length):∃ l:List Value,l.length=vs.length/\ld H a l:=⟨ws,hl,h⟩
theorem lit_kold {H:KH} {b sz n:Nat} {cs:List Value} (hb:H b=some (mkEnt cs 0)) (hl:cs.length=n*sz):kold H sz (some ⟨b,0,none⟩) n=some cs:=by
 refine kold_some.2 ⟨_,hb,?_⟩
 rw [<- hl]
 exact rd_some rfl fun j v hv=>by rw [Nat.zero_add]; simp only [mkEnt,tget_wr_nil]; exact hv
end Go.Ew
namespace Go.Proofs.YtfhjkkbaghanhaaGreat
open Go.Ev Go.Ew
namespace Va
section
variable (ok : EnvOk (env Tryz.prog))
include ok
theorem c105 {X H:KH} {p:Nat} {σ:RdS} {kc:List Value} {op:Int} {Q:PQ} (h:CoX X H p σ kc) (hs:σ.items.length<=1000) (hq:∀ H',CoX X H' p (putR σ op) kc->Q (.tuple #[]) H'):Does (env Tryz.prog) 105 [.pointer (some ⟨p,0,none⟩),.int .i64 op] H Q:=by
 obtain ⟨ai,ci,ao,co,csI,exo,h⟩:=h
 refine fn105 ok ⟨rfl,ai,_,ci,h.c0,fun n4 hn4 n5 hn5=>?_⟩
 have h1:=h.sub (Le.new (e:=mkEnt [.int .i64 op,.slice none 0 0] 0) hn4)
 obtain ⟨a',H',g1,_,g3,g4,g5⟩:=h1.item hs (op:=op) (l:=[]) (a:=none) (c:=0) rfl hn5
 refine ⟨1,_,knew_of (lit_kold (if_pos rfl) rfl),a',_,_,H',g1,rfl,stOk g3 rfl,g4,hq _ ⟨_,_,_,_,_,_,g5⟩⟩
theorem c100 {X H:KH} {p:Nat} {σ:RdS} {kc:List Value} {Q:PQ} (h:CoX X H p σ kc) (hs:σ.items.length<=1000) (hq:∀ H',CoX X H' p (joinR σ) kc->Q (.tuple #[]) H'):Does (env Tryz.prog) 100 [.pointer (some ⟨p,0,none⟩)] H Q:=by
 have h0:=h
 obtain ⟨ai,ci,ao,co,csI,exo,h⟩:=h
 refine fn100 ok ⟨rfl,rfl,_,h.c3,fun h2=>?_,fun h2=>?_⟩
 .have h2:σ.atoms=2:=by simpa using h2
  refine c105 ok h0 hs fun H' hc=>?_
  obtain ⟨ai,ci,ao,co,csI,exo,hc⟩:=hc
  refine ⟨rfl,rfl,rfl,stOk hc.c3 rfl,hc.pt.may,hq _ ?_⟩
  have:=hc.setAtoms (n:=1) (by omega)
  rw [joinR,if_pos h2]
  exact ⟨_,_,_,_,_,_,this⟩
 .have h2:¬ σ.atoms=2:=by simpa using h2
  have:=hq H (by rw [joinR,if_neg h2]; exact h0)
  exact this
theorem c88 {X H:KH} {p:Nat} {σ:RdS} {kc:List Value} {l:List Rg} {a:OA} {c:Nat} {Q:PQ} (h:CoX X H p σ kc) (hs:σ.items.length<=900) (hk:kold X 2 a l.length=some (rgC l)) (hq:∀ H',CoX X H' p (addClassR σ l) kc->Q (.tuple #[]) H'):Does (env Tryz.prog) 88 [.pointer (some ⟨p,0,none⟩),.slice a l.length c] H Q:=by
 have ha:0<=σ.atoms/\σ.atoms<=2:=by obtain ⟨_,_,_,_,_,_,h⟩:=h; exact h.small.1
 refine fn88 ok (c100 ok h (by omega) fun H2 hc=>?_)
 obtain ⟨ai,ci,ao,co,csI,exo,hc⟩:=hc
 have hl:=join_len σ
 have hat:=join_atoms ha
 refine ⟨rfl,rfl,ai,_,ci,hc.c0,fun n6 hn6 n7 hn7=>?_⟩
 have h1:=hc.sub (Le.new (e:=mkEnt [.int .i64 1,.slice a l.length c] 0) hn6)
 obtain ⟨a',H',g1,_,g3,g4,g5⟩:=h1.item (by omega) (op:=1) (l:=l) (a:=a) (c:=c) hk hn7
 have hw:IntKind.wrap .i64 ((joinR σ).atoms+1)=(joinR σ).atoms+1:=wrap64 (by omega) (by omega)
 refine ⟨1,_,knew_of (lit_kold (if_pos rfl) rfl),a',_,_,H',g1,rfl,stOk g3 rfl,g4,rfl,rfl,_,g5.c3,rfl,rfl,stOk g5.c3 rfl,g5.pt.may,hq _ ?_⟩
 have g6:=g5.setAtoms (n:=(joinR σ).atoms+1) (by omega)
 simp only [] at g6 ⊢
 rw [hw]
 exact ⟨_,_,_,_,_,_,g6⟩
theorem c104 {X H:KH} {p:Nat} {σ:RdS} {kc:List Value} {op:Int} {Q:PQ} (h:CoX X H p σ kc) (hs:σ.items.length<=1000) (hn:repeatR σ op=none->∀ H',CoX X H' p σ kc->Q (.bool false) H') (hq:∀ τ,repeatR σ op=some τ->∀ H',CoX X H' p τ kc->Q (.bool true) H'):Does (env Tryz.prog) 104 [.pointer (some ⟨p,0,none⟩),.int .i64 op] H Q:=by
 have h0:=h
 obtain ⟨ai,ci,ao,co,csI,exo,h⟩:=h
 refine fn104 ok ⟨rfl,rfl,_,h.c3,fun h2=>?_,fun h2=>?_⟩
 .have h2:σ.atoms=0:=by simpa using h2
  exact hn (if_pos h2) H h0
 .have h2:¬ σ.atoms=0:=by simpa using h2
  exact c105 ok h0 hs fun H' hc=>⟨rfl,hq _ (if_neg h2) _ hc⟩
theorem c90 {X H:KH} {p:Nat} {σ:RdS} {kc:List Value} {Q:PQ} (h:CoX X H p σ kc) (hs:σ.items.length<=900) (hn:endR σ=none->Q (.bool false) H) (hq:∀ τ,endR σ=some τ->∀ H',CoX X H' p τ kc->Q (.bool true) H'):Does (env Tryz.prog) 90 [.pointer (some ⟨p,0,none⟩)] H Q:=by
 have h0:=h
 obtain ⟨ai,ci,ao,co,csI,exo,h⟩:=h
 have hl:=join_len σ
 refine fn90 ok ⟨rfl,rfl,_,h.c3,fun h2=>?_,fun h2=>?_⟩
 .have h2:σ.atoms=0:=by simpa using h2
  exact hn (if_pos h2)
 .have h2:¬ σ.atoms=0:=by simpa using h2
  refine c100 ok h0 (by omega) fun H2 hc=>?_
  have hc0:=hc
  obtain ⟨ai,ci,ao,co,csI,exo,hc⟩:=hc
  refine ⟨rfl,rfl,rfl,_,hc.c2,fun hp=>?_,fun hp=>?_⟩
  .refine c105 ok hc0 (by omega) fun H3 hd=>?_
   obtain ⟨ai,ci,ao,co,csI,exo,hd⟩:=hd
   refine ⟨rfl,rfl,stOk hd.c88 rfl,hd.pt.may,hq _ (if_neg h2) _ ?_⟩
   rw [if_pos hp]
   exact ⟨_,_,_,_,_,_,hd.setNow (by omega)⟩
  .refine ⟨rfl,stOk hc.c88 rfl,hc.pt.may,hq _ (if_neg h2) _ ?_⟩
   rw [if_neg (by rw [hp]; decide)]
   exact ⟨_,_,_,_,_,_,hc.setNow (by omega)⟩
theorem c110 {X H:KH} {p:Nat} {σ:RdS} {kc:List Value} {Q:PQ} (h:CoX X H p σ kc) (hq:Q (.bool (decide (σ.outer.length<12))) H):Does (env Tryz.prog) 110 [.pointer (some ⟨p,0,none⟩)] H Q:=by
 obtain ⟨ai,ci,ao,co,csI,exo,h⟩:=h
 refine fn110 ok ⟨rfl,ao,_,co,h.c1,?_⟩
 have:decide ((σ.outer.length:Int)<12)=decide (σ.outer.length<12):=by rw [Bool.eq_iff_iff]; simp; omega
 rw [this]
 exact hq
end
end Va
end Go.Proofs.YtfhjkkbaghanhaaGreat
namespace Go.Ew
open Go.Ev Go.Deep
section
variable {X H : KH} {p : Nat} {σ : RdS} {kc : List Value} {ai : OA} {ci : Nat} {ao : OA} {co : Nat} {csI exo : List Value}
theorem Co.push (h:Co X H p σ kc ai ci ao co csI exo) (hs:σ.outer.length<12) {b:Bool} {x:Int} (hx:0<=x/\x<=1) {nm:Nat} (hnm:H nm=none) :
 ∃ a' H' ex',kappend H nm GT2 ao σ.outer.length co 1 [.bool b,.int .i64 x]=some (.slice a' (σ.outer.length+1) unkU,H')/\ld H' ⟨p,1,none⟩ [.slice ao σ.outer.length co]/\KH.may H' p/\
  Co X (H'.put ⟨p,1,none⟩ [.slice a' (σ.outer.length+1) unkU]) p { σ with outer:=σ.outer++[(b,x)] } kc ai ci a' unkU csI ex':=by
 obtain ⟨a',H',ex',g1,g2,g3,g4,g5⟩:=Gr.append (ti:=GT2) (new:=[.bool b,.int .i64 x]) h.outer hnm rfl (by omega) (by decide) (by decide)
 obtain ⟨ep,hp1,hp2,hp3⟩:=h.pt.ex
 have hpo:blk ao≠some p:=fun x=>(h.xo p x).2.1 rfl
 have hX:Le X H':=fun k e q=>g4 k e (h.pt.le k e q) fun x=>by rw [(h.xo k x).1] at q; cases q
 have pt':Pt X H' p ([.slice ai σ.items.length ci,.slice ao σ.outer.length co,.bool σ.parted,.int .i64 σ.atoms]++kc):=h.pt.agree hX h.pt.xp fun e q=>g4 p e q hpo
 have hnX:X nm=none:=h.pt.le.none hnm
 have hin:∀ b,blk ai=some b->b≠nm:=fun b q x=>by
  obtain ⟨e1,h1⟩:=h.items.at q
  rw [x,hnm] at h1; cases h1
 have hxo:∀ b,blk a'=some b->X b=none/\b≠p/\blk ai≠some b:=fun b q=>by
  rcases g5 b q with q | q
  .exact h.xo b q
  .subst q; exact ⟨hnX,fun x=>(by rw [<- x,hnm] at hp1; cases hp1),fun x=>hin b x rfl⟩
 refine ⟨a',H',ex',g1,?_,pt'.may,?_,h.xi,hxo,?_,h.itc,?_,⟨h.small.1,by simp; omega,fun g hg=>?_⟩⟩
 .have:=ldSub pt'.ld 1 1 (by simp)
  simpa using this
 .have:=Pt.put (o:=1) (a:=[.slice ai σ.items.length ci]) (b:=[.slice ao σ.outer.length co]) (c:=[.bool σ.parted,.int .i64 σ.atoms]++kc) (vs:=[.slice a' (σ.outer.length+1) unkU]) (by simpa using pt') rfl rfl
  simpa using this
 .exact h.items.agree fun k e hk q=>put_ne (h.xi k hk).2 (g4 k e q fun x=>(h.xo k x).2.2 hk)
 .have:=g2.agree (H':=H'.put ⟨p,1,none⟩ [.slice a' (σ.outer.length+1) unkU]) fun k e hk q=>put_ne (hxo k hk).2.1 q
  have e1:grC (σ.outer++[(b,x)])=grC σ.outer++[.bool b,.int .i64 x]:=by rw [grC_app]; rfl
  simpa [e1] using this
 .rcases List.mem_append.1 hg with hg | hg
  .exact h.small.2.2 g hg
  .have:g=(b,x):=by simpa using hg
   subst this; exact hx
theorem Co.pop (h:Co X H p σ kc ai ci ao co csI exo) {l:List (Bool × Int)} {g:Bool × Int} (hl:σ.outer=l++[g]) :
 ∃ b e,ao=some ⟨b,0,none⟩/\co=unkU/\H b=some e/\b≠p/\ld H ⟨b,0+l.length*2,none⟩ [.bool g.1,.int .i64 g.2]/\
  (∀ H':KH,H' b=some e->kslice H' 2 (some ⟨b,0,none⟩) σ.outer.length unkU none (some (.int .i64 ((l.length:Nat):Int)))=some (.slice (some ⟨b,0,none⟩) l.length unkU))/\
  Co X (H.put ⟨p,1,none⟩ [.slice (some ⟨b,0,none⟩) l.length unkU]) p { σ with outer:=l } kc ai ci (some ⟨b,0,none⟩) unkU csI ([.bool g.1,.int .i64 g.2]++exo):=by
 have hn:σ.outer.length=l.length+1:=by rw [hl]; simp
 have hg:grC σ.outer=grC l++[.bool g.1,.int .i64 g.2]:=by rw [hl,grC_app]; rfl
 have hout:=h.outer
 have hxo:=h.xo
 have hpt:=h.pt
 generalize hN:σ.outer.length=N at *
 generalize hC:grC σ.outer=C at *
 cases hout with
 | nil=>omega
 | on b _ e _ _ h1 h2 h3 h4 h5 h6 =>
   have hbp:b≠p:=(hxo b rfl).2.1
   have hll:=grC_len l
   have hCl:C.length=l.length*2+2:=by rw [hg]; simp [hll]
   refine ⟨b,e,rfl,rfl,h1,hbp,?_,fun H' hb=>?_,?_,h.xi,hxo,?_,h.itc,?_,⟨h.small.1,(show l.length<=12 by have:=h.small.2.1; omega),fun g' hg'=>h.small.2.2 g' (by rw [hl]; simp [hg'])⟩⟩
   .have:=ldSub (H:=H) (b:=b) (o:=0) (cs:=C++exo) ⟨rfl,e,h1,h4⟩ (l.length*2) 2 (by simp; omega)
    rw [hg,List.append_assoc,<- hll,List.drop_left] at this
    rw [<- hll]
    simpa using this
   .have hcap:kcap H' ⟨b,0,none⟩ unkU 2=some (e.len/2):=by
     unfold kcap
     have hb0:Nat.blt unkU unkU=false:=rfl
     have hq:(Nat.beq e.unk 2&&Nat.beq 0 ((unkU-unkU)*2)&&Nat.ble 1 2&&Nat.ble 0 e.len)=true:=by
      rw [h2,Nat.sub_self]; simp
     simp only [hb0,cond_false,hb,hq,cond_true,Nat.sub_zero]
    have hlen:l.length+1<=e.len/2:=by
     rw [h3,List.length_append,hCl]; omega
    unfold kslice
    have hb0:Nat.blt unkU unkU=false:=rfl
    have n1:natOf 0 none=some 0:=rfl
    have n2:natOf N (some (.int .i64 ((l.length:Nat):Int)))=some l.length:=by
     simp [natOf]
    simp only [Option.isNone_none,cond_true,n1,n2,hcap]
    have hq:(Nat.ble 0 l.length&&Nat.ble l.length (e.len/2)&&Nat.ble N (e.len/2)&&true)=true:=by
     simp only [Bool.and_eq_true]
     exact ⟨⟨⟨rfl,Nat.ble_eq_true_of_le (by omega)⟩,Nat.ble_eq_true_of_le (by omega)⟩,trivial⟩
    rw [hq]
    have hq2:Nat.blt 0 (e.len/2)=true:=Nat.ble_eq_true_of_le (by omega)
    simp only [cond_true,hb0,cond_false,hq2]
    simp
   .have:=Pt.put (o:=1) (a:=[.slice ai σ.items.length ci]) (b:=[.slice (some ⟨b,0,none⟩) N unkU]) (c:=[.bool σ.parted,.int .i64 σ.atoms]++kc) (vs:=[.slice (some ⟨b,0,none⟩) l.length unkU]) (by simpa using hpt) rfl rfl
    simpa using this
   .exact h.items.agree fun k e hk q=>put_ne (h.xi k hk).2 q
   .refine .on b _ e _ _ (put_ne hbp h1) h2 ?_ ?_ h5 hll
    .rw [h3,hg,List.append_assoc]
    .rw [<- List.append_assoc,<- hg]; exact h4
end
theorem end_outer {σ τ:RdS} (h:endR σ=some τ):τ.outer=σ.outer:=by
 unfold endR at h
 split at h
 .cases h
 .cases h
  show (if (joinR σ).parted=true then putR (joinR σ) 3 else joinR σ).outer=_
  split
  .exact join_outer σ
  .exact join_outer σ
theorem end_len {σ τ:RdS} (h:endR σ=some τ):τ.items.length<=σ.items.length+2:=by
 have:=join_len σ
 unfold endR at h
 split at h
 .cases h
 .cases h
  show (if (joinR σ).parted=true then putR (joinR σ) 3 else joinR σ).items.length<=_
  split
  .simp [putR]; omega
  .omega
end Go.Ew
namespace Go.Proofs.YtfhjkkbaghanhaaGreat
open Go.Ev Go.Ew
namespace Va
section
variable (ok : EnvOk (env Tryz.prog))
include ok
theorem c101 {X H:KH} {p:Nat} {σ:RdS} {kc:List Value} {Q:PQ} (h:CoX X H p σ kc) (hs:σ.items.length<=900) (hn:openR σ=none->Q (.bool false) H) (hq:∀ τ,openR σ=some τ->∀ H',CoX X H' p τ kc->Q (.bool true) H'):Does (env Tryz.prog) 101 [.pointer (some ⟨p,0,none⟩)] H Q:=by
 have ha:0<=σ.atoms/\σ.atoms<=2:=by obtain ⟨_,_,_,_,_,_,h⟩:=h; exact h.small.1
 refine fn101 ok (c110 ok h ⟨_,rfl,fun h1=>?_,fun h1=>?_⟩)
 .exact hn (if_neg (by simpa using h1))
 .have h1:σ.outer.length<12:=by simpa using h1
  refine c100 ok h (by omega) fun H2 hc=>?_
  obtain ⟨ai,ci,ao,co,csI,exo,hc⟩:=hc
  have hat:=join_atoms ha
  have ho:=join_outer σ
  refine ⟨rfl,trivial,rfl,ao,_,co,hc.c1,rfl,_,_,hc.c88,fun n8 hn8 n9 hn9=>?_⟩
  have h2:=hc.sub (Le.new (e:=mkEnt [.bool (joinR σ).parted,.int .i64 (joinR σ).atoms] 0) hn8)
  obtain ⟨a',H',ex',g1,g2,g3,g4⟩:=h2.push (by rw [ho]; exact h1) (b:=(joinR σ).parted) (x:=(joinR σ).atoms) hat hn9
  refine ⟨1,_,knew_of (lit_kold (if_pos rfl) rfl),a',_,_,H',g1,⟨rfl,trivial⟩,rfl,stOk g2 rfl,g3,trivial,rfl,stOk g4.c88 rfl,g4.pt.may,hq _ (if_pos h1) _ ?_⟩
  exact ⟨_,_,_,_,_,_,g4.setNow (by omega)⟩
theorem c102 {X H:KH} {p:Nat} {σ:RdS} {kc:List Value} {Q:PQ} (h:CoX X H p σ kc) (hs:σ.items.length<=900) (hn:closeR σ=none->Q (.bool false) H) (hq:∀ τ,closeR σ=some τ->∀ H',CoX X H' p τ kc->Q (.bool true) H'):Does (env Tryz.prog) 102 [.pointer (some ⟨p,0,none⟩)] H Q:=by
 have h0:=h
 obtain ⟨ai,ci,ao,co,csI,exo,h⟩:=h
 have hsm:=h.small.2.1
 have hw:IntKind.wrap .i64 (((σ.outer.length:Nat):Int)-1)=((σ.outer.length:Nat):Int)-1:=wrap64 (by omega) (by omega)
 refine fn102 ok ⟨rfl,ao,_,co,h.c1,fun h1=>?_,fun h1=>?_⟩
 .rw [hw] at h1
  have h1:=of_decide_eq_true h1
  have:σ.outer=[]:=List.eq_nil_of_length_eq_zero (by omega)
  exact hn (by unfold closeR; rw [this]; rfl)
 .rw [hw] at h1
  have h1:=of_decide_eq_false h1
  obtain ⟨l,g,hl⟩:∃ l g,σ.outer=l++[g]:=by
   refine ⟨σ.outer.dropLast,σ.outer.getLast (by intro e; rw [e] at h1; simp at h1),?_⟩
   exact (List.dropLast_concat_getLast _).symm
  have hlast:σ.outer.getLast? = some g:=by rw [hl]; simp
  have hdrop:σ.outer.dropLast=l:=by rw [hl]; simp
  have hgb:=h.small.2.2 g (by rw [hl]; simp)
  refine c90 ok h0 hs (fun he=>⟨_,rfl,fun _=>hn ?_,fun h=>(by cases h)⟩) fun τ he H5 hc=>⟨_,rfl,fun h=>(by cases h),fun _=>?_⟩
  .unfold closeR; rw [hlast]; simp only [he]
  .have hot:=end_outer he
   have hn1:σ.outer.length=l.length+1:=by rw [hl]; simp
   obtain ⟨ai,ci,ao,co,csI,exo,hc⟩:=hc
   obtain ⟨b,e,rfl,rfl,p1,p2,p3,p4,p5⟩:=hc.pop (l:=l) (g:=g) (by rw [hot,hl])
   have hln:((σ.outer.length:Nat):Int)-1=((l.length:Nat):Int):=by omega
   rw [hw,hln]
   have hcl:=hc.c1
   rw [hot] at hcl p4
   have nw:=hc.setNow (b:=g.1) (n:=g.2) (by omega)
   obtain ⟨b',e',q0,_,q1,q2,q3,q4,q5⟩:=nw.pop (l:=l) (g:=g) (by show τ.outer=_; rw [hot,hl])
   cases q0
   have hk1:=p4 H5 p1
   have hk2:=p4 (H5.put ⟨p,2,none⟩ [.bool g.1,.int .i64 g.2]) (put_ne p2 p1)
   refine ⟨trivial,rfl,_,_,_,hcl,⟨by omega,by omega⟩,b,0,rfl,g.1,g.2,by simpa using p3,rfl,_,_,_,hcl,_,_,_,hk1,rfl,stOk hc.c88 rfl,hc.pt.may,⟨rfl,rfl,⟨_,_,_,hk2,rfl⟩,trivial⟩,rfl,?_⟩
   have hcl2:=nw.c1
   refine ⟨stOk hcl2 rfl,nw.pt.may,trivial,rfl,rfl,_,q5.c3,rfl,rfl,stOk q5.c3 rfl,q5.pt.may,hq { τ with outer:=l,parted:=g.1,atoms:=g.2+1 } ?_ _ ?_⟩
   .unfold closeR; rw [hlast]; simp only [he,hdrop]
   .have hfin:=q5.setAtoms (n:=g.2+1) (by omega)
    have hw2:IntKind.wrap .i64 (g.2+1)=g.2+1:=wrap64 (by omega) (by omega)
    show CoX X (KH.put _ _ [.int .i64 (IntKind.wrap .i64 (g.2+1))]) p _ kc
    rw [hw2]
    exact ⟨_,_,_,_,_,_,hfin⟩
end
end Va
end Go.Proofs.YtfhjkkbaghanhaaGreat
