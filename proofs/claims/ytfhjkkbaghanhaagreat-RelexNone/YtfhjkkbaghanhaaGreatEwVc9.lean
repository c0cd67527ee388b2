import Derived.Test.YtfhjkkbaghanhaaGreatEwVc1
import Derived.Test.YtfhjkkbaghanhaaGreatEwS4
import Derived.Test.YtfhjkkbaghanhaaGreatEwLib
set_option linter.unusedVariables false
set_option maxRecDepth 100000
namespace Go.Proofs.YtfhjkkbaghanhaaGreat
open Go.Ev Go.Ew
namespace Va
def W11 (P:Program):WE:=⟨env P,tupT,[],mkTab [(2,[.tmp 0 .slice,.tmp 3 (.int .i64),.tmp 4 (.int .i64),.tmp 5 (.int .i64)]),(0,[.tmp 0 .slice,.tmp 3 (.int .i64),.tmp 4 (.int .i64)])],11⟩
def vc11_L1 (y1:OA) (y2 y3:Nat) (y4 y5:Int) (y6:KH) (y7:Nat) (y8:(Nat→(OA→(Nat→(Nat→(Int→(Int→(KH→Prop)))))))):Prop :=
 (∃ (f:(Nat→OA→Nat→Nat→Int→Int→Int→KH→Prop)),(∃ (w:Nat),f w y1 y2 y3 y4 y5 0 y6)∧∀ (i:Nat) (d:(OA)) (e g:Nat) (h a b:Int) (c:KH),f i d e g h a b c→((0:Int)≤a∧a<(e:Int))∧∃ (l m:Nat),d=some ⟨l,m,none⟩∧∃ (x:(OA)) (j y:Nat),ld c ⟨l,m+((Int.toNat a)*1),none⟩ [(.slice x j y)]∧(decide (b<(j:Int))=true→((0:Int)≤a∧a<(e:Int))∧∃ (n o:Nat),d=some ⟨n,o,none⟩∧∃ (p:(OA)) (q z:Nat),ld c ⟨n,o+((Int.toNat a)*1),none⟩ [(.slice p q z)]∧((0:Int)≤b∧b<(q:Int))∧∃ (r s:Nat),p=some ⟨r,s,none⟩∧(none:(Option Nat))=none∧∃ (k:Int),ld c ⟨r,(s+((Int.toNat b)*2))+0,none⟩ [(.int .i64 k)]∧(decide (k=1)=true→∃ (t:Nat),(t:Nat)<i∧f t d e g (IntKind.wrap .i64 (h+1)) a (IntKind.wrap .i64 (b+1)) c)∧(decide (k=1)=false→∃ (u:Nat),(u:Nat)<i∧f u d e g h a (IntKind.wrap .i64 (b+1)) c))∧(decide (b<(j:Int))=false→∃ (v:Nat),(v:Nat)<y7∧y8 v d e g h (IntKind.wrap .i64 (a+1)) c))
def vc11_L2 (y1:OA) (y2 y3:Nat) (y4:KH) (y5:PQ):Prop :=
 (∃ (c:(Nat→OA→Nat→Nat→Int→Int→KH→Prop)),(∃ (i:Nat),c i y1 y2 y3 0 0 y4)∧∀ (f:Nat) (g:(OA)) (a h:Nat) (d b:Int) (e:KH),c f g a h d b e→(decide (b<(a:Int))=true→vc11_L1 g a h d b e f c)∧(decide (b<(a:Int))=false→y5 (.bool (decide (d≤8))) e))
def vc11 (p0:OA) (p0n p0c:Nat) (H:KH) (Q:PQ):Prop :=
 (vc11_L2 p0 p0n p0c H Q)
theorem fn11 (ok:EnvOk (env Tryz.prog)) {p0:OA} {p0n p0c:Nat} {H:KH} {Q:PQ} (h:vc11 p0 p0n p0c H Q):Does (env Tryz.prog) 11 [.slice p0 p0n p0c] H Q :=
 wFun_sound (W:=W11 Tryz.prog) ok.tt (blt_lt (by kernel_rfl)) (ff_of ok (by kernel_rfl) Tryz.func11) (Eq.mpr (by kernel_rfl) h)
end Va
end Go.Proofs.YtfhjkkbaghanhaaGreat
