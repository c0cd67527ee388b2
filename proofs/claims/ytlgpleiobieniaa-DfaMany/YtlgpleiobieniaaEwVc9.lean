import Derived.Test.YtlgpleiobieniaaEwVc1
import Derived.Test.YtlgpleiobieniaaEwS4
import Derived.Test.YtlgpleiobieniaaEwLib
set_option linter.unusedVariables false
set_option maxRecDepth 100000
namespace Go.Proofs.Ytlgpleiobieniaa
open Go.Ev Go.Ew
namespace Va
def W5 (P:Program):WE:=⟨env P,tupT,[],mkTab [(0,[.tmp 3 (.int .i64),.tmp 4 .str,.tmp 5 (.int .i64)])],5⟩
def vc5_L2 (y1:Int) (y2:KH) (y3:PQ):Prop :=
 (∃ (f:(Nat→Int→ByteArray→Int→KH→Prop)),(∃ (y:Nat),f y (IntKind.wrap .i64 (Int.tmod y1 12)) (ByteArray.mk #[91,97,98,93,42,97]) 0 y2)∧∀ (m:Nat) (a:Int) (d:ByteArray) (e:Int) (g:KH),f m a d e g→(decide (e<a)=true→(((ByteArray.size d)+(ByteArray.size (ByteArray.mk #[46]))):Nat)≤1000000∧∃ (n:Nat),(n:Nat)<m∧f n a (d++(ByteArray.mk #[46])) (IntKind.wrap .i64 (e+1)) g)∧(decide (e<a)=false→Does (env Try.prog) 13 [(.string d)] g fun z l=>∃ (o:(OA)) (p q:Nat) (h:Bool),z=(.tuple #[.slice o p q,.bool h])∧((!h)=true→y3 (.bool false) l)∧((!h)=false→∀ (i:Nat),((l i):(Option (Ent)))=none→Does (env Try.prog) 15 [(.slice (some ⟨i,0,none⟩) 1 1)] (KH.new l i (mkEnt [(.slice o p q)] 0)) fun aa ab=>∃ (r:(OA)) (s t:Nat),aa=(.slice r s t)∧Does (env Try.prog) 14 [(.slice r s t)] ab fun ac x=>∃ (u:(OA)) (b v:Nat),ac=(.slice u b v)∧(decide ((8:Int)<a)=true→y3 (.bool (decide ((b:Int)=0))) x)∧(decide ((8:Int)<a)=false→Does (env Try.prog) 16 [.slice u b v,.string (ByteArray.mk #[97,97,97,97,97,97,97,97,97,97,97,97])] x fun ad c=>∃ (j w:Int) (k:Bool),ad=(.tuple #[.int .i64 j,.int .i64 w,.bool k])∧(decide ((4:Int)<a)=true→y3 (.bool true) c)∧(decide ((4:Int)<a)=false→(decide ((1:Int)<(b:Int))=true→(k=true→(decide (j=0)=true→y3 (.bool (decide (w=12))) c)∧(decide (j=0)=false→y3 (.bool false) c))∧(k=false→y3 (.bool false) c))∧(decide ((1:Int)<(b:Int))=false→y3 (.bool false) c))))))
def vc5 (p0:Int) (H:KH) (Q:PQ):Prop :=
 Does (env Try.prog) 12 [] H fun c b=>∃ (a:Bool),c=(.bool a)∧((!a)=true→Q (.bool false) b)∧((!a)=false→(12:Int)≠0∧vc5_L2 p0 b Q)
theorem fn5 (ok:EnvOk (env Try.prog)) {p0:Int} {H:KH} {Q:PQ} (h:vc5 p0 H Q):Does (env Try.prog) 5 [.int .u8 p0] H Q :=
 wFun_sound (W:=W5 Try.prog) ok.tt (blt_lt (by kernel_rfl)) (ff_of ok (by kernel_rfl) Try.func5) (Eq.mpr (by kernel_rfl) h)
end Va
end Go.Proofs.Ytlgpleiobieniaa
