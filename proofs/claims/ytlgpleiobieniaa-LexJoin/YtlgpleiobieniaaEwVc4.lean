import Derived.Test.YtlgpleiobieniaaEwVc1
import Derived.Test.YtlgpleiobieniaaEwS4
import Derived.Test.YtlgpleiobieniaaEwLib
set_option linter.unusedVariables false
set_option maxRecDepth 100000
namespace Go.Proofs.Ytlgpleiobieniaa
open Go.Ev Go.Ew
namespace Va
def W11 (P:Program):WE:=⟨env P,tupT,[],mkTab [(0,[.tmp 0 .slice,.tmp 3 .str,.tmp 4 (.int .i64)])],11⟩
def vc11_L1 (y1:OA) (y2 y3:Nat) (y4:KH) (y5:PQ):Prop :=
 (∃ (g:(Nat→OA→Nat→Nat→ByteArray→Int→KH→Prop)),(∃ (q:Nat),g q y1 y2 y3 (ByteArray.mk #[]) 0 y4)∧∀ (j:Nat) (h:(OA)) (c k:Nat) (e:ByteArray) (a:Int) (b:KH),g j h c k e a b→(decide (a<(c:Int))=true→∀ (d:Nat),((b d):(Option (Ent)))=none→((0:Int)≤a∧a<(c:Int))∧∃ (l m:Nat),h=some ⟨l,m,none⟩∧∃ (f:Int),ld (KH.new b d (mkEnt [.string (ByteArray.mk #[97]),.string (ByteArray.mk #[98]),.string (ByteArray.mk #[99]),.string (ByteArray.mk #[43]),.string (ByteArray.mk #[32]),.string (ByteArray.mk #[48]),.string (ByteArray.mk #[97,98]),.string (ByteArray.mk #[63])] 0)) ⟨l,m+((Int.toNat a)*1),none⟩ [(.int .u8 f)]∧(8:Int)≠0∧((0:Int)≤(Int.tmod f 8)∧((Int.tmod f 8):Int)<(8:Int))∧∃ (n o:Nat),((some ⟨d,0,none⟩):(OA))=(some ⟨n,o,none⟩)∧∃ (i:ByteArray),ld (KH.new b d (mkEnt [.string (ByteArray.mk #[97]),.string (ByteArray.mk #[98]),.string (ByteArray.mk #[99]),.string (ByteArray.mk #[43]),.string (ByteArray.mk #[32]),.string (ByteArray.mk #[48]),.string (ByteArray.mk #[97,98]),.string (ByteArray.mk #[63])] 0)) ⟨n,o+((Int.toNat (Int.tmod f 8))*1),none⟩ [(.string i)]∧(((ByteArray.size e)+(ByteArray.size i)):Nat)≤1000000∧∃ (p:Nat),(p:Nat)<j∧g p h c k (e++i) (IntKind.wrap .i64 (a+1)) (KH.new b d (mkEnt [.string (ByteArray.mk #[97]),.string (ByteArray.mk #[98]),.string (ByteArray.mk #[99]),.string (ByteArray.mk #[43]),.string (ByteArray.mk #[32]),.string (ByteArray.mk #[48]),.string (ByteArray.mk #[97,98]),.string (ByteArray.mk #[63])] 0)))∧(decide (a<(c:Int))=false→y5 (.string e) b))
def vc11 (p0:OA) (p0n p0c:Nat) (H:KH) (Q:PQ):Prop :=
 (vc11_L1 p0 p0n p0c H Q)
theorem fn11 (ok:EnvOk (env Try.prog)) {p0:OA} {p0n p0c:Nat} {H:KH} {Q:PQ} (h:vc11 p0 p0n p0c H Q):Does (env Try.prog) 11 [.slice p0 p0n p0c] H Q :=
 wFun_sound (W:=W11 Try.prog) ok.tt (blt_lt (by kernel_rfl)) (ff_of ok (by kernel_rfl) Try.func11) (Eq.mpr (by kernel_rfl) h)
end Va
end Go.Proofs.Ytlgpleiobieniaa
