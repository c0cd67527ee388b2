import Derived.Test.YtlgpleiobieniaaEwNt1
import Derived.Test.YtlgpleiobieniaaEwVc4
set_option linter.unusedVariables false
set_option linter.unusedSimpArgs false
namespace Go.Ew
open Go.Ev Go.Deep
def TkC:List ByteArray→List Value→Prop
 | [],cs=>cs=[]
 | s :: r,cs=>∃ nm b ds,cs = .string nm :: .string s :: .bool b :: ds∧TkC r ds
def TkR (H:KH) (rs:List ByteArray) (a:OA):Prop:=∃ cs,kold H 3 a rs.length=some cs∧TkC rs cs
theorem TkC.snoc:∀ {r:List ByteArray} {cs:List Value} {s nm:ByteArray} {b:Bool},TkC r cs→TkC (r++[s]) (cs++[.string nm,.string s,.bool b])
 | [],cs,s,nm,b,h=>by
   have h:cs=[]:=h
   subst h
   exact ⟨nm,b,[],rfl,rfl⟩
 | x :: r,cs,s,nm,b,⟨nm',b',ds,h1,h2⟩=>by
   subst h1
   exact ⟨nm',b',_,rfl,h2.snoc⟩
theorem TkC.get:∀ {r:List ByteArray} {cs:List Value} {k:Nat} {s:ByteArray},TkC r cs→r[k]? = some s→cs[k*3+1]? = some (.string s)
 | [],cs,k,s,h,hk=>by simp at hk
 | x :: r,cs,0,s,⟨nm',b',ds,h1,h2⟩,hk=>by
   have hk:x=s:=by simpa using hk
   subst hk; subst h1; rfl
 | x :: r,cs,k+1,s,⟨nm',b',ds,h1,h2⟩,hk=>by
   subst h1
   have hk:r[k]? = some s:=by simpa using hk
   have:=TkC.get h2 hk
   have e:(k+1)*3+1=k*3+1+3:=by omega
   rw [e]
   simpa using this
end Go.Ew
namespace Go.Proofs.Ytlgpleiobieniaa
open Go.Ev Go.Ew
namespace Va
section
variable (ok : EnvOk (env Try.prog))
include ok
abbrev PT1:TI:=⟨1,24,false,1,59,0,[],[.slice none 0 0]⟩
theorem c11 {a:OA} {n c:Nat} {H:KH} {Q:PQ} (hu:U8 H a n) (hn:n≤100) (hq:∀ s H',s.size≤2*n→(∀ b∈bytesI s,32≤b)→Le H H'→Q (.string s) H'):Does (env Try.prog) 11 [.slice a n c] H Q:=by
 refine fn11 ok ?_
 unfold vc11 vc11_L1
 refine ⟨fun n3 a4 n5 n6 s7 x8 H9=>a4=a∧n5=n∧Le H H9∧∃ k:Nat,x8=k∧k≤n∧n3=n-k∧s7.size≤2*k∧∀ b∈bytesI s7,32≤b,⟨n,rfl,rfl,Le.refl _,0,rfl,by omega,rfl,by decide,fun b hb=>by cases hb⟩,?_⟩
 rintro n3 a4 n5 n6 s7 x8 H9 ⟨rfl,rfl,hle,k,rfl,hk,rfl,hsz,hb⟩
 refine ⟨fun hlt n1 hn1=>?_,fun hge=>?_⟩
 ·have hlt:k<n5:=by have:=of_decide_eq_true hlt; omega
  have e0:Int.toNat ((k:Nat):Int)=k:=by omega
  obtain ⟨b,o,x,h1,h2,h3,h4⟩:=hu k hlt
  have l1:=Le.new (e:=mkEnt [Value.string (ByteArray.mk #[97]),.string (ByteArray.mk #[98]),.string (ByteArray.mk #[99]),.string (ByteArray.mk #[43]),.string (ByteArray.mk #[32]),.string (ByteArray.mk #[48]),.string (ByteArray.mk #[97,98]),.string (ByteArray.mk #[63])] 0) hn1
  have hm:∃ y:Nat,Int.tmod x 8=y∧y<8:=by
   refine ⟨(x%8).toNat,?_,by omega⟩
   rw [Int.tmod_eq_emod_of_nonneg h3]; omega
  obtain ⟨y,hy1,hy2⟩:=hm
  have hy0:Int.toNat ((y:Nat):Int)=y:=by omega
  have hat:∃ s:ByteArray,[Value.string (ByteArray.mk #[97]),.string (ByteArray.mk #[98]),.string (ByteArray.mk #[99]),.string (ByteArray.mk #[43]),.string (ByteArray.mk #[32]),.string (ByteArray.mk #[48]),.string (ByteArray.mk #[97,98]),.string (ByteArray.mk #[63])][y]? = some (.string s)∧s.size≤2∧∀ b∈bytesI s,32≤b:=by
   have:y=0∨y=1∨y=2∨y=3∨y=4∨y=5∨y=6∨y=7:=by omega
   rcases this with q | q | q | q | q | q | q | q<;>subst q<;>exact ⟨_,rfl,by decide,by decide⟩
  obtain ⟨s,s1,s2,s3⟩:=hat
  rw [e0]
  refine ⟨⟨by omega,by omega⟩,b,o,h1,x,by simpa using l1.ld (hle.ld h2),by decide,?_⟩
  rw [hy1,hy0]
  refine ⟨⟨by omega,by omega⟩,n1,0,rfl,s,litAt (if_pos rfl) s1,by omega,n5-(k+1),by omega,rfl,rfl,hle.trans l1,k+1,by rw [wrap64 (by omega) (by omega)]; omega,by omega,rfl,by rw [size_app]; omega,fun z hz=>?_⟩
  rw [bytesI_app] at hz
  rcases List.mem_append.1 hz with q | q
  ·exact hb z q
  ·exact s3 z q
 ·have hge:k=n5:=by have:=of_decide_eq_false hge; omega
  subst hge
  exact hq s7 H9 hsz hb hle
end
end Va
end Go.Proofs.Ytlgpleiobieniaa
