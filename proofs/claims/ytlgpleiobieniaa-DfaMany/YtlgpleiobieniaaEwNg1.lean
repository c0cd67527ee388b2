import Derived.Test.YtlgpleiobieniaaEwNt1
import Derived.Test.YtlgpleiobieniaaEwVc4
set_option linter.unusedVariables false
set_option linter.unusedSimpArgs false
namespace Go.Ew
open Go.Ev Go.Deep
def TkC:List ByteArray→List Value→Prop
 | [],cs=>cs=[]
 | s :: r,cs=>∃ nm b ds,cs = .string nm :: .string s :: .bool b :: ds∧TkC r ds
theorem TkC.snoc:∀ {r:List ByteArray} {cs:List Value} {s nm:ByteArray} {b:Bool},TkC r cs→TkC (r++[s]) (cs++[.string nm,.string s,.bool b])
 | [],cs,s,nm,b,h=>by
   have h:cs=[]:=h
   subst h
   exact ⟨nm,b,[],rfl,rfl⟩
 | x :: r,cs,s,nm,b,⟨nm',b',ds,h1,h2⟩=>by
   subst h1
   exact ⟨nm',b',_,rfl,h2.snoc⟩
theorem TkC.get:∀ {r:List ByteArray} {cs:List Value} {k:Nat} {s:ByteArray},TkC r cs→r[k]? = some s→cs[k*3+1]? = some (.string s)
 | [],cs,k,s,h,hk=>by simp at hk
 | x :: r,cs,0,s,⟨nm',b',ds,h1,h2⟩,hk=>by
   have hk:x=s:=by simpa using hk
   subst hk; subst h1; rfl
 | x :: r,cs,k+1,s,⟨nm',b',ds,h1,h2⟩,hk=>by
   subst h1
   have hk:r[k]? = some s:=by simpa using hk
   have:=TkC.get h2 hk
   have e:(k+1)*3+1=k*3+1+3:=by omega
   rw [e]
   simpa using this
end Go.Ew
namespace Go.Proofs.Ytlgpleiobieniaa
open Go.Ev Go.Ew
namespace Va
section
variable (ok : EnvOk (env Try.prog))
include ok
end
end Va
end Go.Proofs.Ytlgpleiobieniaa
