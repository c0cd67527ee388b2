import Derived.Test.YtfhjkkbaghanhaaEwTop
set_option linter.unusedVariables false
set_option linter.unusedSimpArgs false
namespace Go.Ew
open Go.Ev Go.Deep Go.RowKit
section
variable {H : Type} {enc : TypeId × Value → H} {P : Program} {w : World}
theorem arg_strs {t e:TypeId} {v:Value} {d:DataW H} {ps:List MemPlace} (ht:P.underlying t=some (.slice e)) (he:P.cellsOf e=1) (hu:P.underlying e=some .string) (h:DataW.Trod enc P w 0 (fun _=>true) true t v d ps) (hf:w.noneFrozen ps) (hv:∃ a l c,v = .slice a l c) :
 ∃ a n c,absV w.heap.size v=some (.slice a n c)∧∀ i,i<n→∃ b o s,a=some ⟨b,o,none⟩∧ld (KW w) ⟨b,o+i,none⟩ [.string s]:=by
 obtain ⟨a,n,c,h1,h2⟩:=arg_slice ht he h hf hv
 refine ⟨a,n,c,h1,fun i hi=>?_⟩
 obtain ⟨b,o,x,y,m,k1,k2,k3,k4,_⟩:=h2 i hi
 obtain ⟨s,hs,_,_⟩:=DataW.trod_string hu k4
 have hx:x = .string s:=by simpa using hs
 subst hx
 exact ⟨b,o,s,k1,KW_ld k2 k3 rfl⟩
end
end Go.Ew
