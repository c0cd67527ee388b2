import Derived.Test.YtfhjkkbaghanhaaGreatEwDk8
import Derived.Test.YtfhjkkbaghanhaaGreatEwVc9
set_option linter.unusedVariables false
set_option linter.unusedSimpArgs false
namespace Go.Ew
open Go.Ev Go.Deep
theorem clsN_le:∀ l:List It,clsN l≤l.length
 | []=>Nat.le_refl _
 | i :: l=>by
   have:=clsN_le l
   simp only [clsN,List.length_cons]
   split<;>omega
theorem clsAll_app:∀ a b:List (List It),clsAll (a++b)=clsAll a+clsAll b
 | [],b=>by simp [clsAll]
 | i :: a,b=>by
   simp only [List.cons_append,clsAll,clsAll_app a b]
   omega
theorem clsAll_le:∀ (l:List (List It)),(∀ x∈l,x.length≤1000)→clsAll l≤1000*l.length
 | [],_=>Nat.le_refl _
 | i :: l,h=>by
   have h1:=clsAll_le l fun x hx=>h x (by simp [hx])
   have h2:=clsN_le i
   have h3:=h i (by simp)
   simp only [clsAll,List.length_cons]
   omega
theorem IC.mono {H H':KH} {a:OA} {n:Nat} {g:Nat→Int} (h:IC H a n g) (hl:Le H H'):IC H' a n g:=by
 rcases h with h | ⟨b,o,e,h1,h2,h3⟩
 ·exact .inl h
 ·exact .inr ⟨b,o,e,h1,hl b e h2,h3⟩
theorem KsOk.pos {S:List St} {ts:List ByteArray} (h:KsOk S ts):0<ts.length:=by
 obtain ⟨bs,q,_⟩:=h.fst
 rcases Nat.eq_zero_or_pos ts.length with z | z
 ·rw [List.eq_nil_of_length_eq_zero z] at q; cases q
 ·exact z
theorem GoodN.rng {S:List St} {ts:List ByteArray} {v:Int} {Z:List Nat} (h:GoodN S ts v Z) : -1≤v∧v<ts.length:=by
 rcases h with ⟨_,h⟩ | ⟨_,k,bs,h1,h2,_⟩
 ·omega
 ·have hk:k<ts.length:=by
   rcases Nat.lt_or_ge k ts.length with z | z
   ·exact z
   ·rw [List.getElem?_eq_none z] at h2; cases h2
  omega
end Go.Ew
namespace Go.Proofs.YtfhjkkbaghanhaaGreat
open Go.Ev Go.Ew
namespace Va
section
variable (ok : EnvOk (env Tryz.prog))
include ok
theorem c11 {pats:List (List It)} {a:OA} {c:Nat} {H:KH} {Q:PQ} (hP:PtR H pats a) (hp:pats.length≤50) (hl:∀ l∈pats,l.length≤1000)
 (hq:Q (.bool (decide (clsAll pats≤8))) H):Does (env Tryz.prog) 11 [.slice a pats.length c] H Q:=by
 obtain ⟨cs,hc,hcs⟩:=hP
 refine fn11 ok ?_
 unfold vc11 vc11_L2
 refine ⟨fun n3 a4 n5 n6 x7 x8 H9=>a4=a∧n5=pats.length∧H9=H∧∃ i:Nat,x8=i∧i≤pats.length∧n3=pats.length-i∧x7=(clsAll (pats.take i):Nat),⟨pats.length,rfl,rfl,rfl,0,rfl,by omega,rfl,rfl⟩,?_⟩
 rintro n3 a4 n5 n6 x7 x8 H9 ⟨rfl,rfl,rfl,i,rfl,hi,rfl,rfl⟩
 refine ⟨fun hlt=>?_,fun hge=>?_⟩
 ·have hlt:i<pats.length:=by have:=of_decide_eq_true hlt; omega
  have hpi:pats[i]? = some pats[i]:=by simp [hlt]
  have hli:=hl _ (List.getElem_mem hlt)
  have hb:=clsAll_le (pats.take i) fun x hx=>hl x (List.mem_of_mem_take hx)
  rw [List.length_take] at hb
  have e0:Int.toNat ((i:Nat):Int)=i:=by omega
  obtain ⟨ai,ci,q1,q2⟩:=hcs.get hpi
  obtain ⟨b1,o1,z1,r1⟩:=rowAddr hc (by omega)
  have g1:=r1 (i*1) 1 (by omega)
  have eg:(cs.drop (i*1)).take 1=[.slice ai pats[i].length ci]:=by rw [Nat.mul_one]; exact sub_eq_one q1
  rw [eg] at g1
  unfold vc11_L1
  refine ⟨fun m3 a4' n5 n6 x7 x8 x9 H10=>a4'=a4∧n5=pats.length∧H10=H9∧x8=(i:Nat)∧∃ k:Nat,x9=k∧k≤pats[i].length∧m3=pats[i].length-k∧x7=((clsAll (pats.take i)+clsN (pats[i].take k):Nat):Int),⟨pats[i].length,rfl,rfl,rfl,rfl,0,rfl,by omega,rfl,by simp [clsN]⟩,?_⟩
  rintro m3 a4' n5 n6 x7 x8 x9 H10 ⟨rfl,rfl,rfl,rfl,k,rfl,hk,rfl,rfl⟩
  rw [e0]
  refine ⟨⟨by omega,by omega⟩,b1,o1,z1,ai,_,ci,g1,fun hlt2=>?_,fun hge2=>?_⟩
  ·have hlt2:k<pats[i].length:=by have:=of_decide_eq_true hlt2; omega
   have e1:Int.toNat ((k:Nat):Int)=k:=by omega
   have hki:pats[i][k]? = some pats[i][k]:=by simp [hlt2]
   obtain ⟨b2,o2,ar,cr,hit⟩:=q2.at (op:=pats[i][k].1) (rg:=pats[i][k].2) hki
   have hcl:=clsN_le (pats[i].take k)
   rw [List.length_take] at hcl
   have hsucc:clsN (pats[i].take (k+1))=clsN (pats[i].take k)+if pats[i][k].1=1 then 1 else 0:=by
    rw [List.take_succ_eq_append_getElem hlt2,clsN_app]; simp [clsN]
   have wk:IntKind.wrap .i64 (((k:Nat):Int)+1)=((k+1:Nat):Int):=by rw [wrap64 (by omega) (by omega)]; omega
   rw [e1,wk]
   refine ⟨⟨by omega,by omega⟩,b1,o1,z1,ai,_,ci,g1,⟨by omega,by omega⟩,b2,o2,hit.eq,rfl,_,hit.c0,fun q=>?_,fun q=>?_⟩
   ·have q:=of_decide_eq_true q
    rw [if_pos q] at hsucc
    exact ⟨pats[i].length-(k+1),by omega,rfl,rfl,rfl,rfl,k+1,rfl,by omega,rfl,by rw [wrap64 (by omega) (by omega),hsucc]; omega⟩
   ·have q:=of_decide_eq_false q
    rw [if_neg q] at hsucc
    exact ⟨pats[i].length-(k+1),by omega,rfl,rfl,rfl,rfl,k+1,rfl,by omega,rfl,by rw [hsucc]; rfl⟩
  ·have hge2:k=pats[i].length:=by have:=of_decide_eq_false hge2; omega
   subst hge2
   refine ⟨pats.length-(i+1),by omega,rfl,rfl,rfl,i+1,by rw [wrap64 (by omega) (by omega)]; omega,by omega,rfl,?_⟩
   rw [List.take_length,List.take_succ_eq_append_getElem hlt,clsAll_app]
   simp [clsAll]
 ·have hge:i=pats.length:=by have:=of_decide_eq_false hge; omega
  subst hge
  rw [List.take_length]
  have e:decide (((clsAll pats:Nat):Int)≤8)=decide (clsAll pats≤8):=by
   by_cases h:clsAll pats≤8
   ·rw [decide_eq_true h,decide_eq_true (by omega)]
   ·rw [decide_eq_false h,decide_eq_false (by omega)]
  rw [e]
  exact hq
theorem c9p {pats:List (List It)} (hpar:∀ l∈pats,∃ s,parseR s=some l) (hp:pats.length≤50) {a:OA} {c:Nat} {H:KH} {Q:PQ} (hst:SsN H (nfaM pats) a)
 (hq:∀ ra rc ts g H',Le H H'→IC H' ra (ts.length*257) g→KsOk (nfaM pats) ts→RowsC (nfaM pats) ts g ts.length→ts.length≤300→Q (.slice ra ts.length rc) H')
 (hmany:∀ H',Le H H'→8<clsAll pats→Q (.slice none 0 0) H'):Does (env Tryz.prog) 22 [.slice a (nfaM pats).length c] H Q:=by
 obtain ⟨g1,_,_⟩:=good_of hpar
 obtain ⟨h1,h2⟩:=nfaM_small g1 hp
 exact c22 ok hst (nfaM_byte hpar) (by unfold nfaM; simp) h1 h2 hq fun ts H' l1 l2 l3=>hmany H' l1 (few_rows hpar l2 l3)
omit ok in
theorem few_len {pats:List (List It)} (hpar:∀ l∈pats,∃ s,parseR s=some l):∀ l∈pats,l.length≤1000:=fun l hl=>by
 have:=((good_of hpar).1 l hl).ln
 omega
end
end Va
end Go.Proofs.YtfhjkkbaghanhaaGreat
