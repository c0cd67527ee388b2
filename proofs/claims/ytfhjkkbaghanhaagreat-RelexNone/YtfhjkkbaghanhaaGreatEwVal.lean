import Derived.Test.YtfhjkkbaghanhaaGreatEwSl
import Derived.IntWalk
set_option linter.unusedVariables false
set_option linter.unusedSimpArgs false
namespace Go.Ew
open Go.Ev Go.Deep
theorem wrap64 {x:Int} (h1 : -9223372036854775808≤x) (h2:x≤9223372036854775807):IntKind.wrap .i64 x=x:=IntWalk.i64_in x ⟨h1,h2⟩
inductive V where
 | mk (k i:Int) (s:ByteArray) (l:List V)
mutual
def szV:V→Nat
 | .mk _ _ s l=>1+s.size/16+szL l
def szL:List V→Nat
 | []=>0
 | v :: l=>szV v+szL l
end
mutual
def dpV:V→Nat
 | .mk _ _ _ l=>dpL l
def dpL:List V→Nat
 | []=>0
 | v :: l=>max (dpV v+1) (dpL l)
end
mutual
theorem dp_sz:∀ v:V,dpV v<szV v
 | .mk k i s l=>by have:=dp_szL l; simp only [dpV,szV]; omega
theorem dp_szL:∀ l:List V,dpL l≤szL l
 | []=>by simp [dpL]
 | v :: l=>by have:=dp_sz v; have:=dp_szL l; simp only [dpL,szL]; omega
end
mutual
def RV (H:KH):V→List Value→Prop
 | .mk k i s l,cs=>∃ a n c,cs=[.int .i64 k,.int .i64 i,.string s,.slice a n c]∧n=l.length∧RS H l a∧SlOk H 4 a n c
def RS (H:KH):List V→OA→Prop
 | [],a=>kold H 4 a 0=some []
 | v :: l,a=>∃ b o,a=some ⟨b,o,none⟩∧(∃ cs,ld H ⟨b,o,none⟩ cs∧RV H v cs)∧RS H l (some ⟨b,o+4,none⟩)
end
mutual
theorem RV.mono {H H':KH} (h:Le H H'):∀ {v:V} {cs:List Value},RV H v cs→RV H' v cs
 | .mk k i s l,cs,⟨a,n,c,h1,h2,h3,h4⟩=>⟨a,n,c,h1,h2,RS.mono h h3,h4.mono h⟩
theorem RS.mono {H H':KH} (h:Le H H'):∀ {l:List V} {a:OA},RS H l a→RS H' l a
 | [],_,q=>h.kold q
 | v :: l,a,⟨b,o,h1,⟨cs,h2,h3⟩,h4⟩=>⟨b,o,h1,⟨cs,h.ld h2,RV.mono h h3⟩,RS.mono h h4⟩
end
theorem RS.get {H:KH}:∀ {l:List V} {a:OA} {j:Nat} {v:V},RS H l a→l[j]? = some v→∃ b o,a=some ⟨b,o,none⟩∧∃ cs,ld H ⟨b,o+j*4,none⟩ cs∧RV H v cs
 | [],a,j,v,_,hj=>by simp at hj
 | x :: l,a,0,v,⟨b,o,h1,⟨cs,h2,h3⟩,h4⟩,hj=>by
   simp at hj
   subst hj
   exact ⟨b,o,h1,cs,by simpa using h2,h3⟩
 | x :: l,a,j+1,v,⟨b,o,h1,_,h4⟩,hj=>by
   obtain ⟨b',o',h5,cs,h6,h7⟩:=RS.get (j:=j) h4 (by simpa using hj)
   cases h5
   refine ⟨b,o,h1,cs,?_,h7⟩
   have:o+4+j*4=o+(j+1)*4:=by omega
   rw [this] at h6
   exact h6
def cmpI (x y:Int):Int:=if x<y then -1 else if y<x then 1 else 0
def cmpS' (x y:ByteArray):Int:=Extern.BytealgCompare.cmp x y
mutual
def cmpV:V→V→Int
 | .mk k i s l,.mk k' i' s' l' =>
   if cmpI k k'≠0 then cmpI k k' else if cmpI i i'≠0 then cmpI i i' else if cmpS' s s'≠0 then cmpS' s s' else cmpL l l'
def cmpL:List V→List V→Int
 | [],[]=>0
 | [],_ :: _=>-1
 | _ :: _,[]=>1
 | a :: x,b :: y=>if cmpV a b≠0 then cmpV a b else cmpL x y
end
def cmpB:List UInt8→List UInt8→Int
 | [],[]=>0
 | [],_ :: _=>-1
 | _ :: _,[]=>1
 | a :: x,b :: y=>if a<b then -1 else if b<a then 1 else cmpB x y
theorem get_bang (xs:List UInt8) (i:Nat):(⟨xs.toArray⟩:ByteArray)[i]! = xs[i]?.getD 0:=by
 by_cases h:i<xs.length
 ·have h1:i<(⟨xs.toArray⟩:ByteArray).size:=h
  rw [getElem!_pos (⟨xs.toArray⟩:ByteArray) i h1]
  simp [h]
  rfl
 ·have h1:¬ i<(⟨xs.toArray⟩:ByteArray).size:=h
  rw [getElem!_neg (⟨xs.toArray⟩:ByteArray) i h1]
  simp [h]
  rfl
def byPlace (xs ys:List UInt8):Int:=match (List.range (min xs.length ys.length)).find? fun i=>xs[i]?.getD 0 != ys[i]?.getD 0 with
 | some i=>if xs[i]?.getD 0<ys[i]?.getD 0 then -1 else 1
 | none=>if xs.length<ys.length then -1 else if xs.length > ys.length then 1 else 0
theorem byPlace_eq:∀ xs ys:List UInt8,byPlace xs ys=cmpB xs ys
 | [],[]=>rfl
 | [],b :: y=>by simp [byPlace,cmpB]
 | a :: x,[]=>by simp [byPlace,cmpB]
 | a :: x,b :: y=>by
   have ih:=byPlace_eq x y
   unfold byPlace at ih ⊢
   have hm:min (a :: x).length (b :: y).length=min x.length y.length+1:=by simp only [List.length_cons]; omega
   rw [hm,List.range_succ_eq_map,List.find?_cons]
   simp only [List.getElem?_cons_zero,Option.getD_some,cmpB]
   by_cases hab:a=b
   ·subst hab
    have hlt:¬ a<a:=UInt8.lt_irrefl a
    rw [if_neg hlt,if_neg hlt,← ih]
    simp only [bne_self_eq_false,Bool.false_eq_true,if_false,List.find?_map]
    have hf:((fun i=>(a :: x)[i]?.getD 0 != (a :: y)[i]?.getD 0) ∘ Nat.succ)=fun i=>x[i]?.getD 0 != y[i]?.getD 0:=by
     funext i; simp
    rw [hf]
    cases (List.range (min x.length y.length)).find? fun i=>x[i]?.getD 0 != y[i]?.getD 0 with
    | none=>simp
    | some i=>simp
   ·have hne:(a != b)=true:=by simpa using hab
    rw [hne]
    simp only [List.getElem?_cons_zero,Option.getD_some]
    by_cases h:a<b
    ·rw [if_pos h,if_pos h]
    ·rw [if_neg h,if_neg h]
     have:b<a:=by
      rcases UInt8.lt_or_lt_of_ne hab with q | q
      ·exact absurd q h
      ·exact q
     rw [if_pos this]
theorem cmpS_eq (x y:ByteArray):cmpS' x y=cmpB x.toList y.toList:=by
 rw [ByteArray.toList_eq,ByteArray.toList_eq]
 obtain ⟨⟨xs⟩⟩:=x
 obtain ⟨⟨ys⟩⟩:=y
 rw [← byPlace_eq]
 unfold cmpS' Extern.BytealgCompare.cmp byPlace
 have h1:(⟨⟨xs⟩⟩:ByteArray).size=xs.length:=rfl
 have h2:(⟨⟨ys⟩⟩:ByteArray).size=ys.length:=rfl
 have g:∀ (zs:List UInt8) (i:Nat),(⟨⟨zs⟩⟩:ByteArray)[i]! = zs[i]?.getD 0:=get_bang
 simp only [h1,h2,g]
 generalize List.find? _ _=r
 cases r<;>rfl
theorem cmpI_neg (x y:Int):cmpI y x = -cmpI x y:=by unfold cmpI; split<;>split<;>first | omega | (split<;>omega)
theorem cmpI_rng (x y:Int):cmpI x y = -1∨cmpI x y=0∨cmpI x y=1:=by unfold cmpI; split<;>first | omega | (split<;>omega)
theorem cmpI_trans (x y z:Int):(cmpI x y≤0→cmpI y z≤0→cmpI x z≤0)∧(cmpI x y<0→cmpI y z≤0→cmpI x z<0)∧(cmpI x y≤0→cmpI y z<0→cmpI x z<0):=by
 unfold cmpI
 refine ⟨?_,?_,?_⟩<;>(repeat' split)<;>omega
structure Row {α:Type} (c:α→α→Int) (x y z:α):Prop where
 neg:c y x = -c x y
 rng:c x y = -1∨c x y=0∨c x y=1
 t1:c x y≤0→c y z≤0→c x z≤0
 t2:c x y<0→c y z≤0→c x z<0
 t3:c x y≤0→c y z<0→c x z<0
theorem cmpB_neg:∀ x y:List UInt8,cmpB y x = -cmpB x y
 | [],[]=>rfl
 | [],_ :: _=>rfl
 | _ :: _,[]=>rfl
 | a :: x,b :: y=>by
   simp only [cmpB]
   by_cases h:a<b
   ·have:¬ b<a:=fun q=>by have h1:=UInt8.lt_iff_toNat_lt.1 h; have h2:=UInt8.lt_iff_toNat_lt.1 q; omega
    simp [h,this]
   ·by_cases h2:b<a
    ·simp [h,h2]
    ·simp [h,h2,cmpB_neg x y]
theorem cmpB_rng:∀ x y:List UInt8,cmpB x y = -1∨cmpB x y=0∨cmpB x y=1
 | [],[]=>.inr (.inl rfl)
 | [],_ :: _=>.inl rfl
 | _ :: _,[]=>.inr (.inr rfl)
 | a :: x,b :: y=>by
   simp only [cmpB]
   split
   ·exact .inl rfl
   ·split
    ·exact .inr (.inr rfl)
    ·exact cmpB_rng x y
theorem cmpB_trans:∀ x y z:List UInt8,(cmpB x y≤0→cmpB y z≤0→cmpB x z≤0)∧(cmpB x y<0→cmpB y z≤0→cmpB x z<0)∧(cmpB x y≤0→cmpB y z<0→cmpB x z<0)
 | [],[],[]=>by simp [cmpB]
 | [],[],_ :: _=>by simp [cmpB]
 | [],_ :: _,[]=>by simp [cmpB]
 | [],_ :: _,_ :: _=>by simp [cmpB]
 | _ :: _,[],[]=>by simp [cmpB]
 | _ :: _,[],_ :: _=>by simp [cmpB]
 | _ :: _,_ :: _,[]=>by simp [cmpB]
 | a :: x,b :: y,c :: z=>by
   have ih:=cmpB_trans x y z
   simp only [cmpB,UInt8.lt_iff_toNat_lt]
   refine ⟨?_,?_,?_⟩<;>(repeat' split)<;>first | omega | (intro h1 h2; first | exact ih.1 h1 h2 | exact ih.2.1 h1 h2 | exact ih.2.2 h1 h2)
theorem cmpS_neg (x y:ByteArray):cmpS' y x = -cmpS' x y:=by rw [cmpS_eq,cmpS_eq]; exact cmpB_neg _ _
theorem cmpS_rng (x y:ByteArray):cmpS' x y = -1∨cmpS' x y=0∨cmpS' x y=1:=by rw [cmpS_eq]; exact cmpB_rng _ _
theorem cmpS_trans (x y z:ByteArray):(cmpS' x y≤0→cmpS' y z≤0→cmpS' x z≤0)∧(cmpS' x y<0→cmpS' y z≤0→cmpS' x z<0)∧(cmpS' x y≤0→cmpS' y z<0→cmpS' x z<0):=by
 simp only [cmpS_eq]; exact cmpB_trans _ _ _
mutual
theorem cmpV_neg:∀ x y:V,cmpV y x = -cmpV x y
 | .mk k i s l,.mk k' i' s' l'=>by
   simp only [cmpV,cmpI_neg k k',cmpI_neg i i',cmpS_neg s s',cmpL_neg l l']
   repeat' split
   all_goals omega
theorem cmpL_neg:∀ x y:List V,cmpL y x = -cmpL x y
 | [],[]=>rfl
 | [],_ :: _=>rfl
 | _ :: _,[]=>rfl
 | a :: x,b :: y=>by
   simp only [cmpL,cmpV_neg a b,cmpL_neg x y]
   repeat' split
   all_goals omega
end
mutual
theorem cmpV_rng:∀ x y:V,cmpV x y = -1∨cmpV x y=0∨cmpV x y=1
 | .mk k i s l,.mk k' i' s' l'=>by
   have h1:=cmpI_rng k k'
   have h2:=cmpI_rng i i'
   have h3:=cmpS_rng s s'
   have h4:=cmpL_rng l l'
   simp only [cmpV]
   repeat' split
   all_goals omega
theorem cmpL_rng:∀ x y:List V,cmpL x y = -1∨cmpL x y=0∨cmpL x y=1
 | [],[]=>.inr (.inl rfl)
 | [],_ :: _=>.inl rfl
 | _ :: _,[]=>.inr (.inr rfl)
 | a :: x,b :: y=>by
   have h1:=cmpV_rng a b
   have h2:=cmpL_rng x y
   simp only [cmpL]
   split
   all_goals omega
end
def Tr (a b e:Int):Prop:=(a≤0→b≤0→e≤0)∧(a<0→b≤0→e<0)∧(a≤0→b<0→e<0)
theorem lex_tr {a b e A B E:Int} (h:Tr a b e) (h':Tr (-b) (-a) (-e)) (k:Tr A B E):Tr (if a≠0 then a else A) (if b≠0 then b else B) (if e≠0 then e else E):=by
 unfold Tr at *
 split<;>split<;>split<;>omega
mutual
theorem cmpV_trans:∀ x y z:V,Tr (cmpV x y) (cmpV y z) (cmpV x z)
 | .mk k i s l,.mk k' i' s' l',.mk k'' i'' s'' l''=>by
   have h1:Tr _ _ _:=cmpI_trans k k' k''
   have h2:Tr _ _ _:=cmpI_trans i i' i''
   have h3:Tr _ _ _:=cmpS_trans s s' s''
   have h4:=cmpL_trans l l' l''
   have h1':Tr _ _ _:=cmpI_trans k'' k' k
   have h2':Tr _ _ _:=cmpI_trans i'' i' i
   have h3':Tr _ _ _:=cmpS_trans s'' s' s
   rw [cmpI_neg k' k'',cmpI_neg k k',cmpI_neg k k''] at h1'
   rw [cmpI_neg i' i'',cmpI_neg i i',cmpI_neg i i''] at h2'
   rw [cmpS_neg s' s'',cmpS_neg s s',cmpS_neg s s''] at h3'
   simp only [cmpV]
   exact lex_tr h1 h1' (lex_tr h2 h2' (lex_tr h3 h3' h4))
theorem cmpL_trans:∀ x y z:List V,Tr (cmpL x y) (cmpL y z) (cmpL x z)
 | [],[],[]=>by simp [cmpL,Tr]
 | [],[],_ :: _=>by simp [cmpL,Tr]
 | [],_ :: _,[]=>by simp [cmpL,Tr]
 | [],_ :: _,_ :: _=>by simp [cmpL,Tr]
 | _ :: _,[],[]=>by simp [cmpL,Tr]
 | _ :: _,[],_ :: _=>by simp [cmpL,Tr]
 | _ :: _,_ :: _,[]=>by simp [cmpL,Tr]
 | a :: x,b :: y,c :: z=>by
   have h1:=cmpV_trans a b c
   have h2:=cmpL_trans x y z
   have h1':=cmpV_trans c b a
   rw [cmpV_neg b c,cmpV_neg a b,cmpV_neg a c] at h1'
   simp only [cmpL]
   exact lex_tr h1 h1' h2
end
end Go.Ew
