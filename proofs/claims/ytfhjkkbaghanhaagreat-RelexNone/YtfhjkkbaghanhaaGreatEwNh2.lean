import Derived.Test.YtfhjkkbaghanhaaGreatEwNh1
import Derived.Test.YtfhjkkbaghanhaaGreatEwNg2
set_option linter.unusedVariables false
set_option linter.unusedSimpArgs false
namespace Go.Ew
open Go.Ev Go.Deep
def bC (f:List Bool):List Value:=f.map .bool
theorem bC_len (f:List Bool):(bC f).length=f.length:=by simp [bC]
theorem bC_app (f g:List Bool):bC (f++g)=bC f++bC g:=by simp [bC]
theorem bC_at {f:List Bool} {k:Nat} {x:Bool} (h:f[k]? = some x):((bC f).drop (k*1)).take 1=[.bool x]:=dropTake rfl fun j hj=>by
 match j,hj with
 | 0,_=>simp [bC,h]
theorem bC_rep (n:Nat):bC (List.replicate n false)=lrep [.bool false] n:=by
 induction n with
 | zero=>rfl
 | succ n ih=>rw [List.replicate_succ]; show .bool false :: bC (List.replicate n false) = .bool false :: lrep [.bool false] n; rw [ih]
def BR (H:KH) (f:List Bool) (a:OA):Prop:=kold H 1 a f.length=some (bC f)
theorem BR.mono {H H':KH} (hl:Le H H') {f:List Bool} {a:OA} (h:BR H f a):BR H' f a:=hl.kold h
theorem BR.at_ {H:KH} {f:List Bool} {a:OA} (h:BR H f a) {i:Nat} (hi:i<f.length):∃ b o,a=some ⟨b,o,none⟩∧ld H ⟨b,o+i*1,none⟩ [.bool f[i]]:=by
 obtain ⟨b,o,e,r⟩:=rowAddr h (by omega)
 have:=r (i*1) 1 (by omega)
 rw [bC_at (show f[i]? = some f[i] by simp [hi])] at this
 exact ⟨b,o,e,this⟩
structure BW (H0 H:KH) (p:Nat) (f:List Bool):Prop where
 le:Le H0 H
 nw:H0 p=none
 ex:∃ e,H p=some e∧wrB e=true∧rd e.cells 0 f.length=some (bC f)
theorem BW.new {H:KH} {p n:Nat} (h:H p=none):BW H (H.new p (mkEnt (lrep [.bool false] n) 0)) p (List.replicate n false):=by
 refine ⟨Le.new h,h,_,if_pos rfl,rfl,?_⟩
 rw [bC_rep,List.length_replicate]
 have hn:n=(lrep [Value.bool false] n).length:=by rw [lrep_length]; simp
 exact rd_some hn.symm fun j v hv=>by rw [Nat.zero_add]; simp only [mkEnt,tget_wr_nil]; exact hv
theorem BW.br {H0 H:KH} {p:Nat} {f:List Bool} (h:BW H0 H p f):BR H f (some ⟨p,0,none⟩):=by
 obtain ⟨e,h1,h2,h3⟩:=h.ex
 exact kold_some.2 ⟨e,h1,by rw [Nat.mul_one]; exact h3⟩
theorem BW.may {H0 H:KH} {p:Nat} {f:List Bool} (h:BW H0 H p f):KH.may H p:=by
 obtain ⟨e,h1,h2,h3⟩:=h.ex
 exact ⟨e,h1,h2⟩
theorem BW.ld {H0 H:KH} {p:Nat} {f:List Bool} (h:BW H0 H p f) {i:Nat} (hi:i<f.length):ld H ⟨p,0+i*1,none⟩ [.bool f[i]]:=by
 obtain ⟨b,o,e,r⟩:=h.br.at_ hi
 cases e
 exact r
theorem BW.put {H0 H:KH} {p:Nat} {f:List Bool} (h:BW H0 H p f) {i:Nat} (hi:i<f.length) (x:Bool):BW H0 (H.put ⟨p,0+i*1,none⟩ [.bool x]) p (f.set i x):=by
 obtain ⟨e,h1,h2,h3⟩:=h.ex
 refine ⟨fun k e' q=>put_ne (fun z=>by subst z; rw [h.nw] at q; cases q) (h.le k e' q),h.nw,⟨wr e.cells (0+i*1) [.bool x],e.len,e.unk,none⟩,by simp only [KH.put,if_true,h1,Option.map_some],wrB_keep h2,?_⟩
 have hsp:bC f=bC (f.take i)++[.bool f[i]]++bC (f.drop (i+1)):=by
  have:f=f.take i++[f[i]]++f.drop (i+1):=by
   rw [List.append_assoc]
   have h2:[f[i]]++f.drop (i+1)=f.drop i:=by rw [List.drop_eq_getElem_cons hi]; rfl
   rw [h2,List.take_append_drop]
  have h3:=congrArg bC this
  rw [bC_app,bC_app] at h3
  exact h3
 have hst:bC (f.set i x)=bC (f.take i)++[.bool x]++bC (f.drop (i+1)):=by
  rw [List.set_eq_take_append_cons_drop,if_pos hi]
  simp [bC]
 rw [hst,List.length_set]
 exact rdWr (ys:=[.bool f[i]]) (by rw [h3,hsp]) (by rw [bC_len,List.length_take]; omega) rfl
def orB:List Bool→List Bool→List Bool
 | x :: f,y :: g=>(x||y) :: orB f g
 | _,_=>[]
theorem orB_len:∀ {f g:List Bool},f.length=g.length→(orB f g).length=f.length
 | [],g,h=>rfl
 | x :: f,[],h=>by simp at h
 | x :: f,y :: g,h=>by simp [orB,orB_len (show f.length=g.length by simpa using h)]
theorem orB_at:∀ {f g:List Bool} {i:Nat},f.length=g.length→((orB f g)[i]? = some true↔f[i]? = some true∨g[i]? = some true)
 | [],[],i,h=>by simp [orB]
 | [],y :: g,i,h=>by simp at h
 | x :: f,[],i,h=>by simp at h
 | x :: f,y :: g,0,h=>by simp [orB]
 | x :: f,y :: g,i+1,h=>by
   have:=orB_at (f:=f) (g:=g) (i:=i) (by simpa using h)
   simpa [orB] using this
end Go.Ew
namespace Go.Proofs.YtfhjkkbaghanhaaGreat
open Go.Ev Go.Ew
namespace Va
section
variable (ok : EnvOk (env Tryz.prog))
include ok
end
end Va
end Go.Proofs.YtfhjkkbaghanhaaGreat
set_option linter.unusedVariables false
set_option linter.unusedSimpArgs false
namespace Go.Ew
open Go.Ev Go.Deep
theorem ItC.split {X:KH}:∀ {l m:List It} {cs:List Value},ItC X (l++m) cs→ItC X l (cs.take (l.length*2))∧ItC X m (cs.drop (l.length*2))
 | [],m,cs,h=>⟨by simp [ItC],by simpa using h⟩
 | i :: l,m,cs,h=>by
   obtain ⟨a,c,ds,h1,h2,h3⟩:=h
   obtain ⟨q1,q2⟩:=ItC.split (l:=l) (m:=m) h3
   have e:(i :: l).length*2=l.length*2+2:=by simp; omega
   rw [e,h1]
   exact ⟨⟨a,c,_,by simp,h2,q1⟩,by simpa using q2⟩
theorem ItR.lo {H:KH} {l m:List It} {a:OA} {c:Nat} (hi:ItR H (l++m) a) (ho:SlOk H 2 a (l++m).length c) :
 ∃ a' c',kslice H 2 a (l++m).length c none (some (.int .i64 ((l.length:Nat):Int)))=some (.slice a' l.length c')∧ItR H l a'∧SlOk H 2 a' l.length c':=by
 obtain ⟨cs,h1,h2⟩:=hi
 obtain ⟨a',c',q1,q2⟩:=cut_lo (k:=l.length) ho h1 (by simp)
 exact ⟨a',c',q1,⟨_,q2,h2.split.1⟩,kslice_ok (by omega) q1⟩
theorem ItR.hi {H:KH} {l m:List It} {a:OA} {c:Nat} (hi:ItR H (l++m) a) (ho:SlOk H 2 a (l++m).length c) :
 ∃ a' c',kslice H 2 a (l++m).length c (some (.int .i64 ((l.length:Nat):Int))) none=some (.slice a' m.length c')∧ItR H m a'∧SlOk H 2 a' m.length c':=by
 obtain ⟨cs,h1,h2⟩:=hi
 obtain ⟨a',c',q1,q2⟩:=cut_hi (k:=l.length) ho h1 (by simp)
 have e:(l++m).length-l.length=m.length:=by simp
 rw [e] at q1 q2
 exact ⟨a',c',q1,⟨_,q2,h2.split.2⟩,kslice_ok (by omega) q1⟩
structure EndsR (s:ByteArray) (t:Ptn) (f r:List Bool):Prop where
 len:r.length=s.size+1
 is:∀ j,j≤s.size→(r[j]? = some true↔∃ i,f[i]? = some true∧Mt s t i j)
theorem EndsR.join {s:ByteArray} {a b:Ptn} {f r1 r2:List Bool} (h1:EndsR s a f r1) (h2:EndsR s b r1 r2):EndsR s (.join a b) f r2:=⟨h2.len,fun j hj=>by
 rw [h2.is j hj]
 constructor
 ·rintro ⟨k,q1,q2⟩
  have hk:k≤s.size:=Nat.le_trans (Mt.le b k j q2) hj
  obtain ⟨i,z1,z2⟩:=(h1.is k hk).1 q1
  exact ⟨i,z1,k,z2,q2⟩
 ·rintro ⟨i,z1,k,z2,q2⟩
  have hk:k≤s.size:=Nat.le_trans (Mt.le b k j q2) hj
  exact ⟨k,(h1.is k hk).2 ⟨i,z1,z2⟩,q2⟩⟩
theorem EndsR.alt {s:ByteArray} {a b:Ptn} {f r1 r2:List Bool} (h1:EndsR s a f r1) (h2:EndsR s b f r2):EndsR s (.alt a b) f (orB r1 r2):=by
 have hl:r1.length=r2.length:=by rw [h1.len,h2.len]
 refine ⟨by rw [orB_len hl,h1.len],fun j hj=>?_⟩
 rw [orB_at hl,h1.is j hj,h2.is j hj]
 constructor
 ·rintro (⟨i,z1,z2⟩ | ⟨i,z1,z2⟩)
  ·exact ⟨i,z1,.inl z2⟩
  ·exact ⟨i,z1,.inr z2⟩
 ·rintro ⟨i,z1,z2 | z2⟩
  ·exact .inl ⟨i,z1,z2⟩
  ·exact .inr ⟨i,z1,z2⟩
theorem EndsR.may {s:ByteArray} {a:Ptn} {f r:List Bool} (hf:f.length=s.size+1) (h:EndsR s a f r):EndsR s (.may a) f (orB f r):=by
 have hl:f.length=r.length:=by rw [h.len,hf]
 refine ⟨by rw [orB_len hl,hf],fun j hj=>?_⟩
 rw [orB_at hl,h.is j hj]
 constructor
 ·rintro (z | ⟨i,z1,z2⟩)
  ·exact ⟨j,z,.inl rfl⟩
  ·exact ⟨i,z1,.inr z2⟩
 ·rintro ⟨i,z1,z2 | z2⟩
  ·subst z2; exact .inl z1
  ·exact .inr ⟨i,z1,z2⟩
structure PowR (s:ByteArray) (t:Ptn) (f:List Bool) (k:Nat) (r:List Bool):Prop where
 len:r.length=s.size+1
 is:∀ j,j≤s.size→(r[j]? = some true↔∃ i,f[i]? = some true∧∃ n,1≤n∧n≤k∧MoN (Mt s t) n i j)
theorem PowR.one {s:ByteArray} {t:Ptn} {f r:List Bool} (h:EndsR s t f r):PowR s t f 1 r:=⟨h.len,fun j hj=>by
 rw [h.is j hj]
 constructor
 ·rintro ⟨i,z1,z2⟩; exact ⟨i,z1,1,by omega,by omega,.one _ _ z2⟩
 ·rintro ⟨i,z1,n,q1,q2,q3⟩
  cases q3 with
  | one _ _ h=>exact ⟨i,z1,h⟩
  | more n i k j h r =>
    exfalso
    cases h<;>omega⟩
theorem PowR.more {s:ByteArray} {t:Ptn} {f r r':List Bool} {k:Nat} (hk:1≤k) (h:PowR s t f k r) (g:EndsR s t r r'):PowR s t f (k+1) (orB r r'):=by
 have hl:r.length=r'.length:=by rw [h.len,g.len]
 refine ⟨by rw [orB_len hl,h.len],fun j hj=>?_⟩
 rw [orB_at hl,g.is j hj]
 constructor
 ·rintro (z | ⟨m,z1,z2⟩)
  ·obtain ⟨i,q1,n,q2,q3,q4⟩:=(h.is j hj).1 z
   exact ⟨i,q1,n,q2,by omega,q4⟩
  ·have hm:m≤s.size:=Nat.le_trans (Mt.le t m j z2) hj
   obtain ⟨i,q1,n,q2,q3,q4⟩:=(h.is m hm).1 z1
   exact ⟨i,q1,n+1,by omega,by omega,.more _ _ _ _ q4 z2⟩
 ·rintro ⟨i,q1,n,q2,q3,q4⟩
  rcases Nat.lt_or_ge k n with z | z
  ·cases q4 with
   | one _ _ h=>omega
   | more n i m j h1 r1 =>
     have hm:m≤s.size:=Nat.le_trans (Mt.le t m j r1) hj
     exact .inr ⟨m,(h.is m hm).2 ⟨i,q1,n,by omega,by omega,h1⟩,r1⟩
  ·exact .inl ((h.is j hj).2 ⟨i,q1,n,q2,z,q4⟩)
theorem PowR.plus {s:ByteArray} {t:Ptn} {f r:List Bool} (h:PowR s t f (s.size+2) r):EndsR s (.plus t) f r:=⟨h.len,fun j hj=>by
 rw [h.is j hj]
 constructor
 ·rintro ⟨i,z1,z2⟩; exact ⟨i,z1,(plus_few (Mt.le t) hj).2 z2⟩
 ·rintro ⟨i,z1,z2⟩; exact ⟨i,z1,(plus_few (Mt.le t) hj).1 z2⟩⟩
theorem PowR.star {s:ByteArray} {t:Ptn} {f r:List Bool} (hf:f.length=s.size+1) (h:PowR s t f (s.size+2) r):EndsR s (.star t) f (orB f r):=by
 have hl:f.length=r.length:=by rw [h.len,hf]
 refine ⟨by rw [orB_len hl,hf],fun j hj=>?_⟩
 rw [orB_at hl,h.is j hj]
 constructor
 ·rintro (z | ⟨i,z1,z2⟩)
  ·exact ⟨j,z,(star_few (Mt.le t) hj).2 (.inl rfl)⟩
  ·exact ⟨i,z1,(star_few (Mt.le t) hj).2 (.inr z2)⟩
 ·rintro ⟨i,z1,z2⟩
  rcases (star_few (Mt.le t) hj).1 z2 with z | z
  ·subst z; exact .inl z1
  ·exact .inr ⟨i,z1,z⟩
def ClP (s:ByteArray) (f:List Bool) (L:List Rg) (i k j:Nat):Prop :=
 (∃ i',i'<i∧f[i']? = some true∧(∃ r∈L,r.1≤byteAt s i'∧byteAt s i'≤r.2)∧j=i'+1)∨(f[i]? = some true∧j=i+1∧∃ r∈L.take k,r.1≤byteAt s i∧byteAt s i≤r.2)
structure ClR (s:ByteArray) (f:List Bool) (L:List Rg) (i k:Nat) (r:List Bool):Prop where
 len:r.length=s.size+1
 is:∀ j,r[j]? = some true↔ClP s f L i k j
theorem ClR.zero {s:ByteArray} {f:List Bool} {L:List Rg}:ClR s f L 0 0 (List.replicate (s.size+1) false):=⟨by simp,fun j=>by
 constructor
 ·intro h
  exfalso
  rw [List.getElem?_replicate] at h
  split at h<;>simp at h
 ·rintro (⟨i',h,_⟩ | ⟨_,_,r,h,_⟩)
  ·omega
  ·simp at h⟩
theorem ClR.skip {s:ByteArray} {f:List Bool} {L:List Rg} {i k:Nat} {r:List Bool} (h:ClR s f L i k r) (hf:f[i]?≠some true∨k=L.length):ClR s f L (i+1) 0 r:=⟨h.len,fun j=>by
 rw [h.is j]
 unfold ClP
 constructor
 ·rintro (⟨i',z1,z2⟩ | ⟨z1,z2,z3⟩)
  ·exact .inl ⟨i',by omega,z2⟩
  ·rcases hf with u | u
   ·exact absurd z1 u
   ·subst u
    rw [List.take_length] at z3
    exact .inl ⟨i,by omega,z1,z3,z2⟩
 ·rintro (⟨i',z1,z2,z3,z4⟩ | ⟨_,_,r,h,_⟩)
  ·rcases Nat.lt_or_ge i' i with u | u
   ·exact .inl ⟨i',u,z2,z3,z4⟩
   ·have:i'=i:=by omega
    subst this
    rcases hf with u | u
    ·exact absurd z2 u
    ·subst u
     exact .inr ⟨z2,z4,by rw [List.take_length]; exact z3⟩
  ·simp at h⟩
theorem ClR.out {s:ByteArray} {f:List Bool} {L:List Rg} {i k:Nat} {r:List Bool} (h:ClR s f L i k r) (hk:k<L.length) (hno:¬ (L[k].1≤byteAt s i∧byteAt s i≤L[k].2)):ClR s f L i (k+1) r:=⟨h.len,fun j=>by
 rw [h.is j]
 unfold ClP
 have:(∃ r∈L.take (k+1),r.1≤byteAt s i∧byteAt s i≤r.2)↔∃ r∈L.take k,r.1≤byteAt s i∧byteAt s i≤r.2:=by
  rw [List.take_succ_eq_append_getElem hk]
  constructor
  ·rintro ⟨r,z1,z2⟩
   rcases List.mem_append.1 z1 with u | u
   ·exact ⟨r,u,z2⟩
   ·have:r=L[k]:=by simpa using u
    rw [this] at z2
    exact absurd z2 hno
  ·rintro ⟨r,z1,z2⟩
   exact ⟨r,List.mem_append.2 (.inl z1),z2⟩
 rw [this]⟩
theorem ClR.hit {s:ByteArray} {f:List Bool} {L:List Rg} {i k:Nat} {r:List Bool} (h:ClR s f L i k r) (hi:i<s.size) (hk:k<L.length) (hf:f[i]? = some true) (hy:L[k].1≤byteAt s i∧byteAt s i≤L[k].2):ClR s f L i (k+1) (r.set (i+1) true):=⟨by rw [List.length_set]; exact h.len,fun j=>by
 have hm:L[k]∈L.take (k+1):=by
  rw [List.take_succ_eq_append_getElem hk]; exact List.mem_append.2 (.inr (List.mem_singleton.2 rfl))
 by_cases hj:j=i+1
 ·subst hj
  rw [List.getElem?_set_self (by rw [h.len]; omega)]
  exact ⟨fun _=>.inr ⟨hf,rfl,_,hm,hy⟩,fun _=>rfl⟩
 ·rw [List.getElem?_set_ne (fun z=>hj z.symm),h.is j]
  unfold ClP
  constructor
  ·rintro (z | ⟨_,z2,_⟩)
   ·exact .inl z
   ·exact absurd z2 hj
  ·rintro (z | ⟨_,z2,_⟩)
   ·exact .inl z
   ·exact absurd z2 hj⟩
end Go.Ew
namespace Go.Proofs.YtfhjkkbaghanhaaGreat
open Go.Ev Go.Ew
namespace Va
section
variable (ok : EnvOk (env Tryz.prog))
include ok
end
end Va
end Go.Proofs.YtfhjkkbaghanhaaGreat
set_option linter.unusedVariables false
set_option linter.unusedSimpArgs false
namespace Go.Ew
open Go.Ev Go.Deep
end Go.Ew
namespace Go.Proofs.YtfhjkkbaghanhaaGreat
open Go.Ev Go.Ew
namespace Va
section
variable (ok : EnvOk (env Tryz.prog))
include ok
end
end Va
end Go.Proofs.YtfhjkkbaghanhaaGreat
set_option linter.unusedVariables false
set_option linter.unusedSimpArgs false
namespace Go.Ew
open Go.Ev Go.Deep
theorem SsN.up {X Y:KH} (hl:Le X Y) {S:List St} {a:OA} (h:SsN X S a):SsN Y S a:=by
 obtain ⟨cs,h1,h2⟩:=h
 exact ⟨cs,hl.kold h1,h2.mono hl⟩
end Go.Ew
namespace Go.Proofs.YtfhjkkbaghanhaaGreat
open Go.Ev Go.Ew
namespace Va
section
variable (ok : EnvOk (env Tryz.prog))
include ok
end
end Va
end Go.Proofs.YtfhjkkbaghanhaaGreat
