import Derived.Test.YtfhjkkbaghanhaaEwNh1
import Derived.Test.YtfhjkkbaghanhaaEwNg2
set_option linter.unusedVariables false
set_option linter.unusedSimpArgs false
namespace Go.Ew
open Go.Ev Go.Deep
def bC (f:List Bool):List Value:=f.map .bool
theorem bC_len (f:List Bool):(bC f).length=f.length:=by simp [bC]
theorem bC_app (f g:List Bool):bC (f++g)=bC f++bC g:=by simp [bC]
theorem bC_at {f:List Bool} {k:Nat} {x:Bool} (h:f[k]? = some x):((bC f).drop (k*1)).take 1=[.bool x]:=dropTake rfl fun j hj=>by
 match j,hj with
 | 0,_=>simp [bC,h]
theorem bC_rep (n:Nat):bC (List.replicate n false)=lrep [.bool false] n:=by
 induction n with
 | zero=>rfl
 | succ n ih=>rw [List.replicate_succ]; show .bool false :: bC (List.replicate n false) = .bool false :: lrep [.bool false] n; rw [ih]
def BR (H:KH) (f:List Bool) (a:OA):Prop:=kold H 1 a f.length=some (bC f)
theorem BR.mono {H H':KH} (hl:Le H H') {f:List Bool} {a:OA} (h:BR H f a):BR H' f a:=hl.kold h
theorem BR.at_ {H:KH} {f:List Bool} {a:OA} (h:BR H f a) {i:Nat} (hi:i<f.length):∃ b o,a=some ⟨b,o,none⟩∧ld H ⟨b,o+i*1,none⟩ [.bool f[i]]:=by
 obtain ⟨b,o,e,r⟩:=rowAddr h (by omega)
 have:=r (i*1) 1 (by omega)
 rw [bC_at (show f[i]? = some f[i] by simp [hi])] at this
 exact ⟨b,o,e,this⟩
structure BW (H0 H:KH) (p:Nat) (f:List Bool):Prop where
 le:Le H0 H
 nw:H0 p=none
 ex:∃ e,H p=some e∧wrB e=true∧rd e.cells 0 f.length=some (bC f)
theorem BW.new {H:KH} {p n:Nat} (h:H p=none):BW H (H.new p (mkEnt (lrep [.bool false] n) 0)) p (List.replicate n false):=by
 refine ⟨Le.new h,h,_,if_pos rfl,rfl,?_⟩
 rw [bC_rep,List.length_replicate]
 have hn:n=(lrep [Value.bool false] n).length:=by rw [lrep_length]; simp
 exact rd_some hn.symm fun j v hv=>by rw [Nat.zero_add]; simp only [mkEnt,tget_wr_nil]; exact hv
theorem BW.br {H0 H:KH} {p:Nat} {f:List Bool} (h:BW H0 H p f):BR H f (some ⟨p,0,none⟩):=by
 obtain ⟨e,h1,h2,h3⟩:=h.ex
 exact kold_some.2 ⟨e,h1,by rw [Nat.mul_one]; exact h3⟩
theorem BW.may {H0 H:KH} {p:Nat} {f:List Bool} (h:BW H0 H p f):KH.may H p:=by
 obtain ⟨e,h1,h2,h3⟩:=h.ex
 exact ⟨e,h1,h2⟩
theorem BW.ld {H0 H:KH} {p:Nat} {f:List Bool} (h:BW H0 H p f) {i:Nat} (hi:i<f.length):ld H ⟨p,0+i*1,none⟩ [.bool f[i]]:=by
 obtain ⟨b,o,e,r⟩:=h.br.at_ hi
 cases e
 exact r
theorem BW.put {H0 H:KH} {p:Nat} {f:List Bool} (h:BW H0 H p f) {i:Nat} (hi:i<f.length) (x:Bool):BW H0 (H.put ⟨p,0+i*1,none⟩ [.bool x]) p (f.set i x):=by
 obtain ⟨e,h1,h2,h3⟩:=h.ex
 refine ⟨fun k e' q=>put_ne (fun z=>by subst z; rw [h.nw] at q; cases q) (h.le k e' q),h.nw,⟨wr e.cells (0+i*1) [.bool x],e.len,e.unk,none⟩,by simp only [KH.put,if_true,h1,Option.map_some],wrB_keep h2,?_⟩
 have hsp:bC f=bC (f.take i)++[.bool f[i]]++bC (f.drop (i+1)):=by
  have:f=f.take i++[f[i]]++f.drop (i+1):=by
   rw [List.append_assoc]
   have h2:[f[i]]++f.drop (i+1)=f.drop i:=by rw [List.drop_eq_getElem_cons hi]; rfl
   rw [h2,List.take_append_drop]
  have h3:=congrArg bC this
  rw [bC_app,bC_app] at h3
  exact h3
 have hst:bC (f.set i x)=bC (f.take i)++[.bool x]++bC (f.drop (i+1)):=by
  rw [List.set_eq_take_append_cons_drop,if_pos hi]
  simp [bC]
 rw [hst,List.length_set]
 exact rdWr (ys:=[.bool f[i]]) (by rw [h3,hsp]) (by rw [bC_len,List.length_take]; omega) rfl
def orB:List Bool→List Bool→List Bool
 | x :: f,y :: g=>(x||y) :: orB f g
 | _,_=>[]
theorem orB_len:∀ {f g:List Bool},f.length=g.length→(orB f g).length=f.length
 | [],g,h=>rfl
 | x :: f,[],h=>by simp at h
 | x :: f,y :: g,h=>by simp [orB,orB_len (show f.length=g.length by simpa using h)]
theorem orB_at:∀ {f g:List Bool} {i:Nat},f.length=g.length→((orB f g)[i]? = some true↔f[i]? = some true∨g[i]? = some true)
 | [],[],i,h=>by simp [orB]
 | [],y :: g,i,h=>by simp at h
 | x :: f,[],i,h=>by simp at h
 | x :: f,y :: g,0,h=>by simp [orB]
 | x :: f,y :: g,i+1,h=>by
   have:=orB_at (f:=f) (g:=g) (i:=i) (by simpa using h)
   simpa [orB] using this
end Go.Ew
namespace Go.Proofs.Ytfhjkkbaghanhaa
open Go.Ev Go.Ew
namespace Va
section
variable (ok : EnvOk (env Try.prog))
include ok
theorem c47 {l:List It} {a:OA} {c k:Nat} {H:KH} {Q:PQ} (hi:ItR H l a) (hk:k+1≤l.length) (hl:l.length≤1000) (hq:Q (.int .i64 ((stB (l.take (k+1)).reverse 1:Nat):Int)) H):Does (env Try.prog) 47 [.slice a l.length c,.int .i64 ((k:Nat):Int)] H Q:=by
 obtain ⟨cs,hc,hit⟩:=hi
 refine fn47 ok ?_
 unfold vc47 vc47_L2
 refine ⟨fun n3 a4 n5 n6 x7 x8 H9=>a4=a∧n5=l.length∧H9=H∧∃ (i m:Nat),x7=m∧x8=(i:Int)-1∧i=n3∧i≤k+1∧1≤m∧m≤k+2-i∧stB (l.take i).reverse m=stB (l.take (k+1)).reverse 1,⟨k+1,rfl,rfl,rfl,k+1,1,rfl,by omega,rfl,by omega,by omega,by omega,rfl⟩,?_⟩
 rintro n3 a4 n5 n6 x7 x8 H9 ⟨rfl,rfl,rfl,i,m,rfl,rfl,rfl,hik,hm1,hm2,hst⟩
 refine ⟨fun hlt=>?_,fun hge=>?_⟩
 ·have hlt:1≤i:=by have:=of_decide_eq_true hlt; omega
  obtain ⟨j,rfl⟩:∃ j,i=j+1:=⟨i-1,by omega⟩
  have e0:Int.toNat (((j+1:Nat):Int)-1)=j:=by omega
  have ej:((j+1:Nat):Int)-1=(j:Nat):=by omega
  have hj:j<l.length:=by omega
  have hIn:l[j]? = some (l[j].1,l[j].2):=by simp [hj]
  obtain ⟨b1,o1,e1,r1⟩:=rowAddr hc (by omega)
  have g1:=r1 (j*2) 2 (by omega)
  obtain ⟨ar,cr,f1,f2⟩:=ItC_at hit hIn
  rw [f1] at g1
  have g2:=ldSub g1 0 1 (by simp)
  have ht:(l.take (j+1)).reverse=l[j] :: (l.take j).reverse:=by
   rw [List.take_succ_eq_append_getElem hj,List.reverse_append]; rfl
  have hlen:(l.take j).reverse.length=j:=by rw [List.length_reverse,List.length_take]; omega
  rw [ht,stB,hlen] at hst
  have w1:IntKind.wrap .i64 ((m:Nat)-1:Int)=((m-1:Nat):Int):=by rw [wrap64 (by omega) (by omega)]; omega
  have w2:IntKind.wrap .i64 ((m:Nat)+1:Int)=((m+1:Nat):Int):=by rw [wrap64 (by omega) (by omega)]; omega
  have w3:IntKind.wrap .i64 (((j+1:Nat):Int)-1-1)=(j:Nat)-1:=by rw [wrap64 (by omega) (by omega)]; omega
  rw [e0,w1,w2,w3]
  refine ⟨⟨by omega,by omega⟩,b1,o1,e1,rfl,l[j].1,by simpa using g2,fun q=>?_,fun q=>⟨fun q2=>?_,fun q2=>⟨fun q3=>?_,fun q3=>?_⟩⟩⟩
  ·have q:=of_decide_eq_true q
   rw [if_pos q] at hst
   refine ⟨fun z=>?_,fun z=>?_⟩
   ·have z:m-1=0:=by have:=of_decide_eq_true z; omega
    rw [if_pos z] at hst
    rw [ej,hst]; exact hq
   ·have z:¬ m-1=0:=by have:=of_decide_eq_false z; omega
    rw [if_neg z] at hst
    exact ⟨j,by omega,rfl,rfl,rfl,j,m-1,rfl,rfl,rfl,by omega,by omega,by omega,hst⟩
  ·have q:=of_decide_eq_false q
   have q2:=of_decide_eq_true q2
   rw [if_neg q,if_pos (show l[j].1=2∨l[j].1=3 from .inl q2),if_neg (by omega)] at hst
   refine ⟨fun z=>?_,fun z=>⟨j,by omega,rfl,rfl,rfl,j,m+1,rfl,rfl,rfl,by omega,by omega,by omega,hst⟩⟩
   have z:=of_decide_eq_true z; omega
  ·have q:=of_decide_eq_false q
   have q3:=of_decide_eq_true q3
   rw [if_neg q,if_pos (show l[j].1=2∨l[j].1=3 from .inr q3),if_neg (by omega)] at hst
   refine ⟨fun z=>?_,fun z=>⟨j,by omega,rfl,rfl,rfl,j,m+1,rfl,rfl,rfl,by omega,by omega,by omega,hst⟩⟩
   have z:=of_decide_eq_true z; omega
  ·have q:=of_decide_eq_false q
   have q2:=of_decide_eq_false q2
   have q3:=of_decide_eq_false q3
   rw [if_neg q,if_neg (show ¬ (l[j].1=2∨l[j].1=3) from fun z=>z.elim q2 q3),if_neg (by omega)] at hst
   refine ⟨fun z=>?_,fun z=>⟨j,by omega,rfl,rfl,rfl,j,m,rfl,rfl,rfl,by omega,by omega,by omega,hst⟩⟩
   have z:=of_decide_eq_true z; omega
 ·have hge:i=0:=by have:=of_decide_eq_false hge; omega
  subst hge
  have:stB (l.take 0).reverse m=0:=rfl
  rw [this] at hst
  rw [← hst] at hq
  exact hq
theorem c48 {f g:List Bool} {a b:OA} {c d:Nat} {H:KH} {Q:PQ} (hf:BR H f a) (hg:BR H g b) (hl:g.length=f.length) (hs:f.length≤1000)
 (hq:∀ a' c' H',Le H H'→BR H' (orB f g) a'→Q (.slice a' f.length c') H'):Does (env Try.prog) 48 [.slice a f.length c,.slice b f.length d] H Q:=by
 refine fn48 ok ⟨⟨by omega,by omega,by omega⟩,fun n1 h1=>?_⟩
 have en:Int.toNat ((f.length:Nat):Int)=f.length:=by omega
 have hlo:(orB f g).length=f.length:=orB_len hl.symm
 unfold vc48_L1
 rw [en]
 refine ⟨fun n3 a4 n5 n6 a7 n8 n9 a10 n11 n12 x13 H14=>a4=a∧n5=f.length∧a7=b∧n8=f.length∧a10=some ⟨n1,0,none⟩∧n11=f.length∧∃ (i:Nat) (r:List Bool),x13=i∧i≤f.length∧n3=f.length-i∧BW H H14 n1 r∧r.length=f.length∧r.take i=(orB f g).take i,
  ⟨f.length,rfl,rfl,rfl,rfl,rfl,rfl,0,List.replicate f.length false,rfl,by omega,rfl,BW.new h1,by simp,rfl⟩,?_⟩
 rintro n3 a4 n5 n6 a7 n8 n9 a10 n11 n12 x13 H14 ⟨rfl,rfl,rfl,rfl,rfl,rfl,i,r,rfl,hi,rfl,hw,hr,ht⟩
 refine ⟨fun hlt=>?_,fun hge=>?_⟩
 ·have hlt:i<f.length:=by have:=of_decide_eq_true hlt; omega
  have e0:Int.toNat ((i:Nat):Int)=i:=by omega
  have hwr:IntKind.wrap .i64 (((i:Nat):Int)+1)=((i+1:Nat):Int):=by rw [wrap64 (by omega) (by omega)]; omega
  rw [e0,hwr]
  obtain ⟨b1,o1,e1,g1⟩:=(hf.mono hw.le).at_ hlt
  obtain ⟨b2,o2,e2,g2⟩:=(hg.mono hw.le).at_ (show i<g.length by omega)
  have hli:i<r.length:=by omega
  have stp:∀ x,x=(f[i]||g[i]'(by omega))→(r.set i x).take (i+1)=(orB f g).take (i+1):=fun x hx=>by
   have h1:(r.set i x).take (i+1)=r.take i++[x]:=by
    rw [List.take_succ_eq_append_getElem (by rw [List.length_set]; exact hli),List.take_set_of_le (Nat.le_refl _)]
    simp
   have h2:(orB f g).take (i+1)=(orB f g).take i++[(orB f g)[i]'(by omega)]:=List.take_succ_eq_append_getElem (by omega)
   rw [h1,h2,ht]
   congr 2
   rw [hx]
   have h3:=orB_at (f:=f) (g:=g) (i:=i) hl.symm
   rw [List.getElem?_eq_getElem (show i<(orB f g).length by omega),List.getElem?_eq_getElem hlt,List.getElem?_eq_getElem (show i<g.length by omega)] at h3
   simp only [Option.some.injEq] at h3
   rw [Bool.eq_iff_iff,h3]
   simp
  refine ⟨⟨by omega,by omega⟩,b1,o1,e1,f[i],g1,fun q=>?_,fun q=>?_⟩
  ·exact ⟨⟨by omega,by omega⟩,n1,0,rfl,⟨[.bool (r[i]'hli)],rfl,hw.ld hli⟩,hw.may,f.length-(i+1),by omega,rfl,rfl,rfl,rfl,rfl,rfl,i+1,_,rfl,by omega,rfl,hw.put hli true,by rw [List.length_set]; exact hr,stp true (by rw [q]; simp)⟩
  ·exact ⟨⟨by omega,by omega⟩,b2,o2,e2,g[i],g2,⟨by omega,by omega⟩,n1,0,rfl,⟨[.bool (r[i]'hli)],rfl,hw.ld hli⟩,hw.may,f.length-(i+1),by omega,rfl,rfl,rfl,rfl,rfl,rfl,i+1,_,rfl,by omega,rfl,hw.put hli g[i],by rw [List.length_set]; exact hr,stp g[i] (by rw [q]; simp)⟩
 ·have hge:i=f.length:=by have:=of_decide_eq_false hge; omega
  subst hge
  have:r=orB f g:=by
   rw [List.take_of_length_le (by omega),List.take_of_length_le (by omega)] at ht
   exact ht
  subst this
  exact hq _ _ H14 hw.le hw.br
end
end Va
end Go.Proofs.Ytfhjkkbaghanhaa
set_option linter.unusedVariables false
set_option linter.unusedSimpArgs false
namespace Go.Ew
open Go.Ev Go.Deep
theorem items_pos:∀ t:Ptn,1≤t.items.length
 | .cls _=>by simp [Ptn.items]
 | .join _ _=>by simp [Ptn.items]; omega
 | .alt _ _=>by simp [Ptn.items]; omega
 | .star _=>by simp [Ptn.items]
 | .plus _=>by simp [Ptn.items]
 | .may _=>by simp [Ptn.items]
theorem ItC.split {X:KH}:∀ {l m:List It} {cs:List Value},ItC X (l++m) cs→ItC X l (cs.take (l.length*2))∧ItC X m (cs.drop (l.length*2))
 | [],m,cs,h=>⟨by simp [ItC],by simpa using h⟩
 | i :: l,m,cs,h=>by
   obtain ⟨a,c,ds,h1,h2,h3⟩:=h
   obtain ⟨q1,q2⟩:=ItC.split (l:=l) (m:=m) h3
   have e:(i :: l).length*2=l.length*2+2:=by simp; omega
   rw [e,h1]
   exact ⟨⟨a,c,_,by simp,h2,q1⟩,by simpa using q2⟩
theorem ItR.lo {H:KH} {l m:List It} {a:OA} {c:Nat} (hi:ItR H (l++m) a) (ho:SlOk H 2 a (l++m).length c) :
 ∃ a' c',kslice H 2 a (l++m).length c none (some (.int .i64 ((l.length:Nat):Int)))=some (.slice a' l.length c')∧ItR H l a'∧SlOk H 2 a' l.length c':=by
 obtain ⟨cs,h1,h2⟩:=hi
 obtain ⟨a',c',q1,q2⟩:=cut_lo (k:=l.length) ho h1 (by simp)
 exact ⟨a',c',q1,⟨_,q2,h2.split.1⟩,kslice_ok (by omega) q1⟩
theorem ItR.hi {H:KH} {l m:List It} {a:OA} {c:Nat} (hi:ItR H (l++m) a) (ho:SlOk H 2 a (l++m).length c) :
 ∃ a' c',kslice H 2 a (l++m).length c (some (.int .i64 ((l.length:Nat):Int))) none=some (.slice a' m.length c')∧ItR H m a'∧SlOk H 2 a' m.length c':=by
 obtain ⟨cs,h1,h2⟩:=hi
 obtain ⟨a',c',q1,q2⟩:=cut_hi (k:=l.length) ho h1 (by simp)
 have e:(l++m).length-l.length=m.length:=by simp
 rw [e] at q1 q2
 exact ⟨a',c',q1,⟨_,q2,h2.split.2⟩,kslice_ok (by omega) q1⟩
structure EndsR (s:ByteArray) (t:Ptn) (f r:List Bool):Prop where
 len:r.length=s.size+1
 is:∀ j,j≤s.size→(r[j]? = some true↔∃ i,f[i]? = some true∧Mt s t i j)
theorem EndsR.join {s:ByteArray} {a b:Ptn} {f r1 r2:List Bool} (h1:EndsR s a f r1) (h2:EndsR s b r1 r2):EndsR s (.join a b) f r2:=⟨h2.len,fun j hj=>by
 rw [h2.is j hj]
 constructor
 ·rintro ⟨k,q1,q2⟩
  have hk:k≤s.size:=Nat.le_trans (Mt.le b k j q2) hj
  obtain ⟨i,z1,z2⟩:=(h1.is k hk).1 q1
  exact ⟨i,z1,k,z2,q2⟩
 ·rintro ⟨i,z1,k,z2,q2⟩
  have hk:k≤s.size:=Nat.le_trans (Mt.le b k j q2) hj
  exact ⟨k,(h1.is k hk).2 ⟨i,z1,z2⟩,q2⟩⟩
theorem EndsR.alt {s:ByteArray} {a b:Ptn} {f r1 r2:List Bool} (h1:EndsR s a f r1) (h2:EndsR s b f r2):EndsR s (.alt a b) f (orB r1 r2):=by
 have hl:r1.length=r2.length:=by rw [h1.len,h2.len]
 refine ⟨by rw [orB_len hl,h1.len],fun j hj=>?_⟩
 rw [orB_at hl,h1.is j hj,h2.is j hj]
 constructor
 ·rintro (⟨i,z1,z2⟩ | ⟨i,z1,z2⟩)
  ·exact ⟨i,z1,.inl z2⟩
  ·exact ⟨i,z1,.inr z2⟩
 ·rintro ⟨i,z1,z2 | z2⟩
  ·exact .inl ⟨i,z1,z2⟩
  ·exact .inr ⟨i,z1,z2⟩
theorem EndsR.may {s:ByteArray} {a:Ptn} {f r:List Bool} (hf:f.length=s.size+1) (h:EndsR s a f r):EndsR s (.may a) f (orB f r):=by
 have hl:f.length=r.length:=by rw [h.len,hf]
 refine ⟨by rw [orB_len hl,hf],fun j hj=>?_⟩
 rw [orB_at hl,h.is j hj]
 constructor
 ·rintro (z | ⟨i,z1,z2⟩)
  ·exact ⟨j,z,.inl rfl⟩
  ·exact ⟨i,z1,.inr z2⟩
 ·rintro ⟨i,z1,z2 | z2⟩
  ·subst z2; exact .inl z1
  ·exact .inr ⟨i,z1,z2⟩
structure PowR (s:ByteArray) (t:Ptn) (f:List Bool) (k:Nat) (r:List Bool):Prop where
 len:r.length=s.size+1
 is:∀ j,j≤s.size→(r[j]? = some true↔∃ i,f[i]? = some true∧∃ n,1≤n∧n≤k∧MoN (Mt s t) n i j)
theorem PowR.one {s:ByteArray} {t:Ptn} {f r:List Bool} (h:EndsR s t f r):PowR s t f 1 r:=⟨h.len,fun j hj=>by
 rw [h.is j hj]
 constructor
 ·rintro ⟨i,z1,z2⟩; exact ⟨i,z1,1,by omega,by omega,.one _ _ z2⟩
 ·rintro ⟨i,z1,n,q1,q2,q3⟩
  cases q3 with
  | one _ _ h=>exact ⟨i,z1,h⟩
  | more n i k j h r =>
    exfalso
    cases h<;>omega⟩
theorem PowR.more {s:ByteArray} {t:Ptn} {f r r':List Bool} {k:Nat} (hk:1≤k) (h:PowR s t f k r) (g:EndsR s t r r'):PowR s t f (k+1) (orB r r'):=by
 have hl:r.length=r'.length:=by rw [h.len,g.len]
 refine ⟨by rw [orB_len hl,h.len],fun j hj=>?_⟩
 rw [orB_at hl,g.is j hj]
 constructor
 ·rintro (z | ⟨m,z1,z2⟩)
  ·obtain ⟨i,q1,n,q2,q3,q4⟩:=(h.is j hj).1 z
   exact ⟨i,q1,n,q2,by omega,q4⟩
  ·have hm:m≤s.size:=Nat.le_trans (Mt.le t m j z2) hj
   obtain ⟨i,q1,n,q2,q3,q4⟩:=(h.is m hm).1 z1
   exact ⟨i,q1,n+1,by omega,by omega,.more _ _ _ _ q4 z2⟩
 ·rintro ⟨i,q1,n,q2,q3,q4⟩
  rcases Nat.lt_or_ge k n with z | z
  ·cases q4 with
   | one _ _ h=>omega
   | more n i m j h1 r1 =>
     have hm:m≤s.size:=Nat.le_trans (Mt.le t m j r1) hj
     exact .inr ⟨m,(h.is m hm).2 ⟨i,q1,n,by omega,by omega,h1⟩,r1⟩
  ·exact .inl ((h.is j hj).2 ⟨i,q1,n,q2,z,q4⟩)
theorem PowR.plus {s:ByteArray} {t:Ptn} {f r:List Bool} (h:PowR s t f (s.size+2) r):EndsR s (.plus t) f r:=⟨h.len,fun j hj=>by
 rw [h.is j hj]
 constructor
 ·rintro ⟨i,z1,z2⟩; exact ⟨i,z1,(plus_few (Mt.le t) hj).2 z2⟩
 ·rintro ⟨i,z1,z2⟩; exact ⟨i,z1,(plus_few (Mt.le t) hj).1 z2⟩⟩
theorem PowR.star {s:ByteArray} {t:Ptn} {f r:List Bool} (hf:f.length=s.size+1) (h:PowR s t f (s.size+2) r):EndsR s (.star t) f (orB f r):=by
 have hl:f.length=r.length:=by rw [h.len,hf]
 refine ⟨by rw [orB_len hl,hf],fun j hj=>?_⟩
 rw [orB_at hl,h.is j hj]
 constructor
 ·rintro (z | ⟨i,z1,z2⟩)
  ·exact ⟨j,z,(star_few (Mt.le t) hj).2 (.inl rfl)⟩
  ·exact ⟨i,z1,(star_few (Mt.le t) hj).2 (.inr z2)⟩
 ·rintro ⟨i,z1,z2⟩
  rcases (star_few (Mt.le t) hj).1 z2 with z | z
  ·subst z; exact .inl z1
  ·exact .inr ⟨i,z1,z⟩
def ClP (s:ByteArray) (f:List Bool) (L:List Rg) (i k j:Nat):Prop :=
 (∃ i',i'<i∧f[i']? = some true∧(∃ r∈L,r.1≤byteAt s i'∧byteAt s i'≤r.2)∧j=i'+1)∨(f[i]? = some true∧j=i+1∧∃ r∈L.take k,r.1≤byteAt s i∧byteAt s i≤r.2)
structure ClR (s:ByteArray) (f:List Bool) (L:List Rg) (i k:Nat) (r:List Bool):Prop where
 len:r.length=s.size+1
 is:∀ j,r[j]? = some true↔ClP s f L i k j
theorem ClR.zero {s:ByteArray} {f:List Bool} {L:List Rg}:ClR s f L 0 0 (List.replicate (s.size+1) false):=⟨by simp,fun j=>by
 constructor
 ·intro h
  exfalso
  rw [List.getElem?_replicate] at h
  split at h<;>simp at h
 ·rintro (⟨i',h,_⟩ | ⟨_,_,r,h,_⟩)
  ·omega
  ·simp at h⟩
theorem ClR.skip {s:ByteArray} {f:List Bool} {L:List Rg} {i k:Nat} {r:List Bool} (h:ClR s f L i k r) (hf:f[i]?≠some true∨k=L.length):ClR s f L (i+1) 0 r:=⟨h.len,fun j=>by
 rw [h.is j]
 unfold ClP
 constructor
 ·rintro (⟨i',z1,z2⟩ | ⟨z1,z2,z3⟩)
  ·exact .inl ⟨i',by omega,z2⟩
  ·rcases hf with u | u
   ·exact absurd z1 u
   ·subst u
    rw [List.take_length] at z3
    exact .inl ⟨i,by omega,z1,z3,z2⟩
 ·rintro (⟨i',z1,z2,z3,z4⟩ | ⟨_,_,r,h,_⟩)
  ·rcases Nat.lt_or_ge i' i with u | u
   ·exact .inl ⟨i',u,z2,z3,z4⟩
   ·have:i'=i:=by omega
    subst this
    rcases hf with u | u
    ·exact absurd z2 u
    ·subst u
     exact .inr ⟨z2,z4,by rw [List.take_length]; exact z3⟩
  ·simp at h⟩
theorem ClR.out {s:ByteArray} {f:List Bool} {L:List Rg} {i k:Nat} {r:List Bool} (h:ClR s f L i k r) (hk:k<L.length) (hno:¬ (L[k].1≤byteAt s i∧byteAt s i≤L[k].2)):ClR s f L i (k+1) r:=⟨h.len,fun j=>by
 rw [h.is j]
 unfold ClP
 have:(∃ r∈L.take (k+1),r.1≤byteAt s i∧byteAt s i≤r.2)↔∃ r∈L.take k,r.1≤byteAt s i∧byteAt s i≤r.2:=by
  rw [List.take_succ_eq_append_getElem hk]
  constructor
  ·rintro ⟨r,z1,z2⟩
   rcases List.mem_append.1 z1 with u | u
   ·exact ⟨r,u,z2⟩
   ·have:r=L[k]:=by simpa using u
    rw [this] at z2
    exact absurd z2 hno
  ·rintro ⟨r,z1,z2⟩
   exact ⟨r,List.mem_append.2 (.inl z1),z2⟩
 rw [this]⟩
theorem ClR.hit {s:ByteArray} {f:List Bool} {L:List Rg} {i k:Nat} {r:List Bool} (h:ClR s f L i k r) (hi:i<s.size) (hk:k<L.length) (hf:f[i]? = some true) (hy:L[k].1≤byteAt s i∧byteAt s i≤L[k].2):ClR s f L i (k+1) (r.set (i+1) true):=⟨by rw [List.length_set]; exact h.len,fun j=>by
 have hm:L[k]∈L.take (k+1):=by
  rw [List.take_succ_eq_append_getElem hk]; exact List.mem_append.2 (.inr (List.mem_singleton.2 rfl))
 by_cases hj:j=i+1
 ·subst hj
  rw [List.getElem?_set_self (by rw [h.len]; omega)]
  exact ⟨fun _=>.inr ⟨hf,rfl,_,hm,hy⟩,fun _=>rfl⟩
 ·rw [List.getElem?_set_ne (fun z=>hj z.symm),h.is j]
  unfold ClP
  constructor
  ·rintro (z | ⟨_,z2,_⟩)
   ·exact .inl z
   ·exact absurd z2 hj
  ·rintro (z | ⟨_,z2,_⟩)
   ·exact .inl z
   ·exact absurd z2 hj⟩
theorem ClR.ends {s:ByteArray} {f:List Bool} {L:List Rg} {r:List Bool} (h:ClR s f L s.size 0 r):EndsR s (.cls L) f r:=⟨h.len,fun j hj=>by
 rw [h.is j]
 unfold ClP
 constructor
 ·rintro (⟨i',z1,z2,z3,z4⟩ | ⟨_,_,r,h,_⟩)
  ·exact ⟨i',z2,z4,z1,z3⟩
  ·simp at h
 ·rintro ⟨i,z1,z2,z3,z4⟩
  exact .inl ⟨i,z3,z1,z4,z2⟩⟩
end Go.Ew
namespace Go.Proofs.Ytfhjkkbaghanhaa
open Go.Ev Go.Ew
namespace Va
section
variable (ok : EnvOk (env Try.prog))
include ok
theorem c51t {A:List It} {t:Ptn} {a:OA} {c:Nat} {H:KH} {Q:PQ} (hi:ItR H (A++t.items) a) (hl:(A++t.items).length≤1000) (hq:Q (.int .i64 ((A.length:Nat):Int)) H):Does (env Try.prog) 47 [.slice a (A++t.items).length c,.int .i64 (((A++t.items).length-1:Nat):Int)] H Q:=by
 have hp:=items_pos t
 have hp2:1≤(A++t.items).length:=by rw [List.length_append]; omega
 refine c47 ok hi (by omega) hl ?_
 rw [List.take_of_length_le (by omega),stB_tree t A 1 (by omega),if_pos rfl]
 exact hq
omit ok in
theorem c33cls {s:ByteArray} (hs:s.size≤100) {L:List Rg} (hL:L.length≤100) {a b:OA} {c d n1:Nat} {f:List Bool} {H:KH} {Q:PQ} (h1:H n1=none) (hi:ItR H [(1,L)] a) (hf:BR H f b) (hfl:f.length=s.size+1)
 (hq:∀ r a' c' H',Le H H'→BR H' r a'→EndsR s (.cls L) f r→Q (.slice a' (s.size+1) c') H'):vc27_L2 a 1 c s b (s.size+1) d n1 H Q:=by
 obtain ⟨cs,hc,hit⟩:=hi
 have ew:IntKind.wrap .i64 (((s.size:Nat):Int)+1)=((s.size+1:Nat):Int):=by rw [wrap64 (by omega) (by omega)]; omega
 have w1:IntKind.wrap .i64 (((1:Nat):Int)-1)=0:=by decide
 unfold vc27_L2
 rw [ew,Int.toNat_natCast,w1]
 refine ⟨fun n3 a4 n5 n6 s7 a8 n9 n10 a11 n12 n13 x14 x15 H16=>a4=a∧n5=1∧s7=s∧a8=b∧n9=s.size+1∧a11=some ⟨n1,0,none⟩∧n12=s.size+1∧x14=0∧∃ (i:Nat) (r:List Bool),x15=i∧i≤s.size∧n3=s.size-i∧BW H H16 n1 r∧ClR s f L i 0 r,
  ⟨s.size,rfl,rfl,rfl,rfl,rfl,rfl,rfl,rfl,0,List.replicate (s.size+1) false,rfl,by omega,rfl,BW.new h1,ClR.zero⟩,?_⟩
 rintro n3 a4 n5 n6 s7 a8 n9 n10 a11 n12 n13 x14 x15 H16 ⟨rfl,rfl,rfl,rfl,rfl,rfl,rfl,rfl,i,r,rfl,hi,rfl,hw,hr⟩
 refine ⟨fun hlt=>?_,fun hge=>?_⟩
 ·have hlt:i<s7.size:=by have:=of_decide_eq_true hlt; omega
  have e0:Int.toNat ((i:Nat):Int)=i:=by omega
  have wi:IntKind.wrap .i64 (((i:Nat):Int)+1)=((i+1:Nat):Int):=by rw [wrap64 (by omega) (by omega)]; omega
  unfold vc27_L1
  refine ⟨fun m3 b4 m5 m6 t7 b8 m9 m10 b11 m12 m13 y14 y15 y16 H17=>b4=a4∧m5=1∧t7=s7∧b8=a8∧m9=s7.size+1∧b11=some ⟨n1,0,none⟩∧m12=s7.size+1∧y14=0∧y15=(i:Nat)∧∃ (k:Nat) (q:List Bool),y16=k∧k≤L.length∧m3=L.length-k∧BW H H17 n1 q∧ClR s7 f L i k q,
   ⟨L.length,rfl,rfl,rfl,rfl,rfl,rfl,rfl,rfl,rfl,0,r,rfl,by omega,rfl,hw,hr⟩,?_⟩
  rintro m3 b4 m5 m6 t7 b8 m9 m10 b11 m12 m13 y14 y15 y16 H17 ⟨rfl,rfl,rfl,rfl,rfl,rfl,rfl,rfl,rfl,k,q,rfl,hk,rfl,hwq,hq2⟩
  obtain ⟨b1,o1,e1,r1⟩:=rowAddr (hwq.le.kold hc) (by simp)
  have g1:=r1 (0*2) 2 (by simp)
  obtain ⟨ar,cr,f1,f2⟩:=ItC_at hit (k:=0) (op:=1) (rg:=L) rfl
  rw [f1] at g1
  have g2:=ldSub g1 1 1 (by simp)
  have g2:ld H17 ⟨b1,o1+0*2+1,none⟩ [.slice ar L.length cr]:=by simpa using g2
  have z0:Int.toNat 0=0:=rfl
  rw [z0,e0,wi]
  have hfi:i<f.length:=by omega
  obtain ⟨b2,o2,e2,g3⟩:=(hf.mono hwq.le).at_ hfi
  have hfl':f[i]? = some f[i]:=by simp [hfi]
  have nxt:∀ {q':List Bool} {K:KH},BW H K n1 q'→ClR t7 f L (i+1) 0 q'→∃ n,n<t7.size-i∧(b4=b4∧1=1∧t7=t7∧b8=b8∧t7.size+1=t7.size+1∧(some ⟨n1,0,none⟩:OA)=some ⟨n1,0,none⟩∧t7.size+1=t7.size+1∧(0:Int)=0∧∃ (i':Nat) (r:List Bool),((i+1:Nat):Int)=i'∧i'≤t7.size∧n=t7.size-i'∧BW H K n1 r∧ClR t7 f L i' 0 r) :=
   fun hb hcl=>⟨t7.size-(i+1),by omega,rfl,rfl,rfl,rfl,rfl,rfl,rfl,rfl,i+1,_,rfl,by omega,rfl,hb,hcl⟩
  refine ⟨⟨by omega,by omega⟩,b1,o1,e1,rfl,ar,_,cr,g2,fun hlk=>⟨⟨by omega,by omega⟩,b2,o2,e2,f[i],g3,fun hb=>?_,fun hb=>?_⟩,fun hlk=>?_⟩
  ·have hlk:k<L.length:=by have:=of_decide_eq_true hlk; omega
   have e3:Int.toNat ((k:Nat):Int)=k:=by omega
   have wk:IntKind.wrap .i64 (((k:Nat):Int)+1)=((k+1:Nat):Int):=by rw [wrap64 (by omega) (by omega)]; omega
   have e4:Int.toNat (((i+1:Nat):Int))=i+1:=by omega
   obtain ⟨b5,o5,e5,r5⟩:=rowAddr (hwq.le.kold f2) (by omega)
   have g5:=r5 (k*2) 2 (by omega)
   rw [rgC_at (show L[k]? = some L[k] by simp [hlk])] at g5
   have g6:=ldSub g5 0 1 (by simp)
   have g7:=ldSub g5 1 1 (by simp)
   rw [e3,wk,e4]
   have again:∀ {q':List Bool} {K:KH},BW H K n1 q'→ClR t7 f L i (k+1) q'→∃ n,n<L.length-k∧(b4=b4∧1=1∧t7=t7∧b8=b8∧t7.size+1=t7.size+1∧(some ⟨n1,0,none⟩:OA)=some ⟨n1,0,none⟩∧t7.size+1=t7.size+1∧(0:Int)=0∧((i:Nat):Int)=(i:Nat)∧∃ (k':Nat) (q:List Bool),((k+1:Nat):Int)=k'∧k'≤L.length∧n=L.length-k'∧BW H K n1 q∧ClR t7 f L i k' q) :=
    fun hb hcl=>⟨L.length-(k+1),by omega,rfl,rfl,rfl,rfl,rfl,rfl,rfl,rfl,rfl,k+1,_,rfl,by omega,rfl,hb,hcl⟩
   refine ⟨trivial,⟨by omega,by omega⟩,⟨by omega,by omega⟩,b1,o1,e1,rfl,ar,_,cr,g2,⟨by omega,by omega⟩,b5,o5,e5,rfl,L[k].1,by simpa using g6,fun hlo=>⟨⟨by omega,by omega⟩,⟨by omega,by omega⟩,b1,o1,e1,rfl,ar,_,cr,g2,⟨by omega,by omega⟩,b5,o5,e5,rfl,L[k].2,by simpa using g7,fun hhi=>?_,fun hhi=>?_⟩,fun hlo=>?_⟩
   ·have hlo:=of_decide_eq_true hlo
    have hhi:=of_decide_eq_true hhi
    have hql:i+1<q.length:=by rw [hq2.len]; omega
    refine ⟨⟨by omega,by omega⟩,n1,0,rfl,⟨[.bool (q[i+1]'hql)],rfl,hwq.ld hql⟩,hwq.may,again (hwq.put hql true) (hq2.hit hlt hlk (by rw [hfl',hb]) ⟨hlo,hhi⟩)⟩
   ·have hhi:=of_decide_eq_false hhi
    exact again hwq (hq2.out hlk fun z=>hhi z.2)
   ·have hlo:=of_decide_eq_false hlo
    exact again hwq (hq2.out hlk fun z=>hlo z.1)
  ·exact nxt hwq (hq2.skip (.inl (by rw [hfl',hb]; simp)))
  ·have hlk:k=L.length:=by have:=of_decide_eq_false hlk; omega
   exact nxt hwq (hq2.skip (.inr hlk))
 ·have hge:i=s7.size:=by have:=of_decide_eq_false hge; omega
  subst hge
  exact hq r _ _ H16 hw.le (by have:=hw.br; exact this) hr.ends
end
end Va
end Go.Proofs.Ytfhjkkbaghanhaa
set_option linter.unusedVariables false
set_option linter.unusedSimpArgs false
namespace Go.Ew
open Go.Ev Go.Deep
theorem ent33 {X:List It} {op:Int} {L:List Rg} {a:OA} {c:Nat} {H H1:KH} (hl:Le H H1) (hi:ItR H (X++[(op,L)]) a) (ho:SlOk H 2 a (X++[(op,L)]).length c) (hX:X.length≤1000) :
 ∃ a1 c1 b o,kslice H1 2 a (X++[(op,L)]).length c none (some (.int .i64 (IntKind.wrap .i64 ((((X++[(op,L)]).length:Nat):Int)-1))))=some (.slice a1 X.length c1)∧ItR H1 X a1∧SlOk H1 2 a1 X.length c1∧a=some ⟨b,o,none⟩∧
  (∀ H2,Le H1 H2→ld H2 ⟨b,(o+Int.toNat ((X.length:Nat):Int)*2)+0,none⟩ [.int .i64 op])∧IntKind.wrap .i64 ((((X++[(op,L)]).length:Nat):Int)-1)=((X.length:Nat):Int):=by
 have hlen:(X++[(op,L)]).length=X.length+1:=by simp
 have w1:IntKind.wrap .i64 ((((X++[(op,L)]).length:Nat):Int)-1)=((X.length:Nat):Int):=by rw [hlen,wrap64 (by omega) (by omega)]; omega
 obtain ⟨a1,c1,k1,k2,k3⟩:=ItR.lo (hi.mono hl) (ho.mono hl)
 obtain ⟨cs,hc,hit⟩:=hi
 obtain ⟨b,o,e,r⟩:=rowAddr hc (by omega)
 rw [w1]
 refine ⟨a1,c1,b,o,k1,k2,k3,e,fun H2 h2=>?_,rfl⟩
 obtain ⟨ar,cr,f1,f2⟩:=ItC_at hit (k:=X.length) (op:=op) (rg:=L) (by simp)
 have g1:=r (X.length*2) 2 (by omega)
 rw [f1] at g1
 have g2:=ldSub g1 0 1 (by simp)
 rw [Int.toNat_natCast]
 exact Le.ld (hl.trans h2) (by simpa using g2)
end Go.Ew
namespace Go.Proofs.Ytfhjkkbaghanhaa
open Go.Ev Go.Ew
namespace Va
section
variable (ok : EnvOk (env Try.prog))
include ok
theorem c52n {N:Nat} {f g:List Bool} {a b:OA} {c d:Nat} {H:KH} {Q:PQ} (hf:BR H f a) (hg:BR H g b) (h1:f.length=N) (h2:g.length=N) (hs:N≤1000)
 (hq:∀ a' c' H',Le H H'→BR H' (orB f g) a'→Q (.slice a' N c') H'):Does (env Try.prog) 48 [.slice a N c,.slice b N d] H Q:=by
 subst h1
 exact c48 ok hf hg h2 hs hq
def Ends33 (s:ByteArray) (t:Ptn):Prop:=∀ {a b:OA} {c d:Nat} {f:List Bool} {H:KH} {Q:PQ},ItR H t.items a→SlOk H 2 a t.items.length c→BR H f b→f.length=s.size+1→
 (∀ r a' c' H',Le H H'→BR H' r a'→EndsR s t f r→Q (.slice a' (s.size+1) c') H')→Does (env Try.prog) 27 [.slice a t.items.length c,.string s,.slice b (s.size+1) d] H Q
theorem l33 {s:ByteArray} (hs:s.size≤100) {t:Ptn} (ih:Ends33 s t) {op:Int} {a b a1 a2:OA} {c d c1 c2:Nat} {f r:List Bool} {H:KH} {Q:PQ}
 (hi:ItR H t.items a1) (ho:SlOk H 2 a1 t.items.length c1) (hf:BR H f b) (hfl:f.length=s.size+1) (hr:BR H r a2) (he:EndsR s t f r)
 (w1:IntKind.wrap .i64 ((((t.items++[(op,[])]).length:Nat):Int)-1)=((t.items.length:Nat):Int)) (hop:∃ b o,a=some ⟨b,o,none⟩∧∀ H2,Le H H2→ld H2 ⟨b,(o+Int.toNat ((t.items.length:Nat):Int)*2)+0,none⟩ [.int .i64 op])
 (h4:op=4→∀ r a' c' H',Le H H'→BR H' r a'→EndsR s (.star t) f r→Q (.slice a' (s.size+1) c') H')
 (h5:op≠4→∀ r a' c' H',Le H H'→BR H' r a'→EndsR s (.plus t) f r→Q (.slice a' (s.size+1) c') H') :
 vc27_L5 a (t.items++[(op,[])]).length c s b (s.size+1) d a1 t.items.length c1 a2 (s.size+1) c2 H Q:=by
 obtain ⟨b1,o1,e1,g1⟩:=hop
 unfold vc27_L5
 rw [w1]
 refine ⟨fun n3 a4 n5 n6 s7 a8 n9 n10 x11 a12 n13 n14 a15 n16 n17 x18 H19=>a4=a∧n5=(t.items++[(op,[])]).length∧s7=s∧a8=b∧n9=s.size+1∧x11=((t.items.length:Nat):Int)∧a12=a1∧n13=t.items.length∧n14=c1∧n16=s.size+1∧∃ (k:Nat) (q:List Bool),x18=k∧k≤s.size+1∧n3=s.size+1-k∧Le H H19∧BR H19 q a15∧PowR s t f (k+1) q,
  ⟨s.size+1,rfl,rfl,rfl,rfl,rfl,rfl,rfl,rfl,rfl,rfl,0,r,rfl,by omega,rfl,Le.refl _,hr,.one he⟩,?_⟩
 rintro n3 a4 n5 n6 s7 a8 n9 n10 x11 a12 n13 n14 a15 n16 n17 x18 H19 ⟨rfl,rfl,rfl,rfl,rfl,rfl,rfl,rfl,rfl,rfl,k,q,rfl,hk,rfl,hle,hq,hp⟩
 refine ⟨fun hlt=>?_,fun hge=>?_⟩
 ·have hlt:k≤s7.size:=by have:=of_decide_eq_true hlt; omega
  have wk:IntKind.wrap .i64 (((k:Nat):Int)+1)=((k+1:Nat):Int):=by rw [wrap64 (by omega) (by omega)]; omega
  rw [wk]
  refine ih (hi.mono hle) (ho.mono hle) hq hp.len fun r' a' c' H2 hl2 hr' he'=>⟨_,_,_,rfl,c52n ok (hq.mono hl2) hr' hp.len he'.len (by omega) fun a3 c3 H7 hl7 ho7=>⟨_,_,_,rfl,s7.size+1-(k+1),by omega,rfl,rfl,rfl,rfl,rfl,rfl,rfl,rfl,rfl,rfl,k+1,_,rfl,by omega,rfl,hle.trans (hl2.trans hl7),ho7,hp.more (by omega) he'⟩⟩
 ·have hge:k=s7.size+1:=by have:=of_decide_eq_false hge; omega
  subst hge
  refine ⟨⟨by omega,by simp; omega⟩,b1,o1,e1,rfl,op,g1 _ hle,fun z=>?_,fun z=>?_⟩
  ·have z:=of_decide_eq_true z
   exact c52n ok (hf.mono hle) hq hfl hp.len (by omega) fun a3 c3 H7 hl7 ho7=>⟨_,_,_,rfl,h4 z _ _ _ H7 (hle.trans hl7) ho7 (hp.star hfl)⟩
  ·have z:=of_decide_eq_false z
   exact h5 z _ _ _ H19 hle hq hp.plus
theorem c27 {s:ByteArray} (hs:s.size≤100):∀ (t:Ptn),t.fit→t.items.length≤500→Ends33 s t:=by
 have ew:IntKind.wrap .i64 (((s.size:Nat):Int)+1)=((s.size+1:Nat):Int):=by rw [wrap64 (by omega) (by omega)]; omega
 intro t
 induction t with
 | cls L =>
   intro hfit _ a b c d f H Q hi ho hf hfl hq
   have hL:L.length≤24:=hfit
   have hlen:(Ptn.cls L).items.length=1:=rfl
   rw [hlen] at ho ⊢
   refine fn27 ok ⟨⟨by rw [ew]; omega,Int.le_refl _,by rw [ew]; omega⟩,fun n1 h1=>?_⟩
   obtain ⟨a1,c1,b1,o1,k1,k2,k3,e1,g1,w1⟩:=ent33 (X:=[]) (op:=1) (L:=L) (Le.new (e:=mkEnt (lrep [Value.bool false] (s.size+1)) 0) h1) hi ho (by simp)
   have w1:IntKind.wrap .i64 (((1:Nat):Int)-1)=((0:Nat):Int):=w1
   rw [ew,Int.toNat_natCast]
   refine ⟨fun h0=>absurd h0 (by decide),fun _=>⟨a1,_,c1,k1,⟨by rw [w1]; omega,by rw [w1]; omega⟩,b1,o1,e1,rfl,1,by rw [w1]; exact g1 _ (Le.refl _),fun _=>c33cls hs (by omega) h1 hi hf hfl hq,fun q=>absurd q (by decide)⟩⟩
 | join u v ihu ihv =>
   intro hfit hlen a b c d f H Q hi ho hf hfl hq
   have hN:(u.items++v.items++[(2,[])]).length≤500:=hlen
   have hN1:(u.items++v.items++[((2:Int),([]:List Rg))]).length=u.items.length+v.items.length+1:=by simp; omega
   have hX:(u.items++v.items).length=u.items.length+v.items.length:=by simp
   have hpu:=items_pos u
   refine fn27 ok ⟨⟨by rw [ew]; omega,Int.le_refl _,by rw [ew]; omega⟩,fun n1 h1=>?_⟩
   have hH1:=Le.new (e:=mkEnt (lrep [Value.bool false] (s.size+1)) 0) h1
   obtain ⟨a1,c1,b1,o1,k1,k2,k3,e1,g1,w1⟩:=ent33 (X:=u.items++v.items) (op:=2) (L:=[]) hH1 hi ho (by omega)
   have w2:IntKind.wrap .i64 ((((u.items++v.items).length:Nat):Int)-1)=(((u.items++v.items).length-1:Nat):Int):=by rw [wrap64 (by omega) (by omega)]; omega
   rw [ew,Int.toNat_natCast]
   have eN:(Ptn.join u v).items.length=(u.items++v.items++[((2:Int),([]:List Rg))]).length:=rfl
   rw [eN]
   refine ⟨fun h0=>?_,fun _=>⟨a1,_,c1,k1,⟨by rw [w1]; omega,by rw [w1]; omega⟩,b1,o1,e1,rfl,2,by rw [w1]; exact g1 _ (Le.refl _),fun q=>absurd q (by decide),fun _=>⟨fun _=>?_,fun q=>absurd q (by decide)⟩⟩⟩
   ·have:=of_decide_eq_true h0; omega
   rw [w1,w2]
   obtain ⟨a10,c8,p1,p2,p3⟩:=k2.hi k3
   obtain ⟨a13,qq13,q1,q2,q3⟩:=k2.lo k3
   exact c51t ok (A:=u.items) (t:=v) k2 (by omega) ⟨_,rfl,trivial,a10,_,c8,p1,a13,_,qq13,q1,ihu hfit.1 (by omega) q2 q3 (hf.mono hH1) hfl fun r1 a18 c13 H17 l17 br1 er1=>⟨a18,_,c13,rfl,⟨rfl,rfl,⟨a10,_,c8,l17.kslice p1,rfl⟩,rfl,trivial⟩,
    ihv hfit.2 (by omega) (p2.mono l17) (p3.mono l17) br1 er1.len fun r2 a26 c24 H25 l25 br2 er2=>⟨_,_,_,rfl,trivial,hq r2 _ _ H25 (hH1.trans (l17.trans l25)) br2 (er1.join er2)⟩⟩⟩
 | alt u v ihu ihv =>
   intro hfit hlen a b c d f H Q hi ho hf hfl hq
   have hN:(u.items++v.items++[(3,[])]).length≤500:=hlen
   have hN1:(u.items++v.items++[((3:Int),([]:List Rg))]).length=u.items.length+v.items.length+1:=by simp; omega
   have hX:(u.items++v.items).length=u.items.length+v.items.length:=by simp
   have hpu:=items_pos u
   refine fn27 ok ⟨⟨by rw [ew]; omega,Int.le_refl _,by rw [ew]; omega⟩,fun n1 h1=>?_⟩
   have hH1:=Le.new (e:=mkEnt (lrep [Value.bool false] (s.size+1)) 0) h1
   obtain ⟨a1,c1,b1,o1,k1,k2,k3,e1,g1,w1⟩:=ent33 (X:=u.items++v.items) (op:=3) (L:=[]) hH1 hi ho (by omega)
   have w2:IntKind.wrap .i64 ((((u.items++v.items).length:Nat):Int)-1)=(((u.items++v.items).length-1:Nat):Int):=by rw [wrap64 (by omega) (by omega)]; omega
   rw [ew,Int.toNat_natCast]
   have eN:(Ptn.alt u v).items.length=(u.items++v.items++[((3:Int),([]:List Rg))]).length:=rfl
   rw [eN]
   refine ⟨fun h0=>?_,fun _=>⟨a1,_,c1,k1,⟨by rw [w1]; omega,by rw [w1]; omega⟩,b1,o1,e1,rfl,3,by rw [w1]; exact g1 _ (Le.refl _),fun q=>absurd q (by decide),fun _=>⟨fun q=>absurd q (by decide),fun _=>⟨fun _=>?_,fun q=>absurd q (by decide)⟩⟩⟩⟩
   ·have:=of_decide_eq_true h0; omega
   rw [w1,w2]
   obtain ⟨a10,c8,p1,p2,p3⟩:=k2.hi k3
   obtain ⟨a13,qq13,q1,q2,q3⟩:=k2.lo k3
   exact c51t ok (A:=u.items) (t:=v) k2 (by omega) ⟨_,rfl,trivial,a13,_,qq13,q1,a10,_,c8,p1,ihu hfit.1 (by omega) q2 q3 (hf.mono hH1) hfl fun r1 a18 c13 H17 l17 br1 er1=>⟨a18,_,c13,rfl,⟨rfl,rfl,⟨a10,_,c8,l17.kslice p1,rfl⟩,rfl,rfl,trivial⟩,
    ihv hfit.2 (by omega) (p2.mono l17) (p3.mono l17) ((hf.mono hH1).mono l17) hfl fun r2 a26 c24 H25 l25 br2 er2=>⟨_,_,_,rfl,trivial,c52n ok (br1.mono l25) br2 er1.len er2.len (by omega) fun a53 c34 H52 l52 br3=>⟨_,_,_,rfl,trivial,hq _ _ _ H52 (hH1.trans (l17.trans (l25.trans l52))) br3 (er1.alt er2)⟩⟩⟩⟩
 | may u ihu =>
   intro hfit hlen a b c d f H Q hi ho hf hfl hq
   have hN:(u.items++[(6,[])]).length≤500:=hlen
   have hN1:(u.items++[((6:Int),([]:List Rg))]).length=u.items.length+1:=by simp
   refine fn27 ok ⟨⟨by rw [ew]; omega,Int.le_refl _,by rw [ew]; omega⟩,fun n1 h1=>?_⟩
   have hH1:=Le.new (e:=mkEnt (lrep [Value.bool false] (s.size+1)) 0) h1
   obtain ⟨a1,c1,b1,o1,k1,k2,k3,e1,g1,w1⟩:=ent33 (X:=u.items) (op:=6) (L:=[]) hH1 hi ho (by omega)
   rw [ew,Int.toNat_natCast]
   have eN:(Ptn.may u).items.length=(u.items++[((6:Int),([]:List Rg))]).length:=rfl
   rw [eN]
   refine ⟨fun h0=>?_,fun _=>⟨a1,_,c1,k1,⟨by rw [w1]; omega,by rw [w1]; omega⟩,b1,o1,e1,rfl,6,by rw [w1]; exact g1 _ (Le.refl _),fun q=>absurd q (by decide),fun _=>⟨fun q=>absurd q (by decide),fun _=>⟨fun q=>absurd q (by decide),fun _=>⟨fun _=>?_,fun q=>absurd q (by decide)⟩⟩⟩⟩⟩
   ·have:=of_decide_eq_true h0; omega
   exact ihu hfit (by omega) k2 k3 (hf.mono hH1) hfl fun r1 a18 c13 H17 l17 br1 er1=>⟨_,_,_,rfl,c52n ok ((hf.mono hH1).mono l17) br1 hfl er1.len (by omega) fun a53 c34 H52 l52 br3=>⟨_,_,_,rfl,hq _ _ _ H52 (hH1.trans (l17.trans l52)) br3 (er1.may hfl)⟩⟩
 | star u ihu =>
   intro hfit hlen a b c d f H Q hi ho hf hfl hq
   have hN:(u.items++[(4,[])]).length≤500:=hlen
   have hN1:(u.items++[((4:Int),([]:List Rg))]).length=u.items.length+1:=by simp
   refine fn27 ok ⟨⟨by rw [ew]; omega,Int.le_refl _,by rw [ew]; omega⟩,fun n1 h1=>?_⟩
   have hH1:=Le.new (e:=mkEnt (lrep [Value.bool false] (s.size+1)) 0) h1
   obtain ⟨a1,c1,b1,o1,k1,k2,k3,e1,g1,w1⟩:=ent33 (X:=u.items) (op:=4) (L:=[]) hH1 hi ho (by omega)
   rw [ew,Int.toNat_natCast]
   have eN:(Ptn.star u).items.length=(u.items++[((4:Int),([]:List Rg))]).length:=rfl
   rw [eN]
   refine ⟨fun h0=>?_,fun _=>⟨a1,_,c1,k1,⟨by rw [w1]; omega,by rw [w1]; omega⟩,b1,o1,e1,rfl,4,by rw [w1]; exact g1 _ (Le.refl _),fun q=>absurd q (by decide),fun _=>⟨fun q=>absurd q (by decide),fun _=>⟨fun q=>absurd q (by decide),fun _=>⟨fun q=>absurd q (by decide),fun _=>?_⟩⟩⟩⟩⟩
   ·have:=of_decide_eq_true h0; omega
   exact ihu hfit (by omega) k2 k3 (hf.mono hH1) hfl fun r1 a18 c13 H17 l17 br1 er1=>⟨_,_,_,rfl,l33 ok hs (ihu hfit (by omega)) (k2.mono l17) (k3.mono l17) ((hf.mono hH1).mono l17) hfl br1 er1 w1 ⟨b1,o1,e1,fun H2 h2=>g1 _ (l17.trans h2)⟩ (fun _ r a' c' H' hl=>hq r a' c' H' (hH1.trans (l17.trans hl))) (fun z=>absurd rfl z)⟩
 | plus u ihu =>
   intro hfit hlen a b c d f H Q hi ho hf hfl hq
   have hN:(u.items++[(5,[])]).length≤500:=hlen
   have hN1:(u.items++[((5:Int),([]:List Rg))]).length=u.items.length+1:=by simp
   refine fn27 ok ⟨⟨by rw [ew]; omega,Int.le_refl _,by rw [ew]; omega⟩,fun n1 h1=>?_⟩
   have hH1:=Le.new (e:=mkEnt (lrep [Value.bool false] (s.size+1)) 0) h1
   obtain ⟨a1,c1,b1,o1,k1,k2,k3,e1,g1,w1⟩:=ent33 (X:=u.items) (op:=5) (L:=[]) hH1 hi ho (by omega)
   rw [ew,Int.toNat_natCast]
   have eN:(Ptn.plus u).items.length=(u.items++[((5:Int),([]:List Rg))]).length:=rfl
   rw [eN]
   refine ⟨fun h0=>?_,fun _=>⟨a1,_,c1,k1,⟨by rw [w1]; omega,by rw [w1]; omega⟩,b1,o1,e1,rfl,5,by rw [w1]; exact g1 _ (Le.refl _),fun q=>absurd q (by decide),fun _=>⟨fun q=>absurd q (by decide),fun _=>⟨fun q=>absurd q (by decide),fun _=>⟨fun q=>absurd q (by decide),fun _=>?_⟩⟩⟩⟩⟩
   ·have:=of_decide_eq_true h0; omega
   exact ihu hfit (by omega) k2 k3 (hf.mono hH1) hfl fun r1 a18 c13 H17 l17 br1 er1=>⟨_,_,_,rfl,l33 ok hs (ihu hfit (by omega)) (k2.mono l17) (k3.mono l17) ((hf.mono hH1).mono l17) hfl br1 er1 w1 ⟨b1,o1,e1,fun H2 h2=>g1 _ (l17.trans h2)⟩ (fun z=>absurd z (by decide)) (fun _ r a' c' H' hl=>hq r a' c' H' (hH1.trans (l17.trans hl)))⟩
end
end Va
end Go.Proofs.Ytfhjkkbaghanhaa
set_option linter.unusedVariables false
set_option linter.unusedSimpArgs false
namespace Go.Ew
open Go.Ev Go.Deep
theorem SsN.up {X Y:KH} (hl:Le X Y) {S:List St} {a:OA} (h:SsN X S a):SsN Y S a:=by
 obtain ⟨cs,h1,h2⟩:=h
 exact ⟨cs,hl.kold h1,h2.mono hl⟩
theorem has1 {l:List It} {s:ByteArray} {j:Nat}:Has [l] s 0 j↔Mt s (treeD l) 0 j:=by
 constructor
 ·rintro ⟨l',h1,h2⟩
  have:l=l':=by simpa using h1
  subst this
  exact h2
 ·intro h
  exact ⟨l,rfl,h⟩
theorem LgSpec.single {l:List It} {s:ByteArray} {n k j:Nat} (g:LgSpec (Has [l] s) n (((k:Nat):Int),((j:Nat):Int),decide (0<j))):(∀ j',j<j'→j'≤n→¬ Mt s (treeD l) 0 j')∧(0<j→Mt s (treeD l) 0 j)∧j≤n:=by
 generalize hr:((((k:Nat):Int),((j:Nat):Int),decide (0<j)):Int × Int × Bool)=r at g
 cases g with
 | no h =>
   have hm:j=0:=by
    have:=congrArg (fun x=>x.2.1) hr
    simp at this; omega
   subst hm
   exact ⟨fun j' h1 h2 hh=>h 0 j' (by omega) h2 (has1.2 hh),fun q=>by omega,by omega⟩
 | yes k2 j2 h1 h2 h3 h4 h5 =>
   have e2:j=j2:=by have:=congrArg (fun x=>x.2.1) hr; simp at this; omega
   subst e2
   have hk0:k2=0:=by
    obtain ⟨l',hk',_⟩:=h3
    rcases Nat.eq_zero_or_pos k2 with q | q
    ·exact q
    ·rw [List.getElem?_eq_none (by simp; omega)] at hk'; cases hk'
   subst hk0
   exact ⟨fun j' q1 q2 hh=>h4 0 j' q1 q2 (has1.2 hh),fun _=>has1.1 h3,h2⟩
theorem LgSpec.allOf {pats:List (List It)} {s:ByteArray} {n:Nat} {r:Int × Int × Bool} (h:LgSpec (HasTo pats s pats.length) n r):LgSpec (Has pats s) n r:=by
 have hk:∀ k j,Has pats s k j→HasTo pats s pats.length k j:=fun k j ⟨l,z,q⟩=>by
  refine ⟨?_,l,z,q⟩
  rcases Nat.lt_or_ge k pats.length with u | u
  ·exact u
  ·rw [List.getElem?_eq_none u] at z; cases z
 cases h with
 | no h=>exact .no fun k j h1 h2 hh=>h k j h1 h2 (hk k j hh)
 | yes k j h1 h2 h3 h4 h5=>exact .yes k j h1 h2 h3.2 (fun k' j' q1 q2 hh=>h4 k' j' q1 q2 (hk k' j' hh)) fun k' hk' hh=>h5 k' hk' (hk k' j hh)
theorem first_at {n i:Nat} (hn:0<n):((List.replicate n false).set 0 true)[i]? = some true↔i=0:=by
 by_cases h:i=0
 ·subst h
  rw [List.getElem?_set_self (by simpa using hn)]
  simp
 ·rw [List.getElem?_set_ne (fun z=>h z.symm),List.getElem?_replicate]
  constructor
  ·intro q; split at q<;>simp at q
  ·intro q; exact absurd q h
end Go.Ew
namespace Go.Proofs.Ytfhjkkbaghanhaa
open Go.Ev Go.Ew
namespace Va
section
variable (ok : EnvOk (env Try.prog))
include ok
theorem c33p {s:ByteArray} (hs:s.size≤100) {l:List It} (hg:GoodP l) {a b:OA} {c d:Nat} {f:List Bool} {H:KH} {Q:PQ} (hi:ItR H l a) (ho:SlOk H 2 a l.length c) (hf:BR H f b) (hfl:f.length=s.size+1)
 (hq:∀ r a' c' H',Le H H'→BR H' r a'→EndsR s (treeD l) f r→Q (.slice a' (s.size+1) c') H'):Does (env Try.prog) 27 [.slice a l.length c,.string s,.slice b (s.size+1) d] H Q:=by
 have hit:=hg.it
 have hln:=hg.ln
 have h:Ends33 s (treeD l):=c27 ok hs (treeD l) (fit_of _ (by rw [hg.it]; exact hg.rg)) (by rw [hit]; omega)
 unfold Ends33 at h
 rw [hit] at h
 exact h hi ho hf hfl hq
theorem c14 {pats:List (List It)} (hpar:∀ l∈pats,∃ s,parseR s=some l) (hp:pats.length≤50) {a:OA} {c:Nat} {s:ByteArray} {H:KH} {Q:PQ} (hP:PtR H pats a) (hs:s.size≤100)
 (hq:∀ (k j:Nat) H',Le H H'→LgSpec (Has pats s) s.size (((k:Nat):Int),((j:Nat):Int),decide (0<j))→Q (.tuple #[.int .i64 ((k:Nat):Int),.int .i64 ((j:Nat):Int),.bool (decide (0<j))]) H'):Does (env Try.prog) 14 [.slice a pats.length c,.string s] H Q:=by
 obtain ⟨g1,g2,g3⟩:=good_of hpar
 obtain ⟨cs,hc,hcs⟩:=hP
 have ew:IntKind.wrap .i64 (((s.size:Nat):Int)+1)=((s.size+1:Nat):Int):=by rw [wrap64 (by omega) (by omega)]; omega
 refine fn14 ok ?_
 unfold vc14 vc14_L3
 refine ⟨fun n3 a4 n5 n6 s7 x8 x9 x10 H11=>a4=a∧n5=pats.length∧s7=s∧Le H H11∧∃ (i kind most:Nat),x10=i∧i≤pats.length∧n3=pats.length-i∧x8=kind∧x9=most∧most≤s.size∧LgSpec (HasTo pats s i) s.size (((kind:Nat):Int),((most:Nat):Int),decide (0<most)),
  ⟨pats.length,rfl,rfl,rfl,Le.refl _,0,0,0,rfl,by omega,rfl,rfl,rfl,by omega,.no fun k j _ _ hh=>by have:=hh.1; omega⟩,?_⟩
 rintro n3 a4 n5 n6 s7 x8 x9 x10 H11 ⟨rfl,rfl,rfl,hle,i,kind,most,rfl,hi,rfl,rfl,rfl,hmost,hspec⟩
 refine ⟨fun hlt=>?_,fun hge=>?_⟩
 ·have hlt:i<pats.length:=by have:=of_decide_eq_true hlt; omega
  have hpi:pats[i]? = some pats[i]:=by simp [hlt]
  have hmem:=List.getElem_mem hlt
  have e0:Int.toNat ((i:Nat):Int)=i:=by omega
  rw [ew,Int.toNat_natCast,e0]
  refine ⟨⟨by omega,by omega,by omega⟩,fun n1 h1=>?_⟩
  have hw:=BW.new (n:=s7.size+1) h1
  have hl0:0<(List.replicate (s7.size+1) false).length:=by simp
  have hw2:=hw.put hl0 true
  have hH:=hle.trans hw2.le
  obtain ⟨ai,ci,q1,q2,q3⟩:=hcs.get2 hpi
  obtain ⟨b1,o1,e1,r1⟩:=rowAddr (hH.kold hc) (by omega)
  have r2:=r1 (i*1) 1 (by omega)
  have e2:(cs.drop (i*1)).take 1=[.slice ai pats[i].length ci]:=dropTake rfl fun j hj=>by
   match j,hj with
   | 0,_=>simpa using q1
  rw [e2] at r2
  refine ⟨⟨by omega,by omega⟩,n1,0,rfl,⟨[.bool ((List.replicate (s7.size+1) false)[0]'hl0)],rfl,hw.ld hl0⟩,hw.may,⟨by omega,by omega⟩,b1,o1,e1,ai,_,ci,r2,c33p ok hs (g1 _ hmem) (q2.mono hH) (q3.mono hH) hw2.br (by simp) fun r a12 c14' H11' l11 br er=>⟨a12,_,c14',rfl,?_⟩⟩
  have hrj:∀ j,j≤s7.size→(r[j]? = some true↔Mt s7 (treeD pats[i]) 0 j):=fun j hj=>by
   rw [er.is j hj]
   constructor
   ·rintro ⟨i',z1,z2⟩
    have:=(first_at (by omega)).1 z1
    subst this
    exact z2
   ·intro z
    exact ⟨0,(first_at (by omega)).2 rfl,z⟩
  -- the longest of this one
  obtain ⟨k1,j1,hr1,hj1⟩:=(nfaL_spec (pats:=[pats[i]]) (fun l hl=>by
   have:l=pats[i]:=by simpa using hl
   rw [this]; exact g3 _ hmem) (by simp) (s:=s7) (by omega)).sh
  have hsp1:=nfaL_spec (pats:=[pats[i]]) (fun l hl=>by
   have:l=pats[i]:=by simpa using hl
   rw [this]; exact g3 _ hmem) (by simp) (s:=s7) (by omega)
  rw [hr1] at hsp1
  obtain ⟨t1,t2,t3⟩:=hsp1.single
  obtain ⟨s1,s2⟩:=each_step hpi hspec hsp1
  have wi:IntKind.wrap .i64 (((i:Nat):Int)+1)=((i+1:Nat):Int):=by rw [wrap64 (by omega) (by omega)]; omega
  unfold vc14_L1
  refine ⟨fun m3 b4 m5 m6 t7 y8 y9 y10 b11 m12 m13 y14 H15=>b4=a4∧m5=pats.length∧t7=s7∧y10=(i:Nat)∧b11=a12∧m12=s7.size+1∧H15=H11'∧((∃ j:Nat,y14=j∧j=m3∧j≤s7.size∧most≤j∧y8=kind∧y9=most∧∀ j',j<j'→j'≤s7.size→¬ Mt s7 (treeD pats[i]) 0 j')∨(y8=(i:Nat)∧y9=(j1:Nat)∧most<j1∧y14=(j1:Nat)-1)),
   ⟨s7.size,rfl,rfl,rfl,rfl,rfl,rfl,rfl,.inl ⟨s7.size,rfl,rfl,by omega,hmost,rfl,rfl,fun j' z1 z2=>by omega⟩⟩,?_⟩
  rintro m3 b4 m5 m6 t7 y8 y9 y10 b11 m12 m13 y14 H15 ⟨rfl,rfl,rfl,rfl,rfl,rfl,rfl,hst⟩
  refine ⟨fun hlt2=>?_,fun hge2=>?_⟩
  ·have hlt2:=of_decide_eq_true hlt2
   rcases hst with ⟨j,rfl,rfl,hj,hmj,rfl,rfl,hno⟩ | ⟨rfl,rfl,z3,rfl⟩
   ·have hjr:j<r.length:=by rw [er.len]; omega
    have ej:Int.toNat ((j:Nat):Int)=j:=by omega
    have wj:IntKind.wrap .i64 (((j:Nat):Int)-1)=((j-1:Nat):Int):=by rw [wrap64 (by omega) (by omega)]; omega
    obtain ⟨b2,o2,e3,g4⟩:=br.at_ hjr
    rw [ej,wj]
    refine ⟨⟨by omega,by omega⟩,b2,o2,e3,r[j],g4,fun hb=>?_,fun hb=>?_⟩
    ·have hM:Mt t7 (treeD pats[i]) 0 j:=(hrj j hj).1 (by rw [List.getElem?_eq_getElem hjr,hb])
     have hjj:j=j1:=by
      rcases Nat.lt_trichotomy j j1 with u | u | u
      ·exact absurd (t2 (by omega)) (hno j1 u hj1)
      ·exact u
      ·exact absurd hM (t1 j u hj)
     subst hjj
     exact ⟨j-1,by omega,rfl,rfl,rfl,rfl,rfl,rfl,rfl,.inr ⟨rfl,rfl,by omega,by omega⟩⟩
    ·have hM:¬ Mt t7 (treeD pats[i]) 0 j:=fun z=>by
      have:=(hrj j hj).2 z
      rw [List.getElem?_eq_getElem hjr,hb] at this
      cases this
     exact ⟨j-1,by omega,rfl,rfl,rfl,rfl,rfl,rfl,rfl,.inl ⟨j-1,rfl,rfl,by omega,by omega,rfl,rfl,fun j' z1 z2=>by
      rcases Nat.lt_or_ge j j' with u | u
      ·exact hno j' u z2
      ·have:j'=j:=by omega
       rw [this]; exact hM⟩⟩
   ·omega
  ·have hge2:=of_decide_eq_false hge2
   rw [wi]
   rcases hst with ⟨j,rfl,rfl,hj,hmj,rfl,rfl,hno⟩ | ⟨rfl,rfl,z3,rfl⟩
   ·have hjm:j1≤most:=by
     rcases Nat.lt_or_ge most j1 with u | u
     ·exact absurd (t2 (by omega)) (hno j1 (by omega) hj1)
     ·exact u
    exact ⟨pats.length-(i+1),by omega,rfl,rfl,rfl,hH.trans l11,i+1,kind,most,rfl,by omega,rfl,rfl,rfl,hmost,s2 hjm⟩
   ·exact ⟨pats.length-(i+1),by omega,rfl,rfl,rfl,hH.trans l11,i+1,i,j1,rfl,by omega,rfl,rfl,rfl,hj1,s1 z3⟩
 ·have hge:i=pats.length:=by have:=of_decide_eq_false hge; omega
  subst hge
  have:=hq kind most H11 hle hspec.allOf
  have hd:decide ((0:Int)<((most:Nat):Int))=decide (0<most):=by rw [Bool.eq_iff_iff]; simp
  rw [hd]
  exact this
end
end Va
end Go.Proofs.Ytfhjkkbaghanhaa
