import Derived.Test.YtfhjkkbaghanhaaGreatEwRxT
set_option linter.unusedVariables false
set_option linter.unusedSimpArgs false
namespace Go.Ew
open Go.Ev Go.Deep
theorem rowAddr {H:KH} {sz n:Nat} {a:OA} {cs:List Value} (h:kold H sz a n=some cs) (hn:0<n):∃ b o,a=some ⟨b,o,none⟩/\∀ k m,k+m<=n*sz->ld H ⟨b,o+k,none⟩ ((cs.drop k).take m):=by
 have hl:=kold_len h
 have hnb:Nat.beq n 0=false:=by
  cases hq:Nat.beq n 0 with
  | false=>rfl
  | true=>have:=Nat.eq_of_beq_eq_true hq; omega
 cases a with
 | none=>unfold kold at h; rw [hnb] at h; cases h
 | some ad =>
   obtain ⟨b,o,sp⟩:=ad
   cases sp with
   | some x=>simp only [kold] at h; rw [hnb] at h; cases h
   | none =>
     obtain ⟨e,he,hr⟩:=kold_some.1 h
     refine ⟨b,o,rfl,fun k m hkm=>?_⟩
     exact ldSub ⟨rfl,e,he,by rw [hl]; exact hr⟩ k m (by omega)
theorem dropTake {α:Type} {l:List α} {k m:Nat} {r:List α} (hl:r.length=m) (h:∀ j,j<m->l[k+j]? = r[j]?):(l.drop k).take m=r:=by
 apply List.ext_getElem?
 intro j
 by_cases hj:j<m
 .rw [List.getElem?_take,if_pos hj,List.getElem?_drop]
  exact h j hj
 .rw [List.getElem?_take,if_neg hj,List.getElem?_eq_none (by omega)]
theorem rgC_at {L:List Rg} {k:Nat} {r:Rg} (h:L[k]? = some r):((rgC L).drop (k*2)).take 2=[.int .u8 r.1,.int .u8 r.2]:=by
 obtain ⟨h1,h2⟩:=rg_get h
 refine dropTake rfl fun j hj=>?_
 match j,hj with
 | 0,_=>simpa using h1
 | 1,_=>simpa using h2
theorem ItC_at {X:KH} {l:List It} {cs:List Value} (hi:ItC X l cs) {k:Nat} {op:Int} {rg:List Rg} (h:l[k]? = some (op,rg)):∃ a c,(cs.drop (k*2)).take 2=[.int .i64 op,.slice a rg.length c]/\kold X 2 a rg.length=some (rgC rg):=by
 obtain ⟨a,c,h1,h2,h3⟩:=it_get hi h
 refine ⟨a,c,dropTake rfl fun j hj=>?_,h3⟩
 match j,hj with
 | 0,_=>simpa using h1
 | 1,_=>simpa using h2
inductive Ptn where
 | cls (L:List Rg)
 | join (a b:Ptn)
 | alt (a b:Ptn)
 | star (a:Ptn)
 | plus (a:Ptn)
 | may (a:Ptn)
def Ptn.op:Ptn->Int
 | .cls _=>1
 | .join _ _=>2
 | .alt _ _=>3
 | .star _=>4
 | .plus _=>5
 | .may _=>6
def Ptn.items:Ptn->List It
 | .cls L=>[(1,L)]
 | .join a b=>a.items++b.items++[(2,[])]
 | .alt a b=>a.items++b.items++[(3,[])]
 | .star a=>a.items++[(4,[])]
 | .plus a=>a.items++[(5,[])]
 | .may a=>a.items++[(6,[])]
def said (s:ByteArray) (l:List It):Bool:=decide (parseR s=some l)
def b1B (c:Int):ByteArray:=ByteArray.mk #[UInt8.ofNat c.toNat]
def byteT (c:Int):ByteArray:=if said (ByteArray.mk #[91]++b1B c++ByteArray.mk #[93]) [(1,[(c,c)])]=true then b1B c else ByteArray.mk #[92]++b1B c
def rangeT (r:Rg):ByteArray:=if r.1=r.2 then byteT r.1 else byteT r.1++ByteArray.mk #[45]++byteT r.2
def rangesT:List Rg->ByteArray->ByteArray
 | [],s=>s
 | r :: l,s=>rangesT l (s++rangeT r)
def braceT (L:List Rg):ByteArray:=ByteArray.mk #[91]++rangesT L (ByteArray.mk #[])++ByteArray.mk #[93]
def classT:List Rg->ByteArray
 | [r]=>if said (ByteArray.mk #[46]) [(1,[r])]=true then ByteArray.mk #[46] else if said (b1B r.1) [(1,[r])]=true then b1B r.1 else if said (ByteArray.mk #[92]++b1B r.1) [(1,[r])]=true then ByteArray.mk #[92]++b1B r.1 else braceT [r]
 | L=>braceT L
def Ptn.loose:Ptn->Int
 | .join _ _=>1
 | .alt _ _=>2
 | _=>0
def brk (k l:Int) (s:ByteArray):ByteArray:=if k<l then ByteArray.mk #[40]++s++ByteArray.mk #[41] else s
def Ptn.text:Ptn->ByteArray
 | .cls L=>classT L
 | .join a b=>brk 1 a.loose a.text++brk 0 b.loose b.text
 | .alt a b=>brk 2 a.loose a.text++ByteArray.mk #[124]++brk 1 b.loose b.text
 | .star a=>brk 0 a.loose a.text++ByteArray.mk #[42]
 | .plus a=>brk 0 a.loose a.text++ByteArray.mk #[43]
 | .may a=>brk 0 a.loose a.text++ByteArray.mk #[63]
def Ptn.fit:Ptn->Prop
 | .cls L=>L.length<=24
 | .join a b=>a.fit/\b.fit
 | .alt a b=>a.fit/\b.fit
 | .star a=>a.fit
 | .plus a=>a.fit
 | .may a=>a.fit
theorem b1B_size (c:Int):(b1B c).size=1:=rfl
theorem lit1 (x:UInt8):(ByteArray.mk #[x]).size=1:=rfl
theorem byteT_size (c:Int):(byteT c).size<=2:=by
 unfold byteT
 split
 .rw [b1B_size]; omega
 .rw [size_app,b1B_size,lit1]; omega
theorem rangeT_size (r:Rg):(rangeT r).size<=5:=by
 have h1:=byteT_size r.1
 have h2:=byteT_size r.2
 unfold rangeT
 split
 .omega
 .rw [size_app,size_app,lit1]; omega
theorem rangesT_size:∀ (L:List Rg) (s:ByteArray),(rangesT L s).size<=s.size+5*L.length
 | [],s=>by simp [rangesT]
 | r :: l,s=>by
   have h:=rangesT_size l (s++rangeT r)
   have:=rangeT_size r
   rw [size_app] at h
   simp only [rangesT,List.length_cons]
   omega
theorem braceT_size (L:List Rg):(braceT L).size<=2+5*L.length:=by
 have:=rangesT_size L (ByteArray.mk #[])
 have e:(ByteArray.mk #[]).size=0:=rfl
 unfold braceT
 rw [size_app,size_app,lit1,lit1]
 omega
theorem classT_size (L:List Rg):(classT L).size<=2+5*L.length:=by
 unfold classT
 split
 .split
  .rw [lit1]; omega
  .split
   .rw [b1B_size]; omega
   .split
    .rw [size_app,b1B_size,lit1]; omega
    .exact braceT_size _
 .exact braceT_size _
theorem brk_size (k l:Int) (s:ByteArray):(brk k l s).size<=s.size+2:=by
 unfold brk
 split
 .rw [size_app,size_app,lit1,lit1]; omega
 .omega
theorem text_size:∀ t:Ptn,t.fit->t.text.size<=130*t.items.length
 | .cls L,h=>by
   have:=classT_size L
   have h:L.length<=24:=h
   simp only [Ptn.text,Ptn.items,List.length_cons,List.length_nil]
   omega
 | .join a b,h=>by
   have h1:=text_size a h.1
   have h2:=text_size b h.2
   have h3:=brk_size 1 a.loose a.text
   have h4:=brk_size 0 b.loose b.text
   simp only [Ptn.text,Ptn.items,List.length_append,List.length_cons,List.length_nil,size_app]
   omega
 | .alt a b,h=>by
   have h1:=text_size a h.1
   have h2:=text_size b h.2
   have h3:=brk_size 2 a.loose a.text
   have h4:=brk_size 1 b.loose b.text
   simp only [Ptn.text,Ptn.items,List.length_append,List.length_cons,List.length_nil,size_app,lit1]
   omega
 | .star a,h=>by
   have h1:=text_size a h
   have h3:=brk_size 0 a.loose a.text
   simp only [Ptn.text,Ptn.items,List.length_append,List.length_cons,List.length_nil,size_app,lit1]
   omega
 | .plus a,h=>by
   have h1:=text_size a h
   have h3:=brk_size 0 a.loose a.text
   simp only [Ptn.text,Ptn.items,List.length_append,List.length_cons,List.length_nil,size_app,lit1]
   omega
 | .may a,h=>by
   have h1:=text_size a h
   have h3:=brk_size 0 a.loose a.text
   simp only [Ptn.text,Ptn.items,List.length_append,List.length_cons,List.length_nil,size_app,lit1]
   omega
def NdC (X:KH):Ptn->List Value->Prop
 | .cls L,cs=>∃ a c b d,cs=[.int .i64 1,.slice a L.length c,.slice b 0 d]/\kold X 2 a L.length=some (rgC L)
 | .join t u,cs=>∃ a c b d p q,cs=[.int .i64 2,.slice a 0 c,.slice b 2 d]/\kold X 3 b 2=some (p++q)/\NdC X t p/\NdC X u q
 | .alt t u,cs=>∃ a c b d p q,cs=[.int .i64 3,.slice a 0 c,.slice b 2 d]/\kold X 3 b 2=some (p++q)/\NdC X t p/\NdC X u q
 | .star t,cs=>∃ a c b d p,cs=[.int .i64 4,.slice a 0 c,.slice b 1 d]/\kold X 3 b 1=some p/\NdC X t p
 | .plus t,cs=>∃ a c b d p,cs=[.int .i64 5,.slice a 0 c,.slice b 1 d]/\kold X 3 b 1=some p/\NdC X t p
 | .may t,cs=>∃ a c b d p,cs=[.int .i64 6,.slice a 0 c,.slice b 1 d]/\kold X 3 b 1=some p/\NdC X t p
theorem NdC.mono {X Y:KH} (hl:Le X Y):∀ {t:Ptn} {cs:List Value},NdC X t cs->NdC Y t cs
 | .cls L,cs,⟨a,c,b,d,h1,h2⟩=>⟨a,c,b,d,h1,hl.kold h2⟩
 | .join t u,cs,⟨a,c,b,d,p,q,h1,h2,h3,h4⟩=>⟨a,c,b,d,p,q,h1,hl.kold h2,h3.mono hl,h4.mono hl⟩
 | .alt t u,cs,⟨a,c,b,d,p,q,h1,h2,h3,h4⟩=>⟨a,c,b,d,p,q,h1,hl.kold h2,h3.mono hl,h4.mono hl⟩
 | .star t,cs,⟨a,c,b,d,p,h1,h2,h3⟩=>⟨a,c,b,d,p,h1,hl.kold h2,h3.mono hl⟩
 | .plus t,cs,⟨a,c,b,d,p,h1,h2,h3⟩=>⟨a,c,b,d,p,h1,hl.kold h2,h3.mono hl⟩
 | .may t,cs,⟨a,c,b,d,p,h1,h2,h3⟩=>⟨a,c,b,d,p,h1,hl.kold h2,h3.mono hl⟩
theorem NdC.three {X:KH}:∀ {t:Ptn} {cs:List Value},NdC X t cs->∃ a n c b m d,cs=[.int .i64 t.op,.slice a n c,.slice b m d]
 | .cls L,cs,⟨a,c,b,d,h1,_⟩=>⟨_,_,_,_,_,_,h1⟩
 | .join t u,cs,⟨a,c,b,d,p,q,h1,_⟩=>⟨_,_,_,_,_,_,h1⟩
 | .alt t u,cs,⟨a,c,b,d,p,q,h1,_⟩=>⟨_,_,_,_,_,_,h1⟩
 | .star t,cs,⟨a,c,b,d,p,h1,_⟩=>⟨_,_,_,_,_,_,h1⟩
 | .plus t,cs,⟨a,c,b,d,p,h1,_⟩=>⟨_,_,_,_,_,_,h1⟩
 | .may t,cs,⟨a,c,b,d,p,h1,_⟩=>⟨_,_,_,_,_,_,h1⟩
end Go.Ew
namespace Go.Proofs.YtfhjkkbaghanhaaGreat
open Go.Ev Go.Ew
namespace Va
section
variable (ok : EnvOk (env Tryz.prog))
include ok
theorem c91 {l m:List Rg} {a b:OA} {c d:Nat} {H:KH} {Q:PQ} (ha:kold H 2 a l.length=some (rgC l)) (hb:kold H 2 b m.length=some (rgC m)) (hl:l.length<=1000000) (hq:Q (.bool (decide (l=m))) H):Does (env Tryz.prog) 91 [.slice a l.length c,.slice b m.length d] H Q:=by
 refine fn91 ok ⟨fun h=>?_,fun h=>?_⟩
 .have h:=of_decide_eq_true h
  rw [decide_eq_false (fun e=>h (by rw [e]))] at hq
  exact hq
 have hlm:l.length=m.length:=by
  have:¬ ((l.length:Nat):Int)≠((m.length:Nat):Int):=of_decide_eq_false h
  omega
 unfold vc91_L1
 refine ⟨fun n3 a4 n5 n6 a7 n8 n9 x10 x11 H12=>a4=a/\n5=l.length/\a7=b/\n8=m.length/\x10=(l.length:Nat)/\H12=H/\∃ k:Nat,x11=k/\k<=l.length/\n3=l.length-k/\decide (l=m)=decide (l.drop k=m.drop k),⟨l.length,rfl,rfl,rfl,rfl,rfl,rfl,0,rfl,by omega,rfl,by simp⟩,?_⟩
 rintro n3 a4 n5 n6 a7 n8 n9 x10 x11 H12 ⟨rfl,rfl,rfl,rfl,rfl,rfl,k,rfl,hk,rfl,hd⟩
 refine ⟨fun hlt=>?_,fun hge=>?_⟩
 .have hlt:k<l.length:=by have:=of_decide_eq_true hlt; omega
  have hlt2:k<m.length:=by omega
  obtain ⟨b1,o1,e1,r1⟩:=rowAddr ha (by omega)
  obtain ⟨b2,o2,e2,r2⟩:=rowAddr hb (by omega)
  have e0:Int.toNat ((k:Nat):Int)=k:=by omega
  have g1:=r1 (k*2) 2 (by omega)
  have g2:=r2 (k*2) 2 (by omega)
  rw [rgC_at (show l[k]? = some l[k] by simp [hlt])] at g1
  rw [rgC_at (show m[k]? = some m[k] by simp [hlt2])] at g2
  rw [List.drop_eq_getElem_cons hlt,List.drop_eq_getElem_cons hlt2] at hd
  rw [e0]
  refine ⟨trivial,⟨by omega,by omega⟩,b1,o1,e1,_,_,g1,⟨by omega,by omega⟩,b2,o2,e2,_,_,g2,fun hn=>?_,fun hy=>?_⟩
  .have:l[k]≠m[k]:=fun q=>by rw [q] at hn; simp at hn
   rw [decide_eq_false (fun q=>this (List.cons.inj q).1)] at hd
   rw [hd] at hq
   exact hq
  .have:l[k]=m[k]:=by
    simp at hy
    exact Prod.ext hy.1 hy.2
   refine ⟨l.length-(k+1),by omega,rfl,rfl,rfl,rfl,rfl,rfl,k+1,by rw [wrap64 (by omega) (by omega)]; omega,by omega,rfl,?_⟩
   rw [hd,this]
   simp only [List.cons.injEq,true_and]
 .have hge:k=l.length:=by have:=of_decide_eq_false hge; omega
  subst hge
  rw [List.drop_length,hlm,List.drop_length] at hd
  rw [hd] at hq
  exact hq
theorem c80 {x y:It} {a b:OA} {c d:Nat} {H:KH} {Q:PQ} (ha:kold H 2 a x.2.length=some (rgC x.2)) (hb:kold H 2 b y.2.length=some (rgC y.2)) (hl:x.2.length<=1000000) (hq:Q (.bool (decide (x=y))) H):Does (env Tryz.prog) 80 [.agg #[.int .i64 x.1,.slice a x.2.length c],.agg #[.int .i64 y.1,.slice b y.2.length d]] H Q:=by
 refine fn80 ok ⟨fun h=>?_,fun h=>?_⟩
 .have h:x.1=y.1:=of_decide_eq_true h
  refine c91 ok ha hb hl ⟨_,rfl,?_⟩
  have:decide (x=y)=decide (x.2=y.2):=by
   rw [Bool.eq_iff_iff]
   simp only [decide_eq_true_eq]
   exact ⟨fun q=>by rw [q],fun q=>Prod.ext h q⟩
  rw [<- this]
  exact hq
 .have h:¬ x.1=y.1:=of_decide_eq_false h
  rw [decide_eq_false (fun e=>h (by rw [e]))] at hq
  exact hq
theorem c79 {l m:List It} {a b:OA} {c d:Nat} {H:KH} {Q:PQ} (ha:ItR H l a) (hb:ItR H m b) (hl:l.length<=1000000) (hs:∀ i∈l,i.2.length<=1000000) (hq:Q (.bool (decide (l=m))) H):Does (env Tryz.prog) 79 [.slice a l.length c,.slice b m.length d,.func (.func 80) #[] #[]] H Q:=by
 refine fn79 ok ⟨fun h=>?_,fun h=>?_⟩
 .have h:=of_decide_eq_true h
  rw [decide_eq_false (fun e=>h (by rw [e]))] at hq
  exact hq
 have hlm:l.length=m.length:=by
  have:¬ ((l.length:Nat):Int)≠((m.length:Nat):Int):=of_decide_eq_false h
  omega
 obtain ⟨cs,k1,i1⟩:=ha
 obtain ⟨ds,k2,i2⟩:=hb
 unfold vc79_L1
 refine ⟨fun n3 a4 n5 n6 n7 l8 a9 n10 n11 x12 x13 H14=>a4=b/\n5=m.length/\n7=80/\l8=[]/\a9=a/\n10=l.length/\x12=(l.length:Nat)/\H14=H/\∃ k:Nat,x13=k/\k<=l.length/\n3=l.length-k/\decide (l=m)=decide (l.drop k=m.drop k),⟨l.length,rfl,rfl,rfl,rfl,rfl,rfl,rfl,rfl,0,rfl,by omega,rfl,by simp⟩,?_⟩
 rintro n3 a4 n5 n6 n7 l8 a9 n10 n11 x12 x13 H14 ⟨rfl,rfl,rfl,rfl,rfl,rfl,rfl,rfl,k,rfl,hk,rfl,hd⟩
 refine ⟨fun hlt=>?_,fun hge=>?_⟩
 .have hlt:k<l.length:=by have:=of_decide_eq_true hlt; omega
  have hlt2:k<m.length:=by omega
  obtain ⟨b1,o1,e1,r1⟩:=rowAddr k1 (by omega)
  obtain ⟨b2,o2,e2,r2⟩:=rowAddr k2 (by omega)
  have e0:Int.toNat ((k:Nat):Int)=k:=by omega
  have g1:=r1 (k*2) 2 (by omega)
  have g2:=r2 (k*2) 2 (by omega)
  obtain ⟨aa,ca,f1,f2⟩:=ItC_at i1 (k:=k) (op:=l[k].1) (rg:=l[k].2) (by simp [hlt])
  obtain ⟨ab,cb,f3,f4⟩:=ItC_at i2 (k:=k) (op:=m[k].1) (rg:=m[k].2) (by simp [hlt2])
  rw [f1] at g1
  rw [f3] at g2
  rw [List.drop_eq_getElem_cons hlt,List.drop_eq_getElem_cons hlt2] at hd
  rw [e0]
  refine ⟨⟨by omega,by omega⟩,b1,o1,e1,_,_,_,_,g1,⟨by omega,by omega⟩,b2,o2,e2,_,_,_,_,g2,c80 ok f2 f4 (hs _ (List.getElem_mem hlt)) ⟨_,rfl,fun hn=>?_,fun hy=>?_⟩⟩
  .have hn:¬ l[k]=m[k]:=by simpa using hn
   rw [decide_eq_false (fun q=>hn (List.cons.inj q).1)] at hd
   rw [hd] at hq
   exact hq
  .have hy:l[k]=m[k]:=by simpa using hy
   refine ⟨l.length-(k+1),by omega,rfl,rfl,rfl,rfl,rfl,rfl,rfl,rfl,k+1,by rw [wrap64 (by omega) (by omega)]; omega,by omega,rfl,?_⟩
   rw [hd,hy]
   simp only [List.cons.injEq,true_and]
 .have hge:k=l.length:=by have:=of_decide_eq_false hge; omega
  subst hge
  rw [List.drop_length,hlm,List.drop_length] at hd
  rw [hd] at hq
  exact hq
theorem c58 {s:ByteArray} {l:List It} {a:OA} {c:Nat} {H:KH} {Q:PQ} (ha:ItR H l a) (hq:∀ H',Le H H'->Q (.bool (said s l)) H'):Does (env Tryz.prog) 58 [.string s,.slice a l.length c] H Q:=by
 refine fn58 ok (c31 ok (fun hn H' hl=>⟨_,_,_,_,rfl,fun q=>(by cases q),fun _=>?_⟩) fun m hm a' c' H' hl hi=>⟨_,_,_,_,rfl,fun _=>?_,fun q=>(by cases q)⟩)
 .have:=hq H' hl
  unfold said at this
  rw [hn] at this
  simpa using this
 .obtain ⟨q1,q2⟩:=parse_small hm
  refine c79 ok hi (ha.mono hl) (by omega) (fun i h=>by have:=q2 i h; omega) ⟨_,rfl,?_⟩
  have:=hq H' hl
  unfold said at this
  rw [hm] at this
  simpa using this
theorem c106 {x:Int} {H:KH} {Q:PQ} (hq:∀ H',Le H H'->Q (.string (byteT x)) H'):Does (env Tryz.prog) 106 [.int .u8 x] H Q:=by
 refine fn106 ok fun n1 h1=>⟨[.int .u8 x],[UInt8.ofNat x.toNat],lit_kold (if_pos rfl) rfl,rfl,(show 1+1<=1000000 by omega),(by rw [size_app]; show 1+1+1<=1000000; omega),fun n4 h4 n5 h5=>?_⟩
 have l1:Le H (H.new n1 (mkEnt [.int .u8 x] 0)):=Le.new h1
 have l2:Le H ((H.new n1 (mkEnt [.int .u8 x] 0)).new n4 (mkEnt [.int .u8 x,.int .u8 x] 0)):=l1.trans (Le.new h4)
 have l3:=l2.trans (Le.new (e:=mkEnt [.int .i64 1,.slice (some ⟨n4,0,none⟩) 1 1] 0) h5)
 have hi:ItR (((H.new n1 (mkEnt [.int .u8 x] 0)).new n4 (mkEnt [.int .u8 x,.int .u8 x] 0)).new n5 (mkEnt [.int .i64 1,.slice (some ⟨n4,0,none⟩) 1 1] 0)) [(1,[(x,x)])] (some ⟨n5,0,none⟩):=⟨_,lit_kold (if_pos rfl) rfl,some ⟨n4,0,none⟩,1,[],rfl,(Le.new h5).kold (lit_kold (if_pos rfl) rfl),rfl⟩
 refine c58 ok (l:=[(1,[(x,x)])]) hi fun H7 hl7=>⟨_,rfl,fun hy=>?_,fun hn=>⟨(show 1+1<=1000000 by omega),?_⟩⟩
 .have:=hq H7 (l3.trans hl7)
  unfold byteT at this
  rw [if_pos (show said (ByteArray.mk #[91]++b1B x++ByteArray.mk #[93]) [(1,[(x,x)])]=true from hy)] at this
  exact this
 .have:=hq H7 (l3.trans hl7)
  unfold byteT at this
  rw [if_neg (fun q=>by rw [show said (ByteArray.mk #[91]++b1B x++ByteArray.mk #[93]) [(1,[(x,x)])]=false from hn] at q; cases q)] at this
  exact this
theorem c92 {r:Rg} {H:KH} {Q:PQ} (hq:∀ H',Le H H'->Q (.string (rangeT r)) H'):Does (env Tryz.prog) 92 [.agg #[.int .u8 r.1,.int .u8 r.2]] H Q:=by
 have s1:=byteT_size r.1
 have s2:=byteT_size r.2
 refine fn92 ok ⟨fun h=>?_,fun h=>⟨trivial,?_⟩⟩
 .have h:r.1=r.2:=of_decide_eq_true h
  refine c106 ok fun H' hl=>⟨_,rfl,?_⟩
  have:=hq H' hl
  unfold rangeT at this
  rw [if_pos h] at this
  exact this
 .have h:¬ r.1=r.2:=of_decide_eq_false h
  refine c106 ok fun H' hl=>⟨_,rfl,⟨⟨rfl,rfl⟩,rfl,trivial⟩,by rw [lit1]; omega,c106 ok fun H2 hl2=>⟨_,rfl,⟨⟨by rw [lit1]; omega,rfl⟩,trivial⟩,by rw [size_app,lit1]; omega,?_⟩⟩
  have:=hq H2 (hl.trans hl2)
  unfold rangeT at this
  rw [if_neg h] at this
  exact this
end
end Va
end Go.Proofs.YtfhjkkbaghanhaaGreat
namespace Go.Ew
open Go.Ev Go.Deep
def tryT (L:List Rg):List ByteArray->ByteArray
 | []=>braceT L
 | s :: r=>if said s [(1,L)]=true then s else tryT L r
theorem classT_one (r:Rg):classT [r]=tryT [r] [ByteArray.mk #[46],b1B r.1,ByteArray.mk #[92]++b1B r.1]:=rfl
theorem classT_many {L:List Rg} (h:L.length≠1):classT L=braceT L:=by
 unfold classT
 split
 .exact absurd rfl h
 .rfl
theorem kid2 {H:KH} {t u:Ptn} {b:OA} {p q:List Value} (hk:kold H 3 b 2=some (p++q)) (h1:NdC H t p) (h2:NdC H u q):∃ n o,b=some ⟨n,o,none⟩/\∀ H',Le H H'->ld H' ⟨n,o+Int.toNat 0*3,none⟩ p/\ld H' ⟨n,o+Int.toNat 1*3,none⟩ q:=by
 obtain ⟨n,o,e,r⟩:=rowAddr hk (by omega)
 obtain ⟨a1,n1,c1,b1,m1,d1,rfl⟩:=h1.three
 obtain ⟨a2,n2,c2,b2,m2,d2,rfl⟩:=h2.three
 exact ⟨n,o,e,fun H' hl=>⟨hl.ld (r 0 3 (by omega)),hl.ld (r 3 3 (by omega))⟩⟩
theorem kid1 {H:KH} {t:Ptn} {b:OA} {p:List Value} (hk:kold H 3 b 1=some p) (h1:NdC H t p):∃ n o,b=some ⟨n,o,none⟩/\∀ H',Le H H'->ld H' ⟨n,o+Int.toNat 0*3,none⟩ p:=by
 obtain ⟨n,o,e,r⟩:=rowAddr hk (by omega)
 obtain ⟨a1,n1,c1,b1,m1,d1,rfl⟩:=h1.three
 exact ⟨n,o,e,fun H' hl=>hl.ld (r 0 3 (by omega))⟩
end Go.Ew
namespace Go.Proofs.YtfhjkkbaghanhaaGreat
open Go.Ev Go.Ew
namespace Va
section
variable (ok : EnvOk (env Tryz.prog))
include ok
theorem l70_2 {L:List Rg} {a:OA} {c:Nat} {H:KH} {Q:PQ} (ha:kold H 2 a L.length=some (rgC L)) (hl:L.length<=24) (hq:∀ H',Le H H'->Q (.string (braceT L)) H'):vc81_L2 a L.length c H Q:=by
 unfold vc81_L2
 refine ⟨fun n3 s4 a5 n6 n7 x8 x9 H10=>a5=a/\n6=L.length/\x8=(L.length:Nat)/\Le H H10/\∃ k:Nat,x9=k/\k<=L.length/\n3=L.length-k/\s4.size<=5*k/\rangesT L (ByteArray.mk #[])=rangesT (L.drop k) s4,⟨L.length,rfl,rfl,rfl,Le.refl _,0,rfl,by omega,rfl,by decide,by simp⟩,?_⟩
 rintro n3 s4 a5 n6 n7 x8 x9 H10 ⟨rfl,rfl,rfl,hle,k,rfl,hk,rfl,hs,hr⟩
 refine ⟨fun hlt=>?_,fun hge=>?_⟩
 .have hlt:k<L.length:=by have:=of_decide_eq_true hlt; omega
  obtain ⟨b1,o1,e1,r1⟩:=rowAddr (hle.kold ha) (by omega)
  have e0:Int.toNat ((k:Nat):Int)=k:=by omega
  have g1:=r1 (k*2) 2 (by omega)
  rw [rgC_at (show L[k]? = some L[k] by simp [hlt])] at g1
  have hsz:=rangeT_size L[k]
  rw [e0]
  refine ⟨⟨by omega,by omega⟩,b1,o1,e1,_,_,g1,c92 ok fun H' hl'=>⟨_,rfl,by omega,L.length-(k+1),by omega,rfl,rfl,rfl,hle.trans hl',k+1,by rw [wrap64 (by omega) (by omega)]; omega,by omega,rfl,by rw [size_app]; omega,?_⟩⟩
  rw [hr,List.drop_eq_getElem_cons hlt]
  rfl
 .have hge:k=L.length:=by have:=of_decide_eq_false hge; omega
  subst hge
  rw [List.drop_length] at hr
  have hr:rangesT L (ByteArray.mk #[])=s4:=hr
  refine ⟨by rw [lit1]; omega,by rw [size_app,lit1,lit1]; omega,?_⟩
  have:=hq H10 hle
  unfold braceT at this
  rw [hr] at this
  exact this
theorem c81 {L:List Rg} {a:OA} {c:Nat} {H:KH} {Q:PQ} (ha:kold H 2 a L.length=some (rgC L)) (hl:L.length<=24) (hq:∀ H',Le H H'->Q (.string (classT L)) H'):Does (env Tryz.prog) 81 [.agg #[.int .i64 1,.slice a L.length c]] H Q:=by
 refine fn81 ok ⟨fun h1=>?_,fun h1=>?_⟩
 .have h1:L.length=1:=by have:=of_decide_eq_true h1; omega
  obtain ⟨r,rfl⟩:∃ r,L=[r]:=by
   match L,h1 with
   | [r],_=>exact ⟨r,rfl⟩
  obtain ⟨b1,o1,e1,r1⟩:=rowAddr ha (by simp)
  have g1:=r1 0 1 (by simp)
  have g1:ld H ⟨b1,o1+Int.toNat 0*2+0,none⟩ [.int .u8 r.1]:=g1
  refine ⟨⟨by decide,by simp⟩,b1,o1,e1,rfl,_,g1,fun n4 h4=>⟨[.int .u8 r.1],[UInt8.ofNat r.1.toNat],lit_kold (if_pos rfl) rfl,rfl,(show 1+1<=1000000 by omega),fun n7 h7=>?_⟩⟩
  have l1:Le H (H.new n4 (mkEnt [.int .u8 r.1] 0)):=Le.new h4
  generalize hE:mkEnt [Value.string (ByteArray.mk #[46]),.string (b1B r.1),.string (ByteArray.mk #[92]++b1B r.1)] 0=E
  have hK:Le H ((H.new n4 (mkEnt [.int .u8 r.1] 0)).new n7 E):=l1.trans (Le.new h7)
  unfold vc81_L3
  refine ⟨fun n3 x4 a5 n6 n7_1 a8 n9 n10 x11 x12 H13=>x4=1/\a5=a/\n6=1/\a8=some ⟨n7,0,none⟩/\n9=3/\x11=3/\Le ((H.new n4 (mkEnt [.int .u8 r.1] 0)).new n7 E) H13/\∃ k:Nat,x12=k/\k<=3/\n3=3-k/\classT [r]=tryT [r] ([ByteArray.mk #[46],b1B r.1,ByteArray.mk #[92]++b1B r.1].drop k),⟨3,rfl,rfl,rfl,rfl,rfl,rfl,?_,0,rfl,by omega,rfl,classT_one r⟩,?_⟩
  .rw [<- hE]; exact Le.refl _
  rintro n3 x4 a5 n6 n7_1 a8 n9 n10 x11 x12 H13 ⟨rfl,rfl,rfl,rfl,rfl,rfl,hle,k,rfl,hk,rfl,ht⟩
  refine ⟨fun hlt=>?_,fun hge=>?_⟩
  .have hlt:k<3:=by have:=of_decide_eq_true hlt; omega
   have e0:Int.toNat ((k:Nat):Int)=k:=by omega
   rw [e0]
   have hat:∃ s:ByteArray,ld H13 ⟨n7,0+k*1,none⟩ [.string s]/\[ByteArray.mk #[46],b1B r.1,ByteArray.mk #[92]++b1B r.1].drop k=s :: [ByteArray.mk #[46],b1B r.1,ByteArray.mk #[92]++b1B r.1].drop (k+1):=by
    have hn7:H13 n7=some (mkEnt [Value.string (ByteArray.mk #[46]),.string (b1B r.1),.string (ByteArray.mk #[92]++b1B r.1)] 0):=by rw [hE]; exact hle n7 E (if_pos rfl)
    have:k=0\/k=1\/k=2:=by omega
    rcases this with q | q | q<;>subst q
    .exact ⟨_,litAt hn7 rfl,rfl⟩
    .exact ⟨_,litAt hn7 rfl,rfl⟩
    .exact ⟨_,litAt hn7 rfl,rfl⟩
   obtain ⟨s,hs,hd⟩:=hat
   rw [hd] at ht
   refine ⟨⟨by omega,by omega⟩,n7,0,rfl,s,hs,fun n41 h41=>?_⟩
   have l2:=Le.new (e:=mkEnt [.int .i64 1,.slice a5 1 n7_1] 0) h41
   have hi:ItR (H13.new n41 (mkEnt [.int .i64 1,.slice a5 1 n7_1] 0)) [(1,[r])] (some ⟨n41,0,none⟩):=⟨_,lit_kold (if_pos rfl) rfl,a5,n7_1,[],rfl,l2.kold (hle.kold (hK.kold ha)),rfl⟩
   refine c58 ok (l:=[(1,[r])]) hi fun H7 hl7=>⟨_,rfl,fun hy=>?_,fun hn=>?_⟩
   .have:=hq H7 (((hK.trans hle).trans l2).trans hl7)
    rw [ht,tryT,if_pos hy] at this
    exact this
   .refine ⟨3-(k+1),by omega,rfl,rfl,rfl,rfl,rfl,rfl,(hle.trans l2).trans hl7,k+1,by rw [wrap64 (by omega) (by omega)]; omega,by omega,rfl,?_⟩
    rw [ht,tryT,if_neg (by rw [hn]; decide)]
  .have hge:k=3:=by have:=of_decide_eq_false hge; omega
   subst hge
   have ht:classT [r]=braceT [r]:=ht
   rw [ht] at hq
   exact l70_2 ok (L:=[r]) (hle.kold (hK.kold ha)) hl fun H' hl'=>hq H' ((hK.trans hle).trans hl')
 .have h1:L.length≠1:=by have:=of_decide_eq_false h1; omega
  rw [classT_many h1] at hq
  exact l70_2 ok ha hl hq
theorem c93 {t:Ptn} {H:KH} {Q:PQ} (hq:Q (.int .i64 t.loose) H):Does (env Tryz.prog) 93 [.int .i64 t.op] H Q:=by
 refine fn93 ok ⟨fun h=>?_,fun h=>⟨fun h2=>?_,fun h2=>?_⟩⟩
 .cases t<;>first | exact hq | simp [Ptn.op] at h
 .cases t<;>first | exact hq | simp [Ptn.op] at h2
 .cases t<;>first | exact hq | simp [Ptn.op] at h h2
def TxD (t:Ptn):Prop:=∀ (H:KH) (cs:List Value) (Q:PQ),NdC H t cs->(∀ H',Le H H'->Q (.string t.text) H')->Does (env Tryz.prog) 59 [.agg cs.toArray] H Q
theorem c82 {t:Ptn} (hT:TxD t) (hf:t.fit) {k:Int} {H:KH} {cs:List Value} {Q:PQ} (hn:NdC H t cs) (hs:t.items.length<=100) (hq:∀ H',Le H H'->Q (.string (brk k t.loose t.text)) H'):Does (env Tryz.prog) 82 [.agg cs.toArray,.int .i64 k] H Q:=by
 have h3:=hn.three
 obtain ⟨a,n,c,b,m,d,rfl⟩:=h3
 have hsz:=text_size t hf
 refine fn82 ok (c93 ok ⟨_,rfl,fun h=>?_,fun h=>?_⟩)
 .have h:k<t.loose:=of_decide_eq_true h
  refine hT H _ _ hn fun H' hl=>⟨_,rfl,by rw [lit1]; omega,by rw [size_app,lit1,lit1]; omega,?_⟩
  have:=hq H' hl
  unfold brk at this
  rw [if_pos h] at this
  exact this
 .have h:¬ k<t.loose:=of_decide_eq_false h
  refine hT H _ _ hn fun H' hl=>⟨_,rfl,?_⟩
  have:=hq H' hl
  unfold brk at this
  rw [if_neg h] at this
  exact this
theorem c59:∀ t:Ptn,t.fit->t.items.length<=100->TxD t
 | .cls L,hf,hs=>by
   intro H cs Q hn hq
   obtain ⟨a,c,b,d,rfl,h2⟩:=hn
   refine fn59 ok ⟨fun _=>c81 ok h2 hf fun H' hl=>⟨_,rfl,hq H' hl⟩,fun h=>by simp at h⟩
 | .join t u,hf,hs=>by
   intro H cs Q hn hq
   obtain ⟨a,c,b,d,p,q,rfl,h2,h3,h4⟩:=hn
   simp only [Ptn.items,List.length_append,List.length_cons,List.length_nil] at hs
   have st:=text_size t hf.1
   have su:=text_size u hf.2
   have bt:=brk_size 1 t.loose t.text
   have bu:=brk_size 0 u.loose u.text
   obtain ⟨n,o,e,hk⟩:=kid2 h2 h3 h4
   obtain ⟨g1,g2⟩:=hk H (Le.refl _)
   have h3':=h3
   have h4':=h4
   obtain ⟨a1,n1,c1,b1,m1,d1,rfl⟩:=h3.three
   obtain ⟨a2,n2,c2,b2,m2,d2,rfl⟩:=h4.three
   refine fn59 ok ⟨fun h=>by simp at h,fun _=>⟨fun _=>⟨trivial,⟨by decide,by decide⟩,n,o,e,_,_,_,_,_,_,_,g1,⟨by decide,by decide⟩,n,o,e,_,_,_,_,_,_,_,g2,?_⟩,fun h=>by simp at h⟩⟩
   refine c82 ok (c59 t hf.1 (by omega)) hf.1 h3' (by omega) fun H' hl=>⟨_,rfl,?_⟩
   obtain ⟨_,g3⟩:=hk H' hl
   refine ⟨⟨⟨rfl,rfl⟩,rfl,⟨⟨by decide,by decide⟩,n,o,e,rfl⟩,⟨_,_,_,_,_,_,_,g3,rfl⟩,trivial⟩,c82 ok (c59 u hf.2 (by omega)) hf.2 (h4'.mono hl) (by omega) fun H2 hl2=>⟨_,rfl,trivial,by omega,hq H2 (hl.trans hl2)⟩⟩
 | .alt t u,hf,hs=>by
   intro H cs Q hn hq
   obtain ⟨a,c,b,d,p,q,rfl,h2,h3,h4⟩:=hn
   simp only [Ptn.items,List.length_append,List.length_cons,List.length_nil] at hs
   have st:=text_size t hf.1
   have su:=text_size u hf.2
   have bt:=brk_size 2 t.loose t.text
   have bu:=brk_size 1 u.loose u.text
   obtain ⟨n,o,e,hk⟩:=kid2 h2 h3 h4
   obtain ⟨g1,g2⟩:=hk H (Le.refl _)
   have h3':=h3
   have h4':=h4
   obtain ⟨a1,n1,c1,b1,m1,d1,rfl⟩:=h3.three
   obtain ⟨a2,n2,c2,b2,m2,d2,rfl⟩:=h4.three
   refine fn59 ok ⟨fun h=>by simp at h,fun _=>⟨fun h=>by simp at h,fun _=>⟨fun _=>⟨trivial,⟨by decide,by decide⟩,n,o,e,_,_,_,_,_,_,_,g1,⟨by decide,by decide⟩,n,o,e,_,_,_,_,_,_,_,g2,?_⟩,fun h=>by simp at h⟩⟩⟩
   refine c82 ok (c59 t hf.1 (by omega)) hf.1 h3' (by omega) fun H' hl=>⟨_,rfl,?_⟩
   obtain ⟨_,g3⟩:=hk H' hl
   refine ⟨⟨⟨rfl,rfl⟩,rfl,⟨⟨by decide,by decide⟩,n,o,e,rfl⟩,⟨_,_,_,_,_,_,_,g3,rfl⟩,trivial⟩,by rw [lit1]; omega,c82 ok (c59 u hf.2 (by omega)) hf.2 (h4'.mono hl) (by omega) fun H2 hl2=>⟨_,rfl,⟨⟨by rw [lit1]; omega,rfl⟩,trivial⟩,by rw [size_app,lit1]; omega,hq H2 (hl.trans hl2)⟩⟩
 | .star t,hf,hs=>by
   intro H cs Q hn hq
   obtain ⟨a,c,b,d,p,rfl,h2,h3⟩:=hn
   simp only [Ptn.items,List.length_append,List.length_cons,List.length_nil] at hs
   have st:=text_size t hf
   have bt:=brk_size 0 t.loose t.text
   obtain ⟨n,o,e,hk⟩:=kid1 h2 h3
   have g1:=hk H (Le.refl _)
   have h3':=h3
   obtain ⟨a1,n1,c1,b1,m1,d1,rfl⟩:=h3.three
   exact fn59 ok ⟨fun h=>by simp at h,fun _=>⟨fun h=>by simp at h,fun _=>⟨fun h=>by simp at h,fun _=>⟨fun _=>⟨⟨by decide,by decide⟩,n,o,e,_,_,_,_,_,_,_,g1,c82 ok (c59 t hf (by omega)) hf h3' (by omega) fun H' hl=>⟨_,rfl,by rw [lit1]; omega,hq H' hl⟩⟩,fun h=>by simp at h⟩⟩⟩⟩
 | .plus t,hf,hs=>by
   intro H cs Q hn hq
   obtain ⟨a,c,b,d,p,rfl,h2,h3⟩:=hn
   simp only [Ptn.items,List.length_append,List.length_cons,List.length_nil] at hs
   have st:=text_size t hf
   have bt:=brk_size 0 t.loose t.text
   obtain ⟨n,o,e,hk⟩:=kid1 h2 h3
   have g1:=hk H (Le.refl _)
   have h3':=h3
   obtain ⟨a1,n1,c1,b1,m1,d1,rfl⟩:=h3.three
   exact fn59 ok ⟨fun h=>by simp at h,fun _=>⟨fun h=>by simp at h,fun _=>⟨fun h=>by simp at h,fun _=>⟨fun h=>by simp at h,fun _=>⟨fun _=>⟨⟨by decide,by decide⟩,n,o,e,_,_,_,_,_,_,_,g1,c82 ok (c59 t hf (by omega)) hf h3' (by omega) fun H' hl=>⟨_,rfl,by rw [lit1]; omega,hq H' hl⟩⟩,fun h=>by simp at h⟩⟩⟩⟩⟩
 | .may t,hf,hs=>by
   intro H cs Q hn hq
   obtain ⟨a,c,b,d,p,rfl,h2,h3⟩:=hn
   simp only [Ptn.items,List.length_append,List.length_cons,List.length_nil] at hs
   have st:=text_size t hf
   have bt:=brk_size 0 t.loose t.text
   obtain ⟨n,o,e,hk⟩:=kid1 h2 h3
   have g1:=hk H (Le.refl _)
   have h3':=h3
   obtain ⟨a1,n1,c1,b1,m1,d1,rfl⟩:=h3.three
   exact fn59 ok ⟨fun h=>by simp at h,fun _=>⟨fun h=>by simp at h,fun _=>⟨fun h=>by simp at h,fun _=>⟨fun h=>by simp at h,fun _=>⟨fun h=>by simp at h,fun _=>⟨fun _=>⟨⟨by decide,by decide⟩,n,o,e,_,_,_,_,_,_,_,g1,c82 ok (c59 t hf (by omega)) hf h3' (by omega) fun H' hl=>⟨_,rfl,by rw [lit1]; omega,hq H' hl⟩⟩,fun h=>by simp at h⟩⟩⟩⟩⟩⟩
end
end Va
end Go.Proofs.YtfhjkkbaghanhaaGreat
namespace Go.Ew
open Go.Ev Go.Deep
theorem nat0 (l:Nat):natOf l none=some l:=rfl
theorem natI (l k:Nat):natOf l (some (.int .i64 ((k:Nat):Int)))=some k:=by simp [natOf]
theorem nble (a b:Nat) (h:a<=b):Nat.ble a b=true:=Nat.ble_eq_true_of_le h
theorem nblt (a b:Nat) (h:a<b):Nat.blt a b=true:=Nat.ble_eq_true_of_le h
theorem nbltF (a b:Nat) (h:¬ a<b):Nat.blt a b=false:=by
 cases hb:Nat.blt a b with
 | false=>rfl
 | true=>exact absurd (Nat.le_of_ble_eq_true hb) h
theorem Gr.cap {H:KH} {sz n b:Nat} {e:Ent} {cs ex:List Value} (h1:H b=some e) (h2:e.unk=sz) (h3:e.len=(cs++ex).length) (h6:cs.length=n*sz) (hz:1<=sz):kcap H ⟨b,0,none⟩ unkU sz=some (e.len/sz)/\n<=e.len/sz:=by
 constructor
 .unfold kcap
  have hb0:Nat.blt unkU unkU=false:=rfl
  have hq:(Nat.beq e.unk sz&&Nat.beq 0 ((unkU-unkU)*sz)&&Nat.ble 1 sz&&Nat.ble 0 e.len)=true:=by
   rw [h2,Nat.sub_self,nble 1 sz hz]; simp
  simp only [hb0,cond_false,h1,hq,cond_true,Nat.sub_zero]
 .rw [h3,List.length_append,h6,Nat.le_div_iff_mul_le (by omega)]
  omega
theorem Gr.from_ {H:KH} {sz n c cut:Nat} {a:OA} {cs ex:List Value} (h:Gr H sz a n c cs ex) (hc:cut<=n) (hz:1<=sz) :
 ∃ a' c',kslice H sz a n c (some (.int .i64 ((cut:Nat):Int))) none=some (.slice a' (n-cut) c')/\kold H sz a' (n-cut)=some (cs.drop (cut*sz)):=by
 cases h with
 | nil =>
   have:cut=0:=by omega
   subst this
   exact ⟨none,0,rfl,by simp [kold]⟩
 | on b _ e _ _ h1 h2 h3 h4 h5 h6 =>
   obtain ⟨hcap,hn⟩:=Gr.cap h1 h2 h3 h6 hz
   unfold kslice
   simp only [Option.isNone_none,cond_true,natI,nat0,hcap]
   have hq:(Nat.ble cut n&&Nat.ble n (e.len/sz)&&Nat.ble n (e.len/sz)&&true)=true:=by
    rw [nble _ _ hc,nble _ _ hn]; rfl
   rw [hq]
   have hb0:Nat.blt unkU unkU=false:=rfl
   simp only [cond_true,hb0,cond_false]
   by_cases hl:cut<e.len/sz
   .rw [nblt _ _ hl]
    refine ⟨_,_,rfl,kold_some.2 ⟨e,h1,?_⟩⟩
    have r1:=rd_drop h4 (m:=cut*sz) (by rw [List.length_append,h6]; have:=Nat.mul_le_mul_right sz hc; omega)
    have r2:=rd_take r1 (m:=(n-cut)*sz) (by rw [List.length_append,h6,Nat.sub_mul]; omega)
    rw [List.drop_append_of_le_length (by rw [h6]; exact Nat.mul_le_mul_right sz hc)] at r2
    have hl2:(cs.drop (cut*sz)).length=(n-cut)*sz:=by rw [List.length_drop,h6,Nat.sub_mul]
    rw [<- hl2,List.take_left] at r2
    rw [<- hl2]
    exact r2
   .rw [nbltF _ _ hl]
    have hcn:cut=n:=by omega
    subst hcn
    have hd:cs.drop (cut*sz)=[]:=List.drop_eq_nil_of_le (by rw [h6]; exact Nat.le_refl _)
    rw [hd,Nat.sub_self]
    cases hz0:Nat.beq cut 0 with
    | true =>
      have:cut=0:=Nat.eq_of_beq_eq_true hz0
      subst this
      refine ⟨_,_,rfl,?_⟩
      simp [kold,KH.load,h1,rd]
    | false=>exact ⟨_,_,rfl,by simp [kold]⟩
theorem Gr.upto {H:KH} {sz n c cut:Nat} {a:OA} {cs ex:List Value} (h:Gr H sz a n c cs ex) (hc:cut<=n) (hz:1<=sz) :
 kslice H sz a n c none (some (.int .i64 ((cut:Nat):Int)))=some (.slice a cut c)/\Gr H sz a cut c (cs.take (cut*sz)) (cs.drop (cut*sz)++ex):=by
 cases h with
 | nil =>
   have:cut=0:=by omega
   subst this
   exact ⟨rfl,by simpa using Gr.nil⟩
 | on b _ e _ _ h1 h2 h3 h4 h5 h6 =>
   obtain ⟨hcap,hn⟩:=Gr.cap h1 h2 h3 h6 hz
   have hre:cs.take (cut*sz)++(cs.drop (cut*sz)++ex)=cs++ex:=by rw [<- List.append_assoc,List.take_append_drop]
   refine ⟨?_,.on b cut e _ _ h1 h2 (by rw [hre]; exact h3) (by rw [hre]; exact h4) h5 (by rw [List.length_take,h6]; have:=Nat.mul_le_mul_right sz hc; omega)⟩
   unfold kslice
   simp only [Option.isNone_none,cond_true,natI,nat0,hcap]
   have hq:(Nat.ble 0 cut&&Nat.ble cut (e.len/sz)&&Nat.ble n (e.len/sz)&&true)=true:=by
    rw [nble _ _ (Nat.zero_le _),nble _ _ (by omega:cut<=e.len/sz),nble _ _ hn]; rfl
   rw [hq]
   have hb0:Nat.blt unkU unkU=false:=rfl
   simp only [cond_true,hb0,cond_false]
   by_cases hl:0<e.len/sz
   .rw [nblt _ _ hl]
    simp
   .rw [nbltF _ _ hl]
    rfl
theorem Own.know' {X H:KH} {sz n c:Nat} {a:OA} {cs:List Value} (h:Own X H sz a n c cs) (hl:Le X H):∃ Y,Le X Y/\Le Y H/\kold Y sz a n=some cs/\∀ k,blk a≠some k->X k=none->Y k=none:=by
 have key:∀ (b:Nat) (e:Ent),H b=some e->X b=none->Le X (X.new b e)/\Le (X.new b e) H:=fun b e h1 h2=>by
  refine ⟨Le.new h2,fun k e' q=>?_⟩
  simp only [KH.new] at q
  split at q
  .rename_i hk; subst hk; cases q; exact h1
  .exact hl k e' q
 cases h with
 | nil=>exact ⟨X,Le.refl _,hl,rfl,fun k _ q=>q⟩
 | lit b _ _ h1 h2 h3 h4 =>
   obtain ⟨k1,k2⟩:=key b _ h1 h4
   refine ⟨_,k1,k2,lit_kold (if_pos rfl) h2,fun k q1 q2=>?_⟩
   simp only [KH.new]; rw [if_neg (fun q=>q1 (by rw [q]; rfl))]; exact q2
 | grown b _ _ e h1 h2 h3 h4 h5 h6 =>
   obtain ⟨k1,k2⟩:=key b _ h1 h5
   refine ⟨_,k1,k2,kold_some.2 ⟨e,if_pos rfl,h4⟩,fun k q1 q2=>?_⟩
   simp only [KH.new]; rw [if_neg (fun q=>q1 (by rw [q]; rfl))]; exact q2
def two (f:Ptn->Ptn->Ptn):List Ptn->Option (List Ptn)
 | b :: a :: r=>some (f a b :: r)
 | _=>none
def one1 (f:Ptn->Ptn):List Ptn->Option (List Ptn)
 | a :: r=>some (f a :: r)
 | _=>none
def stk1 (tp:List Ptn) (i:It):Option (List Ptn) :=
 if i.1=1 then some (.cls i.2 :: tp) else if i.1=2 then two .join tp else if i.1=3 then two .alt tp else
 if i.1=4 then one1 .star tp else if i.1=5 then one1 .plus tp else if i.1=6 then one1 .may tp else none
def stkM:List It->List Ptn->Option (List Ptn)
 | [],tp=>some tp
 | i :: l,tp=>match stk1 tp i with
   | none=>none
   | some tq=>stkM l tq
def flatT (tp:List Ptn):List It:=tp.reverse.flatMap Ptn.items
theorem flat_cons (t:Ptn) (r:List Ptn):flatT (t :: r)=flatT r++t.items:=by
 unfold flatT
 simp
theorem two_len {f:Ptn->Ptn->Ptn} {tp:List Ptn} (h:2<=tp.length):∃ a b r,tp=b :: a :: r/\two f tp=some (f a b :: r):=by
 match tp,h with
 | b :: a :: r,_=>exact ⟨a,b,r,rfl,rfl⟩
theorem one_len {f:Ptn->Ptn} {tp:List Ptn} (h:1<=tp.length):∃ a r,tp=a :: r/\one1 f tp=some (f a :: r):=by
 match tp,h with
 | a :: r,_=>exact ⟨a,r,rfl,rfl⟩
theorem stk_one {i:It} {tp:List Ptn} (h:okIt i) (hc:1<=(tp.length:Int)+cntI [i]):∃ tq,stk1 tp i=some tq/\flatT tq=flatT tp++[i]/\(tq.length:Int)=tp.length+cntI [i]:=by
 obtain ⟨op,L⟩:=i
 rcases h with ⟨h1,h2⟩ | ⟨h1,h2⟩
 .have h1:op=1:=h1
  subst h1
  exact ⟨_,rfl,flat_cons _ _,by simp [cntI]⟩
 .have h2:L=[]:=h2
  subst h2
  have h1:op=2\/op=3\/op=4\/op=5\/op=6:=h1
  rcases h1 with q | q | q | q | q<;>subst q
  .simp [cntI] at hc
   obtain ⟨a,b,r,rfl,h⟩:=two_len (f:=.join) (tp:=tp) (by omega)
   exact ⟨_,h,by simp [flat_cons,Ptn.items],by simp [cntI]; omega⟩
  .simp [cntI] at hc
   obtain ⟨a,b,r,rfl,h⟩:=two_len (f:=.alt) (tp:=tp) (by omega)
   exact ⟨_,h,by simp [flat_cons,Ptn.items],by simp [cntI]; omega⟩
  .simp [cntI] at hc
   obtain ⟨a,r,rfl,h⟩:=one_len (f:=.star) (tp:=tp) (by omega)
   exact ⟨_,h,by simp [flat_cons,Ptn.items],by simp [cntI]⟩
  .simp [cntI] at hc
   obtain ⟨a,r,rfl,h⟩:=one_len (f:=.plus) (tp:=tp) (by omega)
   exact ⟨_,h,by simp [flat_cons,Ptn.items],by simp [cntI]⟩
  .simp [cntI] at hc
   obtain ⟨a,r,rfl,h⟩:=one_len (f:=.may) (tp:=tp) (by omega)
   exact ⟨_,h,by simp [flat_cons,Ptn.items],by simp [cntI]⟩
theorem stk_all:∀ (m l:List It) (tp:List Ptn),(∀ i∈m,okIt i)->(∀ k,0<k->k<=m.length->1<=(tp.length:Int)+cntI (m.take k))->flatT tp=l->
 ∃ tq,stkM m tp=some tq/\flatT tq=l++m/\(tq.length:Int)=tp.length+cntI m
 | [],l,tp,h1,h2,h3=>⟨tp,rfl,by simpa using h3,by simp [cntI]⟩
 | i :: m,l,tp,h1,h2,h3=>by
   obtain ⟨tq,q1,q2,q3⟩:=stk_one (tp:=tp) (h1 i (by simp)) (by simpa using h2 1 (by omega) (by simp))
   obtain ⟨tr,r1,r2,r3⟩:=stk_all m (l++[i]) tq (fun j hj=>h1 j (by simp [hj])) (fun k hk hk2=>by
    have:=h2 (k+1) (by omega) (by simp; omega)
    rw [List.take_succ_cons,show i :: m.take k=[i]++m.take k from rfl,cnt_app] at this
    omega) (by rw [q2,h3])
   refine ⟨tr,?_,by rw [r2]; simp,?_⟩
   .rw [stkM,q1]; exact r1
   .rw [show i :: m=[i]++m from rfl,cnt_app]; omega
theorem tree_of {l:List It} (h:Fine l) (hc:cntI l=1):∃ t,stkM l []=some [t]/\t.items=l:=by
 obtain ⟨tq,q1,q2,q3⟩:=stk_all l [] [] h.each (fun k h1 h2=>by simpa using h.pre k h1 h2) rfl
 rw [hc] at q3
 match tq,q1,q2,q3 with
 | [t],q1,q2,q3=>exact ⟨t,q1,by simpa [flatT] using q2⟩
 | [],_,_,q3=>simp at q3
 | _ :: _ :: _,_,_,q3=>simp at q3; omega
theorem fit_of:∀ (t:Ptn),(∀ i∈t.items,i.2.length<=24)->t.fit
 | .cls L,h=>h (1,L) (by simp [Ptn.items])
 | .join a b,h=>⟨fit_of a fun i hi=>h i (by simp [Ptn.items,hi]),fit_of b fun i hi=>h i (by simp [Ptn.items,hi])⟩
 | .alt a b,h=>⟨fit_of a fun i hi=>h i (by simp [Ptn.items,hi]),fit_of b fun i hi=>h i (by simp [Ptn.items,hi])⟩
 | .star a,h=>fit_of a fun i hi=>h i (by simp [Ptn.items,hi])
 | .plus a,h=>fit_of a fun i hi=>h i (by simp [Ptn.items,hi])
 | .may a,h=>fit_of a fun i hi=>h i (by simp [Ptn.items,hi])
def StkC (X:KH):List Ptn->List Value->Prop
 | [],cs=>cs=[]
 | t :: r,cs=>∃ p ds,cs=p++ds/\NdC X t p/\StkC X r ds
theorem StkC.mono {X Y:KH} (hl:Le X Y):∀ {l:List Ptn} {cs:List Value},StkC X l cs->StkC Y l cs
 | [],cs,h=>h
 | t :: r,cs,⟨p,ds,h1,h2,h3⟩=>⟨p,ds,h1,h2.mono hl,h3.mono hl⟩
theorem NdC.len {X:KH} {t:Ptn} {cs:List Value} (h:NdC X t cs):cs.length=3:=by
 obtain ⟨a,n,c,b,m,d,rfl⟩:=h.three
 rfl
theorem StkC.len {X:KH}:∀ {l:List Ptn} {cs:List Value},StkC X l cs->cs.length=l.length*3
 | [],cs,h=>by
   have h:cs=[]:=h
   subst h; rfl
 | t :: r,cs,⟨p,ds,h1,h2,h3⟩=>by
   subst h1
   have:=h2.len
   have:=h3.len
   simp only [List.length_append,List.length_cons]
   omega
theorem StkC.app {X:KH}:∀ {l m:List Ptn} {cs:List Value},StkC X (l++m) cs->∃ c1 c2,cs=c1++c2/\StkC X l c1/\StkC X m c2
 | [],m,cs,h=>⟨[],cs,rfl,rfl,h⟩
 | t :: r,m,cs,⟨p,ds,h1,h2,h3⟩=>by
   obtain ⟨c1,c2,q1,q2,q3⟩:=StkC.app h3
   exact ⟨p++c1,c2,by rw [h1,q1,List.append_assoc],⟨p,c1,rfl,h2,q2⟩,q3⟩
theorem StkC.snoc {X:KH}:∀ {l:List Ptn} {t:Ptn} {cs p:List Value},StkC X l cs->NdC X t p->StkC X (l++[t]) (cs++p)
 | [],t,cs,p,h,k=>by
   have h:cs=[]:=h
   subst h
   exact ⟨p,[],by simp,k,rfl⟩
 | u :: r,t,cs,p,⟨p',ds,h1,h2,h3⟩,k=>⟨p',ds++p,by rw [h1,List.append_assoc],h2,h3.snoc k⟩
abbrev NT3:TI:=⟨3,56,true,3,0,0,[(0,2),(2,1)],[.int .i64 0,.slice none 0 0,.slice none 0 0]⟩
def takenM (op:Int):Nat:=if op=2\/op=3 then 2 else if op=4\/op=5\/op=6 then 1 else 0
theorem Gr.at' {H:KH} {sz n c:Nat} {a:OA} {cs ex:List Value} (h:Gr H sz a n c cs ex) {b:Nat} (hb:blk a=some b):∃ e,H b=some e:=by
 cases h with
 | nil=>cases hb
 | on b' _ e _ _ h1 h2 h3 h4 h5 h6=>cases hb; exact ⟨e,h1⟩
structure Wst (X H:KH) (tp:List Ptn) (a:OA) (n c:Nat):Prop where
 le:Le X H
 ex:∃ cs e,Gr H 3 a n c cs e/\StkC X tp.reverse cs
 out:∀ b,blk a=some b->X b=none
 len:n=tp.length
theorem Wst.put {X H Y H1:KH} {tp r:List Ptn} {t:Ptn} {a:OA} {n c cut:Nat} {p:List Value} (h:Wst X H tp a n c) (hl:Le X Y) (hY:Le Y H1) (hH:Le H H1) (ho:∀ b,blk a=some b->Y b=none) (hr:∃ s,tp.reverse=r.reverse++s) (hc:cut=r.length) (hp:NdC Y t p) (hs:tp.length<=1000) :
 ∃ a9 n10 n11,kslice H1 3 a n c none (some (.int .i64 ((cut:Nat):Int)))=some (.slice a9 n10 n11)/\∀ n12,H1 n12=none->∀ n13,(H1.new n12 (mkEnt p 0)) n13=none->∃ n14 l15,knew (H1.new n12 (mkEnt p 0)) NT3 (.slice (some ⟨n12,0,none⟩) 1 1)=some (n14,l15)/\
  ∃ a16 n17 n18 H19,kappend (H1.new n12 (mkEnt p 0)) n13 NT3 a9 n10 n11 n14 l15=some (.slice a16 n17 n18,H19)/\Wst Y H19 (t :: r) a16 n17 n18:=by
 obtain ⟨cs,e,h1,h2⟩:=h.ex
 obtain ⟨s,hs2⟩:=hr
 have hcut:cut<=n:=by
  have:=congrArg List.length hs2
  simp at this
  rw [h.len]; omega
 have g1:=h1.agree (H':=H1) fun k e _ q=>hH k e q
 obtain ⟨k1,k2⟩:=g1.upto hcut (by decide)
 rw [hs2] at h2
 obtain ⟨c1,c2,q1,q2,q3⟩:=StkC.app h2
 have hl1:=q2.len
 have ht:cs.take (cut*3)=c1:=by
  rw [q1,hc,<- List.length_reverse,<- hl1,List.take_left]
 rw [ht] at k2
 refine ⟨_,_,_,k1,fun n12 h12 n13 h13=>?_⟩
 have hp3:=hp.len
 have g2:=k2.agree (H':=H1.new n12 (mkEnt p 0)) fun k e _ q=>Le.new h12 k e q
 obtain ⟨a',H',ex',f1,f2,_,f4,f5⟩:=g2.append (ti:=NT3) (new:=p) h13 hp3 (by have:=h.len; omega) (by decide) (by decide)
 have hY2:Le Y (H1.new n12 (mkEnt p 0)):=hY.trans (Le.new h12)
 refine ⟨1,p,knew_of (lit_kold (if_pos rfl) (by rw [hp3]; rfl)),a',_,_,H',f1,⟨fun k e q=>f4 k e (hY2 k e q) fun x=>(by rw [ho k x] at q; cases q),⟨_,_,f2,?_⟩,fun b q=>?_,by simp [hc]⟩⟩
 .rw [List.reverse_cons]
  exact (q2.mono hl).snoc hp
 .rcases f5 b q with q | q
  .exact ho b q
  .rw [q]; exact hY2.none h13
end Go.Ew
namespace Go.Proofs.YtfhjkkbaghanhaaGreat
open Go.Ev Go.Ew
namespace Va
section
variable (ok : EnvOk (env Tryz.prog))
include ok
theorem c77 {op:Int} {H:KH} {Q:PQ} (hq:Q (.int .i64 ((takenM op:Nat):Int)) H):Does (env Tryz.prog) 77 [.int .i64 op] H Q:=by
 unfold takenM at hq
 refine fn77 ok ⟨fun h=>?_,fun h=>⟨fun h2=>?_,fun h2=>⟨fun h3=>?_,fun h3=>⟨fun h4=>?_,fun h4=>⟨fun h5=>?_,fun h5=>?_⟩⟩⟩⟩⟩
 .have h:=of_decide_eq_true h; subst h; exact hq
 .have h:=of_decide_eq_true h2; subst h; exact hq
 .have h:=of_decide_eq_true h3; subst h; exact hq
 .have h:=of_decide_eq_true h4; subst h; exact hq
 .have h:=of_decide_eq_true h5; subst h; exact hq
 .have h:=of_decide_eq_false h
  have h2:=of_decide_eq_false h2
  have h3:=of_decide_eq_false h3
  have h4:=of_decide_eq_false h4
  have h5:=of_decide_eq_false h5
  rw [if_neg (by omega),if_neg (by omega)] at hq
  exact hq
theorem c78 {a:OA} {n c:Nat} {cs:List Value} {H:KH} {Q:PQ} (hk:kold H 3 a n=some cs) (hn:n<=1000) (hq:∀ a' c' H',Le H H'->Own H H' 3 a' n c' cs->Q (.slice a' n c') H'):Does (env Tryz.prog) 78 [.slice a n c] H Q:=by
 refine fn78 ok ⟨fun h=>?_,fun h n1 h1 n2 h2=>?_⟩
 .have:a=none:=by cases a with
   | none=>rfl
   | some x=>cases h
  subst this
  have hn0:n=0:=by
   unfold kold at hk
   cases hb:Nat.beq n 0 with
   | true=>exact Nat.eq_of_beq_eq_true hb
   | false=>rw [hb] at hk; cases hk
  subst hn0
  have hc0:cs=[]:=by
   have:=kold_len hk
   exact List.eq_nil_of_length_eq_zero (by omega)
  subst hc0
  exact hq none 0 H (Le.refl _) .nil
 .have hl:=kold_len hk
  have l1:Le H (H.new n1 (mkEnt (lrep [.int .i64 0,.slice none 0 0,.slice none 0 0] 0) 0)):=Le.new h1
  have ho:Own H (H.new n1 (mkEnt (lrep [.int .i64 0,.slice none 0 0,.slice none 0 0] 0) 0)) 3 (some ⟨n1,0,none⟩) 0 0 []:=Own.of_lit h1 rfl (by decide)
  obtain ⟨a',c',H',g1,g2,g3,_,_⟩:=Own.append (ti:=NT3) (m:=n) (new:=cs) ho l1 h2 (by rw [hl]) (by omega) (by decide) (by decide)
  rw [Nat.zero_add] at g1 g2
  exact ⟨n,cs,knew_of (l1.kold hk),a',_,_,H',g1,hq a' c' H' g3 (by simpa using g2)⟩
theorem c57 {l:List It} {t:Ptn} {a:OA} {c:Nat} {H:KH} {Q:PQ} (hi:ItR H l a) (hl:l.length<=47) (hrg:∀ i∈l,i.2.length<=24) (hok:∀ i∈l,okIt i) (ht:stkM l []=some [t])
 (hq:∀ Y H' a1 n1 c1 a2 n2 c2,Le H Y->Le Y H'->NdC Y t [.int .i64 t.op,.slice a1 n1 c1,.slice a2 n2 c2]->Q (.tuple #[.agg #[.int .i64 t.op,.slice a1 n1 c1,.slice a2 n2 c2],.bool true]) H'):Does (env Tryz.prog) 57 [.slice a l.length c] H Q:=by
 refine fn57 ok ⟨fun h=>?_,fun h=>?_⟩
 .have:=of_decide_eq_true h; omega
 obtain ⟨is,hk,hit⟩:=hi
 unfold vc57_L3
 refine ⟨fun n3 x4 a5 n6 n7 a8 n9 n10 a11 n12 n13 a14 n15 n16 x17 x18 H19=>a14=a/\n15=l.length/\x17=(l.length:Nat)/\∃ (X:KH) (tp:List Ptn) (k:Nat),x18=k/\k<=l.length/\n3=l.length-k/\Le H X/\Wst X H19 tp a11 n12 n13/\tp.length<=k/\stkM (l.drop k) tp=some [t],⟨l.length,rfl,rfl,rfl,H,[],0,rfl,by omega,rfl,Le.refl _,⟨Le.refl _,⟨[],[],.nil,rfl⟩,(fun b q=>by cases q),rfl⟩,by simp,by simpa using ht⟩,?_⟩
 rintro n3 x4 a5 n6 n7 a8 n9 n10 a11 n12 n13 a14 n15 n16 x17 x18 H19 ⟨rfl,rfl,rfl,X,tp,k,rfl,hkl,rfl,hHX,hw,htk,hst⟩
 refine ⟨fun hlt=>?_,fun hge=>?_⟩
 .have hlt:k<l.length:=by have:=of_decide_eq_true hlt; omega
  have e0:Int.toNat ((k:Nat):Int)=k:=by omega
  have hIn:l[k]? = some (l[k].1,l[k].2):=by simp [hlt]
  obtain ⟨b1,o1,e1,r1⟩:=rowAddr ((hHX.trans hw.le).kold hk) (by omega)
  have g1:=r1 (k*2) 2 (by omega)
  obtain ⟨ar,cr,f1,f2⟩:=ItC_at hit hIn
  rw [f1] at g1
  rw [List.drop_eq_getElem_cons hlt,stkM] at hst
  have hrk:=hrg _ (List.getElem_mem hlt)
  have hok1:=hok _ (List.getElem_mem hlt)
  generalize l[k]=i at *
  obtain ⟨op,L⟩:=i
  have hrk:L.length<=24:=hrk
  rw [e0]
  -- what it takes is there
  obtain ⟨tq,hs1⟩:∃ tq,stk1 tp (op,L)=some tq:=by
   cases hs:stk1 tp (op,L) with
   | none=>rw [hs] at hst; cases hst
   | some tq=>exact ⟨tq,rfl⟩
  rw [hs1] at hst
  have hst:stkM (l.drop (k+1)) tq=some [t]:=hst
  obtain ⟨r,t',htq,hcut,hsplit⟩:∃ r t',tq=t' :: r/\takenM op+r.length=tp.length/\∃ s,tp.reverse=r.reverse++s/\s.length=takenM op/\∀ (Y:KH) (ds:List Value) (a4:OA) (c4:Nat) (a6:OA) (c3:Nat),StkC Y s ds->kold Y 3 a6 (takenM op)=some ds->kold Y 2 a4 L.length=some (rgC L)->NdC Y t' [.int .i64 op,.slice a4 L.length c4,.slice a6 (takenM op) c3]:=by
   have ops:=hok1
   rcases ops with ⟨o1,o2⟩ | ⟨o1,o2⟩
   .have o1:op=1:=o1
    subst o1
    have hs1:some (Ptn.cls L :: tp)=some tq:=hs1
    cases hs1
    exact ⟨tp,_,rfl,by simp [takenM],[],by simp,rfl,fun Y ds a4 c4 a6 c3 _ _ h=>⟨a4,c4,a6,c3,rfl,h⟩⟩
   .have o2:L=[]:=o2
    subst o2
    have two_inv:∀ {f:Ptn->Ptn->Ptn},two f tp=some tq->∃ x y r,tp=y :: x :: r/\tq=f x y :: r:=fun {f} q=>by
     match tp,q with
     | y :: x :: r,q=>cases q; exact ⟨x,y,r,rfl,rfl⟩
    have one_inv:∀ {f:Ptn->Ptn},one1 f tp=some tq->∃ x r,tp=x :: r/\tq=f x :: r:=fun {f} q=>by
     match tp,q with
     | x :: r,q=>cases q; exact ⟨x,r,rfl,rfl⟩
    have o1:op=2\/op=3\/op=4\/op=5\/op=6:=o1
    rcases o1 with q | q | q | q | q<;>subst q
    .obtain ⟨x,y,r,rfl,rfl⟩:=two_inv (f:=.join) hs1
     refine ⟨r,_,rfl,by simp [takenM]; omega,[x,y],by simp,rfl,fun Y ds a4 c4 a6 c3 h1 h2 h3=>?_⟩
     obtain ⟨p,d1,u1,u2,q,d2,u3,u4,u5⟩:=h1
     have u5:d2=[]:=u5
     subst u5
     exact ⟨a4,c4,a6,c3,p,q,rfl,by rw [show (2:Nat)=takenM 2 from rfl,h2,u1,u3]; simp,u2,u4⟩
    .obtain ⟨x,y,r,rfl,rfl⟩:=two_inv (f:=.alt) hs1
     refine ⟨r,_,rfl,by simp [takenM]; omega,[x,y],by simp,rfl,fun Y ds a4 c4 a6 c3 h1 h2 h3=>?_⟩
     obtain ⟨p,d1,u1,u2,q,d2,u3,u4,u5⟩:=h1
     have u5:d2=[]:=u5
     subst u5
     exact ⟨a4,c4,a6,c3,p,q,rfl,by rw [show (2:Nat)=takenM 3 from rfl,h2,u1,u3]; simp,u2,u4⟩
    .obtain ⟨x,r,rfl,rfl⟩:=one_inv (f:=.star) hs1
     refine ⟨r,_,rfl,by simp [takenM]; omega,[x],by simp,rfl,fun Y ds a4 c4 a6 c3 h1 h2 h3=>?_⟩
     obtain ⟨p,d1,u1,u2,u5⟩:=h1
     have u5:d1=[]:=u5
     subst u5
     exact ⟨a4,c4,a6,c3,p,rfl,by rw [show (1:Nat)=takenM 4 from rfl,h2,u1]; simp,u2⟩
    .obtain ⟨x,r,rfl,rfl⟩:=one_inv (f:=.plus) hs1
     refine ⟨r,_,rfl,by simp [takenM]; omega,[x],by simp,rfl,fun Y ds a4 c4 a6 c3 h1 h2 h3=>?_⟩
     obtain ⟨p,d1,u1,u2,u5⟩:=h1
     have u5:d1=[]:=u5
     subst u5
     exact ⟨a4,c4,a6,c3,p,rfl,by rw [show (1:Nat)=takenM 5 from rfl,h2,u1]; simp,u2⟩
    .obtain ⟨x,r,rfl,rfl⟩:=one_inv (f:=.may) hs1
     refine ⟨r,_,rfl,by simp [takenM]; omega,[x],by simp,rfl,fun Y ds a4 c4 a6 c3 h1 h2 h3=>?_⟩
     obtain ⟨p,d1,u1,u2,u5⟩:=h1
     have u5:d1=[]:=u5
     subst u5
     exact ⟨a4,c4,a6,c3,p,rfl,by rw [show (1:Nat)=takenM 6 from rfl,h2,u1]; simp,u2⟩
  subst htq
  obtain ⟨s,hs2,hs3,hmk⟩:=hsplit
  have hlen:=hw.len
  have hwr:IntKind.wrap .i64 (((n12:Nat):Int)-((takenM op:Nat):Int))=((r.length:Nat):Int):=by rw [wrap64 (by omega) (by omega)]; omega
  refine ⟨⟨by omega,by omega⟩,b1,o1,e1,op,ar,_,cr,g1,c77 ok ⟨_,rfl,fun hneg=>?_,fun _=>⟨fun h24=>?_,fun _=>?_⟩⟩⟩
  .rw [hwr] at hneg
   have:=of_decide_eq_true hneg; omega
  .have:=of_decide_eq_true h24; omega
  rw [hwr]
  obtain ⟨cs,ex,hgr,hstk⟩:=hw.ex
  obtain ⟨a',c',ks1,ks2⟩:=hgr.from_ (cut:=r.length) (by omega) (by decide)
  refine ⟨a',_,c',ks1,?_⟩
  rw [hs2] at hstk
  obtain ⟨w1,w2,v1,v2,v3⟩:=StkC.app hstk
  have hd:cs.drop (r.length*3)=w2:=by rw [v1,<- List.length_reverse,<- v2.len,List.drop_left]
  rw [hd] at ks2
  have hn12:n12-r.length=takenM op:=by omega
  rw [hn12] at ks2 ⊢
  refine c78 ok ks2 (by unfold takenM; split<;>(try split)<;>omega) fun a6 c3 H5 hle5 hown=>⟨_,_,_,rfl,trivial,?_⟩
  have hX5:Le X H5:=hw.le.trans hle5
  obtain ⟨Y,y1,y2,y3,y4⟩:=(hown.base (H1:=X) fun b q=>hw.le.none (hown.out q)).know' hX5
  have hYo:∀ b,blk a11=some b->Y b=none:=fun b q=>y4 b (fun x=>by
   have:=hown.out x
   obtain ⟨e0,q0⟩:=hgr.at' q
   rw [q0] at this; cases this) (hw.out b q)
  obtain ⟨a9,n10,n11,z1,z2⟩:=Wst.put hw y1 y2 hle5 hYo ⟨s,hs2⟩ rfl (hmk Y w2 ar cr a6 c3 (v3.mono y1) y3 (y1.kold (hHX.kold f2))) (by omega)
  refine ⟨a9,n10,n11,z1,fun n12' h12 n13' h13=>?_⟩
  obtain ⟨n14,l15,u1,a16,n17,n18,H19',u2,u3⟩:=z2 n12' h12 n13' h13
  exact ⟨n14,l15,u1,a16,n17,n18,H19',u2,trivial,l.length-(k+1),by omega,rfl,rfl,rfl,Y,_,k+1,by rw [wrap64 (by omega) (by omega)]; omega,by omega,rfl,hHX.trans y1,u3,by simp only [List.length_cons]; omega,hst⟩
 .have hge:k=l.length:=by have:=of_decide_eq_false hge; omega
  subst hge
  rw [List.drop_length] at hst
  have hst:some tp=some [t]:=hst
  cases hst
  have hlen:n12=1:=hw.len
  subst hlen
  refine ⟨fun h1=>by simp at h1,fun _=>?_⟩
  obtain ⟨cs,ex,hgr,hstk⟩:=hw.ex
  obtain ⟨p,ds,q1,q2,q3⟩:=hstk
  have q3:ds=[]:=q3
  subst q3
  rw [List.append_nil] at q1
  subst q1
  obtain ⟨b1,o1,e1,r1⟩:=rowAddr hgr.row (by omega)
  obtain ⟨a1,n1,c1,a2,n2,c2,rfl⟩:=q2.three
  have g1:=r1 0 3 (by omega)
  exact ⟨⟨by decide,by decide⟩,b1,o1,e1,_,_,_,_,_,_,_,g1,hq X H19 a1 n1 c1 a2 n2 c2 hHX hw.le q2⟩
end
end Va
end Go.Proofs.YtfhjkkbaghanhaaGreat
namespace Go.Ew
open Go.Ev Go.Deep
structure St where
 lo:Int
 hi:Int
 next:Int
 free:List Int
 e:Int
abbrev ST5:TI:=⟨5,48,true,3,0,0,[(0,1),(1,1),(2,1),(3,1),(4,1)],[.int .u8 0,.int .u8 0,.int .i64 0,.slice none 0 0,.int .i64 0]⟩
abbrev IT1:TI:=⟨1,8,false,5,0,0,[],[.int .i64 0]⟩
def inC (l:List Int):List Value:=l.map (Value.int .i64)
def stC (s:St) (a:OA) (c:Nat):List Value:=[.int .u8 s.lo,.int .u8 s.hi,.int .i64 s.next,.slice a s.free.length c,.int .i64 s.e]
def SsR (X:KH):List St->List Value->Prop
 | [],cs=>cs=[]
 | s :: r,cs=>∃ a c ds,cs=stC s a c++ds/\kold X 1 a s.free.length=some (inC s.free)/\SsR X r ds
theorem SsR.mono {X Y:KH} (hl:Le X Y):∀ {l:List St} {cs:List Value},SsR X l cs->SsR Y l cs
 | [],cs,h=>h
 | s :: r,cs,⟨a,c,ds,h1,h2,h3⟩=>⟨a,c,ds,h1,hl.kold h2,h3.mono hl⟩
theorem SsR.len {X:KH}:∀ {l:List St} {cs:List Value},SsR X l cs->cs.length=l.length*5
 | [],cs,h=>by
   have h:cs=[]:=h
   subst h; rfl
 | s :: r,cs,⟨a,c,ds,h1,h2,h3⟩=>by
   have:=h3.len
   subst h1
   simp only [List.length_append,List.length_cons,stC,List.length_nil]
   omega
theorem SsR.app {X:KH}:∀ {l m:List St} {cs ds:List Value},SsR X l cs->SsR X m ds->SsR X (l++m) (cs++ds)
 | [],m,cs,ds,h,k=>by
   have h:cs=[]:=h
   subst h; exact k
 | s :: r,m,cs,ds,⟨a,c,es,h1,h2,h3⟩,k=>⟨a,c,es++ds,by rw [h1,List.append_assoc],h2,h3.app k⟩
theorem SsR.split {X:KH}:∀ {l m:List St} {cs:List Value},SsR X (l++m) cs->∃ c1 c2,cs=c1++c2/\SsR X l c1/\SsR X m c2
 | [],m,cs,h=>⟨[],cs,rfl,rfl,h⟩
 | s :: r,m,cs,⟨a,c,es,h1,h2,h3⟩=>by
   obtain ⟨c1,c2,q1,q2,q3⟩:=SsR.split h3
   exact ⟨stC s a c++c1,c2,by rw [h1,q1,List.append_assoc],⟨a,c,c1,rfl,h2,q2⟩,q3⟩
def SsC (X:KH) (hole:OA × Nat):List St->List Value->Prop
 | [],cs=>cs=[]
 | s :: r,cs=>∃ ds,cs=stC s hole.1 hole.2++ds/\SsR X r ds
theorem SsC.mono {X Y:KH} {hole:OA × Nat} (hl:Le X Y):∀ {l:List St} {cs:List Value},SsC X hole l cs->SsC Y hole l cs
 | [],cs,h=>h
 | s :: r,cs,⟨ds,h1,h2⟩=>⟨ds,h1,h2.mono hl⟩
theorem SsC.app {X:KH} {hole:OA × Nat} {l m:List St} {cs ds:List Value} (hne:l≠[]) (h:SsC X hole l cs) (k:SsR X m ds):SsC X hole (l++m) (cs++ds):=by
 match l,hne,h with
 | s :: r,_,⟨es,h1,h2⟩=>exact ⟨es++ds,by rw [h1,List.append_assoc],h2.app k⟩
theorem SsC.split {X:KH} {hole:OA × Nat} {l m:List St} {cs:List Value} (hne:l≠[]) (h:SsC X hole (l++m) cs):∃ c1 c2,cs=c1++c2/\SsC X hole l c1/\SsR X m c2:=by
 match l,hne,h with
 | s :: r,_,⟨es,h1,h2⟩ =>
   obtain ⟨c1,c2,q1,q2,q3⟩:=SsR.split h2
   exact ⟨stC s hole.1 hole.2++c1,c2,by rw [h1,q1,List.append_assoc],⟨c1,rfl,q2⟩,q3⟩
theorem SsC.len {X:KH} {hole:OA × Nat}:∀ {l:List St} {cs:List Value},SsC X hole l cs->cs.length=l.length*5
 | [],cs,h=>by
   have h:cs=[]:=h
   subst h; rfl
 | s :: r,cs,⟨ds,h1,h2⟩=>by
   have:=h2.len
   subst h1
   simp only [List.length_append,List.length_cons,stC,List.length_nil]
   omega
structure Bu (X H:KH) (p:Nat) (hole:OA × Nat) (l:List St) (a:OA) (c:Nat):Prop where
 le:Le X H
 xp:X p=none
 pt:∃ e,H p=some e/\wrB e=true/\rd e.cells 0 1=some [.slice a l.length c]
 row:∃ cs,Gr H 5 a l.length c cs []/\SsC X hole l cs
 out:∀ b,blk a=some b->X b=none/\b≠p
theorem Bu.c0 {X H:KH} {p:Nat} {hole:OA × Nat} {l:List St} {a:OA} {c:Nat} (h:Bu X H p hole l a c):ld H ⟨p,0,none⟩ [.slice a l.length c]:=by
 obtain ⟨e,h1,h2,h3⟩:=h.pt
 exact ⟨rfl,e,h1,h3⟩
theorem Bu.agree {X Y H H':KH} {p:Nat} {hole:OA × Nat} {l:List St} {a:OA} {c:Nat} (h:Bu X H p hole l a c) (hl:Le X Y) (hY:Le Y H') (hp:Y p=none) (ho:∀ b,blk a=some b->Y b=none) (hk:∀ k e,(k=p\/blk a=some k)->H k=some e->H' k=some e):Bu Y H' p hole l a c:=by
 obtain ⟨e,h1,h2,h3⟩:=h.pt
 obtain ⟨cs,r1,r2⟩:=h.row
 exact ⟨hY,hp,⟨e,hk p e (.inl rfl) h1,h2,h3⟩,⟨cs,r1.agree fun k e q1 q2=>hk k e (.inr q1) q2,r2.mono hl⟩,fun b q=>⟨ho b q,(h.out b q).2⟩⟩
structure Gw (X H X' H':KH) (p:Nat) (a a':OA):Prop where
 le:Le X X'
 fr:∀ k e,H k=some e->k≠p->blk a≠some k->H' k=some e
 fresh:∀ b,blk a'=some b->blk a=some b\/H b=none
 nw:∀ k,X' k≠none->X k≠none\/H k=none\/blk a=some k
theorem Gw.refl (X H:KH) (p:Nat) (a:OA):Gw X H X H p a a:=⟨Le.refl _,fun _ _ q _ _=>q,fun _ q=>.inl q,fun _ q=>.inl q⟩
theorem none_or (H:KH) (k:Nat):H k=none\/∃ e,H k=some e:=by
 cases H k with
 | none=>exact .inl rfl
 | some e=>exact .inr ⟨e,rfl⟩
theorem Gw.trans {X H X1 H1 X2 H2:KH} {p:Nat} {a a1 a2:OA} (g:Gw X H X1 H1 p a a1) (k:Gw X1 H1 X2 H2 p a1 a2) (hp:H1 p≠none) (hx2:X2 p=none) (hap:blk a2≠some p):Gw X H X2 H2 p a a2:=by
 have key:∀ q e,H q=some e->q≠p->blk a≠some q->H1 q=some e/\blk a1≠some q:=fun q e h1 h2 h3=>⟨g.fr q e h1 h2 h3,fun x=>by
  rcases g.fresh q x with y | y
  .exact h3 y
  .rw [h1] at y; cases y⟩
 refine ⟨g.le.trans k.le,fun q e h1 h2 h3=>?_,fun b h=>?_,fun q h=>?_⟩
 .obtain ⟨u1,u2⟩:=key q e h1 h2 h3
  exact k.fr q e u1 h2 u2
 .rcases none_or H b with y | ⟨e,y⟩
  .exact .inr y
  .rcases k.fresh b h with x | x
   .exact g.fresh b x
   .by_cases hb:blk a=some b
    .exact .inl hb
    .have hbp:b≠p:=fun q=>hap (by rw [h,q])
     rw [(key b e y hbp hb).1] at x; cases x
 .rcases k.nw q h with x | x | x
  .exact g.nw q x
  .rcases none_or H q with y | ⟨e,y⟩
   .exact .inr (.inl y)
   .by_cases hb:blk a=some q
    .exact .inr (.inr hb)
    .have hqp:q≠p:=fun z=>h (by rw [z]; exact hx2)
     rw [(key q e y hqp hb).1] at x; cases x
  .rcases g.fresh q x with y | y
   .exact .inr (.inr y)
   .exact .inr (.inl y)
theorem Bu.push {X H:KH} {p:Nat} {hole:OA × Nat} {l:List St} {a:OA} {c:Nat} {s:St} {af:OA} {cf nm:Nat} (h:Bu X H p hole l a c) (hf:(l=[]/\hole=(af,cf))\/(l≠[]/\kold X 1 af s.free.length=some (inC s.free))) (hnm:H nm=none) (hs:l.length<=200000) :
 ∃ a' H',kappend H nm ST5 a l.length c 1 (stC s af cf)=some (.slice a' (l.length+1) unkU,H')/\(∃ w:List Value,w.length=1/\ld H' ⟨p,0,none⟩ w)/\KH.may H' p/\Bu X (H'.put ⟨p,0,none⟩ [.slice a' (l.length+1) unkU]) p hole (l++[s]) a' unkU/\Gw X H X (H'.put ⟨p,0,none⟩ [.slice a' (l.length+1) unkU]) p a a':=by
 obtain ⟨ep,p1,p2,p3⟩:=h.pt
 obtain ⟨cs,r1,r2⟩:=h.row
 obtain ⟨a',H',ex',g1,g2,g3,g4,g5⟩:=r1.append (ti:=ST5) (new:=stC s af cf) hnm rfl (by omega) (by decide) (by decide)
 have hx:=g3 rfl
 subst hx
 have hpa:blk a≠some p:=fun q=>(h.out p q).2 rfl
 have hp':H' p=some ep:=g4 p ep p1 hpa
 have hX:Le X H':=fun k e q=>g4 k e (h.le k e q) fun x=>by rw [(h.out k x).1] at q; cases q
 have hnX:X nm=none:=h.le.none hnm
 have hnp:nm≠p:=fun x=>by rw [x,p1] at hnm; cases hnm
 have hout:∀ b,blk a'=some b->X b=none/\b≠p:=fun b q=>by
  rcases g5 b q with q | q
  .exact h.out b q
  .rw [q]; exact ⟨hnX,hnp⟩
 have hcell:SsC X hole (l++[s]) (cs++stC s af cf):=by
  rcases hf with ⟨q1,q2⟩ | ⟨q1,q2⟩
  .subst q1
   have r2:cs=[]:=r2
   subst r2
   refine ⟨[],?_,rfl⟩
   rw [q2]; rfl
  .exact r2.app q1 ⟨af,cf,[],rfl,q2,rfl⟩
 refine ⟨a',H',g1,⟨[.slice a l.length c],rfl,rfl,ep,hp',p3⟩,⟨ep,hp',p2⟩,⟨fun k e q=>put_ne (fun x=>by rw [x,h.xp] at q; cases q) (hX k e q),h.xp,⟨⟨wr ep.cells 0 [.slice a' (l.length+1) unkU],ep.len,ep.unk,none⟩,by simp only [KH.put,if_true,hp',Option.map_some],wrB_keep p2,?_⟩,⟨_,?_,hcell⟩,hout⟩,⟨Le.refl _,fun k e q1 q2 q3=>put_ne q2 (g4 k e q1 q3),fun b q=>(g5 b q).imp id fun q=>by rw [q]; exact hnm,fun k q=>.inl q⟩⟩
 .have:=rdWr (e:=ep.cells) (N:=1) (o:=0) (xs:=[]) (ys:=[.slice a l.length c]) (zs:=[]) (vs:=[.slice a' (l.length+1) unkU]) (by simpa using p3) rfl rfl
  simpa using this
 .have:=g2.agree (H':=H'.put ⟨p,0,none⟩ [.slice a' (l.length+1) unkU]) fun k e hk q=>put_ne (hout k hk).2 q
  simpa using this
def forkS (f:List Int):St:=⟨0,0,-1,f,0⟩
def clsS5 (nx:Nat) (r:Rg):St:=⟨r.1,r.2,(nx:Nat),[],0⟩
def bld:Ptn->Nat->Nat->List St × Nat
 | .cls L,nx,n=>if L.length=1 then (L.map (clsS5 nx),n) else (L.map (clsS5 nx)++[forkS ((List.range L.length).map fun k=>((n+k:Nat):Int))],n+L.length)
 | .join a b,nx,n=>((bld b nx n).1++(bld a (bld b nx n).2 (n+(bld b nx n).1.length)).1,(bld a (bld b nx n).2 (n+(bld b nx n).1.length)).2)
 | .alt a b,nx,n=>((bld a nx n).1++(bld b nx (n+(bld a nx n).1.length)).1++[forkS [((bld a nx n).2:Nat),((bld b nx (n+(bld a nx n).1.length)).2:Nat)]],n+(bld a nx n).1.length+(bld b nx (n+(bld a nx n).1.length)).1.length)
 | .star a,nx,n=>(forkS [((bld a n (n+1)).2:Nat),(nx:Nat)] :: (bld a n (n+1)).1,n)
 | .plus a,nx,n=>(forkS [((bld a n (n+1)).2:Nat),(nx:Nat)] :: (bld a n (n+1)).1,(bld a n (n+1)).2)
 | .may a,nx,n=>((bld a nx n).1++[forkS [((bld a nx n).2:Nat),(nx:Nat)]],n+(bld a nx n).1.length)
theorem bld_len:∀ (t:Ptn) (nx n:Nat),t.fit->(bld t nx n).1.length<=26*t.items.length/\n<=(bld t nx n).2/\(bld t nx n).2<=n+(bld t nx n).1.length
 | .cls L,nx,n,h=>by
   have h:L.length<=24:=h
   simp only [bld,Ptn.items]
   split
   .simp; omega
   .simp; omega
 | .join a b,nx,n,h=>by
   have h1:=bld_len b nx n h.2
   have h2:=bld_len a (bld b nx n).2 (n+(bld b nx n).1.length) h.1
   simp only [bld,Ptn.items,List.length_append,List.length_cons,List.length_nil]
   omega
 | .alt a b,nx,n,h=>by
   have h1:=bld_len a nx n h.1
   have h2:=bld_len b nx (n+(bld a nx n).1.length) h.2
   simp only [bld,Ptn.items,List.length_append,List.length_cons,List.length_nil]
   omega
 | .star a,nx,n,h=>by
   have h1:=bld_len a n (n+1) h
   simp only [bld,Ptn.items,List.length_append,List.length_cons,List.length_nil]
   omega
 | .plus a,nx,n,h=>by
   have h1:=bld_len a n (n+1) h
   simp only [bld,Ptn.items,List.length_append,List.length_cons,List.length_nil]
   omega
 | .may a,nx,n,h=>by
   have h1:=bld_len a nx n h
   simp only [bld,Ptn.items,List.length_append,List.length_cons,List.length_nil]
   omega
end Go.Ew
namespace Go.Proofs.YtfhjkkbaghanhaaGreat
open Go.Ev Go.Ew
namespace Va
section
variable (ok : EnvOk (env Tryz.prog))
include ok
theorem c36 {X H:KH} {p:Nat} {hole:OA × Nat} {l:List St} {a:OA} {c:Nat} {s:St} {af:OA} {cf:Nat} {Q:PQ} (h:Bu X H p hole l a c) (hf:(l=[]/\hole=(af,cf))\/(l≠[]/\kold X 1 af s.free.length=some (inC s.free))) (hs:l.length<=200000)
 (hq:∀ H' a',Bu X H' p hole (l++[s]) a' unkU->Gw X H X H' p a a'->Q (.int .i64 (l.length:Nat)) H'):Does (env Tryz.prog) 36 [.pointer (some ⟨p,0,none⟩),.agg (stC s af cf).toArray] H Q:=by
 refine fn36 ok ⟨trivial,rfl,a,_,c,h.c0,fun n4 h4 n5 h5=>?_⟩
 have hpn:n4≠p:=fun x=>by obtain ⟨e,q,_⟩:=h.pt; rw [x,q] at h4; cases h4
 have l1:Le H (H.new n4 (mkEnt (stC s af cf) 0)):=Le.new h4
 have h':Bu X (H.new n4 (mkEnt (stC s af cf) 0)) p hole l a c:=h.agree (Le.refl _) (h.le.trans l1) h.xp (fun b q=>(h.out b q).1) fun k e _ q=>l1 k e q
 obtain ⟨a',H',g1,g2,g3,g4,g5⟩:=h'.push (s:=s) (af:=af) (cf:=cf) hf h5 hs
 have hw:IntKind.wrap .i64 (((l.length+1:Nat):Int)-1)=((l.length:Nat):Int):=by rw [wrap64 (by omega) (by omega)]; omega
 refine ⟨1,_,knew_of (lit_kold (if_pos rfl) rfl),a',_,_,H',g1,⟨rfl,trivial⟩,rfl,g2,g3,trivial,rfl,a',_,unkU,g4.c0,?_⟩
 have hl:(l++[s]).length=l.length+1:=by simp
 rw [hl,hw]
 exact hq _ a' g4 ⟨Le.refl _,fun k e q1 q2 q3=>g5.fr k e (l1 k e q1) q2 q3,fun b q=>(g5.fresh b q).imp id fun q=>l1.none q,fun k q=>.inl q⟩
theorem c34 {X H:KH} {p:Nat} {hole:OA × Nat} {l:List St} {a:OA} {c:Nat} {f:List Int} {af:OA} {cf:Nat} {Q:PQ} (h:Bu X H p hole l a c) (hf:(l=[]/\hole=(af,cf))\/(l≠[]/\kold X 1 af f.length=some (inC f))) (hs:l.length<=200000)
 (hq:∀ H' a',Bu X H' p hole (l++[forkS f]) a' unkU->Gw X H X H' p a a'->Q (.int .i64 (l.length:Nat)) H'):Does (env Tryz.prog) 34 [.pointer (some ⟨p,0,none⟩),.slice af f.length cf] H Q :=
 fn34 ok (c36 ok (s:=forkS f) h hf hs fun H' a' h1 h2=>⟨_,rfl,hq H' a' h1 h2⟩)
end
end Va
end Go.Proofs.YtfhjkkbaghanhaaGreat
namespace Go.Ew
open Go.Ev Go.Deep
theorem Gr.put {H:KH} {sz n c b o:Nat} {xs ys zs ex vs:List Value} (h:Gr H sz (some ⟨b,0,none⟩) n c (xs++ys++zs) ex) (hx:xs.length=o) (hv:ys.length=vs.length):Gr (H.put ⟨b,o,none⟩ vs) sz (some ⟨b,0,none⟩) n c (xs++vs++zs) ex/\ld H ⟨b,o,none⟩ ys/\KH.may H b:=by
 cases h with
 | on b _ e _ _ h1 h2 h3 h4 h5 h6 =>
   have hlen:(xs++vs++zs).length=(xs++ys++zs).length:=by simp only [List.length_append]; omega
   have hlen2:(xs++vs++zs++ex).length=(xs++ys++zs++ex).length:=by simp only [List.length_append]; omega
   refine ⟨.on b n ⟨wr e.cells o vs,e.len,e.unk,none⟩ _ _ (by simp only [KH.put,if_true,h1,Option.map_some]) h2 (by rw [hlen2]; exact h3) ?_ (wrB_keep h5) (by rw [hlen]; exact h6),?_,⟨e,h1,h5⟩⟩
   .rw [hlen2]
    have:=rdWr (e:=e.cells) (N:=(xs++ys++zs++ex).length) (o:=o) (xs:=xs) (ys:=ys) (zs:=zs++ex) (vs:=vs) (by simpa using h4) hx hv
    simpa using this
   .have:=ldSub (H:=H) (b:=b) (o:=0) (cs:=xs++ys++zs++ex) ⟨rfl,e,h1,h4⟩ o ys.length (by simp; omega)
    rw [Nat.zero_add] at this
    have he:((xs++ys++zs++ex).drop o).take ys.length=ys:=by
     rw [<- hx]
     simp [List.append_assoc]
    rwa [he] at this
theorem Gw.none_ {X H X1 H1:KH} {p:Nat} {a a1:OA} (g:Gw X H X1 H1 p a a1) (hp:H1 p≠none) {k:Nat} (hk:H1 k=none):H k=none\/blk a=some k:=by
 rcases none_or H k with y | ⟨e,y⟩
 .exact .inl y
 .by_cases hb:blk a=some k
  .exact .inr hb
  .have hkp:k≠p:=fun z=>hp (by rw [<- z]; exact hk)
   rw [g.fr k e y hkp hb] at hk; cases hk
theorem Bu.known {X H:KH} {p:Nat} {hole:OA × Nat} {l:List St} {a:OA} {c:Nat} (h:Bu X H p hole l a c):H p≠none:=by
 obtain ⟨e,h1,_⟩:=h.pt
 rw [h1]; simp
theorem Gr.know {X H:KH} {sz n c:Nat} {a:OA} {cs:List Value} (h:Gr H sz a n c cs []) (hl:Le X H) (ho:∀ b,blk a=some b->X b=none):∃ Y,Le X Y/\Le Y H/\kold Y sz a n=some cs/\∀ k,Y k≠none->X k≠none\/blk a=some k:=by
 cases h with
 | nil=>exact ⟨X,Le.refl _,hl,rfl,fun k q=>.inl q⟩
 | on b _ e _ _ h1 h2 h3 h4 h5 h6 =>
   refine ⟨X.new b e,Le.new (ho b rfl),fun k e' q=>?_,kold_some.2 ⟨e,if_pos rfl,?_⟩,fun k q=>?_⟩
   .simp only [KH.new] at q
    split at q
    .rename_i hk; subst hk; cases q; exact h1
    .exact hl k e' q
   .rw [<- h6]; simpa using h4
   .simp only [KH.new] at q
    split at q
    .rename_i hk; exact .inr (by rw [hk]; rfl)
    .exact .inl q
theorem Bu.lit {X H:KH} {p:Nat} {hole:OA × Nat} {l:List St} {a:OA} {c n:Nat} {x y:Int} (h:Bu X H p hole l a c) (hn:H n=none):Bu (X.new n (mkEnt [.int .i64 x,.int .i64 y] 0)) (H.new n (mkEnt [.int .i64 x,.int .i64 y] 0)) p hole l a c/\kold (X.new n (mkEnt [.int .i64 x,.int .i64 y] 0)) 1 (some ⟨n,0,none⟩) 2=some (inC [x,y])/\∀ {X0 H0:KH} {a0:OA},Gw X0 H0 X H p a0 a->Gw X0 H0 (X.new n (mkEnt [.int .i64 x,.int .i64 y] 0)) (H.new n (mkEnt [.int .i64 x,.int .i64 y] 0)) p a0 a:=by
 have hXn:X n=none:=h.le.none hn
 have l1:=Le.new (e:=mkEnt [.int .i64 x,.int .i64 y] 0) hn
 have hnp:n≠p:=fun q=>h.known (by rw [<- q]; exact hn)
 have hna:∀ b,blk a=some b->b≠n:=fun b q z=>by
  obtain ⟨cs,r1,_⟩:=h.row
  obtain ⟨e,w⟩:=r1.at' q
  rw [z,hn] at w; cases w
 refine ⟨h.agree (Le.new hXn) (fun k e q=>?_) (by simp only [KH.new]; rw [if_neg (fun q=>hnp q.symm)]; exact h.xp) (fun b q=>?_) fun k e _ q=>l1 k e q,lit_kold (if_pos rfl) rfl,fun g=>⟨g.le.trans (Le.new hXn),fun k e q1 q2 q3=>l1 k e (g.fr k e q1 q2 q3),g.fresh,fun k q=>?_⟩⟩
 .simp only [KH.new] at q ⊢
  split at q
  .rename_i z; rw [if_pos z]; exact q
  .rename_i z; rw [if_neg z]; exact h.le k e q
 .simp only [KH.new]; rw [if_neg (hna b q)]; exact (h.out b q).1
 .simp only [KH.new] at q
  split at q
  .rename_i z
   subst z
   exact .inr (g.none_ h.known hn)
  .exact g.nw k q
def waysM (n k:Nat):List Int:=(List.range k).map fun j=>((n+j:Nat):Int)
theorem waysM_succ (n k:Nat):waysM n (k+1)=waysM n k++[((n+k:Nat):Int)]:=by
 unfold waysM
 rw [List.range_succ,List.map_append]; rfl
theorem waysM_len (n k:Nat):(waysM n k).length=k:=by simp [waysM]
end Go.Ew
namespace Go.Proofs.YtfhjkkbaghanhaaGreat
open Go.Ev Go.Ew
namespace Va
section
variable (ok : EnvOk (env Tryz.prog))
include ok
theorem c61 {X H:KH} {p:Nat} {hole:OA × Nat} {l:List St} {a:OA} {c nx:Nat} {L:List Rg} {ar:OA} {cr:Nat} {Q:PQ} (h:Bu X H p hole l a c) (hne:l≠[]) (hr:kold X 2 ar L.length=some (rgC L)) (hL:L.length<=24) (hs:l.length<=100000)
 (hq:∀ X' H' a' c',Bu X' H' p hole (l++(bld (.cls L) nx l.length).1) a' c'->Gw X H X' H' p a a'->Q (.int .i64 ((bld (.cls L) nx l.length).2:Nat)) H'):Does (env Tryz.prog) 61 [.pointer (some ⟨p,0,none⟩),.slice ar L.length cr,.int .i64 (nx:Nat)] H Q:=by
 refine fn61 ok ?_
 unfold vc61 vc61_L2
 refine ⟨fun n3 n4 n5 x6 a7 n8 n9 a10 n11 n12 x13 x14 H15=>n4=p/\n5=0/\x6=(nx:Nat)/\a10=ar/\n11=L.length/\x13=(L.length:Nat)/\∃ (k:Nat) (a1:OA) (c1:Nat),x14=k/\k<=L.length/\n3=L.length-k/\Bu X H15 p hole (l++(L.take k).map (clsS5 nx)) a1 c1/\Gw X H X H15 p a a1/\n8=k/\Gr H15 1 a7 k n9 (inC (waysM l.length k)) []/\∀ b,blk a7=some b->X b=none/\b≠p/\blk a1≠some b/\(H b=none\/blk a=some b),
  ⟨L.length,rfl,rfl,rfl,rfl,rfl,rfl,rfl,0,a,c,rfl,by omega,rfl,by simpa using h,Gw.refl _ _ _ _,rfl,.nil,fun b q=>by cases q⟩,?_⟩
 rintro n3 n4 n5 x6 a7 n8 n9 a10 n11 n12 x13 x14 H15 ⟨rfl,rfl,rfl,rfl,rfl,rfl,k,a1,c1,rfl,hk,rfl,hB,hG,rfl,hW,hWo⟩
 have hlen:(l++(L.take n8).map (clsS5 nx)).length=l.length+n8:=by simp; omega
 refine ⟨fun hlt=>?_,fun hge=>⟨fun h1=>?_,fun h1=>?_⟩⟩
 .have hlt:n8<L.length:=by have:=of_decide_eq_true hlt; omega
  have e0:Int.toNat ((n8:Nat):Int)=n8:=by omega
  obtain ⟨b1,o1,e1,r1⟩:=rowAddr (hB.le.kold hr) (by omega)
  have g1:=r1 (n8*2) 2 (by omega)
  rw [rgC_at (show L[n8]? = some L[n8] by simp [hlt])] at g1
  rw [e0]
  refine ⟨⟨by omega,by omega⟩,b1,o1,e1,_,_,g1,c36 ok (s:=clsS5 nx L[n8]) (af:=none) (cf:=0) hB (.inr ⟨by simp [hne],rfl⟩) (by rw [hlen]; omega) fun H6 a6 hB6 hG6=>⟨_,rfl,fun n81 h81 n91 h91=>?_⟩⟩
  rw [hlen] at h91 ⊢
  -- the row of ways is as it was
  have hW6:Gr H6 1 a7 n8 n9 (inC (waysM l.length n8)) []:=hW.agree fun k e q1 q2=>hG6.fr k e q2 (hWo k q1).2.1 (hWo k q1).2.2.1
  have ha6:∀ b,blk a7=some b->blk a6≠some b:=fun b q x=>by
   obtain ⟨e,q1⟩:=hW.at' q
   rcases hG6.fresh b x with y | y
   .exact (hWo b q).2.2.1 y
   .rw [q1] at y; cases y
  have l1:=Le.new (e:=mkEnt [.int .i64 ((l.length+n8:Nat):Int)] 0) h81
  obtain ⟨a',H',ex',f1,f2,f3,f4,f5⟩:=(hW6.agree fun k e _ q=>l1 k e q).append (ti:=IT1) (new:=[.int .i64 ((l.length+n8:Nat):Int)]) h91 rfl (by omega) (by decide) (by decide)
  have hx:=f3 rfl
  subst hx
  have hGt:=hG.trans hG6 hB.known hB6.xp (fun q=>(hB6.out n4 q).2 rfl)
  have hB':Bu X H' n4 hole (l++(L.take n8).map (clsS5 nx)++[clsS5 nx L[n8]]) a6 unkU:=by
   refine hB6.agree (Le.refl _) (fun k e q=>f4 k e (l1 k e (hB6.le k e q)) fun x=>by rw [(hWo k x).1] at q; cases q) hB6.xp (fun b q=>(hB6.out b q).1) fun k e q1 q2=>f4 k e (l1 k e q2) fun x=>?_
   rcases q1 with q1 | q1
   .exact (hWo k x).2.1 q1
   .exact ha6 k x q1
  have hlst:l++(L.take (n8+1)).map (clsS5 nx)=l++(L.take n8).map (clsS5 nx)++[clsS5 nx L[n8]]:=by
   rw [List.take_succ_eq_append_getElem hlt,List.map_append,List.append_assoc]; rfl
  have h9H6:H6 n91=none:=l1.none h91
  refine ⟨1,_,knew_of (lit_kold (if_pos rfl) rfl),a',_,_,H',f1,L.length-(n8+1),by omega,rfl,rfl,rfl,rfl,rfl,rfl,rfl,n8+1,a6,unkU,by rw [wrap64 (by omega) (by omega)]; omega,by omega,rfl,by rw [hlst]; exact hB',⟨Le.refl _,fun k e q1 q2 q3=>f4 k e (l1 k e (hGt.fr k e q1 q2 q3)) fun x=>?_,hGt.fresh,fun k q=>.inl q⟩,rfl,?_,fun b q=>?_⟩
  .rcases (hWo k x).2.2.2 with y | y
   .rw [q1] at y; cases y
   .exact q3 y
  .have:inC (waysM l.length (n8+1))=inC (waysM l.length n8)++[.int .i64 ((l.length+n8:Nat):Int)]:=by rw [waysM_succ]; simp [inC]
   rw [this]; exact f2
  .rcases f5 b q with q | q
   .exact ⟨(hWo b q).1,(hWo b q).2.1,ha6 b q,(hWo b q).2.2.2⟩
   .subst q
    refine ⟨hB6.le.none h9H6,fun x=>hB6.known (by rw [<- x]; exact h9H6),fun x=>?_,hGt.none_ hB6.known h9H6⟩
    obtain ⟨cs,r1,_⟩:=hB6.row
    obtain ⟨e,y⟩:=r1.at' x
    rw [h9H6] at y; cases y
 .have hge:n8=L.length:=by have:=of_decide_eq_false hge; omega
  subst hge
  have h1:L.length=1:=by have:=of_decide_eq_true h1; omega
  obtain ⟨b1,o1,e1,r1⟩:=rowAddr hW.row (by omega)
  have g1:=r1 0 1 (by omega)
  have g1:ld H15 ⟨b1,o1+Int.toNat 0*1,none⟩ [.int .i64 ((l.length:Nat):Int)]:=by
   have e:((inC (waysM l.length L.length)).drop 0).take 1=[.int .i64 ((l.length:Nat):Int)]:=by rw [h1]; rfl
   rwa [e] at g1
  have hb:bld (.cls L) nx l.length=(L.map (clsS5 nx),l.length):=by simp only [bld]; rw [if_pos h1]
  rw [hb] at hq
  rw [List.take_length] at hB
  exact ⟨⟨by decide,by omega⟩,b1,o1,e1,_,g1,hq X H15 a1 c1 hB hG⟩
 .have hge:n8=L.length:=by have:=of_decide_eq_false hge; omega
  subst hge
  have h1:L.length≠1:=by have:=of_decide_eq_false h1; omega
  have hb:bld (.cls L) nx l.length=(L.map (clsS5 nx)++[forkS (waysM l.length L.length)],l.length+L.length):=by simp only [bld]; rw [if_neg h1]; rfl
  rw [hb] at hq
  rw [List.take_length] at hB hlen
  obtain ⟨Y,y1,y2,y3,y4⟩:=hW.know hB.le (fun b q=>(hWo b q).1)
  have hYp:Y n4=none:=by
   rcases none_or Y n4 with q | ⟨e,q⟩
   .exact q
   .rcases y4 n4 (by rw [q]; simp) with z | z
    .exact absurd hB.xp z
    .exact absurd rfl (hWo n4 z).2.1
  have hYa:∀ b,blk a1=some b->Y b=none:=fun b q=>by
   rcases none_or Y b with z | ⟨e,z⟩
   .exact z
   .rcases y4 b (by rw [z]; simp) with u | u
    .exact absurd (hB.out b q).1 u
    .exact absurd q (hWo b u).2.2.1
  have hBY:Bu Y H15 n4 hole (l++L.map (clsS5 nx)) a1 c1:=hB.agree y1 y2 hYp hYa fun k e _ q=>q
  have hwl:L.length=(waysM l.length L.length).length:=(waysM_len _ _).symm
  have hcall:=c34 ok (f:=waysM l.length L.length) (af:=a7) (cf:=n9) (Q:=fun v H'=>∃ x6:Int,v = .int .i64 x6/\Q (.int .i64 x6) H') hBY (.inr ⟨by simp [hne],by rw [waysM_len]; exact y3⟩) (by rw [hlen]; omega) fun H5 a5 hB5 hG5=>⟨_,rfl,?_⟩
  .rw [waysM_len] at hcall
   exact hcall
  .rw [hlen]
   have hG0:Gw Y H Y H15 n4 a a1:=⟨Le.refl _,hG.fr,hG.fresh,fun k q=>.inl q⟩
   have hGt:=hG0.trans hG5 hBY.known hB5.xp (fun q=>(hB5.out n4 q).2 rfl)
   refine hq Y H5 a5 unkU (by rw [<- List.append_assoc]; exact hB5) ⟨y1,hGt.fr,hGt.fresh,fun k q=>?_⟩
   rcases y4 k q with z | z
   .exact .inl z
   .exact .inr (hWo k z).2.2.2
def BlD (t:Ptn):Prop:=∀ (X H:KH) (p:Nat) (hole:OA × Nat) (l:List St) (a:OA) (c nx:Nat) (cs:List Value) (Q:PQ),Bu X H p hole l a c->l≠[]->NdC X t cs->l.length+26*t.items.length<=100000->
 (∀ X' H' a' c',Bu X' H' p hole (l++(bld t nx l.length).1) a' c'->Gw X H X' H' p a a'->Q (.int .i64 ((bld t nx l.length).2:Nat)) H')->Does (env Tryz.prog) 37 [.pointer (some ⟨p,0,none⟩),.agg cs.toArray,.int .i64 (nx:Nat)] H Q
theorem c60 {t:Ptn} (hT:BlD t) (hfit:t.fit) {X H:KH} {p:Nat} {hole:OA × Nat} {l:List St} {a:OA} {c nx:Nat} {cs:List Value} {Q:PQ} (h:Bu X H p hole l a c) (hne:l≠[]) (hn:NdC X t cs) (hs:l.length+26*t.items.length+1<=100000)
 (hq:∀ X' H' a' c',Bu X' H' p hole (l++forkS [((bld t l.length (l.length+1)).2:Nat),(nx:Nat)] :: (bld t l.length (l.length+1)).1) a' c'->Gw X H X' H' p a a'->Q (.tuple #[.int .i64 ((bld t l.length (l.length+1)).2:Nat),.int .i64 (l.length:Nat)]) H'):Does (env Tryz.prog) 60 [.pointer (some ⟨p,0,none⟩),.agg cs.toArray,.int .i64 (nx:Nat)] H Q:=by
 have h3:=hn.three
 obtain ⟨aa,n,cc,b,m,d,rfl⟩:=h3
 have hbl:=bld_len t l.length (l.length+1) hfit
 refine fn60 ok (c34 ok (f:=[]) (af:=none) (cf:=0) h (.inr ⟨hne,rfl⟩) (by omega) fun H2 a2 hB2 hG2=>⟨_,rfl,?_⟩)
 have hl1:(l++[forkS []]).length=l.length+1:=by simp
 refine hT X H2 p hole _ a2 unkU l.length _ _ hB2 (by simp) hn (by rw [hl1]; omega) fun X5 H5 a5 c5 hB5 hG5=>⟨_,rfl,rfl,a5,_,c5,hB5.c0,fun n10 h10=>?_⟩
 rw [hl1] at hB5 ⊢
 obtain ⟨hB6,hk6,hG6⟩:=hB5.lit (x:=((bld t l.length (l.length+1)).2:Nat)) (y:=(nx:Nat)) h10
 have hGt:=hG6 (hG2.trans hG5 hB2.known hB5.xp (fun q=>(hB5.out p q).2 rfl))
 have hlen:(l++[forkS []]++(bld t l.length (l.length+1)).1).length=l.length+1+(bld t l.length (l.length+1)).1.length:=by simp; omega
 obtain ⟨cells,r1,r2⟩:=hB6.row
 have e1:l++[forkS []]++(bld t l.length (l.length+1)).1=l++(forkS [] :: (bld t l.length (l.length+1)).1):=by simp
 rw [e1] at r2
 obtain ⟨w1,w2,u1,u2,u3⟩:=r2.split hne
 obtain ⟨af,cf,w3,u4,u5,u6⟩:=u3
 have hw1:=u2.len
 obtain ⟨bb,ha5⟩:∃ bb,a5=some ⟨bb,0,none⟩:=by
  generalize hN:(l++[forkS []]++(bld t l.length (l.length+1)).1).length=N at *
  cases r1 with
  | nil=>omega
  | on b _ e _ _ q1 q2 q3 q4 q5 q6=>exact ⟨b,rfl⟩
 subst ha5
 have hcells:cells=(w1++[.int .u8 0,.int .u8 0,.int .i64 (-1)])++[.slice af 0 cf]++([.int .i64 0]++w3):=by
  rw [u1,u4]
  simp [stC,forkS]
 rw [hcells] at r1
 have e0:Int.toNat ((l.length:Nat):Int)=l.length:=by omega
 have ho:(w1++[Value.int .u8 0,.int .u8 0,.int .i64 (-1)]).length=(0+l.length*5)+3:=by simp [hw1]
 obtain ⟨p1,p2,p3⟩:=r1.put (o:=(0+l.length*5)+3) (vs:=[.slice (some ⟨n10,0,none⟩) 2 2]) ho rfl
 rw [e0]
 have hbo:=hB6.out bb rfl
 refine ⟨⟨by omega,by rw [hlen]; omega⟩,bb,0,rfl,rfl,stOk p2 rfl,p3,?_⟩
 obtain ⟨ep,z1,z2,z3⟩:=hB6.pt
 have hll:(l++forkS [((bld t l.length (l.length+1)).2:Int),(nx:Int)] :: (bld t l.length (l.length+1)).1).length=(l++[forkS []]++(bld t l.length (l.length+1)).1).length:=by simp
 refine hq _ _ (some ⟨bb,0,none⟩) c5 ⟨fun k e q=>put_ne (fun x=>by rw [x,hbo.1] at q; cases q) (hB6.le k e q),hB6.xp,⟨ep,put_ne hbo.2.symm z1,z2,?_⟩,⟨w1++[.int .u8 0,.int .u8 0,.int .i64 (-1)]++[.slice (some ⟨n10,0,none⟩) 2 2]++([.int .i64 0]++w3),?_,?_⟩,hB6.out⟩ ⟨hGt.le,fun k e q1 q2 q3=>?_,hGt.fresh,hGt.nw⟩
 .rw [hll]; exact z3
 .rw [hll]; exact p1
 .have hst:SsR (X5.new n10 (mkEnt [.int .i64 ((bld t l.length (l.length+1)).2:Nat),.int .i64 (nx:Nat)] 0)) (forkS [((bld t l.length (l.length+1)).2:Nat),(nx:Nat)] :: (bld t l.length (l.length+1)).1) (stC (forkS [((bld t l.length (l.length+1)).2:Nat),(nx:Nat)]) (some ⟨n10,0,none⟩) 2++w3):=⟨_,2,w3,rfl,hk6,u6⟩
  have:=u2.app hne hst
  simpa [stC,forkS] using this
 .have hne2:k≠bb:=fun x=>by
   rcases hGt.fresh bb rfl with y | y
   .exact q3 (by rw [x]; exact y)
   .rw [x,y] at q1; cases q1
  exact put_ne hne2 (hGt.fr k e q1 q2 q3)
theorem c37:∀ t:Ptn,t.fit->BlD t
 | .cls L,hf=>by
   intro X H p hole l a c nx cs Q h hne hn hs hq
   obtain ⟨a1,c1,b,d,rfl,h2⟩:=hn
   refine fn37 ok ⟨fun q=>by simp at q,fun _=>⟨fun q=>by simp at q,fun _=>⟨fun q=>by simp at q,fun _=>⟨fun q=>by simp at q,fun _=>⟨fun q=>by simp at q,fun _=>?_⟩⟩⟩⟩⟩
   exact c61 ok h hne (h.le.kold h2 |> fun _=>h2) hf (by omega) fun X' H' a' c' hB hG=>⟨_,rfl,hq X' H' a' c' hB hG⟩
 | .join t u,hf=>by
   intro X H p hole l a c nx cs Q h hne hn hs hq
   obtain ⟨a1,c1,b,d,pc,qc,rfl,h2,h3,h4⟩:=hn
   simp only [Ptn.items,List.length_append,List.length_cons,List.length_nil] at hs
   have hbu:=bld_len u nx l.length hf.2
   obtain ⟨n,o,e,hk⟩:=kid2 h2 h3 h4
   obtain ⟨g1,g2⟩:=hk H h.le
   have h3':=h3
   have h4':=h4
   obtain ⟨a2,n2,c2,b2,m2,d2,rfl⟩:=h3.three
   obtain ⟨a3,n3,c3,b3,m3,d3,rfl⟩:=h4.three
   refine fn37 ok ⟨fun _=>⟨trivial,⟨by decide,by decide⟩,n,o,e,_,_,_,_,_,_,_,g1,⟨by decide,by decide⟩,n,o,e,_,_,_,_,_,_,_,g2,?_⟩,fun q=>by simp at q⟩
   refine c37 u hf.2 X H p hole l a c nx _ _ h hne h4' (by omega) fun X1 H1 a1' c1' hB1 hG1=>⟨_,rfl,?_⟩
   obtain ⟨g3,_⟩:=hk H1 (hG1.le.trans hB1.le)
   refine ⟨⟨rfl,⟨rfl,rfl⟩,rfl,⟨⟨by decide,by decide⟩,n,o,e,rfl⟩,⟨_,_,_,_,_,_,_,g3,rfl⟩,trivial⟩,?_⟩
   have hl1:(l++(bld u nx l.length).1).length=l.length+(bld u nx l.length).1.length:=by simp
   refine c37 t hf.1 X1 H1 p hole _ a1' c1' _ _ _ hB1 (by simp [hne]) (h3'.mono hG1.le) (by rw [hl1]; omega) fun X2 H2 a2' c2' hB2 hG2=>⟨_,rfl,trivial,?_⟩
   rw [hl1] at hB2 ⊢
   exact hq X2 H2 a2' c2' (by rw [List.append_assoc] at hB2; exact hB2) (hG1.trans hG2 hB1.known hB2.xp fun q=>(hB2.out p q).2 rfl)
 | .alt t u,hf=>by
   intro X H p hole l a c nx cs Q h hne hn hs hq
   obtain ⟨a1,c1,b,d,pc,qc,rfl,h2,h3,h4⟩:=hn
   simp only [Ptn.items,List.length_append,List.length_cons,List.length_nil] at hs
   have hbt:=bld_len t nx l.length hf.1
   have hbu:=bld_len u nx (l.length+(bld t nx l.length).1.length) hf.2
   obtain ⟨n,o,e,hk⟩:=kid2 h2 h3 h4
   obtain ⟨g1,g2⟩:=hk H h.le
   have h3':=h3
   have h4':=h4
   obtain ⟨a2,n2,c2,b2,m2,d2,rfl⟩:=h3.three
   obtain ⟨a3,n3,c3,b3,m3,d3,rfl⟩:=h4.three
   refine fn37 ok ⟨fun q=>by simp at q,fun _=>⟨fun _=>⟨trivial,⟨by decide,by decide⟩,n,o,e,_,_,_,_,_,_,_,g1,⟨by decide,by decide⟩,n,o,e,_,_,_,_,_,_,_,g2,?_⟩,fun q=>by simp at q⟩⟩
   refine c37 t hf.1 X H p hole l a c nx _ _ h hne h3' (by omega) fun X1 H1 a1' c1' hB1 hG1=>⟨_,rfl,?_⟩
   obtain ⟨_,g3⟩:=hk H1 (hG1.le.trans hB1.le)
   refine ⟨⟨rfl,rfl,⟨rfl,rfl⟩,rfl,⟨⟨by decide,by decide⟩,n,o,e,rfl⟩,⟨_,_,_,_,_,_,_,g3,rfl⟩,rfl,trivial⟩,?_⟩
   have hl1:(l++(bld t nx l.length).1).length=l.length+(bld t nx l.length).1.length:=by simp
   refine c37 u hf.2 X1 H1 p hole _ a1' c1' _ _ _ hB1 (by simp [hne]) (h4'.mono hG1.le) (by rw [hl1]; omega) fun X2 H2 a2' c2' hB2 hG2=>⟨_,rfl,⟨rfl,trivial⟩,fun n67 h67=>?_⟩
   rw [hl1] at hB2 ⊢
   obtain ⟨hB3,hk3,hG3⟩:=hB2.lit (x:=((bld t nx l.length).2:Nat)) (y:=((bld u nx (l.length+(bld t nx l.length).1.length)).2:Nat)) h67
   have hGt:=hG3 (hG1.trans hG2 hB1.known hB2.xp fun q=>(hB2.out p q).2 rfl)
   have hl2:(l++(bld t nx l.length).1++(bld u nx (l.length+(bld t nx l.length).1.length)).1).length=l.length+(bld t nx l.length).1.length+(bld u nx (l.length+(bld t nx l.length).1.length)).1.length:=by simp; omega
   refine c34 ok (f:=[((bld t nx l.length).2:Nat),((bld u nx (l.length+(bld t nx l.length).1.length)).2:Nat)]) hB3 (.inr ⟨by simp [hne],hk3⟩) (by rw [hl2]; omega) fun H4 a4 hB4 hG4=>⟨_,rfl,trivial,?_⟩
   rw [hl2]
   exact hq _ H4 a4 unkU (by rw [show l++(bld (.alt t u) nx l.length).1=l++(bld t nx l.length).1++(bld u nx (l.length+(bld t nx l.length).1.length)).1++[forkS [((bld t nx l.length).2:Nat),((bld u nx (l.length+(bld t nx l.length).1.length)).2:Nat)]] by simp [bld]]; exact hB4) (hGt.trans hG4 hB3.known hB4.xp fun q=>(hB4.out p q).2 rfl)
 | .star t,hf=>by
   intro X H p hole l a c nx cs Q h hne hn hs hq
   obtain ⟨a1,c1,b,d,pc,rfl,h2,h3⟩:=hn
   simp only [Ptn.items,List.length_append,List.length_cons,List.length_nil] at hs
   obtain ⟨n,o,e,hk⟩:=kid1 h2 h3
   have g1:=hk H h.le
   have h3':=h3
   obtain ⟨a2,n2,c2,b2,m2,d2,rfl⟩:=h3.three
   refine fn37 ok ⟨fun q=>by simp at q,fun _=>⟨fun q=>by simp at q,fun _=>⟨fun _=>⟨⟨by decide,by decide⟩,n,o,e,_,_,_,_,_,_,_,g1,?_⟩,fun q=>by simp at q⟩⟩⟩
   exact c60 ok (c37 t hf) hf h hne h3' (by omega) fun X' H' a' c' hB hG=>⟨_,_,rfl,hq X' H' a' c' hB hG⟩
 | .plus t,hf=>by
   intro X H p hole l a c nx cs Q h hne hn hs hq
   obtain ⟨a1,c1,b,d,pc,rfl,h2,h3⟩:=hn
   simp only [Ptn.items,List.length_append,List.length_cons,List.length_nil] at hs
   obtain ⟨n,o,e,hk⟩:=kid1 h2 h3
   have g1:=hk H h.le
   have h3':=h3
   obtain ⟨a2,n2,c2,b2,m2,d2,rfl⟩:=h3.three
   refine fn37 ok ⟨fun q=>by simp at q,fun _=>⟨fun q=>by simp at q,fun _=>⟨fun q=>by simp at q,fun _=>⟨fun _=>⟨⟨by decide,by decide⟩,n,o,e,_,_,_,_,_,_,_,g1,?_⟩,fun q=>by simp at q⟩⟩⟩⟩
   exact c60 ok (c37 t hf) hf h hne h3' (by omega) fun X' H' a' c' hB hG=>⟨_,_,rfl,hq X' H' a' c' hB hG⟩
 | .may t,hf=>by
   intro X H p hole l a c nx cs Q h hne hn hs hq
   obtain ⟨a1,c1,b,d,pc,rfl,h2,h3⟩:=hn
   simp only [Ptn.items,List.length_append,List.length_cons,List.length_nil] at hs
   have hbt:=bld_len t nx l.length hf
   obtain ⟨n,o,e,hk⟩:=kid1 h2 h3
   have g1:=hk H h.le
   have h3':=h3
   obtain ⟨a2,n2,c2,b2,m2,d2,rfl⟩:=h3.three
   refine fn37 ok ⟨fun q=>by simp at q,fun _=>⟨fun q=>by simp at q,fun _=>⟨fun q=>by simp at q,fun _=>⟨fun q=>by simp at q,fun _=>⟨fun _=>⟨⟨by decide,by decide⟩,n,o,e,_,_,_,_,_,_,_,g1,?_⟩,fun q=>by simp at q⟩⟩⟩⟩⟩
   refine c37 t hf X H p hole l a c nx _ _ h hne h3' (by omega) fun X1 H1 a1' c1' hB1 hG1=>⟨_,rfl,fun n109 h109=>?_⟩
   obtain ⟨hB3,hk3,hG3⟩:=hB1.lit (x:=((bld t nx l.length).2:Nat)) (y:=(nx:Nat)) h109
   have hl1:(l++(bld t nx l.length).1).length=l.length+(bld t nx l.length).1.length:=by simp
   refine c34 ok (f:=[((bld t nx l.length).2:Nat),(nx:Nat)]) hB3 (.inr ⟨by simp [hne],hk3⟩) (by rw [hl1]; omega) fun H4 a4 hB4 hG4=>⟨_,rfl,?_⟩
   rw [hl1]
   exact hq _ H4 a4 unkU (by rw [show l++(bld (.may t) nx l.length).1=l++(bld t nx l.length).1++[forkS [((bld t nx l.length).2:Nat),(nx:Nat)]] by simp [bld]]; exact hB4) ((hG3 hG1).trans hG4 hB3.known hB4.xp fun q=>(hB4.out p q).2 rfl)
theorem c35 {l:List It} {t:Ptn} {a:OA} {c:Nat} {H:KH} {Q:PQ} (hi:ItR H l a) (hl:l.length<=47) (hrg:∀ i∈l,i.2.length<=24) (hok:∀ i∈l,okIt i) (ht:stkM l []=some [t]) (htl:t.items=l)
 (hn:said t.text l=false->∀ H',Le H H'->Q (.tuple #[.agg #[.int .i64 0,.slice none 0 0,.slice none 0 0],.bool false]) H')
 (hq:said t.text l=true->∀ Y H' a1 n1 c1 a2 n2 c2,Le H Y->Le Y H'->NdC Y t [.int .i64 t.op,.slice a1 n1 c1,.slice a2 n2 c2]->Q (.tuple #[.agg #[.int .i64 t.op,.slice a1 n1 c1,.slice a2 n2 c2],.bool true]) H'):Does (env Tryz.prog) 35 [.slice a l.length c] H Q:=by
 have hfit:t.fit:=fit_of t (by rw [htl]; exact hrg)
 refine fn35 ok (c57 ok hi hl hrg hok ht fun Y H2 a1 n1 c1 a2 n2 c2 y1 y2 y3=>⟨_,_,_,_,_,_,_,_,rfl,fun q=>(by cases q),fun _=>?_⟩)
 refine c59 ok t hfit (by rw [htl]; omega) H2 _ _ (y3.mono y2) fun H12 l12=>⟨_,rfl,c58 ok (hi.mono ((y1.trans y2).trans l12)) fun H15 l15=>⟨_,rfl,fun q=>?_,fun q=>?_⟩⟩
 .have q:said t.text l=false:=by simpa using q
  exact hn q H15 ((y1.trans y2).trans (l12.trans l15))
 .have q:said t.text l=true:=by simpa using q
  exact hq q Y H15 a1 n1 c1 a2 n2 c2 y1 (y2.trans (l12.trans l15)) y3
end
end Va
end Go.Proofs.YtfhjkkbaghanhaaGreat
namespace Go.Ew
open Go.Ev Go.Deep
theorem Does.only {E:Env} {g:Nat} {args:List Value} {X H:KH} {Q:PQ} (hl:Le X H) (h:Does E g args X fun v X'=>∀ H',Le X' H'->(∀ k e,H k=some e->X k=none->H' k=some e/\X' k=none)->Q v H'):Does E g args H Q:=by
 refine ⟨h.lt,fun hp wf know=>?_⟩
 obtain ⟨v,h',X',h1,h2,h3,h4,h5,h6,h7⟩:=h.run hp wf fun k e q=>know k e (hl k e q)
 have hin:∀ k e,H k=some e->k<hp.nxt:=fun k e q=>by
  rcases Nat.lt_or_ge k hp.nxt with z | z
  .exact z
  .have:=know k e q; rw [wf k z] at this; cases this
 have hX':∀ k e,H k=some e->X k=none->X' k=none:=fun k e q1 q2=>by
  cases hx:X' k with
  | none=>rfl
  | some e' =>
    rcases h7 k (by rw [hx]; simp) with z | z
    .exact absurd q2 z
    .have:=hin k e q1; omega
 refine ⟨v,h',fun k=>match H k,X k with | some e,none=>some e | _,_=>X' k,h1,h2 _ (fun k e q=>?_) (fun k e q1 q2=>⟨by simp only [q1,q2],hX' k e q1 q2⟩),h3,fun k e q=>?_,h5,fun k q1 q2=>h6 k q1 (hl.none q2),fun k q=>?_⟩
 .show (match H k,X k with | some e,none=>some e | _,_=>X' k:Option Ent)=some e
  split
  .rename_i e0 hk hx
   rw [hX' k e0 hk hx] at q; cases q
  .exact q
 .have q:(match H k,X k with | some e,none=>some e | _,_=>X' k:Option Ent)=some e:=q
  split at q
  .rename_i e0 hk hx
   cases q
   rw [h6 k (hin k _ hk) hx]
   exact know k _ hk
  .exact h4 k e q
 .have q:(match H k,X k with | some e,none=>some e | _,_=>X' k:Option Ent)≠none:=q
  split at q
  .rename_i e0 hk hx
   left; rw [hk]; simp
  .rcases h7 k q with z | z
   .left
    cases hx:X k with
    | none=>exact absurd hx z
    | some e=>rw [hl k e hx]; simp
   .exact .inr z
def PtC (X:KH):List (List It)->List Value->Prop
 | [],cs=>cs=[]
 | l :: r,cs=>∃ a c ds,cs = .slice a l.length c :: ds/\(ItR X l a/\SlOk X 2 a l.length c)/\PtC X r ds
def PtR (H:KH) (pats:List (List It)) (a:OA):Prop:=∃ cs,kold H 1 a pats.length=some cs/\PtC H pats cs
theorem PtC.mono {X Y:KH} (hl:Le X Y):∀ {l:List (List It)} {cs:List Value},PtC X l cs->PtC Y l cs
 | [],cs,h=>h
 | s :: r,cs,⟨a,c,ds,h1,h2,h3⟩=>⟨a,c,ds,h1,⟨h2.1.mono hl,h2.2.mono hl⟩,h3.mono hl⟩
theorem PtR.mono {X Y:KH} (hl:Le X Y) {l:List (List It)} {a:OA} (h:PtR X l a):PtR Y l a:=by
 obtain ⟨cs,h1,h2⟩:=h
 exact ⟨cs,hl.kold h1,h2.mono hl⟩
theorem PtC.get {X:KH}:∀ {l:List (List It)} {cs:List Value} {k:Nat} {i:List It},PtC X l cs->l[k]? = some i->∃ a c,cs[k]? = some (.slice a i.length c)/\ItR X i a
 | [],cs,k,i,h,hk=>by simp at hk
 | s :: r,cs,0,i,⟨a,c,ds,h1,h2,h3⟩,hk=>by
   have hk:s=i:=by simpa using hk
   subst hk; subst h1
   exact ⟨a,c,rfl,h2.1⟩
 | s :: r,cs,k+1,i,⟨a,c,ds,h1,h2,h3⟩,hk=>by
   subst h1
   have hk:r[k]? = some i:=by simpa using hk
   obtain ⟨a',c',q1,q2⟩:=PtC.get h3 hk
   exact ⟨a',c',by simpa using q1,q2⟩
theorem PtC.get2 {X:KH}:∀ {l:List (List It)} {cs:List Value} {k:Nat} {i:List It},PtC X l cs->l[k]? = some i->∃ a c,cs[k]? = some (.slice a i.length c)/\ItR X i a/\SlOk X 2 a i.length c
 | [],cs,k,i,h,hk=>by simp at hk
 | s :: r,cs,0,i,⟨a,c,ds,h1,h2,h3⟩,hk=>by
   have hk:s=i:=by simpa using hk
   subst hk; subst h1
   exact ⟨a,c,rfl,h2.1,h2.2⟩
 | s :: r,cs,k+1,i,⟨a,c,ds,h1,h2,h3⟩,hk=>by
   subst h1
   have hk:r[k]? = some i:=by simpa using hk
   obtain ⟨a',c',q1,q2⟩:=PtC.get2 h3 hk
   exact ⟨a',c',by simpa using q1,q2⟩
def treeD (l:List It):Ptn:=match stkM l [] with
 | some [t]=>t
 | _=>.cls []
structure GoodP (l:List It):Prop where
 st:stkM l []=some [treeD l]
 it:(treeD l).items=l
 ln:l.length<=47
 rg:∀ i∈l,i.2.length<=24
 ok:∀ i∈l,okIt i
def endS (k:Nat):St:=⟨0,0,-1,[],((k+1:Nat):Int)⟩
def ofM:List (List It)->Nat->List Int->List St->List Int × List St
 | [],_,f,tl=>(f,tl)
 | l :: ts,k,f,tl=>ofM ts (k+1) (f++[((bld (treeD l) (tl.length+1) (tl.length+2)).2:Int)]) (tl++endS k :: (bld (treeD l) (tl.length+1) (tl.length+2)).1)
def nfaM (pats:List (List It)):List St:=forkS (ofM pats 0 [] []).1 :: (ofM pats 0 [] []).2
def SsN (H:KH) (l:List St) (a:OA):Prop:=∃ cs,kold H 5 a l.length=some cs/\SsR H l cs
end Go.Ew
namespace Go.Proofs.YtfhjkkbaghanhaaGreat
open Go.Ev Go.Ew
namespace Va
section
variable (ok : EnvOk (env Tryz.prog))
include ok
theorem c23 {pats:List (List It)} {a:OA} {c:Nat} {H:KH} {Q:PQ} (hp:PtR H pats a) (hg:∀ l∈pats,GoodP l) (hs:pats.length<=50)
 (hn:(∃ l∈pats,said (treeD l).text l=false)->∀ H',Le H H'->Q (.slice none 0 0) H')
 (hq:(∀ l∈pats,said (treeD l).text l=true)->∀ a' c' H',Le H H'->SsN H' (nfaM pats) a'->Q (.slice a' (nfaM pats).length c') H'):Does (env Tryz.prog) 23 [.slice a pats.length c] H Q:=by
 refine fn23 ok fun n1 h1=>?_
 have l1:Le H (H.new n1 (mkEnt [.slice none 0 0] 0)):=Le.new h1
 have hB0:Bu H (H.new n1 (mkEnt [.slice none 0 0] 0)) n1 (none,0) [] none 0:=⟨l1,h1,⟨_,if_pos rfl,rfl,rd_some rfl fun j v hv=>by rw [Nat.zero_add]; simp only [mkEnt,tget_wr_nil]; exact hv⟩,⟨[],.nil,rfl⟩,fun b q=>by cases q⟩
 refine c34 ok (f:=[]) (af:=none) (cf:=0) hB0 (.inl ⟨rfl,rfl⟩) (by simp) fun H3 a3 hB3 hG3=>⟨_,rfl,?_⟩
 unfold vc23_L2
 refine ⟨fun n3 n4 n5 x6 a7 n8 n9 x10 x11 H12=>n4=n1/\n5=0/\x6=0/\a7=a/\n8=pats.length/\x10=(pats.length:Nat)/\∃ (k:Nat) (f:List Int) (tl:List St) (a1:OA) (c1:Nat) (af:OA) (cf:Nat) (X:KH),x11=k/\k<=pats.length/\n3=pats.length-k/\Le H X/\Bu X H12 n1 (af,cf) (forkS f :: tl) a1 c1/\Gr H12 1 af f.length cf (inC f) []/\(∀ b,blk af=some b->X b=none/\b≠n1/\blk a1≠some b)/\ofM pats 0 [] []=ofM (pats.drop k) k f tl/\(∀ l∈pats.take k,said (treeD l).text l=true)/\tl.length<=k*1300/\f.length=k,
  ⟨pats.length,rfl,rfl,rfl,rfl,rfl,rfl,rfl,0,[],[],a3,unkU,none,0,H,rfl,by omega,rfl,Le.refl _,hB3,.nil,(fun b q=>by cases q),rfl,by simp,by simp,rfl⟩,?_⟩
 rintro n3 n4 n5 x6 a7 n8 n9 x10 x11 H12 ⟨rfl,rfl,rfl,rfl,rfl,rfl,k,f,tl,a1,c1,af,cf,X,rfl,hk,rfl,hHX,hB,hF,hFo,hof,hsd,htl,hfk⟩
 refine ⟨fun hlt=>?_,fun hge=>?_⟩
 .have hlt:k<pats.length:=by have:=of_decide_eq_true hlt; omega
  have e0:Int.toNat ((k:Nat):Int)=k:=by omega
  obtain ⟨pc,pk,pcs⟩:=hp
  obtain ⟨ai,ci,g1,g2⟩:=pcs.get (k:=k) (i:=pats[k]) (by simp [hlt])
  obtain ⟨b1,o1,e1,r1⟩:=rowAddr ((hHX.trans hB.le).kold pk) (by omega)
  have g3:=r1 (k*1) 1 (by omega)
  have e2:(pc.drop (k*1)).take 1=[.slice ai pats[k].length ci]:=dropTake rfl fun j hj=>by
   match j,hj with
   | 0,_=>simpa using g1
  rw [e2] at g3
  have hgp:=hg _ (List.getElem_mem hlt)
  have hmem:pats[k]∈pats:=List.getElem_mem hlt
  have htk:pats.take (k+1)=pats.take k++[pats[k]]:=List.take_succ_eq_append_getElem hlt
  rw [List.drop_eq_getElem_cons hlt,ofM] at hof
  generalize hpl:pats[k]=pl at *
  rw [e0]
  refine ⟨⟨by omega,by omega⟩,b1,o1,e1,ai,_,ci,g3,?_⟩
  refine Does.only hB.le (c35 ok (g2.mono hHX) hgp.ln hgp.rg hgp.ok hgp.st hgp.it (fun hno X' lx H7 l7 hrest=>⟨_,_,_,_,_,_,_,_,rfl,fun _=>hn ⟨pl,hmem,hno⟩ H7 ((hHX.trans lx).trans l7),fun q=>by cases q⟩) fun hyes Y X' a9 n10 c23' a12 n13 c24 y1 y2 y3 H7 l7 hrest=>⟨_,_,_,_,_,_,_,_,rfl,fun q=>(by cases q),fun _=>?_⟩)
  -- what else there was is as it was
  have hYX':∀ q,(∃ e,H12 q=some e)->X q=none->Y q=none:=fun q ⟨e,h1⟩ h2=>y2.none (hrest q e h1 h2).2
  have hpin:∃ e,H12 n4=some e:=by obtain ⟨e,z,_⟩:=hB.pt; exact ⟨e,z⟩
  have hain:∀ b,blk a1=some b->∃ e,H12 b=some e:=fun b q=>by
   obtain ⟨cs,z,_⟩:=hB.row
   exact z.at' q
  have hfin:∀ b,blk af=some b->∃ e,H12 b=some e:=fun b q=>hF.at' q
  have hB7:Bu Y H7 n4 (af,cf) (forkS f :: tl) a1 c1:=hB.agree y1 (y2.trans l7) (hYX' n4 hpin hB.xp) (fun b q=>hYX' b (hain b q) (hB.out b q).1) fun q e h1 h2=>by
   rcases h1 with h1 | h1
   .exact (hrest q e h2 (by rw [h1]; exact hB.xp)).1
   .exact (hrest q e h2 (hB.out q h1).1).1
  have hF7:Gr H7 1 af f.length cf (inC f) []:=hF.agree fun q e h1 h2=>(hrest q e h2 (hFo q h1).1).1
  have hFo7:∀ b,blk af=some b->Y b=none/\b≠n4/\blk a1≠some b:=fun b q=>⟨hYX' b (hfin b q) (hFo b q).1,(hFo b q).2⟩
  have hw:IntKind.wrap .i64 (((k:Nat):Int)+1)=((k+1:Nat):Int):=by rw [wrap64 (by omega) (by omega)]; omega
  rw [hw]
  have hfit:(treeD pl).fit:=fit_of _ (by rw [hgp.it]; exact hgp.rg)
  have hln:(treeD pl).items.length<=47:=by rw [hgp.it]; exact hgp.ln
  refine c36 ok (s:=endS k) (af:=none) (cf:=0) hB7 (.inr ⟨by simp,rfl⟩) (by simp; omega) fun H2 a2 hB2 hG2=>⟨_,rfl,?_⟩
  have hl2:(forkS f :: tl++[endS k]).length=tl.length+2:=by simp
  have hl2':(forkS f :: tl).length=tl.length+1:=by simp
  rw [hl2']
  refine c37 ok (treeD pl) hfit Y H2 n4 _ _ a2 unkU (tl.length+1) _ _ hB2 (by simp) y3 (by rw [hl2]; omega) fun X5 H5 a5 c5 hB5 hG5=>⟨_,rfl,?_⟩
  rw [hl2] at hB5 ⊢
  have hGt:=hG2.trans hG5 hB2.known hB5.xp fun q=>(hB5.out n4 q).2 rfl
  have hbl:=bld_len (treeD pl) (tl.length+1) (tl.length+2) hfit
  generalize hr:bld (treeD pl) (tl.length+1) (tl.length+2)=r at *
  have hF5:Gr H5 1 af f.length cf (inC f) []:=hF7.agree fun q e h1 h2=>hGt.fr q e h2 (hFo7 q h1).2.1 (hFo7 q h1).2.2
  have hFo5:∀ b,blk af=some b->X5 b=none/\b≠n4/\blk a5≠some b:=fun b q=>by
   obtain ⟨e,z⟩:=hF7.at' q
   refine ⟨?_,(hFo7 b q).2.1,fun u=>?_⟩
   .rcases none_or X5 b with u | ⟨e',u⟩
    .exact u
    .rcases hGt.nw b (by rw [u]; simp) with v | v | v
     .exact absurd (hFo7 b q).1 v
     .rw [z] at v; cases v
     .exact absurd v (hFo7 b q).2.2
   .rcases hGt.fresh b u with v | v
    .exact (hFo7 b q).2.2 v
    .rw [z] at v; cases v
  obtain ⟨cells,s1,s2⟩:=hB5.row
  obtain ⟨ds,t1,t2⟩:=s2
  have hls:(forkS f :: tl++[endS k]++r.1).length=tl.length+2+r.1.length:=by simp; omega
  obtain ⟨bb,ha5⟩:∃ bb,a5=some ⟨bb,0,none⟩:=by
   generalize hN:(forkS f :: tl++[endS k]++r.1).length=N at *
   cases s1 with
   | nil=>omega
   | on b _ e _ _ q1 q2 q3 q4 q5 q6=>exact ⟨b,rfl⟩
  subst ha5
  have hcells:cells=[.int .u8 0,.int .u8 0,.int .i64 (-1)]++[.slice af f.length cf]++([.int .i64 0]++ds):=by
   rw [t1]; simp [stC,forkS]
  rw [hcells] at s1
  obtain ⟨_,q2,_⟩:=s1.put (o:=3) (vs:=[.slice none 0 0]) rfl rfl
  have q2:ld H5 ⟨bb,0+Int.toNat 0*5+3,none⟩ [.slice af f.length cf]:=q2
  refine ⟨trivial,rfl,_,_,c5,hB5.c0,rfl,_,_,c5,hB5.c0,⟨by decide,by rw [hls]; omega⟩,bb,0,rfl,rfl,af,_,cf,q2,fun n18 h18 n19 h19=>?_⟩
  have l18:=Le.new (e:=mkEnt [.int .i64 ((r.2:Nat):Int)] 0) h18
  obtain ⟨a',H',ex',f1,f2,f3,f4,f5⟩:=(hF5.agree fun q e _ z=>l18 q e z).append (ti:=IT1) (new:=[.int .i64 ((r.2:Nat):Int)]) h19 rfl (by omega) (by decide) (by decide)
  have hx:=f3 rfl
  subst hx
  have h19':H5 n19=none:=l18.none h19
  have kept:∀ q e,H5 q=some e->blk af≠some q->H' q=some e:=fun q e z1 z2=>f4 q e (l18 q e z1) z2
  have hB':Bu X5 H' n4 (af,cf) (forkS f :: tl++[endS k]++r.1) (some ⟨bb,0,none⟩) c5:=hB5.agree (Le.refl _) (fun q e z=>kept q e (hB5.le q e z) fun u=>by rw [(hFo5 q u).1] at z; cases z) hB5.xp (fun b q=>(hB5.out b q).1) fun q e z1 z2=>kept q e z2 fun u=>by
   rcases z1 with z1 | z1
   .exact (hFo5 q u).2.1 z1
   .exact (hFo5 q u).2.2 z1
  have s1':=s1.agree (H':=H') fun q e z1 z2=>kept q e z2 fun u=>(hFo5 q u).2.2 z1
  obtain ⟨p1,p2,p3⟩:=s1'.put (o:=3) (vs:=[.slice a' (f.length+1) unkU]) rfl rfl
  have p2:ld H' ⟨bb,0+Int.toNat 0*5+3,none⟩ [.slice af f.length cf]:=p2
  have hbo:=hB5.out bb rfl
  have ha'o:∀ b,blk a'=some b->X5 b=none/\b≠n4/\b≠bb:=fun b q=>by
   rcases f5 b q with u | u
   .exact ⟨(hFo5 b u).1,(hFo5 b u).2.1,fun v=>(hFo5 b u).2.2 (by rw [v]; rfl)⟩
   .rw [u]
    refine ⟨hB5.le.none h19',fun v=>hB5.known (by rw [<- v]; exact h19'),fun v=>?_⟩
    obtain ⟨e,w⟩:=s1.at' (b:=bb) rfl
    rw [<- v,h19'] at w; cases w
  refine ⟨1,_,knew_of (lit_kold (if_pos rfl) rfl),a',_,_,H',f1,⟨⟨rfl,rfl⟩,⟨_,_,c5,hB'.c0,rfl⟩,rfl,trivial⟩,⟨by decide,by rw [hls]; omega⟩,bb,0,rfl,rfl,stOk p2 rfl,p3,trivial,pats.length-(k+1),by omega,rfl,rfl,rfl,rfl,rfl,rfl,rfl,k+1,f++[((r.2:Nat):Int)],tl++endS k :: r.1,some ⟨bb,0,none⟩,c5,a',unkU,X5,rfl,by omega,rfl,(hHX.trans y1).trans hGt.le,?_,?_,fun b q=>⟨(ha'o b q).1,(ha'o b q).2.1,fun v=>(ha'o b q).2.2 (by cases v; rfl)⟩,?_,?_,?_,by simp [hfk]⟩
  .obtain ⟨ep,z1,z2,z3⟩:=hB'.pt
   have hll:(forkS (f++[((r.2:Nat):Int)]) :: (tl++endS k :: r.1)).length=(forkS f :: tl++[endS k]++r.1).length:=by simp
   refine ⟨fun q e z=>put_ne (fun x=>by rw [x,hbo.1] at z; cases z) (hB'.le q e z),hB'.xp,⟨ep,put_ne hbo.2.symm z1,z2,by rw [hll]; exact z3⟩,⟨_,by rw [hll]; exact p1,ds,by simp [stC,forkS],?_⟩,hB'.out⟩
   have:tl++endS k :: r.1=tl++[endS k]++r.1:=by simp
   rw [this]; exact t2
  .have e3:inC (f++[((r.2:Nat):Int)])=inC f++[.int .i64 ((r.2:Nat):Int)]:=by simp [inC]
   have e4:(f++[((r.2:Nat):Int)]).length=f.length+1:=by simp
   rw [e3,e4]
   exact f2.agree fun q e z1 z2=>put_ne (ha'o q z1).2.2 z2
  .rw [hof]
  .rw [htk]
   intro l hl
   rcases List.mem_append.1 hl with hl | hl
   .exact hsd l hl
   .have:l=pl:=by simpa using hl
    rw [this]; exact hyes
  .simp only [List.length_append,List.length_cons]; omega
 .have hge:k=pats.length:=by have:=of_decide_eq_false hge; omega
  subst hge
  rw [List.take_length] at hsd
  rw [List.drop_length] at hof
  have hof:ofM pats 0 [] []=(f,tl):=hof
  have hm:nfaM pats=forkS f :: tl:=by unfold nfaM; rw [hof]
  rw [hm] at hq
  obtain ⟨cs,s1,s2⟩:=hB.row
  obtain ⟨ds,t1,t2⟩:=s2
  refine ⟨rfl,a1,_,c1,hB.c0,hq hsd a1 c1 H12 (hHX.trans hB.le) ⟨cs,s1.row,af,cf,ds,t1,hF.row,t2.mono hB.le⟩⟩
end
end Va
end Go.Proofs.YtfhjkkbaghanhaaGreat
