import Derived.Test.YtibkijpnkmccpaaEwGm1
import Derived.Test.YtibkijpnkmccpaaEwS4
set_option linter.unusedVariables false
set_option linter.unusedSimpArgs false
namespace Go.Proofs.Ytibkijpnkmccpaa
open Go.Ev Go.Ew
namespace Va
section
variable (ok : EnvOk (env Try.prog))
include ok
theorem c37 {a:OA} {c:Nat} {l:List ByteArray} {H:KH} {Q:PQ} (hl:kold H 1 a l.length=some (sC l)) (hs:l.length<=1000000) (hz:∀ s∈l,s.size<=140737488355328) (hq:∀ b,(b=true↔NamesOk l)->Q (.bool b) H):Does (env Try.prog) 37 [.slice a l.length c] H Q:=by
 refine fn37 ok ?_
 show vc37_L3 _ _ _ _ _
 unfold vc37_L3
 refine ⟨fun k a4 n5 n6 x7 H8=>a4=a/\n5=l.length/\H8=H/\∃ i:Nat,x7=i/\i<=l.length/\k=l.length-i/\∀ j (hj:j<l.length),j<i->NameOk l[j]/\∀ m (hm:m<j),l[j]≠l[m]'(by omega),⟨_,rfl,rfl,rfl,0,rfl,by omega,rfl,fun j _ z=>absurd z (by omega)⟩,?_⟩
 rintro k a4 n5 n6 x7 H8 ⟨rfl,rfl,rfl,i,rfl,hi,rfl,hv⟩
 refine ⟨fun hlt=>?_,fun hge=>?_⟩
 .have hlt:i<l.length:=by have:=of_decide_eq_true hlt; omega
  have e0:Int.toNat ((i:Nat):Int)=i:=by omega
  have hi1:IntKind.wrap .i64 (((i:Nat):Int)+1)=((i+1:Nat):Int):=by rw [wrap64 (by omega) (by omega)]; omega
  obtain ⟨b0,o0,ha,r0⟩:=s_ld hl hlt
  unfold vc37_L2
  refine ⟨fun k' a4' n5 n6 x7 x8 H9=>a4'=a4/\n5=l.length/\x7=i/\H9=H8/\∃ j:Nat,x8=j/\j<=i/\k'=i-j/\∀ m (hm:m<l.length),m<j->l[i]≠l[m],⟨_,rfl,rfl,rfl,rfl,0,rfl,by omega,rfl,fun m _ z=>absurd z (by omega)⟩,?_⟩
  rintro k' a4' n5 n6 x7 x8 H9 ⟨rfl,rfl,rfl,rfl,j,rfl,hj,rfl,hw⟩
  refine ⟨fun hlt2=>?_,fun hge2=>?_⟩
  .have hlt2:j<i:=by have:=of_decide_eq_true hlt2; omega
   have e1:Int.toNat ((j:Nat):Int)=j:=by omega
   have hj1:IntKind.wrap .i64 (((j:Nat):Int)+1)=((j+1:Nat):Int):=by rw [wrap64 (by omega) (by omega)]; omega
   obtain ⟨b1,o1,ha1,r1⟩:=s_ld hl (i:=j) (by omega)
   rw [e0,e1,hj1]
   refine ⟨trivial,⟨by omega,by omega⟩,b0,o0,ha,_,r0,⟨by omega,by omega⟩,b1,o1,ha1,_,r1,fun z=>?_,fun z=>?_⟩
   .refine hq false ⟨fun y=>(by cases y),fun y=>?_⟩
    exact absurd (strEq_iff.1 z) (y.b i hlt j hlt2)
   .refine ⟨i-(j+1),by omega,rfl,rfl,rfl,rfl,j+1,rfl,by omega,rfl,fun m hm z2=>?_⟩
    by_cases e:m=j
    .subst e
     intro w
     rw [strEq_iff.2 w] at z; cases z
    .exact hw m hm (by omega)
  .have hge2:j=i:=by have:=of_decide_eq_false hge2; omega
   subst hge2
   rw [e0,hi1]
   refine ⟨⟨by omega,by omega⟩,b0,o0,ha,_,r0,c51 ok (hz _ (List.getElem_mem _)) fun b hb=>⟨b,rfl,fun z=>?_,fun z=>?_⟩⟩
   .refine hq false ⟨fun y=>(by cases y),fun y=>?_⟩
    have:=hb.2 (y.a j hlt)
    rw [this] at z; cases z
   .have bt:b=true:=by cases b; cases z; rfl
    refine ⟨l.length-(j+1),by omega,rfl,rfl,rfl,j+1,rfl,by omega,rfl,fun m hm z2=>?_⟩
    by_cases e:m=j
    .subst e; exact ⟨hb.1 bt,fun m' hm'=>hw m' (by omega) hm'⟩
    .exact hv m hm (by omega)
 .have hge:i=l.length:=by have:=of_decide_eq_false hge; omega
  subst hge
  exact hq true ⟨fun _=>⟨fun j hj=>(hv j hj hj).1,fun j hj=>(hv j hj hj).2⟩,fun _=>rfl⟩
theorem c26 {g:Gm} {H:KH} {Q:PQ} (hg:GI H g) (hf:Few g) (hq:∀ b H',Le H H'->(b=true↔MayG g)->Q (.bool b) H'):Does (env Try.prog) 26 [gv g] H Q:=by
 have nq:∀ {H'},Le H H'->¬ MayG g->Q (.bool false) H':=fun hl h=>hq false _ hl ⟨fun y=>(by cases y),fun y=>absurd y h⟩
 refine fn26 ok ⟨fun z=>nq (Le.refl H) fun y=>?_,fun z1=>⟨fun z=>nq (Le.refl H) fun y=>?_,fun z2=>⟨fun z=>nq (Le.refl H) fun y=>?_,fun z3=>⟨fun z=>nq (Le.refl H) fun y=>?_,fun z4=>⟨fun z=>nq (Le.refl H) fun y=>?_,fun z5=>⟨fun z=>nq (Le.refl H) fun y=>?_,fun z6=>?_⟩⟩⟩⟩⟩⟩
 .have:=of_decide_eq_true z; have:=y.t; omega
 .have:=of_decide_eq_true z; have:=y.t; omega
 .have:=of_decide_eq_true z; have:=y.n; omega
 .have:=of_decide_eq_true z; have:=y.n; omega
 .have:=of_decide_eq_true z; have:=y.p; omega
 .have:=of_decide_eq_true z; have:=y.p; omega
 have y1:1<=g.toks.length/\g.toks.length<=8:=by have:=of_decide_eq_false z1; have:=of_decide_eq_false z2; omega
 have y2:1<=g.nts.length/\g.nts.length<=8:=by have:=of_decide_eq_false z3; have:=of_decide_eq_false z4; omega
 have y3:1<=g.prods.length/\g.prods.length<=16:=by have:=of_decide_eq_false z5; have:=of_decide_eq_false z6; omega
 clear z1 z2 z3 z4 z5 z6
 unfold vc26_L7
 refine ⟨fun k a4 n5 n6 a7 n8 n9 a10 n11 n12 a13 n14 n15 x16 H17=>a4=g.ta/\n5=g.toks.length/\a7=g.na/\n8=g.nts.length/\a10=g.pa/\n11=g.prods.length/\∃ i:Nat,x16=i/\i<=g.toks.length/\k=g.toks.length-i/\n14=i/\Nr H H17 1 a13 n14 n15 (sC ((g.toks.take i).map Tk.name)),⟨_,rfl,rfl,rfl,rfl,rfl,rfl,0,rfl,by omega,rfl,rfl,.nil (Le.refl H)⟩,?_⟩
 rintro k a4 n5 n6 a7 n8 n9 a10 n11 n12 a13 n14 n15 x16 H17 ⟨rfl,rfl,rfl,rfl,rfl,rfl,i,rfl,hi,rfl,rfl,o⟩
 refine ⟨fun hlt=>?_,fun hge=>?_⟩
 .have hlt:n14<g.toks.length:=by have:=of_decide_eq_true hlt; omega
  have e0:Int.toNat ((n14:Nat):Int)=n14:=by omega
  have hi1:IntKind.wrap .i64 (((n14:Nat):Int)+1)=((n14+1:Nat):Int):=by rw [wrap64 (by omega) (by omega)]; omega
  obtain ⟨b0,o0,ha,r0⟩:=tk_ld (o.le.kold hg.t) hlt
  rw [e0,hi1]
  refine ⟨⟨by omega,by omega⟩,b0,o0,ha,rfl,_,ldSub r0 0 1 (by simp),fun n6 h6 n7 h7=>⟨_,_,knew_of (ti:=tiS) (lit_kold (if_pos rfl) rfl),?_⟩⟩
  obtain ⟨a5,c5,H5,f1,f2,f3⟩:=(o.up (Le.new h6)).app (ti:=tiS) (nm:=n7) (m:=1) (new:=[.string g.toks[n14].name]) h7 rfl (by omega) (by decide) (by decide)
  refine ⟨a5,_,c5,H5,f1,g.toks.length-(n14+1),by omega,rfl,rfl,rfl,rfl,rfl,rfl,n14+1,rfl,by omega,rfl,rfl,?_⟩
  have e:sC ((g.toks.take (n14+1)).map Tk.name)=sC ((g.toks.take n14).map Tk.name)++[.string g.toks[n14].name]:=by
   rw [List.take_succ_eq_append_getElem hlt,List.map_append,sC_app]; rfl
  rw [e]; exact f2
 have hge:n14=g.toks.length:=by have:=of_decide_eq_false hge; omega
 subst hge
 rw [List.take_length] at o
 unfold vc26_L6
 refine ⟨fun k a4 n5 n6 a7 n8 n9 a10 n11 n12 a13 n14 n15 x16 H17=>a4=g.ta/\n5=g.toks.length/\a7=g.na/\n8=g.nts.length/\a10=g.pa/\n11=g.prods.length/\∃ i:Nat,x16=i/\i<=g.nts.length/\k=g.nts.length-i/\n14=g.toks.length+i/\Nr H H17 1 a13 n14 n15 (sC (g.toks.map Tk.name++(g.nts.take i).map Nt.name))/\∀ j (hj:j<g.nts.length),j<i->AttrsOk g.nts[j],⟨_,rfl,rfl,rfl,rfl,rfl,rfl,0,rfl,by omega,rfl,rfl,by simpa using o,fun j _ z=>absurd z (by omega)⟩,?_⟩
 rintro k a4 n5 n6 a7 n8 n9 a10 n11 n12 a13 n14 n15 x16 H17 ⟨rfl,rfl,rfl,rfl,rfl,rfl,i,rfl,hi,rfl,rfl,o,hv⟩
 refine ⟨fun hlt=>?_,fun hge=>?_⟩
 .have hlt:i<g.nts.length:=by have:=of_decide_eq_true hlt; omega
  have e0:Int.toNat ((i:Nat):Int)=i:=by omega
  have hi1:IntKind.wrap .i64 (((i:Nat):Int)+1)=((i+1:Nat):Int):=by rw [wrap64 (by omega) (by omega)]; omega
  obtain ⟨b0,o0,ha,r0⟩:=nt_ld (o.le.kold hg.n) hlt
  obtain ⟨_,f1s,f2s,f3s,f4s⟩:=hf.ns i hlt
  rw [e0,hi1]
  refine ⟨⟨by omega,by omega⟩,b0,o0,ha,rfl,_,ldSub r0 0 1 (by simp),fun n6 h6 n7 h7=>⟨_,_,knew_of (ti:=tiS) (lit_kold (if_pos rfl) rfl),?_⟩⟩
  obtain ⟨a5,c5,K,f1,f2,f3⟩:=(o.up (Le.new h6)).app (ti:=tiS) (nm:=n7) (m:=1) (new:=[.string g.nts[i].name]) h7 rfl (by omega) (by decide) (by decide)
  have e:sC (g.toks.map Tk.name++(g.nts.take (i+1)).map Nt.name)=sC (g.toks.map Tk.name++(g.nts.take i).map Nt.name)++[.string g.nts[i].name]:=by
   rw [List.take_succ_eq_append_getElem hlt,List.map_append,<- List.append_assoc,sC_app]; rfl
  rw [<- e] at f2
  obtain ⟨bK,oK,haK,rK⟩:=nt_ld (f2.le.kold hg.n) hlt
  refine ⟨a5,_,c5,K,f1,trivial,fun n12 h12=>⟨⟨by omega,by omega⟩,bK,oK,haK,rfl,_,_,_,(Le.new h12).ld (ldSub rK 1 1 (by simp)),⟨by omega,by omega⟩,bK,oK,haK,rfl,_,_,_,(Le.new h12).ld (ldSub rK 2 1 (by simp)),fun n23 h23=>⟨_,_,knew_of (ti:=tiS) ((Le.new h12).kold (f2.le.kold (hg.ni i hlt).1)),?_⟩⟩⟩
  obtain ⟨a26,c18,H29,g1,g2,g3,g4,g5⟩:=(Own.lit (H0:=K) (H:=KH.new K n12 (mkEnt [] 0)) (sz:=tiS.size) n12 0 [] (if_pos rfl) rfl (by decide) h12).append (ti:=tiS) (m:=g.nts[i].inh.length) (nm:=n23) (new:=sC g.nts[i].inh) (Le.new h12) h23 (by rw [sC_len]; exact (Nat.mul_one _).symm) (by omega) (by decide) (by decide)
  rw [Nat.zero_add,List.nil_append] at g2
  rw [Nat.zero_add] at g1
  refine ⟨a26,_,c18,H29,g1,⟨⟨rfl,rfl⟩,rfl,rfl,⟨⟨by omega,by omega⟩,bK,oK,haK,rfl⟩,⟨rfl,rfl⟩,⟨_,_,_,g3.ld (ldSub rK 2 1 (by simp)),rfl⟩,trivial⟩,fun n35 h35=>⟨_,_,knew_of (ti:=tiS) (g3.kold (f2.le.kold (hg.ni i hlt).2)),?_⟩⟩
  obtain ⟨a38,c42,H41,g6,g7,g8,g9,g10⟩:=g2.append (ti:=tiS) (m:=g.nts[i].syn.length) (nm:=n35) (new:=sC g.nts[i].syn) g3 h35 (by rw [sC_len]; exact (Nat.mul_one _).symm) (by omega) (by decide) (by decide)
  rw [<- sC_app,<- List.length_append] at g7
  rw [<- List.length_append] at g6
  refine ⟨a38,_,c42,H41,g6,trivial,fun z=>nq (f2.le.trans g8) fun y=>?_,fun z=>c37 ok (Own.cells g7) (by simp; omega) (fun s hs=>?_) fun b hb=>⟨b,rfl,fun w=>nq (f2.le.trans g8) fun y=>?_,fun w=>?_⟩⟩
  .have:=of_decide_eq_true z
   have:=(y.at_ i hlt).a
   simp only [List.length_append] at *
   omega
  .rcases List.mem_append.1 hs with q | q
   .exact f3s s q
   .exact f4s s q
  .have:=hb.2 (y.at_ i hlt).b
   rw [this] at w; cases w
  .have bt:b=true:=by cases b; cases w; rfl
   refine ⟨g.nts.length-(i+1),by omega,rfl,rfl,rfl,rfl,rfl,rfl,i+1,rfl,by omega,rfl,rfl,f2.up g8,fun j hj z2=>?_⟩
   by_cases e:j=i
   .subst e
    have z:=of_decide_eq_false z
    simp only [List.length_append] at z
    exact ⟨by omega,hb.1 bt⟩
   .exact hv j hj (by omega)
 have hge:i=g.nts.length:=by have:=of_decide_eq_false hge; omega
 subst hge
 rw [List.take_length] at o
 have hat:∀ j (hj:j<g.nts.length),AttrsOk g.nts[j]:=fun j hj=>hv j hj hj
 clear hv
 unfold vc26_L5
 have el:g.toks.length+g.nts.length=(namesG g).length:=by unfold namesG; simp
 have o:Nr H H17 1 a13 (namesG g).length n15 (sC (namesG g)):=by rw [<- el]; exact o
 rw [el]
 refine ⟨fun k a4 n5 n6 a7 n8 n9 a10 n11 n12 a13' n14 n15' x16 H17'=>a4=g.ta/\n5=g.toks.length/\a7=g.na/\n8=g.nts.length/\a10=g.pa/\n11=g.prods.length/\a13'=a13/\n14=(namesG g).length/\n15'=n15/\H17'=H17/\∃ i:Nat,x16=i/\i<=g.prods.length/\k=g.prods.length-i/\∀ j (hj:j<g.prods.length),j<i->ProdOk g.toks g.nts.length g.prods[j],⟨_,rfl,rfl,rfl,rfl,rfl,rfl,rfl,rfl,rfl,rfl,0,rfl,by omega,rfl,fun j _ z=>absurd z (by omega)⟩,?_⟩
 rintro k a4 n5 n6' a7 n8 n9' a10 n11 n12' a13' n14 n15' x16 H17' ⟨rfl,rfl,rfl,rfl,rfl,rfl,rfl,rfl,rfl,rfl,i,rfl,hi,rfl,hv⟩
 refine ⟨fun hlt=>?_,fun hge=>?_⟩
 .have hlt:i<g.prods.length:=by have:=of_decide_eq_true hlt; omega
  have e0:Int.toNat ((i:Nat):Int)=i:=by omega
  have hi1:IntKind.wrap .i64 (((i:Nat):Int)+1)=((i+1:Nat):Int):=by rw [wrap64 (by omega) (by omega)]; omega
  obtain ⟨b0,o0,ha,r0⟩:=pr_ld (o.le.kold hg.p) hlt
  have hri:=o.le.kold (hg.pi i hlt).1
  rw [e0]
  refine ⟨⟨by omega,by omega⟩,b0,o0,ha,_,_,_,_,_,_,_,r0,fun z=>nq o.le fun y=>?_,fun z1=>⟨fun z=>nq o.le fun y=>?_,fun z2=>⟨fun z=>nq o.le fun y=>?_,fun z3=>?_⟩⟩⟩
  .have:=of_decide_eq_true z; have:=(y.pr i hlt).a; omega
  .have:=of_decide_eq_true z; have:=(y.pr i hlt).a; omega
  .have:=of_decide_eq_true z; have:=(y.pr i hlt).b; omega
  have p1:0<=g.prods[i].left/\g.prods[i].left<g.nts.length:=by have:=of_decide_eq_false z1; have:=of_decide_eq_false z2; omega
  have p2:g.prods[i].right.length<=5:=by have:=of_decide_eq_false z3; omega
  unfold vc26_L3
  refine ⟨fun k' a4 n5 n6 a7 n8 n9 a10 n11 n12 a13q n14 n15q x16 x17 a18 n19 n20 a21 n22 n23 x24 H25=>a4=g.ta/\n5=g.toks.length/\a7=g.na/\n8=g.nts.length/\a10=g.pa/\n11=g.prods.length/\a13q=a13'/\n14=(namesG g).length/\n15q=n15'/\H25=H17'/\x16=i/\a18=g.prods[i].ra/\n19=g.prods[i].right.length/\∃ j:Nat,x24=j/\j<=g.prods[i].right.length/\k'=g.prods[i].right.length-j/\∀ m (hm:m<g.prods[i].right.length),m<j->SymOk g.toks g.nts.length g.prods[i].right[m],⟨_,rfl,rfl,rfl,rfl,rfl,rfl,rfl,rfl,rfl,rfl,rfl,rfl,rfl,0,rfl,by omega,rfl,fun j _ z=>absurd z (by omega)⟩,?_⟩
  rintro k' a4 n5 n6'' a7 n8 n9'' a10 n11 n12'' a13q n14 n15q x16 x17 a18 n19 n20 a21 n22 n23 x24 H25 ⟨rfl,rfl,rfl,rfl,rfl,rfl,rfl,rfl,rfl,rfl,rfl,rfl,rfl,j,rfl,hj,rfl,hw⟩
  refine ⟨fun hlt2=>?_,fun hge2=>?_⟩
  .have hlt2:j<g.prods[i].right.length:=by have:=of_decide_eq_true hlt2; omega
   have e1:Int.toNat ((j:Nat):Int)=j:=by omega
   have hj1:IntKind.wrap .i64 (((j:Nat):Int)+1)=((j+1:Nat):Int):=by rw [wrap64 (by omega) (by omega)]; omega
   obtain ⟨b1,o1,ha1,r1⟩:=sy_ld hri hlt2
   have go:SymOk g.toks g.nts.length g.prods[i].right[j]->∀ m (hm:m<g.prods[i].right.length),m<j+1->SymOk g.toks g.nts.length g.prods[i].right[m]:=fun h m hm z=>by
    by_cases e:m=j
    .subst e; exact h
    .exact hw m hm (by omega)
   have no:¬ SymOk g.toks g.nts.length g.prods[i].right[j]->¬ MayG g:=fun h y=>h ((y.pr i hlt).c j hlt2)
   rw [e1,hj1]
   refine ⟨⟨by omega,by omega⟩,b1,o1,ha1,_,_,r1,fun z=>nq o.le (no fun y=>?_),fun z=>⟨fun zb=>⟨fun z4=>nq o.le (no fun y=>?_),fun z4=>?_⟩,fun zb=>⟨fun _=>⟨fun z4=>nq o.le (no fun y=>?_),fun z4=>?_⟩,fun z4=>?_⟩⟩⟩
   .have:=of_decide_eq_true z; have:=y.a; omega
   .have:=of_decide_eq_true z4
    obtain ⟨h,_⟩:=y.b zb
    omega
   .have z:=of_decide_eq_false z
    have z4:=of_decide_eq_false z4
    have hp:(g.prods[i].right[j]).pos.toNat<g.toks.length:=by omega
    obtain ⟨b2,o2,ha2,r2⟩:=tk_ld (o.le.kold hg.t) hp
    refine ⟨⟨by omega,by omega⟩,b2,o2,ha2,rfl,_,ldSub r2 2 1 (by simp),fun z5=>nq o.le (no fun y=>?_),fun z5=>⟨fun w=>(by rw [zb] at w; cases w),fun w=>?_⟩⟩
    .obtain ⟨_,h⟩:=y.b zb
     have z5:g.toks[(g.prods[i].right[j]).pos.toNat].skip=true:=z5
     rw [z5] at h; cases h
    .exact ⟨g.prods[i].right.length-(j+1),by omega,rfl,rfl,rfl,rfl,rfl,rfl,rfl,rfl,rfl,rfl,rfl,rfl,rfl,j+1,rfl,by omega,rfl,go ⟨by omega,fun _=>⟨hp,z5⟩,fun y=>(by rw [zb] at y; cases y)⟩⟩
   .have:=of_decide_eq_true z4
    have:=y.c zb
    omega
   .have z:=of_decide_eq_false z
    have z4:=of_decide_eq_false z4
    exact ⟨g.prods[i].right.length-(j+1),by omega,rfl,rfl,rfl,rfl,rfl,rfl,rfl,rfl,rfl,rfl,rfl,rfl,rfl,j+1,rfl,by omega,rfl,go ⟨by omega,fun y=>(by rw [zb] at y; cases y),fun _=>by omega⟩⟩
   .rw [zb] at z4; cases z4
  .have hge2:j=g.prods[i].right.length:=by have:=of_decide_eq_false hge2; omega
   subst hge2
   rw [hi1]
   refine ⟨g.prods.length-(i+1),by omega,rfl,rfl,rfl,rfl,rfl,rfl,rfl,rfl,rfl,rfl,i+1,rfl,by omega,rfl,fun m hm z=>?_⟩
   by_cases e:m=i
   .subst e; exact ⟨p1,p2,fun m' hm'=>hw m' hm' hm'⟩
   .exact hv m hm (by omega)
 .have hge:i=g.prods.length:=by have:=of_decide_eq_false hge; omega
  subst hge
  refine c37 ok o.row (by unfold namesG; simp; omega) (fun s hs=>?_) fun b hb=>⟨b,rfl,hq b H17' o.le ⟨fun y=>⟨y1,y2,y3,hb.1 y,hat,fun m hm=>hv m hm hm⟩,fun y=>hb.2 y.nm⟩⟩
  rcases List.mem_append.1 hs with q | q
  .obtain ⟨t,ht,rfl⟩:=List.mem_map.1 q
   obtain ⟨m,hm,rfl⟩:=List.mem_iff_getElem.1 ht
   exact hf.ts m hm
  .obtain ⟨t,ht,rfl⟩:=List.mem_map.1 q
   obtain ⟨m,hm,rfl⟩:=List.mem_iff_getElem.1 ht
   exact (hf.ns m hm).1
end
end Va
end Go.Proofs.Ytibkijpnkmccpaa
namespace Go.Ew
open Go.Ev Go.Deep
structure PkB (Z:KH) (a:OA) (n:Nat):Prop where
 b:∀ i,i<n->∃ b o x,a=some ⟨b,o,none⟩/\ld Z ⟨b,o+i,none⟩ [.int .u8 x]/\0<=x/\x<=255
 n:n<=150
theorem PkB.up {Z Z':KH} {a:OA} {n:Nat} (h:PkB Z a n) (hl:Le Z Z'):PkB Z' a n:=⟨fun i hi=>by
 obtain ⟨b,o,x,h1,h2,h3⟩:=h.b i hi
 exact ⟨b,o,x,h1,hl.ld h2,h3⟩,h.n⟩
structure PkE (H:KH) (p:Nat) (a:OA) (n c:Nat):Prop where
 ex:∃ e x,H p=some e/\wrB e=true/\rd e.cells 0 2=some [.slice a n c,.int .i64 x]/\0<=x/\x<=n
theorem PkE.up {H H':KH} {p n c:Nat} {a:OA} (h:PkE H p a n c) (hl:∀ e,H p=some e->H' p=some e):PkE H' p a n c:=by
 obtain ⟨e,x,h1,h2⟩:=h.ex
 exact ⟨e,x,hl e h1,h2⟩
structure St (Z H:KH) (p:Nat) (a:OA) (n c:Nat) (R:List Rr):Prop where
 r:Rws Z H p R
 e:PkE H p a n c
section
variable {Z H : KH} {p n c : Nat} {a : OA} {R : List Rr}
theorem St.ne (h:St Z H p a n c R) {nm:Nat} (hn:H nm=none):nm≠p:=fun z=>by
 obtain ⟨e,x,h1,_⟩:=h.e.ex
 rw [z,h1] at hn; cases hn
theorem St.new (h:St Z H p a n c R) {nm:Nat} {E:Ent} (hn:H nm=none):St Z (H.new nm E) p a n c R:=⟨h.r.step fun k e _ q=>Le.new hn k e q,h.e.up fun e q=>Le.new hn p e q⟩
theorem St.perm (h:St Z H p a n c R) {R':List Rr} (q:R.Perm R'):St Z H p a n c R':=⟨h.r.perm q,h.e⟩
theorem St.none_ {sz:Nat} (h:St Z H p a n c R):St Z H p a n c (⟨sz,none,0,0,[]⟩ :: R):=⟨h.r.none_,h.e⟩
theorem St.tail {r:Rr} (h:St Z H p a n c (r :: R)):St Z H p a n c R:=⟨h.r.tail,h.e⟩
theorem St.app {r:Rr} {nm m:Nat} {ti:TI} {new:List Value} (h:St Z H p a n c (r :: R)) (hn:H nm=none) (hsz:r.sz=ti.size) (hm:new.length=m*ti.size) (hs:r.n+m<=1000000) (hb:ti.bytes<=1000000) (hz:1<=ti.size) (hro:ti.size<=1000000:=by decide) :
 ∃ a' c' H',kappend H nm ti r.a r.n r.c m new=some (.slice a' (r.n+m) c',H')/\St Z H' p a n c (⟨r.sz,a',r.n+m,c',r.cs++new⟩ :: R):=by
 obtain ⟨a',c',H',f1,f2,f3,f4⟩:=h.r.app (ti:=ti) (nm:=nm) (m:=m) (new:=new) hn (h.ne hn) hsz hm hs hb hz hro
 exact ⟨a',c',H',f1,f2,h.e.up f3⟩
theorem St.grow (h:St Z H p a n c R) {nm:Nat} {E:Ent} (hn:H nm=none):St (Z.new nm E) (H.new nm E) p a n c R/\Le Z (Z.new nm E):=by
 have hz:Z nm=none:=h.r.le.none hn
 refine ⟨⟨(h.new hn).r.base h.r.le.new2 (new_none h.r.zp (fun z=>h.ne hn z.symm)) fun r q k z=>?_,(h.new hn).e⟩,Le.new hz⟩
 obtain ⟨e,q2⟩:=(h.r.ok r q).has z
 exact new_none (h.r.fr r q k z).1 fun w=>by rw [w,hn] at q2; cases q2
theorem St.freeze {r:Rr} (h:St Z H p a n c (r :: R)):∃ Z',Le Z Z'/\St Z' H p a n c R/\kold Z' r.sz r.a r.n=some r.cs:=by
 have g:=h.r.head
 have hd:=List.pairwise_cons.1 h.r.dj
 cases hb:blk r.a with
 | none =>
   exact ⟨Z,Le.refl Z,h.tail,(g.agree (H':=Z) fun k e w _=>by rw [hb] at w; cases w).row⟩
 | some b =>
   obtain ⟨e,he⟩:=g.has hb
   have hf:=h.r.fr r (List.mem_cons_self ..) b hb
   have hle:Le (Z.new b e) H:=fun k e' q=>by
    simp only [KH.new] at q
    by_cases z:k=b
    .rw [if_pos z] at q; cases q; rw [z]; exact he
    .rw [if_neg z] at q; exact h.r.le k e' q
   refine ⟨Z.new b e,Le.new hf.1,⟨h.tail.r.base hle (new_none h.r.zp fun z=>hf.2 z.symm) fun s q k z=>new_none (h.r.fr s (List.mem_cons_of_mem _ q) k z).1 fun w=>hd.1 s q b hb (by rw [<- w]; exact z),h.e⟩,?_⟩
   refine (g.agree (H':=Z.new b e) fun k e' w q=>?_).row
   rw [hb] at w
   cases w
   rw [he] at q
   cases q
   exact if_pos rfl
theorem St.freezeG {r:Rr} (h:St Z H p a n c (r :: R)):∃ Z',Le Z Z'/\St Z' H p a n c R/\Gs Z' r.sz r.a r.n r.c r.cs:=by
 have g:=h.r.head
 have hd:=List.pairwise_cons.1 h.r.dj
 cases hb:blk r.a with
 | none =>
   exact ⟨Z,Le.refl Z,h.tail,g.agree (H':=Z) fun k e w _=>by rw [hb] at w; cases w⟩
 | some b =>
   obtain ⟨e,he⟩:=g.has hb
   have hf:=h.r.fr r (List.mem_cons_self ..) b hb
   have hle:Le (Z.new b e) H:=fun k e' q=>by
    simp only [KH.new] at q
    by_cases z:k=b
    .rw [if_pos z] at q; cases q; rw [z]; exact he
    .rw [if_neg z] at q; exact h.r.le k e' q
   refine ⟨Z.new b e,Le.new hf.1,⟨h.tail.r.base hle (new_none h.r.zp fun z=>hf.2 z.symm) fun s q k z=>new_none (h.r.fr s (List.mem_cons_of_mem _ q) k z).1 fun w=>hd.1 s q b hb (by rw [<- w]; exact z),h.e⟩,?_⟩
   refine g.agree (H':=Z.new b e) fun k e' w q=>?_
   rw [hb] at w
   cases w
   rw [he] at q
   cases q
   exact if_pos rfl
theorem St.enter (h:St Z H p a n c R):St (H.del p) H p a n c []/\Le Z (H.del p):=⟨⟨.nil (del_le H p) (if_pos rfl),h.e⟩,fun k e q=>del_at (h.r.le k e q) fun z=>by rw [z,h.r.zp] at q; cases q⟩
theorem St.leave {H':KH} (h:St Z H p a n c R) (h':St (H.del p) H' p a n c []):St Z H' p a n c R:=⟨h.r.step fun k e z q=>h'.r.le k e (del_at q z),h'.e⟩
end
theorem hide_new {H:KH} {n:Nat} {e:Ent} (h:H n=none):hideK (H.new n e) [n]=H:=new_del h
theorem back_hide (H:KH) (l:List Nat):backK H (hideK H l) l=H:=by
 funext k
 rw [backK_get,hideK_get]
 split<;>rfl
theorem new_self {H:KH} {n:Nat} {e:Ent}:(H.new n e) n=some e:=if_pos rfl
theorem len_of {α:Type} {f:α->List Value} {k n:Nat} (hf:∀ x,(f x).length=k) (hk:0<k) {H:KH} {a:OA} {l:List α} (h:kold H k a n=some (l.flatMap f)):n=l.length:=by
 have h1:=kold_len h
 rw [fm_len hf] at h1
 exact (Nat.eq_of_mul_eq_mul_right hk h1).symm
structure Xi where
 a:Int
 b:Int
 c:Int
 s:ByteArray
 la:OA
 ln:Nat
 lc:Nat
 d:Int
 e:Int
 ma:OA
 mn:Nat
 mc:Nat
def xiC (x:Xi):List Value:=[.int .i64 x.a,.int .i64 x.b,.int .i64 x.c,.string x.s,.slice x.la x.ln x.lc,.int .i64 x.d,.int .i64 x.e,.slice x.ma x.mn x.mc]
def exC (l:List Xi):List Value:=l.flatMap xiC
theorem exC_app (l m:List Xi):exC (l++m)=exC l++exC m:=List.flatMap_append
theorem ex_ld {H:KH} {a:OA} {i:Nat} {l:List Xi} (h:kold H 8 a l.length=some (exC l)) (hi:i<l.length):∃ b o,a=some ⟨b,o,none⟩/\ld H ⟨b,o+i*8,none⟩ (xiC l[i]):=it_ld (k:=8) (f:=xiC) (fun _=>rfl) h hi
def tiX:TI:=⟨8,104,true,3,0,0,[(0,1),(1,4),(5,1),(6,1),(7,1)],[.int .i64 0,.int .i64 0,.int .i64 0,.string ⟨#[]⟩,.slice none 0 0,.int .i64 0,.int .i64 0,.slice none 0 0]⟩
def tiU:TI:=⟨10,120,true,3,0,0,[(0,1),(1,1),(2,8)],[.int .i64 0,.int .i64 0,.int .i64 0,.int .i64 0,.int .i64 0,.string ⟨#[]⟩,.slice none 0 0,.int .i64 0,.int .i64 0,.slice none 0 0]⟩
theorem St.write {Z H:KH} {p n c sz rn rc:Nat} {a ra:OA} {R:List Rr} {xs ys zs vs:List Value} (h:St Z H p a n c (⟨sz,ra,rn,rc,xs++ys++zs⟩ :: R)) (hy:ys.length=vs.length) (h0:0<(xs++ys++zs).length):∃ b o,ra=some ⟨b,o,none⟩/\ld H ⟨b,o+xs.length,none⟩ ys/\KH.may H b/\St Z (H.put ⟨b,o+xs.length,none⟩ vs) p a n c (⟨sz,ra,rn,rc,xs++vs++zs⟩ :: R):=by
 obtain ⟨b,o,e,f1,f2,f3,f4,_⟩:=h.r.write (vs:=vs) hy h0
 exact ⟨b,o,e,f1,f2,f3,h.e.up fun e q=>put_ne (fun z=>f4 z.symm) q⟩
abbrev T18:=Nat->Nat->Nat->OA->Nat->Nat->OA->Nat->Nat->OA->Nat->Nat->Int->OA->Nat->Nat->OA->Nat->Nat->OA->Nat->Nat->OA->Nat->Nat->Int->KH->Prop
end Go.Ew
namespace Go.Proofs.Ytibkijpnkmccpaa
open Go.Ev Go.Ew
namespace Va
section
variable (ok : EnvOk (env Try.prog))
include ok
theorem c15 {Z H:KH} {p n c m:Nat} {a:OA} {R:List Rr} {Q:PQ} (hb:PkB Z a n) (h:St Z H p a n c R) (hm:0<m) (hq:∀ (x:Int) H',0<=x->x<m->St Z H' p a n c R->Q (.int .i64 x) H'):Does (env Try.prog) 15 [.pointer (some ⟨p,0,none⟩),.int .i64 ((m:Nat):Int)] H Q:=by
 obtain ⟨e,x,h1,h2,h3,h4,h5⟩:=h.e.ex
 have hn:=hb.n
 have full:ld H ⟨p,0,none⟩ [.slice a n c,.int .i64 x]:=⟨rfl,e,h1,h3⟩
 refine fn15 ok ⟨trivial,rfl,x,ldSub full 1 1 (by simp),rfl,a,n,c,ldSub full 0 1 (by simp),fun z=>hq 0 H (by omega) (by omega) h,fun z=>?_⟩
 have z:x<n:=by have:=of_decide_eq_false z; omega
 have e1:IntKind.wrap .i64 (x+1)=x+1:=wrap64 (by omega) (by omega)
 have e2:IntKind.wrap .i64 (x+1-1)=x:=by rw [wrap64 (by omega) (by omega)]; omega
 have hr:rd (wr e.cells 1 [.int .i64 (x+1)]) 0 2=some [.slice a n c,.int .i64 (x+1)]:=by
  have:=rdWr (e:=e.cells) (N:=2) (o:=1) (xs:=[.slice a n c]) (ys:=[.int .i64 x]) (zs:=[]) (vs:=[.int .i64 (x+1)]) h3 rfl rfl
  simpa using this
 have hp1:(H.put ⟨p,0+1,none⟩ [.int .i64 (x+1)]) p=some ⟨wr e.cells (0+1) [.int .i64 (x+1)],e.len,e.unk,none⟩:=put_at h1
 have full2:ld (H.put ⟨p,0+1,none⟩ [.int .i64 (x+1)]) ⟨p,0,none⟩ [.slice a n c,.int .i64 (x+1)]:=⟨rfl,_,hp1,hr⟩
 have hst:St Z (H.put ⟨p,0+1,none⟩ [.int .i64 (x+1)]) p a n c R:=⟨h.r.step fun k e' k1 q=>put_ne k1 q,⟨_,x+1,hp1,wrB_keep h2,hr,by omega,by omega⟩⟩
 obtain ⟨b,o,y,ha,hy,y1,y2⟩:=hb.b x.toNat (by omega)
 have ey:IntKind.wrap .i64 y=y:=wrap64 (by omega) (by omega)
 refine ⟨rfl,x,ldSub full 1 1 (by simp),rfl,⟨[.int .i64 x],rfl,ldSub full 1 1 (by simp)⟩,⟨e,h1,h2⟩,trivial,?_⟩
 rw [e1]
 refine ⟨rfl,a,n,c,ldSub full2 0 1 (by simp),rfl,x+1,ldSub full2 1 1 (by simp),?_⟩
 rw [e2]
 refine ⟨⟨by omega,by omega⟩,b,o,ha,y,?_,by omega,?_⟩
 .rw [Nat.mul_one]
  exact hst.r.le.ld hy
 .rw [ey]
  exact hq _ _ (Int.tmod_nonneg _ y1) (Int.tmod_lt_of_pos _ (by omega)) hst
theorem c8 {a:OA} {n c:Nat} {H:KH} {Q:PQ} (hb:PkB H a n) (hq:∀ p H',H p=none->St H H' p a n c []->Q (.pointer (some ⟨p,0,none⟩)) H'):Does (env Try.prog) 8 [.slice a n c] H Q :=
 fn8 ok fun n1 h1=>hq n1 _ h1 ⟨.nil (Le.new h1) h1,⟨mkEnt [.slice a n c,.int .i64 0] 0,0,if_pos rfl,rfl,mk_rd (cs:=[.slice a n c,.int .i64 0]) (u:=0),by omega,by omega⟩⟩
theorem c17 {k x:Int} {s:ByteArray} {a:OA} {n c:Nat} {H:KH} {Q:PQ} (hq:Q (.agg #[.int .i64 0,.int .i64 k,.int .i64 x,.string s,.slice a n c,.int .i64 0,.int .i64 0,.slice none 0 0]) H):Does (env Try.prog) 17 [.agg #[.int .i64 k,.int .i64 x,.string s,.slice a n c]] H Q:=fn17 ok hq
theorem c18 {x y:Int} {H:KH} {Q:PQ} (hq:Q (.agg #[.int .i64 1,.int .i64 0,.int .i64 0,.string ⟨#[]⟩,.slice none 0 0,.int .i64 x,.int .i64 y,.slice none 0 0]) H):Does (env Try.prog) 18 [.int .i64 x,.int .i64 y] H Q:=fn18 ok hq
theorem c19 {x:Int} {H:KH} {Q:PQ} (hq:Q (.agg #[.bool true,.int .i64 x]) H):Does (env Try.prog) 19 [.int .i64 x] H Q:=fn19 ok hq
theorem c29 {ta na pa:OA} {tn tc nc pn pc:Nat} {nts:List Nt} {x:Int} {H:KH} {Q:PQ} (hn:kold H 3 na nts.length=some (ntC nts)) (hs:∀ i (h:i<nts.length),nts[i].inh.length+nts[i].syn.length<=4) (hq:∀ (y:Int),0<=y->y<=4->Q (.int .i64 y) H):Does (env Try.prog) 29 [.agg #[.slice ta tn tc,.slice na nts.length nc,.slice pa pn pc],.int .i64 x] H Q:=by
 refine fn29 ok ⟨fun z=>hq 0 (by omega) (by omega),fun z=>⟨fun z2=>hq 0 (by omega) (by omega),fun z2=>?_⟩⟩
 have z:=of_decide_eq_false z
 have z2:=of_decide_eq_false z2
 obtain ⟨b,o,ha,r⟩:=nt_ld hn (i:=x.toNat) (by omega)
 have:=hs x.toNat (by omega)
 refine ⟨trivial,⟨by omega,by omega⟩,b,o,ha,rfl,_,_,_,ldSub r 1 1 (by simp),⟨by omega,by omega⟩,b,o,ha,rfl,_,_,_,ldSub r 2 1 (by simp),?_⟩
 rw [wrap64 (by omega) (by omega)]
 exact hq _ (by omega) (by omega)
theorem c30 {ta na pa:OA} {tn tc nc pn pc:Nat} {nts:List Nt} {x y:Int} {H:KH} {Q:PQ} (hn:kold H 3 na nts.length=some (ntC nts)) (hq:∀ b,Q (.bool b) H):Does (env Try.prog) 30 [.agg #[.slice ta tn tc,.slice na nts.length nc,.slice pa pn pc],.int .i64 x,.int .i64 y] H Q:=by
 refine fn30 ok ⟨fun z=>⟨fun z2=>⟨fun z3=>?_,fun _=>hq _⟩,fun _=>hq _⟩,fun _=>hq _⟩
 have z:=of_decide_eq_true z
 have z2:=of_decide_eq_true z2
 obtain ⟨b,o,ha,r⟩:=nt_ld hn (i:=x.toNat) (by omega)
 exact ⟨⟨by omega,by omega⟩,b,o,ha,rfl,_,_,_,ldSub r 1 1 (by simp),hq _⟩
theorem l18 {Z H:KH} {p n c:Nat} {a:OA} {nts:List Nt} {na:OA} {right:List Sy} {occ:Nat} {nt:Int} (hb:PkB Z a n) (hn:kold Z 3 na nts.length=some (ntC nts)) (hs:∀ i (h:i<nts.length),nts[i].inh.length+nts[i].syn.length<=4) (ho:occ<=100)
 {a6 a12 a16 a19 a22 a25:OA} {n7 n8 n11 n13 n14 n17 n18 n20 n21 n23 n24 n26 n27:Nat} {x15:Int} {os:List Value} {ins:List Xi} (h:St Z H p a n c [⟨10,a22,n23,n24,os⟩,⟨8,a25,n26,n27,exC ins⟩]) (hc:n23+n26<=5*occ) {k0:Nat} (hk:0<k0) {cont:T18}
 (hq:∀ a22 n23 n24 a25 n26 n27 os ins H',St Z H' p a n c [⟨10,a22,n23,n24,os⟩,⟨8,a25,n26,n27,exC ins⟩]->n23+n26<=5*(occ+1)->cont (k0-1) p 0 a6 n7 n8 na nts.length n11 a12 n13 n14 x15 a16 n17 n18 a19 n20 n21 a22 n23 n24 a25 n26 n27 ((occ+1:Nat):Int) H') :
 vc16_L1 p 0 a6 n7 n8 na nts.length n11 a12 n13 n14 x15 a16 n17 n18 a19 n20 n21 a22 n23 n24 a25 n26 n27 ((occ:Nat):Int) nt H k0 cont:=by
 unfold vc16_L1
 refine ⟨fun k n4 n5 b6 m7 m8 a9 n10 m11 b12 m13 m14 y15 b16 m17 m18 b19 m20 m21 a22 n23 n24 a25 n26 n27 x28 x29 x30 H=>n4=p/\n5=0/\b6=a6/\m7=n7/\m8=n8/\a9=na/\n10=nts.length/\m11=n11/\b12=a12/\m13=n13/\m14=n14/\y15=x15/\b16=a16/\m17=n17/\m18=n18/\b19=a19/\m20=n20/\m21=n21/\x28=occ/\x29=nt/\∃ j:Nat,x30=j/\j<=4/\k=4-j/\n23+n26<=5*occ+j/\∃ os ins,St Z H p a n c [⟨10,a22,n23,n24,os⟩,⟨8,a25,n26,n27,exC ins⟩],⟨4,rfl,rfl,rfl,rfl,rfl,rfl,rfl,rfl,rfl,rfl,rfl,rfl,rfl,rfl,rfl,rfl,rfl,rfl,rfl,rfl,rfl,0,rfl,by omega,rfl,by omega,os,ins,h⟩,?_⟩
 rintro k n4 n5 b6 m7 m8 a9 n10 m11 b12 m13 m14 y15 b16 m17 m18 b19 m20 m21 a22 n23 n24 a25 n26 n27 x28 x29 x30 H ⟨rfl,rfl,rfl,rfl,rfl,rfl,rfl,rfl,rfl,rfl,rfl,rfl,rfl,rfl,rfl,rfl,rfl,rfl,rfl,rfl,j,rfl,hj,rfl,hc,os,ins,h⟩
 have hj1:IntKind.wrap .i64 (((j:Nat):Int)+1)=((j+1:Nat):Int):=by rw [wrap64 (by omega) (by omega)]; omega
 refine c29 ok (h.r.le.kold hn) hs fun y y0 y4=>⟨y,rfl,fun z=>?_,fun z=>?_⟩
 .have z:=of_decide_eq_true z
  unfold vc16_J0
  refine c30 ok (h.r.le.kold hn) fun b=>⟨b,rfl,fun _=>c18 ok ⟨_,_,_,_,_,_,_,_,_,_,_,_,rfl,fun n18 h18 n19 h19=>⟨_,_,knew_of (ti:=tiX) (lit_kold (if_pos rfl) rfl),?_⟩⟩,fun _=>fun n27 h27 n28 h28=>⟨_,_,knew_of (ti:=tiU) (lit_kold (if_pos rfl) rfl),?_⟩⟩
  .obtain ⟨a5,c5,H5,f1,f2⟩:=((h.new h18).perm (.swap _ _ _)).app (ti:=tiX) (nm:=n19) (m:=1) (new:=xiC ⟨1,0,0,⟨#[]⟩,none,0,0,((occ:Nat):Int),((j:Nat):Int),none,0,0⟩) h19 rfl rfl (by show n26+1<=_; omega) (by decide) (by decide)
   refine ⟨a5,_,c5,H5,f1,4-(j+1),by omega,rfl,rfl,rfl,rfl,rfl,rfl,rfl,rfl,rfl,rfl,rfl,rfl,rfl,rfl,rfl,rfl,rfl,rfl,rfl,rfl,rfl,j+1,hj1,by omega,rfl,by show n23+(n26+1)<=_; omega,os,ins++[⟨1,0,0,⟨#[]⟩,none,0,0,((occ:Nat):Int),((j:Nat):Int),none,0,0⟩],?_⟩
   rw [exC_app]
   exact f2.perm (.swap _ _ _)
  .obtain ⟨a5,c5,H5,f1,f2⟩:=(h.new h27).app (ti:=tiU) (nm:=n28) (m:=1) (new:=[.int .i64 ((occ:Nat):Int),.int .i64 ((j:Nat):Int),.int .i64 0,.int .i64 0,.int .i64 0,.string ⟨#[]⟩,.slice none 0 0,.int .i64 0,.int .i64 0,.slice none 0 0]) h28 rfl rfl (by show n23+1<=_; omega) (by decide) (by decide)
   exact ⟨a5,_,c5,H5,f1,4-(j+1),by omega,rfl,rfl,rfl,rfl,rfl,rfl,rfl,rfl,rfl,rfl,rfl,rfl,rfl,rfl,rfl,rfl,rfl,rfl,rfl,rfl,rfl,j+1,hj1,by omega,rfl,by show (n23+1)+n26<=_; omega,_,ins,f2⟩
 .have ho1:IntKind.wrap .i64 (((occ:Nat):Int)+1)=((occ+1:Nat):Int):=by rw [wrap64 (by omega) (by omega)]; omega
  rw [ho1]
  exact ⟨k0-1,by omega,rfl,hq _ _ _ _ _ _ os ins _ h (by omega)⟩
theorem c16 {Z H:KH} {p n c:Nat} {a:OA} {nts:List Nt} {na ra ta pa ua:OA} {tn tc nc pn pc rc un uc:Nat} {right:List Sy} {left:Int} {Q:PQ} (hb:PkB Z a n) (h:St Z H p a n c []) (hn:kold Z 3 na nts.length=some (ntC nts)) (hs:∀ i (h:i<nts.length),nts[i].inh.length+nts[i].syn.length<=4) (hr:kold Z 2 ra right.length=some (syC right)) (hrl:right.length<=50)
 (hq:∀ a' n' c' H',St Z H' p a n c []->Q (.slice a' n' c') H'):Does (env Try.prog) 16 [.pointer (some ⟨p,0,none⟩),.agg #[.slice ta tn tc,.slice na nts.length nc,.slice pa pn pc],.agg #[.int .i64 left,.slice ra right.length rc,.slice ua un uc]] H Q:=by
 refine fn16 ok ?_
 show vc16_L9 _ _ _ _ _ _ _ _ _ _ _ _ _ _ _ _ _ _ _ _
 unfold vc16_L9
 refine ⟨fun k n4 n5 a6 n7 n8 a9 n10 n11 a12 n13 n14 x15 a16 n17 n18 a19 n20 n21 a22 n23 n24 a25 n26 n27 x28 H=>n4=p/\n5=0/\a9=na/\n10=nts.length/\a16=ra/\n17=right.length/\∃ occ:Nat,x28=occ/\occ<=right.length+1/\k=right.length+1-occ/\n23+n26<=5*occ/\∃ os ins,St Z H p a n c [⟨10,a22,n23,n24,os⟩,⟨8,a25,n26,n27,exC ins⟩],⟨_,rfl,rfl,rfl,rfl,rfl,rfl,rfl,0,rfl,by omega,rfl,by omega,[],[],h.none_.none_⟩,?_⟩
 rintro k n4 n5 a6 n7 n8 a9 n10 n11 a12 n13 n14 x15 a16 n17 n18 a19 n20 n21 a22 n23 n24 a25 n26 n27 x28 H ⟨rfl,rfl,rfl,rfl,rfl,rfl,occ,rfl,hocc,rfl,hc,os,ins,h⟩
 refine ⟨fun z=>?_,fun z=>?_⟩
 .have z:occ<=right.length:=by have:=of_decide_eq_true z; omega
  have ho1:IntKind.wrap .i64 (((occ:Nat):Int)+1)=((occ+1:Nat):Int):=by rw [wrap64 (by omega) (by omega)]; omega
  have L:∀ nt,vc16_L1 n4 0 a6 n7 n8 a9 nts.length n11 a12 n13 n14 x15 a16 right.length n18 a19 n20 n21 a22 n23 n24 a25 n26 n27 ((occ:Nat):Int) nt H (right.length+1-occ) (fun k n4' n5 a6 n7 n8 a9' n10 n11 a12 n13 n14 x15 a16' n17 n18 a19 n20 n21 a22 n23 n24 a25 n26 n27 x28 H=>n4'=n4/\n5=0/\a9'=a9/\n10=nts.length/\a16'=a16/\n17=right.length/\∃ occ:Nat,x28=occ/\occ<=right.length+1/\k=right.length+1-occ/\n23+n26<=5*occ/\∃ os ins,St Z H n4 a n c [⟨10,a22,n23,n24,os⟩,⟨8,a25,n26,n27,exC ins⟩]):=fun nt =>
   l18 ok (right:=right) hb hn hs (by omega) h hc (by omega) fun a22 n23 n24 a25 n26 n27 os ins H' h' hc'=>⟨rfl,rfl,rfl,rfl,rfl,rfl,occ+1,rfl,by omega,by omega,hc',os,ins,h'⟩
  refine ⟨fun z2=>?_,fun z2=>L x15⟩
  have z2:0<occ:=by have:=of_decide_eq_true z2; omega
  have em:IntKind.wrap .i64 (((occ:Nat):Int)-1)=((occ-1:Nat):Int):=by rw [wrap64 (by omega) (by omega)]; omega
  have et:Int.toNat ((occ-1:Nat):Int)=occ-1:=by omega
  obtain ⟨b0,o0,ha,r0⟩:=sy_ld (h.r.le.kold hr) (i:=occ-1) (by omega)
  rw [em,et]
  refine ⟨⟨by omega,by omega⟩,b0,o0,ha,rfl,_,ldSub r0 1 1 (by simp),⟨by omega,by omega⟩,b0,o0,ha,rfl,_,ldSub r0 0 1 (by simp),fun _=>fun n7' h7 n8' h8=>⟨_,_,knew_of (ti:=tiX) (lit_kold (if_pos rfl) rfl),?_⟩,fun _=>L _⟩
  obtain ⟨a5,c5,H5,f1,f2⟩:=((h.new h7).perm (.swap _ _ _)).app (ti:=tiX) (nm:=n8') (m:=1) (new:=xiC ⟨2,0,0,⟨#[]⟩,none,0,0,((occ:Nat):Int),0,none,0,0⟩) h8 rfl rfl (by show n26+1<=_; omega) (by decide) (by decide)
  refine ⟨a5,_,c5,H5,f1,right.length+1-(occ+1),by omega,rfl,rfl,rfl,rfl,rfl,rfl,rfl,occ+1,ho1,by omega,rfl,by show n23+(n26+1)<=_; omega,os,ins++[⟨2,0,0,⟨#[]⟩,none,0,0,((occ:Nat):Int),0,none,0,0⟩],?_⟩
  rw [exC_app]
  exact f2.perm (.swap _ _ _)
 .clear z hn hr hs
  obtain ⟨Z',hZ,h',hin⟩:=(h.perm (.swap _ _ _)).freeze
  clear h
  have h:=h'
  clear h'
  have hin:kold Z' 8 a25 n26=some (exC ins):=hin
  have el:n26=ins.length:=len_of (k:=8) (f:=xiC) (fun _=>rfl) (by decide) hin
  subst el
  have hb:=hb.up hZ
  have hq:∀ a' n' c' H',St Z' H' n4 a n c []->Q (.slice a' n' c') H':=fun a' n' c' H' s=>hq a' n' c' H' ⟨s.r.base (hZ.trans s.r.le) (hZ.none s.r.zp) (fun r q=>by cases q),s.e⟩
  have hn23:n23<=1000:=by omega
  clear hc hrl hocc hZ
  unfold vc16_L8
  refine ⟨fun k m4 n5 a6 n7 n8 a9 n10 n11 x12 H13=>m4=n4/\n5=0/\a6=a22/\n7=n23/\n8=n24/\a9=a25/\n10=ins.length/\∃ i:Nat,x12=i/\i<=n23/\k=n23-i/\∃ os,St Z' H13 n4 a n c [⟨10,a22,n23,n24,os⟩],⟨_,rfl,rfl,rfl,rfl,rfl,rfl,rfl,rfl,0,rfl,by omega,rfl,os,h⟩,?_⟩
  clear h
  rintro k m4 n5 a6 n7 n8 a9 n10 n11 x12 H13 ⟨rfl,rfl,rfl,rfl,rfl,rfl,rfl,i,rfl,hi,rfl,os,h⟩
  refine ⟨fun z=>?_,fun z=>hq _ _ _ _ h.tail⟩
  have hlt:i<n7:=by have:=of_decide_eq_true z; omega
  have e0:Int.toNat ((i:Nat):Int)=i:=by omega
  have hi1:IntKind.wrap .i64 (((i:Nat):Int)+1)=((i+1:Nat):Int):=by rw [wrap64 (by omega) (by omega)]; omega
  refine c15 ok (m:=5) hb h (by decide) fun x3 H2 x30 x31 h=>⟨x3,rfl,c17 ok ⟨_,_,_,_,_,_,_,_,_,_,_,_,rfl,c15 ok (m:=3) hb h (by decide) fun x20 H19 x0 x1 h=>⟨x20,rfl,?_⟩⟩⟩
  unfold vc16_L6
  refine ⟨fun k m4' n5 a6' n7' n8' a9' n10 n11 x12 x13 x14 x15 s16 a17 n18 n19 x20 x21 a22 n23 n24 x25 H26=>m4'=m4/\n5=0/\a6'=a6/\n7'=n7/\n8'=n8/\a9'=a9/\n10=ins.length/\x12=i/\0<=x25/\x25<=3/\k=x25.toNat/\∃ os,St Z' H26 m4 a n c [⟨10,a6,n7,n8,os⟩],⟨_,rfl,rfl,rfl,rfl,rfl,rfl,rfl,rfl,rfl,x0,by omega,rfl,os,h⟩,?_⟩
  clear h
  rintro k m4' n5 a6' n7' n8' a9' n10 n11' x12 x13 x14 x15 s16 a17 n18 n19 x20 x21 a22 n23 n24 x25 H26 ⟨rfl,rfl,rfl,rfl,rfl,rfl,rfl,rfl,w0,w3,rfl,os,h⟩
  have J:∀ n11',vc16_J5 ((i:Nat):Int) n7' a6' x13 x14 x15 s16 a17 n18 n19 x20 x21 a22 n23 n24 H26 (n7'-i) (fun k m4 n5 a6 n7 n8 a9 n10 n11 x12 H13=>m4=m4'/\n5=0/\a6=a6'/\n7=n7'/\n8=n8'/\a9=a9'/\n10=ins.length/\∃ i:Nat,x12=i/\i<=n7'/\k=n7'-i/\∃ os,St Z' H13 m4' a n c [⟨10,a6',n7',n8',os⟩]) m4' 0 n8' a9' ins.length n11':=fun n11'=>by
   unfold vc16_J5
   have hol:=kold_len h.r.head.row
   have hol:os.length=n7'*10:=hol
   have hsp:os=os.take (i*10+2)++(os.drop (i*10+2)).take 8++os.drop (i*10+10):=by
    rw [List.append_assoc,show os.drop (i*10+10)=(os.drop (i*10+2)).drop 8 by rw [List.drop_drop],List.take_append_drop,List.take_append_drop]
   have l1:(os.take (i*10+2)).length=i*10+2:=by rw [List.length_take]; omega
   have l2:((os.drop (i*10+2)).take 8).length=8:=by rw [List.length_take,List.length_drop]; omega
   rw [hsp] at h
   obtain ⟨b,o,ea,f1,f2,f3⟩:=h.write (vs:=[.int .i64 x13,.int .i64 x14,.int .i64 x15,.string s16,.slice a17 n18 n19,.int .i64 x20,.int .i64 x21,.slice a22 n23 n24]) l2 (by rw [<- hsp]; omega)
   rw [l1,<- Nat.add_assoc] at f1 f3
   rw [e0,hi1]
   exact ⟨⟨by omega,by omega⟩,b,o,ea,rfl,⟨_,l2,f1⟩,f2,n7'-(i+1),by omega,rfl,rfl,rfl,rfl,rfl,rfl,rfl,rfl,i+1,rfl,by omega,rfl,_,f3⟩
  refine ⟨fun z=>⟨fun z2=>⟨trivial,fun n1 h1=>?_⟩,fun _=>J _⟩,fun _=>J _⟩
  clear J
  have z:=of_decide_eq_true z
  have z2:0<ins.length:=by have:=of_decide_eq_true z2; omega
  rw [hide_new h1]
  refine c15 ok (m:=4) hb h (by decide) fun x4 H3 x40 x41 h=>⟨x4,rfl,fun h3=>⟨⟨rfl,rfl,rfl,rfl,rfl,trivial⟩,⟨by omega,by omega⟩,n1,0,rfl,?_⟩⟩
  rw [back_new,hide_new h3]
  have hl:∀ H:KH,kold (H.new n1 (mkEnt [.int .i64 4,.int .i64 7,.int .i64 13,.int .i64 14] 0)) 1 (some ⟨n1,0,none⟩) ([4,7,13,14]:List Int).length=some (inC [4,7,13,14]):=fun H=>lit_kold (if_pos rfl) rfl
  obtain ⟨b2,o2,e2,r2⟩:=in_ld (hl H3) (i:=x4.toNat) (by show _<4; omega)
  cases e2
  refine ⟨_,r2,c15 ok (m:=ins.length) hb h z2 fun x10 H9 x100 x101 h=>⟨x10,rfl,fun h9=>?_⟩⟩
  rw [back_new]
  obtain ⟨b3,o3,e3,r3⟩:=in_ld (hl H9) (i:=x4.toNat) (by show _<4; omega)
  cases e3
  obtain ⟨b4,o4,e4,r4⟩:=ex_ld ((h.new (E:=mkEnt [.int .i64 4,.int .i64 7,.int .i64 13,.int .i64 14] 0) h9).r.le.kold hin) (i:=x10.toNat) (by omega)
  have ew:IntKind.wrap .i64 (x25-1)=x25-1:=wrap64 (by omega) (by omega)
  refine ⟨⟨⟨⟨by omega,by omega⟩,n1,0,rfl,rfl⟩,⟨_,r3,rfl⟩,rfl,rfl,trivial⟩,⟨by omega,by omega⟩,b4,o4,e4,_,_,_,_,_,_,_,_,_,_,_,_,r4,fun n28 h28=>⟨trivial,(x25-1).toNat,by omega,rfl,rfl,rfl,rfl,rfl,rfl,rfl,rfl,rfl,?_⟩⟩
  rw [ew]
  exact ⟨by omega,by omega,rfl,os,(h.new h9).new h28⟩
end
end Va
end Go.Proofs.Ytibkijpnkmccpaa
namespace Go.Ew
open Go.Ev Go.Deep
def tiT:TI:=⟨3,40,true,3,0,0,[(0,1),(1,1),(2,1)],[.string ⟨#[]⟩,.string ⟨#[]⟩,.bool false]⟩
def tiN:TI:=⟨3,64,true,3,0,0,[(0,1),(1,1),(2,1)],[.string ⟨#[]⟩,.slice none 0 0,.slice none 0 0]⟩
def tiP:TI:=⟨3,56,true,3,0,0,[(0,1),(1,1),(2,1)],[.int .i64 0,.slice none 0 0,.slice none 0 0]⟩
def tiY:TI:=⟨2,16,true,3,0,0,[(0,1),(1,1)],[.bool false,.int .i64 0]⟩
def IJ:List ByteArray:=[⟨#[105]⟩,⟨#[106]⟩]
def SU:List ByteArray:=[⟨#[115]⟩,⟨#[117]⟩]
def byN (i:Nat):UInt8:=(97+i).toUInt8
def nmT (i:Nat):ByteArray:=⟨#[116,byN i]⟩
def nmN (i:Nat):ByteArray:=⟨#[110,byN i]⟩
def tkN (i:Nat):Tk:=⟨nmT i,⟨[byN i].toArray⟩,false⟩
theorem catT (u:UInt8):(⟨#[116]⟩:ByteArray)++⟨[u].toArray⟩=⟨#[116,u]⟩:=ByteArray.ext (by simp [ByteArray.data_append])
theorem catN (i:Nat):(⟨#[110]⟩:ByteArray)++⟨[byN i].toArray⟩=nmN i:=ByteArray.ext (by simp [ByteArray.data_append,nmN])
theorem by_cells {i:Nat} (h:i<5):bytesOfCells [.int .u8 (IntKind.wrap .u8 (IntKind.wrap .i64 (97+((i:Nat):Int))))]=some [byN i]:=by
 match i,h with
 | 0,_=>rfl
 | 1,_=>rfl
 | 2,_=>rfl
 | 3,_=>rfl
 | 4,_=>rfl
theorem app_all {α:Type} {P:Nat->α->Prop} {l:List α} {x:α} (h:∀ i (hi:i<l.length),P i l[i]) (hx:P l.length x):∀ i (hi:i<(l++[x]).length),P i (l++[x])[i]:=fun i hi=>by
 by_cases e:i<l.length
 .rw [List.getElem_append_left e]; exact h i e
 .have:i=l.length:=by simp at hi; omega
  subst this
  simpa using hx
theorem NtsI.app {H:KH} {l:List Nt} {x:Nt} (h:NtsI H l) (h1:kold H 1 x.ia x.inh.length=some (sC x.inh)) (h2:kold H 1 x.sa x.syn.length=some (sC x.syn)):NtsI H (l++[x]):=fun i hi=>app_all (P:=fun _ (x:Nt)=>kold H 1 x.ia x.inh.length=some (sC x.inh)/\kold H 1 x.sa x.syn.length=some (sC x.syn)) h ⟨h1,h2⟩ i hi
theorem PrsI.appK {H:KH} {l:List Pr} {x:Pr} (h:PrsI H l) (h1:kold H 2 x.ra x.right.length=some (syC x.right)) (h2:CutI H x.ra x.rc x.right):PrsI H (l++[x]):=fun i hi=>app_all (P:=fun _ (x:Pr)=>kold H 2 x.ra x.right.length=some (syC x.right)/\CutI H x.ra x.rc x.right) h ⟨h1,h2⟩ i hi
theorem PrsI.app {H:KH} {l:List Pr} {x:Pr} (h:PrsI H l) (h1:Gs H 2 x.ra x.right.length x.rc (syC x.right)):PrsI H (l++[x]):=fun i hi=>app_all (P:=fun _ (x:Pr)=>kold H 2 x.ra x.right.length=some (syC x.right)/\CutI H x.ra x.rc x.right) h ⟨h1.row,.grown h1⟩ i hi
structure MadeN (i:Nat) (x:Nt):Prop where
 a:x.name=nmN i
 b:∃ u,x.inh=IJ.take u
 c:∃ v,x.syn=SU.take v
def nameB (s:ByteArray):Bool:=decide (1<=s.size)&&decide (s.size<=8)&&(List.range s.size).all fun i=>(decide (97<=byteAt s i)&&decide (byteAt s i<=122))||(decide (0<i)&&decide (48<=byteAt s i)&&decide (byteAt s i<=57))
theorem nameB_ok {s:ByteArray} (h:nameB s=true):NameOk s:=by
 unfold nameB at h
 simp only [Bool.and_eq_true,decide_eq_true_eq,List.all_eq_true,List.mem_range,Bool.or_eq_true] at h
 obtain ⟨⟨h1,h2⟩,h3⟩:=h
 exact ⟨h1,h2,fun i hi=>by
  rcases h3 i hi with q | ⟨⟨q1,q2⟩,q3⟩
  .exact .inl q
  .exact .inr ⟨q1,q2,q3⟩⟩
def namesB (l:List ByteArray):Bool:=l.all nameB&&(List.range l.length).all fun i=>(List.range i).all fun j=>!(strEq ((l[i]?).getD ⟨#[]⟩) ((l[j]?).getD ⟨#[]⟩))
theorem namesB_ok {l:List ByteArray} (h:namesB l=true):NamesOk l:=by
 unfold namesB at h
 simp only [Bool.and_eq_true,List.all_eq_true,List.mem_range] at h
 refine ⟨fun i hi=>nameB_ok (h.1 _ (List.getElem_mem hi)),fun i hi j hj e=>?_⟩
 have:=h.2 i hi j hj
 rw [List.getElem?_eq_getElem hi,List.getElem?_eq_getElem (by omega:j<l.length),Option.getD_some,Option.getD_some,strEq_iff.2 e] at this
 cases this
theorem names_made {t n:Nat} (ht:t<=3) (hn:n<=4):NamesOk ((List.range t).map nmT++(List.range n).map nmN):=by
 apply namesB_ok
 match t,ht,n,hn with
 | 0,_,0,_=>decide +kernel
 | 0,_,1,_=>decide +kernel
 | 0,_,2,_=>decide +kernel
 | 0,_,3,_=>decide +kernel
 | 0,_,4,_=>decide +kernel
 | 1,_,0,_=>decide +kernel
 | 1,_,1,_=>decide +kernel
 | 1,_,2,_=>decide +kernel
 | 1,_,3,_=>decide +kernel
 | 1,_,4,_=>decide +kernel
 | 2,_,0,_=>decide +kernel
 | 2,_,1,_=>decide +kernel
 | 2,_,2,_=>decide +kernel
 | 2,_,3,_=>decide +kernel
 | 2,_,4,_=>decide +kernel
 | 3,_,0,_=>decide +kernel
 | 3,_,1,_=>decide +kernel
 | 3,_,2,_=>decide +kernel
 | 3,_,3,_=>decide +kernel
 | 3,_,4,_=>decide +kernel
theorem attrs_made (u v:Nat):NamesOk (IJ.take u++SU.take v):=by
 apply namesB_ok
 have e:∀ (l:List ByteArray) (u:Nat),l.length=2->l.take u=l.take (min u 2):=fun l u h=>by rw [<- h,<- List.take_take,List.take_length]
 rw [e IJ u rfl,e SU v rfl]
 have h1:min u 2<=2:=Nat.min_le_right _ _
 have h2:min v 2<=2:=Nat.min_le_right _ _
 generalize min u 2=u at *
 generalize min v 2=v at *
 match u,h1,v,h2 with
 | 0,_,0,_=>decide +kernel
 | 0,_,1,_=>decide +kernel
 | 0,_,2,_=>decide +kernel
 | 1,_,0,_=>decide +kernel
 | 1,_,1,_=>decide +kernel
 | 1,_,2,_=>decide +kernel
 | 2,_,0,_=>decide +kernel
 | 2,_,1,_=>decide +kernel
 | 2,_,2,_=>decide +kernel
theorem MadeN.few {i:Nat} {x:Nt} (h:MadeN i x):x.inh.length+x.syn.length<=4:=by
 obtain ⟨u,hu⟩:=h.b
 obtain ⟨v,hv⟩:=h.c
 rw [hu,hv,List.length_take,List.length_take]
 show min u 2+min v 2<=4
 omega
theorem MadeN.ok {i:Nat} {x:Nt} (h:MadeN i x):AttrsOk x:=⟨h.few,by
 obtain ⟨u,hu⟩:=h.b
 obtain ⟨v,hv⟩:=h.c
 rw [hu,hv]
 exact attrs_made u v⟩
theorem MadeN.names {l:List Nt} (h:∀ i (hi:i<l.length),MadeN i l[i]):l.map Nt.name=(List.range l.length).map nmN:=List.ext_getElem (by simp) fun i h1 h2=>by
 have hi:i<l.length:=by simpa using h1
 simp [(h i hi).a]
theorem MayG.few {g:Gm} (h:MayG g):Few g:=by
 obtain ⟨h1,h2,h3,h4,h5,h6⟩:=h
 have hsz:∀ s∈namesG g,s.size<=140737488355328:=fun s hs=>by
  obtain ⟨i,hi,rfl⟩:=List.mem_iff_getElem.1 hs
  have:=(h4.a i hi).b
  omega
 have hat:∀ i (hi:i<g.nts.length),∀ s∈g.nts[i].inh++g.nts[i].syn,s.size<=140737488355328:=fun i hi s hs=>by
  obtain ⟨j,hj,rfl⟩:=List.mem_iff_getElem.1 hs
  have:=((h5 i hi).b.a j hj).b
  omega
 refine ⟨by omega,by omega,by omega,fun i hi=>hsz _ (List.mem_append_left _ (List.mem_map.2 ⟨_,List.getElem_mem hi,rfl⟩)),fun i hi=>⟨hsz _ (List.mem_append_right _ (List.mem_map.2 ⟨_,List.getElem_mem hi,rfl⟩)),?_,?_,fun s hs=>hat i hi s (List.mem_append_left _ hs),fun s hs=>hat i hi s (List.mem_append_right _ hs)⟩,fun i hi=>?_⟩
 .have:=(h5 i hi).a; omega
 .have:=(h5 i hi).a; omega
 .have:=(h6 i hi).b; omega
def rowT (g:Gm):Rr:=⟨3,g.ta,g.toks.length,g.tc,tkC g.toks⟩
def rowN (g:Gm):Rr:=⟨3,g.na,g.nts.length,g.nc,ntC g.nts⟩
def rowP (g:Gm):Rr:=⟨3,g.pa,g.prods.length,g.pc,prC g.prods⟩
end Go.Ew
namespace Go.Proofs.Ytibkijpnkmccpaa
open Go.Ev Go.Ew
namespace Va
section
variable (ok : EnvOk (env Try.prog))
include ok
theorem c10s {Z H:KH} {p n c:Nat} {a:OA} {Q:PQ} (hb:PkB Z a n) (h:St Z H p a n c [])
 (hq:∀ g Z' H',Le Z Z'->St Z' H' p a n c [rowP g,rowN g,rowT g]->NtsI Z' g.nts->PrsI Z' g.prods->MayG g->(∀ t∈g.toks,t.skip=false)->Q (gv g) H'):Does (env Try.prog) 9 [.pointer (some ⟨p,0,none⟩)] H Q:=by
 refine fn9 ok (c15 ok (m:=3) hb h (by decide) fun x3 H2 x30 x31 h=>⟨x3,rfl,?_⟩)
 have e1:IntKind.wrap .i64 (x3+1)=(((x3+1).toNat:Nat):Int):=by rw [wrap64 (by omega) (by omega)]; omega
 unfold vc9_L11
 rw [e1]
 refine ⟨fun k n4 n5 a6 n7 n8 a9 n10 n11 a12 n13 n14 a15 n16 n17 a18 n19 n20 a21 n22 n23 x24 H25=>n4=p/\n5=0/\a18=none/\n19=0/\n20=0/\a21=none/\n22=0/\n23=0/\∃ i m:Nat,x24=m/\k=m/\n16=i/\i+m<=3/\1<=i+m/\St Z H25 p a n c [⟨3,a15,n16,n17,tkC ((List.range i).map tkN)⟩],⟨(x3+1).toNat,rfl,rfl,rfl,rfl,rfl,rfl,rfl,rfl,rfl,0,(x3+1).toNat,rfl,rfl,rfl,by omega,by omega,h.none_⟩,?_⟩
 clear h
 rintro k n4 n5 a6 n7 n8 a9 n10 n11 a12 n13 n14 a15 n16 n17 a18 n19 n20 a21 n22 n23 x24 H25 ⟨rfl,rfl,rfl,rfl,rfl,rfl,rfl,rfl,i,m,rfl,rfl,rfl,hi,hi1,h⟩
 refine ⟨fun z=>?_,fun z=>?_⟩
 .have z:0<k:=by have:=of_decide_eq_true z; omega
  intro n1 h1
  refine ⟨_,_,lit_kold (if_pos rfl) rfl,by_cells (by omega),by show 1+1<=1000000; omega,?_⟩
  rw [catT]
  refine fun n4' h4 n5' h5=>⟨_,_,knew_of (ti:=tiT) (lit_kold (if_pos rfl) rfl),?_⟩
  obtain ⟨a8,c8,H11,f1,f2⟩:=((h.new h1).new h4).app (ti:=tiT) (nm:=n5') (m:=1) (new:=[.string ⟨#[116,byN n16]⟩,.string ⟨[byN n16].toArray⟩,.bool false]) h5 rfl rfl (by show n16+1<=_; omega) (by decide) (by decide)
  have ew:IntKind.wrap .i64 (((k:Nat):Int)-1)=((k-1:Nat):Int):=by rw [wrap64 (by omega) (by omega)]; omega
  refine ⟨a8,_,c8,H11,f1,k-1,by omega,rfl,rfl,rfl,rfl,rfl,rfl,rfl,rfl,rfl,n16+1,k-1,ew,rfl,rfl,by omega,by omega,?_⟩
  have e:tkC ((List.range (n16+1)).map tkN)=tkC ((List.range n16).map tkN)++[.string ⟨#[116,byN n16]⟩,.string ⟨[byN n16].toArray⟩,.bool false]:=by
   rw [List.range_succ,List.map_append]
   unfold tkC
   rw [List.flatMap_append]; rfl
  rw [e]
  exact f2
 have z:k=0:=by have:=of_decide_eq_false z; omega
 subst z
 clear z e1 x30 x31
 refine c15 ok (m:=4) hb h (by decide) fun x28 H27 x280 x281 h=>⟨x28,rfl,?_⟩
 have hT:1<=n16/\n16<=3:=by omega
 clear hi hi1
 generalize hts:(List.range n16).map tkN=toks at h
 have hTl:toks.length=n16:=by rw [<- hts]; simp
 subst hTl
 have e1:IntKind.wrap .i64 (x28+1)=(((x28+1).toNat:Nat):Int):=by rw [wrap64 (by omega) (by omega)]; omega
 unfold vc9_L10
 rw [e1]
 refine ⟨fun k m4 n5 a6 n7 n8 a9 n10 n11 a12 n13 n14 b15 n16 m17 a18 n19 n20 a21 n22 n23 x24 H25=>m4=n4/\n5=0/\b15=a15/\n16=toks.length/\m17=n17/\a21=none/\n22=0/\n23=0/\∃ nts,∃ m:Nat,x24=m/\k=m/\n19=nts.length/\nts.length+m<=4/\1<=nts.length+m/\(∀ i (h:i<nts.length),MadeN i nts[i])/\∃ Z',Le Z Z'/\St Z' H25 n4 a n c [⟨3,a18,n19,n20,ntC nts⟩,⟨3,a15,toks.length,n17,tkC toks⟩]/\NtsI Z' nts,⟨(x28+1).toNat,rfl,rfl,rfl,rfl,rfl,rfl,rfl,rfl,rfl,[],(x28+1).toNat,rfl,rfl,rfl,by show 0+_<=4; omega,by show 1<=0+_; omega,fun i h=>absurd h (by simp),Z,Le.refl Z,h.none_,fun i h=>absurd h (by simp)⟩,?_⟩
 clear h
 rintro k m4 n5 a6 n7 n8 a9 n10 n11 a12 n13 n14 b15 n16 m17 a18 n19 n20 a21 n22 n23 x24 H25 ⟨rfl,rfl,rfl,rfl,rfl,rfl,rfl,rfl,nts,m,rfl,rfl,rfl,hi,hi1,hmd,Z',hZ,h,hni⟩
 refine ⟨fun z=>?_,fun z=>?_⟩
 .have m:Nat:=k
  have z:0<k:=by have:=of_decide_eq_true z; omega
  clear m
  generalize k=m at *
  refine fun n1 h1=>⟨_,_,lit_kold (if_pos rfl) rfl,by_cells (by omega),by show 1+1<=1000000; omega,fun _=>fun n4' h4=>?_,fun _=>?_⟩
  .skip
   obtain ⟨S1,q1⟩:=(h.new (E:=mkEnt [.int .u8 (IntKind.wrap .u8 (IntKind.wrap .i64 (97+((nts.length:Nat):Int))))] 0) h1).grow (E:=mkEnt (sC IJ) 0) h4
   refine c15 ok (m:=3) (hb.up (hZ.trans q1)) S1 (by decide) fun x7 H6 x70 x71 S2=>⟨x7,rfl,?_⟩
   obtain ⟨u,rfl⟩:∃ u:Nat,x7=u:=⟨x7.toNat,by omega⟩
   have hu:u<=2:=by omega
   have eu:(IJ.take u).length=u:=by rw [List.length_take]; show min u 2=u; omega
   obtain ⟨a8,c8,k1,k1'⟩:=cut_lo (H:=Z'.new n4' (mkEnt (sC IJ) 0)) (sz:=1) (n:=2) (c:=2) (a:=some ⟨n4',0,none⟩) (cs:=sC IJ) (k:=u) (.inl ⟨rfl,2,rfl,Nat.le_refl _⟩) (lit_kold (if_pos rfl) rfl) hu
   have k1':kold (Z'.new n4' (mkEnt (sC IJ) 0)) 1 a8 (IJ.take u).length=some (sC (IJ.take u)):=by
    rw [eu,k1']; unfold sC; rw [(fm_cut (k:=1) (fun _=>rfl) IJ u).2]
   refine ⟨a8,u,c8,S2.r.le.kslice k1,fun n12 h12=>?_⟩
   have hZ1:=hZ.trans q1
   obtain ⟨S3,q2⟩:=S2.grow (E:=mkEnt (sC SU) 0) h12
   refine c15 ok (m:=3) (hb.up (hZ1.trans q2)) S3 (by decide) fun x4 H3 x40 x41 S4=>⟨x4,rfl,?_⟩
   obtain ⟨v,rfl⟩:∃ v:Nat,x4=v:=⟨x4.toNat,by omega⟩
   have hv:v<=2:=by omega
   have ev:(SU.take v).length=v:=by rw [List.length_take]; show min v 2=v; omega
   obtain ⟨a5,c5,k2,k2'⟩:=cut_lo (H:=KH.new (Z'.new n4' (mkEnt (sC IJ) 0)) n12 (mkEnt (sC SU) 0)) (sz:=1) (n:=2) (c:=2) (a:=some ⟨n12,0,none⟩) (cs:=sC SU) (k:=v) (.inl ⟨rfl,2,rfl,Nat.le_refl _⟩) (lit_kold (if_pos rfl) rfl) hv
   have k2':kold (KH.new (Z'.new n4' (mkEnt (sC IJ) 0)) n12 (mkEnt (sC SU) 0)) 1 a5 (SU.take v).length=some (sC (SU.take v)):=by
    rw [ev,k2']; unfold sC; rw [(fm_cut (k:=1) (fun _=>rfl) SU v).2]
   refine ⟨a5,v,c5,S4.r.le.kslice k2,fun n8' h8 n9' h9=>⟨_,_,knew_of (ti:=tiN) (lit_kold (if_pos rfl) rfl),?_⟩⟩
   rw [catN]
   obtain ⟨a13,c13,H15,f1,f2⟩:=(S4.new h8).app (ti:=tiN) (nm:=n9') (m:=1) (new:=[.string (nmN nts.length),.slice a8 u c8,.slice a5 v c5]) h9 rfl rfl (by show nts.length+1<=_; omega) (by decide) (by decide)
   have ew:IntKind.wrap .i64 (((m:Nat):Int)-1)=((m-1:Nat):Int):=by rw [wrap64 (by omega) (by omega)]; omega
   have en:ntC (nts++[⟨nmN nts.length,a8,c8,IJ.take u,a5,c5,SU.take v⟩])=ntC nts++[.string (nmN nts.length),.slice a8 u c8,.slice a5 v c5]:=by
    unfold ntC
    rw [List.flatMap_append,List.flatMap_cons,List.flatMap_nil,List.append_nil,ev]
    rw [eu]
   refine ⟨a13,_,c13,H15,f1,m-1,by omega,rfl,rfl,rfl,rfl,rfl,rfl,rfl,rfl,rfl,nts++[⟨nmN nts.length,a8,c8,IJ.take u,a5,c5,SU.take v⟩],m-1,ew,rfl,by rw [List.length_append]; rfl,by rw [List.length_append]; show nts.length+1+_<=4; omega,by rw [List.length_append]; show 1<=nts.length+1+_; omega,app_all hmd ⟨rfl,⟨u,rfl⟩,v,rfl⟩,_,hZ1.trans q2,?_,(hni.up (q1.trans q2)).app (q2.kold k1') k2'⟩
   rw [en]
   exact f2
  .skip
   have S2:=h.new (E:=mkEnt [.int .u8 (IntKind.wrap .u8 (IntKind.wrap .i64 (97+((nts.length:Nat):Int))))] 0) h1
   have q1:=Le.refl Z'
   have hZ1:=hZ
   have eu:([]:List ByteArray).length=0:=rfl
   have k1':kold Z' 1 none ([]:List ByteArray).length=some (sC []):=rfl
   intro n12 h12
   obtain ⟨S3,q2⟩:=S2.grow (E:=mkEnt (sC SU) 0) h12
   refine c15 ok (m:=3) (hb.up (hZ1.trans q2)) S3 (by decide) fun x4 H3 x40 x41 S4=>⟨x4,rfl,?_⟩
   obtain ⟨v,rfl⟩:∃ v:Nat,x4=v:=⟨x4.toNat,by omega⟩
   have hv:v<=2:=by omega
   have ev:(SU.take v).length=v:=by rw [List.length_take]; show min v 2=v; omega
   obtain ⟨a5,c5,k2,k2'⟩:=cut_lo (H:=KH.new Z' n12 (mkEnt (sC SU) 0)) (sz:=1) (n:=2) (c:=2) (a:=some ⟨n12,0,none⟩) (cs:=sC SU) (k:=v) (.inl ⟨rfl,2,rfl,Nat.le_refl _⟩) (lit_kold (if_pos rfl) rfl) hv
   have k2':kold (KH.new Z' n12 (mkEnt (sC SU) 0)) 1 a5 (SU.take v).length=some (sC (SU.take v)):=by
    rw [ev,k2']; unfold sC; rw [(fm_cut (k:=1) (fun _=>rfl) SU v).2]
   refine ⟨a5,v,c5,S4.r.le.kslice k2,fun n8' h8 n9' h9=>⟨_,_,knew_of (ti:=tiN) (lit_kold (if_pos rfl) rfl),?_⟩⟩
   rw [catN]
   obtain ⟨a13,c13,H15,f1,f2⟩:=(S4.new h8).app (ti:=tiN) (nm:=n9') (m:=1) (new:=[.string (nmN nts.length),.slice none 0 0,.slice a5 v c5]) h9 rfl rfl (by show nts.length+1<=_; omega) (by decide) (by decide)
   have ew:IntKind.wrap .i64 (((m:Nat):Int)-1)=((m-1:Nat):Int):=by rw [wrap64 (by omega) (by omega)]; omega
   have en:ntC (nts++[⟨nmN nts.length,none,0,[],a5,c5,SU.take v⟩])=ntC nts++[.string (nmN nts.length),.slice none 0 0,.slice a5 v c5]:=by
    unfold ntC
    rw [List.flatMap_append,List.flatMap_cons,List.flatMap_nil,List.append_nil,ev]
    rfl
   refine ⟨a13,_,c13,H15,f1,m-1,by omega,rfl,rfl,rfl,rfl,rfl,rfl,rfl,rfl,rfl,nts++[⟨nmN nts.length,none,0,[],a5,c5,SU.take v⟩],m-1,ew,rfl,by rw [List.length_append]; rfl,by rw [List.length_append]; show nts.length+1+_<=4; omega,by rw [List.length_append]; show 1<=nts.length+1+_; omega,app_all hmd ⟨rfl,⟨0,rfl⟩,v,rfl⟩,_,hZ1.trans q2,?_,(hni.up (q1.trans q2)).app (q2.kold k1') k2'⟩
   rw [en]
   exact f2
 have z:k=0:=by have:=of_decide_eq_false z; omega
 subst z
 have hN:1<=nts.length/\nts.length<=4:=by omega
 clear z hi hi1 x280 x281 e1
 refine c15 ok (m:=7) (hb.up hZ) h (by decide) fun x28' H27' y0 y1 h'=>⟨x28',rfl,?_⟩
 clear h
 have e2:IntKind.wrap .i64 (x28'+1)=(((x28'+1).toNat:Nat):Int):=by rw [wrap64 (by omega) (by omega)]; omega
 unfold vc9_L9
 rw [e2]
 refine ⟨fun k o4 n5 a6 n7 n8 a9 n10 n11 a12 n13 n14 e15 n16 o17 e16 n19 o20 a21 n22 n23 x24 H25=>o4=m4/\n5=0/\e15=b15/\n16=toks.length/\o17=m17/\e16=a18/\n19=nts.length/\o20=n20/\∃ prods,∃ m:Nat,x24=m/\k=m/\n22=prods.length/\prods.length+m<=7/\1<=prods.length+m/\(∀ i (h:i<prods.length),ProdOk toks nts.length prods[i])/\∃ Z2,Le Z' Z2/\St Z2 H25 m4 a n c [⟨3,a21,n22,n23,prC prods⟩,⟨3,a18,nts.length,n20,ntC nts⟩,⟨3,b15,toks.length,m17,tkC toks⟩]/\PrsI Z2 prods,⟨(x28'+1).toNat,rfl,rfl,rfl,rfl,rfl,rfl,rfl,rfl,rfl,[],(x28'+1).toNat,rfl,rfl,rfl,by show 0+_<=7; omega,by show 1<=0+_; omega,fun i h=>absurd h (by simp),Z',Le.refl Z',h'.none_,fun i h=>absurd h (by simp)⟩,?_⟩
 clear h'
 rintro k o4 n5 a6 n7 n8 a9 n10 n11 a12 n13 n14 e15 n16 o17 e16 n19 o20 a21 n22 n23 x24 H25 ⟨rfl,rfl,rfl,rfl,rfl,rfl,rfl,rfl,prods,m,rfl,rfl,rfl,hi,hi1,hpr,Z2,hZ2,h,hpi⟩
 have hb2:=hb.up (hZ.trans hZ2)
 refine ⟨fun z=>?_,fun z=>?_⟩
 .have z:0<k:=by have:=of_decide_eq_true z; omega
  refine c15 ok (m:=nts.length) hb2 h (by omega) fun left H2 l0 l1 h=>⟨left,rfl,c15 ok (m:=4) hb2 h (by decide) fun x6 H5 x60 x61 h=>⟨x6,rfl,?_⟩⟩
  have e6:x6=((x6.toNat:Nat):Int):=by omega
  rw [e6]
  unfold vc9_L7
  refine ⟨fun k' q4 n5 a6 n7 n8 a9 n10 n11 a12 n13 n14 q15 n16 q17 q18 n19 q20 q21 n22 q23 x24 x25 a26 n27 n28 a29 n30 n31 x32 H33=>q4=o4/\n5=0/\q15=e15/\n16=toks.length/\q17=o17/\q18=e16/\n19=nts.length/\q20=o20/\q21=a21/\n22=prods.length/\q23=n23/\x24=k/\x25=left/\∃ right,∃ m:Nat,x32=m/\k'=m/\n27=right.length/\right.length+m<=3/\(∀ i (h:i<right.length),SymOk toks nts.length right[i])/\St Z2 H33 o4 a n c [⟨2,a26,n27,n28,syC right⟩,⟨3,a21,prods.length,n23,prC prods⟩,⟨3,e16,nts.length,o20,ntC nts⟩,⟨3,e15,toks.length,o17,tkC toks⟩],⟨x6.toNat,rfl,rfl,rfl,rfl,rfl,rfl,rfl,rfl,rfl,rfl,rfl,rfl,rfl,rfl,[],x6.toNat,rfl,rfl,rfl,by show 0+_<=3; omega,fun i h=>absurd h (by simp),h.none_⟩,?_⟩
  clear h
  rintro k' q4 n5 a6 n7 n8 a9 n10 n11 a12 n13 n14 q15 n16 q17 q18 n19 q20 q21 n22 q23 x24 x25 a26 n27 n28 a29 n30 n31 x32 H33 ⟨rfl,rfl,rfl,rfl,rfl,rfl,rfl,rfl,rfl,rfl,rfl,rfl,rfl,right,m,rfl,rfl,rfl,hm,hsy,h⟩
  refine ⟨fun z3=>?_,fun z3=>?_⟩
  .have z3:0<k':=by have:=of_decide_eq_true z3; omega
   have ew:IntKind.wrap .i64 (((k':Nat):Int)-1)=((k'-1:Nat):Int):=by rw [wrap64 (by omega) (by omega)]; omega
   have J:∀ (K:KH) (x3 at_:Int),SymOk toks nts.length ⟨decide (x3<3),at_⟩->St Z2 K q4 a n c [⟨2,a26,right.length,n28,syC right⟩,⟨3,q21,prods.length,q23,prC prods⟩,⟨3,q18,nts.length,q20,ntC nts⟩,⟨3,q15,toks.length,q17,tkC toks⟩]->vc9_J4 K x3 at_ a26 right.length n28 k' (fun k' q4' n5 a6 n7 n8 a9 n10 n11 a12 n13 n14 q15' n16 q17' q18' n19 q20' q21' n22 q23' x24 x25' a26 n27 n28 a29 n30 n31 x32 H33=>q4'=q4/\n5=0/\q15'=q15/\n16=toks.length/\q17'=q17/\q18'=q18/\n19=nts.length/\q20'=q20/\q21'=q21/\n22=prods.length/\q23'=q23/\x24=k/\x25'=x25/\∃ right,∃ m:Nat,x32=m/\k'=m/\n27=right.length/\right.length+m<=3/\(∀ i (h:i<right.length),SymOk toks nts.length right[i])/\St Z2 H33 q4 a n c [⟨2,a26,n27,n28,syC right⟩,⟨3,q21,prods.length,q23,prC prods⟩,⟨3,q18,nts.length,q20,ntC nts⟩,⟨3,q15,toks.length,q17,tkC toks⟩]) q4 0 a6 n7 n8 a9 n10 n11 a12 n13 n14 q15 toks.length q17 q18 nts.length q20 q21 prods.length q23 ((k:Nat):Int) x25 a29 n30 n31 ((k':Nat):Int):=fun K x3 at_ hs hK=>by
    unfold vc9_J4
    refine fun n1 h1 n2 h2=>⟨_,_,knew_of (ti:=tiY) (lit_kold (if_pos rfl) rfl),?_⟩
    obtain ⟨a5,c5,H8,f1,f2⟩:=(hK.new h1).app (ti:=tiY) (nm:=n2) (m:=1) (new:=[.bool (decide (x3<3)),.int .i64 at_]) h2 rfl rfl (by show right.length+1<=_; omega) (by decide) (by decide)
    refine ⟨a5,_,c5,H8,f1,k'-1,by omega,rfl,rfl,rfl,rfl,rfl,rfl,rfl,rfl,rfl,rfl,rfl,rfl,rfl,rfl,right++[⟨decide (x3<3),at_⟩],k'-1,ew,rfl,by rw [List.length_append]; rfl,by rw [List.length_append]; show right.length+1+_<=3; omega,app_all (P:=fun _ s=>SymOk toks nts.length s) hsy hs,?_⟩
    have e:syC (right++[⟨decide (x3<3),at_⟩])=syC right++[.bool (decide (x3<3)),.int .i64 at_]:=List.flatMap_append
    rw [e]
    exact f2
   refine c15 ok (m:=5) hb2 h (by decide) fun x3 H2 x30 x31 h=>⟨x3,rfl,c15 ok (m:=nts.length) hb2 h (by omega) fun x6 H5 x60 x61 h=>⟨x6,rfl,fun z4=>?_,fun z4=>?_⟩⟩
   .refine c15 ok (m:=toks.length) hb2 h (by omega) fun x9 H8 x90 x91 h=>⟨x9,rfl,J _ _ _ ⟨x90,fun _=>⟨by show x9.toNat<_; omega,?_⟩,fun w=>?_⟩ h⟩
    .have:∀ i (hi:i<toks.length),toks[i].skip=false:=fun i hi=>by
      have e:toks[i]=((List.range toks.length).map tkN)[i]'(by simpa using hi):=by congr 1; exact hts.symm
      rw [e,List.getElem_map]; rfl
     exact this _ _
    .have w:decide (x3<3)=false:=w
     rw [z4] at w; cases w
   .exact J _ _ _ ⟨x60,fun w=>(by have w:decide (x3<3)=true:=w; rw [z4] at w; cases w),fun _=>x61⟩ h
  .have z3:k'=0:=by have:=of_decide_eq_false z3; omega
   subst z3
   obtain ⟨Z3,hZ3,S,hrr⟩:=h.freezeG
   obtain ⟨he,hl⟩:=S.enter
   have g2:=S.r.ok ⟨3,q18,nts.length,q20,ntC nts⟩ (by simp)
   have f2:=S.r.fr ⟨3,q18,nts.length,q20,ntC nts⟩ (by simp)
   have hn:kold (H33.del q4) 3 q18 nts.length=some (ntC nts):=(g2.agree (H':=H33.del q4) fun k e w q=>del_at q (f2 k w).2).row
   refine c16 ok (nts:=nts) (right:=right) (hb2.up (hZ3.trans hl)) he hn (fun i hi=>(hmd i hi).few) (hl.kold hrr.row) (by omega) fun a' n' c' H2 s=>⟨a',n',c',rfl,?_⟩
   have S:=S.leave s
   refine fun n6 h6 n7' h7=>⟨_,_,knew_of (ti:=tiP) (lit_kold (if_pos rfl) rfl),?_⟩
   obtain ⟨a10,c10,H13,f1,f2⟩:=(S.new h6).app (ti:=tiP) (nm:=n7') (m:=1) (new:=[.int .i64 x25,.slice a26 right.length n28,.slice a' n' c']) h7 rfl rfl (by show prods.length+1<=_; omega) (by decide) (by decide)
   have ew:IntKind.wrap .i64 (((k:Nat):Int)-1)=((k-1:Nat):Int):=by rw [wrap64 (by omega) (by omega)]; omega
   refine ⟨a10,_,c10,H13,f1,k-1,by omega,rfl,rfl,rfl,rfl,rfl,rfl,rfl,rfl,rfl,prods++[⟨x25,a26,n28,right,a',n',c'⟩],k-1,ew,rfl,by rw [List.length_append]; rfl,by rw [List.length_append]; show prods.length+1+_<=7; omega,by rw [List.length_append]; show 1<=prods.length+1+_; omega,app_all (P:=fun _ x=>ProdOk toks nts.length x) hpr ⟨⟨l0,l1⟩,by show right.length<=5; omega,hsy⟩,Z3,hZ2.trans hZ3,?_,(hpi.up hZ3).app hrr⟩
   have e:prC (prods++[⟨x25,a26,n28,right,a',n',c'⟩])=prC prods++[.int .i64 x25,.slice a26 right.length n28,.slice a' n' c']:=List.flatMap_append
   rw [e]
   exact f2
 have z:k=0:=by have:=of_decide_eq_false z; omega
 subst z
 refine hq ⟨e15,o17,toks,e16,o20,nts,a21,n23,prods⟩ Z2 H25 (hZ.trans hZ2) h (hni.up hZ2) hpi ⟨⟨by show 1<=toks.length; omega,by show toks.length<=8; omega⟩,⟨by show 1<=nts.length; omega,by show nts.length<=8; omega⟩,⟨by show 1<=prods.length; omega,by show prods.length<=16; omega⟩,?_,fun i hi=>(hmd i hi).ok,hpr⟩ ?_
 rotate_left
 .show ∀ t∈toks,t.skip=false
  intro t ht
  rw [<- hts] at ht
  obtain ⟨_,_,rfl⟩:=List.mem_map.1 ht
  rfl
 show NamesOk (toks.map Tk.name++nts.map Nt.name)
 have e1:toks.map Tk.name=(List.range toks.length).map nmT:=by
  rw [<- hts]; simp [tkN,Function.comp_def]
 rw [e1,MadeN.names hmd]
 exact names_made (by omega) (by omega)
theorem c9 {Z H:KH} {p n c:Nat} {a:OA} {Q:PQ} (hb:PkB Z a n) (h:St Z H p a n c [])
 (hq:∀ g Z' H',Le Z Z'->St Z' H' p a n c [rowP g,rowN g,rowT g]->NtsI Z' g.nts->PrsI Z' g.prods->MayG g->Q (gv g) H'):Does (env Try.prog) 9 [.pointer (some ⟨p,0,none⟩)] H Q :=
 c10s ok hb h fun g Z' H' h1 h2 h3 h4 h5 _=>hq g Z' H' h1 h2 h3 h4 h5
end
end Va
end Go.Proofs.Ytibkijpnkmccpaa
namespace Go.Ew
open Go.Ev Go.Deep
def tiH:TI:=⟨1,24,false,1,4,0,[],[.slice none 0 0]⟩
def tiB:TI:=⟨1,1,false,9,0,0,[],[.bool false]⟩
theorem Own.at2 {H0 H:KH} {sz n c:Nat} {a:OA} {cs:List Value} (h:Own H0 H sz a n c cs) (hn:0<n):∃ b E,a=some ⟨b,0,none⟩/\H b=some E/\H0 b=none:=by
 cases h with
 | nil=>omega
 | lit b _ _ h1 h2 h3 h4=>exact ⟨b,_,rfl,h1,h4⟩
 | grown b _ _ e h1 h2 h3 h4 h5 h6=>exact ⟨b,e,rfl,h1,h5⟩
end Go.Ew
namespace Go.Proofs.Ytibkijpnkmccpaa
open Go.Ev Go.Ew
namespace Va
section
variable (ok : EnvOk (env Try.prog))
include ok
theorem c71 {Z:KH} {k0 k1:Nat} {g:Gm} {na fa:OA} {nc fc:Nat} {nl:Int->Bool} {fs:Int->Int->Bool} (hk:ld Z ⟨k0,0,none⟩ [.slice g.ta g.toks.length g.tc,.slice g.na g.nts.length g.nc,.slice g.pa g.prods.length g.pc]) (hk1:ld Z ⟨k1,0,none⟩ [.int .i64 g.toks.length,.slice na g.nts.length nc,.slice fa g.nts.length fc]) (hn:kold Z 1 na g.nts.length=some (famC (bit1 nl) g.nts.length)) (hN:IsN g.prods nl) (hf:kold Z 9 fa g.nts.length=some (famC (rowK fs) g.nts.length)) (hI:InN g.nts.length fs 9) (hF:IsF g.prods fs) (hg:GI Z g) (hm:MayG g) :
 Rnd (env Try.prog) 71 [.pointer (some ⟨k0,0,none⟩),.pointer (some ⟨k1,0,none⟩)] Z g.nts.length 9 rowK (SndL g.prods g.toks.length) (fun X=>X 0 g.toks.length=true/\∀ p∈g.prods,ClsP nl fs X p):=by
 intro H p b X Q w hX hP hq
 have hM:=hm.t
 have hNn:=hm.n
 have hin:In9 fun t=>decide (t=(g.toks.length:Int)):=fun t q=>by have:=of_decide_eq_true q; omega
 refine fn71 ok ⟨rfl,_,_,_,ldSub (m:=1) (w.le.ld hk) 0 (by simp),c73 ok (k:=(g.toks.length:Int)) (by omega) (by omega) fun H5 l5=>⟨_,_,_,_,_,_,_,_,_,rfl,c72 ok (f:=fun t=>decide (t=(g.toks.length:Int))) (Bxs.up w l5) (by omega) (by omega) hin fun H16 c16 w16 q1 q2=>⟨rfl,rfl,_,_,_,ldSub (m:=1) (w16.le.ld hk) 2 (by simp),?_⟩⟩⟩
 have st0:=(Stp.refl X).add q1 q2
 have in0:=up_in hX ⟨(by omega:(0:Int)<=0),(by omega:(0:Int)<g.nts.length)⟩ hin
 have sn0:SndL g.prods g.toks.length (Up X 0 fun t=>decide (t=(g.toks.length:Int))):=fun i t q=>by
  simp only [Up,Bool.or_eq_true,Bool.and_eq_true,decide_eq_true_eq] at q
  rcases q with q | ⟨rfl,rfl⟩
  .exact hP i t q
  .exact .zero
 have z0:c16=false->X 0 g.toks.length=true:=fun q=>(q2 q).2 _ (decide_eq_true rfl)
 clear q1 q2
 generalize hY0:(Up X 0 fun t=>decide (t=(g.toks.length:Int)))=Y0 at *
 show vc71_L1 _ _ _ _ _ _ _ _ _
 unfold vc71_L1
 refine ⟨fun k n4 n5 n6 n7 a8 n9 n10 x11 x12 H13=>n4=p/\n5=0/\n6=k1/\n7=0/\a8=g.pa/\n9=g.prods.length/\x11=g.prods.length/\∃ (i:Nat) (Y:Int->Int->Bool) (c:Bool),x12=i/\i<=g.prods.length/\k=g.prods.length-i/\Gw Z H13 p b g.nts.length (rowK Y) c/\InN g.nts.length Y 9/\SndL g.prods g.toks.length Y/\Stp X Y c/\(c=false->X 0 g.toks.length=true/\∀ j (hj:j<g.prods.length),j<i->ClsP nl fs X g.prods[j]),⟨g.prods.length,rfl,rfl,rfl,rfl,rfl,rfl,rfl,rfl,rfl,0,Y0,c16,rfl,by omega,rfl,w16,in0,sn0,st0,fun q=>⟨z0 q,fun _ _ z=>absurd z (by omega)⟩⟩,?_⟩
 rintro k n4 n5 n6 n7 a8 n9 n10 x11 x12 H13 ⟨rfl,rfl,rfl,rfl,rfl,rfl,rfl,i,Y,c,rfl,hi,rfl,w,hY,hS,hst,hc⟩
 refine ⟨fun z=>?_,fun z=>?_⟩
 .have z:i<g.prods.length:=by have:=of_decide_eq_true z; omega
  have e0:Int.toNat ((i:Nat):Int)=i:=by omega
  have hi1:IntKind.wrap .i64 (((i:Nat):Int)+1)=((i+1:Nat):Int):=by have:=hm.p; rw [wrap64 (by omega) (by omega)]; omega
  obtain ⟨b0,o0,ha,r0⟩:=pr_ld (hg.up w.le).p z
  rw [e0,hi1]
  refine ⟨⟨by omega,by omega⟩,b0,o0,ha,_,_,_,_,_,_,_,r0,_,_,_,_,_,_,_,w.le.ld hk1,c74 ok (X0:=X) w hg hm hn hN hf hI hF z hY hS hst fun H' X' c' w' h1 h2 h3 h4=>⟨rfl,g.prods.length-(i+1),by omega,rfl,rfl,rfl,rfl,rfl,rfl,rfl,rfl,rfl,i+1,X',c',rfl,by omega,rfl,w',h1,h2,h3,fun q=>⟨(hc (h4 q).1).1,fun j hj zz=>?_⟩⟩⟩
  by_cases y:j=i
  .subst y; exact (h4 q).2
  .exact (hc (h4 q).1).2 j hj (by omega)
 .have z:i=g.prods.length:=by have:=of_decide_eq_false z; omega
  subst z
  exact hq H13 Y c w hY hS hst fun q=>⟨(hc q).1,fun p hp=>by
   obtain ⟨j,hj,rfl⟩:=List.mem_iff_getElem.1 hp
   exact (hc q).2 j hj hj⟩
theorem c61 {g:Gm} {H:KH} {Q:PQ} (hg:GI H g) (hm:MayG g)
 (hq:∀ b H' fl,Le H H'->H b=none->kold H' 9 (some ⟨b,0,none⟩) g.nts.length=some (famC (rowK fl) g.nts.length)->IsL g.prods g.toks.length fl->Q (.slice (some ⟨b,0,none⟩) g.nts.length g.nts.length) H'):Does (env Try.prog) 61 [gv g] H Q:=by
 refine fn61 ok fun n1 h1=>?_
 have hl:=Le.new (e:=mkEnt [.slice g.ta g.toks.length g.tc,.slice g.na g.nts.length g.nc,.slice g.pa g.prods.length g.pc] 0) h1
 have r:ld (H.new n1 (mkEnt [.slice g.ta g.toks.length g.tc,.slice g.na g.nts.length g.nc,.slice g.pa g.prods.length g.pc] 0)) ⟨n1,0,none⟩ [.slice g.ta g.toks.length g.tc,.slice g.na g.nts.length g.nc,.slice g.pa g.prods.length g.pc]:=⟨rfl,_,if_pos rfl,mk_rd⟩
 refine ⟨_,_,_,_,_,_,_,_,_,r,c62 ok (hg.up hl) hm fun b1 b2 H12 nl fs l1 k1 hN k2 hI hF=>⟨_,_,_,_,_,_,_,rfl,fun n20 h20=>?_⟩⟩
 have hl2:=Le.new (e:=mkEnt [.int .i64 0,.slice none 0 0,.slice none 0 0] 0) h20
 have r20:ld (H12.new n20 (mkEnt [.int .i64 0,.slice none 0 0,.slice none 0 0] 0)) ⟨n20,0,none⟩ [.int .i64 0,.slice none 0 0,.slice none 0 0]:=⟨rfl,_,if_pos rfl,mk_rd⟩
 refine ⟨⟨[.int .i64 0,.slice none 0 0,.slice none 0 0],rfl,r20⟩,⟨_,if_pos rfl,rfl⟩,rfl,?_⟩
 generalize hK:KH.put (KH.new H12 n20 _) _ _=K
 have lK:Le H12 K:=by rw [<- hK]; exact le_put hl2 h20
 have rK:ld K ⟨n20,0,none⟩ [.int .i64 g.toks.length,.slice (some ⟨b1,0,none⟩) g.nts.length g.nts.length,.slice (some ⟨b2,0,none⟩) g.nts.length g.nts.length]:=by
  rw [<- hK]
  refine ⟨rfl,_,put_at (if_pos rfl),?_⟩
  exact rdWr (xs:=[]) (ys:=[.int .i64 0,.slice none 0 0,.slice none 0 0]) (zs:=[]) (vs:=[.int .i64 g.toks.length,.slice (some ⟨b1,0,none⟩) g.nts.length g.nts.length,.slice (some ⟨b2,0,none⟩) g.nts.length g.nts.length]) (N:=3) (o:=0) mk_rd rfl rfl
 have hl3:=hl.trans (l1.trans lK)
 refine ⟨_,_,_,ldSub (m:=1) ((l1.trans lK).ld r) 1 (by simp),c70 ok (caps:=[.pointer (some ⟨n1,0,none⟩),.pointer (some ⟨n20,0,none⟩)]) (c71 ok ((l1.trans lK).ld r) rK (lK.kold k1) hN (lK.kold k2) hI hF (hg.up hl3) hm) (fun i t q=>by cases q) (by have:=hm.n; omega) fun b H' X l hb hk hX hP hC=>⟨_,_,_,rfl,?_⟩⟩
 exact hq b H' X (hl3.trans l) (hl3.none hb) hk (isL_of hN hF hP hC.1 hC.2)
theorem c64 {b n c:Nat} {f:Int->Bool} {H:KH} {Q:PQ} (hk:kold H 1 (some ⟨b,0,none⟩) n=some (famC (bit1 f) n)) (h0:0<n) (hn:n<=1000)
 (hq:∀ a' c' H',Le H H'->Own H H' 1 a' n c' (famC (bit1 f) n)->Q (.slice a' n c') H'):Does (env Try.prog) 64 [.slice (some ⟨b,0,none⟩) n c] H Q:=by
 refine fn64 ok ⟨fun z=>(by cases z),fun _ n1 h1 n2 h2=>?_⟩
 have o:Own H (H.new n1 (mkEnt [] 0)) 1 (some ⟨n1,0,none⟩) 0 0 []:=.lit n1 0 [] (if_pos rfl) rfl (by decide) h1
 obtain ⟨a',c',H',f1,f2,f3,f4,f5⟩:=o.append (ti:=tiB) (nm:=n2) (m:=n) (new:=famC (bit1 f) n) (Le.new h1) h2 (by rw [fam_len (k:=1) (bit1_len f)]; rfl) (by omega) (by decide) (by decide)
 rw [Nat.zero_add] at f1 f2
 exact ⟨n,_,knew_of (ti:=tiB) ((Le.new h1).kold hk),a',n,c',H',f1,hq a' c' H' f3 f2⟩
theorem c60 {a:OA} {N M c:Nat} {X:Int->Int->Bool} {H:KH} {Q:PQ} (hk:kold H 9 a N=some (famC (rowK X) N)) (hN:N<=1000) (h0:0<M) (hM:M<=9)
 (hq:∀ a' c' H',Le H H'->RowsB H' a' N M X->Q (.slice a' N c') H'):Does (env Try.prog) 60 [.slice a N c,.int .i64 M] H Q:=by
 refine fn60 ok ?_
 show vc60_L1 _ _ _ _ _ _
 unfold vc60_L1
 refine ⟨fun k x4 a5 n6 n7 a8 n9 n10 x11 x12 H13=>x4=M/\a8=a/\n9=N/\x11=N/\∃ (l:List Hd) (Z:KH),x12=l.length/\n6=l.length/\l.length<=N/\k=N-l.length/\Le H Z/\Le Z H13/\Own Z H13 1 a5 l.length n7 (hdC M l)/\∀ i (h:i<l.length),kold Z 1 l[i].a M=some (famC (bit1 (X (i:Int))) M),⟨N,rfl,rfl,rfl,rfl,[],H,rfl,rfl,by simp,rfl,Le.refl H,Le.refl H,.nil,fun i h=>by simp at h⟩,?_⟩
 rintro k x4 a5 n6 n7 a8 n9 n10 x11 x12 H13 ⟨rfl,rfl,rfl,rfl,l,Z,rfl,rfl,hl,rfl,hZ,hZ2,o,hr⟩
 have hH:=hZ.trans hZ2
 refine ⟨fun z=>?_,fun z=>?_⟩
 .have z:l.length<n9:=by have:=of_decide_eq_true z; omega
  have e0:Int.toNat ((l.length:Nat):Int)=l.length:=by omega
  have eM:Int.toNat ((M:Nat):Int)=M:=by omega
  have hi1:IntKind.wrap .i64 (((l.length:Nat):Int)+1)=((l.length+1:Nat):Int):=by rw [wrap64 (by omega) (by omega)]; omega
  obtain ⟨b0,o0,ha,r0⟩:=fam_ld (k:=9) (fun _=>rfl) (hH.kold hk) z
  rw [e0,eM,hi1]
  refine ⟨⟨by omega,by omega⟩,b0,o0,ha,_,_,_,_,_,_,_,_,_,r0,fun n12 h12=>?_⟩
  have w0:=Bx9.mk0 (F:=fun _=>false) h12
  have w1:Bx9 H13 (KH.put (H13.new n12 (mkEnt (kC fun _=>false) 0)) ⟨n12,0,none⟩ (kC (X (l.length:Int)))) n12 (X (l.length:Int)):=Bxs.put w0 (j:=()) trivial (xs:=[]) (ys:=kC fun _=>false) (zs:=[]) (vs:=kC (X (l.length:Int))) (by simp) rfl (cs':=fun _=>kC (X (l.length:Int))) (by simp) fun _ _ hi=>absurd rfl hi
  refine ⟨⟨kC fun _=>false,rfl,w0.all⟩,Bxs.may w0 (j:=()) trivial,rfl,⟨by omega,by omega⟩,?_⟩
  refine c64 ok (w1.cut hM) h0 (by omega) fun a16 n18 H15 l15 o15=>⟨a16,M,n18,rfl,fun n19 h19 n20 h20=>?_⟩
  have l15:=w1.le.trans l15
  obtain ⟨b16,E16,e16,g16,f16⟩:=o15.at2 h0
  have hne:∀ b,blk a5=some b->b≠b16:=fun b hb e=>by
   obtain ⟨⟨E,q1⟩,_⟩:=o.has hb
   have:=w1.le b E q1
   rw [e] at this
   cases f16.symm.trans this
  have lZ:Le Z (offB a5 H15):=le_offB (hZ2.trans l15) fun b hb=>(o.has hb).2
  have l19:=Le.new (e:=mkEnt [.slice a16 M n18] 0) h19
  have o2:Own (offB a5 H15) (H15.new n19 (mkEnt [.slice a16 M n18] 0)) 1 a5 l.length n7 (hdC M l):=o.base (fun b hb=>offB_none hb) fun k e _ q=>l19 _ _ (l15 _ _ q)
  obtain ⟨a',c',H',f1,f2,f3,f4,f5⟩:=o2.append (ti:=tiH) (nm:=n20) (m:=1) (new:=[.slice a16 M n18]) ((offB_le a5 H15).trans l19) h20 rfl (by omega) (by decide) (by decide)
  refine ⟨1,_,knew_of (ti:=tiH) (lit_kold (if_pos rfl) rfl),a',_,c',H',f1,n9-(l.length+1),by omega,rfl,rfl,rfl,rfl,l++[⟨a16,n18⟩],offB a5 H15,by rw [List.length_append]; rfl,by rw [List.length_append]; rfl,by rw [List.length_append]; show l.length+1<=n9; omega,by rw [List.length_append]; rfl,hZ.trans lZ,f3,?_,fun i h=>?_⟩
  .rw [hdC_app,List.length_append]; exact f2
  .rw [List.getElem_append]
   split
   .rename_i hi
    exact lZ.kold (hr i hi)
   .rename_i hi
    have hi:i=l.length:=by simp at h; omega
    subst hi
    simp only [Nat.sub_self,List.getElem_cons_zero]
    exact offB_kold o15.cells fun b hb e=>hne b e (by rw [e16] at hb; exact (Option.some.inj hb).symm)
 .have z:l.length=n9:=by have:=of_decide_eq_false z; omega
  rw [z] at o ⊢
  exact hq a5 n7 H13 hH ⟨l,z,o.cells,fun i h=>hZ2.kold (hr i h)⟩
theorem c47 {g:Gm} {H:KH} {Q:PQ} (hg:GI H g) (hm:MayG g) (hq:∀ a c H' fl,Le H H'->RowsB H' a g.nts.length (g.toks.length+1) fl->IsL g.prods g.toks.length fl->Q (.slice a g.nts.length c) H'):Does (env Try.prog) 47 [gv g] H Q:=by
 have hn:=hm.n
 have ht:=hm.t
 have e1:IntKind.wrap .i64 ((g.toks.length:Int)+1)=((g.toks.length+1:Nat):Int):=by rw [wrap64 (by omega) (by omega)]; omega
 refine fn47 ok (c20 ok hg hm.few fun b H2 l2 hb=>⟨b,rfl,fun z=>?_,fun z=>⟨trivial,c61 ok (hg.up l2) hm fun b1 H3 fl l3 _ k1 hL=>⟨_,_,_,rfl,⟨⟨rfl,rfl⟩,rfl,rfl,rfl,trivial⟩,?_⟩⟩⟩)
 .rw [hb.2 hm] at z; cases z
 .rw [e1]
  exact c60 ok k1 (by omega) (by omega) (by omega) fun a' c' H' l' hr=>⟨_,_,_,rfl,trivial,hq a' c' H' fl (l2.trans (l3.trans l')) hr hL⟩
end
end Va
end Go.Proofs.Ytibkijpnkmccpaa
namespace Go.Ew
open Go.Ev Go.Deep
theorem St.gi {Z H:KH} {p n c:Nat} {a:OA} {g:Gm} (h:St Z H p a n c [rowP g,rowN g,rowT g]) (h1:NtsI Z g.nts) (h2:PrsI Z g.prods):GI H g :=
 ⟨(h.r.ok (rowT g) (by simp)).row,(h.r.ok (rowN g) (by simp)).row,(h.r.ok (rowP g) (by simp)).row,h1.up h.r.le,h2.up h.r.le⟩
theorem bit_ld {H:KH} {a:OA} {M i:Nat} {f:Int->Bool} (h:kold H 1 a M=some (famC (bit1 f) M)) (hi:i<M):∃ b o,a=some ⟨b,o,none⟩/\ld H ⟨b,o+i*1,none⟩ [.bool (f (i:Int))]:=fam_ld (k:=1) (bit1_len f) h hi
inductive Ix where
 | n
 | f (i:Nat)
 | o (i:Nat)
def ixD (N:Nat):Ix->Prop
 | .n=>True
 | .f i=>i<N
 | .o i=>i<N
def ixN (nb:Nat) (fb ob:Nat->Nat):Ix->Nat
 | .n=>nb
 | .f i=>fb i
 | .o i=>ob i
def ixC (N M:Nat) (Y:Int->Int->Bool):Ix->List Value
 | .n=>famC (bit1 fun i=>Y i 0) N
 | .f i=>famC (bit1 fun t=>Y (i:Int) (1+t)) M
 | .o i=>famC (bit1 fun t=>Y (i:Int) (1+(M:Int)+t)) (M+1)
def hdrC (M:Nat) (fb:Nat->Nat) (i:Int):List Value:=[.slice (some ⟨fb i.toNat,0,none⟩) M M]
structure RefS (Z H:KH) (N M nb:Nat) (fb ob:Nat->Nat) (aF aO:OA) (Y:Int->Int->Bool):Prop where
 b:Bxs Z H (ixD N) (ixN nb fb ob) (ixC N M Y)
 hf:kold Z 1 aF N=some (famC (hdrC M fb) N)
 ho:kold Z 1 aO N=some (famC (hdrC (M+1) ob) N)
def Up1 (Y:Int->Int->Bool) (x c:Int):Int->Int->Bool:=Up Y x fun t=>decide (t=c)
theorem up1_at (Y:Int->Int->Bool) (x c:Int):Up1 Y x c x c=true:=by simp [Up1,Up]
theorem up1_ne {Y:Int->Int->Bool} {x c i t:Int} (h:i≠x\/t≠c):Up1 Y x c i t=Y i t:=by
 unfold Up1 Up
 rcases h with h | h
 .rw [decide_eq_false h,Bool.false_and,Bool.or_false]
 .show (Y i t||(decide (i=x)&&decide (t=c)))=Y i t
  rw [decide_eq_false h,Bool.and_false,Bool.or_false]
section
variable {Z H : KH} {N M nb : Nat} {fb ob : Nat -> Nat} {aF aO : OA} {Y : Int -> Int -> Bool}
theorem RefS.up {H':KH} (h:RefS Z H N M nb fb ob aF aO Y) (hl:Le H H'):RefS Z H' N M nb fb ob aF aO Y:=⟨h.b.up hl,h.hf,h.ho⟩
theorem bit_cut {f:Int->Bool} {n i:Nat} (hi:i<n):famC (bit1 f) n=famC (bit1 f) i++[.bool (f (i:Int))]++(List.range' (i+1) (n-i-1)).flatMap fun j:Nat=>bit1 f (j:Int):=fam_cut hi
theorem bit_len (f:Int->Bool) (n:Nat):(famC (bit1 f) n).length=n:=by rw [fam_len (k:=1) (bit1_len f),Nat.mul_one]
theorem bit_set {f f':Int->Bool} {n i:Nat} (hi:i<n) (e:∀ j:Nat,j≠i->f' (j:Int)=f (j:Int)):famC (bit1 f') n=famC (bit1 f) i++[.bool (f' (i:Int))]++(List.range' (i+1) (n-i-1)).flatMap fun j:Nat=>bit1 f (j:Int):=fam_set (h':=bit1 f') hi fun j hj=>by unfold bit1; rw [e j hj]
theorem bit_congr {f f':Int->Bool} {n:Nat} (e:∀ i:Nat,i<n->f (i:Int)=f' (i:Int)):famC (bit1 f) n=famC (bit1 f') n:=fam_congr fun i hi=>by unfold bit1; rw [e i hi]
theorem RefS.ldN (h:RefS Z H N M nb fb ob aF aO Y) {i:Nat} (hi:i<N):ld H ⟨nb,0+i*1,none⟩ [.bool (Y (i:Int) 0)]:=by
 have:=Bxs.ld h.b (j:=.n) trivial (bit_cut (f:=fun i=>Y i 0) hi)
 rw [bit_len] at this
 rw [Nat.zero_add,Nat.mul_one]
 exact this
theorem RefS.ldF (h:RefS Z H N M nb fb ob aF aO Y) {i t:Nat} (hi:i<N) (ht:t<M):ld H ⟨fb i,0+t*1,none⟩ [.bool (Y (i:Int) (1+(t:Int)))]:=by
 have:=Bxs.ld h.b (j:=.f i) hi (bit_cut (f:=fun t=>Y (i:Int) (1+t)) ht)
 rw [bit_len] at this
 rw [Nat.zero_add,Nat.mul_one]
 exact this
theorem RefS.ldO (h:RefS Z H N M nb fb ob aF aO Y) {i t:Nat} (hi:i<N) (ht:t<M+1):ld H ⟨ob i,0+t*1,none⟩ [.bool (Y (i:Int) (1+(M:Int)+(t:Int)))]:=by
 have:=Bxs.ld h.b (j:=.o i) hi (bit_cut (f:=fun t=>Y (i:Int) (1+(M:Int)+t)) ht)
 rw [bit_len] at this
 rw [Nat.zero_add,Nat.mul_one]
 exact this
theorem RefS.hdF (h:RefS Z H N M nb fb ob aF aO Y) {i:Nat} (hi:i<N):∃ b o,aF=some ⟨b,o,none⟩/\ld H ⟨b,o+i*1,none⟩ [.slice (some ⟨fb i,0,none⟩) M M]:=by
 obtain ⟨b,o,e,r⟩:=fam_ld (k:=1) (fun _=>rfl) (h.b.le.kold h.hf) hi
 exact ⟨b,o,e,by simpa [hdrC] using r⟩
theorem RefS.hdO (h:RefS Z H N M nb fb ob aF aO Y) {i:Nat} (hi:i<N):∃ b o,aO=some ⟨b,o,none⟩/\ld H ⟨b,o+i*1,none⟩ [.slice (some ⟨ob i,0,none⟩) (M+1) (M+1)]:=by
 obtain ⟨b,o,e,r⟩:=fam_ld (k:=1) (fun _=>rfl) (h.b.le.kold h.ho) hi
 exact ⟨b,o,e,by simpa [hdrC] using r⟩
theorem RefS.setN (h:RefS Z H N M nb fb ob aF aO Y) {i:Nat} (hi:i<N):RefS Z (H.put ⟨nb,0+i*1,none⟩ [.bool true]) N M nb fb ob aF aO (Up1 Y (i:Int) 0):=by
 have c1:=bit_cut (f:=fun j=>Y j 0) hi
 have c2:=bit_set (f:=fun j=>Y j 0) (f':=fun j=>Up1 Y (i:Int) 0 j 0) hi fun j hj=>up1_ne (.inl (by omega))
 simp only [up1_at] at c2
 have:=Bxs.put h.b (j:=.n) trivial c1 (vs:=[.bool true]) rfl (cs':=ixC N M (Up1 Y (i:Int) 0)) c2 fun x hx hne=>by
  cases x with
  | n=>exact absurd rfl hne
  | f j=>exact bit_congr fun t ht=>up1_ne (.inr (by omega))
  | o j=>exact bit_congr fun t ht=>up1_ne (.inr (by omega))
 rw [bit_len] at this
 rw [Nat.zero_add,Nat.mul_one]
 exact ⟨this,h.hf,h.ho⟩
theorem RefS.setF (h:RefS Z H N M nb fb ob aF aO Y) {i t:Nat} (hi:i<N) (ht:t<M):RefS Z (H.put ⟨fb i,0+t*1,none⟩ [.bool true]) N M nb fb ob aF aO (Up1 Y (i:Int) (1+(t:Int))):=by
 have c1:=bit_cut (f:=fun t=>Y (i:Int) (1+t)) ht
 have c2:=bit_set (f:=fun t=>Y (i:Int) (1+t)) (f':=fun s=>Up1 Y (i:Int) (1+(t:Int)) (i:Int) (1+s)) ht fun j hj=>up1_ne (.inr (by omega))
 simp only [up1_at] at c2
 have:=Bxs.put h.b (j:=.f i) hi c1 (vs:=[.bool true]) rfl (cs':=ixC N M (Up1 Y (i:Int) (1+(t:Int)))) c2 fun x hx hne=>by
  cases x with
  | n=>exact bit_congr fun s hs=>up1_ne (.inr (by omega))
  | f j=>exact bit_congr fun s hs=>up1_ne (.inl fun e=>hne (by rw [show j=i by omega]))
  | o j=>exact bit_congr fun s hs=>up1_ne (.inr (by omega))
 rw [bit_len] at this
 rw [Nat.zero_add,Nat.mul_one]
 exact ⟨this,h.hf,h.ho⟩
theorem RefS.setO (h:RefS Z H N M nb fb ob aF aO Y) {i t:Nat} (hi:i<N) (ht:t<M+1):RefS Z (H.put ⟨ob i,0+t*1,none⟩ [.bool true]) N M nb fb ob aF aO (Up1 Y (i:Int) (1+(M:Int)+(t:Int))):=by
 have c1:=bit_cut (f:=fun t=>Y (i:Int) (1+(M:Int)+t)) ht
 have c2:=bit_set (f:=fun t=>Y (i:Int) (1+(M:Int)+t)) (f':=fun s=>Up1 Y (i:Int) (1+(M:Int)+(t:Int)) (i:Int) (1+(M:Int)+s)) ht fun j hj=>up1_ne (.inr (by omega))
 simp only [up1_at] at c2
 have:=Bxs.put h.b (j:=.o i) hi c1 (vs:=[.bool true]) rfl (cs':=ixC N M (Up1 Y (i:Int) (1+(M:Int)+(t:Int)))) c2 fun x hx hne=>by
  cases x with
  | n=>exact bit_congr fun s hs=>up1_ne (.inr (by omega))
  | f j=>exact bit_congr fun s hs=>up1_ne (.inr (by omega))
  | o j=>exact bit_congr fun s hs=>up1_ne (.inl fun e=>hne (by rw [show j=i by omega]))
 rw [bit_len] at this
 rw [Nat.zero_add,Nat.mul_one]
 exact ⟨this,h.hf,h.ho⟩
end
def nlY (Y:Int->Int->Bool) (x:Int):Bool:=Y x 0
def fsY (M:Nat) (Y:Int->Int->Bool) (x t:Int):Bool:=decide (0<=t)&&decide (t<M)&&Y x (1+t)
def flY (M:Nat) (Y:Int->Int->Bool) (x t:Int):Bool:=decide (0<=t)&&decide (t<M+1)&&Y x (1+(M:Int)+t)
theorem fsY_at {M:Nat} {Y:Int->Int->Bool} {x t:Int} (h0:0<=t) (h1:t<M):fsY M Y x t=Y x (1+t):=by simp [fsY,h0,h1]
theorem flY_at {M:Nat} {Y:Int->Int->Bool} {x t:Int} (h0:0<=t) (h1:t<M+1):flY M Y x t=Y x (1+(M:Int)+t):=by simp [flY,h0,h1]
structure Snd3 (G:List Pr) (M:Nat) (Y:Int->Int->Bool):Prop where
 n:∀ x,nlY Y x=true->Nul G x
 f:∀ x t,fsY M Y x t=true->Fst G x t
 o:∀ x t,flY M Y x t=true->Flw G M x t
structure Cls1 (M:Nat) (Y:Int->Int->Bool) (p:Pr):Prop where
 n:(ofK (nlY Y) (fsY M Y) p.right).2=true->nlY Y p.left=true
 f:∀ t,(ofK (nlY Y) (fsY M Y) p.right).1 t=true->fsY M Y p.left t=true
 o:ClsP (nlY Y) (fsY M Y) (flY M Y) p
theorem ofK_null {nl:Int->Bool} {fs:Int->Int->Bool}:∀ {r:List Sy},(∀ s∈r,s.tok=false/\nl s.pos=true)->(ofK nl fs r).2=true
 | [],_=>rfl
 | s :: r,h=>by
   have:=h s (List.mem_cons_self ..)
   rw [ofK,this.1,this.2]
   exact ofK_null fun x hx=>h x (List.mem_cons_of_mem _ hx)
theorem is3_of {G:List Pr} {M:Nat} {Y:Int->Int->Bool} (h:Snd3 G M Y) (h0:flY M Y 0 M=true) (hc:∀ p∈G,Cls1 M Y p):IsN G (nlY Y)/\IsF G (fsY M Y)/\IsL G M (flY M Y):=by
 have a:IsN G (nlY Y):=fun x=>⟨h.n x,nul_all (fun p hp q=>(hc p hp).n (ofK_null q)) x⟩
 have b:IsF G (fsY M Y):=fun x t=>⟨h.f x t,fst_all (fun x q=>(a x).2 q) (fun p hp=>(hc p hp).f) x t⟩
 exact ⟨a,b,fun x t=>⟨h.o x t,flw_all (fun x q=>(a x).2 q) (fun x t q=>(b x t).2 q) h0 (fun p hp=>(hc p hp).o) x t⟩⟩
end Go.Ew
namespace Go.Proofs.Ytibkijpnkmccpaa
open Go.Ev Go.Ew
namespace Va
section
variable (ok : EnvOk (env Try.prog))
include ok
theorem c27 {Z H:KH} {N M nb cF cO gc gn1 gc1 gn2 gc2 rc:Nat} {fb ob:Nat->Nat} {aF aO ga ga1 ga2 ra:OA} {Y:Int->Int->Bool} {r:List Sy} {Q:PQ} (s:RefS Z H N M nb fb ob aF aO Y) (hr:kold H 2 ra r.length=some (syC r)) (hs:SymsIn M N r) (hM:M<=8) (hl:r.length<=1000)
 (hq:∀ b H',Le H H'->H b=none->kold H' 1 (some ⟨b,0,none⟩) M=some (famC (bit1 (ofK (nlY Y) (fsY M Y) r).1) M)->Q (.tuple #[.slice (some ⟨b,0,none⟩) M M,.bool (ofK (nlY Y) (fsY M Y) r).2]) H') :
 Does (env Try.prog) 27 [.agg #[.slice (some ⟨nb,0,none⟩) N N,.slice aF N cF,.slice aO N cO],.agg #[.slice ga M gc,.slice ga1 gn1 gc1,.slice ga2 gn2 gc2],.slice ra r.length rc] H Q:=by
 refine fn27 ok ⟨⟨by omega,by omega,by omega⟩,fun n1 h1=>?_⟩
 have eM:Int.toNat ((M:Nat):Int)=M:=by omega
 have e0:lrep [.bool false] M=famC (bit1 fun _=>false) M:=fam_rep (h:=bit1 fun _=>false) fun _ _=>rfl
 unfold vc27_L4
 rw [eM,e0]
 have w0:Bxs H (H.new n1 (mkEnt (famC (bit1 fun _=>false) M) 0)) (fun _:Unit=>True) (fun _=>n1) (fun _=>famC (bit1 fun _=>false) M):=⟨Le.new h1,fun _ _=>h1,fun _ _=>⟨_,if_pos rfl,rfl,mk_rd⟩,fun _ _ _ _ _=>rfl⟩
 refine ⟨fun k a4 n5 n6 a7 n8 n9 a10 n11 n12 a13 n14 n15 a16 n17 n18 x19 H20=>a4=ra/\n5=r.length/\a7=some ⟨nb,0,none⟩/\n8=N/\a10=aF/\n11=N/\a16=some ⟨n1,0,none⟩/\n17=M/\n18=M/\∃ (i:Nat) (F:Int->Bool),x19=i/\i<=r.length/\k=r.length-i/\Bxs H H20 (fun _:Unit=>True) (fun _=>n1) (fun _=>famC (bit1 F) M)/\(∀ t:Int,0<=t->t<M->(F t||(ofK (nlY Y) (fsY M Y) (r.drop i)).1 t)=(ofK (nlY Y) (fsY M Y) r).1 t)/\(ofK (nlY Y) (fsY M Y) (r.drop i)).2=(ofK (nlY Y) (fsY M Y) r).2,⟨r.length,rfl,rfl,rfl,rfl,rfl,rfl,rfl,rfl,rfl,0,(fun _=>false),rfl,by omega,rfl,w0,fun t _ _=>rfl,rfl⟩,?_⟩
 rintro k a4 n5 n6 a7 n8 n9 a10 n11 n12 a13 n14 n15 a16 n17 n18 x19 H20 ⟨rfl,rfl,rfl,rfl,rfl,rfl,rfl,rfl,rfl,i,F,rfl,hi,rfl,w,hF,h2⟩
 obtain ⟨RA,eRA⟩:∃ q,q=a4:=⟨_,rfl⟩
 obtain ⟨AF,eAF⟩:∃ q,q=a10:=⟨_,rfl⟩
 obtain ⟨NN,eNN⟩:∃ q,q=n11:=⟨_,rfl⟩
 subst eRA eAF eNN
 have fin:∀ (F':Int->Bool) (b:Bool) (H':KH),Bxs H H' (fun _:Unit=>True) (fun _=>n1) (fun _=>famC (bit1 F') n18)->(∀ t:Int,0<=t->t<n18->F' t=(ofK (nlY Y) (fsY n18 Y) r).1 t)->b=(ofK (nlY Y) (fsY n18 Y) r).2->Q (.tuple #[.slice (some ⟨n1,0,none⟩) n18 n18,.bool b]) H':=fun F' b H' w' q1 q2=>by
  rw [q2]
  refine hq n1 H' w'.le h1 ?_
  rw [<- bit_congr (f:=F') fun t ht=>q1 (t:Int) (by omega) (by omega)]
  exact Bxs.kold w' (j:=()) trivial (by rw [bit_len]; omega)
 have at1:∀ {H':KH} {F':Int->Bool} {t:Nat},Bxs H H' (fun _:Unit=>True) (fun _=>n1) (fun _=>famC (bit1 F') n18)->t<n18->ld H' ⟨n1,0+t*1,none⟩ [.bool (F' (t:Int))]:=fun {H' F' t} w' ht=>by
  have:=Bxs.ld w' (j:=()) trivial (bit_cut (f:=F') ht)
  rw [bit_len] at this
  rw [Nat.zero_add,Nat.mul_one]
  exact this
 have set1:∀ {H':KH} {F' F2:Int->Bool} {t:Nat},Bxs H H' (fun _:Unit=>True) (fun _=>n1) (fun _=>famC (bit1 F') n18)->t<n18->(∀ j:Nat,j≠t->F2 (j:Int)=F' (j:Int))->Bxs H (H'.put ⟨n1,0+t*1,none⟩ [.bool (F2 (t:Int))]) (fun _:Unit=>True) (fun _=>n1) (fun _=>famC (bit1 F2) n18):=fun {H' F' F2 t} w' ht e=>by
  have:=Bxs.put w' (j:=()) trivial (bit_cut (f:=F') ht) (vs:=[.bool (F2 (t:Int))]) rfl (cs':=fun _=>famC (bit1 F2) n18) (bit_set ht e) fun _ _ hi=>absurd rfl hi
  rw [bit_len] at this
  rw [Nat.zero_add,Nat.mul_one]
  exact this
 refine ⟨fun z=>?_,fun z=>?_⟩
 .have z:i<r.length:=by have:=of_decide_eq_true z; omega
  have ei:Int.toNat ((i:Nat):Int)=i:=by omega
  have hi1:IntKind.wrap .i64 (((i:Nat):Int)+1)=((i+1:Nat):Int):=by rw [wrap64 (by omega) (by omega)]; omega
  obtain ⟨b0,o0,ha,r0⟩:=sy_ld (w.le.kold hr) z
  obtain ⟨s0,s1,s2⟩:=hs _ (List.getElem_mem z)
  rw [List.drop_eq_getElem_cons z,ofK] at hF h2
  rw [ei]
  have ep:(((r[i]).pos.toNat:Nat):Int)=(r[i]).pos:=by omega
  refine ⟨⟨by omega,by omega⟩,b0,o0,ha,_,_,r0,fun y=>?_,fun y=>?_⟩
  .rw [y] at hF h2
   have hp:=s1 y
   have r1:=at1 w (t:=(r[i]).pos.toNat) (by omega)
   have w2:=set1 w (t:=(r[i]).pos.toNat) (F2:=fun t=>F t||decide (t=(r[i]).pos)) (by omega) fun j hj=>by
    rw [decide_eq_false (by omega),Bool.or_false]
   have ev:(F (((r[i]).pos.toNat:Nat):Int)||decide ((((r[i]).pos.toNat:Nat):Int)=(r[i]).pos))=true:=by rw [ep,decide_eq_true rfl,Bool.or_true]
   simp only [ev] at w2
   exact ⟨⟨s0,hp⟩,n1,0,rfl,⟨[.bool (F (((r[i]).pos.toNat:Nat):Int))],rfl,r1⟩,Bxs.may w (j:=()) trivial,fin _ _ _ w2 hF h2⟩
  .rw [y] at hF h2
   have hp:=s2 y
   unfold vc27_L2
   refine ⟨fun k a4 n5 n6 a7 n8 n9 a10 n11 n12 a13 n14 n15 a16 n17 n18' x19 b20 x21 x22 H23=>a4=RA/\n5=r.length/\a7=some ⟨nb,0,none⟩/\n8=NN/\a10=AF/\n11=NN/\a16=some ⟨n1,0,none⟩/\n17=n18/\n18'=n18/\x19=i/\x21=(r[i]).pos/\∃ t:Nat,x22=t/\t<=n18/\k=n18-t/\Bxs H H23 (fun _:Unit=>True) (fun _=>n1) (fun _=>famC (bit1 fun u=>F u||(decide (u<t)&&fsY n18 Y (r[i]).pos u)) n18),⟨n18,rfl,rfl,rfl,rfl,rfl,rfl,rfl,rfl,rfl,rfl,rfl,0,rfl,by omega,rfl,?_⟩,?_⟩
   .rw [<- bit_congr (f:=F) fun t ht=>by rw [decide_eq_false (by omega),Bool.false_and,Bool.or_false]]
    exact w
   rintro k a4 n5 n6 a7 n8 n9 a10 n11 n12 a13 n14 n15 a16 n17 n18' x19 b20 x21 x22 H23 ⟨rfl,rfl,rfl,rfl,rfl,rfl,rfl,rfl,rfl,rfl,rfl,t,rfl,ht,rfl,w⟩
   have s':=s.up w.le
   refine ⟨fun z2=>?_,fun z2=>?_⟩
   .have z2:t<n18':=by have:=of_decide_eq_true z2; omega
    have et:Int.toNat ((t:Nat):Int)=t:=by omega
    have ht1:IntKind.wrap .i64 (((t:Nat):Int)+1)=((t+1:Nat):Int):=by rw [wrap64 (by omega) (by omega)]; omega
    have r1:=at1 w z2
    have ev:(F (t:Int)||(decide ((t:Int)<(t:Int))&&fsY n18' Y (r[i]).pos t))=F (t:Int):=by rw [decide_eq_false (by omega),Bool.false_and,Bool.or_false]
    simp only [ev] at r1
    have nx:∀ v:Bool,v=(F (t:Int)||fsY n18' Y (r[i]).pos t)->Bxs H (H23.put ⟨n1,0+t*1,none⟩ [.bool v]) (fun _:Unit=>True) (fun _=>n1) (fun _=>famC (bit1 fun u=>F u||(decide (u<((t+1:Nat):Int))&&fsY n18' Y (r[i]).pos u)) n18'):=fun v hv=>by
     have:=set1 w z2 (F2:=fun u=>F u||(decide (u<((t+1:Nat):Int))&&fsY n18' Y (r[i]).pos u)) fun j hj=>by
      rw [show decide ((j:Int)<((t+1:Nat):Int))=decide ((j:Int)<(t:Int)) from by
       by_cases q:(j:Int)<(t:Int)
       .rw [decide_eq_true q,decide_eq_true (by omega)]
       .rw [decide_eq_false q,decide_eq_false (by omega)]]
     have ev:(F (t:Int)||(decide ((t:Int)<((t+1:Nat):Int))&&fsY n18' Y (r[i]).pos t))=v:=by rw [decide_eq_true (by omega),Bool.true_and,hv]
     simp only [ev] at this
     exact this
    rw [et,ht1]
    have bt:0<=((t:Nat):Int)/\((t:Nat):Int)<n18':=⟨by omega,by omega⟩
    refine ⟨bt,n1,0,rfl,_,r1,fun q=>?_,fun q=>?_⟩
    .exact ⟨bt,n1,0,rfl,⟨[.bool (F (t:Int))],rfl,r1⟩,Bxs.may w (j:=()) trivial,n18'-(t+1),by omega,rfl,rfl,rfl,rfl,rfl,rfl,rfl,rfl,rfl,rfl,rfl,t+1,rfl,by omega,rfl,nx true (by rw [q]; rfl)⟩
    .obtain ⟨b5,o5,ha5,r5⟩:=s'.hdF (i:=(r[i]).pos.toNat) (by omega)
     have r6:=s'.ldF (i:=(r[i]).pos.toNat) (t:=t) (by omega) z2
     rw [ep] at r6
     refine ⟨⟨s0,hp⟩,b5,o5,ha5,_,_,_,r5,bt,fb (r[i]).pos.toNat,0,rfl,_,r6,bt,n1,0,rfl,⟨[.bool (F (t:Int))],rfl,r1⟩,Bxs.may w (j:=()) trivial,n18'-(t+1),by omega,rfl,rfl,rfl,rfl,rfl,rfl,rfl,rfl,rfl,rfl,rfl,t+1,rfl,by omega,rfl,nx _ (by rw [q,fsY_at (by omega) (by omega)]; rfl)⟩
   .have z2:t=n18':=by have:=of_decide_eq_false z2; omega
    subst z2
    rw [bit_congr (f':=fun u=>F u||fsY t Y (r[i]).pos u) fun u hu=>by rw [decide_eq_true (by omega),Bool.true_and]] at w
    have rn:=s'.ldN (i:=(r[i]).pos.toNat) (by omega)
    rw [ep] at rn
    refine ⟨⟨s0,hp⟩,nb,0,rfl,_,rn,fun q=>?_,fun q=>?_⟩
    .have q:nlY Y (r[i]).pos=false:=by unfold nlY; cases e:Y (r[i]).pos 0<;>rw [e] at q<;>first | rfl | cases q
     rw [q] at hF h2
     exact fin _ _ _ w hF h2
    .have q:nlY Y (r[i]).pos=true:=by unfold nlY; cases e:Y (r[i]).pos 0<;>rw [e] at q<;>first | rfl | cases q
     rw [q] at hF h2
     rw [hi1]
     refine ⟨r.length-(i+1),by omega,rfl,rfl,rfl,rfl,rfl,rfl,rfl,rfl,rfl,i+1,_,rfl,by omega,rfl,w,fun u u0 u1=>?_,h2⟩
     rw [<- hF u u0 u1,Bool.or_assoc]; rfl
 .have z:i=r.length:=by have:=of_decide_eq_false z; omega
  subst z
  rw [List.drop_length] at hF h2
  exact fin F true H20 w (fun t t0 t1=>by rw [<- hF t t0 t1]; exact (Bool.or_false _).symm) h2
end
end Va
end Go.Proofs.Ytibkijpnkmccpaa
namespace Go.Ew
open Go.Ev Go.Deep
section
variable {ι : Type} {Z H : KH} {D : ι -> Prop} {nm : ι -> Nat} {cs : ι -> List Value}
theorem Bxs.max (h:Bxs Z H D nm cs):∃ Z',Le Z Z'/\Bxs Z' H D nm cs/\∀ k e,H k=some e->(∀ i,D i->nm i≠k)->Z' k=some e:=by
 classical
 refine ⟨fun k=>if ∃ i,D i/\nm i=k then none else H k,fun k e q=>?_,⟨fun k e q=>?_,fun i hi=>?_,h.ok,h.inj⟩,fun k e q hn=>?_⟩
 .have:¬ ∃ i,D i/\nm i=k:=fun ⟨i,hi,hk⟩=>by
   have:=h.fr i hi
   rw [hk,q] at this; cases this
  exact (if_neg this).trans (h.le k e q)
 .have q:(if ∃ i,D i/\nm i=k then none else H k)=some e:=q
  split at q
  .cases q
  .exact q
 .exact if_pos ⟨i,hi,rfl⟩
 .exact (if_neg fun ⟨i,hi,hk⟩=>hn i hi hk).trans q
theorem Bxs.less {Z0:KH} (h:Bxs Z H D nm cs) (hl:Le Z0 Z):Bxs Z0 H D nm cs:=⟨hl.trans h.le,fun i hi=>hl.none (h.fr i hi),h.ok,h.inj⟩
end
structure Rk (Z H:KH) (G:List Pr) (N M nb:Nat) (fb ob:Nat->Nat) (aF aO:OA) (Y0 Y:Int->Int->Bool) (b:Bool):Prop where
 s:RefS Z H N M nb fb ob aF aO Y
 i:InN N Y (2*M+2)
 d:Snd3 G M Y
 t:Stp Y0 Y b
section
variable {Z H : KH} {G : List Pr} {N M nb : Nat} {fb ob : Nat -> Nat} {aF aO : OA} {Y0 Y : Int -> Int -> Bool} {b : Bool}
theorem Rk.up {H':KH} (h:Rk Z H G N M nb fb ob aF aO Y0 Y b) (hl:Le H H'):Rk Z H' G N M nb fb ob aF aO Y0 Y b:=⟨h.s.up hl,h.i,h.d,h.t⟩
theorem Rk.set {H':KH} {x c:Int} (h:Rk Z H G N M nb fb ob aF aO Y0 Y b) (s:RefS Z H' N M nb fb ob aF aO (Up1 Y x c)) (hx:0<=x/\x<N) (hc:0<=c/\c<2*M+2) (hd:Snd3 G M (Up1 Y x c)) (hn:Y x c=false):Rk Z H' G N M nb fb ob aF aO Y0 (Up1 Y x c) true :=
 ⟨s,up_in h.i hx fun t q=>by have:=of_decide_eq_true q; rw [this]; exact ⟨hc.1,by have:=hc.2; omega⟩,hd,h.t.add (fun _=>.inr ⟨c,decide_eq_true rfl,hn⟩) fun q=>by cases q⟩
theorem Snd3.setN (h:Snd3 G M Y) {x:Int} (hx:Nul G x):Snd3 G M (Up1 Y x 0):=by
 refine ⟨fun y q=>?_,fun y t q=>?_,fun y t q=>?_⟩
 .by_cases e:y=x
  .rw [e]; exact hx
  .unfold nlY at q; rw [up1_ne (.inl e)] at q; exact h.n y q
 .simp only [fsY,Bool.and_eq_true,decide_eq_true_eq] at q
  rw [up1_ne (.inr (by omega))] at q
  exact h.f y t (by rw [fsY_at q.1.1 q.1.2]; exact q.2)
 .simp only [flY,Bool.and_eq_true,decide_eq_true_eq] at q
  rw [up1_ne (.inr (by omega))] at q
  exact h.o y t (by rw [flY_at q.1.1 q.1.2]; exact q.2)
theorem Snd3.setF (h:Snd3 G M Y) {x:Int} {t:Nat} (ht:t<M) (hx:Fst G x t):Snd3 G M (Up1 Y x (1+(t:Int))):=by
 refine ⟨fun y q=>?_,fun y s q=>?_,fun y s q=>?_⟩
 .unfold nlY at q; rw [up1_ne (.inr (by omega))] at q; exact h.n y q
 .simp only [fsY,Bool.and_eq_true,decide_eq_true_eq] at q
  by_cases e:y=x/\s=t
  .rw [e.1,e.2]; exact hx
  .rw [up1_ne (by by_cases e1:y=x; exact .inr (by omega); exact .inl e1)] at q
   exact h.f y s (by rw [fsY_at q.1.1 q.1.2]; exact q.2)
 .simp only [flY,Bool.and_eq_true,decide_eq_true_eq] at q
  rw [up1_ne (.inr (by omega))] at q
  exact h.o y s (by rw [flY_at q.1.1 q.1.2]; exact q.2)
theorem Snd3.setO (h:Snd3 G M Y) {x:Int} {t:Nat} (ht:t<M+1) (hx:Flw G M x t):Snd3 G M (Up1 Y x (1+(M:Int)+(t:Int))):=by
 refine ⟨fun y q=>?_,fun y s q=>?_,fun y s q=>?_⟩
 .unfold nlY at q; rw [up1_ne (.inr (by omega))] at q; exact h.n y q
 .simp only [fsY,Bool.and_eq_true,decide_eq_true_eq] at q
  rw [up1_ne (.inr (by omega))] at q
  exact h.f y s (by rw [fsY_at q.1.1 q.1.2]; exact q.2)
 .simp only [flY,Bool.and_eq_true,decide_eq_true_eq] at q
  by_cases e:y=x/\s=t
  .rw [e.1,e.2]; exact hx
  .rw [up1_ne (by by_cases e1:y=x; exact .inr (by omega); exact .inl e1)] at q
   exact h.o y s (by rw [flY_at q.1.1 q.1.2]; exact q.2)
theorem Rk.row {rb n:Nat} {cs:List Value} {H0:KH} (h:Rk Z H G N M nb fb ob aF aO Y0 Y b) (h0:RefS Z H0 N M nb fb ob aF aO Y) (hn:H0 rb=none) (hk:kold H 1 (some ⟨rb,0,none⟩) n=some cs):∃ Z',Le Z Z'/\Rk Z' H G N M nb fb ob aF aO Y0 Y b/\kold Z' 1 (some ⟨rb,0,none⟩) n=some cs:=by
 obtain ⟨Z',l,w,q⟩:=h.s.b.max
 refine ⟨Z',l,⟨⟨w,l.kold h.s.hf,l.kold h.s.ho⟩,h.i,h.d,h.t⟩,?_⟩
 obtain ⟨e,k1,k2⟩:=kold_some.1 hk
 exact kold_some.2 ⟨e,q _ _ k1 (fun i hi e'=>by
  obtain ⟨e2,k3,_⟩:=h0.b.ok i hi
  rw [e',hn] at k3; cases k3),k2⟩
theorem Rk.less {Z0:KH} (h:Rk Z H G N M nb fb ob aF aO Y0 Y b) (hl:Le Z0 Z) (hf:kold Z0 1 aF N=some (famC (hdrC M fb) N)) (ho:kold Z0 1 aO N=some (famC (hdrC (M+1) ob) N)):Rk Z0 H G N M nb fb ob aF aO Y0 Y b:=⟨⟨h.s.b.less hl,hf,ho⟩,h.i,h.d,h.t⟩
end
theorem ofK_in {M:Nat} {Y:Int->Int->Bool} {N:Nat} {r:List Sy} (hs:SymsIn M N r):∀ t,(ofK (nlY Y) (fsY M Y) r).1 t=true->0<=t/\t<M :=
 ofK_mem (B:=fun t=>0<=t/\t<M) (fun x t q=>by simp only [fsY,Bool.and_eq_true,decide_eq_true_eq] at q; exact q.1) fun s h q=>⟨(hs s h).1,(hs s h).2.1 q⟩
def ClsK (M:Nat) (Y:Int->Int->Bool) (p:Pr) (k:Nat) (h:k<p.right.length):Prop:=∀ t,((ofK (nlY Y) (fsY M Y) (p.right.drop (k+1))).1 t||((ofK (nlY Y) (fsY M Y) (p.right.drop (k+1))).2&&flY M Y p.left t))=true->flY M Y p.right[k].pos t=true
end Go.Ew
namespace Go.Proofs.Ytibkijpnkmccpaa
open Go.Ev Go.Ew
namespace Va
section
variable (ok : EnvOk (env Try.prog))
include ok
theorem c28 {Z H:KH} {g:Gm} {nb cF cO j k:Nat} {fb ob:Nat->Nat} {aF aO:OA} {Y0 Y:Int->Int->Bool} {b0:Bool} {Q:PQ} (w:Rk Z H g.prods g.nts.length g.toks.length nb fb ob aF aO Y0 Y b0) (hg:GI Z g) (hm:MayG g) (hj:j<g.prods.length) (hk:k<g.prods[j].right.length) (hnt:(g.prods[j].right[k]).tok=false)
 (hq:∀ H' Y' m,Rk Z H' g.prods g.nts.length g.toks.length nb fb ob aF aO Y0 Y' (b0||m)->(m=false->Y'=Y/\ClsK g.toks.length Y g.prods[j] k hk)->Q (.bool m) H') :
 Does (env Try.prog) 28 [.agg #[.slice (some ⟨nb,0,none⟩) g.nts.length g.nts.length,.slice aF g.nts.length cF,.slice aO g.nts.length cO],gv g,.agg #[.int .i64 g.prods[j].left,.slice g.prods[j].ra g.prods[j].right.length g.prods[j].rc,.slice g.prods[j].ua g.prods[j].un g.prods[j].uc],.int .i64 ((k:Nat):Int)] H Q:=by
 have hpo:=hm.pr j hj
 have hri:=hg.pi j hj
 have hsy:=SymsIn.of hm hj
 have hmem:g.prods[j]∈g.prods:=List.getElem_mem hj
 generalize hx:g.prods[j]=x at *
 have hT:=hm.t
 have hN:=hm.n
 have hk1:IntKind.wrap .i64 (((k:Nat):Int)+1)=((k+1:Nat):Int):=by have:=hpo.b; rw [wrap64 (by omega) (by omega)]; omega
 obtain ⟨a',c',k1,k2⟩:=(hri.2.up w.s.b.le).cut (k+1) (by omega)
 have hdl:x.right.length-(k+1)=(x.right.drop (k+1)).length:=by rw [List.length_drop]
 rw [hdl] at k2
 have hsd:=hsy.drop (k+1)
 obtain ⟨s0,s1,s2⟩:=hsy _ (List.getElem_mem hk)
 have hp:=s2 hnt
 refine fn28 ok ⟨trivial,a',_,c',by rw [hk1]; exact k1,?_⟩
 rw [hdl]
 refine c27 ok w.s k2 hsd hT.2 (by rw [List.length_drop]; have:=hpo.b; omega) fun rb H5 l5 hrb kr=>⟨some ⟨rb,0,none⟩,_,_,_,rfl,trivial,trivial,⟨by omega,by omega⟩,?_⟩
 obtain ⟨Z',lZ,w',kr⟩:=(w.up l5).row w.s hrb kr
 have ek:Int.toNat ((k:Nat):Int)=k:=by omega
 obtain ⟨b1,o1,ha1,r1⟩:=sy_ld (w'.s.b.le.kold (lZ.kold hri.1)) hk
 have ep:(((x.right[k]).pos.toNat:Nat):Int)=(x.right[k]).pos:=by omega
 obtain ⟨b2,o2,ha2,r2⟩:=w'.s.hdO (i:=(x.right[k]).pos.toNat) (by omega)
 rw [ek]
 refine ⟨b1,o1,ha1,rfl,_,ldSub (m:=1) r1 1 (by simp),⟨s0,hp⟩,b2,o2,ha2,_,_,_,r2,?_⟩
 generalize hf:(ofK (nlY Y) (fsY g.toks.length Y) (x.right.drop (k+1))).1=f at *
 generalize hnu:(ofK (nlY Y) (fsY g.toks.length Y) (x.right.drop (k+1))).2=nu at *
 obtain ⟨v1,v2⟩:=ofK_sound w.d.n w.d.f (x.right.drop (k+1))
 rw [hf] at v2
 rw [hnu] at v1
 have fin:=ofK_in (Y:=Y) hsd
 rw [hf] at fin
 unfold vc28_L1
 refine ⟨fun kk a4 n5 n6 a7 n8 n9 a10 n11 n12 x13 a14 n15 n16 a17 n18 n19 b20 a21 n22 n23 b24 a25 n26 n27 x28 H29=>aO=a10/\g.nts.length=n11/\x.left=x13/\some ⟨rb,0,none⟩=a21/\g.toks.length=n22/\nu=b24/\some ⟨ob (x.right[k]).pos.toNat,0,none⟩=a25/\g.toks.length+1=n26/\∃ (t:Nat) (Yt:Int->Int->Bool),x28=t/\t<=g.toks.length+1/\kk=g.toks.length+1-t/\Rk Z' H29 g.prods g.nts.length g.toks.length nb fb ob aF aO Y0 Yt (b0||b20)/\(b20=false->Yt=Y/\∀ u:Nat,u<t->(f (u:Int)||(nu&&flY g.toks.length Y x.left u))=true->flY g.toks.length Y (x.right[k]).pos u=true),⟨g.toks.length+1,rfl,rfl,rfl,rfl,rfl,rfl,rfl,rfl,0,Y,rfl,by omega,rfl,by rw [Bool.or_false]; exact w',fun _=>⟨rfl,fun u hu=>absurd hu (by omega)⟩⟩,?_⟩
 rintro kk a4 n5 n6 a7 n8 n9 a10 n11 n12 x13 a14 n15 n16 a17 n18 n19 b20 a21 n22 n23 b24 a25 n26 n27 x28 H29 ⟨rfl,rfl,rfl,rfl,rfl,rfl,rfl,rfl,t,Yt,rfl,ht,rfl,w2,hc⟩
 have lo:x.left=((x.left.toNat:Nat):Int):=by have:=hpo.a; omega
 refine ⟨fun z=>?_,fun z=>?_⟩
 .have z:t<g.toks.length+1:=by have:=of_decide_eq_true z; omega
  have et:Int.toNat ((t:Nat):Int)=t:=by omega
  have ht1:IntKind.wrap .i64 (((t:Nat):Int)+1)=((t+1:Nat):Int):=by rw [wrap64 (by omega) (by omega)]; omega
  have r3:=w2.s.ldO (i:=(x.right[k]).pos.toNat) (t:=t) (by omega) z
  have r3':=w2.s.setO (i:=(x.right[k]).pos.toNat) (t:=t) (by omega) z
  rw [ep] at r3 r3'
  have bt:0<=((t:Nat):Int)/\((t:Nat):Int)<((g.toks.length+1:Nat):Int):=⟨by omega,by omega⟩
  -- nothing comes
  have stay:(b20=false->(f (t:Int)||(nu&&flY g.toks.length Y x.left t))=true->flY g.toks.length Y (x.right[k]).pos t=true)->∃ n',n'<g.toks.length+1-t/\(aO=aO/\g.nts.length=g.nts.length/\x.left=x.left/\(some ⟨rb,0,none⟩:OA)=some ⟨rb,0,none⟩/\g.toks.length=g.toks.length/\nu=nu/\(some ⟨ob (x.right[k]).pos.toNat,0,none⟩:OA)=some ⟨ob (x.right[k]).pos.toNat,0,none⟩/\g.toks.length+1=g.toks.length+1/\∃ (t':Nat) (Yt:Int->Int->Bool),((t+1:Nat):Int)=t'/\t'<=g.toks.length+1/\n'=g.toks.length+1-t'/\Rk Z' H29 g.prods g.nts.length g.toks.length nb fb ob aF aO Y0 Yt (b0||b20)/\(b20=false->Yt=Y/\∀ u:Nat,u<t'->(f (u:Int)||(nu&&flY g.toks.length Y x.left u))=true->flY g.toks.length Y (x.right[k]).pos u=true)):=fun h=>⟨g.toks.length+1-(t+1),by omega,rfl,rfl,rfl,rfl,rfl,rfl,rfl,rfl,t+1,Yt,rfl,by omega,rfl,w2,fun q=>⟨(hc q).1,fun u hu=>by
   by_cases e:u=t
   .subst e; exact h q
   .exact (hc q).2 u (by omega)⟩⟩
  -- one more
  have more:Yt (x.right[k]).pos (1+(g.toks.length:Int)+t)=false->Flw g.prods g.toks.length (x.right[k]).pos t->∃ n',n'<g.toks.length+1-t/\(aO=aO/\g.nts.length=g.nts.length/\x.left=x.left/\(some ⟨rb,0,none⟩:OA)=some ⟨rb,0,none⟩/\g.toks.length=g.toks.length/\nu=nu/\(some ⟨ob (x.right[k]).pos.toNat,0,none⟩:OA)=some ⟨ob (x.right[k]).pos.toNat,0,none⟩/\g.toks.length+1=g.toks.length+1/\∃ (t':Nat) (Yt:Int->Int->Bool),((t+1:Nat):Int)=t'/\t'<=g.toks.length+1/\n'=g.toks.length+1-t'/\Rk Z' (H29.put ⟨ob (x.right[k]).pos.toNat,0+t*1,none⟩ [.bool true]) g.prods g.nts.length g.toks.length nb fb ob aF aO Y0 Yt (b0||true)/\((true:Bool)=false->Yt=Y/\∀ u:Nat,u<t'->(f (u:Int)||(nu&&flY g.toks.length Y x.left u))=true->flY g.toks.length Y (x.right[k]).pos u=true)):=fun h1 h2=>⟨g.toks.length+1-(t+1),by omega,rfl,rfl,rfl,rfl,rfl,rfl,rfl,rfl,t+1,_,rfl,by omega,rfl,by
   rw [Bool.or_true]
   exact w2.set r3' ⟨s0,hp⟩ ⟨by omega,by omega⟩ (w2.d.setO z h2) h1,fun q=>by cases q⟩
  have hmay:=Bxs.may w2.s.b (j:=.o (x.right[k]).pos.toNat) (show _<_ by omega)
  have flt:flY g.toks.length Yt x.left t=Yt x.left (1+(g.toks.length:Int)+t):=flY_at (by omega) (by omega)
  have null:nu=true->∃ b3 o3,aO=some ⟨b3,o3,none⟩/\ld H29 ⟨b3,o3+x.left.toNat*1,none⟩ [.slice (some ⟨ob x.left.toNat,0,none⟩) (g.toks.length+1) (g.toks.length+1)]/\ld H29 ⟨ob x.left.toNat,0+t*1,none⟩ [.bool (Yt x.left (1+(g.toks.length:Int)+t))]:=fun _=>by
   obtain ⟨b3,o3,ha3,r4⟩:=w2.s.hdO (i:=x.left.toNat) (by have:=hpo.a; omega)
   have r5:=w2.s.ldO (i:=x.left.toNat) (t:=t) (by have:=hpo.a; omega) z
   rw [<- lo] at r5
   exact ⟨b3,o3,ha3,r4,r5⟩
  have byNull:nu=true->Yt x.left (1+(g.toks.length:Int)+t)=true->Flw g.prods g.toks.length (x.right[k]).pos t:=fun q1 q2=>.nul x hmem _ _ _ _ (parts_at hk) hnt (v1 q1) (w2.d.o _ _ (by rw [flt]; exact q2))
  rw [et,ht1]
  refine ⟨bt,_,0,rfl,_,r3,fun q=>?_,fun q=>?_⟩
  .have q:Yt (x.right[k]).pos (1+(g.toks.length:Int)+t)=false:=by cases e:Yt (x.right[k]).pos (1+(g.toks.length:Int)+t)<;>rw [e] at q<;>first | rfl | cases q
   refine ⟨fun z1=>?_,fun z1=>?_⟩
   .have z1:t<g.toks.length:=by have:=of_decide_eq_true z1; omega
    obtain ⟨b6,o6,ha6,r6⟩:=bit_ld (w2.s.b.le.kold kr) z1
    refine ⟨⟨by omega,by omega⟩,b6,o6,ha6,_,r6,fun q6=>?_,fun q6=>⟨fun qn=>?_,fun qn=>?_⟩⟩
    .exact ⟨bt,_,0,rfl,⟨[.bool (Yt (x.right[k]).pos (1+(g.toks.length:Int)+t))],rfl,r3⟩,hmay,more q (.fst x hmem _ _ _ _ (parts_at hk) hnt (v2 _ q6))⟩
    .obtain ⟨b3,o3,ha3,r4,r5⟩:=null qn
     refine ⟨hpo.a,b3,o3,ha3,_,_,_,r4,bt,_,0,rfl,_,r5,fun q7=>?_,fun q7=>?_⟩
     .exact ⟨bt,_,0,rfl,⟨[.bool (Yt (x.right[k]).pos (1+(g.toks.length:Int)+t))],rfl,r3⟩,hmay,more q (byNull qn q7)⟩
     .exact stay fun qb qq=>by
       rw [<- (hc qb).1,flt,q7,q6] at qq
       simp at qq
    .exact stay fun qb qq=>by
      rw [q6,qn] at qq
      simp at qq
   .have z1:¬ t<g.toks.length:=by have:=of_decide_eq_false z1; omega
    have q6:f (t:Int)=false:=by
     cases e:f (t:Int)
     .rfl
     .have:=fin _ e; omega
    refine ⟨fun qn=>?_,fun qn=>?_⟩
    .obtain ⟨b3,o3,ha3,r4,r5⟩:=null qn
     refine ⟨hpo.a,b3,o3,ha3,_,_,_,r4,bt,_,0,rfl,_,r5,fun q7=>?_,fun q7=>?_⟩
     .exact ⟨bt,_,0,rfl,⟨[.bool (Yt (x.right[k]).pos (1+(g.toks.length:Int)+t))],rfl,r3⟩,hmay,more q (byNull qn q7)⟩
     .exact stay fun qb qq=>by
       rw [<- (hc qb).1,flt,q7,q6] at qq
       simp at qq
    .exact stay fun qb qq=>by
      rw [q6,qn] at qq
      simp at qq
  .have q:Yt (x.right[k]).pos (1+(g.toks.length:Int)+t)=true:=by cases e:Yt (x.right[k]).pos (1+(g.toks.length:Int)+t)<;>rw [e] at q<;>first | rfl | cases q
   exact stay fun qb _=>by rw [<- (hc qb).1,flY_at (by omega) (by omega)]; exact q
 .have z:t=g.toks.length+1:=by have:=of_decide_eq_false z; omega
  subst z
  refine hq H29 Yt b20 (w2.less lZ w.s.hf w.s.ho) fun qb=>⟨(hc qb).1,fun u hu=>?_⟩
  rw [hf,hnu] at hu
  have hur:0<=u/\u<g.toks.length+1:=by
   rw [Bool.or_eq_true,Bool.and_eq_true] at hu
   rcases hu with hu | ⟨_,hu⟩
   .have:=fin _ hu; omega
   .simp only [flY,Bool.and_eq_true,decide_eq_true_eq] at hu; exact hu.1
  have eu:((u.toNat:Nat):Int)=u:=by omega
  have:=(hc qb).2 u.toNat (by omega)
  rw [eu] at this
  exact this hu
end
end Va
end Go.Proofs.Ytibkijpnkmccpaa
