import Derived.Test.YtefiipkfppaibaaEwGm1
import Derived.Test.YtefiipkfppaibaaEwEnv
import Derived.Test.YtefiipkfppaibaaEvFast4
import Derived.Test.YtefiipkfppaibaaEwS4
import Derived.Carry
set_option linter.unusedVariables false
set_option linter.unusedSimpArgs false
namespace Go.Ew
open Go.Ev Go.Deep
structure Xi where
 a:Int
 b:Int
 c:Int
 s:ByteArray
 la:OA
 ln:Nat
 lc:Nat
 d:Int
 e:Int
 ma:OA
 mn:Nat
 mc:Nat
def xiC (x:Xi):List Value:=[.int .i64 x.a,.int .i64 x.b,.int .i64 x.c,.string x.s,.slice x.la x.ln x.lc,.int .i64 x.d,.int .i64 x.e,.slice x.ma x.mn x.mc]
def exC (l:List Xi):List Value:=l.flatMap xiC
theorem exC_app (l m:List Xi):exC (l++m)=exC l++exC m:=List.flatMap_append
theorem ex_ld {H:KH} {a:OA} {i:Nat} {l:List Xi} (h:kold H 8 a l.length=some (exC l)) (hi:i<l.length):∃ b o,a=some ⟨b,o,none⟩/\ld H ⟨b,o+i*8,none⟩ (xiC l[i]):=it_ld (k:=8) (f:=xiC) (fun _=>rfl) h hi
def tiX:TI:=⟨8,104,true,3,0,0,[(0,1),(1,4),(5,1),(6,1),(7,1)],[.int .i64 0,.int .i64 0,.int .i64 0,.string ⟨#[]⟩,.slice none 0 0,.int .i64 0,.int .i64 0,.slice none 0 0]⟩
def tiU:TI:=⟨10,120,true,3,0,0,[(0,1),(1,1),(2,8)],[.int .i64 0,.int .i64 0,.int .i64 0,.int .i64 0,.int .i64 0,.string ⟨#[]⟩,.slice none 0 0,.int .i64 0,.int .i64 0,.slice none 0 0]⟩
theorem St.write {Z H:KH} {p n c sz rn rc:Nat} {a ra:OA} {R:List Rr} {xs ys zs vs:List Value} (h:St Z H p a n c (⟨sz,ra,rn,rc,xs++ys++zs⟩ :: R)) (hy:ys.length=vs.length) (h0:0<(xs++ys++zs).length):∃ b o,ra=some ⟨b,o,none⟩/\ld H ⟨b,o+xs.length,none⟩ ys/\KH.may H b/\St Z (H.put ⟨b,o+xs.length,none⟩ vs) p a n c (⟨sz,ra,rn,rc,xs++vs++zs⟩ :: R):=by
 obtain ⟨b,o,e,f1,f2,f3,f4,_⟩:=h.r.write (vs:=vs) hy h0
 exact ⟨b,o,e,f1,f2,f3,h.e.up fun e q=>put_ne (fun z=>f4 z.symm) q⟩
abbrev T18:=Nat->Nat->Nat->OA->Nat->Nat->OA->Nat->Nat->OA->Nat->Nat->Int->OA->Nat->Nat->OA->Nat->Nat->OA->Nat->Nat->OA->Nat->Nat->Int->KH->Prop
end Go.Ew
namespace Go.Proofs.Ytefiipkfppaibaa
open Go.Ev Go.Ew
namespace Va
section
variable (ok : EnvOk (env Try.prog))
include ok
theorem c24 {Z H:KH} {p n c m:Nat} {a:OA} {R:List Rr} {Q:PQ} (hb:PkB Z a n) (h:St Z H p a n c R) (hm:0<m) (hq:∀ (x:Int) H',0<=x->x<m->St Z H' p a n c R->Q (.int .i64 x) H'):Does (env Try.prog) 24 [.pointer (some ⟨p,0,none⟩),.int .i64 ((m:Nat):Int)] H Q:=by
 obtain ⟨e,x,h1,h2,h3,h4,h5⟩:=h.e.ex
 have hn:=hb.n
 have full:ld H ⟨p,0,none⟩ [.slice a n c,.int .i64 x]:=⟨rfl,e,h1,h3⟩
 refine fn24 ok ⟨trivial,rfl,x,ldSub full 1 1 (by simp),rfl,a,n,c,ldSub full 0 1 (by simp),fun z=>hq 0 H (by omega) (by omega) h,fun z=>?_⟩
 have z:x<n:=by have:=of_decide_eq_false z; omega
 have e1:IntKind.wrap .i64 (x+1)=x+1:=wrap64 (by omega) (by omega)
 have e2:IntKind.wrap .i64 (x+1-1)=x:=by rw [wrap64 (by omega) (by omega)]; omega
 have hr:rd (wr e.cells 1 [.int .i64 (x+1)]) 0 2=some [.slice a n c,.int .i64 (x+1)]:=by
  have:=rdWr (e:=e.cells) (N:=2) (o:=1) (xs:=[.slice a n c]) (ys:=[.int .i64 x]) (zs:=[]) (vs:=[.int .i64 (x+1)]) h3 rfl rfl
  simpa using this
 have hp1:(H.put ⟨p,0+1,none⟩ [.int .i64 (x+1)]) p=some ⟨wr e.cells (0+1) [.int .i64 (x+1)],e.len,e.unk,none⟩:=put_at h1
 have full2:ld (H.put ⟨p,0+1,none⟩ [.int .i64 (x+1)]) ⟨p,0,none⟩ [.slice a n c,.int .i64 (x+1)]:=⟨rfl,_,hp1,hr⟩
 have hst:St Z (H.put ⟨p,0+1,none⟩ [.int .i64 (x+1)]) p a n c R:=⟨h.r.step fun k e' k1 q=>put_ne k1 q,⟨_,x+1,hp1,wrB_keep h2,hr,by omega,by omega⟩⟩
 obtain ⟨b,o,y,ha,hy,y1,y2⟩:=hb.b x.toNat (by omega)
 have ey:IntKind.wrap .i64 y=y:=wrap64 (by omega) (by omega)
 refine ⟨rfl,x,ldSub full 1 1 (by simp),rfl,⟨[.int .i64 x],rfl,ldSub full 1 1 (by simp)⟩,⟨e,h1,h2⟩,trivial,?_⟩
 rw [e1]
 refine ⟨rfl,a,n,c,ldSub full2 0 1 (by simp),rfl,x+1,ldSub full2 1 1 (by simp),?_⟩
 rw [e2]
 refine ⟨⟨by omega,by omega⟩,b,o,ha,y,?_,by omega,?_⟩
 .rw [Nat.mul_one]
  exact hst.r.le.ld hy
 .rw [ey]
  exact hq _ _ (Int.tmod_nonneg _ y1) (Int.tmod_lt_of_pos _ (by omega)) hst
theorem c9 {a:OA} {n c:Nat} {H:KH} {Q:PQ} (hb:PkB H a n) (hq:∀ p H',H p=none->St H H' p a n c []->Q (.pointer (some ⟨p,0,none⟩)) H'):Does (env Try.prog) 9 [.slice a n c] H Q :=
 fn9 ok fun n1 h1=>hq n1 _ h1 ⟨.nil (Le.new h1) h1,⟨mkEnt [.slice a n c,.int .i64 0] 0,0,if_pos rfl,rfl,mk_rd (cs:=[.slice a n c,.int .i64 0]) (u:=0),by omega,by omega⟩⟩
theorem c27 {k x:Int} {s:ByteArray} {a:OA} {n c:Nat} {H:KH} {Q:PQ} (hq:Q (.agg #[.int .i64 0,.int .i64 k,.int .i64 x,.string s,.slice a n c,.int .i64 0,.int .i64 0,.slice none 0 0]) H):Does (env Try.prog) 27 [.agg #[.int .i64 k,.int .i64 x,.string s,.slice a n c]] H Q:=fn27 ok hq
theorem c28 {x y:Int} {H:KH} {Q:PQ} (hq:Q (.agg #[.int .i64 1,.int .i64 0,.int .i64 0,.string ⟨#[]⟩,.slice none 0 0,.int .i64 x,.int .i64 y,.slice none 0 0]) H):Does (env Try.prog) 28 [.int .i64 x,.int .i64 y] H Q:=fn28 ok hq
theorem c29 {x:Int} {H:KH} {Q:PQ} (hq:Q (.agg #[.bool true,.int .i64 x]) H):Does (env Try.prog) 29 [.int .i64 x] H Q:=fn29 ok hq
theorem c45 {ta na pa:OA} {tn tc nc pn pc:Nat} {nts:List Nt} {x:Int} {H:KH} {Q:PQ} (hn:kold H 3 na nts.length=some (ntC nts)) (hs:∀ i (h:i<nts.length),nts[i].inh.length+nts[i].syn.length<=4) (hq:∀ (y:Int),0<=y->y<=4->Q (.int .i64 y) H):Does (env Try.prog) 45 [.agg #[.slice ta tn tc,.slice na nts.length nc,.slice pa pn pc],.int .i64 x] H Q:=by
 refine fn45 ok ⟨fun z=>hq 0 (by omega) (by omega),fun z=>⟨fun z2=>hq 0 (by omega) (by omega),fun z2=>?_⟩⟩
 have z:=of_decide_eq_false z
 have z2:=of_decide_eq_false z2
 obtain ⟨b,o,ha,r⟩:=nt_ld hn (i:=x.toNat) (by omega)
 have:=hs x.toNat (by omega)
 refine ⟨trivial,⟨by omega,by omega⟩,b,o,ha,rfl,_,_,_,ldSub r 1 1 (by simp),⟨by omega,by omega⟩,b,o,ha,rfl,_,_,_,ldSub r 2 1 (by simp),?_⟩
 rw [wrap64 (by omega) (by omega)]
 exact hq _ (by omega) (by omega)
theorem c46 {ta na pa:OA} {tn tc nc pn pc:Nat} {nts:List Nt} {x y:Int} {H:KH} {Q:PQ} (hn:kold H 3 na nts.length=some (ntC nts)) (hq:∀ b,Q (.bool b) H):Does (env Try.prog) 46 [.agg #[.slice ta tn tc,.slice na nts.length nc,.slice pa pn pc],.int .i64 x,.int .i64 y] H Q:=by
 refine fn46 ok ⟨fun z=>⟨fun z2=>⟨fun z3=>?_,fun _=>hq _⟩,fun _=>hq _⟩,fun _=>hq _⟩
 have z:=of_decide_eq_true z
 have z2:=of_decide_eq_true z2
 obtain ⟨b,o,ha,r⟩:=nt_ld hn (i:=x.toNat) (by omega)
 exact ⟨⟨by omega,by omega⟩,b,o,ha,rfl,_,_,_,ldSub r 1 1 (by simp),hq _⟩
theorem l18 {Z H:KH} {p n c:Nat} {a:OA} {nts:List Nt} {na:OA} {right:List Sy} {occ:Nat} {nt:Int} (hb:PkB Z a n) (hn:kold Z 3 na nts.length=some (ntC nts)) (hs:∀ i (h:i<nts.length),nts[i].inh.length+nts[i].syn.length<=4) (ho:occ<=100)
 {a6 a12 a16 a19 a22 a25:OA} {n7 n8 n11 n13 n14 n17 n18 n20 n21 n23 n24 n26 n27:Nat} {x15:Int} {os:List Value} {ins:List Xi} (h:St Z H p a n c [⟨10,a22,n23,n24,os⟩,⟨8,a25,n26,n27,exC ins⟩]) (hc:n23+n26<=5*occ) {k0:Nat} (hk:0<k0) {cont:T18}
 (hq:∀ a22 n23 n24 a25 n26 n27 os ins H',St Z H' p a n c [⟨10,a22,n23,n24,os⟩,⟨8,a25,n26,n27,exC ins⟩]->n23+n26<=5*(occ+1)->cont (k0-1) p 0 a6 n7 n8 na nts.length n11 a12 n13 n14 x15 a16 n17 n18 a19 n20 n21 a22 n23 n24 a25 n26 n27 ((occ+1:Nat):Int) H') :
 vc26_L1 p 0 a6 n7 n8 na nts.length n11 a12 n13 n14 x15 a16 n17 n18 a19 n20 n21 a22 n23 n24 a25 n26 n27 ((occ:Nat):Int) nt H k0 cont:=by
 unfold vc26_L1
 refine ⟨fun k n4 n5 b6 m7 m8 a9 n10 m11 b12 m13 m14 y15 b16 m17 m18 b19 m20 m21 a22 n23 n24 a25 n26 n27 x28 x29 x30 H=>n4=p/\n5=0/\b6=a6/\m7=n7/\m8=n8/\a9=na/\n10=nts.length/\m11=n11/\b12=a12/\m13=n13/\m14=n14/\y15=x15/\b16=a16/\m17=n17/\m18=n18/\b19=a19/\m20=n20/\m21=n21/\x28=occ/\x29=nt/\∃ j:Nat,x30=j/\j<=4/\k=4-j/\n23+n26<=5*occ+j/\∃ os ins,St Z H p a n c [⟨10,a22,n23,n24,os⟩,⟨8,a25,n26,n27,exC ins⟩],⟨4,rfl,rfl,rfl,rfl,rfl,rfl,rfl,rfl,rfl,rfl,rfl,rfl,rfl,rfl,rfl,rfl,rfl,rfl,rfl,rfl,rfl,0,rfl,by omega,rfl,by omega,os,ins,h⟩,?_⟩
 rintro k n4 n5 b6 m7 m8 a9 n10 m11 b12 m13 m14 y15 b16 m17 m18 b19 m20 m21 a22 n23 n24 a25 n26 n27 x28 x29 x30 H ⟨rfl,rfl,rfl,rfl,rfl,rfl,rfl,rfl,rfl,rfl,rfl,rfl,rfl,rfl,rfl,rfl,rfl,rfl,rfl,rfl,j,rfl,hj,rfl,hc,os,ins,h⟩
 have hj1:IntKind.wrap .i64 (((j:Nat):Int)+1)=((j+1:Nat):Int):=by rw [wrap64 (by omega) (by omega)]; omega
 refine c45 ok (h.r.le.kold hn) hs fun y y0 y4=>⟨y,rfl,fun z=>?_,fun z=>?_⟩
 .have z:=of_decide_eq_true z
  unfold vc26_J0
  refine c46 ok (h.r.le.kold hn) fun b=>⟨b,rfl,fun _=>c28 ok ⟨_,_,_,_,_,_,_,_,_,_,_,_,rfl,fun n18 h18 n19 h19=>⟨_,_,knew_of (ti:=tiX) (lit_kold (if_pos rfl) rfl),?_⟩⟩,fun _=>fun n27 h27 n28 h28=>⟨_,_,knew_of (ti:=tiU) (lit_kold (if_pos rfl) rfl),?_⟩⟩
  .obtain ⟨a5,c5,H5,f1,f2⟩:=((h.new h18).perm (.swap _ _ _)).app (ti:=tiX) (nm:=n19) (m:=1) (new:=xiC ⟨1,0,0,⟨#[]⟩,none,0,0,((occ:Nat):Int),((j:Nat):Int),none,0,0⟩) h19 rfl rfl (by show n26+1<=_; omega) (by decide) (by decide)
   refine ⟨a5,_,c5,H5,f1,4-(j+1),by omega,rfl,rfl,rfl,rfl,rfl,rfl,rfl,rfl,rfl,rfl,rfl,rfl,rfl,rfl,rfl,rfl,rfl,rfl,rfl,rfl,rfl,j+1,hj1,by omega,rfl,by show n23+(n26+1)<=_; omega,os,ins++[⟨1,0,0,⟨#[]⟩,none,0,0,((occ:Nat):Int),((j:Nat):Int),none,0,0⟩],?_⟩
   rw [exC_app]
   exact f2.perm (.swap _ _ _)
  .obtain ⟨a5,c5,H5,f1,f2⟩:=(h.new h27).app (ti:=tiU) (nm:=n28) (m:=1) (new:=[.int .i64 ((occ:Nat):Int),.int .i64 ((j:Nat):Int),.int .i64 0,.int .i64 0,.int .i64 0,.string ⟨#[]⟩,.slice none 0 0,.int .i64 0,.int .i64 0,.slice none 0 0]) h28 rfl rfl (by show n23+1<=_; omega) (by decide) (by decide)
   exact ⟨a5,_,c5,H5,f1,4-(j+1),by omega,rfl,rfl,rfl,rfl,rfl,rfl,rfl,rfl,rfl,rfl,rfl,rfl,rfl,rfl,rfl,rfl,rfl,rfl,rfl,rfl,rfl,j+1,hj1,by omega,rfl,by show (n23+1)+n26<=_; omega,_,ins,f2⟩
 .have ho1:IntKind.wrap .i64 (((occ:Nat):Int)+1)=((occ+1:Nat):Int):=by rw [wrap64 (by omega) (by omega)]; omega
  rw [ho1]
  exact ⟨k0-1,by omega,rfl,hq _ _ _ _ _ _ os ins _ h (by omega)⟩
theorem c26 {Z H:KH} {p n c:Nat} {a:OA} {nts:List Nt} {na ra ta pa ua:OA} {tn tc nc pn pc rc un uc:Nat} {right:List Sy} {left:Int} {Q:PQ} (hb:PkB Z a n) (h:St Z H p a n c []) (hn:kold Z 3 na nts.length=some (ntC nts)) (hs:∀ i (h:i<nts.length),nts[i].inh.length+nts[i].syn.length<=4) (hr:kold Z 2 ra right.length=some (syC right)) (hrl:right.length<=50)
 (hq:∀ a' n' c' H',St Z H' p a n c []->Q (.slice a' n' c') H'):Does (env Try.prog) 26 [.pointer (some ⟨p,0,none⟩),.agg #[.slice ta tn tc,.slice na nts.length nc,.slice pa pn pc],.agg #[.int .i64 left,.slice ra right.length rc,.slice ua un uc]] H Q:=by
 refine fn26 ok ?_
 show vc26_L9 _ _ _ _ _ _ _ _ _ _ _ _ _ _ _ _ _ _ _ _
 unfold vc26_L9
 refine ⟨fun k n4 n5 a6 n7 n8 a9 n10 n11 a12 n13 n14 x15 a16 n17 n18 a19 n20 n21 a22 n23 n24 a25 n26 n27 x28 H=>n4=p/\n5=0/\a9=na/\n10=nts.length/\a16=ra/\n17=right.length/\∃ occ:Nat,x28=occ/\occ<=right.length+1/\k=right.length+1-occ/\n23+n26<=5*occ/\∃ os ins,St Z H p a n c [⟨10,a22,n23,n24,os⟩,⟨8,a25,n26,n27,exC ins⟩],⟨_,rfl,rfl,rfl,rfl,rfl,rfl,rfl,0,rfl,by omega,rfl,by omega,[],[],h.none_.none_⟩,?_⟩
 rintro k n4 n5 a6 n7 n8 a9 n10 n11 a12 n13 n14 x15 a16 n17 n18 a19 n20 n21 a22 n23 n24 a25 n26 n27 x28 H ⟨rfl,rfl,rfl,rfl,rfl,rfl,occ,rfl,hocc,rfl,hc,os,ins,h⟩
 refine ⟨fun z=>?_,fun z=>?_⟩
 .have z:occ<=right.length:=by have:=of_decide_eq_true z; omega
  have ho1:IntKind.wrap .i64 (((occ:Nat):Int)+1)=((occ+1:Nat):Int):=by rw [wrap64 (by omega) (by omega)]; omega
  have L:∀ nt,vc26_L1 n4 0 a6 n7 n8 a9 nts.length n11 a12 n13 n14 x15 a16 right.length n18 a19 n20 n21 a22 n23 n24 a25 n26 n27 ((occ:Nat):Int) nt H (right.length+1-occ) (fun k n4' n5 a6 n7 n8 a9' n10 n11 a12 n13 n14 x15 a16' n17 n18 a19 n20 n21 a22 n23 n24 a25 n26 n27 x28 H=>n4'=n4/\n5=0/\a9'=a9/\n10=nts.length/\a16'=a16/\n17=right.length/\∃ occ:Nat,x28=occ/\occ<=right.length+1/\k=right.length+1-occ/\n23+n26<=5*occ/\∃ os ins,St Z H n4 a n c [⟨10,a22,n23,n24,os⟩,⟨8,a25,n26,n27,exC ins⟩]):=fun nt =>
   l18 ok (right:=right) hb hn hs (by omega) h hc (by omega) fun a22 n23 n24 a25 n26 n27 os ins H' h' hc'=>⟨rfl,rfl,rfl,rfl,rfl,rfl,occ+1,rfl,by omega,by omega,hc',os,ins,h'⟩
  refine ⟨fun z2=>?_,fun z2=>L x15⟩
  have z2:0<occ:=by have:=of_decide_eq_true z2; omega
  have em:IntKind.wrap .i64 (((occ:Nat):Int)-1)=((occ-1:Nat):Int):=by rw [wrap64 (by omega) (by omega)]; omega
  have et:Int.toNat ((occ-1:Nat):Int)=occ-1:=by omega
  obtain ⟨b0,o0,ha,r0⟩:=sy_ld (h.r.le.kold hr) (i:=occ-1) (by omega)
  rw [em,et]
  refine ⟨⟨by omega,by omega⟩,b0,o0,ha,rfl,_,ldSub r0 1 1 (by simp),⟨by omega,by omega⟩,b0,o0,ha,rfl,_,ldSub r0 0 1 (by simp),fun _=>fun n7' h7 n8' h8=>⟨_,_,knew_of (ti:=tiX) (lit_kold (if_pos rfl) rfl),?_⟩,fun _=>L _⟩
  obtain ⟨a5,c5,H5,f1,f2⟩:=((h.new h7).perm (.swap _ _ _)).app (ti:=tiX) (nm:=n8') (m:=1) (new:=xiC ⟨2,0,0,⟨#[]⟩,none,0,0,((occ:Nat):Int),0,none,0,0⟩) h8 rfl rfl (by show n26+1<=_; omega) (by decide) (by decide)
  refine ⟨a5,_,c5,H5,f1,right.length+1-(occ+1),by omega,rfl,rfl,rfl,rfl,rfl,rfl,rfl,occ+1,ho1,by omega,rfl,by show n23+(n26+1)<=_; omega,os,ins++[⟨2,0,0,⟨#[]⟩,none,0,0,((occ:Nat):Int),0,none,0,0⟩],?_⟩
  rw [exC_app]
  exact f2.perm (.swap _ _ _)
 .clear z hn hr hs
  obtain ⟨Z',hZ,h',hin⟩:=(h.perm (.swap _ _ _)).freeze
  clear h
  have h:=h'
  clear h'
  have hin:kold Z' 8 a25 n26=some (exC ins):=hin
  have el:n26=ins.length:=len_of (k:=8) (f:=xiC) (fun _=>rfl) (by decide) hin
  subst el
  have hb:=hb.up hZ
  have hq:∀ a' n' c' H',St Z' H' n4 a n c []->Q (.slice a' n' c') H':=fun a' n' c' H' s=>hq a' n' c' H' ⟨s.r.base (hZ.trans s.r.le) (hZ.none s.r.zp) (fun r q=>by cases q),s.e⟩
  have hn23:n23<=1000:=by omega
  clear hc hrl hocc hZ
  unfold vc26_L8
  refine ⟨fun k m4 n5 a6 n7 n8 a9 n10 n11 x12 H13=>m4=n4/\n5=0/\a6=a22/\n7=n23/\n8=n24/\a9=a25/\n10=ins.length/\∃ i:Nat,x12=i/\i<=n23/\k=n23-i/\∃ os,St Z' H13 n4 a n c [⟨10,a22,n23,n24,os⟩],⟨_,rfl,rfl,rfl,rfl,rfl,rfl,rfl,rfl,0,rfl,by omega,rfl,os,h⟩,?_⟩
  clear h
  rintro k m4 n5 a6 n7 n8 a9 n10 n11 x12 H13 ⟨rfl,rfl,rfl,rfl,rfl,rfl,rfl,i,rfl,hi,rfl,os,h⟩
  refine ⟨fun z=>?_,fun z=>hq _ _ _ _ h.tail⟩
  have hlt:i<n7:=by have:=of_decide_eq_true z; omega
  have e0:Int.toNat ((i:Nat):Int)=i:=by omega
  have hi1:IntKind.wrap .i64 (((i:Nat):Int)+1)=((i+1:Nat):Int):=by rw [wrap64 (by omega) (by omega)]; omega
  refine c24 ok (m:=5) hb h (by decide) fun x3 H2 x30 x31 h=>⟨x3,rfl,c27 ok ⟨_,_,_,_,_,_,_,_,_,_,_,_,rfl,c24 ok (m:=3) hb h (by decide) fun x20 H19 x0 x1 h=>⟨x20,rfl,?_⟩⟩⟩
  unfold vc26_L6
  refine ⟨fun k m4' n5 a6' n7' n8' a9' n10 n11 x12 x13 x14 x15 s16 a17 n18 n19 x20 x21 a22 n23 n24 x25 H26=>m4'=m4/\n5=0/\a6'=a6/\n7'=n7/\n8'=n8/\a9'=a9/\n10=ins.length/\x12=i/\0<=x25/\x25<=3/\k=x25.toNat/\∃ os,St Z' H26 m4 a n c [⟨10,a6,n7,n8,os⟩],⟨_,rfl,rfl,rfl,rfl,rfl,rfl,rfl,rfl,rfl,x0,by omega,rfl,os,h⟩,?_⟩
  clear h
  rintro k m4' n5 a6' n7' n8' a9' n10 n11' x12 x13 x14 x15 s16 a17 n18 n19 x20 x21 a22 n23 n24 x25 H26 ⟨rfl,rfl,rfl,rfl,rfl,rfl,rfl,rfl,w0,w3,rfl,os,h⟩
  have J:∀ n11',vc26_J5 ((i:Nat):Int) n7' a6' x13 x14 x15 s16 a17 n18 n19 x20 x21 a22 n23 n24 H26 (n7'-i) (fun k m4 n5 a6 n7 n8 a9 n10 n11 x12 H13=>m4=m4'/\n5=0/\a6=a6'/\n7=n7'/\n8=n8'/\a9=a9'/\n10=ins.length/\∃ i:Nat,x12=i/\i<=n7'/\k=n7'-i/\∃ os,St Z' H13 m4' a n c [⟨10,a6',n7',n8',os⟩]) m4' 0 n8' a9' ins.length n11':=fun n11'=>by
   unfold vc26_J5
   have hol:=kold_len h.r.head.row
   have hol:os.length=n7'*10:=hol
   have hsp:os=os.take (i*10+2)++(os.drop (i*10+2)).take 8++os.drop (i*10+10):=by
    rw [List.append_assoc,show os.drop (i*10+10)=(os.drop (i*10+2)).drop 8 by rw [List.drop_drop],List.take_append_drop,List.take_append_drop]
   have l1:(os.take (i*10+2)).length=i*10+2:=by rw [List.length_take]; omega
   have l2:((os.drop (i*10+2)).take 8).length=8:=by rw [List.length_take,List.length_drop]; omega
   rw [hsp] at h
   obtain ⟨b,o,ea,f1,f2,f3⟩:=h.write (vs:=[.int .i64 x13,.int .i64 x14,.int .i64 x15,.string s16,.slice a17 n18 n19,.int .i64 x20,.int .i64 x21,.slice a22 n23 n24]) l2 (by rw [<- hsp]; omega)
   rw [l1,<- Nat.add_assoc] at f1 f3
   rw [e0,hi1]
   exact ⟨⟨by omega,by omega⟩,b,o,ea,rfl,⟨_,l2,f1⟩,f2,n7'-(i+1),by omega,rfl,rfl,rfl,rfl,rfl,rfl,rfl,rfl,i+1,rfl,by omega,rfl,_,f3⟩
  refine ⟨fun z=>⟨fun z2=>⟨trivial,fun n1 h1=>?_⟩,fun _=>J _⟩,fun _=>J _⟩
  clear J
  have z:=of_decide_eq_true z
  have z2:0<ins.length:=by have:=of_decide_eq_true z2; omega
  rw [hide_new h1]
  refine c24 ok (m:=4) hb h (by decide) fun x4 H3 x40 x41 h=>⟨x4,rfl,fun h3=>⟨⟨rfl,rfl,rfl,rfl,rfl,trivial⟩,⟨by omega,by omega⟩,n1,0,rfl,?_⟩⟩
  rw [back_new,hide_new h3]
  have hl:∀ H:KH,kold (H.new n1 (mkEnt [.int .i64 4,.int .i64 7,.int .i64 13,.int .i64 14] 0)) 1 (some ⟨n1,0,none⟩) ([4,7,13,14]:List Int).length=some (inC [4,7,13,14]):=fun H=>lit_kold (if_pos rfl) rfl
  obtain ⟨b2,o2,e2,r2⟩:=in_ld (hl H3) (i:=x4.toNat) (by show _<4; omega)
  cases e2
  refine ⟨_,r2,c24 ok (m:=ins.length) hb h z2 fun x10 H9 x100 x101 h=>⟨x10,rfl,fun h9=>?_⟩⟩
  rw [back_new]
  obtain ⟨b3,o3,e3,r3⟩:=in_ld (hl H9) (i:=x4.toNat) (by show _<4; omega)
  cases e3
  obtain ⟨b4,o4,e4,r4⟩:=ex_ld ((h.new (E:=mkEnt [.int .i64 4,.int .i64 7,.int .i64 13,.int .i64 14] 0) h9).r.le.kold hin) (i:=x10.toNat) (by omega)
  have ew:IntKind.wrap .i64 (x25-1)=x25-1:=wrap64 (by omega) (by omega)
  refine ⟨⟨⟨⟨by omega,by omega⟩,n1,0,rfl,rfl⟩,⟨_,r3,rfl⟩,rfl,rfl,trivial⟩,⟨by omega,by omega⟩,b4,o4,e4,_,_,_,_,_,_,_,_,_,_,_,_,r4,fun n28 h28=>⟨trivial,(x25-1).toNat,by omega,rfl,rfl,rfl,rfl,rfl,rfl,rfl,rfl,rfl,?_⟩⟩
  rw [ew]
  exact ⟨by omega,by omega,rfl,os,(h.new h9).new h28⟩
end
end Va
end Go.Proofs.Ytefiipkfppaibaa
namespace Go.Ew
open Go.Ev Go.Deep
def tiT:TI:=⟨3,40,true,3,0,0,[(0,1),(1,1),(2,1)],[.string ⟨#[]⟩,.string ⟨#[]⟩,.bool false]⟩
def tiN:TI:=⟨3,64,true,3,0,0,[(0,1),(1,1),(2,1)],[.string ⟨#[]⟩,.slice none 0 0,.slice none 0 0]⟩
def tiP:TI:=⟨3,56,true,3,0,0,[(0,1),(1,1),(2,1)],[.int .i64 0,.slice none 0 0,.slice none 0 0]⟩
def tiY:TI:=⟨2,16,true,3,0,0,[(0,1),(1,1)],[.bool false,.int .i64 0]⟩
def IJ:List ByteArray:=[⟨#[105]⟩,⟨#[106]⟩]
def SU:List ByteArray:=[⟨#[115]⟩,⟨#[117]⟩]
def byN (i:Nat):UInt8:=(97+i).toUInt8
def nmT (i:Nat):ByteArray:=⟨#[116,byN i]⟩
def nmN (i:Nat):ByteArray:=⟨#[110,byN i]⟩
def tkN (i:Nat):Tk:=⟨nmT i,⟨[byN i].toArray⟩,false⟩
theorem catT (u:UInt8):(⟨#[116]⟩:ByteArray)++⟨[u].toArray⟩=⟨#[116,u]⟩:=ByteArray.ext (by simp [ByteArray.data_append])
theorem catN (i:Nat):(⟨#[110]⟩:ByteArray)++⟨[byN i].toArray⟩=nmN i:=ByteArray.ext (by simp [ByteArray.data_append,nmN])
theorem by_cells {i:Nat} (h:i<5):bytesOfCells [.int .u8 (IntKind.wrap .u8 (IntKind.wrap .i64 (97+((i:Nat):Int))))]=some [byN i]:=by
 match i,h with
 | 0,_=>rfl
 | 1,_=>rfl
 | 2,_=>rfl
 | 3,_=>rfl
 | 4,_=>rfl
theorem app_all {α:Type} {P:Nat->α->Prop} {l:List α} {x:α} (h:∀ i (hi:i<l.length),P i l[i]) (hx:P l.length x):∀ i (hi:i<(l++[x]).length),P i (l++[x])[i]:=fun i hi=>by
 by_cases e:i<l.length
 .rw [List.getElem_append_left e]; exact h i e
 .have:i=l.length:=by simp at hi; omega
  subst this
  simpa using hx
theorem NtsI.app {H:KH} {l:List Nt} {x:Nt} (h:NtsI H l) (h1:kold H 1 x.ia x.inh.length=some (sC x.inh)) (h2:kold H 1 x.sa x.syn.length=some (sC x.syn)):NtsI H (l++[x]):=fun i hi=>app_all (P:=fun _ (x:Nt)=>kold H 1 x.ia x.inh.length=some (sC x.inh)/\kold H 1 x.sa x.syn.length=some (sC x.syn)) h ⟨h1,h2⟩ i hi
theorem PrsI.appK {H:KH} {l:List Pr} {x:Pr} (h:PrsI H l) (h1:kold H 2 x.ra x.right.length=some (syC x.right)) (h2:CutI H x.ra x.rc x.right):PrsI H (l++[x]):=fun i hi=>app_all (P:=fun _ (x:Pr)=>kold H 2 x.ra x.right.length=some (syC x.right)/\CutI H x.ra x.rc x.right) h ⟨h1,h2⟩ i hi
theorem PrsI.app {H:KH} {l:List Pr} {x:Pr} (h:PrsI H l) (h1:Gs H 2 x.ra x.right.length x.rc (syC x.right)):PrsI H (l++[x]):=fun i hi=>app_all (P:=fun _ (x:Pr)=>kold H 2 x.ra x.right.length=some (syC x.right)/\CutI H x.ra x.rc x.right) h ⟨h1.row,.grown h1⟩ i hi
structure MadeN (i:Nat) (x:Nt):Prop where
 a:x.name=nmN i
 b:∃ u,x.inh=IJ.take u
 c:∃ v,x.syn=SU.take v
def nameB (s:ByteArray):Bool:=decide (1<=s.size)&&decide (s.size<=8)&&(List.range s.size).all fun i=>(decide (97<=byteAt s i)&&decide (byteAt s i<=122))||(decide (0<i)&&decide (48<=byteAt s i)&&decide (byteAt s i<=57))
theorem nameB_ok {s:ByteArray} (h:nameB s=true):NameOk s:=by
 unfold nameB at h
 simp only [Bool.and_eq_true,decide_eq_true_eq,List.all_eq_true,List.mem_range,Bool.or_eq_true] at h
 obtain ⟨⟨h1,h2⟩,h3⟩:=h
 exact ⟨h1,h2,fun i hi=>by
  rcases h3 i hi with q | ⟨⟨q1,q2⟩,q3⟩
  .exact .inl q
  .exact .inr ⟨q1,q2,q3⟩⟩
def namesB (l:List ByteArray):Bool:=l.all nameB&&(List.range l.length).all fun i=>(List.range i).all fun j=>!(strEq ((l[i]?).getD ⟨#[]⟩) ((l[j]?).getD ⟨#[]⟩))
theorem namesB_ok {l:List ByteArray} (h:namesB l=true):NamesOk l:=by
 unfold namesB at h
 simp only [Bool.and_eq_true,List.all_eq_true,List.mem_range] at h
 refine ⟨fun i hi=>nameB_ok (h.1 _ (List.getElem_mem hi)),fun i hi j hj e=>?_⟩
 have:=h.2 i hi j hj
 rw [List.getElem?_eq_getElem hi,List.getElem?_eq_getElem (by omega:j<l.length),Option.getD_some,Option.getD_some,strEq_iff.2 e] at this
 cases this
theorem names_made {t n:Nat} (ht:t<=3) (hn:n<=4):NamesOk ((List.range t).map nmT++(List.range n).map nmN):=by
 apply namesB_ok
 match t,ht,n,hn with
 | 0,_,0,_=>decide +kernel
 | 0,_,1,_=>decide +kernel
 | 0,_,2,_=>decide +kernel
 | 0,_,3,_=>decide +kernel
 | 0,_,4,_=>decide +kernel
 | 1,_,0,_=>decide +kernel
 | 1,_,1,_=>decide +kernel
 | 1,_,2,_=>decide +kernel
 | 1,_,3,_=>decide +kernel
 | 1,_,4,_=>decide +kernel
 | 2,_,0,_=>decide +kernel
 | 2,_,1,_=>decide +kernel
 | 2,_,2,_=>decide +kernel
 | 2,_,3,_=>decide +kernel
 | 2,_,4,_=>decide +kernel
 | 3,_,0,_=>decide +kernel
 | 3,_,1,_=>decide +kernel
 | 3,_,2,_=>decide +kernel
 | 3,_,3,_=>decide +kernel
 | 3,_,4,_=>decide +kernel
theorem attrs_made (u v:Nat):NamesOk (IJ.take u++SU.take v):=by
 apply namesB_ok
 have e:∀ (l:List ByteArray) (u:Nat),l.length=2->l.take u=l.take (min u 2):=fun l u h=>by rw [<- h,<- List.take_take,List.take_length]
 rw [e IJ u rfl,e SU v rfl]
 have h1:min u 2<=2:=Nat.min_le_right _ _
 have h2:min v 2<=2:=Nat.min_le_right _ _
 generalize min u 2=u at *
 generalize min v 2=v at *
 match u,h1,v,h2 with
 | 0,_,0,_=>decide +kernel
 | 0,_,1,_=>decide +kernel
 | 0,_,2,_=>decide +kernel
 | 1,_,0,_=>decide +kernel
 | 1,_,1,_=>decide +kernel
 | 1,_,2,_=>decide +kernel
 | 2,_,0,_=>decide +kernel
 | 2,_,1,_=>decide +kernel
 | 2,_,2,_=>decide +kernel
theorem MadeN.few {i:Nat} {x:Nt} (h:MadeN i x):x.inh.length+x.syn.length<=4:=by
 obtain ⟨u,hu⟩:=h.b
 obtain ⟨v,hv⟩:=h.c
 rw [hu,hv,List.length_take,List.length_take]
 show min u 2+min v 2<=4
 omega
theorem MadeN.ok {i:Nat} {x:Nt} (h:MadeN i x):AttrsOk x:=⟨h.few,by
 obtain ⟨u,hu⟩:=h.b
 obtain ⟨v,hv⟩:=h.c
 rw [hu,hv]
 exact attrs_made u v⟩
theorem MadeN.names {l:List Nt} (h:∀ i (hi:i<l.length),MadeN i l[i]):l.map Nt.name=(List.range l.length).map nmN:=List.ext_getElem (by simp) fun i h1 h2=>by
 have hi:i<l.length:=by simpa using h1
 simp [(h i hi).a]
theorem MayG.few {g:Gm} (h:MayG g):Few g:=by
 obtain ⟨h1,h2,h3,h4,h5,h6⟩:=h
 have hsz:∀ s∈namesG g,s.size<=140737488355328:=fun s hs=>by
  obtain ⟨i,hi,rfl⟩:=List.mem_iff_getElem.1 hs
  have:=(h4.a i hi).b
  omega
 have hat:∀ i (hi:i<g.nts.length),∀ s∈g.nts[i].inh++g.nts[i].syn,s.size<=140737488355328:=fun i hi s hs=>by
  obtain ⟨j,hj,rfl⟩:=List.mem_iff_getElem.1 hs
  have:=((h5 i hi).b.a j hj).b
  omega
 refine ⟨by omega,by omega,by omega,fun i hi=>hsz _ (List.mem_append_left _ (List.mem_map.2 ⟨_,List.getElem_mem hi,rfl⟩)),fun i hi=>⟨hsz _ (List.mem_append_right _ (List.mem_map.2 ⟨_,List.getElem_mem hi,rfl⟩)),?_,?_,fun s hs=>hat i hi s (List.mem_append_left _ hs),fun s hs=>hat i hi s (List.mem_append_right _ hs)⟩,fun i hi=>?_⟩
 .have:=(h5 i hi).a; omega
 .have:=(h5 i hi).a; omega
 .have:=(h6 i hi).b; omega
def rowT (g:Gm):Rr:=⟨3,g.ta,g.toks.length,g.tc,tkC g.toks⟩
def rowN (g:Gm):Rr:=⟨3,g.na,g.nts.length,g.nc,ntC g.nts⟩
def rowP (g:Gm):Rr:=⟨3,g.pa,g.prods.length,g.pc,prC g.prods⟩
end Go.Ew
namespace Go.Proofs.Ytefiipkfppaibaa
open Go.Ev Go.Ew
namespace Va
section
variable (ok : EnvOk (env Try.prog))
include ok
theorem c10s {Z H:KH} {p n c:Nat} {a:OA} {Q:PQ} (hb:PkB Z a n) (h:St Z H p a n c [])
 (hq:∀ g Z' H',Le Z Z'->St Z' H' p a n c [rowP g,rowN g,rowT g]->NtsI Z' g.nts->PrsI Z' g.prods->MayG g->(∀ t∈g.toks,t.skip=false)->Q (gv g) H'):Does (env Try.prog) 10 [.pointer (some ⟨p,0,none⟩)] H Q:=by
 refine fn10 ok (c24 ok (m:=3) hb h (by decide) fun x3 H2 x30 x31 h=>⟨x3,rfl,?_⟩)
 have e1:IntKind.wrap .i64 (x3+1)=(((x3+1).toNat:Nat):Int):=by rw [wrap64 (by omega) (by omega)]; omega
 unfold vc10_L11
 rw [e1]
 refine ⟨fun k n4 n5 a6 n7 n8 a9 n10 n11 a12 n13 n14 a15 n16 n17 a18 n19 n20 a21 n22 n23 x24 H25=>n4=p/\n5=0/\a18=none/\n19=0/\n20=0/\a21=none/\n22=0/\n23=0/\∃ i m:Nat,x24=m/\k=m/\n16=i/\i+m<=3/\1<=i+m/\St Z H25 p a n c [⟨3,a15,n16,n17,tkC ((List.range i).map tkN)⟩],⟨(x3+1).toNat,rfl,rfl,rfl,rfl,rfl,rfl,rfl,rfl,rfl,0,(x3+1).toNat,rfl,rfl,rfl,by omega,by omega,h.none_⟩,?_⟩
 clear h
 rintro k n4 n5 a6 n7 n8 a9 n10 n11 a12 n13 n14 a15 n16 n17 a18 n19 n20 a21 n22 n23 x24 H25 ⟨rfl,rfl,rfl,rfl,rfl,rfl,rfl,rfl,i,m,rfl,rfl,rfl,hi,hi1,h⟩
 refine ⟨fun z=>?_,fun z=>?_⟩
 .have z:0<k:=by have:=of_decide_eq_true z; omega
  intro n1 h1
  refine ⟨_,_,lit_kold (if_pos rfl) rfl,by_cells (by omega),by show 1+1<=1000000; omega,?_⟩
  rw [catT]
  refine fun n4' h4 n5' h5=>⟨_,_,knew_of (ti:=tiT) (lit_kold (if_pos rfl) rfl),?_⟩
  obtain ⟨a8,c9,H11,f1,f2⟩:=((h.new h1).new h4).app (ti:=tiT) (nm:=n5') (m:=1) (new:=[.string ⟨#[116,byN n16]⟩,.string ⟨[byN n16].toArray⟩,.bool false]) h5 rfl rfl (by show n16+1<=_; omega) (by decide) (by decide)
  have ew:IntKind.wrap .i64 (((k:Nat):Int)-1)=((k-1:Nat):Int):=by rw [wrap64 (by omega) (by omega)]; omega
  refine ⟨a8,_,c9,H11,f1,k-1,by omega,rfl,rfl,rfl,rfl,rfl,rfl,rfl,rfl,rfl,n16+1,k-1,ew,rfl,rfl,by omega,by omega,?_⟩
  have e:tkC ((List.range (n16+1)).map tkN)=tkC ((List.range n16).map tkN)++[.string ⟨#[116,byN n16]⟩,.string ⟨[byN n16].toArray⟩,.bool false]:=by
   rw [List.range_succ,List.map_append]
   unfold tkC
   rw [List.flatMap_append]; rfl
  rw [e]
  exact f2
 have z:k=0:=by have:=of_decide_eq_false z; omega
 subst z
 clear z e1 x30 x31
 refine c24 ok (m:=4) hb h (by decide) fun x28 H27 x280 x281 h=>⟨x28,rfl,?_⟩
 have hT:1<=n16/\n16<=3:=by omega
 clear hi hi1
 generalize hts:(List.range n16).map tkN=toks at h
 have hTl:toks.length=n16:=by rw [<- hts]; simp
 subst hTl
 have e1:IntKind.wrap .i64 (x28+1)=(((x28+1).toNat:Nat):Int):=by rw [wrap64 (by omega) (by omega)]; omega
 unfold vc10_L10
 rw [e1]
 refine ⟨fun k m4 n5 a6 n7 n8 a9 n10 n11 a12 n13 n14 b15 n16 m17 a18 n19 n20 a21 n22 n23 x24 H25=>m4=n4/\n5=0/\b15=a15/\n16=toks.length/\m17=n17/\a21=none/\n22=0/\n23=0/\∃ nts,∃ m:Nat,x24=m/\k=m/\n19=nts.length/\nts.length+m<=4/\1<=nts.length+m/\(∀ i (h:i<nts.length),MadeN i nts[i])/\∃ Z',Le Z Z'/\St Z' H25 n4 a n c [⟨3,a18,n19,n20,ntC nts⟩,⟨3,a15,toks.length,n17,tkC toks⟩]/\NtsI Z' nts,⟨(x28+1).toNat,rfl,rfl,rfl,rfl,rfl,rfl,rfl,rfl,rfl,[],(x28+1).toNat,rfl,rfl,rfl,by show 0+_<=4; omega,by show 1<=0+_; omega,fun i h=>absurd h (by simp),Z,Le.refl Z,h.none_,fun i h=>absurd h (by simp)⟩,?_⟩
 clear h
 rintro k m4 n5 a6 n7 n8 a9 n10 n11 a12 n13 n14 b15 n16 m17 a18 n19 n20 a21 n22 n23 x24 H25 ⟨rfl,rfl,rfl,rfl,rfl,rfl,rfl,rfl,nts,m,rfl,rfl,rfl,hi,hi1,hmd,Z',hZ,h,hni⟩
 refine ⟨fun z=>?_,fun z=>?_⟩
 .have m:Nat:=k
  have z:0<k:=by have:=of_decide_eq_true z; omega
  clear m
  generalize k=m at *
  refine fun n1 h1=>⟨_,_,lit_kold (if_pos rfl) rfl,by_cells (by omega),by show 1+1<=1000000; omega,fun _=>fun n4' h4=>?_,fun _=>?_⟩
  .skip
   obtain ⟨S1,q1⟩:=(h.new (E:=mkEnt [.int .u8 (IntKind.wrap .u8 (IntKind.wrap .i64 (97+((nts.length:Nat):Int))))] 0) h1).grow (E:=mkEnt (sC IJ) 0) h4
   refine c24 ok (m:=3) (hb.up (hZ.trans q1)) S1 (by decide) fun x7 H6 x70 x71 S2=>⟨x7,rfl,?_⟩
   obtain ⟨u,rfl⟩:∃ u:Nat,x7=u:=⟨x7.toNat,by omega⟩
   have hu:u<=2:=by omega
   have eu:(IJ.take u).length=u:=by rw [List.length_take]; show min u 2=u; omega
   obtain ⟨a8,c9,k1,k1'⟩:=cut_lo (H:=Z'.new n4' (mkEnt (sC IJ) 0)) (sz:=1) (n:=2) (c:=2) (a:=some ⟨n4',0,none⟩) (cs:=sC IJ) (k:=u) (.inl ⟨rfl,2,rfl,Nat.le_refl _⟩) (lit_kold (if_pos rfl) rfl) hu
   have k1':kold (Z'.new n4' (mkEnt (sC IJ) 0)) 1 a8 (IJ.take u).length=some (sC (IJ.take u)):=by
    rw [eu,k1']; unfold sC; rw [(fm_cut (k:=1) (fun _=>rfl) IJ u).2]
   refine ⟨a8,u,c9,S2.r.le.kslice k1,fun n12 h12=>?_⟩
   have hZ1:=hZ.trans q1
   obtain ⟨S3,q2⟩:=S2.grow (E:=mkEnt (sC SU) 0) h12
   refine c24 ok (m:=3) (hb.up (hZ1.trans q2)) S3 (by decide) fun x4 H3 x40 x41 S4=>⟨x4,rfl,?_⟩
   obtain ⟨v,rfl⟩:∃ v:Nat,x4=v:=⟨x4.toNat,by omega⟩
   have hv:v<=2:=by omega
   have ev:(SU.take v).length=v:=by rw [List.length_take]; show min v 2=v; omega
   obtain ⟨a5,c5,k2,k2'⟩:=cut_lo (H:=KH.new (Z'.new n4' (mkEnt (sC IJ) 0)) n12 (mkEnt (sC SU) 0)) (sz:=1) (n:=2) (c:=2) (a:=some ⟨n12,0,none⟩) (cs:=sC SU) (k:=v) (.inl ⟨rfl,2,rfl,Nat.le_refl _⟩) (lit_kold (if_pos rfl) rfl) hv
   have k2':kold (KH.new (Z'.new n4' (mkEnt (sC IJ) 0)) n12 (mkEnt (sC SU) 0)) 1 a5 (SU.take v).length=some (sC (SU.take v)):=by
    rw [ev,k2']; unfold sC; rw [(fm_cut (k:=1) (fun _=>rfl) SU v).2]
   refine ⟨a5,v,c5,S4.r.le.kslice k2,fun n8' h8 n9' h9=>⟨_,_,knew_of (ti:=tiN) (lit_kold (if_pos rfl) rfl),?_⟩⟩
   rw [catN]
   obtain ⟨a13,c13,H15,f1,f2⟩:=(S4.new h8).app (ti:=tiN) (nm:=n9') (m:=1) (new:=[.string (nmN nts.length),.slice a8 u c9,.slice a5 v c5]) h9 rfl rfl (by show nts.length+1<=_; omega) (by decide) (by decide)
   have ew:IntKind.wrap .i64 (((m:Nat):Int)-1)=((m-1:Nat):Int):=by rw [wrap64 (by omega) (by omega)]; omega
   have en:ntC (nts++[⟨nmN nts.length,a8,c9,IJ.take u,a5,c5,SU.take v⟩])=ntC nts++[.string (nmN nts.length),.slice a8 u c9,.slice a5 v c5]:=by
    unfold ntC
    rw [List.flatMap_append,List.flatMap_cons,List.flatMap_nil,List.append_nil,ev]
    rw [eu]
   refine ⟨a13,_,c13,H15,f1,m-1,by omega,rfl,rfl,rfl,rfl,rfl,rfl,rfl,rfl,rfl,nts++[⟨nmN nts.length,a8,c9,IJ.take u,a5,c5,SU.take v⟩],m-1,ew,rfl,by rw [List.length_append]; rfl,by rw [List.length_append]; show nts.length+1+_<=4; omega,by rw [List.length_append]; show 1<=nts.length+1+_; omega,app_all hmd ⟨rfl,⟨u,rfl⟩,v,rfl⟩,_,hZ1.trans q2,?_,(hni.up (q1.trans q2)).app (q2.kold k1') k2'⟩
   rw [en]
   exact f2
  .skip
   have S2:=h.new (E:=mkEnt [.int .u8 (IntKind.wrap .u8 (IntKind.wrap .i64 (97+((nts.length:Nat):Int))))] 0) h1
   have q1:=Le.refl Z'
   have hZ1:=hZ
   have eu:([]:List ByteArray).length=0:=rfl
   have k1':kold Z' 1 none ([]:List ByteArray).length=some (sC []):=rfl
   intro n12 h12
   obtain ⟨S3,q2⟩:=S2.grow (E:=mkEnt (sC SU) 0) h12
   refine c24 ok (m:=3) (hb.up (hZ1.trans q2)) S3 (by decide) fun x4 H3 x40 x41 S4=>⟨x4,rfl,?_⟩
   obtain ⟨v,rfl⟩:∃ v:Nat,x4=v:=⟨x4.toNat,by omega⟩
   have hv:v<=2:=by omega
   have ev:(SU.take v).length=v:=by rw [List.length_take]; show min v 2=v; omega
   obtain ⟨a5,c5,k2,k2'⟩:=cut_lo (H:=KH.new Z' n12 (mkEnt (sC SU) 0)) (sz:=1) (n:=2) (c:=2) (a:=some ⟨n12,0,none⟩) (cs:=sC SU) (k:=v) (.inl ⟨rfl,2,rfl,Nat.le_refl _⟩) (lit_kold (if_pos rfl) rfl) hv
   have k2':kold (KH.new Z' n12 (mkEnt (sC SU) 0)) 1 a5 (SU.take v).length=some (sC (SU.take v)):=by
    rw [ev,k2']; unfold sC; rw [(fm_cut (k:=1) (fun _=>rfl) SU v).2]
   refine ⟨a5,v,c5,S4.r.le.kslice k2,fun n8' h8 n9' h9=>⟨_,_,knew_of (ti:=tiN) (lit_kold (if_pos rfl) rfl),?_⟩⟩
   rw [catN]
   obtain ⟨a13,c13,H15,f1,f2⟩:=(S4.new h8).app (ti:=tiN) (nm:=n9') (m:=1) (new:=[.string (nmN nts.length),.slice none 0 0,.slice a5 v c5]) h9 rfl rfl (by show nts.length+1<=_; omega) (by decide) (by decide)
   have ew:IntKind.wrap .i64 (((m:Nat):Int)-1)=((m-1:Nat):Int):=by rw [wrap64 (by omega) (by omega)]; omega
   have en:ntC (nts++[⟨nmN nts.length,none,0,[],a5,c5,SU.take v⟩])=ntC nts++[.string (nmN nts.length),.slice none 0 0,.slice a5 v c5]:=by
    unfold ntC
    rw [List.flatMap_append,List.flatMap_cons,List.flatMap_nil,List.append_nil,ev]
    rfl
   refine ⟨a13,_,c13,H15,f1,m-1,by omega,rfl,rfl,rfl,rfl,rfl,rfl,rfl,rfl,rfl,nts++[⟨nmN nts.length,none,0,[],a5,c5,SU.take v⟩],m-1,ew,rfl,by rw [List.length_append]; rfl,by rw [List.length_append]; show nts.length+1+_<=4; omega,by rw [List.length_append]; show 1<=nts.length+1+_; omega,app_all hmd ⟨rfl,⟨0,rfl⟩,v,rfl⟩,_,hZ1.trans q2,?_,(hni.up (q1.trans q2)).app (q2.kold k1') k2'⟩
   rw [en]
   exact f2
 have z:k=0:=by have:=of_decide_eq_false z; omega
 subst z
 have hN:1<=nts.length/\nts.length<=4:=by omega
 clear z hi hi1 x280 x281 e1
 refine c24 ok (m:=7) (hb.up hZ) h (by decide) fun x28' H27' y0 y1 h'=>⟨x28',rfl,?_⟩
 clear h
 have e2:IntKind.wrap .i64 (x28'+1)=(((x28'+1).toNat:Nat):Int):=by rw [wrap64 (by omega) (by omega)]; omega
 unfold vc10_L9
 rw [e2]
 refine ⟨fun k o4 n5 a6 n7 n8 a9 n10 n11 a12 n13 n14 c15 n16 o17 c26 n19 o20 a21 n22 n23 x24 H25=>o4=m4/\n5=0/\c15=b15/\n16=toks.length/\o17=m17/\c26=a18/\n19=nts.length/\o20=n20/\∃ prods,∃ m:Nat,x24=m/\k=m/\n22=prods.length/\prods.length+m<=7/\1<=prods.length+m/\(∀ i (h:i<prods.length),ProdOk toks nts.length prods[i])/\∃ Z2,Le Z' Z2/\St Z2 H25 m4 a n c [⟨3,a21,n22,n23,prC prods⟩,⟨3,a18,nts.length,n20,ntC nts⟩,⟨3,b15,toks.length,m17,tkC toks⟩]/\PrsI Z2 prods,⟨(x28'+1).toNat,rfl,rfl,rfl,rfl,rfl,rfl,rfl,rfl,rfl,[],(x28'+1).toNat,rfl,rfl,rfl,by show 0+_<=7; omega,by show 1<=0+_; omega,fun i h=>absurd h (by simp),Z',Le.refl Z',h'.none_,fun i h=>absurd h (by simp)⟩,?_⟩
 clear h'
 rintro k o4 n5 a6 n7 n8 a9 n10 n11 a12 n13 n14 c15 n16 o17 c26 n19 o20 a21 n22 n23 x24 H25 ⟨rfl,rfl,rfl,rfl,rfl,rfl,rfl,rfl,prods,m,rfl,rfl,rfl,hi,hi1,hpr,Z2,hZ2,h,hpi⟩
 have hb2:=hb.up (hZ.trans hZ2)
 refine ⟨fun z=>?_,fun z=>?_⟩
 .have z:0<k:=by have:=of_decide_eq_true z; omega
  refine c24 ok (m:=nts.length) hb2 h (by omega) fun left H2 l0 l1 h=>⟨left,rfl,c24 ok (m:=4) hb2 h (by decide) fun x6 H5 x60 x61 h=>⟨x6,rfl,?_⟩⟩
  have e6:x6=((x6.toNat:Nat):Int):=by omega
  rw [e6]
  unfold vc10_L7
  refine ⟨fun k' q4 n5 a6 n7 n8 a9 n10 n11 a12 n13 n14 q15 n16 q17 q18 n19 q20 q21 n22 q23 x24 x25 a26 n27 n28 a29 n30 n31 x32 H33=>q4=o4/\n5=0/\q15=c15/\n16=toks.length/\q17=o17/\q18=c26/\n19=nts.length/\q20=o20/\q21=a21/\n22=prods.length/\q23=n23/\x24=k/\x25=left/\∃ right,∃ m:Nat,x32=m/\k'=m/\n27=right.length/\right.length+m<=3/\(∀ i (h:i<right.length),SymOk toks nts.length right[i])/\St Z2 H33 o4 a n c [⟨2,a26,n27,n28,syC right⟩,⟨3,a21,prods.length,n23,prC prods⟩,⟨3,c26,nts.length,o20,ntC nts⟩,⟨3,c15,toks.length,o17,tkC toks⟩],⟨x6.toNat,rfl,rfl,rfl,rfl,rfl,rfl,rfl,rfl,rfl,rfl,rfl,rfl,rfl,rfl,[],x6.toNat,rfl,rfl,rfl,by show 0+_<=3; omega,fun i h=>absurd h (by simp),h.none_⟩,?_⟩
  clear h
  rintro k' q4 n5 a6 n7 n8 a9 n10 n11 a12 n13 n14 q15 n16 q17 q18 n19 q20 q21 n22 q23 x24 x25 a26 n27 n28 a29 n30 n31 x32 H33 ⟨rfl,rfl,rfl,rfl,rfl,rfl,rfl,rfl,rfl,rfl,rfl,rfl,rfl,right,m,rfl,rfl,rfl,hm,hsy,h⟩
  refine ⟨fun z3=>?_,fun z3=>?_⟩
  .have z3:0<k':=by have:=of_decide_eq_true z3; omega
   have ew:IntKind.wrap .i64 (((k':Nat):Int)-1)=((k'-1:Nat):Int):=by rw [wrap64 (by omega) (by omega)]; omega
   have J:∀ (K:KH) (x3 at_:Int),SymOk toks nts.length ⟨decide (x3<3),at_⟩->St Z2 K q4 a n c [⟨2,a26,right.length,n28,syC right⟩,⟨3,q21,prods.length,q23,prC prods⟩,⟨3,q18,nts.length,q20,ntC nts⟩,⟨3,q15,toks.length,q17,tkC toks⟩]->vc10_J4 K x3 at_ a26 right.length n28 k' (fun k' q4' n5 a6 n7 n8 a9 n10 n11 a12 n13 n14 q15' n16 q17' q18' n19 q20' q21' n22 q23' x24 x25' a26 n27 n28 a29 n30 n31 x32 H33=>q4'=q4/\n5=0/\q15'=q15/\n16=toks.length/\q17'=q17/\q18'=q18/\n19=nts.length/\q20'=q20/\q21'=q21/\n22=prods.length/\q23'=q23/\x24=k/\x25'=x25/\∃ right,∃ m:Nat,x32=m/\k'=m/\n27=right.length/\right.length+m<=3/\(∀ i (h:i<right.length),SymOk toks nts.length right[i])/\St Z2 H33 q4 a n c [⟨2,a26,n27,n28,syC right⟩,⟨3,q21,prods.length,q23,prC prods⟩,⟨3,q18,nts.length,q20,ntC nts⟩,⟨3,q15,toks.length,q17,tkC toks⟩]) q4 0 a6 n7 n8 a9 n10 n11 a12 n13 n14 q15 toks.length q17 q18 nts.length q20 q21 prods.length q23 ((k:Nat):Int) x25 a29 n30 n31 ((k':Nat):Int):=fun K x3 at_ hs hK=>by
    unfold vc10_J4
    refine fun n1 h1 n2 h2=>⟨_,_,knew_of (ti:=tiY) (lit_kold (if_pos rfl) rfl),?_⟩
    obtain ⟨a5,c5,H8,f1,f2⟩:=(hK.new h1).app (ti:=tiY) (nm:=n2) (m:=1) (new:=[.bool (decide (x3<3)),.int .i64 at_]) h2 rfl rfl (by show right.length+1<=_; omega) (by decide) (by decide)
    refine ⟨a5,_,c5,H8,f1,k'-1,by omega,rfl,rfl,rfl,rfl,rfl,rfl,rfl,rfl,rfl,rfl,rfl,rfl,rfl,rfl,right++[⟨decide (x3<3),at_⟩],k'-1,ew,rfl,by rw [List.length_append]; rfl,by rw [List.length_append]; show right.length+1+_<=3; omega,app_all (P:=fun _ s=>SymOk toks nts.length s) hsy hs,?_⟩
    have e:syC (right++[⟨decide (x3<3),at_⟩])=syC right++[.bool (decide (x3<3)),.int .i64 at_]:=List.flatMap_append
    rw [e]
    exact f2
   refine c24 ok (m:=5) hb2 h (by decide) fun x3 H2 x30 x31 h=>⟨x3,rfl,c24 ok (m:=nts.length) hb2 h (by omega) fun x6 H5 x60 x61 h=>⟨x6,rfl,fun z4=>?_,fun z4=>?_⟩⟩
   .refine c24 ok (m:=toks.length) hb2 h (by omega) fun x9 H8 x90 x91 h=>⟨x9,rfl,J _ _ _ ⟨x90,fun _=>⟨by show x9.toNat<_; omega,?_⟩,fun w=>?_⟩ h⟩
    .have:∀ i (hi:i<toks.length),toks[i].skip=false:=fun i hi=>by
      have e:toks[i]=((List.range toks.length).map tkN)[i]'(by simpa using hi):=by congr 1; exact hts.symm
      rw [e,List.getElem_map]; rfl
     exact this _ _
    .have w:decide (x3<3)=false:=w
     rw [z4] at w; cases w
   .exact J _ _ _ ⟨x60,fun w=>(by have w:decide (x3<3)=true:=w; rw [z4] at w; cases w),fun _=>x61⟩ h
  .have z3:k'=0:=by have:=of_decide_eq_false z3; omega
   subst z3
   obtain ⟨Z3,hZ3,S,hrr⟩:=h.freezeG
   obtain ⟨he,hl⟩:=S.enter
   have g2:=S.r.ok ⟨3,q18,nts.length,q20,ntC nts⟩ (by simp)
   have f2:=S.r.fr ⟨3,q18,nts.length,q20,ntC nts⟩ (by simp)
   have hn:kold (H33.del q4) 3 q18 nts.length=some (ntC nts):=(g2.agree (H':=H33.del q4) fun k e w q=>del_at q (f2 k w).2).row
   refine c26 ok (nts:=nts) (right:=right) (hb2.up (hZ3.trans hl)) he hn (fun i hi=>(hmd i hi).few) (hl.kold hrr.row) (by omega) fun a' n' c' H2 s=>⟨a',n',c',rfl,?_⟩
   have S:=S.leave s
   refine fun n6 h6 n7' h7=>⟨_,_,knew_of (ti:=tiP) (lit_kold (if_pos rfl) rfl),?_⟩
   obtain ⟨a10,c11,H13,f1,f2⟩:=(S.new h6).app (ti:=tiP) (nm:=n7') (m:=1) (new:=[.int .i64 x25,.slice a26 right.length n28,.slice a' n' c']) h7 rfl rfl (by show prods.length+1<=_; omega) (by decide) (by decide)
   have ew:IntKind.wrap .i64 (((k:Nat):Int)-1)=((k-1:Nat):Int):=by rw [wrap64 (by omega) (by omega)]; omega
   refine ⟨a10,_,c11,H13,f1,k-1,by omega,rfl,rfl,rfl,rfl,rfl,rfl,rfl,rfl,rfl,prods++[⟨x25,a26,n28,right,a',n',c'⟩],k-1,ew,rfl,by rw [List.length_append]; rfl,by rw [List.length_append]; show prods.length+1+_<=7; omega,by rw [List.length_append]; show 1<=prods.length+1+_; omega,app_all (P:=fun _ x=>ProdOk toks nts.length x) hpr ⟨⟨l0,l1⟩,by show right.length<=5; omega,hsy⟩,Z3,hZ2.trans hZ3,?_,(hpi.up hZ3).app hrr⟩
   have e:prC (prods++[⟨x25,a26,n28,right,a',n',c'⟩])=prC prods++[.int .i64 x25,.slice a26 right.length n28,.slice a' n' c']:=List.flatMap_append
   rw [e]
   exact f2
 have z:k=0:=by have:=of_decide_eq_false z; omega
 subst z
 refine hq ⟨c15,o17,toks,c26,o20,nts,a21,n23,prods⟩ Z2 H25 (hZ.trans hZ2) h (hni.up hZ2) hpi ⟨⟨by show 1<=toks.length; omega,by show toks.length<=8; omega⟩,⟨by show 1<=nts.length; omega,by show nts.length<=8; omega⟩,⟨by show 1<=prods.length; omega,by show prods.length<=16; omega⟩,?_,fun i hi=>(hmd i hi).ok,hpr⟩ ?_
 rotate_left
 .show ∀ t∈toks,t.skip=false
  intro t ht
  rw [<- hts] at ht
  obtain ⟨_,_,rfl⟩:=List.mem_map.1 ht
  rfl
 show NamesOk (toks.map Tk.name++nts.map Nt.name)
 have e1:toks.map Tk.name=(List.range toks.length).map nmT:=by
  rw [<- hts]; simp [tkN,Function.comp_def]
 rw [e1,MadeN.names hmd]
 exact names_made (by omega) (by omega)
theorem c10 {Z H:KH} {p n c:Nat} {a:OA} {Q:PQ} (hb:PkB Z a n) (h:St Z H p a n c [])
 (hq:∀ g Z' H',Le Z Z'->St Z' H' p a n c [rowP g,rowN g,rowT g]->NtsI Z' g.nts->PrsI Z' g.prods->MayG g->Q (gv g) H'):Does (env Try.prog) 10 [.pointer (some ⟨p,0,none⟩)] H Q :=
 c10s ok hb h fun g Z' H' h1 h2 h3 h4 h5 _=>hq g Z' H' h1 h2 h3 h4 h5
end
end Va
end Go.Proofs.Ytefiipkfppaibaa
namespace Go.Ew
open Go.Ev Go.Deep
def tiH:TI:=⟨1,24,false,1,4,0,[],[.slice none 0 0]⟩
def tiB:TI:=⟨1,1,false,9,0,0,[],[.bool false]⟩
theorem Own.at2 {H0 H:KH} {sz n c:Nat} {a:OA} {cs:List Value} (h:Own H0 H sz a n c cs) (hn:0<n):∃ b E,a=some ⟨b,0,none⟩/\H b=some E/\H0 b=none:=by
 cases h with
 | nil=>omega
 | lit b _ _ h1 h2 h3 h4=>exact ⟨b,_,rfl,h1,h4⟩
 | grown b _ _ e h1 h2 h3 h4 h5 h6=>exact ⟨b,e,rfl,h1,h5⟩
end Go.Ew
namespace Go.Proofs.Ytefiipkfppaibaa
open Go.Ev Go.Ew
namespace Va
section
variable (ok : EnvOk (env Try.prog))
include ok
theorem c56 {Z:KH} {k0 k1:Nat} {g:Gm} {na fa:OA} {nc fc:Nat} {nl:Int->Bool} {fs:Int->Int->Bool} (hk:ld Z ⟨k0,0,none⟩ [.slice g.ta g.toks.length g.tc,.slice g.na g.nts.length g.nc,.slice g.pa g.prods.length g.pc]) (hk1:ld Z ⟨k1,0,none⟩ [.int .i64 g.toks.length,.slice na g.nts.length nc,.slice fa g.nts.length fc]) (hn:kold Z 1 na g.nts.length=some (famC (bit1 nl) g.nts.length)) (hN:IsN g.prods nl) (hf:kold Z 9 fa g.nts.length=some (famC (rowK fs) g.nts.length)) (hI:InN g.nts.length fs 9) (hF:IsF g.prods fs) (hg:GI Z g) (hm:MayG g) :
 Rnd (env Try.prog) 56 [.pointer (some ⟨k0,0,none⟩),.pointer (some ⟨k1,0,none⟩)] Z g.nts.length 9 rowK (SndL g.prods g.toks.length) (fun X=>X 0 g.toks.length=true/\∀ p∈g.prods,ClsP nl fs X p):=by
 intro H p b X Q w hX hP hq
 have hM:=hm.t
 have hNn:=hm.n
 have hin:In9 fun t=>decide (t=(g.toks.length:Int)):=fun t q=>by have:=of_decide_eq_true q; omega
 refine fn56 ok ⟨rfl,_,_,_,ldSub (m:=1) (w.le.ld hk) 0 (by simp),c57 ok (k:=(g.toks.length:Int)) (by omega) (by omega) fun H5 l5=>⟨_,_,_,_,_,_,_,_,_,rfl,c55 ok (f:=fun t=>decide (t=(g.toks.length:Int))) (Bxs.up w l5) (by omega) (by omega) hin fun H16 c16 w16 q1 q2=>⟨rfl,rfl,_,_,_,ldSub (m:=1) (w16.le.ld hk) 2 (by simp),?_⟩⟩⟩
 have st0:=(Stp.refl X).add q1 q2
 have in0:=up_in hX ⟨(by omega:(0:Int)<=0),(by omega:(0:Int)<g.nts.length)⟩ hin
 have sn0:SndL g.prods g.toks.length (Up X 0 fun t=>decide (t=(g.toks.length:Int))):=fun i t q=>by
  simp only [Up,Bool.or_eq_true,Bool.and_eq_true,decide_eq_true_eq] at q
  rcases q with q | ⟨rfl,rfl⟩
  .exact hP i t q
  .exact .zero
 have z0:c16=false->X 0 g.toks.length=true:=fun q=>(q2 q).2 _ (decide_eq_true rfl)
 clear q1 q2
 generalize hY0:(Up X 0 fun t=>decide (t=(g.toks.length:Int)))=Y0 at *
 show vc56_L1 _ _ _ _ _ _ _ _ _
 unfold vc56_L1
 refine ⟨fun k n4 n5 n6 n7 a8 n9 n10 x11 x12 H13=>n4=p/\n5=0/\n6=k1/\n7=0/\a8=g.pa/\n9=g.prods.length/\x11=g.prods.length/\∃ (i:Nat) (Y:Int->Int->Bool) (c:Bool),x12=i/\i<=g.prods.length/\k=g.prods.length-i/\Gw Z H13 p b g.nts.length (rowK Y) c/\InN g.nts.length Y 9/\SndL g.prods g.toks.length Y/\Stp X Y c/\(c=false->X 0 g.toks.length=true/\∀ j (hj:j<g.prods.length),j<i->ClsP nl fs X g.prods[j]),⟨g.prods.length,rfl,rfl,rfl,rfl,rfl,rfl,rfl,rfl,rfl,0,Y0,c16,rfl,by omega,rfl,w16,in0,sn0,st0,fun q=>⟨z0 q,fun _ _ z=>absurd z (by omega)⟩⟩,?_⟩
 rintro k n4 n5 n6 n7 a8 n9 n10 x11 x12 H13 ⟨rfl,rfl,rfl,rfl,rfl,rfl,rfl,i,Y,c,rfl,hi,rfl,w,hY,hS,hst,hc⟩
 refine ⟨fun z=>?_,fun z=>?_⟩
 .have z:i<g.prods.length:=by have:=of_decide_eq_true z; omega
  have e0:Int.toNat ((i:Nat):Int)=i:=by omega
  have hi1:IntKind.wrap .i64 (((i:Nat):Int)+1)=((i+1:Nat):Int):=by have:=hm.p; rw [wrap64 (by omega) (by omega)]; omega
  obtain ⟨b0,o0,ha,r0⟩:=pr_ld (hg.up w.le).p z
  rw [e0,hi1]
  refine ⟨⟨by omega,by omega⟩,b0,o0,ha,_,_,_,_,_,_,_,r0,_,_,_,_,_,_,_,w.le.ld hk1,c58 ok (X0:=X) w hg hm hn hN hf hI hF z hY hS hst fun H' X' c' w' h1 h2 h3 h4=>⟨rfl,g.prods.length-(i+1),by omega,rfl,rfl,rfl,rfl,rfl,rfl,rfl,rfl,rfl,i+1,X',c',rfl,by omega,rfl,w',h1,h2,h3,fun q=>⟨(hc (h4 q).1).1,fun j hj zz=>?_⟩⟩⟩
  by_cases y:j=i
  .subst y; exact (h4 q).2
  .exact (hc (h4 q).1).2 j hj (by omega)
 .have z:i=g.prods.length:=by have:=of_decide_eq_false z; omega
  subst z
  exact hq H13 Y c w hY hS hst fun q=>⟨(hc q).1,fun p hp=>by
   obtain ⟨j,hj,rfl⟩:=List.mem_iff_getElem.1 hp
   exact (hc q).2 j hj hj⟩
theorem c35 {g:Gm} {H:KH} {Q:PQ} (hg:GI H g) (hm:MayG g)
 (hq:∀ b H' fl,Le H H'->H b=none->kold H' 9 (some ⟨b,0,none⟩) g.nts.length=some (famC (rowK fl) g.nts.length)->IsL g.prods g.toks.length fl->Q (.slice (some ⟨b,0,none⟩) g.nts.length g.nts.length) H'):Does (env Try.prog) 35 [gv g] H Q:=by
 refine fn35 ok fun n1 h1=>?_
 have hl:=Le.new (e:=mkEnt [.slice g.ta g.toks.length g.tc,.slice g.na g.nts.length g.nc,.slice g.pa g.prods.length g.pc] 0) h1
 have r:ld (H.new n1 (mkEnt [.slice g.ta g.toks.length g.tc,.slice g.na g.nts.length g.nc,.slice g.pa g.prods.length g.pc] 0)) ⟨n1,0,none⟩ [.slice g.ta g.toks.length g.tc,.slice g.na g.nts.length g.nc,.slice g.pa g.prods.length g.pc]:=⟨rfl,_,if_pos rfl,mk_rd⟩
 refine ⟨_,_,_,_,_,_,_,_,_,r,c36 ok (hg.up hl) hm fun b1 b2 H12 nl fs l1 k1 hN k2 hI hF=>⟨_,_,_,_,_,_,_,rfl,fun n20 h20=>?_⟩⟩
 have hl2:=Le.new (e:=mkEnt [.int .i64 0,.slice none 0 0,.slice none 0 0] 0) h20
 have r20:ld (H12.new n20 (mkEnt [.int .i64 0,.slice none 0 0,.slice none 0 0] 0)) ⟨n20,0,none⟩ [.int .i64 0,.slice none 0 0,.slice none 0 0]:=⟨rfl,_,if_pos rfl,mk_rd⟩
 refine ⟨⟨[.int .i64 0,.slice none 0 0,.slice none 0 0],rfl,r20⟩,⟨_,if_pos rfl,rfl⟩,rfl,?_⟩
 generalize hK:KH.put (KH.new H12 n20 _) _ _=K
 have lK:Le H12 K:=by rw [<- hK]; exact le_put hl2 h20
 have rK:ld K ⟨n20,0,none⟩ [.int .i64 g.toks.length,.slice (some ⟨b1,0,none⟩) g.nts.length g.nts.length,.slice (some ⟨b2,0,none⟩) g.nts.length g.nts.length]:=by
  rw [<- hK]
  refine ⟨rfl,_,put_at (if_pos rfl),?_⟩
  exact rdWr (xs:=[]) (ys:=[.int .i64 0,.slice none 0 0,.slice none 0 0]) (zs:=[]) (vs:=[.int .i64 g.toks.length,.slice (some ⟨b1,0,none⟩) g.nts.length g.nts.length,.slice (some ⟨b2,0,none⟩) g.nts.length g.nts.length]) (N:=3) (o:=0) mk_rd rfl rfl
 have hl3:=hl.trans (l1.trans lK)
 refine ⟨_,_,_,ldSub (m:=1) ((l1.trans lK).ld r) 1 (by simp),c53 ok (caps:=[.pointer (some ⟨n1,0,none⟩),.pointer (some ⟨n20,0,none⟩)]) (c56 ok ((l1.trans lK).ld r) rK (lK.kold k1) hN (lK.kold k2) hI hF (hg.up hl3) hm) (fun i t q=>by cases q) (by have:=hm.n; omega) fun b H' X l hb hk hX hP hC=>⟨_,_,_,rfl,?_⟩⟩
 exact hq b H' X (hl3.trans l) (hl3.none hb) hk (isL_of hN hF hP hC.1 hC.2)
theorem c38 {b n c:Nat} {f:Int->Bool} {H:KH} {Q:PQ} (hk:kold H 1 (some ⟨b,0,none⟩) n=some (famC (bit1 f) n)) (h0:0<n) (hn:n<=1000)
 (hq:∀ a' c' H',Le H H'->Own H H' 1 a' n c' (famC (bit1 f) n)->Q (.slice a' n c') H'):Does (env Try.prog) 38 [.slice (some ⟨b,0,none⟩) n c] H Q:=by
 refine fn38 ok ⟨fun z=>(by cases z),fun _ n1 h1 n2 h2=>?_⟩
 have o:Own H (H.new n1 (mkEnt [] 0)) 1 (some ⟨n1,0,none⟩) 0 0 []:=.lit n1 0 [] (if_pos rfl) rfl (by decide) h1
 obtain ⟨a',c',H',f1,f2,f3,f4,f5⟩:=o.append (ti:=tiB) (nm:=n2) (m:=n) (new:=famC (bit1 f) n) (Le.new h1) h2 (by rw [fam_len (k:=1) (bit1_len f)]; rfl) (by omega) (by decide) (by decide)
 rw [Nat.zero_add] at f1 f2
 exact ⟨n,_,knew_of (ti:=tiB) ((Le.new h1).kold hk),a',n,c',H',f1,hq a' c' H' f3 f2⟩
theorem c33 {a:OA} {N M c:Nat} {X:Int->Int->Bool} {H:KH} {Q:PQ} (hk:kold H 9 a N=some (famC (rowK X) N)) (hN:N<=1000) (h0:0<M) (hM:M<=9)
 (hq:∀ a' c' H',Le H H'->RowsB H' a' N M X->Q (.slice a' N c') H'):Does (env Try.prog) 33 [.slice a N c,.int .i64 M] H Q:=by
 refine fn33 ok ?_
 show vc33_L1 _ _ _ _ _ _
 unfold vc33_L1
 refine ⟨fun k x4 a5 n6 n7 a8 n9 n10 x11 x12 H13=>x4=M/\a8=a/\n9=N/\x11=N/\∃ (l:List Hd) (Z:KH),x12=l.length/\n6=l.length/\l.length<=N/\k=N-l.length/\Le H Z/\Le Z H13/\Own Z H13 1 a5 l.length n7 (hdC M l)/\∀ i (h:i<l.length),kold Z 1 l[i].a M=some (famC (bit1 (X (i:Int))) M),⟨N,rfl,rfl,rfl,rfl,[],H,rfl,rfl,by simp,rfl,Le.refl H,Le.refl H,.nil,fun i h=>by simp at h⟩,?_⟩
 rintro k x4 a5 n6 n7 a8 n9 n10 x11 x12 H13 ⟨rfl,rfl,rfl,rfl,l,Z,rfl,rfl,hl,rfl,hZ,hZ2,o,hr⟩
 have hH:=hZ.trans hZ2
 refine ⟨fun z=>?_,fun z=>?_⟩
 .have z:l.length<n9:=by have:=of_decide_eq_true z; omega
  have e0:Int.toNat ((l.length:Nat):Int)=l.length:=by omega
  have eM:Int.toNat ((M:Nat):Int)=M:=by omega
  have hi1:IntKind.wrap .i64 (((l.length:Nat):Int)+1)=((l.length+1:Nat):Int):=by rw [wrap64 (by omega) (by omega)]; omega
  obtain ⟨b0,o0,ha,r0⟩:=fam_ld (k:=9) (fun _=>rfl) (hH.kold hk) z
  rw [e0,eM,hi1]
  refine ⟨⟨by omega,by omega⟩,b0,o0,ha,_,_,_,_,_,_,_,_,_,r0,fun n12 h12=>?_⟩
  have w0:=Bx9.mk0 (F:=fun _=>false) h12
  have w1:Bx9 H13 (KH.put (H13.new n12 (mkEnt (kC fun _=>false) 0)) ⟨n12,0,none⟩ (kC (X (l.length:Int)))) n12 (X (l.length:Int)):=Bxs.put w0 (j:=()) trivial (xs:=[]) (ys:=kC fun _=>false) (zs:=[]) (vs:=kC (X (l.length:Int))) (by simp) rfl (cs':=fun _=>kC (X (l.length:Int))) (by simp) fun _ _ hi=>absurd rfl hi
  refine ⟨⟨kC fun _=>false,rfl,w0.all⟩,Bxs.may w0 (j:=()) trivial,rfl,⟨by omega,by omega⟩,?_⟩
  refine c38 ok (w1.cut hM) h0 (by omega) fun a16 n18 H15 l15 o15=>⟨a16,M,n18,rfl,fun n19 h19 n20 h20=>?_⟩
  have l15:=w1.le.trans l15
  obtain ⟨b16,E16,e16,g16,f16⟩:=o15.at2 h0
  have hne:∀ b,blk a5=some b->b≠b16:=fun b hb e=>by
   obtain ⟨⟨E,q1⟩,_⟩:=o.has hb
   have:=w1.le b E q1
   rw [e] at this
   cases f16.symm.trans this
  have lZ:Le Z (offB a5 H15):=le_offB (hZ2.trans l15) fun b hb=>(o.has hb).2
  have l19:=Le.new (e:=mkEnt [.slice a16 M n18] 0) h19
  have o2:Own (offB a5 H15) (H15.new n19 (mkEnt [.slice a16 M n18] 0)) 1 a5 l.length n7 (hdC M l):=o.base (fun b hb=>offB_none hb) fun k e _ q=>l19 _ _ (l15 _ _ q)
  obtain ⟨a',c',H',f1,f2,f3,f4,f5⟩:=o2.append (ti:=tiH) (nm:=n20) (m:=1) (new:=[.slice a16 M n18]) ((offB_le a5 H15).trans l19) h20 rfl (by omega) (by decide) (by decide)
  refine ⟨1,_,knew_of (ti:=tiH) (lit_kold (if_pos rfl) rfl),a',_,c',H',f1,n9-(l.length+1),by omega,rfl,rfl,rfl,rfl,l++[⟨a16,n18⟩],offB a5 H15,by rw [List.length_append]; rfl,by rw [List.length_append]; rfl,by rw [List.length_append]; show l.length+1<=n9; omega,by rw [List.length_append]; rfl,hZ.trans lZ,f3,?_,fun i h=>?_⟩
  .rw [hdC_app,List.length_append]; exact f2
  .rw [List.getElem_append]
   split
   .rename_i hi
    exact lZ.kold (hr i hi)
   .rename_i hi
    have hi:i=l.length:=by simp at h; omega
    subst hi
    simp only [Nat.sub_self,List.getElem_cons_zero]
    exact offB_kold o15.cells fun b hb e=>hne b e (by rw [e16] at hb; exact (Option.some.inj hb).symm)
 .have z:l.length=n9:=by have:=of_decide_eq_false z; omega
  rw [z] at o ⊢
  exact hq a5 n7 H13 hH ⟨l,z,o.cells,fun i h=>hZ2.kold (hr i h)⟩
theorem c14 {g:Gm} {H:KH} {Q:PQ} (hg:GI H g) (hm:MayG g) (hq:∀ b H' nl,Le H H'->kold H' 1 (some ⟨b,0,none⟩) g.nts.length=some (famC (bit1 nl) g.nts.length)->IsN g.prods nl->Q (.slice (some ⟨b,0,none⟩) g.nts.length g.nts.length) H'):Does (env Try.prog) 14 [gv g] H Q:=by
 have hn:=hm.n
 refine fn14 ok (c31 ok hg hm.few fun b H2 l2 hb=>⟨b,rfl,fun z=>?_,fun z=>⟨⟨by omega,by omega,by omega⟩,fun n1 h1=>?_⟩⟩)
 .rw [hb.2 hm] at z; cases z
 have eN:Int.toNat ((g.nts.length:Nat):Int)=g.nts.length:=by omega
 have e0:lrep [.bool false] g.nts.length=famC (bit1 fun _=>false) g.nts.length:=fam_rep (h:=bit1 fun _=>false) fun _ _=>rfl
 rw [eN,e0]
 have l3:=Le.new (e:=mkEnt (famC (bit1 fun _=>false) g.nts.length) 0) h1
 refine c32 ok (hg.up (l2.trans l3)) hm fun b3 H3 nl l4 hb3 hk hN=>⟨_,_,_,rfl,?_⟩
 have hne:b3≠n1:=fun e=>by rw [e] at hb3; simp [KH.new] at hb3
 have hk':kold (H3.del n1) 1 (some ⟨b3,0,none⟩) g.nts.length=some (famC (bit1 nl) g.nts.length):=by
  obtain ⟨e,q1,q2⟩:=kold_some.1 hk
  exact kold_some.2 ⟨e,del_at q1 hne,q2⟩
 have w0:Bxs (H3.del n1) H3 (fun _:Unit=>True) (fun _=>n1) (fun _=>famC (bit1 fun _=>false) g.nts.length):=⟨del_le H3 n1,fun _ _=>if_pos rfl,fun _ _=>⟨_,l4 _ _ (if_pos rfl),rfl,mk_rd⟩,fun _ _ _ _ _=>rfl⟩
 have hHZ:Le H (H3.del n1):=le_del (l2.trans (l3.trans l4)) (l2.none h1)
 unfold vc14_L1
 rw [eN]
 refine ⟨fun k a4 n5 n6 a7 n8 n9 x10 x11 H12=>a4=some ⟨n1,0,none⟩/\n5=g.nts.length/\n6=g.nts.length/\a7=some ⟨b3,0,none⟩/\n8=g.nts.length/\x10=g.nts.length/\∃ i:Nat,x11=i/\i<=g.nts.length/\k=g.nts.length-i/\Bxs (H3.del n1) H12 (fun _:Unit=>True) (fun _=>n1) (fun _=>famC (bit1 fun t=>decide (t<i)&&nl t) g.nts.length),⟨g.nts.length,rfl,rfl,rfl,rfl,rfl,rfl,0,rfl,by omega,rfl,?_⟩,?_⟩
 .rw [show famC (bit1 fun t=>decide (t<((0:Nat):Int))&&nl t) g.nts.length=famC (bit1 fun _=>false) g.nts.length from fam_congr fun i _=>by simp only [bit1]; rw [decide_eq_false (by omega)]; rfl]
  exact w0
 rintro k a4 n5 n6 a7 n8 n9 x10 x11 H12 ⟨rfl,rfl,rfl,rfl,rfl,rfl,i,rfl,hi,rfl,w⟩
 refine ⟨fun z=>?_,fun z=>?_⟩
 .have z:i<g.nts.length:=by have:=of_decide_eq_true z; omega
  have ei:Int.toNat ((i:Nat):Int)=i:=by omega
  have hi1:IntKind.wrap .i64 (((i:Nat):Int)+1)=((i+1:Nat):Int):=by rw [wrap64 (by omega) (by omega)]; omega
  obtain ⟨b0,o0,ha,r0⟩:=fam_ld (k:=1) (bit1_len nl) (w.le.kold hk') z
  have c1:=fam_cut (h:=bit1 fun t=>decide (t<(i:Int))&&nl t) z
  have c2:=fam_set (h:=bit1 fun t=>decide (t<(i:Int))&&nl t) (h':=bit1 fun t=>decide (t<((i+1:Nat):Int))&&nl t) z fun j hj=>by
   simp only [bit1]
   rw [show decide ((j:Int)<((i+1:Nat):Int))=decide ((j:Int)<(i:Int)) from by
    by_cases q:(j:Int)<(i:Int)
    .rw [decide_eq_true q,decide_eq_true (by omega)]
    .rw [decide_eq_false q,decide_eq_false (by omega)]]
  have r:=Bxs.ld w (j:=()) trivial c1
  have w':=Bxs.put w (j:=()) trivial c1 (vs:=bit1 (fun t=>decide (t<((i+1:Nat):Int))&&nl t) (i:Int)) rfl (cs':=fun _=>famC (bit1 fun t=>decide (t<((i+1:Nat):Int))&&nl t) g.nts.length) c2 fun _ _ hi=>absurd rfl hi
  rw [fam_len (k:=1) (bit1_len _)] at r w'
  have ev:bit1 (fun t=>decide (t<((i+1:Nat):Int))&&nl t) (i:Int)=[.bool (nl i)]:=by simp only [bit1]; rw [decide_eq_true (by omega),Bool.true_and]
  rw [ev] at w'
  rw [ei,hi1]
  refine ⟨⟨by omega,by omega⟩,b0,o0,ha,_,r0,⟨by omega,by omega⟩,n1,0,rfl,⟨bit1 (fun t=>decide (t<(i:Int))&&nl t) (i:Int),rfl,by rw [Nat.zero_add]; exact r⟩,Bxs.may w (j:=()) trivial,g.nts.length-(i+1),by omega,rfl,rfl,rfl,rfl,rfl,rfl,i+1,rfl,by omega,rfl,by rw [Nat.zero_add]; exact w'⟩
 .have z:i=g.nts.length:=by have:=of_decide_eq_false z; omega
  subst z
  refine hq n1 H12 nl (hHZ.trans w.le) ?_ hN
  rw [<- show famC (bit1 fun t=>decide (t<((g.nts.length:Nat):Int))&&nl t) g.nts.length=famC (bit1 nl) g.nts.length from fam_congr fun i h=>by simp only [bit1]; rw [decide_eq_true (by omega),Bool.true_and]]
  exact Bxs.kold w (j:=()) trivial (by rw [fam_len (k:=1) (bit1_len _)])
theorem c16 {g:Gm} {H:KH} {Q:PQ} (hg:GI H g) (hm:MayG g) (hq:∀ a c H' fs,Le H H'->RowsB H' a g.nts.length g.toks.length fs->IsF g.prods fs->Q (.slice a g.nts.length c) H'):Does (env Try.prog) 16 [gv g] H Q:=by
 have hn:=hm.n
 have ht:=hm.t
 refine fn16 ok (c31 ok hg hm.few fun b H2 l2 hb=>⟨b,rfl,fun z=>?_,fun z=>⟨trivial,c32 ok (hg.up l2) hm fun b1 H3 nl l3 _ k1 hN=>⟨_,_,_,rfl,⟨rfl,⟨rfl,rfl⟩,rfl,rfl,trivial⟩,c34 ok (hg.up (l2.trans l3)) hm k1 hN fun b2 H7 fs l7 _ k2 hI hF=>⟨_,_,_,rfl,⟨⟨rfl,rfl⟩,rfl,rfl,trivial⟩,c33 ok k2 (by omega) (by omega) (by omega) fun a' c' H' l' hr=>⟨_,_,_,rfl,trivial,hq a' c' H' fs (l2.trans (l3.trans (l7.trans l'))) hr hF⟩⟩⟩⟩⟩)
 rw [hb.2 hm] at z; cases z
theorem c17 {g:Gm} {H:KH} {Q:PQ} (hg:GI H g) (hm:MayG g) (hq:∀ a c H' fl,Le H H'->RowsB H' a g.nts.length (g.toks.length+1) fl->IsL g.prods g.toks.length fl->Q (.slice a g.nts.length c) H'):Does (env Try.prog) 17 [gv g] H Q:=by
 have hn:=hm.n
 have ht:=hm.t
 have e1:IntKind.wrap .i64 ((g.toks.length:Int)+1)=((g.toks.length+1:Nat):Int):=by rw [wrap64 (by omega) (by omega)]; omega
 refine fn17 ok (c31 ok hg hm.few fun b H2 l2 hb=>⟨b,rfl,fun z=>?_,fun z=>⟨trivial,c35 ok (hg.up l2) hm fun b1 H3 fl l3 _ k1 hL=>⟨_,_,_,rfl,⟨⟨rfl,rfl⟩,rfl,rfl,rfl,trivial⟩,?_⟩⟩⟩)
 .rw [hb.2 hm] at z; cases z
 .rw [e1]
  exact c33 ok k1 (by omega) (by omega) (by omega) fun a' c' H' l' hr=>⟨_,_,_,rfl,trivial,hq a' c' H' fl (l2.trans (l3.trans l')) hr hL⟩
theorem c18 {g:Gm} {ra:OA} {rc:Nat} {r:List Sy} {H:KH} {Q:PQ} (hg:GI H g) (hm:MayG g) (hr:kold H 2 ra r.length=some (syC r)) (hs:SymsIn g.toks.length g.nts.length r) (hl:r.length<=1000)
 (hq:∀ a c H' nl fs,Le H H'->IsN g.prods nl->IsF g.prods fs->kold H' 1 a g.toks.length=some (famC (bit1 (ofK nl fs r).1) g.toks.length)->Q (.tuple #[.slice a g.toks.length c,.bool (ofK nl fs r).2]) H'):Does (env Try.prog) 18 [gv g,.slice ra r.length rc] H Q:=by
 have ht:=hm.t
 refine fn18 ok (c31 ok hg hm.few fun b H2 l2 hb=>⟨b,rfl,fun z=>?_,fun z=>c36 ok (hg.up l2) hm fun b1 b2 H3 nl fs l3 k1 hN k2 hI hF=>⟨_,_,_,_,_,_,_,rfl,c37 ok k1 k2 ((l2.trans l3).kold hr) hs ht.2 hl fun H11 l11=>⟨_,_,_,_,_,_,_,_,_,_,rfl,fun n22 h22=>?_⟩⟩⟩)
 .rw [hb.2 hm] at z; cases z
 have w0:=Bx9.mk0 (F:=fun _=>false) h22
 have w1:Bx9 H11 (KH.put (H11.new n22 (mkEnt (kC fun _=>false) 0)) ⟨n22,0,none⟩ (kC (ofK nl fs r).1)) n22 (ofK nl fs r).1:=Bxs.put w0 (j:=()) trivial (xs:=[]) (ys:=kC fun _=>false) (zs:=[]) (vs:=kC (ofK nl fs r).1) (by simp) rfl (cs':=fun _=>kC (ofK nl fs r).1) (by simp) fun _ _ hi=>absurd rfl hi
 have eM:Int.toNat ((g.toks.length:Nat):Int)=g.toks.length:=by omega
 rw [eM]
 refine ⟨⟨kC fun _=>false,rfl,w0.all⟩,Bxs.may w0 (j:=()) trivial,rfl,⟨by omega,by omega⟩,c38 ok (w1.cut (by omega)) (by omega) (by omega) fun a' c' H' l' o=>⟨_,_,_,rfl,hq a' c' H' nl fs (l2.trans (l3.trans (l11.trans (w1.le.trans l')))) hN hF o.cells⟩⟩
end
end Va
end Go.Proofs.Ytefiipkfppaibaa
namespace Go.Ew
open Go.Ev Go.Deep
theorem St.gi {Z H:KH} {p n c:Nat} {a:OA} {g:Gm} (h:St Z H p a n c [rowP g,rowN g,rowT g]) (h1:NtsI Z g.nts) (h2:PrsI Z g.prods):GI H g :=
 ⟨(h.r.ok (rowT g) (by simp)).row,(h.r.ok (rowN g) (by simp)).row,(h.r.ok (rowP g) (by simp)).row,h1.up h.r.le,h2.up h.r.le⟩
theorem syC_app (l m:List Sy):syC (l++m)=syC l++syC m:=List.flatMap_append
theorem syC_len (l:List Sy):(syC l).length=l.length*2:=fm_len (k:=2) (fun _=>rfl) l
theorem bit_ld {H:KH} {a:OA} {M i:Nat} {f:Int->Bool} (h:kold H 1 a M=some (famC (bit1 f) M)) (hi:i<M):∃ b o,a=some ⟨b,o,none⟩/\ld H ⟨b,o+i*1,none⟩ [.bool (f (i:Int))]:=fam_ld (k:=1) (bit1_len f) h hi
end Go.Ew
namespace Go.Proofs.Ytefiipkfppaibaa
open Go.Ev Go.Ew
namespace Va
theorem c8 {H:KH} {Q:PQ} (hq:Q (.bool true) H):Does (env Try.prog) 8 [] H Q:=does_true (by kernel_rfl) (by kernel_rfl) (by kernel_rfl) hq
theorem l7 {a1 a2 a3:OA} {c1 c2 c3 M:Nat} {f h z:Int->Bool} {p:Bool} {H:KH} (hM:M<=1000) (k1:kold H 1 a1 M=some (famC (bit1 f) M)) (k2:kold H 1 a2 M=some (famC (bit1 h) M)) (k3:kold H 1 a3 M=some (famC (bit1 z) M)) (e:∀ t,z t=(f t||(p&&h t))):vc7_L1 a1 M c1 p a2 M c2 a3 M c3 H fun v _=>v = .bool true:=by
 unfold vc7_L1
 refine ⟨fun k a4 n5 n6 b7 a8 n9 n10 a11 n12 n13 x14 H15=>a4=a1/\n5=M/\b7=p/\a8=a2/\n9=M/\a11=a3/\n12=M/\H15=H/\∃ i:Nat,x14=i/\i<=M/\k=M-i,⟨M,rfl,rfl,rfl,rfl,rfl,rfl,rfl,rfl,0,rfl,by omega,rfl⟩,?_⟩
 rintro k a4 n5 n6 b7 a8 n9 n10 a11 n12 n13 x14 H15 ⟨rfl,rfl,rfl,rfl,rfl,rfl,rfl,rfl,i,rfl,hi,rfl⟩
 refine ⟨fun y=>?_,fun _=>rfl⟩
 have y:i<n12:=by have:=of_decide_eq_true y; omega
 have e0:Int.toNat ((i:Nat):Int)=i:=by omega
 have hi1:IntKind.wrap .i64 (((i:Nat):Int)+1)=((i+1:Nat):Int):=by rw [wrap64 (by omega) (by omega)]; omega
 obtain ⟨b3,o3,ha3,r3⟩:=bit_ld k3 y
 obtain ⟨b1,o1,ha1,r1⟩:=bit_ld k1 y
 obtain ⟨b2,o2,ha2,r2⟩:=bit_ld k2 y
 have ez:=e (i:Int)
 rw [e0,hi1]
 refine ⟨trivial,⟨by omega,by omega⟩,b3,o3,ha3,_,r3,⟨by omega,by omega⟩,b1,o1,ha1,_,r1,fun q1=>⟨fun q=>?_,fun _=>?_⟩,fun q1=>⟨fun q2=>⟨by omega,by omega⟩ |> fun w=>⟨w,b2,o2,ha2,_,r2,fun q=>?_,fun _=>?_⟩,fun q2=>⟨fun q=>?_,fun _=>?_⟩⟩⟩
 all_goals first
  | exact ⟨n12-(i+1),by omega,rfl,rfl,rfl,rfl,rfl,rfl,rfl,rfl,i+1,rfl,by omega,rfl⟩
  | (rename_i q; simp [ez,q1,q2] at q; done)
  | (rename_i q; simp [ez,q1] at q; done)
section
variable (ok : EnvOk (env Try.prog))
include ok
theorem c7 {a:OA} {n c u v:Nat} {H:KH} (hl:∀ i,i<n->∃ b o x,a=some ⟨b,o,none⟩/\ld H ⟨b,o+i,none⟩ [.int .u8 x]/\0<=x/\x<=255) (hu:u<=255) (hv:v<=255):Does (env Try.prog) 7 [.slice a n c,.int .u8 ((u:Nat):Int),.int .u8 ((v:Nat):Int)] H fun v _=>v = .bool true:=by
 refine fn7 ok (c8 ⟨true,rfl,fun z=>(by cases z),fun _=>⟨fun _=>rfl,fun z=>?_⟩⟩)
 have hn:n<=150:=by have:=of_decide_eq_false z; omega
 have hb:PkB H a n:=⟨hl,hn⟩
 refine c9 ok hb fun p H2 _ h=>⟨p,0,rfl,c10 ok hb h fun g Z' H6 hZ s h1 h2 hg=>⟨_,_,_,_,_,_,_,_,_,rfl,?_⟩⟩
 have gi:=s.gi h1 h2
 clear s h1 h2 h hb z
 have t1:=hg.t
 have t2:=hg.n
 have t3:=hg.p
 have ix:∀ u:Nat,u<=255->∃ k,k<g.prods.length/\(Int.tmod (IntKind.wrap .i64 ((u:Nat):Int)) (g.prods.length:Int))=((k:Nat):Int):=fun u hu=>by
  refine ⟨u%g.prods.length,Nat.mod_lt _ (by omega),?_⟩
  rw [wrap64 (by omega) (by omega),Int.tmod_eq_emod_of_nonneg (by omega)]
  exact (Int.natCast_emod u g.prods.length).symm
 obtain ⟨i,hi,ei⟩:=ix u hu
 obtain ⟨j,hj,ej⟩:=ix v hv
 have nz:(g.prods.length:Int)≠0:=by omega
 rw [ei,ej]
 have e0:Int.toNat ((i:Nat):Int)=i:=by omega
 have e1:Int.toNat ((j:Nat):Int)=j:=by omega
 rw [e0,e1]
 obtain ⟨b1,o1,ha1,r1⟩:=pr_ld gi.p hi
 obtain ⟨b2,o2,ha2,r2⟩:=pr_ld gi.p hj
 have pi:=gi.pi i hi
 have pj:=gi.pi j hj
 have bi:=(hg.pr i hi).b
 have bj:=(hg.pr j hj).b
 have si:=SymsIn.of hg hi
 have sj:=SymsIn.of hg hj
 generalize g.prods[i]=x at *
 generalize g.prods[j]=y at *
 refine ⟨trivial,nz,⟨by omega,by omega⟩,b1,o1,ha1,rfl,_,_,_,ldSub (m:=1) r1 1 (by simp),nz,⟨by omega,by omega⟩,b2,o2,ha2,rfl,_,_,_,ldSub (m:=1) r2 1 (by simp),?_⟩
 refine c18 ok gi hg pi.1 si (by omega) fun a28 n30 H27 nl fs l1 hN hF k1=>⟨a28,_,n30,_,rfl,?_⟩
 refine c18 ok (gi.up l1) hg (l1.kold pj.1) sj (by omega) fun a34 n36 H33 nl' fs' l2 hN' hF' k2=>⟨a34,_,n36,_,rfl,trivial,fun n38 h38 n39 h39=>?_⟩
 rw [isN_eq hN' hN,isF_eq hF' hF] at k2 ⊢
 have o:Own H33 (H33.new n38 (mkEnt [] 0)) 2 (some ⟨n38,0,none⟩) 0 0 []:=.lit n38 0 [] (if_pos rfl) rfl (by decide) h38
 obtain ⟨a42,n44,H45,f1,f2,f3,f4,f5⟩:=o.append (ti:=tiY) (nm:=n39) (m:=x.right.length) (new:=syC x.right) (Le.new h38) h39 (by rw [syC_len]; rfl) (by omega) (by decide) (by decide)
 rw [Nat.zero_add] at f1 f2
 refine ⟨_,_,knew_of (ti:=tiY) ((Le.new h38).kold ((l1.trans l2).kold pi.1)),a42,_,n44,H45,f1,⟨rfl,rfl,trivial⟩,fun n46 h46=>?_⟩
 have f2':Own H33 H45 tiY.size a42 x.right.length n44 (syC x.right):=f2
 obtain ⟨a49,n51,H52,g1,g2,g3,g4,g5⟩:=f2'.append (ti:=tiY) (nm:=n46) (m:=y.right.length) (new:=syC y.right) f3 h46 (by rw [syC_len]; rfl) (by omega) (by decide) (by decide)
 refine ⟨_,_,knew_of (ti:=tiY) (f3.kold ((l1.trans l2).kold pj.1)),a49,_,n51,H52,g1,⟨rfl,trivial⟩,?_⟩
 have hlen:x.right.length+y.right.length=(x.right++y.right).length:=by rw [List.length_append]
 have kz:=g2.cells
 rw [<- syC_app,hlen] at kz
 rw [hlen]
 refine c18 ok (gi.up (l1.trans (l2.trans g3))) hg kz (fun s hs=>(List.mem_append.1 hs).elim (si s) (sj s)) (by rw [List.length_append]; omega) fun a55 n57 H54 nl3 fs3 l3 hN3 hF3 k3=>⟨a55,_,n57,_,rfl,trivial,fun q=>absurd rfl (of_decide_eq_true q),fun _=>⟨fun q=>absurd rfl (of_decide_eq_true q),fun _=>⟨fun q=>absurd rfl (of_decide_eq_true q),fun _=>?_⟩⟩⟩
 rw [isN_eq hN3 hN,isF_eq hF3 hF] at k3 ⊢
 obtain ⟨w1,w2⟩:=ofK_app nl fs x.right y.right
 have fin:=l7 (c1:=n30) (c2:=n36) (c3:=n57) (p:=(ofK nl fs x.right).2) (by omega:g.toks.length<=1000) ((l2.trans (g3.trans l3)).kold k1) ((g3.trans l3).kold k2) k3 w2
 refine ⟨fun q1=>⟨fun q=>?_,fun _=>fin⟩,fun q1=>⟨fun q=>?_,fun _=>fin⟩⟩
 .rw [w1,q1,Bool.true_and] at q
  simp at q
 .rw [w1,q1] at q; cases q
end
end Va
end Go.Proofs.Ytefiipkfppaibaa
namespace Go.Proofs.Ytefiipkfppaibaa
open Go.Ev Go.Ew Go.RowKit
namespace Va
theorem tys:tysOk Try.prog tyL:=by unfold tysOk; kernel_rfl
theorem mixed:Try.prog.follows .mixedOrders=true:=by kernel_rfl
theorem own:ownKnob Try.prog.godebug=none:=by kernel_rfl
def fnB8:List Nat:=[8,11,14,16,17,18,27,28,29,31,32,33,34,35,36,37,38,47,48,49,50,51,52,53,54,55,56,57,58,59,60,64,65,66,67,68,69,70,71,72,74,75,76,77,78,79,80,81,82,83,84,85,86,87,104]
def xtB8:List (Nat × Nat):=[]
theorem fnsB8:(fnsOf Try.prog fnB8).all (fnOk (envOf Try.prog tyL fnB8 plL xtB8))=true:=by kernel_rfl
theorem okB8:EnvOk (envOf Try.prog tyL fnB8 plL xtB8):=env_ok tys mixed fnsB8 (fun g hg=>by simp [xtB8] at hg) (fun g hg=>by simp [xtB8] at hg) (fun g hg=>by simp [xtB8] at hg)
theorem hereB8:(tget (envOf Try.prog tyL fnB8 plL xtB8).ff 8).isSome=true:=by kernel_rfl
set_option maxRecDepth 100000 in
theorem runsB8:callK (envOf Try.prog tyL fnB8 plL xtB8) 1000000 1000 8 [] ⟨.nil,0⟩ kTrue=True:=by kernel_rfl
theorem walkB8 (w:World):Calls Try.prog 8 #[] w fun e w'=>e = .returned (.bool true)/\Below w.heap.size w w':=by
 obtain ⟨fn,hfn⟩:=Option.isSome_iff_exists.1 hereB8
 exact law_fast okB8 hfn (by unfold unkU; omega) runsB8 w
theorem nameB8 : (Try.f8.name == "runtime.NumGoroutine") = false := by kernel_rfl
theorem bodyB8:Try.f8.body.isNone=false:=by kernel_rfl
theorem enterB8 (w:World):(callFunc 8 #[]).run Try.prog w = .ok (.enter 8 #[]) w:=by
 simp only [callFunc,Sem.run_bind,run_program,Result.andThen_ok,Try.func8,nameB8,bodyB8,Bool.false_eq_true,if_false,Sem.run_pure]
theorem fns:(fnsOf Try.prog fnL).all (fnOk (env Try.prog))=true:=by kernel_rfl
theorem ok:EnvOk (env Try.prog):=env_ok tys mixed fns (fun g hg=>by simp [xtL] at hg) (fun g hg=>by simp [xtL] at hg) (fun g hg=>by
 have e:g=8:=by simpa [xtL] using hg
 subst e
 exact fun w=>⟨enterB8 w,walkB8 w⟩)
end Va
end Go.Proofs.Ytefiipkfppaibaa
namespace Go.Ew
open Go.Ev Go.Deep Go.RowKit
def treeOf {α:Type} (f:Nat->Option α):Nat->BT (Option α)
 | 0=>.nil
 | n+1=>tset (treeOf f n) n (f n)
theorem tree_get {α:Type} (f:Nat->Option α):∀ n k,tget (treeOf f n) k=if k<n then f k else none
 | 0,k=>by simp [treeOf,tget]
 | n+1,k=>by
   rw [treeOf,tget_tset,tree_get f n]
   by_cases e:n=k
   .subst e; simp
   .rw [if_neg e]
    by_cases h:k<n
    .rw [if_pos h,if_pos (by omega)]
    .rw [if_neg h,if_neg (by omega)]
def absV (N:Nat):Value->Option Value
 | .pointer (some a)=>if a.spot=none/\a.block<N then some (.pointer (some a)) else none
 | .slice (some a) l c=>if a.spot=none/\a.block<N/\c<unkU then some (.slice (some a) l c) else if l=0 then some vague else none
 | v=>if isPlain v=true then some v else none
def thW (N:Nat):Th:=fun n=>if n<N then some (n,0,0) else none
theorem absV_S {N:Nat} {v u:Value} (h:absV N v=some u):S (thW N) u v:=by
 unfold absV at h
 split at h
 .rename_i a
  split at h
  .rename_i hq
   cases h
   refine ⟨hq.1,(a.block,0,0),by simp [thW,hq.2],?_⟩
   obtain ⟨b,o,sp⟩:=a
   obtain ⟨h1,h2⟩:=hq
   cases h1
   simp
  .cases h
 .rename_i a l c
  split at h
  .rename_i hq
   cases h
   obtain ⟨b,o,sp⟩:=a
   obtain ⟨h1,h2,h3⟩:=hq
   cases h1
   exact .inl ⟨rfl,(b,0,0),c,by simp only at h2; simp [thW,h2],.inl ⟨h3,rfl⟩,by simp⟩
  .split at h
   .rename_i hl
    cases h
    subst hl
    exact .inr ⟨by simp,rfl,Nat.le_refl _,_,_,rfl⟩
   .cases h
 .split at h
  .rename_i hp
   cases h
   exact S_plain hp
  .cases h
def bsz (w:World) (b:Nat):Nat:=match w.heap[b]? with
 | some (.cells c _ _)=>c.size
 | _=>0
def blkOf (w:World) (b:Nat) (i:Nat):Option Value:=match w.cell? ⟨b,i,none⟩ with
 | some v=>if w.frozen? ⟨b,i,none⟩=false then absV w.heap.size v else none
 | none=>none
def entW (w:World) (b:Nat):Ent:=⟨treeOf (blkOf w b) (bsz w b),0,roU,none⟩
def KW (w:World):KH:=fun b=>if b<w.heap.size then some (entW w b) else none
def snapW (w:World):Hp:=⟨treeOf (fun b=>some (entW w b)) w.heap.size,w.heap.size⟩
theorem snap_get (w:World) (k:Nat):tget (snapW w).m k=KW w k:=tree_get _ _ _
theorem KW_some {w:World} {k:Nat} {e:Ent} (h:KW w k=some e):k<w.heap.size/\e=entW w k:=by
 unfold KW at h
 split at h
 .rename_i q; cases h; exact ⟨q,rfl⟩
 .cases h
theorem HR_snap [LG] (w:World):HR (thW w.heap.size) (snapW w) w:=by
 refine ⟨fun n e x he hx=>?_,fun n m e e' x y h1 h2 hne h3 h4=>?_,fun n hn=>?_⟩
 .rw [snap_get] at he
  obtain ⟨h1,rfl⟩:=KW_some he
  have hx':x=(n,0,0):=by
   simp only [thW,if_pos h1,Option.some.injEq] at hx
   exact hx.symm
  subst hx'
  refine ⟨hx,h1,fun i v hi=>?_,fun o ho=>(by cases ho),fun hu=>⟨by simp [entW],fun i hi=>by simp at hi⟩⟩
  simp only [entW,tree_get] at hi
  split at hi
  .unfold blkOf at hi
   simp only [Nat.zero_add]
   cases hc:w.cell? ⟨n,i,none⟩ with
   | none=>rw [hc] at hi; cases hi
   | some u =>
     rw [hc] at hi
     simp only at hi
     split at hi
     .rename_i hf
      exact ⟨⟨u,rfl,absV_S hi⟩,hf⟩
     .cases hi
  .cases hi
 .unfold thW at h3 h4
  split at h3
  .split at h4
   .cases h3; cases h4; exact hne
   .cases h4
  .cases h3
 .have:¬ n<w.heap.size:=by have:w.heap.size<=n:=hn; omega
  simp [thW,this]
theorem cell_lt {w:World} {b o:Nat} {v:Value} (h:w.cell? ⟨b,o,none⟩=some v):b<w.heap.size/\o<bsz w b:=by
 unfold World.cell? at h
 unfold bsz
 cases hb:w.heap[b]? with
 | none=>simp [hb] at h
 | some ob =>
   refine ⟨(Array.getElem?_eq_some_iff.1 hb).1,?_⟩
   rw [hb] at h
   cases ob<;>simp at h ⊢
   rename_i c t fr
   exact (Array.getElem?_eq_some_iff.1 h).1
theorem KW_cell {w:World} {b o:Nat} {v u:Value} (h:w.cell? ⟨b,o,none⟩=some v) (hf:w.frozen? ⟨b,o,none⟩=false) (ha:absV w.heap.size v=some u):∃ e,KW w b=some e/\tget e.cells o=some u:=by
 obtain ⟨h1,h2⟩:=cell_lt h
 refine ⟨entW w b,by unfold KW; rw [if_pos h1],?_⟩
 simp only [entW,tree_get,if_pos h2]
 unfold blkOf
 rw [h]
 simp only [hf,if_true,ha]
theorem KW_ld {w:World} {b o:Nat} {v u:Value} (h:w.cell? ⟨b,o,none⟩=some v) (hf:w.frozen? ⟨b,o,none⟩=false) (ha:absV w.heap.size v=some u):ld (KW w) ⟨b,o,none⟩ [u]:=by
 obtain ⟨e,h1,h2⟩:=KW_cell h hf ha
 refine ⟨rfl,e,h1,?_⟩
 simp only [List.length_singleton,rd,h2]
theorem top {E:Env} (hE:EnvOk E) {g:Nat} {fn:Func} (hfn:tget E.ff g=some fn) {args cargs:List Value} {w:World} {v:Value} (hp:isPlain v=true) (hD:Does E g args (KW w) fun r _=>r=v) (ha:all2 (W (thW w.heap.size)) args cargs) :
 Calls E.P g cargs.toArray w fun e w'=>e = .returned v/\Below w.heap.size w w':=by
 letI:=lgOf E
 obtain ⟨r,h',H',⟨n,hrun⟩,hq,_⟩:=hD.run (snapW w) (fun k hk=>by
  rw [snap_get]
  have:¬ k<w.heap.size:=by have:w.heap.size<=k:=hk; omega
  simp [KW,this]) (fun k e q=>by rw [snap_get]; exact q)
 subst hq
 rcases (call_sound hE (lgOf_ok E) (ev_sound hE (lgOf_ok E) n) (snapW w) g args r h' (hrun n (Nat.le_refl _)) (thW w.heap.size) w cargs (HR_snap w) ha).1 hD.lt with ⟨_,h2⟩ | ⟨u,h1,_,_⟩
 .refine h2.mono fun e w' hq=>?_
  obtain ⟨θ',u,rfl,q1,q2,q3⟩:=hq
  rw [W_plain hp q3]
  refine ⟨rfl,q1.os,q1.tape,q1.output,q1.size,fun k hk=>q1.frame k hk fun n e x q hu _=>?_⟩
  rw [snap_get] at q
  obtain ⟨_,rfl⟩:=KW_some q
  exact absurd rfl hu
 .exfalso
  obtain ⟨f1,f2,c',f3,_⟩:=hE.ff g fn hfn
  have f2' : ¬ fn.name = "runtime.NumGoroutine" := fun e => by rw [e] at f2; simp at f2
  simp [callFunc,f1,f2',f3] at h1
section
variable {H : Type} {enc : TypeId × Value -> H} {P : Program} {w : World}
theorem cells_get {b n:Nat} {a:Addr} {cs:List Value} (h:w.cells? b a n=some cs):cs.length=n/\∀ i v,cs[i]? = some v->w.cell? (a.add i)=some v:=by
 unfold World.cells? at h
 split at h
 .refine ⟨by simpa using mapM_some_length h,fun i v hv=>?_⟩
  have hi:i<n:=by
   have:=mapM_some_length h
   rcases Nat.lt_or_ge i n with q | q
   .exact q
   .rw [List.getElem?_eq_none (by simp at this; omega)] at hv; cases hv
  have:=mapM_some_get h i i (by simp [hi])
  rw [this]; exact hv
 .cases h
theorem cell_spot {a:Addr} {v:Value} (h:w.cell? a=some v):a.spot=none:=by
 unfold World.cell? at h
 cases hs:a.spot with
 | none=>rfl
 | some s =>
   rw [hs] at h
   split at h<;>simp_all
theorem arg_slice {t e:TypeId} {v:Value} {d:DataW H} {ps:List MemPlace} (ht:P.underlying t=some (.slice e)) (he:P.cellsOf e=1) (h:DataW.Trod enc P w 0 (fun _=>true) true t v d ps) (hf:w.noneFrozen ps) (hv:∃ a l c,v = .slice a l c) :
 ∃ a n c,absV w.heap.size v=some (.slice a n c)/\∀ i,i<n->∃ b o x y m,a=some ⟨b,o,none⟩/\w.cell? ⟨b,o+i,none⟩=some x/\w.frozen? ⟨b,o+i,none⟩=false/\DataW.trod enc P w 0 (fun _=>true) true m e [x]=some y/\∀ p∈y.2,p∈ps:=by
 obtain ⟨fuel,hd⟩:=h
 obtain ⟨a0,l0,c0,rfl⟩:=hv
 have hcs:(Value.slice a0 l0 c0).cells.toList=[.slice a0 l0 c0]:=rfl
 rw [hcs] at hd
 rcases DataW.trod_slice ht hd with ⟨h1,h2⟩ | ⟨a,len,cap,elems,rest,n,_,h1,h2,_,h3,h4,h5,h6,_⟩
 .cases h1
  exact ⟨none,0,0,rfl,fun i hi=>by omega⟩
 .cases h1
  simp only [Prod.mk.injEq] at h2
  obtain ⟨rfl,rfl⟩:=h2
  have hmax:maxLen<unkU:=by decide
  by_cases hl:l0=0
  .subst hl
   have hab:absV w.heap.size (.slice (some a) 0 c0)=if a.spot=none/\a.block<w.heap.size/\c0<unkU then some (.slice (some a) 0 c0) else if 0=0 then some vague else none:=rfl
   by_cases hq:a.spot=none/\a.block<w.heap.size/\c0<unkU
   .rw [if_pos hq] at hab
    exact ⟨_,_,_,hab,fun i hi=>by omega⟩
   .rw [if_neg hq,if_pos rfl] at hab
    exact ⟨_,_,_,hab,fun i hi=>by omega⟩
  .have elem:∀ i,i<l0->∃ x y,w.cell? (a.add i)=some x/\DataW.trod enc P w 0 (fun _=>true) true n e [x]=some y/\y∈elems:=by
    intro i hi
    have h7:=h6 i hi
    rw [List.getElem?_eq_getElem (by omega)] at h7
    obtain ⟨cs,k1,k2⟩:=Option.bind_eq_some_iff.1 h7
    obtain ⟨k3,k4⟩:=cells_get k1
    rw [he] at k3 k4
    match cs,k3 with
    | [x],_ =>
      have k5:=k4 0 x rfl
      have e1:(a.add (i*1)).add 0=a.add i:=by
       rw [Nat.mul_one]
       generalize a.add i=z
       obtain ⟨b,o,sp⟩:=z
       unfold Addr.add
       simp
      rw [e1] at k5
      exact ⟨x,_,k5,k2,List.getElem_mem _⟩
   obtain ⟨x0,_,c1,_,_⟩:=elem 0 (by omega)
   have hs:a.spot=none:=by
    have:=cell_spot c1
    obtain ⟨b,o,sp⟩:=a
    unfold Addr.add at this
    simpa using this
   obtain ⟨b,o,sp⟩:=a
   cases hs
   rw [add_addr] at c1
   have hb:=(cell_lt c1).1
   have hcu:c0<unkU:=by omega
   refine ⟨some ⟨b,o,none⟩,l0,c0,by simp [absV,hb,hcu],fun i hi=>?_⟩
   obtain ⟨x,y,k1,k2,k3⟩:=elem i hi
   rw [add_addr] at k1
   refine ⟨b,o,x,y,n,rfl,k1,hf b (o+i) ?_,k2,fun p hp=>?_⟩
   .refine List.mem_append_left _ ?_
    unfold MemPlace.row
    rw [he,Nat.mul_one]
    exact List.mem_map.2 ⟨i,by simp; omega,rfl⟩
   .refine List.mem_append_right _ (List.mem_flatMap.2 ⟨y,by simp [k3],hp⟩)
theorem trod_int {t:TypeId} {k:IntKind} {x:Value} {m:Nat} {y:DataW H × List MemPlace} (ht:P.underlying t=some (.int k)) (h:DataW.trod enc P w 0 (fun _=>true) true m t [x]=some y):∃ n,x = .int k n/\(Lit.int k n).wf=true/\y=(.lit (.int k n),[]):=by
 cases m with
 | zero=>simp [DataW.trod] at h
 | succ m =>
   unfold DataW.trod at h
   rw [ht] at h
   cases x<;>simp at h
   rename_i k' n
   obtain ⟨⟨rfl,h2⟩,h3⟩:=h
   exact ⟨n,rfl,h2,h3.symm⟩
theorem trodAll_below {W W':World} (hl:laidOutB P=true) (hb:Below W.heap.size W W'):∀ (ts:List TypeId) (vs:List Value) (ds:List (DataW H)) (ps:List MemPlace),(∀ t∈ts,P.readableRec t=true/\t<P.types.size)->
 DataW.TrodAll enc P W 0 (fun _=>true) true ts vs ds ps->(∀ x∈ps,x.block<W.heap.size)->DataW.TrodAll enc P W' 0 (fun b=>decide (b<W.heap.size)) true ts vs ds ps
 | [],[],[],ps,_,h,_=>h
 | t :: ts,v :: vs,d :: ds,ps,ht,⟨p,q,h1,h2,h3⟩,hlt=>by
   subst h3
   exact ⟨p,q,Below.trod hl (ht t (by simp)).1 (ht t (by simp)).2 h1 hb (fun x hx=>hlt x (by simp [hx])),trodAll_below hl hb ts vs ds q (fun t' h'=>ht t' (by simp [h'])) h2 (fun x hx=>hlt x (by simp [hx])),rfl⟩
 | [],_ :: _,_,_,_,h,_=>by cases h
 | [],[],_ :: _,_,_,h,_=>by cases h
 | _ :: _,[],_,_,_,h,_=>by cases h
 | _ :: _,_ :: _,[],_,_,h,_=>by cases h
theorem arg_u8 {t e:TypeId} {v:Value} {d:DataW H} {ps:List MemPlace} (ht:P.underlying t=some (.slice e)) (he:P.cellsOf e=1) (hu:P.underlying e=some (.int .u8)) (h:DataW.Trod enc P w 0 (fun _=>true) true t v d ps) (hf:w.noneFrozen ps) (hv:∃ a l c,v = .slice a l c) :
 ∃ a n c,absV w.heap.size v=some (.slice a n c)/\∀ i,i<n->∃ b o x,a=some ⟨b,o,none⟩/\ld (KW w) ⟨b,o+i,none⟩ [.int .u8 x]/\0<=x/\x<=255:=by
 obtain ⟨a,n,c,h1,h2⟩:=arg_slice ht he h hf hv
 refine ⟨a,n,c,h1,fun i hi=>?_⟩
 obtain ⟨b,o,x,y,m,k1,k2,k3,k4,_⟩:=h2 i hi
 obtain ⟨z,rfl,hz,_⟩:=trod_int hu k4
 refine ⟨b,o,z,k1,KW_ld k2 k3 rfl,?_⟩
 simp only [Lit.wf,Bool.and_eq_true,decide_eq_true_eq] at hz
 have e1:IntKind.min .u8=0:=by decide
 have e2:IntKind.max .u8=255:=by decide
 omega
theorem absV_W {N:Nat} {v u:Value} (h:absV N v=some u):W (thW N) u v:=W_of_S (absV_S h)
theorem arg_byte {t:TypeId} {v:Value} {d:DataW H} {ps:List MemPlace} (ht:P.underlying t=some (.int .u8)) (h:DataW.Trod enc P w 0 (fun _=>true) true t v d ps) (hv:∃ n,v = .int .u8 n):∃ n:Nat,v = .int .u8 n/\n<=255:=by
 obtain ⟨m,rfl⟩:=hv
 obtain ⟨fuel,hd⟩:=h
 obtain ⟨z,e,hz,_⟩:=trod_int ht hd
 cases e
 simp only [Lit.wf,Bool.and_eq_true,decide_eq_true_eq] at hz
 have e1:IntKind.min .u8=0:=by decide
 have e2:IntKind.max .u8=255:=by decide
 exact ⟨m.toNat,by congr 1; omega,by omega⟩
end
end Go.Ew
namespace Go.Ew
open Go.Ev Go.Deep
theorem RowsB.at_ {H:KH} {a:OA} {N M i:Nat} {X:Int->Int->Bool} (h:RowsB H a N M X) (hi:i<N):∃ b o a' c',a=some ⟨b,o,none⟩/\ld H ⟨b,o+i*1,none⟩ [.slice a' M c']/\kold H 1 a' M=some (famC (bit1 (X (i:Int))) M):=by
 obtain ⟨l,rfl,h2,h3⟩:=h.ex
 obtain ⟨b,o,ha,r⟩:=it_ld (k:=1) (f:=fun x:Hd=>[.slice x.a M x.c]) (fun _=>rfl) h2 hi
 exact ⟨b,o,l[i].a,l[i].c,ha,r,h3 i hi⟩
end Go.Ew
namespace Go.Proofs.Ytefiipkfppaibaa
open Go.Ev Go.Ew
namespace Va
section
variable (ok : EnvOk (env Try.prog))
include ok
theorem c25 {a1 a2:OA} {c1 c2 M:Nat} {f h:Int->Bool} {H:KH} {Q:PQ} (hM:M<=1000) (k1:kold H 1 a1 M=some (famC (bit1 f) M)) (k2:kold H 1 a2 M=some (famC (bit1 h) M)) (e:∀ t,f t=true->h t=true) (hq:Q (.bool true) H):Does (env Try.prog) 25 [.slice a1 M c1,.slice a2 M c2] H Q:=by
 refine fn25 ok ⟨fun z=>absurd rfl (of_decide_eq_true z),fun _=>?_⟩
 unfold vc25_L1
 refine ⟨fun k a4 n5 n6 a7 n8 n9 x10 H11=>a4=a1/\n5=M/\a7=a2/\n8=M/\H11=H/\∃ i:Nat,x10=i/\i<=M/\k=M-i,⟨M,rfl,rfl,rfl,rfl,rfl,0,rfl,by omega,rfl⟩,?_⟩
 rintro k a4 n5 n6 a7 n8 n9 x10 H11 ⟨rfl,rfl,rfl,rfl,rfl,i,rfl,hi,rfl⟩
 refine ⟨fun y=>?_,fun _=>hq⟩
 have y:i<n8:=by have:=of_decide_eq_true y; omega
 have e0:Int.toNat ((i:Nat):Int)=i:=by omega
 have hi1:IntKind.wrap .i64 (((i:Nat):Int)+1)=((i+1:Nat):Int):=by rw [wrap64 (by omega) (by omega)]; omega
 obtain ⟨b1,o1,ha1,r1⟩:=bit_ld k1 y
 obtain ⟨b2,o2,ha2,r2⟩:=bit_ld k2 y
 rw [e0,hi1]
 refine ⟨⟨by omega,by omega⟩,b1,o1,ha1,_,r1,fun q=>⟨⟨by omega,by omega⟩,b2,o2,ha2,_,r2,fun q2=>?_,fun _=>?_⟩,fun _=>?_⟩
 .rw [e _ q] at q2; cases q2
 .exact ⟨n8-(i+1),by omega,rfl,rfl,rfl,rfl,rfl,i+1,rfl,by omega,rfl⟩
 .exact ⟨n8-(i+1),by omega,rfl,rfl,rfl,rfl,rfl,i+1,rfl,by omega,rfl⟩
theorem l5a {G K:List Pr} {N M:Nat} {a1 a2 a3 a4 a5 a6:OA} {c1 c2 c3 c4 c5 c6:Nat} {n1 n2:Int->Bool} {f1 f2 l1 l2:Int->Int->Bool} {H:KH} (hN:N<=1000) (hM:M<=100) (hs:∀ p∈G,p∈K)
 (k1:kold H 1 a1 N=some (famC (bit1 n1) N)) (i1:IsN G n1) (k2:RowsB H a2 N M f1) (i2:IsF G f1) (k3:RowsB H a3 N (M+1) l1) (i3:IsL G M l1)
 (k4:kold H 1 a4 N=some (famC (bit1 n2) N)) (i4:IsN K n2) (k5:RowsB H a5 N M f2) (i5:IsF K f2) (k6:RowsB H a6 N (M+1) l2) (i6:IsL K M l2) :
 vc5_L2 a1 N c1 a2 N c2 a3 N c3 a4 N c4 a5 N c5 a6 N c6 H fun v _=>v = .bool true:=by
 unfold vc5_L2
 refine ⟨fun k b4 n5 n6 b7 n8 n9 b10 n11 n12 b13 n14 n15 b16 n17 n18 b19 n20 n21 x22 H23=>b4=a1/\n5=N/\b7=a2/\n8=N/\b10=a3/\n11=N/\b13=a4/\n14=N/\b16=a5/\n17=N/\b19=a6/\n20=N/\H23=H/\∃ i:Nat,x22=i/\i<=N/\k=N-i,⟨N,rfl,rfl,rfl,rfl,rfl,rfl,rfl,rfl,rfl,rfl,rfl,rfl,rfl,0,rfl,by omega,rfl⟩,?_⟩
 rintro k b4 n5 n6 b7 n8 n9 b10 n11 n12 b13 n14 n15 b16 n17 n18 b19 n20 n21 x22 H23 ⟨rfl,rfl,rfl,rfl,rfl,rfl,rfl,rfl,rfl,rfl,rfl,rfl,rfl,i,rfl,hi,rfl⟩
 refine ⟨fun y=>?_,fun _=>rfl⟩
 have y:i<n20:=by have:=of_decide_eq_true y; omega
 have e0:Int.toNat ((i:Nat):Int)=i:=by omega
 have hi1:IntKind.wrap .i64 (((i:Nat):Int)+1)=((i+1:Nat):Int):=by rw [wrap64 (by omega) (by omega)]; omega
 obtain ⟨p1,o1,ha1,r1⟩:=bit_ld k1 y
 obtain ⟨p4,o4,ha4,r4⟩:=bit_ld k4 y
 obtain ⟨p2,o2,d2,e2,ha2,r2,s2⟩:=k2.at_ y
 obtain ⟨p3,o3,d3,e3,ha3,r3,s3⟩:=k3.at_ y
 obtain ⟨p5,o5,d5,e5,ha5,r5,s5⟩:=k5.at_ y
 obtain ⟨p6,o6,d6,e6,ha6,r6,s6⟩:=k6.at_ y
 have m1:n1 (i:Int)=true->n2 (i:Int)=true:=fun h=>(i4 _).2 (((i1 _).1 h).more hs)
 have m2:∀ t,f1 (i:Int) t=true->f2 (i:Int) t=true:=fun t h=>(i5 _ t).2 (((i2 _ t).1 h).more hs)
 have m3:∀ t,l1 (i:Int) t=true->l2 (i:Int) t=true:=fun t h=>(i6 _ t).2 (((i3 _ t).1 h).more hs)
 rw [e0,hi1]
 have bo:0<=((i:Nat):Int)/\((i:Nat):Int)<n20:=⟨by omega,by omega⟩
 refine ⟨trivial,bo,p1,o1,ha1,_,r1,fun q=>⟨bo,p4,o4,ha4,_,r4,fun q2=>?_,fun _=>⟨bo,p2,o2,ha2,_,_,_,r2,bo,p5,o5,ha5,_,_,_,r5,c25 ok (by omega) s2 s5 m2 ⟨_,rfl,trivial,fun q=>(by cases q),fun _=>⟨bo,p3,o3,ha3,_,_,_,r3,bo,p6,o6,ha6,_,_,_,r6,c25 ok (by omega) s3 s6 m3 ⟨_,rfl,trivial,fun q=>(by cases q),fun _=>⟨n20-(i+1),by omega,rfl,rfl,rfl,rfl,rfl,rfl,rfl,rfl,rfl,rfl,rfl,rfl,rfl,i+1,rfl,by omega,rfl⟩⟩⟩⟩⟩⟩,fun q=>⟨bo,p2,o2,ha2,_,_,_,r2,bo,p5,o5,ha5,_,_,_,r5,c25 ok (by omega) s2 s5 m2 ⟨_,rfl,trivial,fun q=>(by cases q),fun _=>⟨bo,p3,o3,ha3,_,_,_,r3,bo,p6,o6,ha6,_,_,_,r6,c25 ok (by omega) s3 s6 m3 ⟨_,rfl,trivial,fun q=>(by cases q),fun _=>⟨n20-(i+1),by omega,rfl,rfl,rfl,rfl,rfl,rfl,rfl,rfl,rfl,rfl,rfl,rfl,rfl,i+1,rfl,by omega,rfl⟩⟩⟩⟩⟩⟩
 rw [m1 q] at q2; cases q2
theorem l5b {g:Gm} {d:Pr} {H:KH} (gi:GI H g) (hg:MayG g) (hd:ProdOk g.toks g.nts.length d) (hp:g.prods.length<16) (hr:kold H 2 d.ra d.right.length=some (syC d.right)) (hc:CutI H d.ra d.rc d.right) :
 vc5_J3 H d.left d.ra d.right.length d.rc d.ua d.un d.uc g.pa g.prods.length g.pc g.ta g.toks.length g.tc g.na g.nts.length g.nc fun v _=>v = .bool true:=by
 have t1:=hg.t
 have t2:=hg.n
 unfold vc5_J3
 refine ⟨trivial,fun n1 h1 n2 h2 n3 h3=>?_⟩
 have ez:lrep [Value.int .i64 0,.slice none 0 0,.slice none 0 0] 0=[]:=rfl
 rw [ez] at h2 h3 ⊢
 have h3':=(Le.new (e:=mkEnt [.int .i64 d.left,.slice d.ra d.right.length d.rc,.slice d.ua d.un d.uc] 0) h2).none h3
 rw [hide_new h2]
 have o:Own H (H.new n1 (mkEnt [] 0)) 3 (some ⟨n1,0,none⟩) 0 0 []:=.lit n1 0 [] (if_pos rfl) rfl (by decide) h1
 have lp:(prC g.prods).length=g.prods.length*3:=fm_len (k:=3) (fun _=>rfl) _
 obtain ⟨a6,n8,H9,f1,f2,f3,f4,f5⟩:=o.append (ti:=tiP) (nm:=n3) (m:=g.prods.length) (new:=prC g.prods) (Le.new h1) h3' lp (by omega) (by decide) (by decide)
 rw [Nat.zero_add] at f1 f2
 refine ⟨_,_,knew_of (ti:=tiP) ((Le.new h1).kold gi.p),a6,_,n8,H9,f1,fun h9=>⟨⟨rfl,trivial⟩,fun n10 h10=>?_⟩⟩
 rw [back_new] at h10 ⊢
 have l9:=Le.new (e:=mkEnt [.int .i64 d.left,.slice d.ra d.right.length d.rc,.slice d.ua d.un d.uc] 0) h9
 have f2':Own H (H9.new n2 (mkEnt [.int .i64 d.left,.slice d.ra d.right.length d.rc,.slice d.ua d.un d.uc] 0)) tiP.size a6 g.prods.length n8 (prC g.prods):=Own.mono l9 f2
 obtain ⟨a13,n15,H16,g1,g2,g3,g4,g5⟩:=f2'.append (ti:=tiP) (nm:=n10) (m:=1) (new:=[.int .i64 d.left,.slice d.ra d.right.length d.rc,.slice d.ua d.un d.uc]) (f3.trans l9) h10 rfl (by omega) (by decide) (by decide)
 refine ⟨1,_,knew_of (ti:=tiP) (lit_kold (if_pos rfl) rfl),a13,_,n15,H16,g1,trivial,trivial,trivial,?_⟩
 have kp:=g2.cells
 have ep:prC g.prods++[.int .i64 d.left,.slice d.ra d.right.length d.rc,.slice d.ua d.un d.uc]=prC (g.prods++[d]):=(List.flatMap_append (xs:=g.prods) (ys:=[d])).symm
 have gi':=gi.up g3
 have gh:GI H16 ⟨g.ta,g.tc,g.toks,g.na,g.nc,g.nts,a13,n15,g.prods++[d]⟩:=⟨gi'.t,gi'.n,by
  show kold H16 3 a13 (g.prods++[d]).length=some (prC (g.prods++[d]))
  rw [List.length_append,<- ep]; exact kp,gi'.ni,gi'.pi.appK (g3.kold hr) (hc.up g3)⟩
 have hh:MayG ⟨g.ta,g.tc,g.toks,g.na,g.nc,g.nts,a13,n15,g.prods++[d]⟩:=⟨hg.t,hg.n,⟨by show 1<=(g.prods++[d]).length; rw [List.length_append]; have:=hg.p; omega,by show (g.prods++[d]).length<=16; rw [List.length_append]; show _+1<=_; omega⟩,hg.nm,hg.at_,app_all (P:=fun _ x=>ProdOk g.toks g.nts.length x) hg.pr hd⟩
 have el:g.prods.length+1=(g.prods++[d]).length:=by rw [List.length_append]; rfl
 rw [el]
 refine c14 ok gi' hg fun b1 H18 nl1 l1 k1 i1=>⟨_,_,_,rfl,⟨rfl,rfl,trivial⟩,c16 ok (gi'.up l1) hg fun a2 e2 H23 fs1 l2 k2 i2=>⟨_,_,_,rfl,⟨rfl,trivial⟩,c17 ok (gi'.up (l1.trans l2)) hg fun a3 e3 H28 fl1 l3 k3 i3=>⟨_,_,_,rfl,trivial,trivial,?_⟩⟩⟩
 refine c14 ok (g:=⟨g.ta,g.tc,g.toks,g.na,g.nc,g.nts,a13,n15,g.prods++[d]⟩) (gh.up (l1.trans (l2.trans l3))) hh fun b4 H33 nl2 l4 k4 i4=>⟨_,_,_,rfl,⟨rfl,rfl,trivial⟩,c16 ok (g:=⟨g.ta,g.tc,g.toks,g.na,g.nc,g.nts,a13,n15,g.prods++[d]⟩) (gh.up ((l1.trans (l2.trans l3)).trans l4)) hh fun a5 e5 H38 fs2 l5 k5 i5=>⟨_,_,_,rfl,⟨rfl,trivial⟩,c17 ok (g:=⟨g.ta,g.tc,g.toks,g.na,g.nc,g.nts,a13,n15,g.prods++[d]⟩) (gh.up ((l1.trans (l2.trans l3)).trans (l4.trans l5))) hh fun a6 e6 H43 fl2 l6 k6 i6=>⟨_,_,_,rfl,trivial,?_⟩⟩⟩
 have na:∀ {n:Nat} {P:Prop},decide (¬ n=n)=true->P:=fun q=>absurd rfl (of_decide_eq_true q)
 have ll:=l4.trans (l5.trans l6)
 refine ⟨fun q=>absurd rfl (of_decide_eq_true q),fun _=>⟨fun q=>absurd rfl (of_decide_eq_true q),fun _=>⟨fun q=>absurd rfl (of_decide_eq_true q),fun _=>⟨fun q=>absurd rfl (of_decide_eq_true q),fun _=>⟨fun q=>absurd rfl (of_decide_eq_true q),fun _=>⟨fun q=>absurd rfl (of_decide_eq_true q),fun _=>?_⟩⟩⟩⟩⟩⟩
 exact l5a ok (by omega) (by omega) (fun p hp=>List.mem_append_left _ hp) ((l2.trans (l3.trans ll)).kold k1) i1 (k2.up (l3.trans ll)) i2 (k3.up ll) i3 ((l5.trans l6).kold k4) i4 (k5.up l6) i5 k6 i6
theorem c5 {a a2:OA} {n c n2 c2:Nat} {H:KH} (hl:∀ i,i<n->∃ b o x,a=some ⟨b,o,none⟩/\ld H ⟨b,o+i,none⟩ [.int .u8 x]/\0<=x/\x<=255) (hl2:∀ i,i<n2->∃ b o x,a2=some ⟨b,o,none⟩/\ld H ⟨b,o+i,none⟩ [.int .u8 x]/\0<=x/\x<=255):Does (env Try.prog) 5 [.slice a n c,.slice a2 n2 c2] H fun v _=>v = .bool true:=by
 refine fn5 ok (c8 ⟨true,rfl,fun z=>(by cases z),fun _=>⟨fun _=>rfl,fun z=>⟨fun _=>rfl,fun z2=>?_⟩⟩⟩)
 have hn:n<=150:=by have:=of_decide_eq_false z; omega
 have hn2:n2<=10:=by have:=of_decide_eq_false z2; omega
 have hb:PkB H a n:=⟨hl,hn⟩
 have hb2:PkB H a2 n2:=⟨hl2,by omega⟩
 refine c9 ok hb fun p H2 _ h=>⟨p,0,rfl,c10s ok hb h fun g Z' H6 hZ s h1 h2 hg hsk=>⟨_,_,_,_,_,_,_,_,_,rfl,fun _=>rfl,fun z3=>?_⟩⟩
 have hp16:g.prods.length<16:=by have:=of_decide_eq_false z3; omega
 have gi:=s.gi h1 h2
 have hb2:=hb2.up (hZ.trans s.r.le)
 clear s h1 h2 h hb z z2 z3
 have t1:=hg.t
 have t2:=hg.n
 refine c9 ok hb2 fun q H3 _ s=>⟨q,0,rfl,c24 ok (m:=g.nts.length) hb2 s (by omega) fun x7 H4 x70 x71 s=>⟨x7,rfl,c24 ok (m:=3) hb2 s (by decide) fun x10 H5 y0 y1 s=>⟨x10,rfl,?_⟩⟩⟩
 have e1:x10=((x10.toNat:Nat):Int):=by omega
 rw [e1]
 unfold vc5_L5
 refine ⟨fun k b4 n5 n6 b7 n8 n9 b10 n11 n12 n13 n14 x15 a16 n17 n18 a19 n20 n21 x22 H23=>b4=g.ta/\n5=g.toks.length/\n6=g.tc/\b7=g.na/\n8=g.nts.length/\n9=g.nc/\b10=g.pa/\n11=g.prods.length/\n12=g.pc/\n13=q/\n14=0/\x15=x7/\a19=none/\n20=0/\n21=0/\∃ (m:Nat) (right:List Sy),x22=m/\k=m/\n17=right.length/\right.length+m<=2/\(∀ s∈right,s.tok=false/\0<=s.pos/\s.pos<g.nts.length)/\St H6 H23 q a2 n2 c2 [⟨2,a16,right.length,n18,syC right⟩],⟨x10.toNat,rfl,rfl,rfl,rfl,rfl,rfl,rfl,rfl,rfl,rfl,rfl,rfl,rfl,rfl,rfl,rfl,x10.toNat,[],rfl,rfl,rfl,by simp; omega,fun _ q=>(by cases q),s.none_⟩,?_⟩
 clear s
 rintro k b4 n5 n6 b7 n8 n9 b10 n11 n12 n13 n14 x15 a16 n17 n18 a19 n20 n21 x22 H23 ⟨rfl,rfl,rfl,rfl,rfl,rfl,rfl,rfl,rfl,rfl,rfl,rfl,rfl,rfl,rfl,m,right,rfl,rfl,rfl,hm,hri,s⟩
 have fin:∀ (right:List Sy) (a16:OA) (n18:Nat) (H:KH),right.length<=3->(∀ s∈right,SymOk g.toks g.nts.length s)->St H6 H n13 a2 n2 c2 [⟨2,a16,right.length,n18,syC right⟩]->vc5_J3 H x15 a16 right.length n18 none 0 0 g.pa g.prods.length g.pc g.ta g.toks.length g.tc g.na g.nts.length g.nc fun v _=>v = .bool true:=by
  intro right a16 n18 H hlen hsy s
  obtain ⟨Z3,hZ3,s3,gr⟩:=s.freezeG
  have gr:Gs Z3 2 a16 right.length n18 (syC right):=gr
  exact l5b ok (d:=⟨x15,a16,n18,right,none,0,0⟩) (gi.up (hZ3.trans s3.r.le)) hg ⟨⟨x70,x71⟩,by show right.length<=5; omega,fun i hi=>hsy _ (List.getElem_mem hi)⟩ hp16 (s3.r.le.kold gr.row) ((CutI.grown gr).up s3.r.le)
 have hso:∀ s∈right,SymOk g.toks g.nts.length s:=fun s hs=>⟨(hri s hs).2.1,fun q=>(by rw [(hri s hs).1] at q; cases q),fun _=>(hri s hs).2.2⟩
 refine ⟨fun z=>?_,fun z=>?_⟩
 .have z:0<k:=by have:=of_decide_eq_true z; omega
  have ew:IntKind.wrap .i64 (((k:Nat):Int)-1)=((k-1:Nat):Int):=by rw [wrap64 (by omega) (by omega)]; omega
  refine ⟨trivial,c24 ok (m:=g.nts.length) hb2 s (by omega) fun x3 H2 w0 w1 s=>⟨x3,rfl,⟨⟨rfl,rfl⟩,rfl,trivial⟩,fun n4 h4 n5 h5=>⟨1,[.bool false,.int .i64 x3],knew_of (ti:=tiY) (lit_kold (if_pos rfl) rfl),?_⟩⟩⟩
  obtain ⟨a8,c9,H11,f1,f2⟩:=(s.new h4).app (ti:=tiY) (nm:=n5) (m:=1) (new:=[.bool false,.int .i64 x3]) h5 rfl rfl (by show right.length+1<=_; omega) (by decide) (by decide)
  rw [ew]
  refine ⟨a8,_,c9,H11,f1,trivial,trivial,k-1,by omega,rfl,rfl,rfl,rfl,rfl,rfl,rfl,rfl,rfl,rfl,rfl,rfl,rfl,rfl,rfl,rfl,k-1,right++[⟨false,x3⟩],rfl,rfl,by rw [List.length_append]; rfl,by rw [List.length_append]; show right.length+1+_<=2; omega,fun y hy=>?_,?_⟩
  .rcases List.mem_append.1 hy with hy | hy
   .exact hri y hy
   .rw [List.mem_singleton.1 hy]; exact ⟨rfl,w0,w1⟩
  .rw [syC_app,List.length_append]; exact f2
 .have z:k=0:=by have:=of_decide_eq_false z; omega
  subst z
  refine c24 ok (m:=2) hb2 s (by decide) fun x3 H2 w0 w1 s=>⟨x3,rfl,fun q0=>⟨trivial,c24 ok (m:=g.toks.length) hb2 s (by omega) fun x6 H5 v0 v1 s=>⟨x6,rfl,⟨⟨rfl,rfl⟩,rfl,trivial⟩,fun n7 h7 n8' h8=>⟨1,[.bool true,.int .i64 x6],knew_of (ti:=tiY) (lit_kold (if_pos rfl) rfl),?_⟩⟩⟩,fun _=>fin right a16 n18 H2 (by omega) hso s⟩
  obtain ⟨a8,c9,H11,f1,f2⟩:=(s.new h7).app (ti:=tiY) (nm:=n8') (m:=1) (new:=[.bool true,.int .i64 x6]) h8 rfl rfl (by show right.length+1<=_; omega) (by decide) (by decide)
  have f2:St H6 H11 n13 a2 n2 c2 [⟨2,a8,(right++[(⟨true,x6⟩:Sy)]).length,c9,syC (right++[(⟨true,x6⟩:Sy)])⟩]:=by rw [syC_app,List.length_append]; exact f2
  have hl:right.length+1=(right++[(⟨true,x6⟩:Sy)]).length:=by rw [List.length_append]; rfl
  refine ⟨a8,_,c9,H11,f1,trivial,trivial,?_⟩
  show vc5_J3 H11 x15 a8 (right.length+1) c9 none 0 0 g.pa g.prods.length g.pc g.ta g.toks.length g.tc g.na g.nts.length g.nc _
  rw [hl]
  refine fin (right++[⟨true,x6⟩]) a8 c9 H11 (by rw [<- hl]; omega) (fun y hy=>?_) f2
  rcases List.mem_append.1 hy with hy | hy
  .exact hso y hy
  .rw [List.mem_singleton.1 hy]
   exact ⟨v0,fun _=>⟨by show x6.toNat<_; omega,hsk _ (List.getElem_mem _)⟩,fun q=>by cases q⟩
end
end Va
end Go.Proofs.Ytefiipkfppaibaa
namespace Go.Ew
open Go.Ev Go.Deep
inductive Ix where
 | n
 | f (i:Nat)
 | o (i:Nat)
def ixD (N:Nat):Ix->Prop
 | .n=>True
 | .f i=>i<N
 | .o i=>i<N
def ixN (nb:Nat) (fb ob:Nat->Nat):Ix->Nat
 | .n=>nb
 | .f i=>fb i
 | .o i=>ob i
def ixC (N M:Nat) (Y:Int->Int->Bool):Ix->List Value
 | .n=>famC (bit1 fun i=>Y i 0) N
 | .f i=>famC (bit1 fun t=>Y (i:Int) (1+t)) M
 | .o i=>famC (bit1 fun t=>Y (i:Int) (1+(M:Int)+t)) (M+1)
def hdrC (M:Nat) (fb:Nat->Nat) (i:Int):List Value:=[.slice (some ⟨fb i.toNat,0,none⟩) M M]
structure RefS (Z H:KH) (N M nb:Nat) (fb ob:Nat->Nat) (aF aO:OA) (Y:Int->Int->Bool):Prop where
 b:Bxs Z H (ixD N) (ixN nb fb ob) (ixC N M Y)
 hf:kold Z 1 aF N=some (famC (hdrC M fb) N)
 ho:kold Z 1 aO N=some (famC (hdrC (M+1) ob) N)
def Up1 (Y:Int->Int->Bool) (x c:Int):Int->Int->Bool:=Up Y x fun t=>decide (t=c)
theorem up1_at (Y:Int->Int->Bool) (x c:Int):Up1 Y x c x c=true:=by simp [Up1,Up]
theorem up1_ne {Y:Int->Int->Bool} {x c i t:Int} (h:i≠x\/t≠c):Up1 Y x c i t=Y i t:=by
 unfold Up1 Up
 rcases h with h | h
 .rw [decide_eq_false h,Bool.false_and,Bool.or_false]
 .show (Y i t||(decide (i=x)&&decide (t=c)))=Y i t
  rw [decide_eq_false h,Bool.and_false,Bool.or_false]
section
variable {Z H : KH} {N M nb : Nat} {fb ob : Nat -> Nat} {aF aO : OA} {Y : Int -> Int -> Bool}
theorem RefS.up {H':KH} (h:RefS Z H N M nb fb ob aF aO Y) (hl:Le H H'):RefS Z H' N M nb fb ob aF aO Y:=⟨h.b.up hl,h.hf,h.ho⟩
theorem bit_cut {f:Int->Bool} {n i:Nat} (hi:i<n):famC (bit1 f) n=famC (bit1 f) i++[.bool (f (i:Int))]++(List.range' (i+1) (n-i-1)).flatMap fun j:Nat=>bit1 f (j:Int):=fam_cut hi
theorem bit_len (f:Int->Bool) (n:Nat):(famC (bit1 f) n).length=n:=by rw [fam_len (k:=1) (bit1_len f),Nat.mul_one]
theorem bit_set {f f':Int->Bool} {n i:Nat} (hi:i<n) (e:∀ j:Nat,j≠i->f' (j:Int)=f (j:Int)):famC (bit1 f') n=famC (bit1 f) i++[.bool (f' (i:Int))]++(List.range' (i+1) (n-i-1)).flatMap fun j:Nat=>bit1 f (j:Int):=fam_set (h':=bit1 f') hi fun j hj=>by unfold bit1; rw [e j hj]
theorem bit_congr {f f':Int->Bool} {n:Nat} (e:∀ i:Nat,i<n->f (i:Int)=f' (i:Int)):famC (bit1 f) n=famC (bit1 f') n:=fam_congr fun i hi=>by unfold bit1; rw [e i hi]
theorem RefS.ldN (h:RefS Z H N M nb fb ob aF aO Y) {i:Nat} (hi:i<N):ld H ⟨nb,0+i*1,none⟩ [.bool (Y (i:Int) 0)]:=by
 have:=Bxs.ld h.b (j:=.n) trivial (bit_cut (f:=fun i=>Y i 0) hi)
 rw [bit_len] at this
 rw [Nat.zero_add,Nat.mul_one]
 exact this
theorem RefS.ldF (h:RefS Z H N M nb fb ob aF aO Y) {i t:Nat} (hi:i<N) (ht:t<M):ld H ⟨fb i,0+t*1,none⟩ [.bool (Y (i:Int) (1+(t:Int)))]:=by
 have:=Bxs.ld h.b (j:=.f i) hi (bit_cut (f:=fun t=>Y (i:Int) (1+t)) ht)
 rw [bit_len] at this
 rw [Nat.zero_add,Nat.mul_one]
 exact this
theorem RefS.ldO (h:RefS Z H N M nb fb ob aF aO Y) {i t:Nat} (hi:i<N) (ht:t<M+1):ld H ⟨ob i,0+t*1,none⟩ [.bool (Y (i:Int) (1+(M:Int)+(t:Int)))]:=by
 have:=Bxs.ld h.b (j:=.o i) hi (bit_cut (f:=fun t=>Y (i:Int) (1+(M:Int)+t)) ht)
 rw [bit_len] at this
 rw [Nat.zero_add,Nat.mul_one]
 exact this
theorem RefS.hdF (h:RefS Z H N M nb fb ob aF aO Y) {i:Nat} (hi:i<N):∃ b o,aF=some ⟨b,o,none⟩/\ld H ⟨b,o+i*1,none⟩ [.slice (some ⟨fb i,0,none⟩) M M]:=by
 obtain ⟨b,o,e,r⟩:=fam_ld (k:=1) (fun _=>rfl) (h.b.le.kold h.hf) hi
 exact ⟨b,o,e,by simpa [hdrC] using r⟩
theorem RefS.hdO (h:RefS Z H N M nb fb ob aF aO Y) {i:Nat} (hi:i<N):∃ b o,aO=some ⟨b,o,none⟩/\ld H ⟨b,o+i*1,none⟩ [.slice (some ⟨ob i,0,none⟩) (M+1) (M+1)]:=by
 obtain ⟨b,o,e,r⟩:=fam_ld (k:=1) (fun _=>rfl) (h.b.le.kold h.ho) hi
 exact ⟨b,o,e,by simpa [hdrC] using r⟩
theorem RefS.setN (h:RefS Z H N M nb fb ob aF aO Y) {i:Nat} (hi:i<N):RefS Z (H.put ⟨nb,0+i*1,none⟩ [.bool true]) N M nb fb ob aF aO (Up1 Y (i:Int) 0):=by
 have c1:=bit_cut (f:=fun j=>Y j 0) hi
 have c2:=bit_set (f:=fun j=>Y j 0) (f':=fun j=>Up1 Y (i:Int) 0 j 0) hi fun j hj=>up1_ne (.inl (by omega))
 simp only [up1_at] at c2
 have:=Bxs.put h.b (j:=.n) trivial c1 (vs:=[.bool true]) rfl (cs':=ixC N M (Up1 Y (i:Int) 0)) c2 fun x hx hne=>by
  cases x with
  | n=>exact absurd rfl hne
  | f j=>exact bit_congr fun t ht=>up1_ne (.inr (by omega))
  | o j=>exact bit_congr fun t ht=>up1_ne (.inr (by omega))
 rw [bit_len] at this
 rw [Nat.zero_add,Nat.mul_one]
 exact ⟨this,h.hf,h.ho⟩
theorem RefS.setF (h:RefS Z H N M nb fb ob aF aO Y) {i t:Nat} (hi:i<N) (ht:t<M):RefS Z (H.put ⟨fb i,0+t*1,none⟩ [.bool true]) N M nb fb ob aF aO (Up1 Y (i:Int) (1+(t:Int))):=by
 have c1:=bit_cut (f:=fun t=>Y (i:Int) (1+t)) ht
 have c2:=bit_set (f:=fun t=>Y (i:Int) (1+t)) (f':=fun s=>Up1 Y (i:Int) (1+(t:Int)) (i:Int) (1+s)) ht fun j hj=>up1_ne (.inr (by omega))
 simp only [up1_at] at c2
 have:=Bxs.put h.b (j:=.f i) hi c1 (vs:=[.bool true]) rfl (cs':=ixC N M (Up1 Y (i:Int) (1+(t:Int)))) c2 fun x hx hne=>by
  cases x with
  | n=>exact bit_congr fun s hs=>up1_ne (.inr (by omega))
  | f j=>exact bit_congr fun s hs=>up1_ne (.inl fun e=>hne (by rw [show j=i by omega]))
  | o j=>exact bit_congr fun s hs=>up1_ne (.inr (by omega))
 rw [bit_len] at this
 rw [Nat.zero_add,Nat.mul_one]
 exact ⟨this,h.hf,h.ho⟩
theorem RefS.setO (h:RefS Z H N M nb fb ob aF aO Y) {i t:Nat} (hi:i<N) (ht:t<M+1):RefS Z (H.put ⟨ob i,0+t*1,none⟩ [.bool true]) N M nb fb ob aF aO (Up1 Y (i:Int) (1+(M:Int)+(t:Int))):=by
 have c1:=bit_cut (f:=fun t=>Y (i:Int) (1+(M:Int)+t)) ht
 have c2:=bit_set (f:=fun t=>Y (i:Int) (1+(M:Int)+t)) (f':=fun s=>Up1 Y (i:Int) (1+(M:Int)+(t:Int)) (i:Int) (1+(M:Int)+s)) ht fun j hj=>up1_ne (.inr (by omega))
 simp only [up1_at] at c2
 have:=Bxs.put h.b (j:=.o i) hi c1 (vs:=[.bool true]) rfl (cs':=ixC N M (Up1 Y (i:Int) (1+(M:Int)+(t:Int)))) c2 fun x hx hne=>by
  cases x with
  | n=>exact bit_congr fun s hs=>up1_ne (.inr (by omega))
  | f j=>exact bit_congr fun s hs=>up1_ne (.inr (by omega))
  | o j=>exact bit_congr fun s hs=>up1_ne (.inl fun e=>hne (by rw [show j=i by omega]))
 rw [bit_len] at this
 rw [Nat.zero_add,Nat.mul_one]
 exact ⟨this,h.hf,h.ho⟩
end
def nlY (Y:Int->Int->Bool) (x:Int):Bool:=Y x 0
def fsY (M:Nat) (Y:Int->Int->Bool) (x t:Int):Bool:=decide (0<=t)&&decide (t<M)&&Y x (1+t)
def flY (M:Nat) (Y:Int->Int->Bool) (x t:Int):Bool:=decide (0<=t)&&decide (t<M+1)&&Y x (1+(M:Int)+t)
theorem fsY_at {M:Nat} {Y:Int->Int->Bool} {x t:Int} (h0:0<=t) (h1:t<M):fsY M Y x t=Y x (1+t):=by simp [fsY,h0,h1]
theorem flY_at {M:Nat} {Y:Int->Int->Bool} {x t:Int} (h0:0<=t) (h1:t<M+1):flY M Y x t=Y x (1+(M:Int)+t):=by simp [flY,h0,h1]
structure Snd3 (G:List Pr) (M:Nat) (Y:Int->Int->Bool):Prop where
 n:∀ x,nlY Y x=true->Nul G x
 f:∀ x t,fsY M Y x t=true->Fst G x t
 o:∀ x t,flY M Y x t=true->Flw G M x t
structure Cls1 (M:Nat) (Y:Int->Int->Bool) (p:Pr):Prop where
 n:(ofK (nlY Y) (fsY M Y) p.right).2=true->nlY Y p.left=true
 f:∀ t,(ofK (nlY Y) (fsY M Y) p.right).1 t=true->fsY M Y p.left t=true
 o:ClsP (nlY Y) (fsY M Y) (flY M Y) p
theorem ofK_null {nl:Int->Bool} {fs:Int->Int->Bool}:∀ {r:List Sy},(∀ s∈r,s.tok=false/\nl s.pos=true)->(ofK nl fs r).2=true
 | [],_=>rfl
 | s :: r,h=>by
   have:=h s (List.mem_cons_self ..)
   rw [ofK,this.1,this.2]
   exact ofK_null fun x hx=>h x (List.mem_cons_of_mem _ hx)
theorem is3_of {G:List Pr} {M:Nat} {Y:Int->Int->Bool} (h:Snd3 G M Y) (h0:flY M Y 0 M=true) (hc:∀ p∈G,Cls1 M Y p):IsN G (nlY Y)/\IsF G (fsY M Y)/\IsL G M (flY M Y):=by
 have a:IsN G (nlY Y):=fun x=>⟨h.n x,nul_all (fun p hp q=>(hc p hp).n (ofK_null q)) x⟩
 have b:IsF G (fsY M Y):=fun x t=>⟨h.f x t,fst_all (fun x q=>(a x).2 q) (fun p hp=>(hc p hp).f) x t⟩
 exact ⟨a,b,fun x t=>⟨h.o x t,flw_all (fun x q=>(a x).2 q) (fun x t q=>(b x t).2 q) h0 (fun p hp=>(hc p hp).o) x t⟩⟩
end Go.Ew
namespace Go.Proofs.Ytefiipkfppaibaa
open Go.Ev Go.Ew
namespace Va
section
variable (ok : EnvOk (env Try.prog))
include ok
theorem c13 {a1 a2:OA} {c1 c2 M:Nat} {f:Int->Bool} {H:KH} {Q:PQ} (hM:M<=1000) (k1:kold H 1 a1 M=some (famC (bit1 f) M)) (k2:kold H 1 a2 M=some (famC (bit1 f) M)) (hq:Q (.bool true) H):Does (env Try.prog) 13 [.slice a1 M c1,.slice a2 M c2] H Q:=by
 refine fn13 ok ⟨fun z=>absurd rfl (of_decide_eq_true z),fun _=>?_⟩
 unfold vc13_L1
 refine ⟨fun k a4 n5 n6 a7 n8 n9 x10 H11=>a4=a1/\n5=M/\a7=a2/\n8=M/\H11=H/\∃ i:Nat,x10=i/\i<=M/\k=M-i,⟨M,rfl,rfl,rfl,rfl,rfl,0,rfl,by omega,rfl⟩,?_⟩
 rintro k a4 n5 n6 a7 n8 n9 x10 H11 ⟨rfl,rfl,rfl,rfl,rfl,i,rfl,hi,rfl⟩
 refine ⟨fun y=>?_,fun _=>hq⟩
 have y:i<n8:=by have:=of_decide_eq_true y; omega
 have e0:Int.toNat ((i:Nat):Int)=i:=by omega
 have hi1:IntKind.wrap .i64 (((i:Nat):Int)+1)=((i+1:Nat):Int):=by rw [wrap64 (by omega) (by omega)]; omega
 obtain ⟨b1,o1,ha1,r1⟩:=bit_ld k1 y
 obtain ⟨b2,o2,ha2,r2⟩:=bit_ld k2 y
 rw [e0,hi1]
 refine ⟨trivial,⟨by omega,by omega⟩,b1,o1,ha1,_,r1,⟨by omega,by omega⟩,b2,o2,ha2,_,r2,fun q=>?_,fun _=>⟨n8-(i+1),by omega,rfl,rfl,rfl,rfl,rfl,i+1,rfl,by omega,rfl⟩⟩
 simp at q
theorem c15 {a1 a2:OA} {c1 c2 N M:Nat} {X:Int->Int->Bool} {H:KH} {Q:PQ} (hN:N<=1000) (hM:M<=1000) (k1:RowsB H a1 N M X) (k2:RowsB H a2 N M X) (hq:Q (.bool true) H):Does (env Try.prog) 15 [.slice a1 N c1,.slice a2 N c2] H Q:=by
 refine fn15 ok ⟨fun z=>absurd rfl (of_decide_eq_true z),fun _=>?_⟩
 unfold vc15_L1
 refine ⟨fun k a4 n5 n6 a7 n8 n9 x10 H11=>a4=a1/\n5=N/\a7=a2/\n8=N/\H11=H/\∃ i:Nat,x10=i/\i<=N/\k=N-i,⟨N,rfl,rfl,rfl,rfl,rfl,0,rfl,by omega,rfl⟩,?_⟩
 rintro k a4 n5 n6 a7 n8 n9 x10 H11 ⟨rfl,rfl,rfl,rfl,rfl,i,rfl,hi,rfl⟩
 refine ⟨fun y=>?_,fun _=>hq⟩
 have y:i<n8:=by have:=of_decide_eq_true y; omega
 have e0:Int.toNat ((i:Nat):Int)=i:=by omega
 have hi1:IntKind.wrap .i64 (((i:Nat):Int)+1)=((i+1:Nat):Int):=by rw [wrap64 (by omega) (by omega)]; omega
 obtain ⟨l1,rfl,q1,w1⟩:=k1.ex
 obtain ⟨l2,e2,q2,w2⟩:=k2.ex
 obtain ⟨b1,o1,ha1,r1⟩:=it_ld (k:=1) (f:=fun x:Hd=>[.slice x.a M x.c]) (fun _=>rfl) q1 y
 obtain ⟨b2,o2,ha2,r2⟩:=it_ld (k:=1) (l:=l2) (f:=fun x:Hd=>[.slice x.a M x.c]) (fun _=>rfl) (by rw [e2]; exact q2) (i:=i) (by omega)
 rw [e0,hi1]
 refine ⟨trivial,⟨by omega,by omega⟩,b1,o1,ha1,_,_,_,r1,⟨by omega,by omega⟩,b2,o2,ha2,_,_,_,r2,c13 ok hM (w1 i y) (w2 i (by omega)) ⟨_,rfl,trivial,fun q=>(by cases q),fun _=>⟨l1.length-(i+1),by omega,rfl,rfl,rfl,rfl,rfl,i+1,rfl,by omega,rfl⟩⟩⟩
theorem c19 {Z H:KH} {N M nb cF cO gc gn1 gc1 gn2 gc2 rc:Nat} {fb ob:Nat->Nat} {aF aO ga ga1 ga2 ra:OA} {Y:Int->Int->Bool} {r:List Sy} {Q:PQ} (s:RefS Z H N M nb fb ob aF aO Y) (hr:kold H 2 ra r.length=some (syC r)) (hs:SymsIn M N r) (hM:M<=8) (hl:r.length<=1000)
 (hq:∀ b H',Le H H'->H b=none->kold H' 1 (some ⟨b,0,none⟩) M=some (famC (bit1 (ofK (nlY Y) (fsY M Y) r).1) M)->Q (.tuple #[.slice (some ⟨b,0,none⟩) M M,.bool (ofK (nlY Y) (fsY M Y) r).2]) H') :
 Does (env Try.prog) 19 [.agg #[.slice (some ⟨nb,0,none⟩) N N,.slice aF N cF,.slice aO N cO],.agg #[.slice ga M gc,.slice ga1 gn1 gc1,.slice ga2 gn2 gc2],.slice ra r.length rc] H Q:=by
 refine fn19 ok ⟨⟨by omega,by omega,by omega⟩,fun n1 h1=>?_⟩
 have eM:Int.toNat ((M:Nat):Int)=M:=by omega
 have e0:lrep [.bool false] M=famC (bit1 fun _=>false) M:=fam_rep (h:=bit1 fun _=>false) fun _ _=>rfl
 unfold vc19_L4
 rw [eM,e0]
 have w0:Bxs H (H.new n1 (mkEnt (famC (bit1 fun _=>false) M) 0)) (fun _:Unit=>True) (fun _=>n1) (fun _=>famC (bit1 fun _=>false) M):=⟨Le.new h1,fun _ _=>h1,fun _ _=>⟨_,if_pos rfl,rfl,mk_rd⟩,fun _ _ _ _ _=>rfl⟩
 refine ⟨fun k a4 n5 n6 a7 n8 n9 a10 n11 n12 a13 n14 n15 a16 n17 n18 x19 H20=>a4=ra/\n5=r.length/\a7=some ⟨nb,0,none⟩/\n8=N/\a10=aF/\n11=N/\a16=some ⟨n1,0,none⟩/\n17=M/\n18=M/\∃ (i:Nat) (F:Int->Bool),x19=i/\i<=r.length/\k=r.length-i/\Bxs H H20 (fun _:Unit=>True) (fun _=>n1) (fun _=>famC (bit1 F) M)/\(∀ t:Int,0<=t->t<M->(F t||(ofK (nlY Y) (fsY M Y) (r.drop i)).1 t)=(ofK (nlY Y) (fsY M Y) r).1 t)/\(ofK (nlY Y) (fsY M Y) (r.drop i)).2=(ofK (nlY Y) (fsY M Y) r).2,⟨r.length,rfl,rfl,rfl,rfl,rfl,rfl,rfl,rfl,rfl,0,(fun _=>false),rfl,by omega,rfl,w0,fun t _ _=>rfl,rfl⟩,?_⟩
 rintro k a4 n5 n6 a7 n8 n9 a10 n11 n12 a13 n14 n15 a16 n17 n18 x19 H20 ⟨rfl,rfl,rfl,rfl,rfl,rfl,rfl,rfl,rfl,i,F,rfl,hi,rfl,w,hF,h2⟩
 obtain ⟨RA,eRA⟩:∃ q,q=a4:=⟨_,rfl⟩
 obtain ⟨AF,eAF⟩:∃ q,q=a10:=⟨_,rfl⟩
 obtain ⟨NN,eNN⟩:∃ q,q=n11:=⟨_,rfl⟩
 subst eRA eAF eNN
 have fin:∀ (F':Int->Bool) (b:Bool) (H':KH),Bxs H H' (fun _:Unit=>True) (fun _=>n1) (fun _=>famC (bit1 F') n18)->(∀ t:Int,0<=t->t<n18->F' t=(ofK (nlY Y) (fsY n18 Y) r).1 t)->b=(ofK (nlY Y) (fsY n18 Y) r).2->Q (.tuple #[.slice (some ⟨n1,0,none⟩) n18 n18,.bool b]) H':=fun F' b H' w' q1 q2=>by
  rw [q2]
  refine hq n1 H' w'.le h1 ?_
  rw [<- bit_congr (f:=F') fun t ht=>q1 (t:Int) (by omega) (by omega)]
  exact Bxs.kold w' (j:=()) trivial (by rw [bit_len]; omega)
 have at1:∀ {H':KH} {F':Int->Bool} {t:Nat},Bxs H H' (fun _:Unit=>True) (fun _=>n1) (fun _=>famC (bit1 F') n18)->t<n18->ld H' ⟨n1,0+t*1,none⟩ [.bool (F' (t:Int))]:=fun {H' F' t} w' ht=>by
  have:=Bxs.ld w' (j:=()) trivial (bit_cut (f:=F') ht)
  rw [bit_len] at this
  rw [Nat.zero_add,Nat.mul_one]
  exact this
 have set1:∀ {H':KH} {F' F2:Int->Bool} {t:Nat},Bxs H H' (fun _:Unit=>True) (fun _=>n1) (fun _=>famC (bit1 F') n18)->t<n18->(∀ j:Nat,j≠t->F2 (j:Int)=F' (j:Int))->Bxs H (H'.put ⟨n1,0+t*1,none⟩ [.bool (F2 (t:Int))]) (fun _:Unit=>True) (fun _=>n1) (fun _=>famC (bit1 F2) n18):=fun {H' F' F2 t} w' ht e=>by
  have:=Bxs.put w' (j:=()) trivial (bit_cut (f:=F') ht) (vs:=[.bool (F2 (t:Int))]) rfl (cs':=fun _=>famC (bit1 F2) n18) (bit_set ht e) fun _ _ hi=>absurd rfl hi
  rw [bit_len] at this
  rw [Nat.zero_add,Nat.mul_one]
  exact this
 refine ⟨fun z=>?_,fun z=>?_⟩
 .have z:i<r.length:=by have:=of_decide_eq_true z; omega
  have ei:Int.toNat ((i:Nat):Int)=i:=by omega
  have hi1:IntKind.wrap .i64 (((i:Nat):Int)+1)=((i+1:Nat):Int):=by rw [wrap64 (by omega) (by omega)]; omega
  obtain ⟨b0,o0,ha,r0⟩:=sy_ld (w.le.kold hr) z
  obtain ⟨s0,s1,s2⟩:=hs _ (List.getElem_mem z)
  rw [List.drop_eq_getElem_cons z,ofK] at hF h2
  rw [ei]
  have ep:(((r[i]).pos.toNat:Nat):Int)=(r[i]).pos:=by omega
  refine ⟨⟨by omega,by omega⟩,b0,o0,ha,_,_,r0,fun y=>?_,fun y=>?_⟩
  .rw [y] at hF h2
   have hp:=s1 y
   have r1:=at1 w (t:=(r[i]).pos.toNat) (by omega)
   have w2:=set1 w (t:=(r[i]).pos.toNat) (F2:=fun t=>F t||decide (t=(r[i]).pos)) (by omega) fun j hj=>by
    rw [decide_eq_false (by omega),Bool.or_false]
   have ev:(F (((r[i]).pos.toNat:Nat):Int)||decide ((((r[i]).pos.toNat:Nat):Int)=(r[i]).pos))=true:=by rw [ep,decide_eq_true rfl,Bool.or_true]
   simp only [ev] at w2
   exact ⟨⟨s0,hp⟩,n1,0,rfl,⟨[.bool (F (((r[i]).pos.toNat:Nat):Int))],rfl,r1⟩,Bxs.may w (j:=()) trivial,fin _ _ _ w2 hF h2⟩
  .rw [y] at hF h2
   have hp:=s2 y
   unfold vc19_L2
   refine ⟨fun k a4 n5 n6 a7 n8 n9 a10 n11 n12 a13 n14 n15 a16 n17 n18' x19 b20 x21 x22 H23=>a4=RA/\n5=r.length/\a7=some ⟨nb,0,none⟩/\n8=NN/\a10=AF/\n11=NN/\a16=some ⟨n1,0,none⟩/\n17=n18/\n18'=n18/\x19=i/\x21=(r[i]).pos/\∃ t:Nat,x22=t/\t<=n18/\k=n18-t/\Bxs H H23 (fun _:Unit=>True) (fun _=>n1) (fun _=>famC (bit1 fun u=>F u||(decide (u<t)&&fsY n18 Y (r[i]).pos u)) n18),⟨n18,rfl,rfl,rfl,rfl,rfl,rfl,rfl,rfl,rfl,rfl,rfl,0,rfl,by omega,rfl,?_⟩,?_⟩
   .rw [<- bit_congr (f:=F) fun t ht=>by rw [decide_eq_false (by omega),Bool.false_and,Bool.or_false]]
    exact w
   rintro k a4 n5 n6 a7 n8 n9 a10 n11 n12 a13 n14 n15 a16 n17 n18' x19 b20 x21 x22 H23 ⟨rfl,rfl,rfl,rfl,rfl,rfl,rfl,rfl,rfl,rfl,rfl,t,rfl,ht,rfl,w⟩
   have s':=s.up w.le
   refine ⟨fun z2=>?_,fun z2=>?_⟩
   .have z2:t<n18':=by have:=of_decide_eq_true z2; omega
    have et:Int.toNat ((t:Nat):Int)=t:=by omega
    have ht1:IntKind.wrap .i64 (((t:Nat):Int)+1)=((t+1:Nat):Int):=by rw [wrap64 (by omega) (by omega)]; omega
    have r1:=at1 w z2
    have ev:(F (t:Int)||(decide ((t:Int)<(t:Int))&&fsY n18' Y (r[i]).pos t))=F (t:Int):=by rw [decide_eq_false (by omega),Bool.false_and,Bool.or_false]
    simp only [ev] at r1
    have nx:∀ v:Bool,v=(F (t:Int)||fsY n18' Y (r[i]).pos t)->Bxs H (H23.put ⟨n1,0+t*1,none⟩ [.bool v]) (fun _:Unit=>True) (fun _=>n1) (fun _=>famC (bit1 fun u=>F u||(decide (u<((t+1:Nat):Int))&&fsY n18' Y (r[i]).pos u)) n18'):=fun v hv=>by
     have:=set1 w z2 (F2:=fun u=>F u||(decide (u<((t+1:Nat):Int))&&fsY n18' Y (r[i]).pos u)) fun j hj=>by
      rw [show decide ((j:Int)<((t+1:Nat):Int))=decide ((j:Int)<(t:Int)) from by
       by_cases q:(j:Int)<(t:Int)
       .rw [decide_eq_true q,decide_eq_true (by omega)]
       .rw [decide_eq_false q,decide_eq_false (by omega)]]
     have ev:(F (t:Int)||(decide ((t:Int)<((t+1:Nat):Int))&&fsY n18' Y (r[i]).pos t))=v:=by rw [decide_eq_true (by omega),Bool.true_and,hv]
     simp only [ev] at this
     exact this
    rw [et,ht1]
    have bt:0<=((t:Nat):Int)/\((t:Nat):Int)<n18':=⟨by omega,by omega⟩
    refine ⟨bt,n1,0,rfl,_,r1,fun q=>?_,fun q=>?_⟩
    .exact ⟨bt,n1,0,rfl,⟨[.bool (F (t:Int))],rfl,r1⟩,Bxs.may w (j:=()) trivial,n18'-(t+1),by omega,rfl,rfl,rfl,rfl,rfl,rfl,rfl,rfl,rfl,rfl,rfl,t+1,rfl,by omega,rfl,nx true (by rw [q]; rfl)⟩
    .obtain ⟨b5,o5,ha5,r5⟩:=s'.hdF (i:=(r[i]).pos.toNat) (by omega)
     have r6:=s'.ldF (i:=(r[i]).pos.toNat) (t:=t) (by omega) z2
     rw [ep] at r6
     refine ⟨⟨s0,hp⟩,b5,o5,ha5,_,_,_,r5,bt,fb (r[i]).pos.toNat,0,rfl,_,r6,bt,n1,0,rfl,⟨[.bool (F (t:Int))],rfl,r1⟩,Bxs.may w (j:=()) trivial,n18'-(t+1),by omega,rfl,rfl,rfl,rfl,rfl,rfl,rfl,rfl,rfl,rfl,rfl,t+1,rfl,by omega,rfl,nx _ (by rw [q,fsY_at (by omega) (by omega)]; rfl)⟩
   .have z2:t=n18':=by have:=of_decide_eq_false z2; omega
    subst z2
    rw [bit_congr (f':=fun u=>F u||fsY t Y (r[i]).pos u) fun u hu=>by rw [decide_eq_true (by omega),Bool.true_and]] at w
    have rn:=s'.ldN (i:=(r[i]).pos.toNat) (by omega)
    rw [ep] at rn
    refine ⟨⟨s0,hp⟩,nb,0,rfl,_,rn,fun q=>?_,fun q=>?_⟩
    .have q:nlY Y (r[i]).pos=false:=by unfold nlY; cases e:Y (r[i]).pos 0<;>rw [e] at q<;>first | rfl | cases q
     rw [q] at hF h2
     exact fin _ _ _ w hF h2
    .have q:nlY Y (r[i]).pos=true:=by unfold nlY; cases e:Y (r[i]).pos 0<;>rw [e] at q<;>first | rfl | cases q
     rw [q] at hF h2
     rw [hi1]
     refine ⟨r.length-(i+1),by omega,rfl,rfl,rfl,rfl,rfl,rfl,rfl,rfl,rfl,i+1,_,rfl,by omega,rfl,w,fun u u0 u1=>?_,h2⟩
     rw [<- hF u u0 u1,Bool.or_assoc]; rfl
 .have z:i=r.length:=by have:=of_decide_eq_false z; omega
  subst z
  rw [List.drop_length] at hF h2
  exact fin F true H20 w (fun t t0 t1=>by rw [<- hF t t0 t1]; exact (Bool.or_false _).symm) h2
end
end Va
end Go.Proofs.Ytefiipkfppaibaa
