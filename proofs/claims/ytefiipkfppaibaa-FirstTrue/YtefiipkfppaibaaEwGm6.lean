import Derived.Test.YtefiipkfppaibaaEwGm1
import Derived.Test.YtefiipkfppaibaaEwVc1
import Derived.Test.YtefiipkfppaibaaEwS4
set_option linter.unusedVariables false
set_option linter.unusedSimpArgs false
namespace Go.Ew
open Go.Ev Go.Deep
def tiT:TI:=⟨3,40,true,3,0,0,[(0,1),(1,1),(2,1)],[.string ⟨#[]⟩,.string ⟨#[]⟩,.bool false]⟩
def tiN:TI:=⟨3,64,true,3,0,0,[(0,1),(1,1),(2,1)],[.string ⟨#[]⟩,.slice none 0 0,.slice none 0 0]⟩
def tiP:TI:=⟨3,56,true,3,0,0,[(0,1),(1,1),(2,1)],[.int .i64 0,.slice none 0 0,.slice none 0 0]⟩
def tiY:TI:=⟨2,16,true,3,0,0,[(0,1),(1,1)],[.bool false,.int .i64 0]⟩
def IJ:List ByteArray:=[⟨#[105]⟩,⟨#[106]⟩]
def SU:List ByteArray:=[⟨#[115]⟩,⟨#[117]⟩]
def byN (i:Nat):UInt8:=(97+i).toUInt8
def nmT (i:Nat):ByteArray:=⟨#[116,byN i]⟩
def nmN (i:Nat):ByteArray:=⟨#[110,byN i]⟩
def tkN (i:Nat):Tk:=⟨nmT i,⟨[byN i].toArray⟩,false⟩
theorem catT (u:UInt8):(⟨#[116]⟩:ByteArray)++⟨[u].toArray⟩=⟨#[116,u]⟩:=ByteArray.ext (by simp [ByteArray.data_append])
theorem catN (i:Nat):(⟨#[110]⟩:ByteArray)++⟨[byN i].toArray⟩=nmN i:=ByteArray.ext (by simp [ByteArray.data_append,nmN])
theorem by_cells {i:Nat} (h:i<5):bytesOfCells [.int .u8 (IntKind.wrap .u8 (IntKind.wrap .i64 (97+((i:Nat):Int))))]=some [byN i]:=by
 match i,h with
 | 0,_=>rfl
 | 1,_=>rfl
 | 2,_=>rfl
 | 3,_=>rfl
 | 4,_=>rfl
theorem app_all {α:Type} {P:Nat->α->Prop} {l:List α} {x:α} (h:∀ i (hi:i<l.length),P i l[i]) (hx:P l.length x):∀ i (hi:i<(l++[x]).length),P i (l++[x])[i]:=fun i hi=>by
 by_cases e:i<l.length
 .rw [List.getElem_append_left e]; exact h i e
 .have:i=l.length:=by simp at hi; omega
  subst this
  simpa using hx
theorem NtsI.app {H:KH} {l:List Nt} {x:Nt} (h:NtsI H l) (h1:kold H 1 x.ia x.inh.length=some (sC x.inh)) (h2:kold H 1 x.sa x.syn.length=some (sC x.syn)):NtsI H (l++[x]):=fun i hi=>app_all (P:=fun _ (x:Nt)=>kold H 1 x.ia x.inh.length=some (sC x.inh)/\kold H 1 x.sa x.syn.length=some (sC x.syn)) h ⟨h1,h2⟩ i hi
theorem PrsI.app {H:KH} {l:List Pr} {x:Pr} (h:PrsI H l) (h1:Gs H 2 x.ra x.right.length x.rc (syC x.right)):PrsI H (l++[x]):=fun i hi=>app_all (P:=fun _ (x:Pr)=>kold H 2 x.ra x.right.length=some (syC x.right)/\CutI H x.ra x.rc x.right) h ⟨h1.row,.grown h1⟩ i hi
structure MadeN (i:Nat) (x:Nt):Prop where
 a:x.name=nmN i
 b:∃ u,x.inh=IJ.take u
 c:∃ v,x.syn=SU.take v
def nameB (s:ByteArray):Bool:=decide (1<=s.size)&&decide (s.size<=8)&&(List.range s.size).all fun i=>(decide (97<=byteAt s i)&&decide (byteAt s i<=122))||(decide (0<i)&&decide (48<=byteAt s i)&&decide (byteAt s i<=57))
theorem nameB_ok {s:ByteArray} (h:nameB s=true):NameOk s:=by
 unfold nameB at h
 simp only [Bool.and_eq_true,decide_eq_true_eq,List.all_eq_true,List.mem_range,Bool.or_eq_true] at h
 obtain ⟨⟨h1,h2⟩,h3⟩:=h
 exact ⟨h1,h2,fun i hi=>by
  rcases h3 i hi with q | ⟨⟨q1,q2⟩,q3⟩
  .exact .inl q
  .exact .inr ⟨q1,q2,q3⟩⟩
def namesB (l:List ByteArray):Bool:=l.all nameB&&(List.range l.length).all fun i=>(List.range i).all fun j=>!(strEq ((l[i]?).getD ⟨#[]⟩) ((l[j]?).getD ⟨#[]⟩))
theorem namesB_ok {l:List ByteArray} (h:namesB l=true):NamesOk l:=by
 unfold namesB at h
 simp only [Bool.and_eq_true,List.all_eq_true,List.mem_range] at h
 refine ⟨fun i hi=>nameB_ok (h.1 _ (List.getElem_mem hi)),fun i hi j hj e=>?_⟩
 have:=h.2 i hi j hj
 rw [List.getElem?_eq_getElem hi,List.getElem?_eq_getElem (by omega:j<l.length),Option.getD_some,Option.getD_some,strEq_iff.2 e] at this
 cases this
theorem names_made {t n:Nat} (ht:t<=3) (hn:n<=4):NamesOk ((List.range t).map nmT++(List.range n).map nmN):=by
 apply namesB_ok
 match t,ht,n,hn with
 | 0,_,0,_=>decide +kernel
 | 0,_,1,_=>decide +kernel
 | 0,_,2,_=>decide +kernel
 | 0,_,3,_=>decide +kernel
 | 0,_,4,_=>decide +kernel
 | 1,_,0,_=>decide +kernel
 | 1,_,1,_=>decide +kernel
 | 1,_,2,_=>decide +kernel
 | 1,_,3,_=>decide +kernel
 | 1,_,4,_=>decide +kernel
 | 2,_,0,_=>decide +kernel
 | 2,_,1,_=>decide +kernel
 | 2,_,2,_=>decide +kernel
 | 2,_,3,_=>decide +kernel
 | 2,_,4,_=>decide +kernel
 | 3,_,0,_=>decide +kernel
 | 3,_,1,_=>decide +kernel
 | 3,_,2,_=>decide +kernel
 | 3,_,3,_=>decide +kernel
 | 3,_,4,_=>decide +kernel
theorem attrs_made (u v:Nat):NamesOk (IJ.take u++SU.take v):=by
 apply namesB_ok
 have e:∀ (l:List ByteArray) (u:Nat),l.length=2->l.take u=l.take (min u 2):=fun l u h=>by rw [<- h,<- List.take_take,List.take_length]
 rw [e IJ u rfl,e SU v rfl]
 have h1:min u 2<=2:=Nat.min_le_right _ _
 have h2:min v 2<=2:=Nat.min_le_right _ _
 generalize min u 2=u at *
 generalize min v 2=v at *
 match u,h1,v,h2 with
 | 0,_,0,_=>decide +kernel
 | 0,_,1,_=>decide +kernel
 | 0,_,2,_=>decide +kernel
 | 1,_,0,_=>decide +kernel
 | 1,_,1,_=>decide +kernel
 | 1,_,2,_=>decide +kernel
 | 2,_,0,_=>decide +kernel
 | 2,_,1,_=>decide +kernel
 | 2,_,2,_=>decide +kernel
theorem MadeN.few {i:Nat} {x:Nt} (h:MadeN i x):x.inh.length+x.syn.length<=4:=by
 obtain ⟨u,hu⟩:=h.b
 obtain ⟨v,hv⟩:=h.c
 rw [hu,hv,List.length_take,List.length_take]
 show min u 2+min v 2<=4
 omega
theorem MadeN.ok {i:Nat} {x:Nt} (h:MadeN i x):AttrsOk x:=⟨h.few,by
 obtain ⟨u,hu⟩:=h.b
 obtain ⟨v,hv⟩:=h.c
 rw [hu,hv]
 exact attrs_made u v⟩
theorem MadeN.names {l:List Nt} (h:∀ i (hi:i<l.length),MadeN i l[i]):l.map Nt.name=(List.range l.length).map nmN:=List.ext_getElem (by simp) fun i h1 h2=>by
 have hi:i<l.length:=by simpa using h1
 simp [(h i hi).a]
theorem MayG.few {g:Gm} (h:MayG g):Few g:=by
 obtain ⟨h1,h2,h3,h4,h5,h6⟩:=h
 have hsz:∀ s∈namesG g,s.size<=140737488355328:=fun s hs=>by
  obtain ⟨i,hi,rfl⟩:=List.mem_iff_getElem.1 hs
  have:=(h4.a i hi).b
  omega
 have hat:∀ i (hi:i<g.nts.length),∀ s∈g.nts[i].inh++g.nts[i].syn,s.size<=140737488355328:=fun i hi s hs=>by
  obtain ⟨j,hj,rfl⟩:=List.mem_iff_getElem.1 hs
  have:=((h5 i hi).b.a j hj).b
  omega
 refine ⟨by omega,by omega,by omega,fun i hi=>hsz _ (List.mem_append_left _ (List.mem_map.2 ⟨_,List.getElem_mem hi,rfl⟩)),fun i hi=>⟨hsz _ (List.mem_append_right _ (List.mem_map.2 ⟨_,List.getElem_mem hi,rfl⟩)),?_,?_,fun s hs=>hat i hi s (List.mem_append_left _ hs),fun s hs=>hat i hi s (List.mem_append_right _ hs)⟩,fun i hi=>?_⟩
 .have:=(h5 i hi).a; omega
 .have:=(h5 i hi).a; omega
 .have:=(h6 i hi).b; omega
def rowT (g:Gm):Rr:=⟨3,g.ta,g.toks.length,g.tc,tkC g.toks⟩
def rowN (g:Gm):Rr:=⟨3,g.na,g.nts.length,g.nc,ntC g.nts⟩
def rowP (g:Gm):Rr:=⟨3,g.pa,g.prods.length,g.pc,prC g.prods⟩
end Go.Ew
namespace Go.Proofs.Ytefiipkfppaibaa
open Go.Ev Go.Ew
namespace Va
section
variable (ok : EnvOk (env Try.prog))
include ok
theorem c10s {Z H:KH} {p n c:Nat} {a:OA} {Q:PQ} (hb:PkB Z a n) (h:St Z H p a n c [])
 (hq:∀ g Z' H',Le Z Z'->St Z' H' p a n c [rowP g,rowN g,rowT g]->NtsI Z' g.nts->PrsI Z' g.prods->MayG g->(∀ t∈g.toks,t.skip=false)->Q (gv g) H'):Does (env Try.prog) 10 [.pointer (some ⟨p,0,none⟩)] H Q:=by
 refine fn10 ok (c24 ok (m:=3) hb h (by decide) fun x3 H2 x30 x31 h=>⟨x3,rfl,?_⟩)
 have e1:IntKind.wrap .i64 (x3+1)=(((x3+1).toNat:Nat):Int):=by rw [wrap64 (by omega) (by omega)]; omega
 unfold vc10_L11
 rw [e1]
 refine ⟨fun k n4 n5 a6 n7 n8 a9 n10 n11 a12 n13 n14 a15 n16 n17 a18 n19 n20 a21 n22 n23 x24 H25=>n4=p/\n5=0/\a18=none/\n19=0/\n20=0/\a21=none/\n22=0/\n23=0/\∃ i m:Nat,x24=m/\k=m/\n16=i/\i+m<=3/\1<=i+m/\St Z H25 p a n c [⟨3,a15,n16,n17,tkC ((List.range i).map tkN)⟩],⟨(x3+1).toNat,rfl,rfl,rfl,rfl,rfl,rfl,rfl,rfl,rfl,0,(x3+1).toNat,rfl,rfl,rfl,by omega,by omega,h.none_⟩,?_⟩
 clear h
 rintro k n4 n5 a6 n7 n8 a9 n10 n11 a12 n13 n14 a15 n16 n17 a18 n19 n20 a21 n22 n23 x24 H25 ⟨rfl,rfl,rfl,rfl,rfl,rfl,rfl,rfl,i,m,rfl,rfl,rfl,hi,hi1,h⟩
 refine ⟨fun z=>?_,fun z=>?_⟩
 .have z:0<k:=by have:=of_decide_eq_true z; omega
  intro n1 h1
  refine ⟨_,_,lit_kold (if_pos rfl) rfl,by_cells (by omega),by show 1+1<=1000000; omega,?_⟩
  rw [catT]
  refine fun n4' h4 n5' h5=>⟨_,_,knew_of (ti:=tiT) (lit_kold (if_pos rfl) rfl),?_⟩
  obtain ⟨a8,c9,H11,f1,f2⟩:=((h.new h1).new h4).app (ti:=tiT) (nm:=n5') (m:=1) (new:=[.string ⟨#[116,byN n16]⟩,.string ⟨[byN n16].toArray⟩,.bool false]) h5 rfl rfl (by show n16+1<=_; omega) (by decide) (by decide)
  have ew:IntKind.wrap .i64 (((k:Nat):Int)-1)=((k-1:Nat):Int):=by rw [wrap64 (by omega) (by omega)]; omega
  refine ⟨a8,_,c9,H11,f1,k-1,by omega,rfl,rfl,rfl,rfl,rfl,rfl,rfl,rfl,rfl,n16+1,k-1,ew,rfl,rfl,by omega,by omega,?_⟩
  have e:tkC ((List.range (n16+1)).map tkN)=tkC ((List.range n16).map tkN)++[.string ⟨#[116,byN n16]⟩,.string ⟨[byN n16].toArray⟩,.bool false]:=by
   rw [List.range_succ,List.map_append]
   unfold tkC
   rw [List.flatMap_append]; rfl
  rw [e]
  exact f2
 have z:k=0:=by have:=of_decide_eq_false z; omega
 subst z
 clear z e1 x30 x31
 refine c24 ok (m:=4) hb h (by decide) fun x28 H27 x280 x281 h=>⟨x28,rfl,?_⟩
 have hT:1<=n16/\n16<=3:=by omega
 clear hi hi1
 generalize hts:(List.range n16).map tkN=toks at h
 have hTl:toks.length=n16:=by rw [<- hts]; simp
 subst hTl
 have e1:IntKind.wrap .i64 (x28+1)=(((x28+1).toNat:Nat):Int):=by rw [wrap64 (by omega) (by omega)]; omega
 unfold vc10_L10
 rw [e1]
 refine ⟨fun k m4 n5 a6 n7 n8 a9 n10 n11 a12 n13 n14 b15 n16 m17 a18 n19 n20 a21 n22 n23 x24 H25=>m4=n4/\n5=0/\b15=a15/\n16=toks.length/\m17=n17/\a21=none/\n22=0/\n23=0/\∃ nts,∃ m:Nat,x24=m/\k=m/\n19=nts.length/\nts.length+m<=4/\1<=nts.length+m/\(∀ i (h:i<nts.length),MadeN i nts[i])/\∃ Z',Le Z Z'/\St Z' H25 n4 a n c [⟨3,a18,n19,n20,ntC nts⟩,⟨3,a15,toks.length,n17,tkC toks⟩]/\NtsI Z' nts,⟨(x28+1).toNat,rfl,rfl,rfl,rfl,rfl,rfl,rfl,rfl,rfl,[],(x28+1).toNat,rfl,rfl,rfl,by show 0+_<=4; omega,by show 1<=0+_; omega,fun i h=>absurd h (by simp),Z,Le.refl Z,h.none_,fun i h=>absurd h (by simp)⟩,?_⟩
 clear h
 rintro k m4 n5 a6 n7 n8 a9 n10 n11 a12 n13 n14 b15 n16 m17 a18 n19 n20 a21 n22 n23 x24 H25 ⟨rfl,rfl,rfl,rfl,rfl,rfl,rfl,rfl,nts,m,rfl,rfl,rfl,hi,hi1,hmd,Z',hZ,h,hni⟩
 refine ⟨fun z=>?_,fun z=>?_⟩
 .have m:Nat:=k
  have z:0<k:=by have:=of_decide_eq_true z; omega
  clear m
  generalize k=m at *
  refine fun n1 h1=>⟨_,_,lit_kold (if_pos rfl) rfl,by_cells (by omega),by show 1+1<=1000000; omega,fun _=>fun n4' h4=>?_,fun _=>?_⟩
  .skip
   obtain ⟨S1,q1⟩:=(h.new (E:=mkEnt [.int .u8 (IntKind.wrap .u8 (IntKind.wrap .i64 (97+((nts.length:Nat):Int))))] 0) h1).grow (E:=mkEnt (sC IJ) 0) h4
   refine c24 ok (m:=3) (hb.up (hZ.trans q1)) S1 (by decide) fun x7 H6 x70 x71 S2=>⟨x7,rfl,?_⟩
   obtain ⟨u,rfl⟩:∃ u:Nat,x7=u:=⟨x7.toNat,by omega⟩
   have hu:u<=2:=by omega
   have eu:(IJ.take u).length=u:=by rw [List.length_take]; show min u 2=u; omega
   obtain ⟨a8,c9,k1,k1'⟩:=cut_lo (H:=Z'.new n4' (mkEnt (sC IJ) 0)) (sz:=1) (n:=2) (c:=2) (a:=some ⟨n4',0,none⟩) (cs:=sC IJ) (k:=u) (.inl ⟨rfl,2,rfl,Nat.le_refl _⟩) (lit_kold (if_pos rfl) rfl) hu
   have k1':kold (Z'.new n4' (mkEnt (sC IJ) 0)) 1 a8 (IJ.take u).length=some (sC (IJ.take u)):=by
    rw [eu,k1']; unfold sC; rw [(fm_cut (k:=1) (fun _=>rfl) IJ u).2]
   refine ⟨a8,u,c9,S2.r.le.kslice k1,fun n12 h12=>?_⟩
   have hZ1:=hZ.trans q1
   obtain ⟨S3,q2⟩:=S2.grow (E:=mkEnt (sC SU) 0) h12
   refine c24 ok (m:=3) (hb.up (hZ1.trans q2)) S3 (by decide) fun x4 H3 x40 x41 S4=>⟨x4,rfl,?_⟩
   obtain ⟨v,rfl⟩:∃ v:Nat,x4=v:=⟨x4.toNat,by omega⟩
   have hv:v<=2:=by omega
   have ev:(SU.take v).length=v:=by rw [List.length_take]; show min v 2=v; omega
   obtain ⟨a5,c5,k2,k2'⟩:=cut_lo (H:=KH.new (Z'.new n4' (mkEnt (sC IJ) 0)) n12 (mkEnt (sC SU) 0)) (sz:=1) (n:=2) (c:=2) (a:=some ⟨n12,0,none⟩) (cs:=sC SU) (k:=v) (.inl ⟨rfl,2,rfl,Nat.le_refl _⟩) (lit_kold (if_pos rfl) rfl) hv
   have k2':kold (KH.new (Z'.new n4' (mkEnt (sC IJ) 0)) n12 (mkEnt (sC SU) 0)) 1 a5 (SU.take v).length=some (sC (SU.take v)):=by
    rw [ev,k2']; unfold sC; rw [(fm_cut (k:=1) (fun _=>rfl) SU v).2]
   refine ⟨a5,v,c5,S4.r.le.kslice k2,fun n8' h8 n9' h9=>⟨_,_,knew_of (ti:=tiN) (lit_kold (if_pos rfl) rfl),?_⟩⟩
   rw [catN]
   obtain ⟨a13,c13,H15,f1,f2⟩:=(S4.new h8).app (ti:=tiN) (nm:=n9') (m:=1) (new:=[.string (nmN nts.length),.slice a8 u c9,.slice a5 v c5]) h9 rfl rfl (by show nts.length+1<=_; omega) (by decide) (by decide)
   have ew:IntKind.wrap .i64 (((m:Nat):Int)-1)=((m-1:Nat):Int):=by rw [wrap64 (by omega) (by omega)]; omega
   have en:ntC (nts++[⟨nmN nts.length,a8,c9,IJ.take u,a5,c5,SU.take v⟩])=ntC nts++[.string (nmN nts.length),.slice a8 u c9,.slice a5 v c5]:=by
    unfold ntC
    rw [List.flatMap_append,List.flatMap_cons,List.flatMap_nil,List.append_nil,ev]
    rw [eu]
   refine ⟨a13,_,c13,H15,f1,m-1,by omega,rfl,rfl,rfl,rfl,rfl,rfl,rfl,rfl,rfl,nts++[⟨nmN nts.length,a8,c9,IJ.take u,a5,c5,SU.take v⟩],m-1,ew,rfl,by rw [List.length_append]; rfl,by rw [List.length_append]; show nts.length+1+_<=4; omega,by rw [List.length_append]; show 1<=nts.length+1+_; omega,app_all hmd ⟨rfl,⟨u,rfl⟩,v,rfl⟩,_,hZ1.trans q2,?_,(hni.up (q1.trans q2)).app (q2.kold k1') k2'⟩
   rw [en]
   exact f2
  .skip
   have S2:=h.new (E:=mkEnt [.int .u8 (IntKind.wrap .u8 (IntKind.wrap .i64 (97+((nts.length:Nat):Int))))] 0) h1
   have q1:=Le.refl Z'
   have hZ1:=hZ
   have eu:([]:List ByteArray).length=0:=rfl
   have k1':kold Z' 1 none ([]:List ByteArray).length=some (sC []):=rfl
   intro n12 h12
   obtain ⟨S3,q2⟩:=S2.grow (E:=mkEnt (sC SU) 0) h12
   refine c24 ok (m:=3) (hb.up (hZ1.trans q2)) S3 (by decide) fun x4 H3 x40 x41 S4=>⟨x4,rfl,?_⟩
   obtain ⟨v,rfl⟩:∃ v:Nat,x4=v:=⟨x4.toNat,by omega⟩
   have hv:v<=2:=by omega
   have ev:(SU.take v).length=v:=by rw [List.length_take]; show min v 2=v; omega
   obtain ⟨a5,c5,k2,k2'⟩:=cut_lo (H:=KH.new Z' n12 (mkEnt (sC SU) 0)) (sz:=1) (n:=2) (c:=2) (a:=some ⟨n12,0,none⟩) (cs:=sC SU) (k:=v) (.inl ⟨rfl,2,rfl,Nat.le_refl _⟩) (lit_kold (if_pos rfl) rfl) hv
   have k2':kold (KH.new Z' n12 (mkEnt (sC SU) 0)) 1 a5 (SU.take v).length=some (sC (SU.take v)):=by
    rw [ev,k2']; unfold sC; rw [(fm_cut (k:=1) (fun _=>rfl) SU v).2]
   refine ⟨a5,v,c5,S4.r.le.kslice k2,fun n8' h8 n9' h9=>⟨_,_,knew_of (ti:=tiN) (lit_kold (if_pos rfl) rfl),?_⟩⟩
   rw [catN]
   obtain ⟨a13,c13,H15,f1,f2⟩:=(S4.new h8).app (ti:=tiN) (nm:=n9') (m:=1) (new:=[.string (nmN nts.length),.slice none 0 0,.slice a5 v c5]) h9 rfl rfl (by show nts.length+1<=_; omega) (by decide) (by decide)
   have ew:IntKind.wrap .i64 (((m:Nat):Int)-1)=((m-1:Nat):Int):=by rw [wrap64 (by omega) (by omega)]; omega
   have en:ntC (nts++[⟨nmN nts.length,none,0,[],a5,c5,SU.take v⟩])=ntC nts++[.string (nmN nts.length),.slice none 0 0,.slice a5 v c5]:=by
    unfold ntC
    rw [List.flatMap_append,List.flatMap_cons,List.flatMap_nil,List.append_nil,ev]
    rfl
   refine ⟨a13,_,c13,H15,f1,m-1,by omega,rfl,rfl,rfl,rfl,rfl,rfl,rfl,rfl,rfl,nts++[⟨nmN nts.length,none,0,[],a5,c5,SU.take v⟩],m-1,ew,rfl,by rw [List.length_append]; rfl,by rw [List.length_append]; show nts.length+1+_<=4; omega,by rw [List.length_append]; show 1<=nts.length+1+_; omega,app_all hmd ⟨rfl,⟨0,rfl⟩,v,rfl⟩,_,hZ1.trans q2,?_,(hni.up (q1.trans q2)).app (q2.kold k1') k2'⟩
   rw [en]
   exact f2
 have z:k=0:=by have:=of_decide_eq_false z; omega
 subst z
 have hN:1<=nts.length/\nts.length<=4:=by omega
 clear z hi hi1 x280 x281 e1
 refine c24 ok (m:=7) (hb.up hZ) h (by decide) fun x28' H27' y0 y1 h'=>⟨x28',rfl,?_⟩
 clear h
 have e2:IntKind.wrap .i64 (x28'+1)=(((x28'+1).toNat:Nat):Int):=by rw [wrap64 (by omega) (by omega)]; omega
 unfold vc10_L9
 rw [e2]
 refine ⟨fun k o4 n5 a6 n7 n8 a9 n10 n11 a12 n13 n14 c15 n16 o17 c26 n19 o20 a21 n22 n23 x24 H25=>o4=m4/\n5=0/\c15=b15/\n16=toks.length/\o17=m17/\c26=a18/\n19=nts.length/\o20=n20/\∃ prods,∃ m:Nat,x24=m/\k=m/\n22=prods.length/\prods.length+m<=7/\1<=prods.length+m/\(∀ i (h:i<prods.length),ProdOk toks nts.length prods[i])/\∃ Z2,Le Z' Z2/\St Z2 H25 m4 a n c [⟨3,a21,n22,n23,prC prods⟩,⟨3,a18,nts.length,n20,ntC nts⟩,⟨3,b15,toks.length,m17,tkC toks⟩]/\PrsI Z2 prods,⟨(x28'+1).toNat,rfl,rfl,rfl,rfl,rfl,rfl,rfl,rfl,rfl,[],(x28'+1).toNat,rfl,rfl,rfl,by show 0+_<=7; omega,by show 1<=0+_; omega,fun i h=>absurd h (by simp),Z',Le.refl Z',h'.none_,fun i h=>absurd h (by simp)⟩,?_⟩
 clear h'
 rintro k o4 n5 a6 n7 n8 a9 n10 n11 a12 n13 n14 c15 n16 o17 c26 n19 o20 a21 n22 n23 x24 H25 ⟨rfl,rfl,rfl,rfl,rfl,rfl,rfl,rfl,prods,m,rfl,rfl,rfl,hi,hi1,hpr,Z2,hZ2,h,hpi⟩
 have hb2:=hb.up (hZ.trans hZ2)
 refine ⟨fun z=>?_,fun z=>?_⟩
 .have z:0<k:=by have:=of_decide_eq_true z; omega
  refine c24 ok (m:=nts.length) hb2 h (by omega) fun left H2 l0 l1 h=>⟨left,rfl,c24 ok (m:=4) hb2 h (by decide) fun x6 H5 x60 x61 h=>⟨x6,rfl,?_⟩⟩
  have e6:x6=((x6.toNat:Nat):Int):=by omega
  rw [e6]
  unfold vc10_L7
  refine ⟨fun k' q4 n5 a6 n7 n8 a9 n10 n11 a12 n13 n14 q15 n16 q17 q18 n19 q20 q21 n22 q23 x24 x25 a26 n27 n28 a29 n30 n31 x32 H33=>q4=o4/\n5=0/\q15=c15/\n16=toks.length/\q17=o17/\q18=c26/\n19=nts.length/\q20=o20/\q21=a21/\n22=prods.length/\q23=n23/\x24=k/\x25=left/\∃ right,∃ m:Nat,x32=m/\k'=m/\n27=right.length/\right.length+m<=3/\(∀ i (h:i<right.length),SymOk toks nts.length right[i])/\St Z2 H33 o4 a n c [⟨2,a26,n27,n28,syC right⟩,⟨3,a21,prods.length,n23,prC prods⟩,⟨3,c26,nts.length,o20,ntC nts⟩,⟨3,c15,toks.length,o17,tkC toks⟩],⟨x6.toNat,rfl,rfl,rfl,rfl,rfl,rfl,rfl,rfl,rfl,rfl,rfl,rfl,rfl,rfl,[],x6.toNat,rfl,rfl,rfl,by show 0+_<=3; omega,fun i h=>absurd h (by simp),h.none_⟩,?_⟩
  clear h
  rintro k' q4 n5 a6 n7 n8 a9 n10 n11 a12 n13 n14 q15 n16 q17 q18 n19 q20 q21 n22 q23 x24 x25 a26 n27 n28 a29 n30 n31 x32 H33 ⟨rfl,rfl,rfl,rfl,rfl,rfl,rfl,rfl,rfl,rfl,rfl,rfl,rfl,right,m,rfl,rfl,rfl,hm,hsy,h⟩
  refine ⟨fun z3=>?_,fun z3=>?_⟩
  .have z3:0<k':=by have:=of_decide_eq_true z3; omega
   have ew:IntKind.wrap .i64 (((k':Nat):Int)-1)=((k'-1:Nat):Int):=by rw [wrap64 (by omega) (by omega)]; omega
   have J:∀ (K:KH) (x3 at_:Int),SymOk toks nts.length ⟨decide (x3<3),at_⟩->St Z2 K q4 a n c [⟨2,a26,right.length,n28,syC right⟩,⟨3,q21,prods.length,q23,prC prods⟩,⟨3,q18,nts.length,q20,ntC nts⟩,⟨3,q15,toks.length,q17,tkC toks⟩]->vc10_J4 K x3 at_ a26 right.length n28 k' (fun k' q4' n5 a6 n7 n8 a9 n10 n11 a12 n13 n14 q15' n16 q17' q18' n19 q20' q21' n22 q23' x24 x25' a26 n27 n28 a29 n30 n31 x32 H33=>q4'=q4/\n5=0/\q15'=q15/\n16=toks.length/\q17'=q17/\q18'=q18/\n19=nts.length/\q20'=q20/\q21'=q21/\n22=prods.length/\q23'=q23/\x24=k/\x25'=x25/\∃ right,∃ m:Nat,x32=m/\k'=m/\n27=right.length/\right.length+m<=3/\(∀ i (h:i<right.length),SymOk toks nts.length right[i])/\St Z2 H33 q4 a n c [⟨2,a26,n27,n28,syC right⟩,⟨3,q21,prods.length,q23,prC prods⟩,⟨3,q18,nts.length,q20,ntC nts⟩,⟨3,q15,toks.length,q17,tkC toks⟩]) q4 0 a6 n7 n8 a9 n10 n11 a12 n13 n14 q15 toks.length q17 q18 nts.length q20 q21 prods.length q23 ((k:Nat):Int) x25 a29 n30 n31 ((k':Nat):Int):=fun K x3 at_ hs hK=>by
    unfold vc10_J4
    refine fun n1 h1 n2 h2=>⟨_,_,knew_of (ti:=tiY) (lit_kold (if_pos rfl) rfl),?_⟩
    obtain ⟨a5,c5,H8,f1,f2⟩:=(hK.new h1).app (ti:=tiY) (nm:=n2) (m:=1) (new:=[.bool (decide (x3<3)),.int .i64 at_]) h2 rfl rfl (by show right.length+1<=_; omega) (by decide) (by decide)
    refine ⟨a5,_,c5,H8,f1,k'-1,by omega,rfl,rfl,rfl,rfl,rfl,rfl,rfl,rfl,rfl,rfl,rfl,rfl,rfl,rfl,right++[⟨decide (x3<3),at_⟩],k'-1,ew,rfl,by rw [List.length_append]; rfl,by rw [List.length_append]; show right.length+1+_<=3; omega,app_all (P:=fun _ s=>SymOk toks nts.length s) hsy hs,?_⟩
    have e:syC (right++[⟨decide (x3<3),at_⟩])=syC right++[.bool (decide (x3<3)),.int .i64 at_]:=List.flatMap_append
    rw [e]
    exact f2
   refine c24 ok (m:=5) hb2 h (by decide) fun x3 H2 x30 x31 h=>⟨x3,rfl,c24 ok (m:=nts.length) hb2 h (by omega) fun x6 H5 x60 x61 h=>⟨x6,rfl,fun z4=>?_,fun z4=>?_⟩⟩
   .refine c24 ok (m:=toks.length) hb2 h (by omega) fun x9 H8 x90 x91 h=>⟨x9,rfl,J _ _ _ ⟨x90,fun _=>⟨by show x9.toNat<_; omega,?_⟩,fun w=>?_⟩ h⟩
    .have:∀ i (hi:i<toks.length),toks[i].skip=false:=fun i hi=>by
      have e:toks[i]=((List.range toks.length).map tkN)[i]'(by simpa using hi):=by congr 1; exact hts.symm
      rw [e,List.getElem_map]; rfl
     exact this _ _
    .have w:decide (x3<3)=false:=w
     rw [z4] at w; cases w
   .exact J _ _ _ ⟨x60,fun w=>(by have w:decide (x3<3)=true:=w; rw [z4] at w; cases w),fun _=>x61⟩ h
  .have z3:k'=0:=by have:=of_decide_eq_false z3; omega
   subst z3
   obtain ⟨Z3,hZ3,S,hrr⟩:=h.freezeG
   obtain ⟨he,hl⟩:=S.enter
   have g2:=S.r.ok ⟨3,q18,nts.length,q20,ntC nts⟩ (by simp)
   have f2:=S.r.fr ⟨3,q18,nts.length,q20,ntC nts⟩ (by simp)
   have hn:kold (H33.del q4) 3 q18 nts.length=some (ntC nts):=(g2.agree (H':=H33.del q4) fun k e w q=>del_at q (f2 k w).2).row
   refine c26 ok (nts:=nts) (right:=right) (hb2.up (hZ3.trans hl)) he hn (fun i hi=>(hmd i hi).few) (hl.kold hrr.row) (by omega) fun a' n' c' H2 s=>⟨a',n',c',rfl,?_⟩
   have S:=S.leave s
   refine fun n6 h6 n7' h7=>⟨_,_,knew_of (ti:=tiP) (lit_kold (if_pos rfl) rfl),?_⟩
   obtain ⟨a10,c11,H13,f1,f2⟩:=(S.new h6).app (ti:=tiP) (nm:=n7') (m:=1) (new:=[.int .i64 x25,.slice a26 right.length n28,.slice a' n' c']) h7 rfl rfl (by show prods.length+1<=_; omega) (by decide) (by decide)
   have ew:IntKind.wrap .i64 (((k:Nat):Int)-1)=((k-1:Nat):Int):=by rw [wrap64 (by omega) (by omega)]; omega
   refine ⟨a10,_,c11,H13,f1,k-1,by omega,rfl,rfl,rfl,rfl,rfl,rfl,rfl,rfl,rfl,prods++[⟨x25,a26,n28,right,a',n',c'⟩],k-1,ew,rfl,by rw [List.length_append]; rfl,by rw [List.length_append]; show prods.length+1+_<=7; omega,by rw [List.length_append]; show 1<=prods.length+1+_; omega,app_all (P:=fun _ x=>ProdOk toks nts.length x) hpr ⟨⟨l0,l1⟩,by show right.length<=5; omega,hsy⟩,Z3,hZ2.trans hZ3,?_,(hpi.up hZ3).app hrr⟩
   have e:prC (prods++[⟨x25,a26,n28,right,a',n',c'⟩])=prC prods++[.int .i64 x25,.slice a26 right.length n28,.slice a' n' c']:=List.flatMap_append
   rw [e]
   exact f2
 have z:k=0:=by have:=of_decide_eq_false z; omega
 subst z
 refine hq ⟨c15,o17,toks,c26,o20,nts,a21,n23,prods⟩ Z2 H25 (hZ.trans hZ2) h (hni.up hZ2) hpi ⟨⟨by show 1<=toks.length; omega,by show toks.length<=8; omega⟩,⟨by show 1<=nts.length; omega,by show nts.length<=8; omega⟩,⟨by show 1<=prods.length; omega,by show prods.length<=16; omega⟩,?_,fun i hi=>(hmd i hi).ok,hpr⟩ ?_
 rotate_left
 .show ∀ t∈toks,t.skip=false
  intro t ht
  rw [<- hts] at ht
  obtain ⟨_,_,rfl⟩:=List.mem_map.1 ht
  rfl
 show NamesOk (toks.map Tk.name++nts.map Nt.name)
 have e1:toks.map Tk.name=(List.range toks.length).map nmT:=by
  rw [<- hts]; simp [tkN,Function.comp_def]
 rw [e1,MadeN.names hmd]
 exact names_made (by omega) (by omega)
theorem c10 {Z H:KH} {p n c:Nat} {a:OA} {Q:PQ} (hb:PkB Z a n) (h:St Z H p a n c [])
 (hq:∀ g Z' H',Le Z Z'->St Z' H' p a n c [rowP g,rowN g,rowT g]->NtsI Z' g.nts->PrsI Z' g.prods->MayG g->Q (gv g) H'):Does (env Try.prog) 10 [.pointer (some ⟨p,0,none⟩)] H Q :=
 c10s ok hb h fun g Z' H' h1 h2 h3 h4 h5 _=>hq g Z' H' h1 h2 h3 h4 h5
end
end Va
end Go.Proofs.Ytefiipkfppaibaa
namespace Go.Ew
open Go.Ev Go.Deep
theorem St.gi {Z H:KH} {p n c:Nat} {a:OA} {g:Gm} (h:St Z H p a n c [rowP g,rowN g,rowT g]) (h1:NtsI Z g.nts) (h2:PrsI Z g.prods):GI H g :=
 ⟨(h.r.ok (rowT g) (by simp)).row,(h.r.ok (rowN g) (by simp)).row,(h.r.ok (rowP g) (by simp)).row,h1.up h.r.le,h2.up h.r.le⟩
theorem offP_mem {ls:List Int} {nt:Int} {i:Nat} {v:Int} (h:v∈offP ls nt i):∃ m:Nat,v=m/\m<i/\ls[m]? = some nt:=by
 unfold offP at h
 obtain ⟨m,hm,rfl⟩:=List.mem_map.1 h
 obtain ⟨h1,h2⟩:=List.mem_filter.1 hm
 exact ⟨m,rfl,List.mem_range.1 h1,of_decide_eq_true h2⟩
def rowN1 (X:Int->Int->Bool) (i:Int):List Value:=[.bool (X i 0)]
def rowK (X:Int->Int->Bool) (i:Int):List Value:=kC (X i)
def kV (f:Int->Bool):Value:=.agg (kC f).toArray
def gwS (b N:Nat) (h:Int->List Value) (g:Bool):Bool->List Value
 | true=>[.slice (some ⟨b,0,none⟩) N N,.bool g]
 | false=>famC h N
def gwN (p b:Nat):Bool->Nat
 | true=>p
 | false=>b
abbrev Gw (Z H:KH) (p b N:Nat) (h:Int->List Value) (g:Bool):Prop:=Bxs Z H (fun _:Bool=>True) (gwN p b) (gwS b N h g)
section
variable {Z H : KH} {p b N k : Nat} {h : Int -> List Value} {g : Bool}
theorem Gw.ldS (w:Gw Z H p b N h g):ld H ⟨p,0,none⟩ [.slice (some ⟨b,0,none⟩) N N]:=Bxs.ld w (j:=true) trivial (xs:=[]) (zs:=[.bool g]) rfl
theorem Gw.ldG (w:Gw Z H p b N h g):ld H ⟨p,1,none⟩ [.bool g]:=Bxs.ld w (j:=true) trivial (xs:=[.slice (some ⟨b,0,none⟩) N N]) (zs:=[]) rfl
theorem Gw.mayS (w:Gw Z H p b N h g):KH.may H p:=Bxs.may w (j:=true) trivial
theorem Gw.mayB (w:Gw Z H p b N h g):KH.may H b:=Bxs.may w (j:=false) trivial
theorem Gw.putG (w:Gw Z H p b N h g) (g':Bool):Gw Z (H.put ⟨p,1,none⟩ [.bool g']) p b N h g' :=
 Bxs.put w (j:=true) trivial (xs:=[.slice (some ⟨b,0,none⟩) N N]) (ys:=[.bool g]) (zs:=[]) (vs:=[.bool g']) rfl rfl (cs':=gwS b N h g') rfl fun i _ hi=>by cases i; rfl; exact absurd rfl hi
theorem Gw.ldI (w:Gw Z H p b N h g) (hf:∀ i,(h i).length=k) {i:Int} (h0:0<=i) (h1:i<N):ld H ⟨b,0+i.toNat*k,none⟩ (h i):=by
 have hi:i.toNat<N:=by omega
 have e:((i.toNat:Nat):Int)=i:=by omega
 have:=Bxs.ld w (j:=false) trivial (fam_cut (h:=h) hi)
 rw [fam_len hf,e] at this
 rw [Nat.zero_add]
 exact this
theorem Gw.putI (w:Gw Z H p b N h g) (hf:∀ i,(h i).length=k) {i:Int} (h0:0<=i) (h1:i<N) {h':Int->List Value} (hk:(h' i).length=k) (e:∀ j,j≠i->h' j=h j):Gw Z (H.put ⟨b,0+i.toNat*k,none⟩ (h' i)) p b N h' g:=by
 have hi:i.toNat<N:=by omega
 have ei:((i.toNat:Nat):Int)=i:=by omega
 have c1:=fam_cut (h:=h) hi
 have c2:=fam_set (h:=h) (h':=h') hi fun j hj=>e j (by omega)
 rw [ei] at c1 c2
 have:=Bxs.put w (j:=false) trivial c1 (vs:=h' i) (by rw [hf,hk]) (cs':=gwS b N h' g) c2 fun i _ hi=>by cases i; exact absurd rfl hi; rfl
 rw [fam_len hf] at this
 rw [Nat.zero_add]
 exact this
end
theorem at9 {F:Int->Bool} {t:Int} (h0:0<=t) (h1:t<9):atC (kC F) t (.bool (F t)):=⟨by
 rcases in9_cases h0 h1 with e | e | e | e | e | e | e | e | e<;>subst e<;>rfl⟩
theorem kV_congr {f g:Int->Bool} (h:∀ t,0<=t->t<9->f t=g t):kV f=kV g:=by
 unfold kV kC
 rw [h 0 (by decide) (by decide),h 1 (by decide) (by decide),h 2 (by decide) (by decide),h 3 (by decide) (by decide),h 4 (by decide) (by decide),h 5 (by decide) (by decide),h 6 (by decide) (by decide),h 7 (by decide) (by decide),h 8 (by decide) (by decide)]
abbrev Bx9 (Z H:KH) (b:Nat) (F:Int->Bool):Prop:=Bxs Z H (fun _:Unit=>True) (fun _=>b) (fun _=>kC F)
section
variable {Z H : KH} {b : Nat} {F : Int -> Bool}
theorem Bx9.mk0 (hn:Z b=none):Bx9 Z (Z.new b (mkEnt (kC F) 0)) b F:=⟨Le.new hn,fun _ _=>hn,fun _ _=>⟨_,if_pos rfl,rfl,mk_rd⟩,fun _ _ _ _ _=>rfl⟩
theorem Bx9.all (w:Bx9 Z H b F):ld H ⟨b,0,none⟩ (kC F):=Bxs.ld w (j:=()) trivial (xs:=[]) (zs:=[]) (by simp)
theorem Bx9.at1 (w:Bx9 Z H b F) {t:Int} (h0:0<=t) (h1:t<9):ld H ⟨b,0+t.toNat*1,none⟩ [.bool (F t)]:=by
 have hi:t.toNat<9:=by omega
 have e:((t.toNat:Nat):Int)=t:=by omega
 have:=Bxs.ld w (j:=()) trivial (fam_cut (h:=bit1 F) hi)
 rw [fam_len (k:=1) (bit1_len F),e] at this
 rw [Nat.zero_add]
 exact this
theorem Bx9.set1 (w:Bx9 Z H b F) {t:Int} (h0:0<=t) (h1:t<9) {F':Int->Bool} (e:∀ j,j≠t->F' j=F j):Bx9 Z (H.put ⟨b,0+t.toNat*1,none⟩ [.bool (F' t)]) b F':=by
 have hi:t.toNat<9:=by omega
 have ei:((t.toNat:Nat):Int)=t:=by omega
 have c1:=fam_cut (h:=bit1 F) hi
 have c2:=fam_set (h:=bit1 F) (h':=bit1 F') hi fun j hj=>by unfold bit1; rw [e j (by omega)]
 rw [ei] at c1 c2
 have:=Bxs.put w (j:=()) trivial c1 (vs:=bit1 F' t) rfl (cs':=fun _=>kC F') c2 fun i _ hi=>absurd rfl hi
 rw [fam_len (k:=1) (bit1_len F)] at this
 rw [Nat.zero_add]
 exact this
theorem Bx9.same (w:Bx9 Z H b F):Bx9 Z (H.put ⟨b,0,none⟩ (kC F)) b F :=
 Bxs.put w (j:=()) trivial (xs:=[]) (ys:=kC F) (zs:=[]) (vs:=kC F) (by simp) rfl (by simp) fun _ _ hi=>absurd rfl hi
end
def SymsIn (M N:Nat) (r:List Sy):Prop:=∀ s∈r,0<=s.pos/\(s.tok=true->s.pos<M)/\(s.tok=false->s.pos<N)
theorem SymsIn.drop {M N:Nat} {r:List Sy} (h:SymsIn M N r) (i:Nat):SymsIn M N (r.drop i):=fun s hs=>h s (List.mem_of_mem_drop hs)
end Go.Ew
namespace Go.Proofs.Ytefiipkfppaibaa
open Go.Ev Go.Ew
namespace Va
section
variable (ok : EnvOk (env Try.prog))
include ok
theorem c104 {a b:Bool} {H:KH} {Q:PQ} (hq:Q (.bool (a||b)) H):Does (env Try.prog) 104 [.bool a,.bool b] H Q:=by
 refine fn104 ok ⟨fun h=>?_,fun h=>?_⟩<;>subst h
 .exact hq
 .exact hq
theorem c51 {Z H:KH} {p b N:Nat} {X:Int->Int->Bool} {g m:Bool} {nt:Int} {Q:PQ} (w:Gw Z H p b N (rowN1 X) g) (h0:0<=nt) (h1:nt<N)
 (hq:∀ H' g',Gw Z H' p b N (rowN1 (Up X nt fun t=>decide (t=0)&&m)) g'->(g'=true->g=true\/∃ t,(decide (t=0)&&m)=true/\X nt t=false)->(g'=false->g=false/\∀ t,(decide (t=0)&&m)=true->X nt t=true)->Q (.tuple #[]) H'):Does (env Try.prog) 51 [.pointer (some ⟨p,0,none⟩),.int .i64 nt,.bool m] H Q:=by
 have rf:∀ (X:Int->Int->Bool) i,(rowN1 X i).length=1:=fun _ _=>rfl
 refine fn51 ok ⟨rfl,_,_,_,w.ldS,⟨h0,h1⟩,b,0,rfl,_,w.ldI (rf X) h0 h1,c104 ok ⟨_,rfl,rfl,_,_,_,w.ldS,⟨h0,h1⟩,b,0,rfl,_,w.ldI (rf X) h0 h1,fun z=>?_,fun z=>?_⟩⟩
 .have hz:m=true/\X nt 0=false:=by cases hx:X nt 0<;>cases m<;>rw [hx] at z<;>first | exact ⟨rfl,rfl⟩ | cases z
  have w2:=w.putI (rf X) h0 h1 (h':=rowN1 (Up X nt fun t=>decide (t=0)&&m)) rfl fun j hj=>by
   unfold rowN1 Up; rw [decide_eq_false hj,Bool.false_and,Bool.or_false]
  have e:rowN1 (Up X nt fun t=>decide (t=0)&&m) nt=[.bool (X nt 0||m)]:=by simp [rowN1,Up]
  rw [e] at w2
  exact ⟨rfl,_,_,_,w.ldS,⟨h0,h1⟩,b,0,rfl,⟨rowN1 X nt,rfl,w.ldI (rf X) h0 h1⟩,w.mayB,rfl,⟨[.bool g],rfl,w2.ldG⟩,w2.mayS,hq _ true (w2.putG true) (fun _=>.inr ⟨0,by rw [hz.1]; rfl,hz.2⟩) fun q=>by cases q⟩
 .have hz:m=true->X nt 0=true:=fun hm=>by cases hx:X nt 0<;>rw [hx,hm] at z<;>first | rfl | cases z
  have e:rowN1 (Up X nt fun t=>decide (t=0)&&m)=rowN1 X:=by
   funext j
   unfold rowN1 Up
   by_cases hj:j=nt
   .subst hj
    cases hm:m
    .simp
    .rw [hz hm]; rfl
   .rw [decide_eq_false hj,Bool.false_and,Bool.or_false]
  refine hq _ g (by rw [e]; exact w) (fun q=>.inl q) fun q=>⟨q,fun t ht=>?_⟩
  simp only [Bool.and_eq_true,decide_eq_true_eq] at ht
  rw [ht.1]; exact hz ht.2
theorem c60 {f g:Int->Bool} {H:KH} {Q:PQ} (hq:∀ H',Le H H'->Q (kV fun t=>f t||g t) H'):Does (env Try.prog) 60 [kV f,kV g] H Q:=by
 refine fn60 ok fun n1 hn1=>?_
 unfold vc60_L2
 refine ⟨fun k n4 n5 b6 b7 b8 b9 b10 b11 b12 b13 b14 b15 b16 b17 b18 b19 b20 b21 b22 b23 x24 H25=>n4=n1/\n5=0/\(b15=g 0/\b16=g 1/\b17=g 2/\b18=g 3/\b19=g 4/\b20=g 5/\b21=g 6/\b22=g 7/\b23=g 8)/\∃ i:Nat,x24=i/\i<=9/\k=9-i/\Bx9 H H25 n1 fun t=>f t||(decide (t<i)&&g t),⟨9,rfl,rfl,rfl,⟨rfl,rfl,rfl,rfl,rfl,rfl,rfl,rfl,rfl⟩,0,rfl,by omega,rfl,?_⟩,?_⟩
 .have w:=Bx9.mk0 (F:=f) hn1
  have e:kC (fun t=>f t||(decide (t<((0:Nat):Int))&&g t))=kC f:=by simp [kC]
  show Bxs _ _ _ _ _
  rw [e]
  exact w
 rintro k n4 n5 b6 b7 b8 b9 b10 b11 b12 b13 b14 b15 b16 b17 b18 b19 b20 b21 b22 b23 x24 H25 ⟨rfl,rfl,⟨rfl,rfl,rfl,rfl,rfl,rfl,rfl,rfl,rfl⟩,i,rfl,hi,rfl,w⟩
 refine ⟨fun z=>?_,fun z=>?_⟩
 .have z:((i:Nat):Int)<9:=of_decide_eq_true z
  have h0:(0:Int)<=i:=by omega
  have hi1:IntKind.wrap .i64 (((i:Nat):Int)+1)=((i+1:Nat):Int):=by rw [wrap64 (by omega) (by omega)]; omega
  have r:=w.at1 h0 z
  have nx:∀ v:Bool,v=(f i||g i)->Bx9 H (H25.put ⟨n4,0+(i:Int).toNat*1,none⟩ [.bool v]) n4 fun t=>f t||(decide (t<((i+1:Nat):Int))&&g t):=fun v hv=>by
   have:=w.set1 h0 z (F':=fun t=>f t||(decide (t<((i+1:Nat):Int))&&g t)) fun j hj=>by
    have:decide (j<((i+1:Nat):Int))=decide (j<((i:Nat):Int)):=by
     by_cases q:j<(i:Int)
     .rw [decide_eq_true q,decide_eq_true (by omega)]
     .rw [decide_eq_false q,decide_eq_false (by omega)]
    rw [this]
   have e:(f (i:Int)||(decide ((i:Int)<((i+1:Nat):Int))&&g i))=v:=by rw [hv,decide_eq_true (by omega),Bool.true_and]
   rw [e] at this
   exact this
  have e0:(f (i:Int)||(decide ((i:Int)<(i:Int))&&g i))=f i:=by rw [decide_eq_false (by omega),Bool.false_and,Bool.or_false]
  have r:ld H25 ⟨n4,0+(i:Int).toNat*1,none⟩ [.bool (f i)]:=by rw [e0] at r; exact r
  refine ⟨⟨h0,z⟩,g i,at9 h0 z,⟨h0,z⟩,rfl,f i,r,fun y=>?_,fun y=>?_⟩
  .refine ⟨⟨h0,z⟩,rfl,⟨[.bool (f i)],rfl,r⟩,Bxs.may w (j:=()) trivial,9-(i+1),by omega,rfl,rfl,rfl,⟨rfl,rfl,rfl,rfl,rfl,rfl,rfl,rfl,rfl⟩,i+1,hi1,by omega,rfl,nx true (by rw [y]; rfl)⟩
  .refine ⟨⟨h0,z⟩,rfl,⟨[.bool (f i)],rfl,r⟩,Bxs.may w (j:=()) trivial,9-(i+1),by omega,rfl,rfl,rfl,⟨rfl,rfl,rfl,rfl,rfl,rfl,rfl,rfl,rfl⟩,i+1,hi1,by omega,rfl,nx (g i) (by rw [y]; rfl)⟩
 .have z:¬ ((i:Nat):Int)<9:=of_decide_eq_false z
  have hi:i=9:=by omega
  subst hi
  refine ⟨_,_,_,_,_,_,_,_,_,w.all,?_⟩
  have:=hq H25 w.le
  rw [kV_congr (g:=fun t=>f t||(decide (t<((9:Nat):Int))&&g t)) fun t _ h=>by rw [decide_eq_true (by omega),Bool.true_and]] at this
  exact this
theorem c57 {k:Int} {H:KH} {Q:PQ} (h0:0<=k) (h1:k<9) (hq:∀ H',Le H H'->Q (kV fun t=>decide (t=k)) H'):Does (env Try.prog) 57 [.int .i64 k] H Q:=by
 refine fn57 ok fun n1 hn1=>?_
 have w:=Bx9.mk0 (F:=fun _=>false) hn1
 have r:=w.at1 h0 h1
 have w2:=w.set1 h0 h1 (F':=fun t=>decide (t=k)) fun j hj=>decide_eq_false hj
 have e:decide (k=k)=true:=decide_eq_true rfl
 simp only [e] at w2
 have w3:=w2.same
 exact ⟨⟨h0,h1⟩,rfl,⟨[.bool false],rfl,r⟩,Bxs.may w (j:=()) trivial,_,_,_,_,_,_,_,_,_,w2.all,⟨kC _,rfl,w2.all⟩,Bxs.may w2 (j:=()) trivial,_,_,_,_,_,_,_,_,_,w3.all,hq _ w3.le⟩
theorem c55 {Z H:KH} {p b N:Nat} {X:Int->Int->Bool} {g:Bool} {f:Int->Bool} {nt:Int} {Q:PQ} (w:Gw Z H p b N (rowK X) g) (h0:0<=nt) (h1:nt<N) (hf:In9 f)
 (hq:∀ H' g',Gw Z H' p b N (rowK (Up X nt f)) g'->(g'=true->g=true\/∃ t,f t=true/\X nt t=false)->(g'=false->g=false/\∀ t,f t=true->X nt t=true)->Q (.tuple #[]) H'):Does (env Try.prog) 55 [.pointer (some ⟨p,0,none⟩),.int .i64 nt,kV f] H Q:=by
 have rf:∀ (X:Int->Int->Bool) i,(rowK X i).length=9:=fun _ _=>rfl
 refine fn55 ok ⟨trivial,rfl,_,_,_,w.ldS,⟨h0,h1⟩,b,0,rfl,_,_,_,_,_,_,_,_,_,w.ldI (rf X) h0 h1,c60 ok (f:=X nt) (g:=f) fun H2 hl=>?_⟩
 have w':=Bxs.up w hl
 have w':Gw Z H2 p b N (rowK X) g:=w'
 refine ⟨_,_,_,_,_,_,_,_,_,rfl,trivial,trivial,trivial,rfl,_,_,_,w'.ldS,⟨h0,h1⟩,b,0,rfl,_,_,_,_,_,_,_,_,_,w'.ldI (rf X) h0 h1,fun z=>?_,fun z=>?_⟩
 .have hz:∃ t,f t=true/\X nt t=false:=by
   refine Classical.byContradiction fun hc=>?_
   have:∀ t,(X nt t||f t)=X nt t:=fun t=>by
    cases hx:X nt t
    .cases hft:f t
     .rfl
     .exact (hc ⟨t,hft,hx⟩).elim
    .rfl
   simp only [this,beq_self_eq_true,Bool.and_self,Bool.not_true] at z
   cases z
  have w2:=w'.putI (rf X) h0 h1 (h':=rowK (Up X nt f)) rfl fun j hj=>by
   unfold rowK; congr 1; funext t; unfold Up; rw [decide_eq_false hj,Bool.false_and,Bool.or_false]
  have e:rowK (Up X nt f) nt=kC fun t=>X nt t||f t:=by
   unfold rowK; congr 1; funext t; unfold Up; rw [decide_eq_true rfl,Bool.true_and]
  rw [e] at w2
  exact ⟨trivial,rfl,_,_,_,w'.ldS,⟨h0,h1⟩,b,0,rfl,⟨rowK X nt,rfl,w'.ldI (rf X) h0 h1⟩,w'.mayB,⟨rfl,trivial⟩,rfl,⟨[.bool g],rfl,w2.ldG⟩,w2.mayS,trivial,hq _ true (w2.putG true) (fun _=>.inr hz) fun q=>by cases q⟩
 .have hz:∀ t,f t=true->X nt t=true:=fun t ht=>by
   simp only [Bool.not_eq_false',Bool.and_eq_true,beq_iff_eq] at z
   obtain ⟨z0,z1,z2,z3,z4,z5,z6,z7,z8,_⟩:=z
   have key:∀ a b:Bool,(a||b)=a->b=true->a=true:=by decide
   obtain ⟨t0,t1⟩:=hf t ht
   rcases in9_cases t0 t1 with e | e | e | e | e | e | e | e | e<;>subst e<;>first | exact key _ _ z0 ht | exact key _ _ z1 ht | exact key _ _ z2 ht | exact key _ _ z3 ht | exact key _ _ z4 ht | exact key _ _ z5 ht | exact key _ _ z6 ht | exact key _ _ z7 ht | exact key _ _ z8 ht
  have e:rowK (Up X nt f)=rowK X:=by
   funext j
   unfold rowK
   congr 1
   funext t
   unfold Up
   by_cases hj:j=nt
   .subst hj
    cases hft:f t
    .simp
    .rw [hz t hft]; rfl
   .rw [decide_eq_false hj,Bool.false_and,Bool.or_false]
  exact hq _ g (by rw [e]; exact w') (fun q=>.inl q) fun q=>⟨q,hz⟩
theorem c59 {M:Int} {na fa:OA} {N nc fn fc:Nat} {t:Bool} {x:Int} {H:KH} {Q:PQ} (h0:0<=x) (h1:t=true->x<M) (h2:t=false->x<N) (hq:Q (.bool true) H):Does (env Try.prog) 59 [.agg #[.int .i64 M,.slice na N nc,.slice fa fn fc],.agg #[.bool t,.int .i64 x]] H Q:=by
 refine fn59 ok ⟨fun z=>⟨fun _=>?_,fun y=>absurd h0 (of_decide_eq_false y)⟩,fun z=>⟨fun _=>?_,fun y=>absurd h0 (of_decide_eq_false y)⟩⟩
 .rw [decide_eq_true (h1 z)]; exact hq
 .rw [decide_eq_true (h2 z)]; exact hq
theorem c52 {ra na:OA} {rc N nc:Nat} {r:List Sy} {nl:Int->Bool} {M:Nat} {H:KH} {Q:PQ} (hr:kold H 2 ra r.length=some (syC r)) (hn:kold H 1 na N=some (famC (bit1 nl) N)) (hs:SymsIn M N r) (hl:r.length<=1000)
 (hq:∀ b,(b=true↔∀ s∈r,s.tok=false/\nl s.pos=true)->Q (.bool b) H):Does (env Try.prog) 52 [.slice ra r.length rc,.slice na N nc] H Q:=by
 refine fn52 ok ?_
 show vc52_L1 _ _ _ _ _ _ _ _
 unfold vc52_L1
 refine ⟨fun k a4 n5 n6 a7 n8 n9 x10 x11 H12=>a4=na/\n5=N/\a7=ra/\n8=r.length/\x10=r.length/\H12=H/\∃ i:Nat,x11=i/\i<=r.length/\k=r.length-i/\∀ s∈r.take i,s.tok=false/\nl s.pos=true,⟨r.length,rfl,rfl,rfl,rfl,rfl,rfl,0,rfl,by omega,rfl,fun s hs=>(by cases hs)⟩,?_⟩
 rintro k a4 n5 n6 a7 n8 n9 x10 x11 H12 ⟨rfl,rfl,rfl,rfl,rfl,rfl,i,rfl,hi,rfl,hv⟩
 refine ⟨fun z=>?_,fun z=>?_⟩
 .have z:i<r.length:=by have:=of_decide_eq_true z; omega
  have e0:Int.toNat ((i:Nat):Int)=i:=by omega
  have hi1:IntKind.wrap .i64 (((i:Nat):Int)+1)=((i+1:Nat):Int):=by rw [wrap64 (by omega) (by omega)]; omega
  obtain ⟨b0,o0,ha,r0⟩:=sy_ld hr z
  obtain ⟨s0,s1,s2⟩:=hs _ (List.getElem_mem z)
  rw [e0,hi1]
  refine ⟨⟨by omega,by omega⟩,b0,o0,ha,_,_,r0,fun y=>hq false ⟨fun q=>(by cases q),fun q=>?_⟩,fun y=>?_⟩
  .have:=(q _ (List.getElem_mem z)).1
   rw [y] at this; cases this
  obtain ⟨b1,o1,ha1,r1⟩:=fam_ld (k:=1) (bit1_len nl) hn (i:=(r[i]).pos.toNat) (by have:=s2 y; omega)
  have ep:(((r[i]).pos.toNat:Nat):Int)=(r[i]).pos:=by omega
  rw [ep] at r1
  refine ⟨⟨s0,s2 y⟩,b1,o1,ha1,_,r1,fun y2=>hq false ⟨fun q=>(by cases q),fun q=>?_⟩,fun y2=>?_⟩
  .have:=(q _ (List.getElem_mem z)).2
   rw [this] at y2; cases y2
  .refine ⟨r.length-(i+1),by omega,rfl,rfl,rfl,rfl,rfl,rfl,i+1,rfl,by omega,rfl,fun s hs=>?_⟩
   rw [List.take_succ_eq_append_getElem z] at hs
   rcases List.mem_append.1 hs with hs | hs
   .exact hv s hs
   .rw [List.mem_singleton.1 hs]
    exact ⟨y,by cases q:nl (r[i]).pos<;>rw [q] at y2<;>first | rfl | cases y2⟩
 .have z:i=r.length:=by have:=of_decide_eq_false z; omega
  subst z
  rw [List.take_length] at hv
  exact hq true ⟨fun _=>hv,fun _=>rfl⟩
theorem c37 {M N nc fc rc:Nat} {na fa ra:OA} {r:List Sy} {nl:Int->Bool} {fs:Int->Int->Bool} {H:KH} {Q:PQ} (hn:kold H 1 na N=some (famC (bit1 nl) N)) (hf:kold H 9 fa N=some (famC (rowK fs) N)) (hr:kold H 2 ra r.length=some (syC r)) (hs:SymsIn M N r) (hM:M<=8) (hl:r.length<=1000)
 (hq:∀ H',Le H H'->Q (.tuple #[kV (ofK nl fs r).1,.bool (ofK nl fs r).2]) H'):Does (env Try.prog) 37 [.agg #[.int .i64 M,.slice na N nc,.slice fa N fc],.slice ra r.length rc] H Q:=by
 refine fn37 ok ?_
 show vc37_L2 _ _ _ _ _ _ _ _ _ _ _ _
 unfold vc37_L2
 refine ⟨fun k x4 a5 n6 n7 a8 n9 n10 b11 b12 b13 b14 b15 b16 b17 b18 b19 a20 n21 n22 x23 x24 H25=>x4=M/\a5=na/\n6=N/\a8=fa/\n9=N/\a20=ra/\n21=r.length/\x23=r.length/\Le H H25/\∃ (i:Nat) (F:Int->Bool),(b11=F 0/\b12=F 1/\b13=F 2/\b14=F 3/\b15=F 4/\b16=F 5/\b17=F 6/\b18=F 7/\b19=F 8)/\x24=i/\i<=r.length/\k=r.length-i/\(∀ t,(F t||(ofK nl fs (r.drop i)).1 t)=(ofK nl fs r).1 t)/\(ofK nl fs (r.drop i)).2=(ofK nl fs r).2,⟨r.length,rfl,rfl,rfl,rfl,rfl,rfl,rfl,rfl,Le.refl H,0,(fun _=>false),⟨rfl,rfl,rfl,rfl,rfl,rfl,rfl,rfl,rfl⟩,rfl,by omega,rfl,fun t=>rfl,rfl⟩,?_⟩
 rintro k x4 a5 n6 n7 a8 n9 n10 b11 b12 b13 b14 b15 b16 b17 b18 b19 a20 n21 n22 x23 x24 H25 ⟨rfl,rfl,rfl,rfl,rfl,rfl,rfl,rfl,hle,i,F,⟨rfl,rfl,rfl,rfl,rfl,rfl,rfl,rfl,rfl⟩,rfl,hi,rfl,hF,h2⟩
 have fin:∀ (f:Int->Bool) (b:Bool) (H':KH),Le H H'->(∀ t,f t=(ofK nl fs r).1 t)->b=(ofK nl fs r).2->Q (.tuple #[kV f,.bool b]) H':=fun f b H' h e1 e2=>by
  rw [e2,show f=(ofK nl fs r).1 from funext e1]; exact hq H' h
 refine ⟨fun z=>?_,fun z=>?_⟩
 .have z:i<r.length:=by have:=of_decide_eq_true z; omega
  have e0:Int.toNat ((i:Nat):Int)=i:=by omega
  have hi1:IntKind.wrap .i64 (((i:Nat):Int)+1)=((i+1:Nat):Int):=by rw [wrap64 (by omega) (by omega)]; omega
  obtain ⟨b0,o0,ha,r0⟩:=sy_ld (hle.kold hr) z
  obtain ⟨s0,s1,s2⟩:=hs _ (List.getElem_mem z)
  rw [List.drop_eq_getElem_cons z,ofK] at hF h2
  rw [e0,hi1]
  refine ⟨⟨by omega,by omega⟩,b0,o0,ha,_,_,r0,c59 ok s0 s1 s2 ⟨true,rfl,fun y=>(by cases y),fun _=>⟨fun y=>?_,fun y=>?_⟩⟩⟩
  .rw [y] at hF h2
   have hp:=s1 y
   refine ⟨trivial,c57 ok s0 (by omega) fun H9 l9=>⟨_,_,_,_,_,_,_,_,_,rfl,⟨rfl,trivial⟩,c60 ok (f:=F) (g:=fun t=>decide (t=(r[i]).pos)) fun H20 l20=>⟨_,_,_,_,_,_,_,_,_,rfl,trivial,trivial,fin _ _ H20 (hle.trans (l9.trans l20)) hF h2⟩⟩⟩
  .rw [y] at hF h2
   have hp:=s2 y
   have ep:(((r[i]).pos.toNat:Nat):Int)=(r[i]).pos:=by omega
   obtain ⟨b1,o1,ha1,r1⟩:=fam_ld (k:=9) (fun _=>rfl) (hle.kold hf) (i:=(r[i]).pos.toNat) (by omega)
   rw [ep] at r1
   refine ⟨trivial,⟨s0,hp⟩,b1,o1,ha1,_,_,_,_,_,_,_,_,_,r1,c60 ok (f:=F) (g:=fs (r[i]).pos) fun H13 l13=>⟨_,_,_,_,_,_,_,_,_,rfl,trivial,trivial,⟨s0,hp⟩,?_⟩⟩
   obtain ⟨b2,o2,ha2,r2⟩:=fam_ld (k:=1) (bit1_len nl) ((hle.trans l13).kold hn) (i:=(r[i]).pos.toNat) (by omega)
   rw [ep] at r2
   refine ⟨b2,o2,ha2,_,r2,fun y2=>?_,fun y2=>?_⟩
   .have y2:nl (r[i]).pos=false:=by cases q:nl (r[i]).pos<;>rw [q] at y2<;>first | rfl | cases y2
    rw [y2] at hF h2
    exact fin _ _ H13 (hle.trans l13) hF h2
   .have y2:nl (r[i]).pos=true:=by cases q:nl (r[i]).pos<;>rw [q] at y2<;>first | rfl | cases y2
    rw [y2] at hF h2
    refine ⟨r.length-(i+1),by omega,rfl,rfl,rfl,rfl,rfl,rfl,rfl,rfl,hle.trans l13,i+1,(fun t=>F t||fs (r[i]).pos t),⟨rfl,rfl,rfl,rfl,rfl,rfl,rfl,rfl,rfl⟩,rfl,by omega,rfl,fun t=>?_,h2⟩
    rw [<- hF t,Bool.or_assoc]; rfl
 .have z:i=r.length:=by have:=of_decide_eq_false z; omega
  subst z
  rw [List.drop_length] at hF h2
  exact fin F true H25 hle (fun t=>by rw [<- hF t]; exact (Bool.or_false _).symm) h2
end
end Va
end Go.Proofs.Ytefiipkfppaibaa
namespace Go.Ew
open Go.Ev Go.Deep
def SndN (G:List Pr) (X:Int->Int->Bool):Prop:=∀ i,X i 0=true->Nul G i
def ClsN (G:List Pr) (X:Int->Int->Bool):Prop:=∀ p∈G,(∀ s∈p.right,s.tok=false/\X s.pos 0=true)->X p.left 0=true
def SndF (G:List Pr) (X:Int->Int->Bool):Prop:=∀ i t,X i t=true->Fst G i t
def ClsF (G:List Pr) (nl:Int->Bool) (X:Int->Int->Bool):Prop:=∀ p∈G,∀ t,(ofK nl X p.right).1 t=true->X p.left t=true
def SndL (G:List Pr) (M:Int) (X:Int->Int->Bool):Prop:=∀ i t,X i t=true->Flw G M i t
def ClsP (nl:Int->Bool) (fs X:Int->Int->Bool) (p:Pr):Prop:=∀ u s v,p.right=u++s :: v->s.tok=false->∀ t,((ofK nl fs v).1 t||((ofK nl fs v).2&&X p.left t))=true->X s.pos t=true
def IsN (G:List Pr) (nl:Int->Bool):Prop:=∀ i,nl i=true↔Nul G i
def IsF (G:List Pr) (fs:Int->Int->Bool):Prop:=∀ i t,fs i t=true↔Fst G i t
def IsL (G:List Pr) (M:Int) (fl:Int->Int->Bool):Prop:=∀ i t,fl i t=true↔Flw G M i t
theorem isN_of {G:List Pr} {X:Int->Int->Bool} (h1:SndN G X) (h2:ClsN G X):IsN G fun i=>X i 0:=fun i=>⟨h1 i,nul_all (nl:=fun i=>X i 0) h2 i⟩
theorem isF_of {G:List Pr} {nl:Int->Bool} {X:Int->Int->Bool} (hn:IsN G nl) (h1:SndF G X) (h2:ClsF G nl X):IsF G X:=fun i t=>⟨h1 i t,fst_all (fun x h=>(hn x).2 h) h2 i t⟩
theorem isL_of {G:List Pr} {M:Int} {nl:Int->Bool} {fs X:Int->Int->Bool} (hn:IsN G nl) (hf:IsF G fs) (h1:SndL G M X) (h0:X 0 M=true) (h2:∀ p∈G,ClsP nl fs X p):IsL G M X:=fun i t=>⟨h1 i t,flw_all (fun x h=>(hn x).2 h) (fun x t h=>(hf x t).2 h) h0 h2 i t⟩
def Rnd (E:Env) (f:Nat) (caps:List Value) (Z:KH) (N k:Nat) (row:(Int->Int->Bool)->Int->List Value) (P:(Int->Int->Bool)->Prop) (C:(Int->Int->Bool)->Prop):Prop :=
 ∀ (H:KH) (p b:Nat) (X:Int->Int->Bool) (Q:PQ),Gw Z H p b N (row X) false->InN N X k->P X->
  (∀ H' X' b',Gw Z H' p b N (row X') b'->InN N X' k->P X'->Stp X X' b'->(b'=false->C X)->Q (.tuple #[]) H')->Does E f ([.pointer (some ⟨p,0,none⟩)]++caps) H Q
theorem Gw.init {H:KH} {n1 n2 N:Nat} {h:Int->List Value} (h1:H n1=none) (h2:(H.new n1 (mkEnt (famC h N) 0)) n2=none):Gw H (((H.new n1 (mkEnt (famC h N) 0)).new n2 (mkEnt [.slice none 0 0,.bool false] 0)).put ⟨n2,0,none⟩ [.slice (some ⟨n1,0,none⟩) N N,.bool true]) n2 n1 N h true:=by
 have hne:n2≠n1:=fun e=>by rw [e] at h2; simp [KH.new] at h2
 have hn2:H n2=none:=(Le.new h1).none h2
 have w:Bxs H ((H.new n1 (mkEnt (famC h N) 0)).new n2 (mkEnt [.slice none 0 0,.bool false] 0)) (fun _:Bool=>True) (gwN n2 n1) (fun b=>match b with
  | true=>[.slice none 0 0,.bool false]
  | false=>famC h N):=by
  refine ⟨(Le.new h1).trans (Le.new h2),fun i _=>?_,fun i _=>?_,fun i j _ _ e=>?_⟩
  .cases i
   .exact h1
   .exact hn2
  .cases i
   .exact ⟨_,new_at (if_pos rfl) (Ne.symm hne),rfl,mk_rd⟩
   .exact ⟨_,if_pos rfl,rfl,mk_rd⟩
  .cases i<;>cases j<;>first | rfl | exact (hne e).elim | exact (hne e.symm).elim
 exact Bxs.put w (j:=true) trivial (xs:=[]) (ys:=[.slice none 0 0,.bool false]) (zs:=[]) (vs:=[.slice (some ⟨n1,0,none⟩) N N,.bool true]) rfl rfl (cs':=gwS n1 N h true) rfl fun i _ hi=>by cases i; rfl; exact absurd rfl hi
theorem SymsIn.of {g:Gm} (h:MayG g) {i:Nat} (hi:i<g.prods.length):SymsIn g.toks.length g.nts.length g.prods[i].right:=fun s hs=>by
 obtain ⟨k,hk,rfl⟩:=List.mem_iff_getElem.1 hs
 have:=(h.pr i hi).c k hk
 exact ⟨this.a,fun q=>by obtain ⟨w,_⟩:=this.b q; have:=this.a; omega,fun q=>this.c q⟩
end Go.Ew
namespace Go.Proofs.Ytefiipkfppaibaa
open Go.Ev Go.Ew
namespace Va
section
variable (ok : EnvOk (env Try.prog))
include ok
theorem c49 {f N:Nat} {caps:List Value} {P C:(Int->Int->Bool)->Prop} {H:KH} {Q:PQ} (hr:Rnd (env Try.prog) f caps H N 1 rowN1 P C) (hP0:P fun _ _=>false) (hN:N<=1000)
 (hq:∀ b H' X,Le H H'->H b=none->kold H' 1 (some ⟨b,0,none⟩) N=some (famC (rowN1 X) N)->InN N X 1->P X->C X->Q (.slice (some ⟨b,0,none⟩) N N) H'):Does (env Try.prog) 49 [.int .i64 N,.func (.func f) #[] caps.toArray] H Q:=by
 refine fn49 ok (p1:=f) (p1k:=caps) ⟨⟨by omega,by omega,by omega⟩,fun n1 h1 n2 h2=>?_⟩
 have eN:Int.toNat ((N:Nat):Int)=N:=by omega
 have e0:lrep [.bool false] N=famC (rowN1 fun _ _=>false) N:=fam_rep (h:=rowN1 fun _ _=>false) fun _ _=>rfl
 rw [eN,e0] at h2 ⊢
 refine ⟨⟨[.slice none 0 0,.bool false],rfl,⟨rfl,_,if_pos rfl,mk_rd⟩⟩,⟨_,if_pos rfl,rfl⟩,?_⟩
 have w0:=Gw.init h1 h2
 unfold vc49_L1
 rw [eN,e0]
 refine ⟨fun k n4 l5 n6 n7 H8=>n4=f/\l5=caps/\n6=n2/\n7=0/\∃ X c,Gw H H8 n2 n1 N (rowN1 X) c/\InN N X 1/\P X/\(c=false->C X)/\k=if c=true then miss N 1 X+1 else 0,⟨_,rfl,rfl,rfl,rfl,rfl,_,true,w0,fun _ _ q=>(by cases q),hP0,fun q=>(by cases q),rfl⟩,?_⟩
 rintro k n4 l5 n6 n7 H8 ⟨rfl,rfl,rfl,rfl,X,c,w,hX,hP,hC,rfl⟩
 refine ⟨rfl,c,w.ldG,fun z=>?_,fun z=>?_⟩
 .subst z
  refine ⟨rfl,⟨[.bool true],rfl,w.ldG⟩,w.mayS,hr _ _ _ X _ (w.putG false) hX hP fun H' X' b' w' hX' hP' hst hcl=>⟨rfl,_,?_,rfl,rfl,rfl,rfl,rfl,X',b',w',hX',hP',fun q=>?_,rfl⟩⟩
  .cases b'
   .rw [if_neg (by simp),if_pos rfl]; omega
   .rw [if_pos rfl,if_pos rfl]; have:=hst.miss hX'; omega
  .rw [hst.no q]; exact hcl q
 .subst z
  exact ⟨rfl,_,_,_,w.ldS,hq n1 H8 X w.le h1 (Bxs.kold w (j:=false) trivial (by rw [show gwS n1 N (rowN1 X) false false=famC (rowN1 X) N from rfl,fam_len (k:=1) fun _=>rfl])) hX hP (hC rfl)⟩
theorem c53 {f N:Nat} {caps:List Value} {P C:(Int->Int->Bool)->Prop} {H:KH} {Q:PQ} (hr:Rnd (env Try.prog) f caps H N 9 rowK P C) (hP0:P fun _ _=>false) (hN:N<=1000)
 (hq:∀ b H' X,Le H H'->H b=none->kold H' 9 (some ⟨b,0,none⟩) N=some (famC (rowK X) N)->InN N X 9->P X->C X->Q (.slice (some ⟨b,0,none⟩) N N) H'):Does (env Try.prog) 53 [.int .i64 N,.func (.func f) #[] caps.toArray] H Q:=by
 refine fn53 ok (p1:=f) (p1k:=caps) ⟨⟨by omega,by omega,by omega⟩,fun n1 h1 n2 h2=>?_⟩
 have eN:Int.toNat ((N:Nat):Int)=N:=by omega
 have e0:lrep [.bool false,.bool false,.bool false,.bool false,.bool false,.bool false,.bool false,.bool false,.bool false] N=famC (rowK fun _ _=>false) N:=fam_rep (h:=rowK fun _ _=>false) fun _ _=>rfl
 rw [eN,e0] at h2 ⊢
 refine ⟨⟨[.slice none 0 0,.bool false],rfl,⟨rfl,_,if_pos rfl,mk_rd⟩⟩,⟨_,if_pos rfl,rfl⟩,?_⟩
 have w0:=Gw.init h1 h2
 unfold vc53_L1
 rw [eN,e0]
 refine ⟨fun k n4 l5 n6 n7 H8=>n4=f/\l5=caps/\n6=n2/\n7=0/\∃ X c,Gw H H8 n2 n1 N (rowK X) c/\InN N X 9/\P X/\(c=false->C X)/\k=if c=true then miss N 9 X+1 else 0,⟨_,rfl,rfl,rfl,rfl,rfl,_,true,w0,fun _ _ q=>(by cases q),hP0,fun q=>(by cases q),rfl⟩,?_⟩
 rintro k n4 l5 n6 n7 H8 ⟨rfl,rfl,rfl,rfl,X,c,w,hX,hP,hC,rfl⟩
 refine ⟨rfl,c,w.ldG,fun z=>?_,fun z=>?_⟩
 .subst z
  refine ⟨rfl,⟨[.bool true],rfl,w.ldG⟩,w.mayS,hr _ _ _ X _ (w.putG false) hX hP fun H' X' b' w' hX' hP' hst hcl=>⟨rfl,_,?_,rfl,rfl,rfl,rfl,rfl,X',b',w',hX',hP',fun q=>?_,rfl⟩⟩
  .cases b'
   .rw [if_neg (by simp),if_pos rfl]; omega
   .rw [if_pos rfl,if_pos rfl]; have:=hst.miss hX'; omega
  .rw [hst.no q]; exact hcl q
 .subst z
  exact ⟨rfl,_,_,_,w.ldS,hq n1 H8 X w.le h1 (Bxs.kold w (j:=false) trivial (by rw [show gwS n1 N (rowK X) false false=famC (rowK X) N from rfl,fam_len (k:=9) fun _=>rfl])) hX hP (hC rfl)⟩
theorem c50 {Z:KH} {k0:Nat} {g:Gm} (hk:ld Z ⟨k0,0,none⟩ [.slice g.ta g.toks.length g.tc,.slice g.na g.nts.length g.nc,.slice g.pa g.prods.length g.pc]) (hg:GI Z g) (hm:MayG g) :
 Rnd (env Try.prog) 50 [.pointer (some ⟨k0,0,none⟩)] Z g.nts.length 1 rowN1 (SndN g.prods) (ClsN g.prods):=by
 intro H p b X Q w hX hP hq
 refine fn50 ok ⟨rfl,_,_,_,ldSub (m:=1) (w.le.ld hk) 2 (by simp),?_⟩
 show vc50_L1 _ _ _ _ _ _ _
 unfold vc50_L1
 refine ⟨fun k n4 n5 a6 n7 n8 x9 x10 H11=>n4=p/\n5=0/\a6=g.pa/\n7=g.prods.length/\x9=g.prods.length/\∃ (i:Nat) (Y:Int->Int->Bool) (c:Bool),x10=i/\i<=g.prods.length/\k=g.prods.length-i/\Gw Z H11 p b g.nts.length (rowN1 Y) c/\InN g.nts.length Y 1/\SndN g.prods Y/\Stp X Y c/\(c=false->∀ j (hj:j<g.prods.length),j<i->(∀ s∈g.prods[j].right,s.tok=false/\X s.pos 0=true)->X g.prods[j].left 0=true),⟨g.prods.length,rfl,rfl,rfl,rfl,rfl,rfl,0,X,false,rfl,by omega,rfl,w,hX,hP,Stp.refl X,fun _ j _ z=>absurd z (by omega)⟩,?_⟩
 rintro k n4 n5 a6 n7 n8 x9 x10 H11 ⟨rfl,rfl,rfl,rfl,rfl,i,Y,c,rfl,hi,rfl,w,hY,hS,hst,hc⟩
 refine ⟨fun z=>?_,fun z=>?_⟩
 .have z:i<g.prods.length:=by have:=of_decide_eq_true z; omega
  have e0:Int.toNat ((i:Nat):Int)=i:=by omega
  have hi1:IntKind.wrap .i64 (((i:Nat):Int)+1)=((i+1:Nat):Int):=by have:=hm.p; rw [wrap64 (by omega) (by omega)]; omega
  have hg':=hg.up w.le
  obtain ⟨b0,o0,ha,r0⟩:=pr_ld hg'.p z
  have hpo:=hm.pr i z
  rw [e0,hi1]
  refine ⟨⟨by omega,by omega⟩,b0,o0,ha,_,_,_,_,_,_,_,r0,trivial,rfl,_,_,_,w.ldS,?_⟩
  refine c52 ok (nl:=fun i=>Y i 0) (M:=g.toks.length) (N:=g.nts.length) (hg'.pi i z).1 (Bxs.kold w (j:=false) trivial (by rw [show gwS b g.nts.length (rowN1 Y) c false=famC (rowN1 Y) g.nts.length from rfl,fam_len (k:=1) fun _=>rfl])) (SymsIn.of hm z) (by have:=hpo.b; omega) fun m hmm=>⟨m,rfl,⟨rfl,⟨rfl,rfl⟩,rfl,trivial⟩,?_⟩
  refine c51 ok w hpo.a.1 hpo.a.2 fun H' c' w' k1 k2=>⟨rfl,trivial,g.prods.length-(i+1),by omega,rfl,rfl,rfl,rfl,rfl,rfl,i+1,_,c',rfl,by omega,rfl,w',up_in hY hpo.a (fun t q=>?_),fun x q=>?_,hst.add k1 k2,fun q j hj zz hr=>?_⟩
  .simp only [Bool.and_eq_true,decide_eq_true_eq] at q; omega
  .simp only [Up,Bool.or_eq_true,Bool.and_eq_true,decide_eq_true_eq] at q
   rcases q with q | ⟨rfl,_,q⟩
   .exact hS x q
   .exact NulR.left (List.getElem_mem z) fun s hs=>⟨(hmm.1 q s hs).1,hS _ (hmm.1 q s hs).2⟩
  .obtain ⟨q1,q2⟩:=k2 q
   by_cases y:j=i
   .subst y
    rw [hst.no q1] at hmm q2
    exact q2 0 (by rw [hmm.2 hr]; rfl)
   .exact hc q1 j hj (by omega) hr
 .have z:i=g.prods.length:=by have:=of_decide_eq_false z; omega
  subst z
  exact hq H11 Y c w hY hS hst fun q p hp=>by
   obtain ⟨j,hj,rfl⟩:=List.mem_iff_getElem.1 hp
   exact hc q j hj hj
theorem c32 {g:Gm} {H:KH} {Q:PQ} (hg:GI H g) (hm:MayG g) (hq:∀ b H' nl,Le H H'->H b=none->kold H' 1 (some ⟨b,0,none⟩) g.nts.length=some (famC (bit1 nl) g.nts.length)->IsN g.prods nl->Q (.slice (some ⟨b,0,none⟩) g.nts.length g.nts.length) H'):Does (env Try.prog) 32 [gv g] H Q:=by
 refine fn32 ok fun n1 h1=>?_
 have hl:=Le.new (e:=mkEnt [.slice g.ta g.toks.length g.tc,.slice g.na g.nts.length g.nc,.slice g.pa g.prods.length g.pc] 0) h1
 have r:ld (H.new n1 (mkEnt [.slice g.ta g.toks.length g.tc,.slice g.na g.nts.length g.nc,.slice g.pa g.prods.length g.pc] 0)) ⟨n1,0,none⟩ [.slice g.ta g.toks.length g.tc,.slice g.na g.nts.length g.nc,.slice g.pa g.prods.length g.pc]:=⟨rfl,_,if_pos rfl,mk_rd⟩
 refine ⟨rfl,_,_,_,ldSub (m:=1) r 1 (by simp),c49 ok (caps:=[.pointer (some ⟨n1,0,none⟩)]) (c50 ok r (hg.up hl) hm) (fun i q=>by cases q) (by have:=hm.n; omega) fun b H' X l hb hk hX hP hC=>⟨_,_,_,rfl,?_⟩⟩
 exact hq b H' (fun i=>X i 0) (hl.trans l) (hl.none hb) hk (isN_of hP hC)
theorem c54 {Z:KH} {k0 k1:Nat} {g:Gm} {na:OA} {nc:Nat} {nl:Int->Bool} (hk:ld Z ⟨k0,0,none⟩ [.slice g.ta g.toks.length g.tc,.slice g.na g.nts.length g.nc,.slice g.pa g.prods.length g.pc]) (hk1:ld Z ⟨k1,0,none⟩ [.slice na g.nts.length nc]) (hn:kold Z 1 na g.nts.length=some (famC (bit1 nl) g.nts.length)) (hN:IsN g.prods nl) (hg:GI Z g) (hm:MayG g) :
 Rnd (env Try.prog) 54 [.pointer (some ⟨k0,0,none⟩),.pointer (some ⟨k1,0,none⟩)] Z g.nts.length 9 rowK (SndF g.prods) (ClsF g.prods nl):=by
 intro H p b X Q w hX hP hq
 refine fn54 ok ⟨rfl,_,_,_,ldSub (m:=1) (w.le.ld hk) 2 (by simp),?_⟩
 show vc54_L1 _ _ _ _ _ _ _ _ _ _ _
 unfold vc54_L1
 refine ⟨fun k n4 n5 n6 n7 n8 n9 a10 n11 n12 x13 x14 H15=>n4=p/\n5=0/\n6=k0/\n7=0/\n8=k1/\n9=0/\a10=g.pa/\n11=g.prods.length/\x13=g.prods.length/\∃ (i:Nat) (Y:Int->Int->Bool) (c:Bool),x14=i/\i<=g.prods.length/\k=g.prods.length-i/\Gw Z H15 p b g.nts.length (rowK Y) c/\InN g.nts.length Y 9/\SndF g.prods Y/\Stp X Y c/\(c=false->∀ j (hj:j<g.prods.length),j<i->∀ t,(ofK nl X g.prods[j].right).1 t=true->X g.prods[j].left t=true),⟨g.prods.length,rfl,rfl,rfl,rfl,rfl,rfl,rfl,rfl,rfl,rfl,rfl,rfl,0,X,false,rfl,by omega,rfl,w,hX,hP,Stp.refl X,fun _ j _ z=>absurd z (by omega)⟩,?_⟩
 rintro k n4 n5 n6 n7 n8 n9 a10 n11 n12 x13 x14 H15 ⟨rfl,rfl,rfl,rfl,rfl,rfl,rfl,rfl,rfl,i,Y,c,rfl,hi,rfl,w,hY,hS,hst,hc⟩
 refine ⟨fun z=>?_,fun z=>?_⟩
 .have z:i<g.prods.length:=by have:=of_decide_eq_true z; omega
  have e0:Int.toNat ((i:Nat):Int)=i:=by omega
  have hi1:IntKind.wrap .i64 (((i:Nat):Int)+1)=((i+1:Nat):Int):=by have:=hm.p; rw [wrap64 (by omega) (by omega)]; omega
  have hg':=hg.up w.le
  obtain ⟨b0,o0,ha,r0⟩:=pr_ld hg'.p z
  have hpo:=hm.pr i z
  rw [e0,hi1]
  refine ⟨⟨by omega,by omega⟩,b0,o0,ha,_,_,_,_,_,_,_,r0,trivial,rfl,_,_,_,ldSub (m:=1) (w.le.ld hk) 0 (by simp),_,_,_,w.le.ld hk1,rfl,_,_,_,w.ldS,?_⟩
  have hsy:=SymsIn.of hm z
  refine c37 ok (nl:=nl) (fs:=Y) (w.le.kold hn) (Bxs.kold w (j:=false) trivial (by rw [show gwS b g.nts.length (rowK Y) c false=famC (rowK Y) g.nts.length from rfl,fam_len (k:=9) fun _=>rfl])) (hg'.pi i z).1 hsy hm.t.2 (by have:=hpo.b; omega) fun H20 l20=>⟨_,_,_,_,_,_,_,_,_,_,rfl,trivial,⟨rfl,trivial⟩,?_⟩
  have hin:In9 (ofK nl Y g.prods[i].right).1:=ofK_mem (B:=fun t=>0<=t/\t<9) (fun x t q=>(hY x t q).2) fun s hs q=>⟨(hsy s hs).1,by have:=(hsy s hs).2.1 q; have:=hm.t; omega⟩
  refine c55 ok (Bxs.up w l20) hpo.a.1 hpo.a.2 hin fun H' c' w' k1 k2=>⟨rfl,g.prods.length-(i+1),by omega,rfl,rfl,rfl,rfl,rfl,rfl,rfl,rfl,rfl,rfl,rfl,rfl,i+1,_,c',rfl,by omega,rfl,w',up_in hY hpo.a hin,fun x t q=>?_,hst.add k1 k2,fun q j hj zz t hr=>?_⟩
  .simp only [Up,Bool.or_eq_true,Bool.and_eq_true,decide_eq_true_eq] at q
   rcases q with q | ⟨rfl,q⟩
   .exact hS x t q
   .exact FstR.left (List.getElem_mem z) ((ofK_sound (fun x h=>(hN x).1 h) hS _).2 t q)
  .obtain ⟨q1,q2⟩:=k2 q
   by_cases y:j=i
   .subst y
    rw [hst.no q1] at q2
    exact q2 t hr
   .exact hc q1 j hj (by omega) t hr
 .have z:i=g.prods.length:=by have:=of_decide_eq_false z; omega
  subst z
  exact hq H15 Y c w hY hS hst fun q p hp=>by
   obtain ⟨j,hj,rfl⟩:=List.mem_iff_getElem.1 hp
   exact hc q j hj hj
theorem c34 {g:Gm} {na:OA} {nc:Nat} {nl:Int->Bool} {H:KH} {Q:PQ} (hg:GI H g) (hm:MayG g) (hn:kold H 1 na g.nts.length=some (famC (bit1 nl) g.nts.length)) (hN:IsN g.prods nl)
 (hq:∀ b H' fs,Le H H'->H b=none->kold H' 9 (some ⟨b,0,none⟩) g.nts.length=some (famC (rowK fs) g.nts.length)->InN g.nts.length fs 9->IsF g.prods fs->Q (.slice (some ⟨b,0,none⟩) g.nts.length g.nts.length) H'):Does (env Try.prog) 34 [gv g,.slice na g.nts.length nc] H Q:=by
 refine fn34 ok fun n1 h1 n2 h2=>?_
 have hl:=Le.new (e:=mkEnt [.slice g.ta g.toks.length g.tc,.slice g.na g.nts.length g.nc,.slice g.pa g.prods.length g.pc] 0) h1
 have r:ld (H.new n1 (mkEnt [.slice g.ta g.toks.length g.tc,.slice g.na g.nts.length g.nc,.slice g.pa g.prods.length g.pc] 0)) ⟨n1,0,none⟩ [.slice g.ta g.toks.length g.tc,.slice g.na g.nts.length g.nc,.slice g.pa g.prods.length g.pc]:=⟨rfl,_,if_pos rfl,mk_rd⟩
 have hl2:=Le.new (e:=mkEnt [.slice na g.nts.length nc] 0) h2
 have r2:ld ((H.new n1 (mkEnt [.slice g.ta g.toks.length g.tc,.slice g.na g.nts.length g.nc,.slice g.pa g.prods.length g.pc] 0)).new n2 (mkEnt [.slice na g.nts.length nc] 0)) ⟨n2,0,none⟩ [.slice na g.nts.length nc]:=⟨rfl,_,if_pos rfl,mk_rd⟩
 have hl3:=hl.trans hl2
 refine ⟨rfl,_,_,_,ldSub (m:=1) (hl2.ld r) 1 (by simp),c53 ok (caps:=[.pointer (some ⟨n1,0,none⟩),.pointer (some ⟨n2,0,none⟩)]) (c54 ok (hl2.ld r) r2 (hl3.kold hn) hN (hg.up hl3) hm) (fun i t q=>by cases q) (by have:=hm.n; omega) fun b H' X l hb hk hX hP hC=>⟨_,_,_,rfl,?_⟩⟩
 exact hq b H' X (hl3.trans l) (hl3.none hb) hk hX (isF_of hN hP hC)
theorem c36 {g:Gm} {H:KH} {Q:PQ} (hg:GI H g) (hm:MayG g)
 (hq:∀ b1 b2 H' nl fs,Le H H'->kold H' 1 (some ⟨b1,0,none⟩) g.nts.length=some (famC (bit1 nl) g.nts.length)->IsN g.prods nl->kold H' 9 (some ⟨b2,0,none⟩) g.nts.length=some (famC (rowK fs) g.nts.length)->InN g.nts.length fs 9->IsF g.prods fs->Q (.agg #[.int .i64 g.toks.length,.slice (some ⟨b1,0,none⟩) g.nts.length g.nts.length,.slice (some ⟨b2,0,none⟩) g.nts.length g.nts.length]) H'):Does (env Try.prog) 36 [gv g] H Q:=by
 refine fn36 ok (c32 ok hg hm fun b1 H2 nl l1 _ k1 hN=>⟨_,_,_,rfl,trivial,c34 ok (hg.up l1) hm k1 hN fun b2 H7 fs l2 _ k2 hI hF=>⟨_,_,_,rfl,⟨⟨rfl,rfl⟩,rfl,rfl,rfl,trivial⟩,trivial,?_⟩⟩)
 exact hq b1 b2 H7 nl fs (l1.trans l2) (l2.kold k1) hN k2 hI hF
end
end Va
end Go.Proofs.Ytefiipkfppaibaa
set_option maxRecDepth 100000
namespace Go.Proofs.Ytefiipkfppaibaa
open Go.Ev Go.Ew
namespace Va
def W4 (P:Program):WE:=⟨env P,tupT,[5,13],mkTab [(0,[.ref 5 5 0,.box 5 [.slice none 0 0,.slice none 0 0,.slice none 0 0],.tmp 6 .slice,.tmp 7 .slice,.tmp 8 .ptr,.tmp 9 (.int .i64)])],4⟩
def vc4_J0 (y1:OA) (y2 y3:Nat) (y4:OA) (y5 y6:Nat) (y7:OA) (y8 y9:Nat) (y10:KH) (y11:OA) (y12 y13:Nat) (y14:Int) (y15:OA) (y16 y17:Nat) (y18:OA) (y19 y20:Nat) (y21:PQ) (y22:Nat) (y23:(Nat->(OA->(Nat->(Nat->(OA->(Nat->(Nat->(OA->(Nat->(Nat->(OA->(Nat->(Nat->(OA->(Nat->(Nat->(Nat->(Nat->(Int->(KH->Prop))))))))))))))))))))) (y24 y25:Nat) (y26:Int):Prop :=
 (True/\Does (env Try.prog) 17 [(.agg #[.slice y1 y2 y3,.slice y4 y5 y6,.slice y7 y8 y9])] y10 fun g h=>∃ (b:(OA)) (c d:Nat),g=(.slice b c d)/\(((.agg #[.slice y1 y2 y3,.slice y4 y5 y6,.slice y7 y8 y9]):Value)=(.agg #[.slice y1 y2 y3,.slice y4 y5 y6,.slice y7 y8 y9])/\((.agg #[.slice y11 y12 y13,.int .i64 y14]):Value)=(.agg #[.slice y11 y12 y13,.int .i64 y14])/\((.slice y15 y16 y17):Value)=(.slice y15 y16 y17)/\((.slice y18 y19 y20):Value)=(.slice y18 y19 y20)/\True)/\Does (env Try.prog) 23 [.agg #[.slice y1 y2 y3,.slice y4 y5 y6,.slice y7 y8 y9],.agg #[.slice y11 y12 y13,.int .i64 y14],.slice y15 y16 y17,.slice y18 y19 y20,.slice b c d] h fun i f=>∃ (a:Bool),i=(.bool a)/\True/\((!a)=true->y21 (.bool false) f)/\((!a)=false->∃ (e:Nat),(e:Nat)<y22/\(none:(Option Nat))=none/\y23 e y1 y2 y3 y4 y5 y6 y7 y8 y9 y15 y16 y17 y18 y19 y20 y24 y25 (IntKind.wrap .i64 (y26+1)) f))
def vc4_L4 (y1:OA) (y2 y3:Nat) (y4:OA) (y5 y6:Nat) (y7:OA) (y8 y9:Nat) (y10:OA) (y11 y12:Nat) (y13:OA) (y14 y15 y16 y17:Nat) (y18:KH) (y19:PQ):Prop :=
 (∃ (o:(Nat->OA->Nat->Nat->OA->Nat->Nat->OA->Nat->Nat->OA->Nat->Nat->OA->Nat->Nat->Nat->Nat->Int->KH->Prop)),(∃ (bv:Nat),(none:(Option Nat))=none/\o bv y1 y2 y3 y4 y5 y6 y7 y8 y9 y10 y11 y12 y13 y14 y15 y16 y17 0 y18)/\∀ (t:Nat) (e:(OA)) (f g:Nat) (h:(OA)) (i j:Nat) (k:(OA)) (l m:Nat) (c:(OA)) (d:Nat),∀ (u:Nat) (p:(OA)) (q v r s:Nat) (n:Int) (ad:KH),o t e f g h i j k l m c d u p q v r s n ad->(decide (n<4)=true->Does (env Try.prog) 20 [.pointer (some ⟨r,s,none⟩),.agg #[.slice e f g,.slice h i j,.slice k l m]] ad fun cg ch=>∃ (w:(OA)) (b an:Nat),cg=(.slice w b an)/\Does (env Try.prog) 21 [(.agg #[.slice e f g,.slice h i j,.slice k l m])] ch fun ci bu=>∃ (ao:(OA)) (ap aq:Nat) (bw:(OA)) (ae bx:Nat),ci=(.tuple #[.slice ao ap aq,.slice bw ae bx])/\(decide ((0:Int)<(ae:Int))=true->y19 (.bool true) bu)/\(decide ((0:Int)<(ae:Int))=false->Does (env Try.prog) 22 [.agg #[.slice e f g,.slice h i j,.slice k l m],.slice ao ap aq,.slice w b an,.int .i64 1] bu fun cj a=>∃ (x:(OA)) (y z:Nat) (aa bz af:Int),cj=(.tuple #[.agg #[.slice x y z,.int .i64 aa],.int .i64 bz,.int .i64 af])/\(decide (af≠0)=true->∃ (ar:Nat),(ar:Nat)<t/\(none:(Option Nat))=none/\o ar e f g h i j k l m c d u p q v r s (IntKind.wrap .i64 (n+1)) a)/\(decide (af≠0)=false->True/\(decide ((b:Int)=0)=true->((0:Int)<=0/\(0:Int)<(q:Int))/\∃ (au av:Nat),p=some ⟨au,av,none⟩/\∃ (ag:Bool),ld a ⟨au,av+((Int.toNat 0)*1),none⟩ [(.bool ag)]/\((!ag)=true->y19 (.bool false) a)/\((!ag)=false->(decide ((0:Int)<(b:Int))=true->((0:Int)<=0/\(0:Int)<(b:Int))/\∃ (aw ax:Nat),w=some ⟨aw,ax,none⟩/\(none:(Option Nat))=none/\∃ (ah:Int),ld a ⟨aw,(ax+((Int.toNat 0)*2))+0,none⟩ [(.int .i64 ah)]/\((0:Int)<=0/\(0:Int)<(d:Int))/\∃ (ay az:Nat),c=some ⟨ay,az,none⟩/\∃ (ca:(OA)) (ai cb:Nat),ld a ⟨ay,az+((Int.toNat 0)*1),none⟩ [(.slice ca ai cb)]/\(decide ((ai:Int)<=ah)=true->y19 (.bool false) a)/\(decide ((ai:Int)<=ah)=false->((0:Int)<=0/\(0:Int)<(d:Int))/\∃ (ba bb:Nat),c=some ⟨ba,bb,none⟩/\∃ (bc:(OA)) (bd cc:Nat),ld a ⟨ba,bb+((Int.toNat 0)*1),none⟩ [(.slice bc bd cc)]/\((0:Int)<=0/\(0:Int)<(b:Int))/\∃ (be bf:Nat),w=some ⟨be,bf,none⟩/\(none:(Option Nat))=none/\∃ (ab:Int),ld a ⟨be,(bf+((Int.toNat 0)*2))+0,none⟩ [(.int .i64 ab)]/\((0:Int)<=ab/\ab<(bd:Int))/\∃ (bg bh:Nat),bc=some ⟨bg,bh,none⟩/\∃ (aj:Bool),ld a ⟨bg,bh+((Int.toNat ab)*1),none⟩ [(.bool aj)]/\((!aj)=true->y19 (.bool false) a)/\((!aj)=false->vc4_J0 e f g h i j k l m a x y z aa c d u p q v y19 t o r s n)))/\(decide ((0:Int)<(b:Int))=false->vc4_J0 e f g h i j k l m a x y z aa c d u p q v y19 t o r s n)))/\(decide ((b:Int)=0)=false->(decide ((0:Int)<(b:Int))=true->((0:Int)<=0/\(0:Int)<(b:Int))/\∃ (bi bj:Nat),w=some ⟨bi,bj,none⟩/\(none:(Option Nat))=none/\∃ (ak:Int),ld a ⟨bi,(bj+((Int.toNat 0)*2))+0,none⟩ [(.int .i64 ak)]/\((0:Int)<=0/\(0:Int)<(d:Int))/\∃ (bk bl:Nat),c=some ⟨bk,bl,none⟩/\∃ (cd:(OA)) (al ce:Nat),ld a ⟨bk,bl+((Int.toNat 0)*1),none⟩ [(.slice cd al ce)]/\(decide ((al:Int)<=ak)=true->y19 (.bool false) a)/\(decide ((al:Int)<=ak)=false->((0:Int)<=0/\(0:Int)<(d:Int))/\∃ (bm bn:Nat),c=some ⟨bm,bn,none⟩/\∃ (bo:(OA)) (bp cf:Nat),ld a ⟨bm,bn+((Int.toNat 0)*1),none⟩ [(.slice bo bp cf)]/\((0:Int)<=0/\(0:Int)<(b:Int))/\∃ (bq br:Nat),w=some ⟨bq,br,none⟩/\(none:(Option Nat))=none/\∃ (ac:Int),ld a ⟨bq,(br+((Int.toNat 0)*2))+0,none⟩ [(.int .i64 ac)]/\((0:Int)<=ac/\ac<(bp:Int))/\∃ (bs bt:Nat),bo=some ⟨bs,bt,none⟩/\∃ (am:Bool),ld a ⟨bs,bt+((Int.toNat ac)*1),none⟩ [(.bool am)]/\((!am)=true->y19 (.bool false) a)/\((!am)=false->vc4_J0 e f g h i j k l m a x y z aa c d u p q v y19 t o r s n)))/\(decide ((0:Int)<(b:Int))=false->vc4_J0 e f g h i j k l m a x y z aa c d u p q v y19 t o r s n)))))/\(decide (n<4)=false->y19 (.bool true) ad))
def vc4 (p0:OA) (p0n p0c:Nat) (p1:OA) (p1n p1c:Nat) (H:KH) (Q:PQ):Prop :=
 Does (env Try.prog) 8 [] H fun w l=>∃ (m:Bool),w=(.bool m)/\((!m)=true->Q (.bool false) l)/\((!m)=false->(decide ((150:Int)<(p0n:Int))=true->Q (.bool true) l)/\(decide ((150:Int)<(p0n:Int))=false->(decide ((60:Int)<(p1n:Int))=true->Q (.bool true) l)/\(decide ((60:Int)<(p1n:Int))=false->Does (env Try.prog) 9 [(.slice p0 p0n p0c)] l fun x y=>∃ (o p:Nat),x=(.pointer (some ⟨o,p,none⟩))/\Does (env Try.prog) 10 [(.pointer (some ⟨o,p,none⟩))] y fun z aa=>∃ (b:(OA)) (c d:Nat) (e:(OA)) (a f:Nat) (g:(OA)) (h i:Nat),z=(.agg #[.slice b c d,.slice e a f,.slice g h i])/\True/\Does (env Try.prog) 16 [(.agg #[.slice b c d,.slice e a f,.slice g h i])] aa fun ab ac=>∃ (q:(OA)) (j r:Nat),ab=(.slice q j r)/\(((.agg #[.slice b c d,.slice e a f,.slice g h i]):Value)=(.agg #[.slice b c d,.slice e a f,.slice g h i])/\True)/\Does (env Try.prog) 14 [(.agg #[.slice b c d,.slice e a f,.slice g h i])] ac fun ad n=>∃ (s:(OA)) (k t:Nat),ad=(.slice s k t)/\True/\(decide ((j:Int)≠(a:Int))=true->Q (.bool false) n)/\(decide ((j:Int)≠(a:Int))=false->(decide ((k:Int)≠(a:Int))=true->Q (.bool false) n)/\(decide ((k:Int)≠(a:Int))=false->Does (env Try.prog) 9 [(.slice p1 p1n p1c)] n fun ae af=>∃ (u v:Nat),ae=(.pointer (some ⟨u,v,none⟩))/\vc4_L4 b c d e a f g h i q j r s k t u v af Q)))))
theorem fn4 (ok:EnvOk (env Try.prog)) {p0:OA} {p0n p0c:Nat} {p1:OA} {p1n p1c:Nat} {H:KH} {Q:PQ} (h:vc4 p0 p0n p0c p1 p1n p1c H Q):Does (env Try.prog) 4 [.slice p0 p0n p0c,.slice p1 p1n p1c] H Q :=
 wFun_sound (W:=W4 Try.prog) ok.tt (blt_lt (by kernel_rfl)) (ff_of ok (by kernel_rfl) Try.func4) (Eq.mpr (by kernel_rfl) h)
def W20 (P:Program):WE:=⟨env P,tupT,[3],mkTab [(0,[.tmp 0 .ptr,.ref 3 3 0,.box 3 [.slice none 0 0,.slice none 0 0,.slice none 0 0],.tmp 5 .slice,.tmp 7 (.int .i64)])],20⟩
def vc20_J1 (y1 y2:Nat) (y3:KH) (y4:Nat) (y5:OA) (y6:Nat) (y7:PQ):Prop :=
 Does (env Try.prog) 24 [.pointer (some ⟨y1,y2,none⟩),.int .i64 5] y3 fun al c=>∃ (h:Int),al=(.int .i64 h)/\(decide (h=0)=true->(decide ((0:Int)<(y4:Int))=true->Does (env Try.prog) 24 [.pointer (some ⟨y1,y2,none⟩),.int .i64 (y4:Int)] c fun am d=>∃ (a:Int),am=(.int .i64 a)/\True/\∀ (b:Nat),((d b):(Option (Ent)))=none->∃ (n:(OA)) (o p:Nat),((kslice (KH.new d b (mkEnt (lrep [.int .i64 0,.string (ByteArray.mk #[])] 0) 0)) 2 y5 y4 y6 none (some (.int .i64 a))):(Option Value))=(some (.slice n o p))/\∃ (i:(OA)) (j k:Nat),((kslice (KH.new d b (mkEnt (lrep [.int .i64 0,.string (ByteArray.mk #[])] 0) 0)) 2 y5 y4 y6 (some (.int .i64 (IntKind.wrap .i64 (a+1)))) none):(Option Value))=(some (.slice i j k))/\∀ (q:Nat),(((KH.new d b (mkEnt (lrep [.int .i64 0,.string (ByteArray.mk #[])] 0) 0)) q):(Option (Ent)))=none->∃ (r:Nat) (s:(List Value)),((knew (KH.new d b (mkEnt (lrep [.int .i64 0,.string (ByteArray.mk #[])] 0) 0)) ⟨2,24,true,3,0,0,[(0,1),(1,1)],[.int .i64 0,.string (ByteArray.mk #[])]⟩ (.slice n o p)):(Option (Nat × (List Value))))=(some (r,s))/\∃ (t:(OA)) (u v:Nat) (e:KH),((kappend (KH.new d b (mkEnt (lrep [.int .i64 0,.string (ByteArray.mk #[])] 0) 0)) q ⟨2,24,true,3,0,0,[(0,1),(1,1)],[.int .i64 0,.string (ByteArray.mk #[])]⟩ (some ⟨b,0,none⟩) 0 0 r s):(Option (Value × KH)))=(some (.slice t u v,e))/\(((.slice y5 y4 y6):Value)=(.slice y5 y4 y6)/\((.int .i64 a):Value)=(.int .i64 a)/\((.int .i64 (IntKind.wrap .i64 (a+1))):Value)=(.int .i64 (IntKind.wrap .i64 (a+1)))/\(∃ (w:(OA)) (x y:Nat),((kslice e 2 y5 y4 y6 (some (.int .i64 (IntKind.wrap .i64 (a+1)))) none):(Option Value))=(some (.slice w x y))/\((.slice w x y):Value)=(.slice i j k))/\True)/\∀ (z:Nat),((e z):(Option (Ent)))=none->∃ (aa:Nat) (ab:(List Value)),((knew e ⟨2,24,true,3,0,0,[(0,1),(1,1)],[.int .i64 0,.string (ByteArray.mk #[])]⟩ (.slice i j k)):(Option (Nat × (List Value))))=(some (aa,ab))/\∃ (l:(OA)) (f m:Nat) (g:KH),((kappend e z ⟨2,24,true,3,0,0,[(0,1),(1,1)],[.int .i64 0,.string (ByteArray.mk #[])]⟩ t u v aa ab):(Option (Value × KH)))=(some (.slice l f m,g))/\True/\(decide ((40:Int)<(f:Int))=true->∃ (ac:(OA)) (ad ae:Nat),((kslice g 2 l f m none (some (.int .i64 40))):(Option Value))=(some (.slice ac ad ae))/\y7 (.slice ac ad ae) g)/\(decide ((40:Int)<(f:Int))=false->y7 (.slice l f m) g))/\(decide ((0:Int)<(y4:Int))=false->(decide ((40:Int)<(y4:Int))=true->∃ (af:(OA)) (ag ah:Nat),((kslice c 2 y5 y4 y6 none (some (.int .i64 40))):(Option Value))=(some (.slice af ag ah))/\y7 (.slice af ag ah) c)/\(decide ((40:Int)<(y4:Int))=false->y7 (.slice y5 y4 y6) c)))/\(decide (h=0)=false->(decide ((40:Int)<(y4:Int))=true->∃ (ai:(OA)) (aj ak:Nat),((kslice c 2 y5 y4 y6 none (some (.int .i64 40))):(Option Value))=(some (.slice ai aj ak))/\y7 (.slice ai aj ak) c)/\(decide ((40:Int)<(y4:Int))=false->y7 (.slice y5 y4 y6) c))
def vc20_L2 (y1 y2:Nat) (y3:OA) (y4 y5:Nat) (y6:OA) (y7 y8:Nat) (y9:OA) (y10 y11:Nat) (y12:OA) (y13 y14:Nat) (y15:Int) (y16:KH) (y17:PQ):Prop :=
 (∃ (i:(Nat->Nat->Nat->OA->Nat->Nat->OA->Nat->Nat->OA->Nat->Nat->OA->Nat->Nat->Int->KH->Prop)),(∃ (ag:Nat),(none:(Option Nat))=none/\i ag y1 y2 y3 y4 y5 y6 y7 y8 y9 y10 y11 y12 y13 y14 y15 y16)/\∀ (o d e:Nat) (j:(OA)) (f p:Nat) (q:(OA)) (r s:Nat) (t:(OA)) (u v:Nat),∀ (k:(OA)) (l m:Nat) (g:Int) (n:KH),i o d e j f p q r s t u v k l m g n->(decide ((0:Int)<g)=true->Does (env Try.prog) 24 [.pointer (some ⟨d,e,none⟩),.int .i64 (f:Int)] n fun ah c=>∃ (a:Int),ah=(.int .i64 a)/\((0:Int)<=a/\a<(f:Int))/\∃ (w x:Nat),j=some ⟨w,x,none⟩/\(none:(Option Nat))=none/\∃ (h:ByteArray),ld c ⟨w,(x+((Int.toNat a)*3))+1,none⟩ [(.string h)]/\∀ (b:Nat),((c b):(Option (Ent)))=none->∀ (y:Nat),(((KH.new c b (mkEnt [.int .i64 a,.string h] 0)) y):(Option (Ent)))=none->∃ (z:Nat) (aa:(List Value)),((knew (KH.new c b (mkEnt [.int .i64 a,.string h] 0)) ⟨2,24,true,3,0,0,[(0,1),(1,1)],[.int .i64 0,.string (ByteArray.mk #[])]⟩ (.slice (some ⟨b,0,none⟩) 1 1)):(Option (Nat × (List Value))))=(some (z,aa))/\∃ (ab:(OA)) (ac ad:Nat) (ae:KH),((kappend (KH.new c b (mkEnt [.int .i64 a,.string h] 0)) y ⟨2,24,true,3,0,0,[(0,1),(1,1)],[.int .i64 0,.string (ByteArray.mk #[])]⟩ k l m z aa):(Option (Value × KH)))=(some (.slice ab ac ad,ae))/\∃ (af:Nat),(af:Nat)<o/\(none:(Option Nat))=none/\i af d e j f p q r s t u v ab ac ad (IntKind.wrap .i64 (g-1)) ae)/\(decide ((0:Int)<g)=false->vc20_J1 d e n l k m y17))
def vc20 (p0b p0o:Nat) (p1_0:OA) (p1_0n p1_0c:Nat) (p1_1:OA) (p1_1n p1_1c:Nat) (p1_2:OA) (p1_2n p1_2c:Nat) (H:KH) (Q:PQ):Prop :=
 Does (env Try.prog) 39 [.pointer (some ⟨p0b,p0o,none⟩),.agg #[.slice p1_0 p1_0n p1_0c,.slice p1_1 p1_1n p1_1c,.slice p1_2 p1_2n p1_2c],.int .i64 0,.int .i64 8] H fun j h=>∃ (a:(OA)) (b c:Nat) (d:Bool),j=(.tuple #[.slice a b c,.bool d])/\((!d)=true->Does (env Try.prog) 24 [.pointer (some ⟨p0b,p0o,none⟩),.int .i64 4] h fun k l=>∃ (f:Int),k=(.int .i64 f)/\vc20_L2 p0b p0o p1_0 p1_0n p1_0c p1_1 p1_1n p1_1c p1_2 p1_2n p1_2c a b c f l Q)/\((!d)=false->Does (env Try.prog) 24 [.pointer (some ⟨p0b,p0o,none⟩),.int .i64 4] h fun m i=>∃ (e:Int),m=(.int .i64 e)/\(decide (e=0)=true->Does (env Try.prog) 24 [.pointer (some ⟨p0b,p0o,none⟩),.int .i64 4] i fun n o=>∃ (g:Int),n=(.int .i64 g)/\vc20_L2 p0b p0o p1_0 p1_0n p1_0c p1_1 p1_1n p1_1c p1_2 p1_2n p1_2c a b c g o Q)/\(decide (e=0)=false->vc20_J1 p0b p0o i b a c Q))
theorem fn20 (ok:EnvOk (env Try.prog)) {p0b p0o:Nat} {p1_0:OA} {p1_0n p1_0c:Nat} {p1_1:OA} {p1_1n p1_1c:Nat} {p1_2:OA} {p1_2n p1_2c:Nat} {H:KH} {Q:PQ} (h:vc20 p0b p0o p1_0 p1_0n p1_0c p1_1 p1_1n p1_1c p1_2 p1_2n p1_2c H Q):Does (env Try.prog) 20 [.pointer (some ⟨p0b,p0o,none⟩),.agg #[.slice p1_0 p1_0n p1_0c,.slice p1_1 p1_1n p1_1c,.slice p1_2 p1_2n p1_2c]] H Q :=
 wFun_sound (W:=W20 Try.prog) ok.tt (blt_lt (by kernel_rfl)) (ff_of ok (by kernel_rfl) Try.func20) (Eq.mpr (by kernel_rfl) h)
def W21 (P:Program):WE:=⟨env P,tupT,[1,4],mkTab [(4,[.ref 1 1 0,.box 1 [.slice none 0 0,.slice none 0 0,.slice none 0 0],.ref 4 4 0,.box 4 [.slice none 0 0,.slice none 0 0,.slice none 0 0],.tmp 5 .slice,.tmp 6 .slice,.tmp 7 (.int .i64),.tmp 8 .slice,.tmp 9 (.int .i64),.tmp 10 (.int .i64),.tmp 11 (.int .i64)]),(2,[.ref 1 1 0,.box 1 [.slice none 0 0,.slice none 0 0,.slice none 0 0],.ref 4 4 0,.box 4 [.slice none 0 0,.slice none 0 0,.slice none 0 0],.tmp 5 .slice,.tmp 6 .slice,.tmp 7 (.int .i64),.tmp 8 .slice,.tmp 9 (.int .i64)]),(0,[.ref 1 1 0,.box 1 [.slice none 0 0,.slice none 0 0,.slice none 0 0],.ref 4 4 0,.box 4 [.slice none 0 0,.slice none 0 0,.slice none 0 0],.tmp 5 .slice,.tmp 6 .slice,.tmp 7 (.int .i64)])],21⟩
def vc21_L3 (y1:OA) (y2 y3:Nat) (y4:OA) (y5 y6:Nat) (y7:OA) (y8 y9:Nat) (y10:OA) (y11 y12:Nat) (y13:OA) (y14 y15:Nat) (y16:OA) (y17 y18:Nat) (y19:OA) (y20 y21:Nat) (y22:OA) (y23 y24:Nat) (y25:Int) (y26:OA) (y27 y28:Nat) (y29:Int) (y30:KH) (y31:Nat) (y32:(Nat->(OA->(Nat->(Nat->(OA->(Nat->(Nat->(OA->(Nat->(Nat->(OA->(Nat->(Nat->(OA->(Nat->(Nat->(OA->(Nat->(Nat->(OA->(Nat->(Nat->(OA->(Nat->(Nat->(Int->(OA->(Nat->(Nat->(Int->(KH->Prop)))))))))))))))))))))))))))))))):Prop :=
 (∃ (x:(Nat->OA->Nat->Nat->OA->Nat->Nat->OA->Nat->Nat->OA->Nat->Nat->OA->Nat->Nat->OA->Nat->Nat->OA->Nat->Nat->OA->Nat->Nat->Int->OA->Nat->Nat->Int->Int->Int->KH->Prop)),(∃ (bk:Nat),x bk y1 y2 y3 y4 y5 y6 y7 y8 y9 y10 y11 y12 y13 y14 y15 y16 y17 y18 y19 y20 y21 y22 y23 y24 y25 y26 y27 y28 y29 (-1) 0 y30)/\∀ (ai:Nat) (h:(OA)) (i j:Nat) (k:(OA)) (l m:Nat) (f:(OA)) (d n:Nat) (o:(OA)) (p:Nat),∀ (q:Nat) (r:(OA)) (s t:Nat) (u:(OA)) (v w:Nat) (y:(OA)) (z aa:Nat) (ab:(OA)) (ac:Nat),∀ (ad:Nat) (c:Int) (ae:(OA)) (af ag:Nat) (e b a:Int) (g:KH),x ai h i j k l m f d n o p q r s t u v w y z aa ab ac ad c ae af ag e b a g->(decide (a<(d:Int))=true->((0:Int)<=a/\a<(d:Int))/\∃ (an ao:Nat),f=some ⟨an,ao,none⟩/\(none:(Option Nat))=none/\∃ (al:Int),ld g ⟨an,(ao+((Int.toNat a)*3))+0,none⟩ [(.int .i64 al)]/\(decide (al≠c)=true->∃ (ap:Nat),(ap:Nat)<ai/\x ap h i j k l m f d n o p q r s t u v w y z aa ab ac ad c ae af ag e b (IntKind.wrap .i64 (a+1)) g)/\(decide (al≠c)=false->Does (env Try.prog) 41 [.agg #[.slice o p q,.slice r s t,.slice u v w],.agg #[.slice h i j,.slice k l m,.slice f d n],.int .i64 a,.int .i64 e] g fun bl ah=>∃ (am:Bool),bl=(.bool am)/\((!am)=true->∃ (aq:Nat),(aq:Nat)<ai/\x aq h i j k l m f d n o p q r s t u v w y z aa ab ac ad c ae af ag e b (IntKind.wrap .i64 (a+1)) ah)/\((!am)=false->(decide (b<0)=true->∃ (ar:Nat),(ar:Nat)<ai/\x ar h i j k l m f d n o p q r s t u v w y z aa ab ac ad c ae af ag e a (IntKind.wrap .i64 (a+1)) ah)/\(decide (b<0)=false->∀ (aj:Nat),((ah aj):(Option (Ent)))=none->∀ (au:Nat),(((KH.new ah aj (mkEnt [.int .i64 c,.int .i64 e,.int .i64 b,.int .i64 a] 0)) au):(Option (Ent)))=none->∃ (av:Nat) (aw:(List Value)),((knew (KH.new ah aj (mkEnt [.int .i64 c,.int .i64 e,.int .i64 b,.int .i64 a] 0)) ⟨4,32,true,3,0,0,[(0,1),(1,1),(2,1),(3,1)],[.int .i64 0,.int .i64 0,.int .i64 0,.int .i64 0]⟩ (.slice (some ⟨aj,0,none⟩) 1 1)):(Option (Nat × (List Value))))=(some (av,aw))/\∃ (ax:(OA)) (ay az:Nat) (ba:KH),((kappend (KH.new ah aj (mkEnt [.int .i64 c,.int .i64 e,.int .i64 b,.int .i64 a] 0)) au ⟨4,32,true,3,0,0,[(0,1),(1,1),(2,1),(3,1)],[.int .i64 0,.int .i64 0,.int .i64 0,.int .i64 0]⟩ ab ac ad av aw):(Option (Value × KH)))=(some (.slice ax ay az,ba))/\∃ (bb:Nat),(bb:Nat)<ai/\x bb h i j k l m f d n o p q r s t u v w y z aa ax ay az c ae af ag e b (IntKind.wrap .i64 (a+1)) ba))))/\(decide (a<(d:Int))=false->∀ (ak:Nat),((g ak):(Option (Ent)))=none->∀ (bc:Nat),(((KH.new g ak (mkEnt [(.int .i64 b)] 0)) bc):(Option (Ent)))=none->∃ (bd:Nat) (be:(List Value)),((knew (KH.new g ak (mkEnt [(.int .i64 b)] 0)) ⟨1,8,false,5,0,0,[],[(.int .i64 0)]⟩ (.slice (some ⟨ak,0,none⟩) 1 1)):(Option (Nat × (List Value))))=(some (bd,be))/\∃ (bf:(OA)) (bg bh:Nat) (bi:KH),((kappend (KH.new g ak (mkEnt [(.int .i64 b)] 0)) bc ⟨1,8,false,5,0,0,[],[(.int .i64 0)]⟩ ae af ag bd be):(Option (Value × KH)))=(some (.slice bf bg bh,bi))/\∃ (bj:Nat),(bj:Nat)<y31/\y32 bj h i j k l m f d n o p q r s t u v w y z aa ab ac ad c bf bg bh (IntKind.wrap .i64 (e+1)) bi))
def vc21_L5 (y1:OA) (y2 y3:Nat) (y4:OA) (y5 y6:Nat) (y7:OA) (y8 y9:Nat) (y10:OA) (y11 y12:Nat) (y13:OA) (y14 y15:Nat) (y16:OA) (y17 y18:Nat) (y19:OA) (y20 y21:Nat) (y22:OA) (y23 y24:Nat) (y25:Int) (y26:KH) (y27:Nat) (y28:(Nat->(OA->(Nat->(Nat->(OA->(Nat->(Nat->(OA->(Nat->(Nat->(OA->(Nat->(Nat->(OA->(Nat->(Nat->(OA->(Nat->(Nat->(OA->(Nat->(Nat->(OA->(Nat->(Nat->(Int->(KH->Prop)))))))))))))))))))))))))))):Prop :=
 (∃ (h:(Nat->OA->Nat->Nat->OA->Nat->Nat->OA->Nat->Nat->OA->Nat->Nat->OA->Nat->Nat->OA->Nat->Nat->OA->Nat->Nat->OA->Nat->Nat->Int->OA->Nat->Nat->Int->KH->Prop)),(∃ (ap:Nat),h ap y1 y2 y3 y4 y5 y6 y7 y8 y9 y10 y11 y12 y13 y14 y15 y16 y17 y18 y19 y20 y21 y22 y23 y24 y25 none 0 0 0 y26)/\∀ (ag:Nat) (i:(OA)) (b j:Nat) (k:(OA)) (l m:Nat) (n:(OA)) (o p:Nat) (q:(OA)) (r:Nat),∀ (s:Nat) (t:(OA)) (u v:Nat) (w:(OA)) (x y:Nat) (z:(OA)) (aa ab:Nat) (ac:(OA)) (ad:Nat),∀ (ae:Nat) (af:Int) (c:(OA)) (d e:Nat) (g:Int) (a:KH),h ag i b j k l m n o p q r s t u v w x y z aa ab ac ad ae af c d e g a->(decide (g<=(b:Int))=true->vc21_L3 i b j k l m n o p q r s t u v w x y z aa ab ac ad ae af c d e g a ag h)/\(decide (g<=(b:Int))=false->∀ (f:Nat),((a f):(Option (Ent)))=none->∀ (ah:Nat),(((KH.new a f (mkEnt [(.slice c d e)] 0)) ah):(Option (Ent)))=none->∃ (ai:Nat) (aj:(List Value)),((knew (KH.new a f (mkEnt [(.slice c d e)] 0)) ⟨1,24,false,1,3,0,[],[(.slice none 0 0)]⟩ (.slice (some ⟨f,0,none⟩) 1 1)):(Option (Nat × (List Value))))=(some (ai,aj))/\∃ (ak:(OA)) (al am:Nat) (an:KH),((kappend (KH.new a f (mkEnt [(.slice c d e)] 0)) ah ⟨1,24,false,1,3,0,[],[(.slice none 0 0)]⟩ z aa ab ai aj):(Option (Value × KH)))=(some (.slice ak al am,an))/\∃ (ao:Nat),(ao:Nat)<y27/\y28 ao i b j k l m n o p q r s t u v w x y ak al am ac ad ae (IntKind.wrap .i64 (af+1)) an))
def vc21_L6 (y1:OA) (y2 y3:Nat) (y4:OA) (y5 y6:Nat) (y7:OA) (y8 y9:Nat) (y10:OA) (y11 y12:Nat) (y13:OA) (y14 y15:Nat) (y16:OA) (y17 y18:Nat) (y19:KH) (y20:PQ):Prop :=
 (∃ (c:(Nat->OA->Nat->Nat->OA->Nat->Nat->OA->Nat->Nat->OA->Nat->Nat->OA->Nat->Nat->OA->Nat->Nat->OA->Nat->Nat->OA->Nat->Nat->Int->KH->Prop)),(∃ (ac:Nat),c ac y1 y2 y3 y4 y5 y6 y7 y8 y9 y10 y11 y12 y13 y14 y15 y16 y17 y18 none 0 0 none 0 0 0 y19)/\∀ (k:Nat) (l:(OA)) (m n:Nat) (o:(OA)) (a p:Nat) (q:(OA)) (r s:Nat) (t:(OA)) (u:Nat),∀ (v:Nat) (w:(OA)) (x y:Nat) (z:(OA)) (aa ab:Nat) (d:(OA)) (e f:Nat) (g:(OA)) (h:Nat),∀ (i:Nat) (b:Int) (j:KH),c k l m n o a p q r s t u v w x y z aa ab d e f g h i b j->(decide (b<(a:Int))=true->vc21_L5 l m n o a p q r s t u v w x y z aa ab d e f g h i b j k c)/\(decide (b<(a:Int))=false->y20 (.tuple #[.slice d e f,.slice g h i]) j))
def vc21 (p0_0:OA) (p0_0n p0_0c:Nat) (p0_1:OA) (p0_1n p0_1c:Nat) (p0_2:OA) (p0_2n p0_2c:Nat) (H:KH) (Q:PQ):Prop :=
 Does (env Try.prog) 40 [(.agg #[.slice p0_0 p0_0n p0_0c,.slice p0_1 p0_1n p0_1c,.slice p0_2 p0_2n p0_2c])] H fun l k=>∃ (a:Bool),l=(.bool a)/\((!a)=true->Q (.tuple #[.slice none 0 0,.slice none 0 0]) k)/\((!a)=false->Does (env Try.prog) 12 [(.agg #[.slice p0_0 p0_0n p0_0c,.slice p0_1 p0_1n p0_1c,.slice p0_2 p0_2n p0_2c])] k fun m n=>∃ (b:(OA)) (c d:Nat) (e:(OA)) (f g:Nat) (h:(OA)) (i j:Nat),m=(.agg #[.slice b c d,.slice e f g,.slice h i j])/\vc21_L6 p0_0 p0_0n p0_0c p0_1 p0_1n p0_1c p0_2 p0_2n p0_2c b c d e f g h i j n Q)
theorem fn21 (ok:EnvOk (env Try.prog)) {p0_0:OA} {p0_0n p0_0c:Nat} {p0_1:OA} {p0_1n p0_1c:Nat} {p0_2:OA} {p0_2n p0_2c:Nat} {H:KH} {Q:PQ} (h:vc21 p0_0 p0_0n p0_0c p0_1 p0_1n p0_1c p0_2 p0_2n p0_2c H Q):Does (env Try.prog) 21 [.agg #[.slice p0_0 p0_0n p0_0c,.slice p0_1 p0_1n p0_1c,.slice p0_2 p0_2n p0_2c]] H Q :=
 wFun_sound (W:=W21 Try.prog) ok.tt (blt_lt (by kernel_rfl)) (ff_of ok (by kernel_rfl) Try.func21) (Eq.mpr (by kernel_rfl) h)
def W22 (P:Program):WE:=⟨env P,tupT,[4,8],mkTab [],22⟩
def vc22_J1 (y1:KH) (y2:Nat) (y3:PQ):Prop :=
 ((none:(Option Nat))=none/\∃ (a:Int),ld y1 ⟨y2,0+8,none⟩ [(.int .i64 a)]/\(decide (a=9)=true->True/\(none:(Option Nat))=none/\∃ (b:Int),ld y1 ⟨y2,0+5,none⟩ [(.int .i64 b)]/\(none:(Option Nat))=none/\∃ (c:Int),ld y1 ⟨y2,0+8,none⟩ [(.int .i64 c)]/\(((.pointer (some ⟨y2,0,none⟩)):Value)=(.pointer (some ⟨y2,0,none⟩))/\((.pointer (some ⟨y2,0,none⟩)):Value)=(.pointer (some ⟨y2,0,none⟩))/\((none:(Option Nat))=none/\((.pointer (some ⟨y2,0+5,none⟩)):Value)=(.pointer (some ⟨y2,0+5,none⟩)))/\(∃ (f:Int),ld y1 ⟨y2,0+5,none⟩ [(.int .i64 f)]/\((.int .i64 f):Value)=(.int .i64 b))/\((.pointer (some ⟨y2,0,none⟩)):Value)=(.pointer (some ⟨y2,0,none⟩))/\((.pointer (some ⟨y2,0,none⟩)):Value)=(.pointer (some ⟨y2,0,none⟩))/\((none:(Option Nat))=none/\((.pointer (some ⟨y2,0+8,none⟩)):Value)=(.pointer (some ⟨y2,0+8,none⟩)))/\(∃ (g:Int),ld y1 ⟨y2,0+8,none⟩ [(.int .i64 g)]/\((.int .i64 g):Value)=(.int .i64 c))/\True)/\y3 (.tuple #[.agg #[.slice none 0 0,.int .i64 0],.int .i64 b,.int .i64 c]) y1)/\(decide (a=9)=false->(none:(Option Nat))=none/\∃ (d:Int),ld y1 ⟨y2,0+8,none⟩ [(.int .i64 d)]/\(decide (d≠0)=true->True/\(none:(Option Nat))=none/\∃ (e:Int),ld y1 ⟨y2,0+8,none⟩ [(.int .i64 e)]/\(((.pointer (some ⟨y2,0,none⟩)):Value)=(.pointer (some ⟨y2,0,none⟩))/\((.pointer (some ⟨y2,0,none⟩)):Value)=(.pointer (some ⟨y2,0,none⟩))/\((none:(Option Nat))=none/\((.pointer (some ⟨y2,0+8,none⟩)):Value)=(.pointer (some ⟨y2,0+8,none⟩)))/\(∃ (h:Int),ld y1 ⟨y2,0+8,none⟩ [(.int .i64 h)]/\((.int .i64 h):Value)=(.int .i64 e))/\True)/\y3 (.tuple #[.agg #[.slice none 0 0,.int .i64 0],.int .i64 0,.int .i64 e]) y1)/\(decide (d≠0)=false->(none:(Option Nat))=none/\∃ (i:(OA)) (j k:Nat) (l:Int),ld y1 ⟨y2,0+6,none⟩ [.slice i j k,.int .i64 l]/\y3 (.tuple #[.agg #[.slice i j k,.int .i64 l],.int .i64 0,.int .i64 0]) y1)))
def vc22 (p0_0:OA) (p0_0n p0_0c:Nat) (p0_1:OA) (p0_1n p0_1c:Nat) (p0_2:OA) (p0_2n p0_2c:Nat) (p1:OA) (p1n p1c:Nat) (p2:OA) (p2n p2c:Nat) (p3:Int) (H:KH) (Q:PQ):Prop :=
 ((decide (p3<1)=true->Q (.tuple #[.agg #[.slice none 0 0,.int .i64 0],.int .i64 0,.int .i64 1]) H)/\(decide (p3<1)=false->Does (env Try.prog) 40 [(.agg #[.slice p0_0 p0_0n p0_0c,.slice p0_1 p0_1n p0_1c,.slice p0_2 p0_2n p0_2c])] H fun j c=>∃ (d:Bool),j=(.bool d)/\((!d)=true->Q (.tuple #[.agg #[.slice none 0 0,.int .i64 0],.int .i64 0,.int .i64 1]) c)/\((!d)=false->∀ (a:Nat),((c a):(Option (Ent)))=none->(none:(Option Nat))=none/\(none:(Option Nat))=none/\(∃ (g:(List Value)),((List.length g):Nat)=(List.length [(Value.int .i64 p3)])/\ld (KH.new c a (mkEnt (Array.toList #[Value.slice p0_0 p0_0n p0_0c,.slice p0_1 p0_1n p0_1c,.slice p0_2 p0_2n p0_2c,.slice p1 p1n p1c,.slice p2 p2n p2c,.int .i64 0,.slice none 0 0,.int .i64 0,.int .i64 0]) 0)) ⟨a,(0+6)+1,none⟩ g)/\KH.may (KH.new c a (mkEnt (Array.toList #[Value.slice p0_0 p0_0n p0_0c,.slice p0_1 p0_1n p0_1c,.slice p0_2 p0_2n p0_2c,.slice p1 p1n p1c,.slice p2 p2n p2c,.int .i64 0,.slice none 0 0,.int .i64 0,.int .i64 0]) 0)) a/\Does (env Try.prog) 42 [.pointer (some ⟨a,0,none⟩),.agg #[.bool false,.int .i64 0]] (KH.put (KH.new c a (mkEnt (Array.toList #[Value.slice p0_0 p0_0n p0_0c,.slice p0_1 p0_1n p0_1c,.slice p0_2 p0_2n p0_2c,.slice p1 p1n p1c,.slice p2 p2n p2c,.int .i64 0,.slice none 0 0,.int .i64 0,.int .i64 0]) 0)) ⟨a,(0+6)+1,none⟩ [(.int .i64 p3)]) fun k b=>∃ (i:Int),k=(.int .i64 i)/\(none:(Option Nat))=none/\∃ (e:Int),ld b ⟨a,0+8,none⟩ [(.int .i64 e)]/\(decide (e=0)=true->(none:(Option Nat))=none/\∃ (f:Int),ld b ⟨a,0+5,none⟩ [(.int .i64 f)]/\(decide (f<(p2n:Int))=true->(none:(Option Nat))=none/\(∃ (h:(List Value)),((List.length h):Nat)=(List.length [(Value.int .i64 9)])/\ld b ⟨a,0+8,none⟩ h)/\KH.may b a/\vc22_J1 (KH.put b ⟨a,0+8,none⟩ [(.int .i64 9)]) a Q)/\(decide (f<(p2n:Int))=false->vc22_J1 b a Q))/\(decide (e=0)=false->vc22_J1 b a Q))))
theorem fn22 (ok:EnvOk (env Try.prog)) {p0_0:OA} {p0_0n p0_0c:Nat} {p0_1:OA} {p0_1n p0_1c:Nat} {p0_2:OA} {p0_2n p0_2c:Nat} {p1:OA} {p1n p1c:Nat} {p2:OA} {p2n p2c:Nat} {p3:Int} {H:KH} {Q:PQ} (h:vc22 p0_0 p0_0n p0_0c p0_1 p0_1n p0_1c p0_2 p0_2n p0_2c p1 p1n p1c p2 p2n p2c p3 H Q):Does (env Try.prog) 22 [.agg #[.slice p0_0 p0_0n p0_0c,.slice p0_1 p0_1n p0_1c,.slice p0_2 p0_2n p0_2c],.slice p1 p1n p1c,.slice p2 p2n p2c,.int .i64 p3] H Q :=
 wFun_sound (W:=W22 Try.prog) ok.tt (blt_lt (by kernel_rfl)) (ff_of ok (by kernel_rfl) Try.func22) (Eq.mpr (by kernel_rfl) h)
def W23 (P:Program):WE:=⟨env P,tupT,[5,6],mkTab [(0,[.tmp 2 .slice,.tmp 3 .slice,.tmp 4 .slice,.ref 5 5 0,.box 5 [.slice none 0 0,.slice none 0 0,.slice none 0 0],.ref 6 6 0,.box 6 [.slice none 0 0,.int .i64 0],.tmp 11 .slice,.tmp 12 .slice,.tmp 13 (.int .i64)])],23⟩
def vc23_J0 (y1:Int) (y2:Nat) (y3:OA) (y4:KH) (y5:Int) (y6:PQ) (y7:Nat) (y8:(Nat->(OA->(Nat->(Nat->(OA->(Nat->(Nat->(OA->(Nat->(Nat->(OA->(Nat->(Nat->(OA->(Nat->(Nat->(OA->(Nat->(Nat->(OA->(Nat->(Nat->(Int->(OA->(Nat->(Nat->(OA->(Nat->(Nat->(Int->(KH->Prop)))))))))))))))))))))))))))))))) (y9:OA) (y10 y11:Nat) (y12:OA) (y13 y14 y15:Nat) (y16:OA) (y17 y18:Nat) (y19:OA) (y20 y21:Nat) (y22:OA) (y23 y24:Nat) (y25:OA) (y26 y27:Nat) (y28:Int) (y29:OA) (y30 y31:Nat) (y32:OA) (y33 y34:Nat) (y35:Int):Prop :=
 (((0:Int)<=y1/\y1<(y2:Int))/\∃ (b c:Nat),y3=some ⟨b,c,none⟩/\∃ (d:(OA)) (e i:Nat),ld y4 ⟨b,c+((Int.toNat y1)*1),none⟩ [(.slice d e i)]/\((0:Int)<=y5/\y5<(e:Int))/\∃ (f g:Nat),d=some ⟨f,g,none⟩/\∃ (a:Bool),ld y4 ⟨f,g+((Int.toNat y5)*1),none⟩ [(.bool a)]/\((!a)=true->y6 (.bool false) y4)/\((!a)=false->∃ (h:Nat),(h:Nat)<y7/\y8 h y9 y10 y11 y12 y13 y14 y3 y2 y15 y16 y17 y18 y19 y20 y21 y22 y23 y24 y25 y26 y27 y28 y29 y30 y31 y32 y33 y34 (IntKind.wrap .i64 (y35+1)) y4))
def vc23_J1 (y1:Int) (y2:Nat) (y3:OA) (y4:KH) (y5:Nat) (y6:OA) (y7:Int) (y8:Nat) (y9:OA) (y10:PQ) (y11:Nat) (y12:(Nat->(OA->(Nat->(Nat->(OA->(Nat->(Nat->(OA->(Nat->(Nat->(OA->(Nat->(Nat->(OA->(Nat->(Nat->(OA->(Nat->(Nat->(OA->(Nat->(Nat->(Int->(OA->(Nat->(Nat->(OA->(Nat->(Nat->(Int->(KH->Prop)))))))))))))))))))))))))))))))) (y13:OA) (y14 y15:Nat) (y16:OA) (y17 y18 y19:Nat) (y20:OA) (y21 y22:Nat) (y23:OA) (y24 y25:Nat) (y26:OA) (y27 y28:Nat) (y29:OA) (y30 y31:Nat) (y32:Int) (y33 y34:Nat):Prop :=
 (((0:Int)<=y1/\y1<(y2:Int))/\∃ (c d:Nat),y3=some ⟨c,d,none⟩/\((0:Int)<=1/\(1:Int)<(2:Int))/\(none:(Option Nat))=none/\∃ (b:Int),ld y4 ⟨c,(d+((Int.toNat y1)*2))+((Int.toNat 1)*1),none⟩ [(.int .i64 b)]/\(decide (b<(y5:Int))=true->((0:Int)<=y1/\y1<(y2:Int))/\∃ (e f:Nat),y3=some ⟨e,f,none⟩/\((0:Int)<=1/\(1:Int)<(2:Int))/\(none:(Option Nat))=none/\∃ (a:Int),ld y4 ⟨e,(f+((Int.toNat y1)*2))+((Int.toNat 1)*1),none⟩ [(.int .i64 a)]/\((0:Int)<=a/\a<(y5:Int))/\∃ (g h:Nat),y6=some ⟨g,h,none⟩/\(none:(Option Nat))=none/\∃ (i:Int),ld y4 ⟨g,(h+((Int.toNat a)*2))+0,none⟩ [(.int .i64 i)]/\vc23_J0 y7 y8 y9 y4 i y10 y11 y12 y13 y14 y15 y16 y17 y18 y19 y20 y21 y22 y23 y24 y25 y26 y27 y28 y29 y30 y31 y32 y6 y5 y33 y3 y2 y34 y1)/\(decide (b<(y5:Int))=false->vc23_J0 y7 y8 y9 y4 (y21:Int) y10 y11 y12 y13 y14 y15 y16 y17 y18 y19 y20 y21 y22 y23 y24 y25 y26 y27 y28 y29 y30 y31 y32 y6 y5 y33 y3 y2 y34 y1))
def vc23_L5 (y1:OA) (y2 y3:Nat) (y4:OA) (y5 y6:Nat) (y7:OA) (y8 y9:Nat) (y10:OA) (y11 y12:Nat) (y13:OA) (y14 y15:Nat) (y16:OA) (y17 y18:Nat) (y19:OA) (y20 y21:Nat) (y22:Int) (y23:OA) (y24 y25:Nat) (y26:OA) (y27 y28:Nat) (y29:KH) (y30:PQ):Prop :=
 (∃ (m:(Nat->OA->Nat->Nat->OA->Nat->Nat->OA->Nat->Nat->OA->Nat->Nat->OA->Nat->Nat->OA->Nat->Nat->OA->Nat->Nat->Int->OA->Nat->Nat->OA->Nat->Nat->Int->KH->Prop)),(∃ (cu:Nat),m cu y1 y2 y3 y4 y5 y6 y7 y8 y9 y10 y11 y12 y13 y14 y15 y16 y17 y18 y19 y20 y21 y22 y23 y24 y25 y26 y27 y28 0 y29)/\∀ (t:Nat) (h:(OA)) (i u:Nat) (n:(OA)) (o v:Nat) (p:(OA)) (q w:Nat) (x:(OA)) (f:Nat),∀ (y:Nat) (z:(OA)) (aa ab:Nat) (r:(OA)) (s ac:Nat) (j:(OA)) (g ad:Nat) (ae:Int) (k:(OA)),∀ (l af:Nat) (d:(OA)) (e ag:Nat) (a:Int) (b:KH),m t h i u n o v p q w x f y z aa ab r s ac j g ad ae k l af d e ag a b->(decide (a<(g:Int))=true->((0:Int)<=a/\a<(g:Int))/\∃ (ba bb:Nat),j=some ⟨ba,bb,none⟩/\(none:(Option Nat))=none/\∃ (am:Int),ld b ⟨ba,(bb+((Int.toNat a)*5))+1,none⟩ [(.int .i64 am)]/\(decide (am<0)=true->∃ (bc:Nat),(bc:Nat)<t/\m bc h i u n o v p q w x f y z aa ab r s ac j g ad ae k l af d e ag (IntKind.wrap .i64 (a+1)) b)/\(decide (am<0)=false->True/\((0:Int)<=a/\a<(g:Int))/\∃ (bd be:Nat),j=some ⟨bd,be,none⟩/\(none:(Option Nat))=none/\∃ (ah:Int),ld b ⟨bd,(be+((Int.toNat a)*5))+1,none⟩ [(.int .i64 ah)]/\((0:Int)<=ah/\ah<(s:Int))/\∃ (bf bg:Nat),r=some ⟨bf,bg,none⟩/\(none:(Option Nat))=none/\∃ (c:Int),ld b ⟨bf,(bg+((Int.toNat ah)*3))+0,none⟩ [(.int .i64 c)]/\True/\((0:Int)<=c/\c<(i:Int))/\∃ (bh bi:Nat),h=some ⟨bh,bi,none⟩/\∃ (cv:(OA)) (an cw:Nat),ld b ⟨bh,bi+((Int.toNat c)*1),none⟩ [(.slice cv an cw)]/\(decide ((an:Int)≠(f:Int))=true->y30 (.bool false) b)/\(decide ((an:Int)≠(f:Int))=false->((0:Int)<=c/\c<(q:Int))/\∃ (bj bk:Nat),p=some ⟨bj,bk,none⟩/\∃ (cx:(OA)) (ao cy:Nat),ld b ⟨bj,bk+((Int.toNat c)*1),none⟩ [(.slice cx ao cy)]/\(((decide ((ao:Int)≠(IntKind.wrap .i64 ((f:Int)+1)))):Bool)=true->y30 (.bool false) b)/\(((decide ((ao:Int)≠(IntKind.wrap .i64 ((f:Int)+1)))):Bool)=false->True/\((0:Int)<=a/\a<(e:Int))/\∃ (bl bm:Nat),d=some ⟨bl,bm,none⟩/\((0:Int)<=0/\(0:Int)<(2:Int))/\(none:(Option Nat))=none/\∃ (ap:Int),ld b ⟨bl,(bm+((Int.toNat a)*2))+((Int.toNat 0)*1),none⟩ [(.int .i64 ap)]/\((0:Int)<=a/\a<(e:Int))/\∃ (bn bo:Nat),d=some ⟨bn,bo,none⟩/\((0:Int)<=1/\(1:Int)<(2:Int))/\(none:(Option Nat))=none/\∃ (aq:Int),ld b ⟨bn,(bo+((Int.toNat a)*2))+((Int.toNat 1)*1),none⟩ [(.int .i64 aq)]/\(decide (ap=aq)=true->((0:Int)<=c/\c<(o:Int))/\∃ (bp bq:Nat),n=some ⟨bp,bq,none⟩/\∃ (ar:Bool),ld b ⟨bp,bq+((Int.toNat c)*1),none⟩ [(.bool ar)]/\((!ar)=true->y30 (.bool false) b)/\((!ar)=false->((0:Int)<=a/\a<(e:Int))/\∃ (br bs:Nat),d=some ⟨br,bs,none⟩/\((0:Int)<=0/\(0:Int)<(2:Int))/\(none:(Option Nat))=none/\∃ (au:Int),ld b ⟨br,(bs+((Int.toNat a)*2))+((Int.toNat 0)*1),none⟩ [(.int .i64 au)]/\((0:Int)<=a/\a<(e:Int))/\∃ (bt bu:Nat),d=some ⟨bt,bu,none⟩/\((0:Int)<=1/\(1:Int)<(2:Int))/\(none:(Option Nat))=none/\∃ (av:Int),ld b ⟨bt,(bu+((Int.toNat a)*2))+((Int.toNat 1)*1),none⟩ [(.int .i64 av)]/\(decide (au<av)=true->((0:Int)<=c/\c<(i:Int))/\∃ (bv bw:Nat),h=some ⟨bv,bw,none⟩/\∃ (bx:(OA)) (bz cz:Nat),ld b ⟨bv,bw+((Int.toNat c)*1),none⟩ [(.slice bx bz cz)]/\((0:Int)<=a/\a<(e:Int))/\∃ (ca cb:Nat),d=some ⟨ca,cb,none⟩/\((0:Int)<=0/\(0:Int)<(2:Int))/\(none:(Option Nat))=none/\∃ (ai:Int),ld b ⟨ca,(cb+((Int.toNat a)*2))+((Int.toNat 0)*1),none⟩ [(.int .i64 ai)]/\((0:Int)<=ai/\ai<(l:Int))/\∃ (cc cd:Nat),k=some ⟨cc,cd,none⟩/\(none:(Option Nat))=none/\∃ (aj:Int),ld b ⟨cc,(cd+((Int.toNat ai)*2))+0,none⟩ [(.int .i64 aj)]/\((0:Int)<=aj/\aj<(bz:Int))/\∃ (ce cf:Nat),bx=some ⟨ce,cf,none⟩/\∃ (aw:Bool),ld b ⟨ce,cf+((Int.toNat aj)*1),none⟩ [(.bool aw)]/\((!aw)=true->y30 (.bool false) b)/\((!aw)=false->vc23_J1 a e d b l k c q p y30 t m h i u n o v w x f y z aa ab r s ac j g ad ae af ag))/\(decide (au<av)=false->vc23_J1 a e d b l k c q p y30 t m h i u n o v w x f y z aa ab r s ac j g ad ae af ag)))/\(decide (ap=aq)=false->((0:Int)<=a/\a<(e:Int))/\∃ (cg ch:Nat),d=some ⟨cg,ch,none⟩/\((0:Int)<=0/\(0:Int)<(2:Int))/\(none:(Option Nat))=none/\∃ (ax:Int),ld b ⟨cg,(ch+((Int.toNat a)*2))+((Int.toNat 0)*1),none⟩ [(.int .i64 ax)]/\((0:Int)<=a/\a<(e:Int))/\∃ (ci cj:Nat),d=some ⟨ci,cj,none⟩/\((0:Int)<=1/\(1:Int)<(2:Int))/\(none:(Option Nat))=none/\∃ (ay:Int),ld b ⟨ci,(cj+((Int.toNat a)*2))+((Int.toNat 1)*1),none⟩ [(.int .i64 ay)]/\(decide (ax<ay)=true->((0:Int)<=c/\c<(i:Int))/\∃ (ck cl:Nat),h=some ⟨ck,cl,none⟩/\∃ (cm:(OA)) (cn da:Nat),ld b ⟨ck,cl+((Int.toNat c)*1),none⟩ [(.slice cm cn da)]/\((0:Int)<=a/\a<(e:Int))/\∃ (co cp:Nat),d=some ⟨co,cp,none⟩/\((0:Int)<=0/\(0:Int)<(2:Int))/\(none:(Option Nat))=none/\∃ (ak:Int),ld b ⟨co,(cp+((Int.toNat a)*2))+((Int.toNat 0)*1),none⟩ [(.int .i64 ak)]/\((0:Int)<=ak/\ak<(l:Int))/\∃ (cq cr:Nat),k=some ⟨cq,cr,none⟩/\(none:(Option Nat))=none/\∃ (al:Int),ld b ⟨cq,(cr+((Int.toNat ak)*2))+0,none⟩ [(.int .i64 al)]/\((0:Int)<=al/\al<(cn:Int))/\∃ (cs ct:Nat),cm=some ⟨cs,ct,none⟩/\∃ (az:Bool),ld b ⟨cs,ct+((Int.toNat al)*1),none⟩ [(.bool az)]/\((!az)=true->y30 (.bool false) b)/\((!az)=false->vc23_J1 a e d b l k c q p y30 t m h i u n o v w x f y z aa ab r s ac j g ad ae af ag))/\(decide (ax<ay)=false->vc23_J1 a e d b l k c q p y30 t m h i u n o v w x f y z aa ab r s ac j g ad ae af ag))))))/\(decide (a<(g:Int))=false->y30 (.bool true) b))
def vc23 (p0_0:OA) (p0_0n p0_0c:Nat) (p0_1:OA) (p0_1n p0_1c:Nat) (p0_2:OA) (p0_2n p0_2c:Nat) (p1_0:OA) (p1_0n p1_0c:Nat) (p1_1:Int) (p2:OA) (p2n p2c:Nat) (p3:OA) (p3n p3c:Nat) (p4:OA) (p4n p4c:Nat) (H:KH) (Q:PQ):Prop :=
 ((decide ((p4n:Int)≠(p0_1n:Int))=true->Q (.bool false) H)/\(decide ((p4n:Int)≠(p0_1n:Int))=false->True/\Does (env Try.prog) 43 [(.agg #[.slice p1_0 p1_0n p1_0c,.int .i64 p1_1])] H fun g h=>∃ (a:(OA)) (b c:Nat),g=(.slice a b c)/\(((.agg #[.slice p1_0 p1_0n p1_0c,.int .i64 p1_1]):Value)=(.agg #[.slice p1_0 p1_0n p1_0c,.int .i64 p1_1])/\True)/\Does (env Try.prog) 44 [(.agg #[.slice p1_0 p1_0n p1_0c,.int .i64 p1_1])] h fun i j=>∃ (d:(OA)) (e f:Nat),i=(.slice d e f)/\True/\vc23_L5 p2 p2n p2c p3 p3n p3c p4 p4n p4c p0_0 p0_0n p0_0c p0_1 p0_1n p0_1c p0_2 p0_2n p0_2c p1_0 p1_0n p1_0c p1_1 a b c d e f j Q))
theorem fn23 (ok:EnvOk (env Try.prog)) {p0_0:OA} {p0_0n p0_0c:Nat} {p0_1:OA} {p0_1n p0_1c:Nat} {p0_2:OA} {p0_2n p0_2c:Nat} {p1_0:OA} {p1_0n p1_0c:Nat} {p1_1:Int} {p2:OA} {p2n p2c:Nat} {p3:OA} {p3n p3c:Nat} {p4:OA} {p4n p4c:Nat} {H:KH} {Q:PQ} (h:vc23 p0_0 p0_0n p0_0c p0_1 p0_1n p0_1c p0_2 p0_2n p0_2c p1_0 p1_0n p1_0c p1_1 p2 p2n p2c p3 p3n p3c p4 p4n p4c H Q):Does (env Try.prog) 23 [.agg #[.slice p0_0 p0_0n p0_0c,.slice p0_1 p0_1n p0_1c,.slice p0_2 p0_2n p0_2c],.agg #[.slice p1_0 p1_0n p1_0c,.int .i64 p1_1],.slice p2 p2n p2c,.slice p3 p3n p3c,.slice p4 p4n p4c] H Q :=
 wFun_sound (W:=W23 Try.prog) ok.tt (blt_lt (by kernel_rfl)) (ff_of ok (by kernel_rfl) Try.func23) (Eq.mpr (by kernel_rfl) h)
def W39 (P:Program):WE:=⟨env P,tupT,[5,13,17],mkTab [(2,[.tmp 0 .ptr,.tmp 3 (.int .i64),.ref 5 5 0,.box 5 [.slice none 0 0,.slice none 0 0,.slice none 0 0],.tmp 10 .slice,.tmp 11 (.int .i64),.tmp 12 (.int .i64),.ref 13 13 0,.box 13 [.int .i64 0,.slice none 0 0,.slice none 0 0],.tmp 14 .slice,.tmp 15 .bool,.tmp 16 (.int .i64)]),(0,[.tmp 0 .ptr,.tmp 3 (.int .i64),.ref 5 5 0,.box 5 [.slice none 0 0,.slice none 0 0,.slice none 0 0],.tmp 10 .slice,.tmp 11 (.int .i64),.tmp 12 (.int .i64)])],39⟩
def vc39_L2 (y1 y2:Nat) (y3:Int) (y4:OA) (y5 y6:Nat) (y7:OA) (y8 y9:Nat) (y10:OA) (y11 y12:Nat) (y13:OA) (y14 y15:Nat) (y16 y17 y18:Int) (y19:OA) (y20 y21:Nat) (y22:OA) (y23 y24:Nat) (y25:KH) (y26:PQ) (y27:Nat) (y28:(Nat->(Nat->(Nat->(Int->(OA->(Nat->(Nat->(OA->(Nat->(Nat->(OA->(Nat->(Nat->(OA->(Nat->(Nat->(Int->(Int->(KH->Prop)))))))))))))))))))):Prop :=
 (∃ (x:(Nat->Nat->Nat->Int->OA->Nat->Nat->OA->Nat->Nat->OA->Nat->Nat->OA->Nat->Nat->Int->Int->Int->OA->Nat->Nat->OA->Nat->Nat->OA->Nat->Nat->Bool->Int->KH->Prop)),(∃ (bo:Nat),(none:(Option Nat))=none/\x bo y1 y2 y3 y4 y5 y6 y7 y8 y9 y10 y11 y12 y13 y14 y15 y16 y17 y18 y19 y20 y21 y22 y23 y24 none 0 0 true 0 y25)/\∀ (ac g h:Nat) (i:Int) (c:(OA)) (d j:Nat) (k:(OA)) (l m:Nat) (n:(OA)) (o:Nat),∀ (p:Nat) (r:(OA)) (s t:Nat) (u v ad:Int) (y:(OA)) (q ae:Nat) (af:(OA)) (ag:Nat),∀ (ah:Nat) (z:(OA)) (w aa:Nat) (e:Bool) (b:Int) (a:KH),x ac g h i c d j k l m n o p r s t u v ad y q ae af ag ah z w aa e b a->(decide (b<(q:Int))=true->(e=true->((0:Int)<=b/\b<(q:Int))/\∃ (aq ar:Nat),y=some ⟨aq,ar,none⟩/\∃ (aj:Bool) (f:Int),ld a ⟨aq,ar+((Int.toNat b)*2),none⟩ [.bool aj,.int .i64 f]/\(aj=true->True/\((0:Int)<=f/\f<(d:Int))/\∃ (au av:Nat),c=some ⟨au,av,none⟩/\(none:(Option Nat))=none/\∃ (ai:ByteArray),ld a ⟨au,(av+((Int.toNat f)*3))+1,none⟩ [(.string ai)]/\∀ (ab:Nat),((a ab):(Option (Ent)))=none->∀ (aw:Nat),(((KH.new a ab (mkEnt [.int .i64 f,.string ai] 0)) aw):(Option (Ent)))=none->∃ (ax:Nat) (ay:(List Value)),((knew (KH.new a ab (mkEnt [.int .i64 f,.string ai] 0)) ⟨2,24,true,3,0,0,[(0,1),(1,1)],[.int .i64 0,.string (ByteArray.mk #[])]⟩ (.slice (some ⟨ab,0,none⟩) 1 1)):(Option (Nat × (List Value))))=(some (ax,ay))/\∃ (az:(OA)) (ba bb:Nat) (bc:KH),((kappend (KH.new a ab (mkEnt [.int .i64 f,.string ai] 0)) aw ⟨2,24,true,3,0,0,[(0,1),(1,1)],[.int .i64 0,.string (ByteArray.mk #[])]⟩ z w aa ax ay):(Option (Value × KH)))=(some (.slice az ba bb,bc))/\True/\∃ (bd:Nat),(bd:Nat)<ac/\(none:(Option Nat))=none/\x bd g h i c d j k l m n o p r s t u v ad y q ae af ag ah az ba bb e (IntKind.wrap .i64 (b+1)) bc)/\(aj=false->Does (env Try.prog) 39 [.pointer (some ⟨g,h,none⟩),.agg #[.slice c d j,.slice k l m,.slice n o p],.int .i64 f,.int .i64 (IntKind.wrap .i64 (i-1))] a fun bp ap=>∃ (be:(OA)) (bf bg:Nat) (ak:Bool),bp=(.tuple #[.slice be bf bg,.bool ak])/\∀ (bh:Nat),((ap bh):(Option (Ent)))=none->∃ (bi:Nat) (bj:(List Value)),((knew ap ⟨2,24,true,3,0,0,[(0,1),(1,1)],[.int .i64 0,.string (ByteArray.mk #[])]⟩ (.slice be bf bg)):(Option (Nat × (List Value))))=(some (bi,bj))/\∃ (al:(OA)) (am an:Nat) (ao:KH),((kappend ap bh ⟨2,24,true,3,0,0,[(0,1),(1,1)],[.int .i64 0,.string (ByteArray.mk #[])]⟩ z w aa bi bj):(Option (Value × KH)))=(some (.slice al am an,ao))/\(ak=true->∃ (bk:Nat),(bk:Nat)<ac/\(none:(Option Nat))=none/\x bk g h i c d j k l m n o p r s t u v ad y q ae af ag ah al am an (decide ((w:Int)<60)) (IntKind.wrap .i64 (b+1)) ao)/\(ak=false->∃ (bl:Nat),(bl:Nat)<ac/\(none:(Option Nat))=none/\x bl g h i c d j k l m n o p r s t u v ad y q ae af ag ah al am an false (IntKind.wrap .i64 (b+1)) ao)))/\(e=false->(e=true->y26 (.tuple #[.slice z w aa,.bool true]) a)/\(e=false->∃ (bm:Nat),(bm:Nat)<y27/\(none:(Option Nat))=none/\y28 bm g h i c d j k l m n o p r s t u (IntKind.wrap .i64 (v+1)) a)))/\(decide (b<(q:Int))=false->(e=true->y26 (.tuple #[.slice z w aa,.bool true]) a)/\(e=false->∃ (bn:Nat),(bn:Nat)<y27/\(none:(Option Nat))=none/\y28 bn g h i c d j k l m n o p r s t u (IntKind.wrap .i64 (v+1)) a)))
def vc39_L4 (y1 y2:Nat) (y3:Int) (y4:OA) (y5 y6:Nat) (y7:OA) (y8 y9:Nat) (y10:OA) (y11 y12:Nat) (y13:OA) (y14 y15:Nat) (y16:Int) (y17:KH) (y18:PQ):Prop :=
 (∃ (f:(Nat->Nat->Nat->Int->OA->Nat->Nat->OA->Nat->Nat->OA->Nat->Nat->OA->Nat->Nat->Int->Int->KH->Prop)),(∃ (ag:Nat),(none:(Option Nat))=none/\f ag y1 y2 y3 y4 y5 y6 y7 y8 y9 y10 y11 y12 y13 y14 y15 y16 0 y17)/\∀ (j k l:Nat) (m:Int) (n:(OA)) (o p:Nat) (q:(OA)) (r s:Nat) (g:(OA)) (h:Nat),∀ (t:Nat) (i:(OA)) (a u:Nat) (c b:Int) (d:KH),f j k l m n o p q r s g h t i a u c b d->(decide (b<(a:Int))=true->True/\(a:Int)≠0/\((0:Int)<=(Int.tmod (IntKind.wrap .i64 (c+b)) (a:Int))/\((Int.tmod (IntKind.wrap .i64 (c+b)) (a:Int)):Int)<(a:Int))/\∃ (v w:Nat),i=some ⟨v,w,none⟩/\∃ (e:Int),ld d ⟨v,w+((Int.toNat (Int.tmod (IntKind.wrap .i64 (c+b)) (a:Int)))*1),none⟩ [(.int .i64 e)]/\((0:Int)<=e/\e<(h:Int))/\∃ (x y:Nat),g=some ⟨x,y,none⟩/\∃ (z:Int) (aa:(OA)) (ab ac:Nat) (ad:(OA)) (ae af:Nat),ld d ⟨x,y+((Int.toNat e)*3),none⟩ [.int .i64 z,.slice aa ab ac,.slice ad ae af]/\True/\vc39_L2 k l m n o p q r s g h t i a u c b z aa ab ac ad ae af d y18 j f)/\(decide (b<(a:Int))=false->y18 (.tuple #[.slice none 0 0,.bool false]) d))
def vc39 (p0b p0o:Nat) (p1_0:OA) (p1_0n p1_0c:Nat) (p1_1:OA) (p1_1n p1_1c:Nat) (p1_2:OA) (p1_2n p1_2c:Nat) (p2 p3:Int) (H:KH) (Q:PQ):Prop :=
 Does (env Try.prog) 61 [.agg #[.slice p1_0 p1_0n p1_0c,.slice p1_1 p1_1n p1_1c,.slice p1_2 p1_2n p1_2c],.int .i64 p2] H fun f b=>∃ (c:(OA)) (a d:Nat),f=(.slice c a d)/\(decide ((a:Int)=0)=true->Q (.tuple #[.slice none 0 0,.bool false]) b)/\(decide ((a:Int)=0)=false->(decide (p3=0)=true->Q (.tuple #[.slice none 0 0,.bool false]) b)/\(decide (p3=0)=false->Does (env Try.prog) 24 [.pointer (some ⟨p0b,p0o,none⟩),.int .i64 (a:Int)] b fun g h=>∃ (e:Int),g=(.int .i64 e)/\vc39_L4 p0b p0o p3 p1_0 p1_0n p1_0c p1_1 p1_1n p1_1c p1_2 p1_2n p1_2c c a d e h Q))
theorem fn39 (ok:EnvOk (env Try.prog)) {p0b p0o:Nat} {p1_0:OA} {p1_0n p1_0c:Nat} {p1_1:OA} {p1_1n p1_1c:Nat} {p1_2:OA} {p1_2n p1_2c:Nat} {p2 p3:Int} {H:KH} {Q:PQ} (h:vc39 p0b p0o p1_0 p1_0n p1_0c p1_1 p1_1n p1_1c p1_2 p1_2n p1_2c p2 p3 H Q):Does (env Try.prog) 39 [.pointer (some ⟨p0b,p0o,none⟩),.agg #[.slice p1_0 p1_0n p1_0c,.slice p1_1 p1_1n p1_1c,.slice p1_2 p1_2n p1_2c],.int .i64 p2,.int .i64 p3] H Q :=
 wFun_sound (W:=W39 Try.prog) ok.tt (blt_lt (by kernel_rfl)) (ff_of ok (by kernel_rfl) Try.func39) (Eq.mpr (by kernel_rfl) h)
def W41 (P:Program):WE:=⟨env P,tupT,[4,5],mkTab [],41⟩
def vc41 (p0_0:OA) (p0_0n p0_0c:Nat) (p0_1:OA) (p0_1n p0_1c:Nat) (p0_2:OA) (p0_2n p0_2c:Nat) (p1_0:OA) (p1_0n p1_0c:Nat) (p1_1:OA) (p1_1n p1_1c:Nat) (p1_2:OA) (p1_2n p1_2c:Nat) (p2 p3:Int) (H:KH) (Q:PQ):Prop :=
 (True/\((0:Int)<=p2/\p2<(p1_2n:Int))/\∃ (g h:Nat),p1_2=some ⟨g,h,none⟩/\(none:(Option Nat))=none/\∃ (i:(OA)) (j k:Nat),ld H ⟨g,(h+((Int.toNat p2)*3))+1,none⟩ [(.slice i j k)]/\Does (env Try.prog) 19 [.agg #[.slice p0_0 p0_0n p0_0c,.slice p0_1 p0_1n p0_1c,.slice p0_2 p0_2n p0_2c],.agg #[.slice p1_0 p1_0n p1_0c,.slice p1_1 p1_1n p1_1c,.slice p1_2 p1_2n p1_2c],.slice i j k] H fun aj a=>∃ (l:(OA)) (c ag:Nat) (b:Bool),aj=(.tuple #[.slice l c ag,.bool b])/\True/\True/\(decide (p3<(c:Int))=true->((0:Int)<=p3/\p3<(c:Int))/\∃ (m n:Nat),l=some ⟨m,n,none⟩/\∃ (f:Bool),ld a ⟨m,n+((Int.toNat p3)*1),none⟩ [(.bool f)]/\(f=true->Q (.bool true) a)/\(f=false->(b=true->((0:Int)<=p2/\p2<(p1_2n:Int))/\∃ (o p:Nat),p1_2=some ⟨o,p,none⟩/\(none:(Option Nat))=none/\∃ (d:Int),ld a ⟨o,(p+((Int.toNat p2)*3))+0,none⟩ [(.int .i64 d)]/\((0:Int)<=d/\d<(p0_2n:Int))/\∃ (q r:Nat),p0_2=some ⟨q,r,none⟩/\∃ (s:(OA)) (t ah:Nat),ld a ⟨q,r+((Int.toNat d)*1),none⟩ [(.slice s t ah)]/\((0:Int)<=p3/\p3<(t:Int))/\∃ (u v:Nat),s=some ⟨u,v,none⟩/\∃ (w:Bool),ld a ⟨u,v+((Int.toNat p3)*1),none⟩ [(.bool w)]/\Q (.bool w) a)/\(b=false->Q (.bool false) a)))/\(decide (p3<(c:Int))=false->(b=true->((0:Int)<=p2/\p2<(p1_2n:Int))/\∃ (x y:Nat),p1_2=some ⟨x,y,none⟩/\(none:(Option Nat))=none/\∃ (e:Int),ld a ⟨x,(y+((Int.toNat p2)*3))+0,none⟩ [(.int .i64 e)]/\((0:Int)<=e/\e<(p0_2n:Int))/\∃ (z aa:Nat),p0_2=some ⟨z,aa,none⟩/\∃ (ab:(OA)) (ac ai:Nat),ld a ⟨z,aa+((Int.toNat e)*1),none⟩ [(.slice ab ac ai)]/\((0:Int)<=p3/\p3<(ac:Int))/\∃ (ad ae:Nat),ab=some ⟨ad,ae,none⟩/\∃ (af:Bool),ld a ⟨ad,ae+((Int.toNat p3)*1),none⟩ [(.bool af)]/\Q (.bool af) a)/\(b=false->Q (.bool false) a)))
theorem fn41 (ok:EnvOk (env Try.prog)) {p0_0:OA} {p0_0n p0_0c:Nat} {p0_1:OA} {p0_1n p0_1c:Nat} {p0_2:OA} {p0_2n p0_2c:Nat} {p1_0:OA} {p1_0n p1_0c:Nat} {p1_1:OA} {p1_1n p1_1c:Nat} {p1_2:OA} {p1_2n p1_2c:Nat} {p2 p3:Int} {H:KH} {Q:PQ} (h:vc41 p0_0 p0_0n p0_0c p0_1 p0_1n p0_1c p0_2 p0_2n p0_2c p1_0 p1_0n p1_0c p1_1 p1_1n p1_1c p1_2 p1_2n p1_2c p2 p3 H Q):Does (env Try.prog) 41 [.agg #[.slice p0_0 p0_0n p0_0c,.slice p0_1 p0_1n p0_1c,.slice p0_2 p0_2n p0_2c],.agg #[.slice p1_0 p1_0n p1_0c,.slice p1_1 p1_1n p1_1c,.slice p1_2 p1_2n p1_2c],.int .i64 p2,.int .i64 p3] H Q :=
 wFun_sound (W:=W41 Try.prog) ok.tt (blt_lt (by kernel_rfl)) (ff_of ok (by kernel_rfl) Try.func41) (Eq.mpr (by kernel_rfl) h)
def W43 (P:Program):WE:=⟨env P,tupT,[1],mkTab [(0,[.ref 1 1 0,.box 1 [.slice none 0 0,.int .i64 0],.tmp 3 .slice,.tmp 4 (.int .i64)])],43⟩
def vc43_L1 (y1:OA) (y2 y3:Nat) (y4:Int) (y5:KH) (y6:PQ):Prop :=
 (∃ (f:(Nat->OA->Nat->Nat->Int->OA->Nat->Nat->Int->KH->Prop)),(∃ (ae:Nat),f ae y1 y2 y3 y4 none 0 0 0 y5)/\∀ (l:Nat) (d:(OA)) (c m:Nat) (n:Int) (g:(OA)) (h i:Nat) (a:Int) (b:KH),f l d c m n g h i a b->(decide (a<(c:Int))=true->((0:Int)<=a/\a<(c:Int))/\∃ (p q:Nat),d=some ⟨p,q,none⟩/\(none:(Option Nat))=none/\∃ (o:Int),ld b ⟨p,(q+((Int.toNat a)*5))+1,none⟩ [(.int .i64 o)]/\(decide (o<0)=true->True/\((0:Int)<=a/\a<(c:Int))/\∃ (r s:Nat),d=some ⟨r,s,none⟩/\(none:(Option Nat))=none/\∃ (j:Int),ld b ⟨r,(s+((Int.toNat a)*5))+2,none⟩ [(.int .i64 j)]/\((0:Int)<=a/\a<(c:Int))/\∃ (t u:Nat),d=some ⟨t,u,none⟩/\(none:(Option Nat))=none/\∃ (k:ByteArray),ld b ⟨t,(u+((Int.toNat a)*5))+3,none⟩ [(.string k)]/\∀ (e:Nat),((b e):(Option (Ent)))=none->∀ (v:Nat),(((KH.new b e (mkEnt [.int .i64 j,.string k] 0)) v):(Option (Ent)))=none->∃ (w:Nat) (x:(List Value)),((knew (KH.new b e (mkEnt [.int .i64 j,.string k] 0)) ⟨2,24,true,3,0,0,[(0,1),(1,1)],[.int .i64 0,.string (ByteArray.mk #[])]⟩ (.slice (some ⟨e,0,none⟩) 1 1)):(Option (Nat × (List Value))))=(some (w,x))/\∃ (y:(OA)) (z aa:Nat) (ab:KH),((kappend (KH.new b e (mkEnt [.int .i64 j,.string k] 0)) v ⟨2,24,true,3,0,0,[(0,1),(1,1)],[.int .i64 0,.string (ByteArray.mk #[])]⟩ g h i w x):(Option (Value × KH)))=(some (.slice y z aa,ab))/\True/\∃ (ac:Nat),(ac:Nat)<l/\f ac d c m n y z aa (IntKind.wrap .i64 (a+1)) ab)/\(decide (o<0)=false->∃ (ad:Nat),(ad:Nat)<l/\f ad d c m n g h i (IntKind.wrap .i64 (a+1)) b))/\(decide (a<(c:Int))=false->y6 (.slice g h i) b))
def vc43 (p0_0:OA) (p0_0n p0_0c:Nat) (p0_1:Int) (H:KH) (Q:PQ):Prop :=
 (vc43_L1 p0_0 p0_0n p0_0c p0_1 H Q)
theorem fn43 (ok:EnvOk (env Try.prog)) {p0_0:OA} {p0_0n p0_0c:Nat} {p0_1:Int} {H:KH} {Q:PQ} (h:vc43 p0_0 p0_0n p0_0c p0_1 H Q):Does (env Try.prog) 43 [.agg #[.slice p0_0 p0_0n p0_0c,.int .i64 p0_1]] H Q :=
 wFun_sound (W:=W43 Try.prog) ok.tt (blt_lt (by kernel_rfl)) (ff_of ok (by kernel_rfl) Try.func43) (Eq.mpr (by kernel_rfl) h)
def W44 (P:Program):WE:=⟨env P,tupT,[1],mkTab [(2,[.ref 1 1 0,.box 1 [.slice none 0 0,.int .i64 0],.tmp 3 .slice,.tmp 4 .slice,.tmp 5 (.int .i64),.tmp 6 (.int .i64),.tmp 7 (.int .i64),.tmp 8 (.int .i64)]),(0,[.ref 1 1 0,.box 1 [.slice none 0 0,.int .i64 0],.tmp 3 .slice,.tmp 4 .slice,.tmp 5 (.int .i64)])],44⟩
def vc44_L2 (y1:OA) (y2 y3:Nat) (y4:Int) (y5:OA) (y6 y7:Nat) (y8:OA) (y9 y10:Nat) (y11:Int) (y12:KH) (y13:Nat) (y14:(Nat->(OA->(Nat->(Nat->(Int->(OA->(Nat->(Nat->(OA->(Nat->(Nat->(Int->(KH->Prop)))))))))))))):Prop :=
 (∃ (j:(Nat->OA->Nat->Nat->Int->OA->Nat->Nat->OA->Nat->Nat->Int->Int->Int->Int->KH->Prop)),(∃ (aj:Nat),j aj y1 y2 y3 y4 y5 y6 y7 y8 y9 y10 y11 0 0 0 y12)/\∀ (r:Nat) (f:(OA)) (g k:Nat) (l:Int) (m:(OA)) (n o:Nat) (h:(OA)) (i p:Nat) (b:Int),∀ (d e a:Int) (c:KH),j r f g k l m n o h i p b d e a c->((0:Int)<=b/\b<(i:Int))/\∃ (u v:Nat),h=some ⟨u,v,none⟩/\∃ (s:Int),ld c ⟨u,v+((Int.toNat b)*1),none⟩ [(.int .i64 s)]/\(decide (a<s)=true->((0:Int)<=a/\a<(g:Int))/\∃ (w x:Nat),f=some ⟨w,x,none⟩/\(none:(Option Nat))=none/\∃ (t:Int),ld c ⟨w,(x+((Int.toNat a)*5))+1,none⟩ [(.int .i64 t)]/\(decide (t<0)=true->(decide (a<b)=true->∃ (y:Nat),(y:Nat)<r/\j y f g k l m n o h i p b (IntKind.wrap .i64 (d+1)) (IntKind.wrap .i64 (e+1)) (IntKind.wrap .i64 (a+1)) c)/\(decide (a<b)=false->∃ (z:Nat),(z:Nat)<r/\j z f g k l m n o h i p b d (IntKind.wrap .i64 (e+1)) (IntKind.wrap .i64 (a+1)) c))/\(decide (t<0)=false->∃ (aa:Nat),(aa:Nat)<r/\j aa f g k l m n o h i p b d e (IntKind.wrap .i64 (a+1)) c))/\(decide (a<s)=false->∀ (q:Nat),((c q):(Option (Ent)))=none->∀ (ab:Nat),(((KH.new c q (mkEnt [.int .i64 d,.int .i64 e] 0)) ab):(Option (Ent)))=none->∃ (ac:Nat) (ad:(List Value)),((knew (KH.new c q (mkEnt [.int .i64 d,.int .i64 e] 0)) ⟨2,16,true,2,3,2,[],[.int .i64 0,.int .i64 0]⟩ (.slice (some ⟨q,0,none⟩) 1 1)):(Option (Nat × (List Value))))=(some (ac,ad))/\∃ (ae:(OA)) (af ag:Nat) (ah:KH),((kappend (KH.new c q (mkEnt [.int .i64 d,.int .i64 e] 0)) ab ⟨2,16,true,2,3,2,[],[.int .i64 0,.int .i64 0]⟩ m n o ac ad):(Option (Value × KH)))=(some (.slice ae af ag,ah))/\∃ (ai:Nat),(ai:Nat)<y13/\y14 ai f g k l ae af ag h i p (IntKind.wrap .i64 (b+1)) ah))
def vc44_L3 (y1:OA) (y2 y3:Nat) (y4:Int) (y5:OA) (y6 y7:Nat) (y8:KH) (y9:PQ):Prop :=
 (∃ (c:(Nat->OA->Nat->Nat->Int->OA->Nat->Nat->OA->Nat->Nat->Int->KH->Prop)),(∃ (o:Nat),c o y1 y2 y3 y4 none 0 0 y5 y6 y7 0 y8)/\∀ (h:Nat) (i:(OA)) (a j:Nat) (k:Int) (d:(OA)) (e f:Nat) (l:(OA)) (m n:Nat) (b:Int),∀ (g:KH),c h i a j k d e f l m n b g->(decide (b<(a:Int))=true->vc44_L2 i a j k d e f l m n b g h c)/\(decide (b<(a:Int))=false->y9 (.slice d e f) g))
def vc44 (p0_0:OA) (p0_0n p0_0c:Nat) (p0_1:Int) (H:KH) (Q:PQ):Prop :=
 Does (env Try.prog) 63 [(.agg #[.slice p0_0 p0_0n p0_0c,.int .i64 p0_1])] H fun d e=>∃ (a:(OA)) (b c:Nat),d=(.slice a b c)/\vc44_L3 p0_0 p0_0n p0_0c p0_1 a b c e Q
theorem fn44 (ok:EnvOk (env Try.prog)) {p0_0:OA} {p0_0n p0_0c:Nat} {p0_1:Int} {H:KH} {Q:PQ} (h:vc44 p0_0 p0_0n p0_0c p0_1 H Q):Does (env Try.prog) 44 [.agg #[.slice p0_0 p0_0n p0_0c,.int .i64 p0_1]] H Q :=
 wFun_sound (W:=W44 Try.prog) ok.tt (blt_lt (by kernel_rfl)) (ff_of ok (by kernel_rfl) Try.func44) (Eq.mpr (by kernel_rfl) h)
def W63 (P:Program):WE:=⟨env P,tupT,[1],mkTab [(2,[.ref 1 1 0,.box 1 [.slice none 0 0,.int .i64 0],.tmp 3 .slice,.tmp 4 (.int .i64),.tmp 5 (.int .i64),.tmp 6 (.int .i64)]),(0,[.ref 1 1 0,.box 1 [.slice none 0 0,.int .i64 0],.tmp 3 .slice,.tmp 4 (.int .i64)])],63⟩
def vc63_J1 (y1:Int) (y2:Nat) (y3:OA) (y4:Int) (y5:KH) (y6:Nat) (y7:(Nat->(OA->(Nat->(Nat->(Int->(OA->(Nat->(Nat->(Int->(KH->Prop))))))))))) (y8:OA) (y9 y10:Nat) (y11:Int) (y12:Nat):Prop :=
 (((0:Int)<=y1/\y1<(y2:Int))/\∃ (a b:Nat),y3=some ⟨a,b,none⟩/\(∃ (c:(List Value)),((List.length c):Nat)=(List.length [(Value.int .i64 y4)])/\ld y5 ⟨a,b+((Int.toNat y1)*1),none⟩ c)/\KH.may y5 a/\∃ (d:Nat),(d:Nat)<y6/\y7 d y8 y9 y10 y11 y3 y2 y12 (IntKind.wrap .i64 (y1+1)) (KH.put y5 ⟨a,b+((Int.toNat y1)*1),none⟩ [(.int .i64 y4)]))
def vc63_L2 (y1:OA) (y2 y3:Nat) (y4:Int) (y5:OA) (y6 y7:Nat) (y8:Int) (y9:Nat) (y10:KH) (y11:Nat) (y12:(Nat->(OA->(Nat->(Nat->(Int->(OA->(Nat->(Nat->(Int->(KH->Prop))))))))))):Prop :=
 (∃ (l:(Nat->OA->Nat->Nat->Int->OA->Nat->Nat->Int->Int->Int->KH->Prop)),(∃ (r:Nat),l r y1 y2 y3 y4 y5 y6 y7 y8 (y9:Int) (IntKind.wrap .i64 (y8+1)) y10)/\∀ (m:Nat) (c:(OA)) (b e:Nat) (f:Int) (g:(OA)) (h i:Nat) (j k a:Int) (d:KH),l m c b e f g h i j k a d->(decide ((0:Int)<k)=true->(decide (a<(b:Int))=true->((0:Int)<=a/\a<(b:Int))/\∃ (n o:Nat),c=some ⟨n,o,none⟩/\(none:(Option Nat))=none/\∃ (s:(OA)) (p t:Nat),ld d ⟨n,(o+((Int.toNat a)*5))+4,none⟩ [(.slice s p t)]/\∃ (q:Nat),(q:Nat)<m/\l q c b e f g h i j (IntKind.wrap .i64 ((IntKind.wrap .i64 (k-1))+(p:Int))) (IntKind.wrap .i64 (a+1)) d)/\(decide (a<(b:Int))=false->vc63_J1 j h g a d y11 y12 c b e f i))/\(decide ((0:Int)<k)=false->vc63_J1 j h g a d y11 y12 c b e f i))
def vc63_L3 (y1:OA) (y2 y3:Nat) (y4:Int) (y5:Nat) (y6:KH) (y7:PQ):Prop :=
 (∃ (d:(Nat->OA->Nat->Nat->Int->OA->Nat->Nat->Int->KH->Prop)),(∃ (o:Nat),d o y1 y2 y3 y4 (some ⟨y5,0,none⟩) (Int.toNat (y2:Int)) (Int.toNat (y2:Int)) 0 (KH.new y6 y5 (mkEnt (lrep [(.int .i64 0)] (Int.toNat (y2:Int))) 0)))/\∀ (i:Nat) (e:(OA)) (b j:Nat) (k:Int) (f:(OA)) (g h:Nat) (a:Int) (c:KH),d i e b j k f g h a c->(decide (a<(b:Int))=true->((0:Int)<=a/\a<(b:Int))/\∃ (l m:Nat),e=some ⟨l,m,none⟩/\(none:(Option Nat))=none/\∃ (p:(OA)) (n q:Nat),ld c ⟨l,(m+((Int.toNat a)*5))+4,none⟩ [(.slice p n q)]/\vc63_L2 e b j k f g h a n c i d)/\(decide (a<(b:Int))=false->y7 (.slice f g h) c))
def vc63 (p0_0:OA) (p0_0n p0_0c:Nat) (p0_1:Int) (H:KH) (Q:PQ):Prop :=
 (((0:Int)<=(p0_0n:Int)/\(p0_0n:Int)<=(p0_0n:Int)/\(p0_0n:Int)<=1000000)/\∀ (a:Nat),((H a):(Option (Ent)))=none->vc63_L3 p0_0 p0_0n p0_0c p0_1 a H Q)
theorem fn63 (ok:EnvOk (env Try.prog)) {p0_0:OA} {p0_0n p0_0c:Nat} {p0_1:Int} {H:KH} {Q:PQ} (h:vc63 p0_0 p0_0n p0_0c p0_1 H Q):Does (env Try.prog) 63 [.agg #[.slice p0_0 p0_0n p0_0c,.int .i64 p0_1]] H Q :=
 wFun_sound (W:=W63 Try.prog) ok.tt (blt_lt (by kernel_rfl)) (ff_of ok (by kernel_rfl) Try.func63) (Eq.mpr (by kernel_rfl) h)
end Va
end Go.Proofs.Ytefiipkfppaibaa
