import Derived.Test.YtdflpllfkengdaaEwGm1
import Derived.Test.YtdflpllfkengdaaEwS4
import Derived.Test.YtdflpllfkengdaaEvDraw4
import Derived.Carry
import Derived.Handed
set_option linter.unusedVariables false
set_option linter.unusedSimpArgs false
namespace Go.Ew
open Go.Ev Go.Deep
def tiT:TI:=⟨3,40,true,3,0,0,[(0,1),(1,1),(2,1)],[.string ⟨#[]⟩,.string ⟨#[]⟩,.bool false]⟩
def tiN:TI:=⟨3,64,true,3,0,0,[(0,1),(1,1),(2,1)],[.string ⟨#[]⟩,.slice none 0 0,.slice none 0 0]⟩
def tiP:TI:=⟨3,56,true,3,0,0,[(0,1),(1,1),(2,1)],[.int .i64 0,.slice none 0 0,.slice none 0 0]⟩
def tiY:TI:=⟨2,16,true,3,0,0,[(0,1),(1,1)],[.bool false,.int .i64 0]⟩
def IJ:List ByteArray:=[⟨#[105]⟩,⟨#[106]⟩]
def SU:List ByteArray:=[⟨#[115]⟩,⟨#[117]⟩]
def byN (i:Nat):UInt8:=(97+i).toUInt8
def nmT (i:Nat):ByteArray:=⟨#[116,byN i]⟩
def nmN (i:Nat):ByteArray:=⟨#[110,byN i]⟩
def tkN (i:Nat):Tk:=⟨nmT i,⟨[byN i].toArray⟩,false⟩
theorem catT (u:UInt8):(⟨#[116]⟩:ByteArray)++⟨[u].toArray⟩=⟨#[116,u]⟩:=ByteArray.ext (by simp [ByteArray.data_append])
theorem catN (i:Nat):(⟨#[110]⟩:ByteArray)++⟨[byN i].toArray⟩=nmN i:=ByteArray.ext (by simp [ByteArray.data_append,nmN])
theorem by_cells {i:Nat} (h:i<5):bytesOfCells [.int .u8 (IntKind.wrap .u8 (IntKind.wrap .i64 (97+((i:Nat):Int))))]=some [byN i]:=by
 match i,h with
 | 0,_=>rfl
 | 1,_=>rfl
 | 2,_=>rfl
 | 3,_=>rfl
 | 4,_=>rfl
theorem app_all {α:Type} {P:Nat->α->Prop} {l:List α} {x:α} (h:∀ i (hi:i<l.length),P i l[i]) (hx:P l.length x):∀ i (hi:i<(l++[x]).length),P i (l++[x])[i]:=fun i hi=>by
 by_cases e:i<l.length
 .rw [List.getElem_append_left e]; exact h i e
 .have:i=l.length:=by simp at hi; omega
  subst this
  simpa using hx
theorem NtsI.app {H:KH} {l:List Nt} {x:Nt} (h:NtsI H l) (h1:kold H 1 x.ia x.inh.length=some (sC x.inh)) (h2:kold H 1 x.sa x.syn.length=some (sC x.syn)):NtsI H (l++[x]):=fun i hi=>app_all (P:=fun _ (x:Nt)=>kold H 1 x.ia x.inh.length=some (sC x.inh)/\kold H 1 x.sa x.syn.length=some (sC x.syn)) h ⟨h1,h2⟩ i hi
theorem PrsI.app {H:KH} {l:List Pr} {x:Pr} (h:PrsI H l) (h1:kold H 2 x.ra x.right.length=some (syC x.right)):PrsI H (l++[x]):=fun i hi=>app_all (P:=fun _ (x:Pr)=>kold H 2 x.ra x.right.length=some (syC x.right)) h h1 i hi
structure MadeN (i:Nat) (x:Nt):Prop where
 a:x.name=nmN i
 b:∃ u,x.inh=IJ.take u
 c:∃ v,x.syn=SU.take v
def nameB (s:ByteArray):Bool:=decide (1<=s.size)&&decide (s.size<=8)&&(List.range s.size).all fun i=>(decide (97<=byteAt s i)&&decide (byteAt s i<=122))||(decide (0<i)&&decide (48<=byteAt s i)&&decide (byteAt s i<=57))
theorem nameB_ok {s:ByteArray} (h:nameB s=true):NameOk s:=by
 unfold nameB at h
 simp only [Bool.and_eq_true,decide_eq_true_eq,List.all_eq_true,List.mem_range,Bool.or_eq_true] at h
 obtain ⟨⟨h1,h2⟩,h3⟩:=h
 exact ⟨h1,h2,fun i hi=>by
  rcases h3 i hi with q | ⟨⟨q1,q2⟩,q3⟩
  .exact .inl q
  .exact .inr ⟨q1,q2,q3⟩⟩
def namesB (l:List ByteArray):Bool:=l.all nameB&&(List.range l.length).all fun i=>(List.range i).all fun j=>!(strEq ((l[i]?).getD ⟨#[]⟩) ((l[j]?).getD ⟨#[]⟩))
theorem namesB_ok {l:List ByteArray} (h:namesB l=true):NamesOk l:=by
 unfold namesB at h
 simp only [Bool.and_eq_true,List.all_eq_true,List.mem_range] at h
 refine ⟨fun i hi=>nameB_ok (h.1 _ (List.getElem_mem hi)),fun i hi j hj e=>?_⟩
 have:=h.2 i hi j hj
 rw [List.getElem?_eq_getElem hi,List.getElem?_eq_getElem (by omega:j<l.length),Option.getD_some,Option.getD_some,strEq_iff.2 e] at this
 cases this
theorem names_made {t n:Nat} (ht:t<=3) (hn:n<=4):NamesOk ((List.range t).map nmT++(List.range n).map nmN):=by
 apply namesB_ok
 match t,ht,n,hn with
 | 0,_,0,_=>decide +kernel
 | 0,_,1,_=>decide +kernel
 | 0,_,2,_=>decide +kernel
 | 0,_,3,_=>decide +kernel
 | 0,_,4,_=>decide +kernel
 | 1,_,0,_=>decide +kernel
 | 1,_,1,_=>decide +kernel
 | 1,_,2,_=>decide +kernel
 | 1,_,3,_=>decide +kernel
 | 1,_,4,_=>decide +kernel
 | 2,_,0,_=>decide +kernel
 | 2,_,1,_=>decide +kernel
 | 2,_,2,_=>decide +kernel
 | 2,_,3,_=>decide +kernel
 | 2,_,4,_=>decide +kernel
 | 3,_,0,_=>decide +kernel
 | 3,_,1,_=>decide +kernel
 | 3,_,2,_=>decide +kernel
 | 3,_,3,_=>decide +kernel
 | 3,_,4,_=>decide +kernel
theorem attrs_made (u v:Nat):NamesOk (IJ.take u++SU.take v):=by
 apply namesB_ok
 have e:∀ (l:List ByteArray) (u:Nat),l.length=2->l.take u=l.take (min u 2):=fun l u h=>by rw [<- h,<- List.take_take,List.take_length]
 rw [e IJ u rfl,e SU v rfl]
 have h1:min u 2<=2:=Nat.min_le_right _ _
 have h2:min v 2<=2:=Nat.min_le_right _ _
 generalize min u 2=u at *
 generalize min v 2=v at *
 match u,h1,v,h2 with
 | 0,_,0,_=>decide +kernel
 | 0,_,1,_=>decide +kernel
 | 0,_,2,_=>decide +kernel
 | 1,_,0,_=>decide +kernel
 | 1,_,1,_=>decide +kernel
 | 1,_,2,_=>decide +kernel
 | 2,_,0,_=>decide +kernel
 | 2,_,1,_=>decide +kernel
 | 2,_,2,_=>decide +kernel
theorem MadeN.few {i:Nat} {x:Nt} (h:MadeN i x):x.inh.length+x.syn.length<=4:=by
 obtain ⟨u,hu⟩:=h.b
 obtain ⟨v,hv⟩:=h.c
 rw [hu,hv,List.length_take,List.length_take]
 show min u 2+min v 2<=4
 omega
theorem MadeN.ok {i:Nat} {x:Nt} (h:MadeN i x):AttrsOk x:=⟨h.few,by
 obtain ⟨u,hu⟩:=h.b
 obtain ⟨v,hv⟩:=h.c
 rw [hu,hv]
 exact attrs_made u v⟩
theorem MadeN.names {l:List Nt} (h:∀ i (hi:i<l.length),MadeN i l[i]):l.map Nt.name=(List.range l.length).map nmN:=List.ext_getElem (by simp) fun i h1 h2=>by
 have hi:i<l.length:=by simpa using h1
 simp [(h i hi).a]
theorem MayG.few {g:Gm} (h:MayG g):Few g:=by
 obtain ⟨h1,h2,h3,h4,h5,h6⟩:=h
 have hsz:∀ s∈namesG g,s.size<=140737488355328:=fun s hs=>by
  obtain ⟨i,hi,rfl⟩:=List.mem_iff_getElem.1 hs
  have:=(h4.a i hi).b
  omega
 have hat:∀ i (hi:i<g.nts.length),∀ s∈g.nts[i].inh++g.nts[i].syn,s.size<=140737488355328:=fun i hi s hs=>by
  obtain ⟨j,hj,rfl⟩:=List.mem_iff_getElem.1 hs
  have:=((h5 i hi).b.a j hj).b
  omega
 refine ⟨by omega,by omega,by omega,fun i hi=>hsz _ (List.mem_append_left _ (List.mem_map.2 ⟨_,List.getElem_mem hi,rfl⟩)),fun i hi=>⟨hsz _ (List.mem_append_right _ (List.mem_map.2 ⟨_,List.getElem_mem hi,rfl⟩)),?_,?_,fun s hs=>hat i hi s (List.mem_append_left _ hs),fun s hs=>hat i hi s (List.mem_append_right _ hs)⟩,fun i hi=>?_⟩
 .have:=(h5 i hi).a; omega
 .have:=(h5 i hi).a; omega
 .have:=(h6 i hi).b; omega
def rowT (g:Gm):Rr:=⟨3,g.ta,g.toks.length,g.tc,tkC g.toks⟩
def rowN (g:Gm):Rr:=⟨3,g.na,g.nts.length,g.nc,ntC g.nts⟩
def rowP (g:Gm):Rr:=⟨3,g.pa,g.prods.length,g.pc,prC g.prods⟩
end Go.Ew
namespace Go.Proofs.Ytdflpllfkengdaa
open Go.Ev Go.Ew
namespace Va
section
variable (ok : EnvOk (env Try.prog))
include ok
theorem c9 {Z H:KH} {p n c:Nat} {a:OA} {Q:PQ} (hb:PkB Z a n) (h:St Z H p a n c [])
 (hq:∀ g Z' H',Le Z Z'->St Z' H' p a n c [rowP g,rowN g,rowT g]->NtsI Z' g.nts->PrsI Z' g.prods->MayG g->Q (gv g) H'):Does (env Try.prog) 9 [.pointer (some ⟨p,0,none⟩)] H Q:=by
 refine fn9 ok (c17 ok (m:=3) hb h (by decide) fun x3 H2 x30 x31 h=>⟨x3,rfl,?_⟩)
 have e1:IntKind.wrap .i64 (x3+1)=(((x3+1).toNat:Nat):Int):=by rw [wrap64 (by omega) (by omega)]; omega
 unfold vc9_L11
 rw [e1]
 refine ⟨fun k n4 n5 a6 n7 n8 a9 n10 n11 a12 n13 n14 a15 n16 n17 a18 n19 n20 a21 n22 n23 x24 H25=>n4=p/\n5=0/\a18=none/\n19=0/\n20=0/\a21=none/\n22=0/\n23=0/\∃ i m:Nat,x24=m/\k=m/\n16=i/\i+m<=3/\1<=i+m/\St Z H25 p a n c [⟨3,a15,n16,n17,tkC ((List.range i).map tkN)⟩],⟨(x3+1).toNat,rfl,rfl,rfl,rfl,rfl,rfl,rfl,rfl,rfl,0,(x3+1).toNat,rfl,rfl,rfl,by omega,by omega,h.none_⟩,?_⟩
 clear h
 rintro k n4 n5 a6 n7 n8 a9 n10 n11 a12 n13 n14 a15 n16 n17 a18 n19 n20 a21 n22 n23 x24 H25 ⟨rfl,rfl,rfl,rfl,rfl,rfl,rfl,rfl,i,m,rfl,rfl,rfl,hi,hi1,h⟩
 refine ⟨fun z=>?_,fun z=>?_⟩
 .have z:0<k:=by have:=of_decide_eq_true z; omega
  intro n1 h1
  refine ⟨_,_,lit_kold (if_pos rfl) rfl,by_cells (by omega),by show 1+1<=1000000; omega,?_⟩
  rw [catT]
  refine fun n4' h4 n5' h5=>⟨_,_,knew_of (ti:=tiT) (lit_kold (if_pos rfl) rfl),?_⟩
  obtain ⟨a8,c8,H11,f1,f2⟩:=((h.new h1).new h4).app (ti:=tiT) (nm:=n5') (m:=1) (new:=[.string ⟨#[116,byN n16]⟩,.string ⟨[byN n16].toArray⟩,.bool false]) h5 rfl rfl (by show n16+1<=_; omega) (by decide) (by decide)
  have ew:IntKind.wrap .i64 (((k:Nat):Int)-1)=((k-1:Nat):Int):=by rw [wrap64 (by omega) (by omega)]; omega
  refine ⟨a8,_,c8,H11,f1,k-1,by omega,rfl,rfl,rfl,rfl,rfl,rfl,rfl,rfl,rfl,n16+1,k-1,ew,rfl,rfl,by omega,by omega,?_⟩
  have e:tkC ((List.range (n16+1)).map tkN)=tkC ((List.range n16).map tkN)++[.string ⟨#[116,byN n16]⟩,.string ⟨[byN n16].toArray⟩,.bool false]:=by
   rw [List.range_succ,List.map_append]
   unfold tkC
   rw [List.flatMap_append]; rfl
  rw [e]
  exact f2
 have z:k=0:=by have:=of_decide_eq_false z; omega
 subst z
 clear z e1 x30 x31
 refine c17 ok (m:=4) hb h (by decide) fun x28 H27 x280 x281 h=>⟨x28,rfl,?_⟩
 have hT:1<=n16/\n16<=3:=by omega
 clear hi hi1
 generalize hts:(List.range n16).map tkN=toks at h
 have hTl:toks.length=n16:=by rw [<- hts]; simp
 subst hTl
 have e1:IntKind.wrap .i64 (x28+1)=(((x28+1).toNat:Nat):Int):=by rw [wrap64 (by omega) (by omega)]; omega
 unfold vc9_L10
 rw [e1]
 refine ⟨fun k m4 n5 a6 n7 n8 a9 n10 n11 a12 n13 n14 b15 n16 m17 a18 n19 n20 a21 n22 n23 x24 H25=>m4=n4/\n5=0/\b15=a15/\n16=toks.length/\m17=n17/\a21=none/\n22=0/\n23=0/\∃ nts,∃ m:Nat,x24=m/\k=m/\n19=nts.length/\nts.length+m<=4/\1<=nts.length+m/\(∀ i (h:i<nts.length),MadeN i nts[i])/\∃ Z',Le Z Z'/\St Z' H25 n4 a n c [⟨3,a18,n19,n20,ntC nts⟩,⟨3,a15,toks.length,n17,tkC toks⟩]/\NtsI Z' nts,⟨(x28+1).toNat,rfl,rfl,rfl,rfl,rfl,rfl,rfl,rfl,rfl,[],(x28+1).toNat,rfl,rfl,rfl,by show 0+_<=4; omega,by show 1<=0+_; omega,fun i h=>absurd h (by simp),Z,Le.refl Z,h.none_,fun i h=>absurd h (by simp)⟩,?_⟩
 clear h
 rintro k m4 n5 a6 n7 n8 a9 n10 n11 a12 n13 n14 b15 n16 m17 a18 n19 n20 a21 n22 n23 x24 H25 ⟨rfl,rfl,rfl,rfl,rfl,rfl,rfl,rfl,nts,m,rfl,rfl,rfl,hi,hi1,hmd,Z',hZ,h,hni⟩
 refine ⟨fun z=>?_,fun z=>?_⟩
 .have m:Nat:=k
  have z:0<k:=by have:=of_decide_eq_true z; omega
  clear m
  generalize k=m at *
  refine fun n1 h1=>⟨_,_,lit_kold (if_pos rfl) rfl,by_cells (by omega),by show 1+1<=1000000; omega,fun _=>fun n4' h4=>?_,fun _=>?_⟩
  .skip
   obtain ⟨S1,q1⟩:=(h.new (E:=mkEnt [.int .u8 (IntKind.wrap .u8 (IntKind.wrap .i64 (97+((nts.length:Nat):Int))))] 0) h1).grow (E:=mkEnt (sC IJ) 0) h4
   refine c17 ok (m:=3) (hb.up (hZ.trans q1)) S1 (by decide) fun x7 H6 x70 x71 S2=>⟨x7,rfl,?_⟩
   obtain ⟨u,rfl⟩:∃ u:Nat,x7=u:=⟨x7.toNat,by omega⟩
   have hu:u<=2:=by omega
   have eu:(IJ.take u).length=u:=by rw [List.length_take]; show min u 2=u; omega
   obtain ⟨a8,c8,k1,k1'⟩:=cut_lo (H:=Z'.new n4' (mkEnt (sC IJ) 0)) (sz:=1) (n:=2) (c:=2) (a:=some ⟨n4',0,none⟩) (cs:=sC IJ) (k:=u) (.inl ⟨rfl,2,rfl,Nat.le_refl _⟩) (lit_kold (if_pos rfl) rfl) hu
   have k1':kold (Z'.new n4' (mkEnt (sC IJ) 0)) 1 a8 (IJ.take u).length=some (sC (IJ.take u)):=by
    rw [eu,k1']; unfold sC; rw [(fm_cut (k:=1) (fun _=>rfl) IJ u).2]
   refine ⟨a8,u,c8,S2.r.le.kslice k1,fun n12 h12=>?_⟩
   have hZ1:=hZ.trans q1
   obtain ⟨S3,q2⟩:=S2.grow (E:=mkEnt (sC SU) 0) h12
   refine c17 ok (m:=3) (hb.up (hZ1.trans q2)) S3 (by decide) fun x4 H3 x40 x41 S4=>⟨x4,rfl,?_⟩
   obtain ⟨v,rfl⟩:∃ v:Nat,x4=v:=⟨x4.toNat,by omega⟩
   have hv:v<=2:=by omega
   have ev:(SU.take v).length=v:=by rw [List.length_take]; show min v 2=v; omega
   obtain ⟨a5,c5,k2,k2'⟩:=cut_lo (H:=KH.new (Z'.new n4' (mkEnt (sC IJ) 0)) n12 (mkEnt (sC SU) 0)) (sz:=1) (n:=2) (c:=2) (a:=some ⟨n12,0,none⟩) (cs:=sC SU) (k:=v) (.inl ⟨rfl,2,rfl,Nat.le_refl _⟩) (lit_kold (if_pos rfl) rfl) hv
   have k2':kold (KH.new (Z'.new n4' (mkEnt (sC IJ) 0)) n12 (mkEnt (sC SU) 0)) 1 a5 (SU.take v).length=some (sC (SU.take v)):=by
    rw [ev,k2']; unfold sC; rw [(fm_cut (k:=1) (fun _=>rfl) SU v).2]
   refine ⟨a5,v,c5,S4.r.le.kslice k2,fun n8' h8 n9' h9=>⟨_,_,knew_of (ti:=tiN) (lit_kold (if_pos rfl) rfl),?_⟩⟩
   rw [catN]
   obtain ⟨a13,c13,H15,f1,f2⟩:=(S4.new h8).app (ti:=tiN) (nm:=n9') (m:=1) (new:=[.string (nmN nts.length),.slice a8 u c8,.slice a5 v c5]) h9 rfl rfl (by show nts.length+1<=_; omega) (by decide) (by decide)
   have ew:IntKind.wrap .i64 (((m:Nat):Int)-1)=((m-1:Nat):Int):=by rw [wrap64 (by omega) (by omega)]; omega
   have en:ntC (nts++[⟨nmN nts.length,a8,c8,IJ.take u,a5,c5,SU.take v⟩])=ntC nts++[.string (nmN nts.length),.slice a8 u c8,.slice a5 v c5]:=by
    unfold ntC
    rw [List.flatMap_append,List.flatMap_cons,List.flatMap_nil,List.append_nil,ev]
    rw [eu]
   refine ⟨a13,_,c13,H15,f1,m-1,by omega,rfl,rfl,rfl,rfl,rfl,rfl,rfl,rfl,rfl,nts++[⟨nmN nts.length,a8,c8,IJ.take u,a5,c5,SU.take v⟩],m-1,ew,rfl,by rw [List.length_append]; rfl,by rw [List.length_append]; show nts.length+1+_<=4; omega,by rw [List.length_append]; show 1<=nts.length+1+_; omega,app_all hmd ⟨rfl,⟨u,rfl⟩,v,rfl⟩,_,hZ1.trans q2,?_,(hni.up (q1.trans q2)).app (q2.kold k1') k2'⟩
   rw [en]
   exact f2
  .skip
   have S2:=h.new (E:=mkEnt [.int .u8 (IntKind.wrap .u8 (IntKind.wrap .i64 (97+((nts.length:Nat):Int))))] 0) h1
   have q1:=Le.refl Z'
   have hZ1:=hZ
   have eu:([]:List ByteArray).length=0:=rfl
   have k1':kold Z' 1 none ([]:List ByteArray).length=some (sC []):=rfl
   intro n12 h12
   obtain ⟨S3,q2⟩:=S2.grow (E:=mkEnt (sC SU) 0) h12
   refine c17 ok (m:=3) (hb.up (hZ1.trans q2)) S3 (by decide) fun x4 H3 x40 x41 S4=>⟨x4,rfl,?_⟩
   obtain ⟨v,rfl⟩:∃ v:Nat,x4=v:=⟨x4.toNat,by omega⟩
   have hv:v<=2:=by omega
   have ev:(SU.take v).length=v:=by rw [List.length_take]; show min v 2=v; omega
   obtain ⟨a5,c5,k2,k2'⟩:=cut_lo (H:=KH.new Z' n12 (mkEnt (sC SU) 0)) (sz:=1) (n:=2) (c:=2) (a:=some ⟨n12,0,none⟩) (cs:=sC SU) (k:=v) (.inl ⟨rfl,2,rfl,Nat.le_refl _⟩) (lit_kold (if_pos rfl) rfl) hv
   have k2':kold (KH.new Z' n12 (mkEnt (sC SU) 0)) 1 a5 (SU.take v).length=some (sC (SU.take v)):=by
    rw [ev,k2']; unfold sC; rw [(fm_cut (k:=1) (fun _=>rfl) SU v).2]
   refine ⟨a5,v,c5,S4.r.le.kslice k2,fun n8' h8 n9' h9=>⟨_,_,knew_of (ti:=tiN) (lit_kold (if_pos rfl) rfl),?_⟩⟩
   rw [catN]
   obtain ⟨a13,c13,H15,f1,f2⟩:=(S4.new h8).app (ti:=tiN) (nm:=n9') (m:=1) (new:=[.string (nmN nts.length),.slice none 0 0,.slice a5 v c5]) h9 rfl rfl (by show nts.length+1<=_; omega) (by decide) (by decide)
   have ew:IntKind.wrap .i64 (((m:Nat):Int)-1)=((m-1:Nat):Int):=by rw [wrap64 (by omega) (by omega)]; omega
   have en:ntC (nts++[⟨nmN nts.length,none,0,[],a5,c5,SU.take v⟩])=ntC nts++[.string (nmN nts.length),.slice none 0 0,.slice a5 v c5]:=by
    unfold ntC
    rw [List.flatMap_append,List.flatMap_cons,List.flatMap_nil,List.append_nil,ev]
    rfl
   refine ⟨a13,_,c13,H15,f1,m-1,by omega,rfl,rfl,rfl,rfl,rfl,rfl,rfl,rfl,rfl,nts++[⟨nmN nts.length,none,0,[],a5,c5,SU.take v⟩],m-1,ew,rfl,by rw [List.length_append]; rfl,by rw [List.length_append]; show nts.length+1+_<=4; omega,by rw [List.length_append]; show 1<=nts.length+1+_; omega,app_all hmd ⟨rfl,⟨0,rfl⟩,v,rfl⟩,_,hZ1.trans q2,?_,(hni.up (q1.trans q2)).app (q2.kold k1') k2'⟩
   rw [en]
   exact f2
 have z:k=0:=by have:=of_decide_eq_false z; omega
 subst z
 have hN:1<=nts.length/\nts.length<=4:=by omega
 clear z hi hi1 x280 x281 e1
 refine c17 ok (m:=7) (hb.up hZ) h (by decide) fun x28' H27' y0 y1 h'=>⟨x28',rfl,?_⟩
 clear h
 have e2:IntKind.wrap .i64 (x28'+1)=(((x28'+1).toNat:Nat):Int):=by rw [wrap64 (by omega) (by omega)]; omega
 unfold vc9_L9
 rw [e2]
 refine ⟨fun k o4 n5 a6 n7 n8 a9 n10 n11 a12 n13 n14 c15 n16 o17 c18 n19 o20 a21 n22 n23 x24 H25=>o4=m4/\n5=0/\c15=b15/\n16=toks.length/\o17=m17/\c18=a18/\n19=nts.length/\o20=n20/\∃ prods,∃ m:Nat,x24=m/\k=m/\n22=prods.length/\prods.length+m<=7/\1<=prods.length+m/\(∀ i (h:i<prods.length),ProdOk toks nts.length prods[i])/\∃ Z2,Le Z' Z2/\St Z2 H25 m4 a n c [⟨3,a21,n22,n23,prC prods⟩,⟨3,a18,nts.length,n20,ntC nts⟩,⟨3,b15,toks.length,m17,tkC toks⟩]/\PrsI Z2 prods,⟨(x28'+1).toNat,rfl,rfl,rfl,rfl,rfl,rfl,rfl,rfl,rfl,[],(x28'+1).toNat,rfl,rfl,rfl,by show 0+_<=7; omega,by show 1<=0+_; omega,fun i h=>absurd h (by simp),Z',Le.refl Z',h'.none_,fun i h=>absurd h (by simp)⟩,?_⟩
 clear h'
 rintro k o4 n5 a6 n7 n8 a9 n10 n11 a12 n13 n14 c15 n16 o17 c18 n19 o20 a21 n22 n23 x24 H25 ⟨rfl,rfl,rfl,rfl,rfl,rfl,rfl,rfl,prods,m,rfl,rfl,rfl,hi,hi1,hpr,Z2,hZ2,h,hpi⟩
 have hb2:=hb.up (hZ.trans hZ2)
 refine ⟨fun z=>?_,fun z=>?_⟩
 .have z:0<k:=by have:=of_decide_eq_true z; omega
  refine c17 ok (m:=nts.length) hb2 h (by omega) fun left H2 l0 l1 h=>⟨left,rfl,c17 ok (m:=4) hb2 h (by decide) fun x6 H5 x60 x61 h=>⟨x6,rfl,?_⟩⟩
  have e6:x6=((x6.toNat:Nat):Int):=by omega
  rw [e6]
  unfold vc9_L7
  refine ⟨fun k' q4 n5 a6 n7 n8 a9 n10 n11 a12 n13 n14 q15 n16 q17 q18 n19 q20 q21 n22 q23 x24 x25 a26 n27 n28 a29 n30 n31 x32 H33=>q4=o4/\n5=0/\q15=c15/\n16=toks.length/\q17=o17/\q18=c18/\n19=nts.length/\q20=o20/\q21=a21/\n22=prods.length/\q23=n23/\x24=k/\x25=left/\∃ right,∃ m:Nat,x32=m/\k'=m/\n27=right.length/\right.length+m<=3/\(∀ i (h:i<right.length),SymOk toks nts.length right[i])/\St Z2 H33 o4 a n c [⟨2,a26,n27,n28,syC right⟩,⟨3,a21,prods.length,n23,prC prods⟩,⟨3,c18,nts.length,o20,ntC nts⟩,⟨3,c15,toks.length,o17,tkC toks⟩],⟨x6.toNat,rfl,rfl,rfl,rfl,rfl,rfl,rfl,rfl,rfl,rfl,rfl,rfl,rfl,rfl,[],x6.toNat,rfl,rfl,rfl,by show 0+_<=3; omega,fun i h=>absurd h (by simp),h.none_⟩,?_⟩
  clear h
  rintro k' q4 n5 a6 n7 n8 a9 n10 n11 a12 n13 n14 q15 n16 q17 q18 n19 q20 q21 n22 q23 x24 x25 a26 n27 n28 a29 n30 n31 x32 H33 ⟨rfl,rfl,rfl,rfl,rfl,rfl,rfl,rfl,rfl,rfl,rfl,rfl,rfl,right,m,rfl,rfl,rfl,hm,hsy,h⟩
  refine ⟨fun z3=>?_,fun z3=>?_⟩
  .have z3:0<k':=by have:=of_decide_eq_true z3; omega
   have ew:IntKind.wrap .i64 (((k':Nat):Int)-1)=((k'-1:Nat):Int):=by rw [wrap64 (by omega) (by omega)]; omega
   have J:∀ (K:KH) (x3 at_:Int),SymOk toks nts.length ⟨decide (x3<3),at_⟩->St Z2 K q4 a n c [⟨2,a26,right.length,n28,syC right⟩,⟨3,q21,prods.length,q23,prC prods⟩,⟨3,q18,nts.length,q20,ntC nts⟩,⟨3,q15,toks.length,q17,tkC toks⟩]->vc9_J4 K x3 at_ a26 right.length n28 k' (fun k' q4' n5 a6 n7 n8 a9 n10 n11 a12 n13 n14 q15' n16 q17' q18' n19 q20' q21' n22 q23' x24 x25' a26 n27 n28 a29 n30 n31 x32 H33=>q4'=q4/\n5=0/\q15'=q15/\n16=toks.length/\q17'=q17/\q18'=q18/\n19=nts.length/\q20'=q20/\q21'=q21/\n22=prods.length/\q23'=q23/\x24=k/\x25'=x25/\∃ right,∃ m:Nat,x32=m/\k'=m/\n27=right.length/\right.length+m<=3/\(∀ i (h:i<right.length),SymOk toks nts.length right[i])/\St Z2 H33 q4 a n c [⟨2,a26,n27,n28,syC right⟩,⟨3,q21,prods.length,q23,prC prods⟩,⟨3,q18,nts.length,q20,ntC nts⟩,⟨3,q15,toks.length,q17,tkC toks⟩]) q4 0 a6 n7 n8 a9 n10 n11 a12 n13 n14 q15 toks.length q17 q18 nts.length q20 q21 prods.length q23 ((k:Nat):Int) x25 a29 n30 n31 ((k':Nat):Int):=fun K x3 at_ hs hK=>by
    unfold vc9_J4
    refine fun n1 h1 n2 h2=>⟨_,_,knew_of (ti:=tiY) (lit_kold (if_pos rfl) rfl),?_⟩
    obtain ⟨a5,c5,H8,f1,f2⟩:=(hK.new h1).app (ti:=tiY) (nm:=n2) (m:=1) (new:=[.bool (decide (x3<3)),.int .i64 at_]) h2 rfl rfl (by show right.length+1<=_; omega) (by decide) (by decide)
    refine ⟨a5,_,c5,H8,f1,k'-1,by omega,rfl,rfl,rfl,rfl,rfl,rfl,rfl,rfl,rfl,rfl,rfl,rfl,rfl,rfl,right++[⟨decide (x3<3),at_⟩],k'-1,ew,rfl,by rw [List.length_append]; rfl,by rw [List.length_append]; show right.length+1+_<=3; omega,app_all (P:=fun _ s=>SymOk toks nts.length s) hsy hs,?_⟩
    have e:syC (right++[⟨decide (x3<3),at_⟩])=syC right++[.bool (decide (x3<3)),.int .i64 at_]:=List.flatMap_append
    rw [e]
    exact f2
   refine c17 ok (m:=5) hb2 h (by decide) fun x3 H2 x30 x31 h=>⟨x3,rfl,c17 ok (m:=nts.length) hb2 h (by omega) fun x6 H5 x60 x61 h=>⟨x6,rfl,fun z4=>?_,fun z4=>?_⟩⟩
   .refine c17 ok (m:=toks.length) hb2 h (by omega) fun x9 H8 x90 x91 h=>⟨x9,rfl,J _ _ _ ⟨x90,fun _=>⟨by show x9.toNat<_; omega,?_⟩,fun w=>?_⟩ h⟩
    .have:∀ i (hi:i<toks.length),toks[i].skip=false:=fun i hi=>by
      have e:toks[i]=((List.range toks.length).map tkN)[i]'(by simpa using hi):=by congr 1; exact hts.symm
      rw [e,List.getElem_map]; rfl
     exact this _ _
    .have w:decide (x3<3)=false:=w
     rw [z4] at w; cases w
   .exact J _ _ _ ⟨x60,fun w=>(by have w:decide (x3<3)=true:=w; rw [z4] at w; cases w),fun _=>x61⟩ h
  .have z3:k'=0:=by have:=of_decide_eq_false z3; omega
   subst z3
   obtain ⟨Z3,hZ3,S,hrr⟩:=h.freeze
   obtain ⟨he,hl⟩:=S.enter
   have g2:=S.r.ok ⟨3,q18,nts.length,q20,ntC nts⟩ (by simp)
   have f2:=S.r.fr ⟨3,q18,nts.length,q20,ntC nts⟩ (by simp)
   have hn:kold (H33.del q4) 3 q18 nts.length=some (ntC nts):=(g2.agree (H':=H33.del q4) fun k e w q=>del_at q (f2 k w).2).row
   refine c18 ok (nts:=nts) (right:=right) (hb2.up (hZ3.trans hl)) he hn (fun i hi=>(hmd i hi).few) (hl.kold hrr) (by omega) fun a' n' c' H2 s=>⟨a',n',c',rfl,?_⟩
   have S:=S.leave s
   refine fun n6 h6 n7' h7=>⟨_,_,knew_of (ti:=tiP) (lit_kold (if_pos rfl) rfl),?_⟩
   obtain ⟨a10,c10,H13,f1,f2⟩:=(S.new h6).app (ti:=tiP) (nm:=n7') (m:=1) (new:=[.int .i64 x25,.slice a26 right.length n28,.slice a' n' c']) h7 rfl rfl (by show prods.length+1<=_; omega) (by decide) (by decide)
   have ew:IntKind.wrap .i64 (((k:Nat):Int)-1)=((k-1:Nat):Int):=by rw [wrap64 (by omega) (by omega)]; omega
   refine ⟨a10,_,c10,H13,f1,k-1,by omega,rfl,rfl,rfl,rfl,rfl,rfl,rfl,rfl,rfl,prods++[⟨x25,a26,n28,right,a',n',c'⟩],k-1,ew,rfl,by rw [List.length_append]; rfl,by rw [List.length_append]; show prods.length+1+_<=7; omega,by rw [List.length_append]; show 1<=prods.length+1+_; omega,app_all (P:=fun _ x=>ProdOk toks nts.length x) hpr ⟨⟨l0,l1⟩,by show right.length<=5; omega,hsy⟩,Z3,hZ2.trans hZ3,?_,(hpi.up hZ3).app hrr⟩
   have e:prC (prods++[⟨x25,a26,n28,right,a',n',c'⟩])=prC prods++[.int .i64 x25,.slice a26 right.length n28,.slice a' n' c']:=List.flatMap_append
   rw [e]
   exact f2
 have z:k=0:=by have:=of_decide_eq_false z; omega
 subst z
 refine hq ⟨c15,o17,toks,c18,o20,nts,a21,n23,prods⟩ Z2 H25 (hZ.trans hZ2) h (hni.up hZ2) hpi ⟨⟨by show 1<=toks.length; omega,by show toks.length<=8; omega⟩,⟨by show 1<=nts.length; omega,by show nts.length<=8; omega⟩,⟨by show 1<=prods.length; omega,by show prods.length<=16; omega⟩,?_,fun i hi=>(hmd i hi).ok,hpr⟩
 show NamesOk (toks.map Tk.name++nts.map Nt.name)
 have e1:toks.map Tk.name=(List.range toks.length).map nmT:=by
  rw [<- hts]; simp [tkN,Function.comp_def]
 rw [e1,MadeN.names hmd]
 exact names_made (by omega) (by omega)
end
end Va
end Go.Proofs.Ytdflpllfkengdaa
namespace Go.Ew
open Go.Ev Go.Deep
theorem St.gi {Z H:KH} {p n c:Nat} {a:OA} {g:Gm} (h:St Z H p a n c [rowP g,rowN g,rowT g]) (h1:NtsI Z g.nts) (h2:PrsI Z g.prods):GI H g :=
 ⟨(h.r.ok (rowT g) (by simp)).row,(h.r.ok (rowN g) (by simp)).row,(h.r.ok (rowP g) (by simp)).row,h1.up h.r.le,h2.up h.r.le⟩
def sumsT:List Tk:=[⟨⟨#[110,117,109]⟩,⟨#[91,48,45,57,93,43]⟩,false⟩,⟨⟨#[105,100]⟩,⟨#[91,97,45,122,93,43]⟩,false⟩,⟨⟨#[112,108,117,115]⟩,⟨#[92,43]⟩,false⟩,⟨⟨#[115,116,97,114]⟩,⟨#[92,42]⟩,false⟩,⟨⟨#[111,112,101,110]⟩,⟨#[92,40]⟩,false⟩,⟨⟨#[99,108,111,115,101]⟩,⟨#[92,41]⟩,false⟩,⟨⟨#[98,108,97,110,107]⟩,⟨#[32,43]⟩,true⟩,⟨⟨#[108,101,116]⟩,⟨#[61]⟩,false⟩]
def sumsC:List Value:=(tkC sumsT).take 19++[.string ⟨#[91,32,92,45,93,43]⟩]++(tkC sumsT).drop 20
def sumsN (n5 n6 n7 n8 n9 n10 n11:Nat):List Nt:=[⟨⟨#[115]⟩,none,0,[],some ⟨n5,0,none⟩,2,[⟨#[118,97,108]⟩,⟨#[98,97,100]⟩]⟩,⟨⟨#[101]⟩,some ⟨n6,0,none⟩,1,[⟨#[101,110,118]⟩],some ⟨n7,0,none⟩,1,[⟨#[118,97,108]⟩]⟩,⟨⟨#[109,111,114,101]⟩,some ⟨n8,0,none⟩,2,[⟨#[101,110,118]⟩,⟨#[108,101,102,116]⟩],some ⟨n9,0,none⟩,1,[⟨#[118,97,108]⟩]⟩,⟨⟨#[102]⟩,some ⟨n10,0,none⟩,1,[⟨#[101,110,118]⟩],some ⟨n11,0,none⟩,2,[⟨#[118,97,108]⟩,⟨#[115,105,122,101]⟩]⟩]
def sumsP (n13 n86 n87 n144 n149 n221 n236 n241 n256 n261 n278 n287 n330:Nat):List Pr:=[⟨0,some ⟨n13,0,none⟩,1,[⟨false,1⟩],some ⟨n86,0,none⟩,3,3⟩,⟨1,some ⟨n87,0,none⟩,2,[⟨false,3⟩,⟨false,2⟩],some ⟨n144,0,none⟩,4,4⟩,⟨2,some ⟨n149,0,none⟩,3,[⟨true,2⟩,⟨false,3⟩,⟨false,2⟩],some ⟨n221,0,none⟩,4,4⟩,⟨2,none,0,[],some ⟨n236,0,none⟩,1,1⟩,⟨3,some ⟨n241,0,none⟩,1,[⟨true,0⟩],some ⟨n256,0,none⟩,2,2⟩,⟨3,some ⟨n261,0,none⟩,1,[⟨true,1⟩],some ⟨n278,0,none⟩,2,2⟩,⟨3,some ⟨n287,0,none⟩,3,[⟨true,4⟩,⟨false,1⟩,⟨true,5⟩],some ⟨n330,0,none⟩,3,3⟩]
def sumsG (n1 n5 n6 n7 n8 n9 n10 n11 n12 n331:Nat) (P:List Pr):Gm:=⟨some ⟨n1,0,none⟩,8,sumsT,some ⟨n12,0,none⟩,4,sumsN n5 n6 n7 n8 n9 n10 n11,some ⟨n331,0,none⟩,7,P⟩
theorem sumsP_few (n13 n86 n87 n144 n149 n221 n236 n241 n256 n261 n278 n287 n330:Nat):∀ i (h:i<(sumsP n13 n86 n87 n144 n149 n221 n236 n241 n256 n261 n278 n287 n330).length),(sumsP n13 n86 n87 n144 n149 n221 n236 n241 n256 n261 n278 n287 n330)[i].right.length<=1000:=fun i hi=>by
 match i,hi with
 | 0,_=>show 1<=1000; decide
 | 1,_=>show 2<=1000; decide
 | 2,_=>show 3<=1000; decide
 | 3,_=>show 0<=1000; decide
 | 4,_=>show 1<=1000; decide
 | 5,_=>show 1<=1000; decide
 | 6,_=>show 3<=1000; decide
theorem sums_few {n5 n6 n7 n8 n9 n10 n11:Nat} (ta na pa:OA) (pc:Nat) {P:List Pr} (h1:P.length<=1000) (h2:∀ i (h:i<P.length),P[i].right.length<=1000):Few ⟨ta,8,sumsT,na,4,sumsN n5 n6 n7 n8 n9 n10 n11,pa,pc,P⟩:=by
 have a:sumsT.all (fun t=>decide (t.name.size<=140737488355328))=true:=rfl
 have b:(sumsN n5 n6 n7 n8 n9 n10 n11).all (fun x=>decide (x.name.size<=140737488355328)&&decide (x.inh.length<=1000)&&decide (x.syn.length<=1000)&&x.inh.all (fun s=>decide (s.size<=140737488355328))&&x.syn.all (fun s=>decide (s.size<=140737488355328)))=true:=rfl
 simp only [List.all_eq_true,Bool.and_eq_true,decide_eq_true_eq] at a b
 exact ⟨by show 8<=1000; decide,by show 4<=1000; decide,h1,fun i h=>a _ (List.getElem_mem h),fun i h=>by
  obtain ⟨⟨⟨⟨p1,p2⟩,p3⟩,p4⟩,p5⟩:=b _ (List.getElem_mem h)
  exact ⟨p1,p2,p3,p4,p5⟩,h2⟩
theorem putRow {H:KH} {n o sz k:Nat} {cs xs zs:List Value} {y v:Value} (h:H n=some (mkEnt cs 0)) (hcs:cs=xs++[y]++zs) (ho:xs.length=o) (hl:cs.length=k*sz):∃ e,(H.put ⟨n,o,none⟩ [v]) n=some e/\rd e.cells 0 (k*sz)=some (xs++[v]++zs):=by
 refine ⟨_,put_at h,?_⟩
 have h1:rd (mkEnt cs 0).cells 0 (k*sz)=some (xs++[y]++zs):=by
  rw [<- hl,<- hcs]; exact mk_rd
 exact rdWr h1 ho rfl
end Go.Ew
namespace Go.Proofs.Ytdflpllfkengdaa
open Go.Ev Go.Ew
namespace Va
section
variable (ok : EnvOk (env Try.prog))
include ok
set_option maxRecDepth 100000 in
theorem c10 {x:Int} {H:KH} {Q:PQ} (hq:∀ g H',Le H H'->GI H' g->Few g->Q (gv g) H'):Does (env Try.prog) 10 [.int .i64 x] H Q:=by
 refine fn10 ok ?_
 unfold vc10
 intro n1 h1
 refine ⟨⟨by decide,by decide⟩,n1,0,rfl,rfl,⟨[.string ⟨#[91,32,92,45,93,43]⟩],rfl,?_⟩,⟨_,new_self,rfl⟩,?_⟩
 .have w:ld (KH.new H n1 (mkEnt sumsC 0)) ⟨n1,0,none⟩ sumsC:=⟨rfl,_,new_self,mk_rd⟩
  exact ldSub (m:=1) w 19 (by decide)
 generalize hK1:KH.put _ _ _=K1
 obtain ⟨B1,l1,f1,b⟩:∃ B1,Le H B1/\kold B1 3 (some ⟨n1,0,none⟩) 8=some (tkC sumsT)/\Le B1 K1:=by
  refine ⟨K1,hK1 ▸ le_put (Le.new h1) h1,?_,Le.refl _⟩
  obtain ⟨e,e1,e2⟩:=putRow (H:=KH.new H n1 (mkEnt sumsC 0)) (cs:=sumsC) (n:=n1) (o:=19) (sz:=3) (k:=8) (xs:=(tkC sumsT).take 19) (zs:=(tkC sumsT).drop 20) (y:=.string ⟨#[91,32,92,45,93,43]⟩) (v:=.string ⟨#[32,43]⟩) new_self rfl rfl rfl
  exact kold_some.2 ⟨e,hK1 ▸ e1,e2⟩
 intro n5 h5
 generalize hK5:KH.new _ n5 _=K5
 have j5:Le K1 K5:=hK5 ▸ Le.new h5
 obtain ⟨B5,l5,f5,b⟩:∃ B5,Le B1 B5/\kold B5 1 (some ⟨n5,0,none⟩) 2=some (sC [⟨#[118,97,108]⟩,⟨#[98,97,100]⟩])/\Le B5 K5:=⟨_,Le.new (b.none h5),lit_kold new_self rfl,hK5 ▸ Le.new2 b⟩
 intro n6 h6
 generalize hK6:KH.new _ n6 _=K6
 have j6:Le K5 K6:=hK6 ▸ Le.new h6
 obtain ⟨B6,l6,f6,b⟩:∃ B6,Le B5 B6/\kold B6 1 (some ⟨n6,0,none⟩) 1=some (sC [⟨#[101,110,118]⟩])/\Le B6 K6:=⟨_,Le.new (b.none h6),lit_kold new_self rfl,hK6 ▸ Le.new2 b⟩
 intro n7 h7
 generalize hK7:KH.new _ n7 _=K7
 have j7:Le K6 K7:=hK7 ▸ Le.new h7
 obtain ⟨B7,l7,f7,b⟩:∃ B7,Le B6 B7/\kold B7 1 (some ⟨n7,0,none⟩) 1=some (sC [⟨#[118,97,108]⟩])/\Le B7 K7:=⟨_,Le.new (b.none h7),lit_kold new_self rfl,hK7 ▸ Le.new2 b⟩
 intro n8 h8
 generalize hK8:KH.new _ n8 _=K8
 have j8:Le K7 K8:=hK8 ▸ Le.new h8
 obtain ⟨B8,l8,f8,b⟩:∃ B8,Le B7 B8/\kold B8 1 (some ⟨n8,0,none⟩) 2=some (sC [⟨#[101,110,118]⟩,⟨#[108,101,102,116]⟩])/\Le B8 K8:=⟨_,Le.new (b.none h8),lit_kold new_self rfl,hK8 ▸ Le.new2 b⟩
 intro n9 h9
 generalize hK9:KH.new _ n9 _=K9
 have j9:Le K8 K9:=hK9 ▸ Le.new h9
 obtain ⟨B9,l9,f9,b⟩:∃ B9,Le B8 B9/\kold B9 1 (some ⟨n9,0,none⟩) 1=some (sC [⟨#[118,97,108]⟩])/\Le B9 K9:=⟨_,Le.new (b.none h9),lit_kold new_self rfl,hK9 ▸ Le.new2 b⟩
 intro n10 h10
 generalize hK10:KH.new _ n10 _=K10
 have j10:Le K9 K10:=hK10 ▸ Le.new h10
 obtain ⟨B10,l10,f10,b⟩:∃ B10,Le B9 B10/\kold B10 1 (some ⟨n10,0,none⟩) 1=some (sC [⟨#[101,110,118]⟩])/\Le B10 K10:=⟨_,Le.new (b.none h10),lit_kold new_self rfl,hK10 ▸ Le.new2 b⟩
 intro n11 h11
 generalize hK11:KH.new _ n11 _=K11
 have j11:Le K10 K11:=hK11 ▸ Le.new h11
 obtain ⟨B11,l11,f11,b⟩:∃ B11,Le B10 B11/\kold B11 1 (some ⟨n11,0,none⟩) 2=some (sC [⟨#[118,97,108]⟩,⟨#[115,105,122,101]⟩])/\Le B11 K11:=⟨_,Le.new (b.none h11),lit_kold new_self rfl,hK11 ▸ Le.new2 b⟩
 intro n12 h12
 generalize hK12:KH.new _ n12 _=K12
 have j12:Le K11 K12:=hK12 ▸ Le.new h12
 obtain ⟨B12,l12,f12,b⟩:∃ B12,Le B11 B12/\kold B12 3 (some ⟨n12,0,none⟩) 4=some (ntC (sumsN n5 n6 n7 n8 n9 n10 n11))/\Le B12 K12:=⟨_,Le.new (b.none h12),lit_kold new_self rfl,hK12 ▸ Le.new2 b⟩
 intro n13 h13
 generalize hK13:KH.new _ n13 _=K13
 have j13:Le K12 K13:=hK13 ▸ Le.new h13
 obtain ⟨B13,l13,f13,b⟩:∃ B13,Le B12 B13/\kold B13 2 (some ⟨n13,0,none⟩) 1=some (syC [⟨false,1⟩])/\Le B13 K13:=⟨_,Le.new (b.none h13),lit_kold new_self rfl,hK13 ▸ Le.new2 b⟩
 refine c19 ok ⟨_,_,_,_,_,_,_,_,_,_,_,_,rfl,?_⟩
 refine c19 ok ⟨_,_,_,_,_,_,_,_,_,_,_,_,rfl,?_⟩
 intro n42 h42
 generalize hK42:KH.new _ n42 _=K42
 have j42:Le K13 K42:=hK42 ▸ Le.new h42
 have b:=b.trans j42
 refine c20 ok ⟨_,_,_,_,_,_,_,_,_,_,_,_,rfl,?_⟩
 refine c20 ok ⟨_,_,_,_,_,_,_,_,_,_,_,_,rfl,?_⟩
 refine c19 ok ⟨_,_,_,_,_,_,_,_,_,_,_,_,rfl,?_⟩
 intro n85 h85
 generalize hK85:KH.new _ n85 _=K85
 have j85:Le K42 K85:=hK85 ▸ Le.new h85
 have b:=b.trans j85
 intro n86 h86
 have z86:=b.none h86
 generalize hK86:KH.new _ n86 _=K86
 have j86:Le K85 K86:=hK86 ▸ Le.new h86
 have b:=b.trans j86
 have q86:=(congrFun hK86 n86).symm.trans new_self
 intro n87 h87
 generalize hK87:KH.new _ n87 _=K87
 have j87:Le K86 K87:=hK87 ▸ Le.new h87
 obtain ⟨B87,l87,f87,b,z86⟩:∃ B87,Le B13 B87/\kold B87 2 (some ⟨n87,0,none⟩) 2=some (syC [⟨false,3⟩,⟨false,2⟩])/\Le B87 K87/\B87 n86=none:=⟨_,Le.new (b.none h87),lit_kold new_self rfl,hK87 ▸ Le.new2 b,new_none z86 (ne_of q86 h87)⟩
 have q86:=j87 _ _ q86
 refine c20 ok ⟨_,_,_,_,_,_,_,_,_,_,_,_,rfl,?_⟩
 refine c20 ok ⟨_,_,_,_,_,_,_,_,_,_,_,_,rfl,?_⟩
 refine c20 ok ⟨_,_,_,_,_,_,_,_,_,_,_,_,rfl,?_⟩
 refine c20 ok ⟨_,_,_,_,_,_,_,_,_,_,_,_,rfl,?_⟩
 intro n144 h144
 generalize hK144:KH.new _ n144 _=K144
 have j144:Le K87 K144:=hK144 ▸ Le.new h144
 have b:=b.trans j144
 have q86:=j144 _ _ q86
 refine c21 ok ⟨_,_,rfl,?_⟩
 intro n149 h149
 generalize hK149:KH.new _ n149 _=K149
 have j149:Le K144 K149:=hK149 ▸ Le.new h149
 obtain ⟨B149,l149,f149,b,z86⟩:∃ B149,Le B87 B149/\kold B149 2 (some ⟨n149,0,none⟩) 3=some (syC [⟨true,2⟩,⟨false,3⟩,⟨false,2⟩])/\Le B149 K149/\B149 n86=none:=⟨_,Le.new (b.none h149),lit_kold new_self rfl,hK149 ▸ Le.new2 b,new_none z86 (ne_of q86 h149)⟩
 have q86:=j149 _ _ q86
 refine c20 ok ⟨_,_,_,_,_,_,_,_,_,_,_,_,rfl,?_⟩
 refine c20 ok ⟨_,_,_,_,_,_,_,_,_,_,_,_,rfl,?_⟩
 refine c20 ok ⟨_,_,_,_,_,_,_,_,_,_,_,_,rfl,?_⟩
 refine c20 ok ⟨_,_,_,_,_,_,_,_,_,_,_,_,rfl,?_⟩
 intro n206 h206
 generalize hK206:KH.new _ n206 _=K206
 have j206:Le K149 K206:=hK206 ▸ Le.new h206
 have b:=b.trans j206
 have q86:=j206 _ _ q86
 refine c20 ok ⟨_,_,_,_,_,_,_,_,_,_,_,_,rfl,?_⟩
 intro n221 h221
 have z221:=b.none h221
 generalize hK221:KH.new _ n221 _=K221
 have j221:Le K206 K221:=hK221 ▸ Le.new h221
 have b:=b.trans j221
 have q86:=j221 _ _ q86
 have q221:=(congrFun hK221 n221).symm.trans new_self
 refine c20 ok ⟨_,_,_,_,_,_,_,_,_,_,_,_,rfl,?_⟩
 intro n236 h236
 generalize hK236:KH.new _ n236 _=K236
 have j236:Le K221 K236:=hK236 ▸ Le.new h236
 have b:=b.trans j236
 have q86:=j236 _ _ q86
 have q221:=j236 _ _ q221
 refine c21 ok ⟨_,_,rfl,?_⟩
 intro n241 h241
 generalize hK241:KH.new _ n241 _=K241
 have j241:Le K236 K241:=hK241 ▸ Le.new h241
 obtain ⟨B241,l241,f241,b,z86,z221⟩:∃ B241,Le B149 B241/\kold B241 2 (some ⟨n241,0,none⟩) 1=some (syC [⟨true,0⟩])/\Le B241 K241/\B241 n86=none/\B241 n221=none:=⟨_,Le.new (b.none h241),lit_kold new_self rfl,hK241 ▸ Le.new2 b,new_none z86 (ne_of q86 h241),new_none z221 (ne_of q221 h241)⟩
 have q86:=j241 _ _ q86
 have q221:=j241 _ _ q221
 refine c19 ok ⟨_,_,_,_,_,_,_,_,_,_,_,_,rfl,?_⟩
 intro n256 h256
 generalize hK256:KH.new _ n256 _=K256
 have j256:Le K241 K256:=hK256 ▸ Le.new h256
 have b:=b.trans j256
 have q86:=j256 _ _ q86
 have q221:=j256 _ _ q221
 refine c21 ok ⟨_,_,rfl,?_⟩
 intro n261 h261
 generalize hK261:KH.new _ n261 _=K261
 have j261:Le K256 K261:=hK261 ▸ Le.new h261
 obtain ⟨B261,l261,f261,b,z86,z221⟩:∃ B261,Le B241 B261/\kold B261 2 (some ⟨n261,0,none⟩) 1=some (syC [⟨true,1⟩])/\Le B261 K261/\B261 n86=none/\B261 n221=none:=⟨_,Le.new (b.none h261),lit_kold new_self rfl,hK261 ▸ Le.new2 b,new_none z86 (ne_of q86 h261),new_none z221 (ne_of q221 h261)⟩
 have q86:=j261 _ _ q86
 have q221:=j261 _ _ q221
 refine c20 ok ⟨_,_,_,_,_,_,_,_,_,_,_,_,rfl,?_⟩
 intro n276 h276
 generalize hK276:KH.new _ n276 _=K276
 have j276:Le K261 K276:=hK276 ▸ Le.new h276
 have b:=b.trans j276
 have q86:=j276 _ _ q86
 have q221:=j276 _ _ q221
 intro n277 h277
 generalize hK277:KH.new _ n277 _=K277
 have j277:Le K276 K277:=hK277 ▸ Le.new h277
 have b:=b.trans j277
 have q86:=j277 _ _ q86
 have q221:=j277 _ _ q221
 intro n278 h278
 generalize hK278:KH.new _ n278 _=K278
 have j278:Le K277 K278:=hK278 ▸ Le.new h278
 have b:=b.trans j278
 have q86:=j278 _ _ q86
 have q221:=j278 _ _ q221
 refine c21 ok ⟨_,_,rfl,?_⟩
 refine c21 ok ⟨_,_,rfl,?_⟩
 intro n287 h287
 generalize hK287:KH.new _ n287 _=K287
 have j287:Le K278 K287:=hK287 ▸ Le.new h287
 obtain ⟨B287,l287,f287,b,z86,z221⟩:∃ B287,Le B261 B287/\kold B287 2 (some ⟨n287,0,none⟩) 3=some (syC [⟨true,4⟩,⟨false,1⟩,⟨true,5⟩])/\Le B287 K287/\B287 n86=none/\B287 n221=none:=⟨_,Le.new (b.none h287),lit_kold new_self rfl,hK287 ▸ Le.new2 b,new_none z86 (ne_of q86 h287),new_none z221 (ne_of q221 h287)⟩
 have q86:=j287 _ _ q86
 have q221:=j287 _ _ q221
 refine c20 ok ⟨_,_,_,_,_,_,_,_,_,_,_,_,rfl,?_⟩
 refine c20 ok ⟨_,_,_,_,_,_,_,_,_,_,_,_,rfl,?_⟩
 refine c19 ok ⟨_,_,_,_,_,_,_,_,_,_,_,_,rfl,?_⟩
 intro n330 h330
 generalize hK330:KH.new _ n330 _=K330
 have j330:Le K287 K330:=hK330 ▸ Le.new h330
 have b:=b.trans j330
 have q86:=j330 _ _ q86
 have q221:=j330 _ _ q221
 have g287:=Le.refl B287
 have g261:=l287.trans g287
 have g241:=l261.trans g261
 have g149:=l241.trans g241
 have g87:=l149.trans g149
 have g13:=l87.trans g87
 have g12:=l13.trans g13
 have g11:=l12.trans g12
 have g10:=l11.trans g11
 have g9:=l10.trans g10
 have g8:=l9.trans g9
 have g7:=l8.trans g8
 have g6:=l7.trans g7
 have g5:=l6.trans g6
 have g1:=l5.trans g5
 have g0:=l1.trans g1
 have f5:=g5.kold f5
 have f6:=g6.kold f6
 have f7:=g7.kold f7
 have f8:=g8.kold f8
 have f9:=g9.kold f9
 have f10:=g10.kold f10
 have f11:=g11.kold f11
 have f12:=g12.kold f12
 have f13:=g13.kold f13
 have f87:=g87.kold f87
 have f149:=g149.kold f149
 have f241:=g241.kold f241
 have f261:=g261.kold f261
 have f287:=g287.kold f287
 have f1:=g1.kold f1
 clear l5 g5 l6 g6 l7 g7 l8 g8 l9 g9 l10 g10 l11 g11 l12 g12 l13 g13 l87 g87 l149 g149 l241 g241 l261 g261 l287 g287 l1 g1
 have hni:NtsI B287 (sumsN n5 n6 n7 n8 n9 n10 n11):=fun i hi=>by
  match i,hi with
  | 0,_=>exact ⟨rfl,f5⟩
  | 1,_=>exact ⟨f6,f7⟩
  | 2,_=>exact ⟨f8,f9⟩
  | 3,_=>exact ⟨f10,f11⟩
 have hpi:PrsI B287 (sumsP n13 n86 n87 n144 n149 n221 n236 n241 n256 n261 n278 n287 n330):=fun i hi=>by
  match i,hi with
  | 0,_=>exact f13
  | 1,_=>exact f87
  | 2,_=>exact f149
  | 3,_=>rfl
  | 4,_=>exact f241
  | 5,_=>exact f261
  | 6,_=>exact f287
 intro n331 h331
 have z331:=b.none h331
 generalize hK331:KH.new _ n331 _=K331
 have j331:Le K330 K331:=hK331 ▸ Le.new h331
 have q331:=(congrFun hK331 n331).symm.trans new_self
 have y86:=ne_of q86 h331
 have q86:=j331 _ _ q86
 have y221:=ne_of q221 h331
 have q221:=j331 _ _ q221
 obtain ⟨B331,l331,f331,b331,w86,w221⟩:∃ B331,Le B287 B331/\kold B331 3 (some ⟨n331,0,none⟩) 7=some (prC (sumsP n13 n86 n87 n144 n149 n221 n236 n241 n256 n261 n278 n287 n330))/\Le B331 K331/\B331 n86=none/\B331 n221=none:=⟨_,Le.new z331,lit_kold new_self rfl,hK331 ▸ Le.new2 b,new_none z86 y86,new_none z221 y221⟩
 have gi:GI B331 (sumsG n1 n5 n6 n7 n8 n9 n10 n11 n12 n331 (sumsP n13 n86 n87 n144 n149 n221 n236 n241 n256 n261 n278 n287 n330)):=⟨l331.kold f1,l331.kold f12,f331,hni.up l331,hpi.up l331⟩
 refine ⟨by decide,fun _=>?_,fun _=>⟨fun _=>?_,fun _=>⟨fun _=>?_,fun _=>?_⟩⟩⟩
 .clear f331 gi w86 w221 y86 y221 q86 q221 z86 z221 b331 l331
  refine ⟨trivial,c21 ok ⟨_,_,rfl,(by repeat' (first | exact trivial | exact rfl | apply And.intro)),c21 ok ⟨_,_,rfl,(by repeat' (first | exact trivial | exact rfl | apply And.intro)),?_⟩⟩⟩
  intro n340 h340
  generalize hK340:KH.new _ n340 _=K340
  have j340:Le K331 K340:=hK340 ▸ Le.new h340
  have q340:=(congrFun hK340 n340).symm.trans new_self
  have y340:=ne_of q331 h340
  refine c20 ok ⟨_,_,_,_,_,_,_,_,_,_,_,_,rfl,fun _=>⟨(by repeat' (first | exact trivial | exact rfl | apply And.intro)),?_⟩⟩
  rw [back_hide]
  refine c20 ok ⟨_,_,_,_,_,_,_,_,_,_,_,_,rfl,fun _=>⟨(by repeat' (first | exact trivial | exact rfl | apply And.intro)),?_⟩⟩
  rw [back_hide]
  refine c20 ok ⟨_,_,_,_,_,_,_,_,_,_,_,_,rfl,fun _=>⟨(by repeat' (first | exact trivial | exact rfl | apply And.intro)),?_⟩⟩
  rw [back_hide]
  intro n383 h383
  generalize hK383:KH.new _ n383 _=K383
  have j383:Le K340 K383:=hK383 ▸ Le.new h383
  refine c20 ok ⟨_,_,_,_,_,_,_,_,_,_,_,_,rfl,fun _=>fun _=>⟨(by repeat' (first | exact trivial | exact rfl | apply And.intro)),?_⟩⟩
  rw [back_hide]
  refine c20 ok ⟨_,_,_,_,_,_,_,_,_,_,_,_,rfl,fun _=>fun _=>⟨(by repeat' (first | exact trivial | exact rfl | apply And.intro)),?_⟩⟩
  rw [back_hide]
  refine c20 ok ⟨_,_,_,_,_,_,_,_,_,_,_,_,rfl,fun _=>fun _=>⟨(by repeat' (first | exact trivial | exact rfl | apply And.intro)),?_⟩⟩
  rw [back_hide]
  intro n426 h426
  generalize hK426:KH.new _ n426 _=K426
  have j426:Le K383 K426:=hK426 ▸ Le.new h426
  intro n427 h427
  generalize hK427:KH.new _ n427 _=K427
  have j427:Le K426 K427:=hK427 ▸ Le.new h427
  intro n428 h428 n429 h429
  have jj:=j340.trans (j383.trans (j426.trans j427))
  have bb:=(b.trans j331).trans jj
  refine ⟨_,_,knew_of (ti:=tiP) (lit_kold new_self rfl),?_⟩
  have j428:=Le.new (e:=mkEnt [.int .i64 3,.slice (some ⟨n340,0,none⟩) 4 4,.slice (some ⟨n427,0,none⟩) 4 4] 0) h428
  obtain ⟨a5,c5,H5,e1,e2,e3,e4,e5⟩:=(Own.lit (H0:=B287) (sz:=tiP.size) n331 7 (prC (sumsP n13 n86 n87 n144 n149 n221 n236 n241 n256 n261 n278 n287 n330)) (j428 _ _ (jj _ _ q331)) rfl (by decide) z331).append (ti:=tiP) (m:=1) (nm:=n429) (new:=[.int .i64 3,.slice (some ⟨n340,0,none⟩) 4 4,.slice (some ⟨n427,0,none⟩) 4 4]) (bb.trans j428) h429 rfl (by decide) (by decide) (by decide)
  have q340:=e4 _ _ (j428 _ _ ((j383.trans (j426.trans j427)) _ _ q340)) (fun w=>y340 (Option.some.inj w))
  have f340:kold H5 2 (some ⟨n340,0,none⟩) 4=some (syC [⟨true,7⟩,⟨true,1⟩,⟨false,3⟩,⟨false,3⟩]):=lit_kold q340 rfl
  refine ⟨a5,_,c5,H5,e1,trivial,trivial,hq ⟨some ⟨n1,0,none⟩,8,sumsT,some ⟨n12,0,none⟩,4,sumsN n5 n6 n7 n8 n9 n10 n11,a5,c5,sumsP n13 n86 n87 n144 n149 n221 n236 n241 n256 n261 n278 n287 n330++[⟨3,some ⟨n340,0,none⟩,4,[⟨true,7⟩,⟨true,1⟩,⟨false,3⟩,⟨false,3⟩],some ⟨n427,0,none⟩,4,4⟩]⟩ H5 (g0.trans e3) ⟨e3.kold f1,e3.kold f12,?_,hni.up e3,(hpi.up e3).app f340⟩ (sums_few _ _ _ _ (by simp [sumsP]) (app_all (P:=fun _ (x:Pr)=>x.right.length<=1000) (sumsP_few _ _ _ _ _ _ _ _ _ _ _ _ _) (by show 4<=1000; decide)))⟩
  have:=Own.cells e2
  unfold prC at this ⊢
  rw [List.flatMap_append]
  exact this
 .have r0:=q221
  have ra:∀ i (hi:i<7),∃ b o,some (⟨n331,0,none⟩:Addr)=some ⟨b,o,none⟩/\ld K331 ⟨b,o+i*3,none⟩ [.int .i64 ((sumsP n13 n86 n87 n144 n149 n221 n236 n241 n256 n261 n278 n287 n330)[i]'hi).left,.slice ((sumsP n13 n86 n87 n144 n149 n221 n236 n241 n256 n261 n278 n287 n330)[i]'hi).ra ((sumsP n13 n86 n87 n144 n149 n221 n236 n241 n256 n261 n278 n287 n330)[i]'hi).right.length ((sumsP n13 n86 n87 n144 n149 n221 n236 n241 n256 n261 n278 n287 n330)[i]'hi).rc,.slice ((sumsP n13 n86 n87 n144 n149 n221 n236 n241 n256 n261 n278 n287 n330)[i]'hi).ua ((sumsP n13 n86 n87 n144 n149 n221 n236 n241 n256 n261 n278 n287 n330)[i]'hi).un ((sumsP n13 n86 n87 n144 n149 n221 n236 n241 n256 n261 n278 n287 n330)[i]'hi).uc]:=fun i hi=>pr_ld (l:=(sumsP n13 n86 n87 n144 n149 n221 n236 n241 n256 n261 n278 n287 n330)) (b331.kold f331) hi
  obtain ⟨b2,o2,e2,r2⟩:=ra 2 (by decide)
  cases e2
  have w2:ld K331 ⟨n331,0+2*3+2,none⟩ [.slice (some ⟨n221,0,none⟩) 4 4]:=ldSub r2 2 1 (by simp)
  have w3:=(⟨rfl,_,q221,mk_rd⟩:ld K331 ⟨n221,0,none⟩ _)
  refine ⟨⟨by decide,by decide⟩,n331,0,rfl,rfl,_,_,_,w2,⟨by decide,by decide⟩,n221,0,rfl,rfl,rfl,⟨[.int .i64 4],rfl,ldSub (m:=1) w3 22 (by simp)⟩,⟨_,q221,rfl⟩,hq (sumsG n1 n5 n6 n7 n8 n9 n10 n11 n12 n331 (sumsP n13 n86 n87 n144 n149 n221 n236 n241 n256 n261 n278 n287 n330)) _ ((g0.trans l331).trans (le_put b331 w221)) (gi.up (le_put b331 w221)) (sums_few _ _ _ _ (by show 7<=1000; decide) (sumsP_few _ _ _ _ _ _ _ _ _ _ _ _ _))⟩
 .have ra:∀ i (hi:i<7),∃ b o,some (⟨n331,0,none⟩:Addr)=some ⟨b,o,none⟩/\ld K331 ⟨b,o+i*3,none⟩ [.int .i64 ((sumsP n13 n86 n87 n144 n149 n221 n236 n241 n256 n261 n278 n287 n330)[i]'hi).left,.slice ((sumsP n13 n86 n87 n144 n149 n221 n236 n241 n256 n261 n278 n287 n330)[i]'hi).ra ((sumsP n13 n86 n87 n144 n149 n221 n236 n241 n256 n261 n278 n287 n330)[i]'hi).right.length ((sumsP n13 n86 n87 n144 n149 n221 n236 n241 n256 n261 n278 n287 n330)[i]'hi).rc,.slice ((sumsP n13 n86 n87 n144 n149 n221 n236 n241 n256 n261 n278 n287 n330)[i]'hi).ua ((sumsP n13 n86 n87 n144 n149 n221 n236 n241 n256 n261 n278 n287 n330)[i]'hi).un ((sumsP n13 n86 n87 n144 n149 n221 n236 n241 n256 n261 n278 n287 n330)[i]'hi).uc]:=fun i hi=>pr_ld (l:=(sumsP n13 n86 n87 n144 n149 n221 n236 n241 n256 n261 n278 n287 n330)) (b331.kold f331) hi
  obtain ⟨b2,o2,e2,r2⟩:=ra 0 (by decide)
  cases e2
  have w2:ld K331 ⟨n331,0+0*3+2,none⟩ [.slice (some ⟨n86,0,none⟩) 3 3]:=ldSub r2 2 1 (by simp)
  have w3:=(⟨rfl,_,q86,mk_rd⟩:ld K331 ⟨n86,0,none⟩ _)
  refine ⟨⟨by decide,by decide⟩,n331,0,rfl,rfl,_,_,_,w2,⟨by decide,by decide⟩,n86,0,rfl,rfl,⟨[.int .i64 16,.int .i64 0,.int .i64 0,.string ⟨#[]⟩,.slice none 0 0,.int .i64 0,.int .i64 0,.slice (some ⟨n42,0,none⟩) 3 3],rfl,ldSub (m:=8) w3 2 (by simp)⟩,⟨_,q86,rfl⟩,hq (sumsG n1 n5 n6 n7 n8 n9 n10 n11 n12 n331 (sumsP n13 n86 n87 n144 n149 n221 n236 n241 n256 n261 n278 n287 n330)) _ ((g0.trans l331).trans (le_put b331 w86)) (gi.up (le_put b331 w86)) (sums_few _ _ _ _ (by show 7<=1000; decide) (sumsP_few _ _ _ _ _ _ _ _ _ _ _ _ _))⟩
 .exact hq (sumsG n1 n5 n6 n7 n8 n9 n10 n11 n12 n331 (sumsP n13 n86 n87 n144 n149 n221 n236 n241 n256 n261 n278 n287 n330)) _ ((g0.trans l331).trans b331) (gi.up b331) (sums_few _ _ _ _ (by show 7<=1000; decide) (sumsP_few _ _ _ _ _ _ _ _ _ _ _ _ _))
end
end Va
end Go.Proofs.Ytdflpllfkengdaa
namespace Go.Ew
open Go.Ev Go.Deep
structure Fit (g:Gm):Prop where
 t:g.toks.length<=140737488355328
 n:g.nts.length<=140737488355328
 p:g.prods.length<=140737488355328
 ts:∀ i (h:i<g.toks.length),g.toks[i].name.size<=140737488355328
 ns:∀ i (h:i<g.nts.length),g.nts[i].name.size<=140737488355328/\g.nts[i].inh.length<=140737488355328/\g.nts[i].syn.length<=140737488355328/\(∀ s∈g.nts[i].inh,s.size<=140737488355328)/\∀ s∈g.nts[i].syn,s.size<=140737488355328
 ps:∀ i (h:i<g.prods.length),g.prods[i].right.length<=140737488355328
structure LightG (g:Gm):Prop where
 t:g.toks.length<=10
 n:g.nts.length<=10
 p:g.prods.length<=18
 ns:∀ i (h:i<g.nts.length),g.nts[i].inh.length+g.nts[i].syn.length<=8
 ps:∀ i (h:i<g.prods.length),g.prods[i].right.length<=7
theorem Fit.few {g:Gm} (h:Fit g) (hl:LightG g):Few g :=
 ⟨by have:=hl.t; omega,by have:=hl.n; omega,by have:=hl.p; omega,h.ts,fun i hi=>⟨(h.ns i hi).1,by have:=hl.ns i hi; omega,by have:=hl.ns i hi; omega,(h.ns i hi).2.2.2.1,(h.ns i hi).2.2.2.2⟩,fun i hi=>by have:=hl.ps i hi; omega⟩
def gmC (l:List Gm):List Value:=l.flatMap fun g=>[.slice g.ta g.toks.length g.tc,.slice g.na g.nts.length g.nc,.slice g.pa g.prods.length g.pc]
theorem gm_ld {H:KH} {a:OA} {i:Nat} {l:List Gm} (h:kold H 3 a l.length=some (gmC l)) (hi:i<l.length):∃ b o,a=some ⟨b,o,none⟩/\ld H ⟨b,o+i*3,none⟩ [.slice l[i].ta l[i].toks.length l[i].tc,.slice l[i].na l[i].nts.length l[i].nc,.slice l[i].pa l[i].prods.length l[i].pc]:=it_ld (k:=3) (f:=fun (g:Gm)=>[.slice g.ta g.toks.length g.tc,.slice g.na g.nts.length g.nc,.slice g.pa g.prods.length g.pc]) (fun _=>rfl) h hi
theorem iff_beq {a b:Bool} {P:Prop} (h1:a=true↔P) (h2:b=true↔P) (h:(!(a == b))=true):False:=by
 have:a=b:=by
  cases a<;>cases b
  .rfl
  .have:=h1.2 (h2.1 rfl); cases this
  .have:=h2.2 (h1.1 rfl); cases this
  .rfl
 subst this
 simp at h
end Go.Ew
namespace Go.Proofs.Ytdflpllfkengdaa
open Go.Ev Go.Ew
namespace Va
section
variable (ok : EnvOk (env Try.prog))
include ok
theorem c7 {g:Gm} {H:KH} {Q:PQ} (hg:GI H g) (hf:Fit g) (hq:∀ b,(b=true->LightG g)->Q (.bool b) H):Does (env Try.prog) 7 [gv g] H Q:=by
 have nq:Q (.bool false) H:=hq false fun z=>(by cases z)
 have fn:=hf.n
 have fp:=hf.p
 refine fn7 ok ?_
 show vc7_L3 _ _ _ _ _ _ _ _ _ _ _
 unfold vc7_L3
 refine ⟨fun k a4 n5 n6 a7 n8 n9 a10 n11 n12 x13 H14=>n5=g.toks.length/\a7=g.na/\n8=g.nts.length/\a10=g.pa/\n11=g.prods.length/\H14=H/\∃ i:Nat,x13=i/\i<=g.nts.length/\k=g.nts.length-i/\∀ j (hj:j<g.nts.length),j<i->g.nts[j].inh.length+g.nts[j].syn.length<=8,⟨_,rfl,rfl,rfl,rfl,rfl,rfl,0,rfl,by omega,rfl,fun j _ z=>absurd z (by omega)⟩,?_⟩
 rintro k a4 n5 n6 a7 n8 n9 a10 n11 n12 x13 H14 ⟨rfl,rfl,rfl,rfl,rfl,rfl,i,rfl,hi,rfl,hv⟩
 refine ⟨fun z=>?_,fun z=>?_⟩
 .have hlt:i<g.nts.length:=by have:=of_decide_eq_true z; omega
  have e0:Int.toNat ((i:Nat):Int)=i:=by omega
  have hi1:IntKind.wrap .i64 (((i:Nat):Int)+1)=((i+1:Nat):Int):=by rw [wrap64 (by omega) (by omega)]; omega
  obtain ⟨b,o,ha,r⟩:=nt_ld hg.n hlt
  obtain ⟨_,f1,f2,_⟩:=hf.ns i hlt
  have ew:IntKind.wrap .i64 (((g.nts[i].inh.length:Nat):Int)+((g.nts[i].syn.length:Nat):Int))=((g.nts[i].inh.length+g.nts[i].syn.length:Nat):Int):=by rw [wrap64 (by omega) (by omega)]; omega
  rw [e0,hi1]
  refine ⟨trivial,⟨by omega,by omega⟩,b,o,ha,rfl,_,_,_,ldSub r 1 1 (by simp),⟨by omega,by omega⟩,b,o,ha,rfl,_,_,_,ldSub r 2 1 (by simp),fun _=>nq,fun w=>?_⟩
  rw [ew] at w
  have w:=of_decide_eq_false w
  refine ⟨g.nts.length-(i+1),by omega,rfl,rfl,rfl,rfl,rfl,rfl,i+1,rfl,by omega,rfl,fun j hj y=>?_⟩
  by_cases e:j=i
  .subst e; omega
  .exact hv j hj (by omega)
 have hge:i=g.nts.length:=by have:=of_decide_eq_false z; omega
 subst hge
 have hn:∀ j (hj:j<g.nts.length),g.nts[j].inh.length+g.nts[j].syn.length<=8:=fun j hj=>hv j hj hj
 clear hv
 unfold vc7_L2
 refine ⟨fun k a4 n5 n6 a7 n8 n9 a10 n11 n12 x13 H=>n5=g.toks.length/\n8=g.nts.length/\a10=g.pa/\n11=g.prods.length/\H=H14/\∃ i:Nat,x13=i/\i<=g.prods.length/\k=g.prods.length-i/\∀ j (hj:j<g.prods.length),j<i->g.prods[j].right.length<=7,⟨_,rfl,rfl,rfl,rfl,rfl,0,rfl,by omega,rfl,fun j _ z=>absurd z (by omega)⟩,?_⟩
 rintro k a4 n5 n6 a7 n8 n9 a10 n11 n12 x13 H ⟨rfl,rfl,rfl,rfl,rfl,i,rfl,hi,rfl,hv⟩
 refine ⟨fun z=>?_,fun z=>?_⟩
 .have hlt:i<g.prods.length:=by have:=of_decide_eq_true z; omega
  have e0:Int.toNat ((i:Nat):Int)=i:=by omega
  have hi1:IntKind.wrap .i64 (((i:Nat):Int)+1)=((i+1:Nat):Int):=by rw [wrap64 (by omega) (by omega)]; omega
  obtain ⟨b,o,ha,r⟩:=pr_ld hg.p hlt
  rw [e0,hi1]
  refine ⟨⟨by omega,by omega⟩,b,o,ha,rfl,_,_,_,ldSub r 1 1 (by simp),fun _=>nq,fun w=>⟨⟨by omega,by omega⟩,b,o,ha,rfl,_,_,_,ldSub r 2 1 (by simp),fun _=>nq,fun _=>?_⟩⟩
  have w:=of_decide_eq_false w
  refine ⟨g.prods.length-(i+1),by omega,rfl,rfl,rfl,rfl,rfl,i+1,rfl,by omega,rfl,fun j hj y=>?_⟩
  by_cases e:j=i
  .subst e; omega
  .exact hv j hj (by omega)
 have hge:i=g.prods.length:=by have:=of_decide_eq_false z; omega
 subst hge
 refine ⟨fun z1=>⟨fun z2=>hq _ fun z3=>?_,fun _=>nq⟩,fun _=>nq⟩
 have z1:=of_decide_eq_true z1
 have z2:=of_decide_eq_true z2
 have z3:=of_decide_eq_true z3
 exact ⟨by omega,by omega,by omega,hn,fun j hj=>hv j hj hj⟩
theorem l5 {K0:KH} {b:Nat} {g m n s:Gm} (hb:K0 b=none) (gg:GI K0 g) (gm:GI K0 m) (gn:GI K0 n) (gs:GI K0 s) (fg:Few g) (fm:Few m) (fn':Few n) (fs:Few s) (hm:MayG m) :
 vc3_L5 m.ta m.toks.length m.tc m.na m.nts.length m.nc m.pa m.prods.length m.pc b K0 g.ta g.toks.length g.tc g.na g.nts.length g.nc g.pa g.prods.length g.pc n.ta n.toks.length n.tc n.na n.nts.length n.nc n.pa n.prods.length n.pc s.ta s.toks.length s.tc s.na s.nts.length s.nc s.pa s.prods.length s.pc (fun v _=>v = .bool true):=by
 unfold vc3_L5
 generalize hK:KH.new K0 b _=K
 have l0:Le K0 K:=hK ▸ Le.new hb
 have hl:kold K 3 (some ⟨b,0,none⟩) ([g,m,n,s]:List Gm).length=some (gmC [g,m,n,s]):=lit_kold ((congrFun hK b).symm.trans new_self) rfl
 have hall:∀ i (h:i<([g,m,n,s]:List Gm).length),GI K [g,m,n,s][i]/\Few [g,m,n,s][i]:=fun i h=>by
  match i,h with
  | 0,_=>exact ⟨gg.up l0,fg⟩
  | 1,_=>exact ⟨gm.up l0,fm⟩
  | 2,_=>exact ⟨gn.up l0,fn'⟩
  | 3,_=>exact ⟨gs.up l0,fs⟩
 have hL4:([g,m,n,s]:List Gm).length=4:=rfl
 generalize [g,m,n,s]=L at hl hall hL4
 have gm:=gm.up l0
 clear gg gn gs fg fn' fs hK l0
 refine ⟨fun k a4 n5 n6 a7 n8 n9 a10 n11 n12 a13 n14 n15 x16 H17=>a4=m.ta/\n5=m.toks.length/\n6=m.tc/\a7=m.na/\n8=m.nts.length/\n9=m.nc/\a10=m.pa/\n11=m.prods.length/\n12=m.pc/\a13=some ⟨b,0,none⟩/\n14=4/\Le K H17/\∃ i:Nat,x16=i/\i<=4/\k=4-i,⟨4,rfl,rfl,rfl,rfl,rfl,rfl,rfl,rfl,rfl,rfl,rfl,Le.refl K,0,rfl,by omega,rfl⟩,?_⟩
 rintro k a4 n5 n6 a7 n8 n9 a10 n11 n12 a13 n14 n15 x16 H17 ⟨rfl,rfl,rfl,rfl,rfl,rfl,rfl,rfl,rfl,rfl,rfl,hK,i,rfl,hi,rfl⟩
 refine ⟨fun z=>?_,fun z=>?_⟩
 .have hlt:i<L.length:=by have:=of_decide_eq_true z; omega
  have e0:Int.toNat ((i:Nat):Int)=i:=by omega
  have hi1:IntKind.wrap .i64 (((i:Nat):Int)+1)=((i+1:Nat):Int):=by rw [wrap64 (by omega) (by omega)]; omega
  obtain ⟨b0,o0,ha,r⟩:=gm_ld hl hlt
  cases ha
  obtain ⟨gi,fi⟩:=hall i hlt
  unfold vc3_J4
  rw [e0]
  refine ⟨trivial,⟨by omega,by omega⟩,b,0,rfl,_,_,_,_,_,_,_,_,_,hK.ld r,⟨by omega,by omega⟩,b,0,rfl,_,_,_,_,_,_,_,_,_,hK.ld r,c11 ok (gi.up hK) fi fun b1 H24 l1 h1=>⟨b1,rfl,⟨rfl,rfl,⟨⟨by omega,by omega⟩,b,0,rfl,rfl⟩,⟨_,_,_,_,_,_,_,_,_,(hK.trans l1).ld r,rfl⟩,trivial⟩,c12 ok (gi.up (hK.trans l1)) fi fun b2 H38 l2 h2=>⟨b2,rfl,trivial,fun w=>absurd w (fun w=>iff_beq h1 h2 w),fun _=>?_⟩⟩⟩
  have l3:=(hK.trans l1).trans l2
  refine ⟨⟨by omega,by omega⟩,b,0,rfl,_,_,_,_,_,_,_,_,_,l3.ld r,⟨by omega,by omega⟩,b,0,rfl,_,_,_,_,_,_,_,_,_,l3.ld r,c13 ok (gi.up l3) (gm.up l3) fi fun b3 h3=>⟨b3,rfl,⟨rfl,rfl,⟨⟨by omega,by omega⟩,b,0,rfl,rfl⟩,⟨_,_,_,_,_,_,_,_,_,l3.ld r,rfl⟩,rfl,trivial⟩,c14 ok (gi.up l3) (gm.up l3) fi fun b4 h4=>⟨b4,rfl,trivial,fun w=>absurd w (fun w=>iff_beq h3 h4 w),fun _=>?_⟩⟩⟩
  clear h1 h2 h3 h4
  have fp:=fi.p
  unfold vc3_L3
  refine ⟨fun k' a4 n5 n6 a7 n8 n9 a10 n11 n12 a13 n14 n15 x16 x17 H18=>a4=m.ta/\n5=m.toks.length/\n6=m.tc/\a7=m.na/\n8=m.nts.length/\n9=m.nc/\a10=m.pa/\n11=m.prods.length/\n12=m.pc/\a13=some ⟨b,0,none⟩/\n14=4/\x16=i/\Le K H18/\∃ j:Nat,x17=(j:Int)-1/\j<=6/\k'=6-j,⟨6,rfl,rfl,rfl,rfl,rfl,rfl,rfl,rfl,rfl,rfl,rfl,rfl,l3,0,rfl,by omega,rfl⟩,?_⟩
  rintro k' a4 n5 n6 a7 n8 n9 a10 n11 n12 a13 n14 n15' x16 x17 H18 ⟨rfl,rfl,rfl,rfl,rfl,rfl,rfl,rfl,rfl,rfl,rfl,rfl,hK2,j,rfl,hj,rfl⟩
  refine ⟨fun z2=>?_,fun z2=>?_⟩
  .have hj5:j<6:=by have:=of_decide_eq_true z2; omega
   have hj1:IntKind.wrap .i64 (((j:Nat):Int)-1+1)=((j+1:Nat):Int)-1:=by rw [wrap64 (by omega) (by omega)]; omega
   rw [e0]
   refine ⟨trivial,⟨by omega,by omega⟩,b,0,rfl,_,_,_,_,_,_,_,_,_,hK2.ld r,⟨by omega,by omega⟩,b,0,rfl,_,_,_,_,_,_,_,_,_,hK2.ld r,c15 ok (gi.up hK2) (by omega) fun a25 c27 H24 o1=>⟨a25,_,c27,rfl,⟨rfl,rfl,⟨⟨by omega,by omega⟩,b,0,rfl,rfl⟩,⟨_,_,_,_,_,_,_,_,_,(hK2.trans o1.le).ld r,rfl⟩,rfl,trivial⟩,c16 ok (gi.up (hK2.trans o1.le)) (by omega) fun a41 c43 H40 o2=>⟨a41,_,c43,rfl,trivial,fun w=>absurd rfl (of_decide_eq_true w),fun _=>?_⟩⟩⟩
   have r1:=o2.le.kold (Nr.row o1)
   have r2:=Nr.row o2
   have hol:(offG L[i] (((j:Nat):Int)-1)).length<=L[i].prods.length:=offP_len _ _ _
   have hK4:=(hK2.trans o1.le).trans o2.le
   generalize offG L[i] (((j:Nat):Int)-1)=off at r1 r2 hol
   unfold vc3_L1
   refine ⟨fun q a4 n5 n6 a7 n8 n9 a10 n11 n12 a13 n14 n15 x16 x17 a18 n19 n20 a21 n22 n23 x24 H25=>a4=m.ta/\n5=m.toks.length/\n6=m.tc/\a7=m.na/\n8=m.nts.length/\n9=m.nc/\a10=m.pa/\n11=m.prods.length/\n12=m.pc/\a13=some ⟨b,0,none⟩/\n14=4/\x16=i/\x17=(j:Int)-1/\a18=a25/\n19=off.length/\a21=a41/\n22=off.length/\H25=H40/\∃ u:Nat,x24=u/\u<=off.length/\q=off.length-u,⟨_,rfl,rfl,rfl,rfl,rfl,rfl,rfl,rfl,rfl,rfl,rfl,rfl,rfl,rfl,rfl,rfl,rfl,rfl,0,rfl,by omega,rfl⟩,?_⟩
   rintro q a4 n5 n6 a7 n8 n9 a10 n11 n12 a13 n14 n15 x16 x17 a18 n19 n20 a21 n22 n23 x24 H25 ⟨rfl,rfl,rfl,rfl,rfl,rfl,rfl,rfl,rfl,rfl,rfl,rfl,rfl,rfl,rfl,rfl,rfl,rfl,u,rfl,hu,rfl⟩
   refine ⟨fun z3=>?_,fun _=>?_⟩
   .have hu2:u<off.length:=by have:=of_decide_eq_true z3; omega
    have e1:Int.toNat ((u:Nat):Int)=u:=by omega
    have hu1:IntKind.wrap .i64 (((u:Nat):Int)+1)=((u+1:Nat):Int):=by rw [wrap64 (by omega) (by omega)]; omega
    obtain ⟨b1,o1',h1,w1⟩:=in_ld r1 hu2
    obtain ⟨b2,o2',h2,w2⟩:=in_ld r2 hu2
    rw [e1,hu1]
    exact ⟨trivial,⟨by omega,by omega⟩,b1,o1',h1,_,w1,⟨by omega,by omega⟩,b2,o2',h2,_,w2,fun w=>absurd rfl (of_decide_eq_true w),fun _=>⟨off.length-(u+1),by omega,rfl,rfl,rfl,rfl,rfl,rfl,rfl,rfl,rfl,rfl,rfl,rfl,rfl,rfl,rfl,rfl,rfl,rfl,u+1,rfl,by omega,rfl⟩⟩
   .rw [hj1]
    exact ⟨6-(j+1),by omega,rfl,rfl,rfl,rfl,rfl,rfl,rfl,rfl,rfl,rfl,rfl,rfl,hK4,j+1,rfl,by omega,rfl⟩
  .rw [hi1]
   exact ⟨4-(i+1),by omega,rfl,rfl,rfl,rfl,rfl,rfl,rfl,rfl,rfl,rfl,rfl,hK2,i+1,rfl,by omega,rfl⟩
 .exact c11 ok (gm.up hK) fm fun b1 H' _ h1=>⟨b1,rfl,by rw [h1.2 hm]⟩
end
end Va
end Go.Proofs.Ytdflpllfkengdaa
namespace Go.Ew
open Go.Ev Go.Deep
theorem fm_split {α:Type} {f:α->List Value} {l:List α} {i:Nat} (hi:i<l.length):l.flatMap f=(l.take i).flatMap f++f l[i]++(l.drop (i+1)).flatMap f:=by
 have e:l=l.take i++l[i] :: l.drop (i+1):=by rw [<- List.drop_eq_getElem_cons hi,List.take_append_drop]
 have:=congrArg (fun l=>l.flatMap f) e
 simp only [List.flatMap_append,List.flatMap_cons] at this
 rw [this,List.append_assoc]
theorem fm_set {α:Type} {f:α->List Value} {l:List α} {i:Nat} {x:α} (hi:i<l.length):(l.set i x).flatMap f=(l.take i).flatMap f++f x++(l.drop (i+1)).flatMap f:=by
 rw [List.set_eq_take_append_cons_drop,if_pos hi,List.flatMap_append,List.flatMap_cons,List.append_assoc]
theorem set_all {α:Type} {P:α->Prop} {l:List α} {x:α} {j:Nat} (h:∀ i (hi:i<l.length),P l[i]) (hx:P x):∀ i (hi:i<(l.set j x).length),P (l.set j x)[i]:=fun i hi=>by
 rw [List.getElem_set]
 split
 .exact hx
 .exact h i _
theorem St.setIt {α:Type} {f:α->List Value} {k:Nat} (hf:∀ x,(f x).length=k) {Z H:KH} {p n c rc:Nat} {a ra:OA} {R:List Rr} {l:List α} {i:Nat} (hi:i<l.length) {x:α} {pre ys vs post:List Value} (h:St Z H p a n c (⟨k,ra,l.length,rc,l.flatMap f⟩ :: R)) (e1:f l[i]=pre++ys++post) (e2:f x=pre++vs++post) (hy:ys.length=vs.length) (hk:0<k) :
 ∃ b o,ra=some ⟨b,o,none⟩/\ld H ⟨b,o+i*k+pre.length,none⟩ ys/\KH.may H b/\St Z (H.put ⟨b,o+i*k+pre.length,none⟩ vs) p a n c (⟨k,ra,l.length,rc,(l.set i x).flatMap f⟩ :: R):=by
 have ef:l.flatMap f=((l.take i).flatMap f++pre)++ys++(post++(l.drop (i+1)).flatMap f):=by
  rw [fm_split hi,e1]; simp
 have es:(l.set i x).flatMap f=((l.take i).flatMap f++pre)++vs++(post++(l.drop (i+1)).flatMap f):=by
  rw [fm_set hi,e2]; simp
 have hlen:((l.take i).flatMap f++pre).length=i*k+pre.length:=by
  rw [List.length_append,fm_len hf,List.length_take]; congr 2; omega
 have hpos:0<(l.flatMap f).length:=by rw [fm_len hf]; exact Nat.mul_pos (by omega) hk
 rw [ef] at h hpos
 obtain ⟨b,o,h1,h2,h3,h4⟩:=h.write (vs:=vs) hy hpos
 rw [hlen,<- Nat.add_assoc] at h2 h4
 rw [es]
 exact ⟨b,o,h1,h2,h3,h4⟩
theorem St.own {Z K H:KH} {p n c sz rn rc:Nat} {a ra:OA} {R:List Rr} {cs:List Value} (h:St Z K p a n c R) (o:Own K H sz ra rn rc cs) (hl:Le K H):∃ Z',Le Z Z'/\St Z' H p a n c R/\kold Z' sz ra rn=some cs:=by
 have hS:St Z H p a n c R:=⟨h.r.step fun k e _ q=>hl k e q,h.e.up fun e q=>hl p e q⟩
 cases hb:blk ra with
 | none=>exact ⟨Z,Le.refl Z,hS,(o.base (H1:=fun _=>none) (H':=Z) (fun _ _=>rfl) fun k e z _=>by rw [hb] at z; cases z).cells⟩
 | some b =>
   obtain ⟨⟨e,he⟩,hk⟩:=o.has hb
   have hz:Z b=none:=h.r.le.none hk
   have hle:Le (Z.new b e) H:=fun k e' q=>by
    simp only [KH.new] at q
    by_cases z:k=b
    .rw [if_pos z] at q; cases q; rw [z]; exact he
    .rw [if_neg z] at q; exact hS.r.le k e' q
   refine ⟨Z.new b e,Le.new hz,⟨hS.r.base hle (new_none h.r.zp fun z=>h.ne hk z.symm) fun r q k z=>?_,hS.e⟩,(o.base (H1:=fun _=>none) (H':=Z.new b e) (fun _ _=>rfl) fun k e' z q=>?_).cells⟩
   .obtain ⟨e2,q2⟩:=(h.r.ok r q).has z
    exact new_none (h.r.fr r q k z).1 fun w=>by rw [w,hk] at q2; cases q2
   .rw [hb] at z; cases z
    rw [he] at q; cases q
    exact new_self
theorem St.giM {Z H:KH} {p n c:Nat} {a:OA} {R:List Rr} {g:Gm} (h:St Z H p a n c R) (ht:rowT g∈R) (hn:rowN g∈R) (hp:rowP g∈R) (h1:NtsI Z g.nts) (h2:PrsI Z g.prods):GI H g :=
 ⟨(h.r.ok _ ht).row,(h.r.ok _ hn).row,(h.r.ok _ hp).row,h1.up h.r.le,h2.up h.r.le⟩
theorem NtsI.set {H:KH} {l:List Nt} {x:Nt} {j:Nat} (h:NtsI H l) (h1:kold H 1 x.ia x.inh.length=some (sC x.inh)) (h2:kold H 1 x.sa x.syn.length=some (sC x.syn)):NtsI H (l.set j x):=fun i hi=>set_all (P:=fun (x:Nt)=>kold H 1 x.ia x.inh.length=some (sC x.inh)/\kold H 1 x.sa x.syn.length=some (sC x.syn)) h ⟨h1,h2⟩ i hi
theorem PrsI.set {H:KH} {l:List Pr} {x:Pr} {j:Nat} (h:PrsI H l) (h1:kold H 2 x.ra x.right.length=some (syC x.right)):PrsI H (l.set j x):=fun i hi=>set_all (P:=fun (x:Pr)=>kold H 2 x.ra x.right.length=some (syC x.right)) h h1 i hi
theorem Few.setT {n:Gm} (h:Few n) {l:List Tk} (h1:l.length<=1000) (h2:∀ i (hi:i<l.length),l[i].name.size<=140737488355328):Few { n with toks:=l }:=⟨h1,h.n,h.p,h2,h.ns,h.ps⟩
theorem Few.setN {n:Gm} (h:Few n) {j:Nat} {x:Nt} (h2:x.name.size<=140737488355328/\x.inh.length<=1000/\x.syn.length<=1000/\(∀ s∈x.inh,s.size<=140737488355328)/\∀ s∈x.syn,s.size<=140737488355328):Few { n with nts:=n.nts.set j x } :=
 ⟨h.t,by show (n.nts.set j x).length<=1000; rw [List.length_set]; exact h.n,h.p,h.ts,fun i hi=>set_all (P:=fun (x:Nt)=>x.name.size<=140737488355328/\x.inh.length<=1000/\x.syn.length<=1000/\(∀ s∈x.inh,s.size<=140737488355328)/\∀ s∈x.syn,s.size<=140737488355328) h.ns h2 i hi,h.ps⟩
theorem Few.setP {n:Gm} (h:Few n) {j:Nat} {x:Pr} (h2:x.right.length<=1000):Few { n with prods:=n.prods.set j x } :=
 ⟨h.t,h.n,by show (n.prods.set j x).length<=1000; rw [List.length_set]; exact h.p,h.ts,h.ns,fun i hi=>set_all (P:=fun (x:Pr)=>x.right.length<=1000) h.ps h2 i hi⟩
theorem which_of {w l:Nat} (hw:w<=255) (hl:0<l):∃ i:Nat,i<l/\Int.tmod (IntKind.wrap .i64 (IntKind.wrap .u8 (Int.tdiv ((w:Nat):Int) 8))) ((l:Nat):Int)=i:=by
 have h1:Int.tdiv ((w:Nat):Int) 8=((w/8:Nat):Int):=rfl
 have h2:IntKind.wrap .u8 ((w/8:Nat):Int)=((w/8:Nat):Int):=IntWalk.u8_in _ ⟨by omega,by omega⟩
 have h3:IntKind.wrap .i64 ((w/8:Nat):Int)=((w/8:Nat):Int):=wrap64 (by omega) (by omega)
 rw [h1,h2,h3]
 exact ⟨w/8%l,Nat.mod_lt _ hl,rfl⟩
end Go.Ew
namespace Go.Proofs.Ytdflpllfkengdaa
open Go.Ev Go.Ew
namespace Va
section
variable (ok : EnvOk (env Try.prog))
include ok
theorem l5x {K0:KH} {b t u v:Nat} {g m n s:Gm} (hb:K0 b=none) (gg:GI K0 g) (gm:GI K0 m) (gn:GI K0 n) (gs:GI K0 s) (fg:Few g) (fm:Few m) (fn':Few n) (fs:Few s) (hm:MayG m) (e1:n.toks.length=t) (e2:n.nts.length=u) (e3:n.prods.length=v) :
 vc3_L5 m.ta m.toks.length m.tc m.na m.nts.length m.nc m.pa m.prods.length m.pc b K0 g.ta g.toks.length g.tc g.na g.nts.length g.nc g.pa g.prods.length g.pc n.ta t n.tc n.na u n.nc n.pa v n.pc s.ta s.toks.length s.tc s.na s.nts.length s.nc s.pa s.prods.length s.pc (fun v _=>v = .bool true):=by
 subst e1 e2 e3
 exact l5 ok hb gg gm gn gs fg fm fn' fs hm
theorem c3 {g:Gm} {a:OA} {k c w:Nat} {to:Int} {name:ByteArray} {H:KH} (hg:GI H g) (hfit:Fit g) (hl:∀ i,i<k->∃ b o x,a=some ⟨b,o,none⟩/\ld H ⟨b,o+i,none⟩ [.int .u8 x]/\0<=x/\x<=255) (hw:w<=255):Does (env Try.prog) 3 [gv g,.slice a k c,.int .u8 ((w:Nat):Int),.int .i64 to,.string name] H fun v _=>v = .bool true:=by
 refine fn3 ok (c6 ⟨true,rfl,fun z=>(by cases z),fun _=>c7 ok hg hfit fun bl hbl=>⟨bl,rfl,fun _=>rfl,fun z=>⟨fun _=>rfl,fun z2=>⟨fun _=>rfl,fun z3=>?_⟩⟩⟩⟩)
 have fg:=hfit.few (hbl (by cases bl; cases z; rfl))
 have hk:k<=150:=by have:=of_decide_eq_false z2; omega
 have hname:name.size<=20:=by have:=of_decide_eq_false z3; omega
 clear hfit hbl z z2 z3
 have hb:PkB H a k:=⟨hl,hk⟩
 refine c8 ok hb fun p1 H2 _ h=>⟨p1,0,rfl,c9 ok hb h fun m Z1 H6 hZ1 s1 m1 m2 hmm=>⟨_,_,_,_,_,_,_,_,_,rfl,?_⟩⟩
 have gg:=hg.up (hZ1.trans s1.r.le)
 have gm:=s1.gi m1 m2
 have fm:=hmm.few
 have hb:=hb.up (hZ1.trans s1.r.le)
 clear s1 m1 m2 h hZ1 hg
 refine c8 ok hb fun p2 H17 _ h=>⟨p2,0,rfl,c9 ok hb h fun n Z2 H21 hZ2 S n1 n2 hnm=>⟨_,_,_,_,_,_,_,_,_,rfl,?_⟩⟩
 have fnn:=hnm.few
 have gg:=gg.up hZ2
 have gm:=gm.up hZ2
 have t1:=hnm.t
 have t2:=hnm.n
 have t3:=hnm.p
 have hsa:∀ i (h:i<n.nts.length),n.nts[i].inh.length+n.nts[i].syn.length<=4:=fun i h=>(hnm.at_ i h).a
 have hra:∀ i (h:i<n.prods.length),n.prods[i].right.length<=5:=fun i h=>(hnm.pr i h).b
 clear h hb hl hZ2 hnm
 have eqs:∀ l:Nat,0<l->∃ i:Nat,i<l/\Int.tmod (IntKind.wrap .i64 (IntKind.wrap .u8 (Int.tdiv ((w:Nat):Int) 8))) ((l:Nat):Int)=i:=fun l h=>which_of hw h
 obtain ⟨it,it1,it2⟩:=eqs n.toks.length (by omega)
 obtain ⟨iN,in1,in2⟩:=eqs n.nts.length (by omega)
 obtain ⟨ip,ip1,ip2⟩:=eqs n.prods.length (by omega)
 have pT:[rowP n,rowN n,rowT n].Perm [rowT n,rowP n,rowN n]:=List.perm_append_comm (l₁:=[rowP n,rowN n]) (l₂:=[rowT n])
 have pN:[rowP n,rowN n,rowT n].Perm [rowN n,rowP n,rowT n]:=.swap _ _ _
 have te:Int.toNat ((it:Nat):Int)=it:=by omega
 have ne:Int.toNat ((iN:Nat):Int)=iN:=by omega
 have pe:Int.toNat ((ip:Nat):Int)=ip:=by omega
 have nz:∀ l:Nat,0<l->((l:Nat):Int)≠0:=fun l h=>by omega
 have tz:=nz n.toks.length (by omega)
 have Nz:=nz n.nts.length (by omega)
 have pz:=nz n.prods.length (by omega)
 rw [it2,in2,ip2,te,ne,pe]
 refine ⟨by decide,by decide,fun _=>?_,fun _=>⟨fun _=>?_,fun _=>⟨fun _=>?_,fun _=>⟨fun _=>?_,fun _=>⟨fun _=>?_,fun _=>⟨fun _=>?_,fun _=>⟨fun _=>?_,fun _=>?_⟩⟩⟩⟩⟩⟩⟩
 .
  obtain ⟨b,o,ea,f1,f2,f3⟩:=(S.perm pT).setIt (k:=3) (l:=n.toks) (f:=fun (t:Tk)=>[.string t.name,.string t.rex,.bool t.skip]) (fun _=>rfl) it1 (x:=⟨name,n.toks[it].rex,n.toks[it].skip⟩) (pre:=[]) (ys:=[.string n.toks[it].name]) (vs:=[.string name]) (post:=[.string n.toks[it].rex,.bool n.toks[it].skip]) rfl rfl rfl (by decide)
  refine ⟨trivial,tz,⟨by omega,by omega⟩,b,o,ea,rfl,stOk f1 rfl,f2,trivial,trivial,?_⟩
  have e:rowT { n with toks:=n.toks.set it ⟨name,n.toks[it].rex,n.toks[it].skip⟩ }=⟨3,n.ta,n.toks.length,n.tc,(n.toks.set it ⟨name,n.toks[it].rex,n.toks[it].skip⟩).flatMap fun (t:Tk)=>[.string t.name,.string t.rex,.bool t.skip]⟩:=by
   unfold rowT tkC; simp only [List.length_set]
  have gi:GI _ { n with toks:=n.toks.set it ⟨name,n.toks[it].rex,n.toks[it].skip⟩ }:=f3.giM (by rw [e]; simp) (by simp [rowN]) (by simp [rowP]) n1 n2
  have fw:=fnn.setT (l:=n.toks.set it ⟨name,n.toks[it].rex,n.toks[it].skip⟩) (by rw [List.length_set]; omega) (set_all (P:=fun (t:Tk)=>t.name.size<=140737488355328) fnn.ts (by show name.size<=_; omega))
  exact c10 ok fun s H2 ls gs fs=>⟨_,_,_,_,_,_,_,_,_,rfl,⟨rfl,rfl,rfl,trivial⟩,fun n12 h12=>l5x ok (n:={ n with toks:=n.toks.set it ⟨name,n.toks[it].rex,n.toks[it].skip⟩ }) h12 ((gg.up f3.r.le).up ls) ((gm.up f3.r.le).up ls) (GI.up gi ls) gs fg fm fw fs hmm (List.length_set ..) rfl rfl⟩
 .
  obtain ⟨b,o,ea,f1,f2,f3⟩:=(S.perm pN).setIt (k:=3) (l:=n.nts) (f:=fun (x:Nt)=>[.string x.name,.slice x.ia x.inh.length x.ic,.slice x.sa x.syn.length x.sc]) (fun _=>rfl) in1 (x:={ n.nts[iN] with name:=name }) (pre:=[]) (ys:=[.string n.nts[iN].name]) (vs:=[.string name]) (post:=[.slice n.nts[iN].ia n.nts[iN].inh.length n.nts[iN].ic,.slice n.nts[iN].sa n.nts[iN].syn.length n.nts[iN].sc]) rfl rfl rfl (by decide)
  refine ⟨trivial,Nz,⟨by omega,by omega⟩,b,o,ea,rfl,stOk f1 rfl,f2,trivial,trivial,?_⟩
  have e:rowN { n with nts:=n.nts.set iN { n.nts[iN] with name:=name } }=⟨3,n.na,n.nts.length,n.nc,(n.nts.set iN { n.nts[iN] with name:=name }).flatMap fun (x:Nt)=>[.string x.name,.slice x.ia x.inh.length x.ic,.slice x.sa x.syn.length x.sc]⟩:=by
   unfold rowN ntC; simp only [List.length_set]
  have gi:GI _ { n with nts:=n.nts.set iN { n.nts[iN] with name:=name } }:=f3.giM (by simp [rowT]) (by rw [e]; simp) (by simp [rowP]) (n1.set (n1 iN in1).1 (n1 iN in1).2) n2
  have fw:=fnn.setN (j:=iN) (x:={ n.nts[iN] with name:=name }) ⟨by show name.size<=_; omega,(fnn.ns iN in1).2⟩
  exact c10 ok fun s H2 ls gs fs=>⟨_,_,_,_,_,_,_,_,_,rfl,⟨rfl,rfl,rfl,trivial⟩,fun n12 h12=>l5x ok (n:={ n with nts:=n.nts.set iN { n.nts[iN] with name:=name } }) h12 ((gg.up f3.r.le).up ls) ((gm.up f3.r.le).up ls) (GI.up gi ls) gs fg fm fw fs hmm rfl (List.length_set ..) rfl⟩
 .
  obtain ⟨b,o,ea,f1,f2,f3⟩:=S.setIt (k:=3) (l:=n.prods) (f:=fun (x:Pr)=>[.int .i64 x.left,.slice x.ra x.right.length x.rc,.slice x.ua x.un x.uc]) (fun _=>rfl) ip1 (x:={ n.prods[ip] with left:=to }) (pre:=[]) (ys:=[.int .i64 n.prods[ip].left]) (vs:=[.int .i64 to]) (post:=[.slice n.prods[ip].ra n.prods[ip].right.length n.prods[ip].rc,.slice n.prods[ip].ua n.prods[ip].un n.prods[ip].uc]) rfl rfl rfl (by decide)
  refine ⟨trivial,pz,⟨by omega,by omega⟩,b,o,ea,rfl,stOk f1 rfl,f2,trivial,trivial,?_⟩
  have e:rowP { n with prods:=n.prods.set ip { n.prods[ip] with left:=to } }=⟨3,n.pa,n.prods.length,n.pc,(n.prods.set ip { n.prods[ip] with left:=to }).flatMap fun (x:Pr)=>[.int .i64 x.left,.slice x.ra x.right.length x.rc,.slice x.ua x.un x.uc]⟩:=by
   unfold rowP prC; simp only [List.length_set]
  have gi:GI _ { n with prods:=n.prods.set ip { n.prods[ip] with left:=to } }:=f3.giM (by simp [rowT]) (by simp [rowN]) (by rw [e]; simp) n1 (n2.set (n2 ip ip1))
  have fw:=fnn.setP (j:=ip) (x:={ n.prods[ip] with left:=to }) (fnn.ps ip ip1)
  exact c10 ok fun s H2 ls gs fs=>⟨_,_,_,_,_,_,_,_,_,rfl,⟨rfl,rfl,rfl,trivial⟩,fun n12 h12=>l5x ok (n:={ n with prods:=n.prods.set ip { n.prods[ip] with left:=to } }) h12 ((gg.up f3.r.le).up ls) ((gm.up f3.r.le).up ls) (GI.up gi ls) gs fg fm fw fs hmm rfl rfl (List.length_set ..)⟩
 .
  have hr:=hra ip ip1
  obtain ⟨b0,o0,ha,r0⟩:=pr_ld (S.r.ok (rowP n) (by simp)).row ip1
  refine ⟨trivial,pz,⟨by omega,by omega⟩,b0,o0,ha,fun n42 h42=>⟨rfl,_,_,_,(Le.new h42).ld (ldSub r0 1 1 (by simp)),fun n46 h46=>⟨_,_,knew_of (ti:=tiY) ((Le.new h42).kold (S.r.le.kold (n2 ip ip1))),?_⟩⟩⟩
  obtain ⟨a49,c51,H52,g1,g2,g3,g4,g5⟩:=(Own.lit (H0:=H21) (H:=KH.new H21 n42 (mkEnt [] 0)) (sz:=tiY.size) n42 0 [] (if_pos rfl) rfl (by decide) h42).append (ti:=tiY) (m:=n.prods[ip].right.length) (nm:=n46) (new:=syC n.prods[ip].right) (Le.new h42) h46 (fm_len (k:=2) (fun _=>rfl) _) (by omega) (by decide) (by decide)
  rw [Nat.zero_add,List.nil_append] at g2
  rw [Nat.zero_add] at g1
  refine ⟨a49,_,c51,H52,g1,by decide,fun n53 h53 n54 h54=>⟨_,_,knew_of (ti:=tiY) (lit_kold new_self rfl),?_⟩⟩
  generalize hd:decide (Int.tmod (IntKind.wrap .i64 (IntKind.wrap .u8 (Int.tdiv ((w:Nat):Int) 8))) 2=0)=d at h54 ⊢
  obtain ⟨a57,c59,H60,q1,q2,q3,q4,q5⟩:=(Own.mono (Le.new (e:=mkEnt [.bool d,.int .i64 to] 0) h53) g2).append (ti:=tiY) (m:=1) (nm:=n54) (new:=[.bool d,.int .i64 to]) (g3.trans (Le.new h53)) h54 rfl (by omega) (by decide) (by decide)
  have ex:syC (n.prods[ip].right++[⟨d,to⟩])=syC n.prods[ip].right++[.bool d,.int .i64 to]:=List.flatMap_append
  have el:(n.prods[ip].right++[(⟨d,to⟩:Sy)]).length=n.prods[ip].right.length+1:=by simp
  rw [<- ex,<- el] at q2
  rw [<- el] at q1
  obtain ⟨Z3,hZ3,S3,hk3⟩:=S.own q2 q3
  obtain ⟨b,o,ea,f1,f2,f3⟩:=S3.setIt (k:=3) (l:=n.prods) (f:=fun (x:Pr)=>[.int .i64 x.left,.slice x.ra x.right.length x.rc,.slice x.ua x.un x.uc]) (fun _=>rfl) ip1 (x:={ n.prods[ip] with ra:=a57,rc:=c59,right:=n.prods[ip].right++[⟨d,to⟩] }) (pre:=[.int .i64 n.prods[ip].left]) (ys:=[.slice n.prods[ip].ra n.prods[ip].right.length n.prods[ip].rc]) (vs:=[.slice a57 (n.prods[ip].right++[(⟨d,to⟩:Sy)]).length c59]) (post:=[.slice n.prods[ip].ua n.prods[ip].un n.prods[ip].uc]) rfl rfl rfl (by decide)
  have ha:n.pa=some ⟨b0,o0,none⟩:=ha
  rw [ha] at ea
  cases ea
  refine ⟨a57,_,c59,H60,q1,rfl,stOk f1 rfl,f2,trivial,?_⟩
  have e:rowP { n with prods:=n.prods.set ip { n.prods[ip] with ra:=a57,rc:=c59,right:=n.prods[ip].right++[⟨d,to⟩] } }=⟨3,n.pa,n.prods.length,n.pc,(n.prods.set ip { n.prods[ip] with ra:=a57,rc:=c59,right:=n.prods[ip].right++[⟨d,to⟩] }).flatMap fun (x:Pr)=>[.int .i64 x.left,.slice x.ra x.right.length x.rc,.slice x.ua x.un x.uc]⟩:=by
   unfold rowP prC; simp only [List.length_set]
  have gi:GI _ { n with prods:=n.prods.set ip { n.prods[ip] with ra:=a57,rc:=c59,right:=n.prods[ip].right++[⟨d,to⟩] } }:=f3.giM (by simp [rowT]) (by simp [rowN]) (by rw [e]; simp) (n1.up hZ3) ((n2.up hZ3).set hk3)
  have fw:=fnn.setP (j:=ip) (x:={ n.prods[ip] with ra:=a57,rc:=c59,right:=n.prods[ip].right++[⟨d,to⟩] }) (by show (n.prods[ip].right++[(⟨d,to⟩:Sy)]).length<=1000; omega)
  have lz:=hZ3.trans f3.r.le
  exact c10 ok fun s H2 ls gs fs=>⟨_,_,_,_,_,_,_,_,_,rfl,⟨rfl,rfl,rfl,trivial⟩,fun n12 h12=>l5x ok (n:={ n with prods:=n.prods.set ip { n.prods[ip] with ra:=a57,rc:=c59,right:=n.prods[ip].right++[⟨d,to⟩] } }) h12 ((gg.up lz).up ls) ((gm.up lz).up ls) (GI.up gi ls) gs fg fm fw fs hmm rfl rfl (List.length_set ..)⟩
 .
  obtain ⟨b,o,ea,f1,f2,f3⟩:=(S.perm pT).setIt (k:=3) (l:=n.toks) (f:=fun (t:Tk)=>[.string t.name,.string t.rex,.bool t.skip]) (fun _=>rfl) it1 (x:=⟨n.toks[it].name,n.toks[it].rex,true⟩) (pre:=[.string n.toks[it].name,.string n.toks[it].rex]) (ys:=[.bool n.toks[it].skip]) (vs:=[.bool true]) (post:=[]) rfl rfl rfl (by decide)
  refine ⟨trivial,tz,⟨by omega,by omega⟩,b,o,ea,rfl,stOk f1 rfl,f2,trivial,trivial,?_⟩
  have e:rowT { n with toks:=n.toks.set it ⟨n.toks[it].name,n.toks[it].rex,true⟩ }=⟨3,n.ta,n.toks.length,n.tc,(n.toks.set it ⟨n.toks[it].name,n.toks[it].rex,true⟩).flatMap fun (t:Tk)=>[.string t.name,.string t.rex,.bool t.skip]⟩:=by
   unfold rowT tkC; simp only [List.length_set]
  have gi:GI _ { n with toks:=n.toks.set it ⟨n.toks[it].name,n.toks[it].rex,true⟩ }:=f3.giM (by rw [e]; simp) (by simp [rowN]) (by simp [rowP]) n1 n2
  have fw:=fnn.setT (l:=n.toks.set it ⟨n.toks[it].name,n.toks[it].rex,true⟩) (by rw [List.length_set]; omega) (set_all (P:=fun (t:Tk)=>t.name.size<=140737488355328) fnn.ts (fnn.ts it it1))
  exact c10 ok fun s H2 ls gs fs=>⟨_,_,_,_,_,_,_,_,_,rfl,⟨rfl,rfl,rfl,trivial⟩,fun n12 h12=>l5x ok (n:={ n with toks:=n.toks.set it ⟨n.toks[it].name,n.toks[it].rex,true⟩ }) h12 ((gg.up f3.r.le).up ls) ((gm.up f3.r.le).up ls) (GI.up gi ls) gs fg fm fw fs hmm (List.length_set ..) rfl rfl⟩
 .
  have hr:=hsa iN in1
  obtain ⟨b0,o0,ha,r0⟩:=nt_ld (S.r.ok (rowN n) (by simp)).row in1
  refine ⟨trivial,Nz,fun n65 h65=>⟨Nz,⟨by omega,by omega⟩,b0,o0,ha,rfl,_,_,_,(Le.new h65).ld (ldSub r0 2 1 (by simp)),fun n71 h71 n72 h72=>?_⟩⟩
  rw [hide_new h71]
  have h72':=(Le.new (e:=mkEnt [.string name] 0) h71).none h72
  obtain ⟨a75,c77,H78,g1,g2,g3,g4,g5⟩:=(Own.lit (H0:=H21) (H:=KH.new H21 n65 (mkEnt [] 0)) (sz:=tiS.size) n65 0 [] (if_pos rfl) rfl (by decide) h65).append (ti:=tiS) (m:=n.nts[iN].syn.length) (nm:=n72) (new:=sC n.nts[iN].syn) (Le.new h65) h72' (by rw [sC_len]; exact (Nat.mul_one _).symm) (by omega) (by decide) (by decide)
  rw [Nat.zero_add,List.nil_append] at g2
  rw [Nat.zero_add] at g1
  refine ⟨_,_,knew_of (ti:=tiS) ((Le.new h65).kold (S.r.le.kold (n1 iN in1).2)),a75,_,c77,H78,g1,fun h78=>⟨by repeat' (first | exact trivial | exact rfl | assumption | apply And.intro),?_⟩⟩
  rw [back_new]
  refine fun n79 h79=>⟨_,_,knew_of (ti:=tiS) (lit_kold new_self rfl),?_⟩
  obtain ⟨a82,c84,H85,q1,q2,q3,q4,q5⟩:=(Own.mono (Le.new (e:=mkEnt [.string name] 0) h78) g2).append (ti:=tiS) (m:=1) (nm:=n79) (new:=[.string name]) (g3.trans (Le.new h78)) h79 rfl (by omega) (by decide) (by decide)
  have ex:sC (n.nts[iN].syn++[name])=sC n.nts[iN].syn++[.string name]:=List.flatMap_append
  have el:(n.nts[iN].syn++[name]).length=n.nts[iN].syn.length+1:=by simp
  rw [<- ex,<- el] at q2
  rw [<- el] at q1
  obtain ⟨Z3,hZ3,S3,hk3⟩:=(S.perm pN).own q2 q3
  obtain ⟨b,o,ea,f1,f2,f3⟩:=S3.setIt (k:=3) (l:=n.nts) (f:=fun (x:Nt)=>[.string x.name,.slice x.ia x.inh.length x.ic,.slice x.sa x.syn.length x.sc]) (fun _=>rfl) in1 (x:={ n.nts[iN] with sa:=a82,sc:=c84,syn:=n.nts[iN].syn++[name] }) (pre:=[.string n.nts[iN].name,.slice n.nts[iN].ia n.nts[iN].inh.length n.nts[iN].ic]) (ys:=[.slice n.nts[iN].sa n.nts[iN].syn.length n.nts[iN].sc]) (vs:=[.slice a82 (n.nts[iN].syn++[name]).length c84]) (post:=[]) rfl rfl rfl (by decide)
  have ha:n.na=some ⟨b0,o0,none⟩:=ha
  rw [ha] at ea
  cases ea
  refine ⟨a82,_,c84,H85,q1,by repeat' (first | exact trivial | exact rfl | assumption | apply And.intro),⟨by omega,by omega⟩,b0,o0,ha,rfl,stOk f1 rfl,f2,trivial,trivial,?_⟩
  have e:rowN { n with nts:=n.nts.set iN { n.nts[iN] with sa:=a82,sc:=c84,syn:=n.nts[iN].syn++[name] } }=⟨3,n.na,n.nts.length,n.nc,(n.nts.set iN { n.nts[iN] with sa:=a82,sc:=c84,syn:=n.nts[iN].syn++[name] }).flatMap fun (x:Nt)=>[.string x.name,.slice x.ia x.inh.length x.ic,.slice x.sa x.syn.length x.sc]⟩:=by
   unfold rowN ntC; simp only [List.length_set]
  have gi:GI _ { n with nts:=n.nts.set iN { n.nts[iN] with sa:=a82,sc:=c84,syn:=n.nts[iN].syn++[name] } }:=f3.giM (by simp [rowT]) (by rw [e]; simp) (by simp [rowP]) ((n1.up hZ3).set (hZ3.kold (n1 iN in1).1) hk3) (n2.up hZ3)
  have fw:=fnn.setN (j:=iN) (x:={ n.nts[iN] with sa:=a82,sc:=c84,syn:=n.nts[iN].syn++[name] }) ⟨(fnn.ns iN in1).1,by show n.nts[iN].inh.length<=1000; omega,by show (n.nts[iN].syn++[name]).length<=1000; omega,(fnn.ns iN in1).2.2.2.1,fun s hs=>by
   rcases List.mem_append.1 hs with q | q
   .exact (fnn.ns iN in1).2.2.2.2 s q
   .rw [List.mem_singleton.1 q]; omega⟩
  have lz:=hZ3.trans f3.r.le
  exact c10 ok fun s H2 ls gs fs=>⟨_,_,_,_,_,_,_,_,_,rfl,⟨rfl,rfl,rfl,trivial⟩,fun n12 h12=>l5x ok (n:={ n with nts:=n.nts.set iN { n.nts[iN] with sa:=a82,sc:=c84,syn:=n.nts[iN].syn++[name] } }) h12 ((gg.up lz).up ls) ((gm.up lz).up ls) (GI.up gi ls) gs fg fm fw fs hmm rfl (List.length_set ..) rfl⟩
 .
  have g0:=S.gi n1 n2
  have gi:GI H21 { n with pa:=none,pc:=0,prods:=[] }:=⟨g0.t,g0.n,rfl,g0.ni,fun i h=>absurd h (by simp)⟩
  have fw:Few { n with pa:=none,pc:=0,prods:=[] }:=⟨fnn.t,fnn.n,by show 0<=1000; omega,fnn.ts,fnn.ns,fun i h=>absurd h (by simp)⟩
  refine ⟨trivial,?_⟩
  exact c10 ok fun s H2 ls gs fs=>⟨_,_,_,_,_,_,_,_,_,rfl,⟨rfl,rfl,rfl,trivial⟩,fun n12 h12=>l5x ok (n:={ n with pa:=none,pc:=0,prods:=[] }) h12 ((gg.up S.r.le).up ls) ((gm.up S.r.le).up ls) (GI.up gi ls) gs fg fm fw fs hmm rfl rfl rfl⟩
 .
  intro n89 h89
  refine ⟨_,_,knew_of (ti:=tiT) (S.r.ok (rowT n) (by simp)).row,?_⟩
  obtain ⟨a92,c94,H95,f1,f3⟩:=(S.perm pT).app (ti:=tiT) (nm:=n89) (m:=n.toks.length) (new:=tkC n.toks) h89 rfl (fm_len (k:=3) (fun _=>rfl) _) (by show n.toks.length+n.toks.length<=_; omega) (by decide) (by decide)
  have ex:tkC (n.toks++n.toks)=tkC n.toks++tkC n.toks:=List.flatMap_append
  have e:rowT { n with ta:=a92,tc:=c94,toks:=n.toks++n.toks }=⟨(rowT n).sz,a92,(rowT n).n+n.toks.length,c94,(rowT n).cs++tkC n.toks⟩:=by
   unfold rowT; simp only [ex,List.length_append]
  have gi:GI _ { n with ta:=a92,tc:=c94,toks:=n.toks++n.toks }:=f3.giM (by rw [e]; simp) (by simp [rowN]) (by simp [rowP]) n1 n2
  have fw:Few { n with ta:=a92,tc:=c94,toks:=n.toks++n.toks }:=⟨by show (n.toks++n.toks).length<=1000; simp; omega,fnn.n,fnn.p,fun i hi=>by
   have:∀ t∈n.toks++n.toks,t.name.size<=140737488355328:=fun t ht=>by
    rcases List.mem_append.1 ht with q | q <;>
    .obtain ⟨j,hj,rfl⟩:=List.mem_iff_getElem.1 q
     exact fnn.ts j hj
   exact this _ (List.getElem_mem hi),fnn.ns,fnn.ps⟩
  refine ⟨a92,_,c94,H95,f1,trivial,?_⟩
  exact c10 ok fun s H2 ls gs fs=>⟨_,_,_,_,_,_,_,_,_,rfl,⟨rfl,rfl,rfl,trivial⟩,fun n12 h12=>l5x ok (n:={ n with ta:=a92,tc:=c94,toks:=n.toks++n.toks }) h12 ((gg.up f3.r.le).up ls) ((gm.up f3.r.le).up ls) (GI.up gi ls) gs fg fm fw fs hmm (List.length_append ..) rfl rfl⟩
end
end Va
end Go.Proofs.Ytdflpllfkengdaa
namespace Go.Proofs.Ytdflpllfkengdaa
open Go.Ev Go.Ew Go.RowKit
namespace Va
theorem tys:tysOk Try.prog tyL:=by unfold tysOk; kernel_rfl
theorem mixed:Try.prog.follows .mixedOrders=true:=by kernel_rfl
theorem own:ownKnob Try.prog.godebug=none:=by kernel_rfl
def fnB6:List Nat:=[6,10,11,13,15,19,20,21,22,23,25,26,27,28,29,32,33,36,37,38,39,40,41,42,43,44,46,47,48,49,50,51,52,53,54,55,56,57,58,59,60,61]
def xtB6:List (Nat × Nat):=[]
theorem fnsB6:(fnsOf Try.prog fnB6).all (fnOk (envOf Try.prog tyL fnB6 plL xtB6))=true:=by kernel_rfl
theorem okB6:EnvOk (envOf Try.prog tyL fnB6 plL xtB6):=env_ok tys mixed fnsB6 (fun g hg=>by simp [xtB6] at hg) (fun g hg=>by simp [xtB6] at hg) (fun g hg=>by simp [xtB6] at hg)
theorem hereB6:(tget (envOf Try.prog tyL fnB6 plL xtB6).ff 6).isSome=true:=by kernel_rfl
set_option maxRecDepth 100000 in
theorem runsB6:saysTrue (callA (envOf Try.prog tyL fnB6 plL xtB6) (ev (envOf Try.prog tyL fnB6 plL xtB6) 100000) 6 [] ⟨.nil,0⟩)=true:=by kernel_rfl
theorem walkB6 (w:World):Calls Try.prog 6 #[] w fun e w'=>e = .returned (.bool true)/\Below w.heap.size w w':=by
 obtain ⟨fn,hfn⟩:=Option.isSome_iff_exists.1 hereB6
 exact law_true okB6 hfn (by unfold unkU; omega) runsB6 w
theorem nameB6 : (Try.f6.name == "runtime.NumGoroutine") = false := by kernel_rfl
theorem bodyB6:Try.f6.body.isNone=false:=by kernel_rfl
theorem enterB6 (w:World):(callFunc 6 #[]).run Try.prog w = .ok (.enter 6 #[]) w:=by
 simp only [callFunc,Sem.run_bind,run_program,Result.andThen_ok,Try.func6,nameB6,bodyB6,Bool.false_eq_true,if_false,Sem.run_pure]
theorem fns:(fnsOf Try.prog fnL).all (fnOk (env Try.prog))=true:=by kernel_rfl
theorem ok:EnvOk (env Try.prog):=env_ok tys mixed fns (fun g hg=>by simp [xtL] at hg) (fun g hg=>by simp [xtL] at hg) (fun g hg=>by
 have e:g=6:=by simpa [xtL] using hg
 subst e
 exact fun w=>⟨enterB6 w,walkB6 w⟩)
end Va
end Go.Proofs.Ytdflpllfkengdaa
namespace Go.Ew
open Go.Ev Go.Deep Go.RowKit
def treeOf {α:Type} (f:Nat->Option α):Nat->BT (Option α)
 | 0=>.nil
 | n+1=>tset (treeOf f n) n (f n)
theorem tree_get {α:Type} (f:Nat->Option α):∀ n k,tget (treeOf f n) k=if k<n then f k else none
 | 0,k=>by simp [treeOf,tget]
 | n+1,k=>by
   rw [treeOf,tget_tset,tree_get f n]
   by_cases e:n=k
   .subst e; simp
   .rw [if_neg e]
    by_cases h:k<n
    .rw [if_pos h,if_pos (by omega)]
    .rw [if_neg h,if_neg (by omega)]
def absV (N:Nat):Value->Option Value
 | .pointer (some a)=>if a.spot=none/\a.block<N then some (.pointer (some a)) else none
 | .slice (some a) l c=>if a.spot=none/\a.block<N/\c<unkU then some (.slice (some a) l c) else if l=0 then some vague else none
 | v=>if isPlain v=true then some v else none
def thW (N:Nat):Th:=fun n=>if n<N then some (n,0,0) else none
theorem absV_S {N:Nat} {v u:Value} (h:absV N v=some u):S (thW N) u v:=by
 unfold absV at h
 split at h
 .rename_i a
  split at h
  .rename_i hq
   cases h
   refine ⟨hq.1,(a.block,0,0),by simp [thW,hq.2],?_⟩
   obtain ⟨b,o,sp⟩:=a
   obtain ⟨h1,h2⟩:=hq
   cases h1
   simp
  .cases h
 .rename_i a l c
  split at h
  .rename_i hq
   cases h
   obtain ⟨b,o,sp⟩:=a
   obtain ⟨h1,h2,h3⟩:=hq
   cases h1
   exact .inl ⟨rfl,(b,0,0),c,by simp only at h2; simp [thW,h2],.inl ⟨h3,rfl⟩,by simp⟩
  .split at h
   .rename_i hl
    cases h
    subst hl
    exact .inr ⟨by simp,rfl,Nat.le_refl _,_,_,rfl⟩
   .cases h
 .split at h
  .rename_i hp
   cases h
   exact S_plain hp
  .cases h
def bsz (w:World) (b:Nat):Nat:=match w.heap[b]? with
 | some (.cells c _ _)=>c.size
 | _=>0
def blkOf (w:World) (b:Nat) (i:Nat):Option Value:=match w.cell? ⟨b,i,none⟩ with
 | some v=>if w.frozen? ⟨b,i,none⟩=false then absV w.heap.size v else none
 | none=>none
def entW (w:World) (b:Nat):Ent:=⟨treeOf (blkOf w b) (bsz w b),0,roU,none⟩
def KW (w:World):KH:=fun b=>if b<w.heap.size then some (entW w b) else none
def snapW (w:World):Hp:=⟨treeOf (fun b=>some (entW w b)) w.heap.size,w.heap.size⟩
theorem snap_get (w:World) (k:Nat):tget (snapW w).m k=KW w k:=tree_get _ _ _
theorem KW_some {w:World} {k:Nat} {e:Ent} (h:KW w k=some e):k<w.heap.size/\e=entW w k:=by
 unfold KW at h
 split at h
 .rename_i q; cases h; exact ⟨q,rfl⟩
 .cases h
theorem HR_snap [LG] (w:World):HR (thW w.heap.size) (snapW w) w:=by
 refine ⟨fun n e x he hx=>?_,fun n m e e' x y h1 h2 hne h3 h4=>?_,fun n hn=>?_⟩
 .rw [snap_get] at he
  obtain ⟨h1,rfl⟩:=KW_some he
  have hx':x=(n,0,0):=by
   simp only [thW,if_pos h1,Option.some.injEq] at hx
   exact hx.symm
  subst hx'
  refine ⟨hx,h1,fun i v hi=>?_,fun o ho=>(by cases ho),fun hu=>⟨by simp [entW],fun i hi=>by simp at hi⟩⟩
  simp only [entW,tree_get] at hi
  split at hi
  .unfold blkOf at hi
   simp only [Nat.zero_add]
   cases hc:w.cell? ⟨n,i,none⟩ with
   | none=>rw [hc] at hi; cases hi
   | some u =>
     rw [hc] at hi
     simp only at hi
     split at hi
     .rename_i hf
      exact ⟨⟨u,rfl,absV_S hi⟩,hf⟩
     .cases hi
  .cases hi
 .unfold thW at h3 h4
  split at h3
  .split at h4
   .cases h3; cases h4; exact hne
   .cases h4
  .cases h3
 .have:¬ n<w.heap.size:=by have:w.heap.size<=n:=hn; omega
  simp [thW,this]
theorem cell_lt {w:World} {b o:Nat} {v:Value} (h:w.cell? ⟨b,o,none⟩=some v):b<w.heap.size/\o<bsz w b:=by
 unfold World.cell? at h
 unfold bsz
 cases hb:w.heap[b]? with
 | none=>simp [hb] at h
 | some ob =>
   refine ⟨(Array.getElem?_eq_some_iff.1 hb).1,?_⟩
   rw [hb] at h
   cases ob<;>simp at h ⊢
   rename_i c t fr
   exact (Array.getElem?_eq_some_iff.1 h).1
theorem KW_cell {w:World} {b o:Nat} {v u:Value} (h:w.cell? ⟨b,o,none⟩=some v) (hf:w.frozen? ⟨b,o,none⟩=false) (ha:absV w.heap.size v=some u):∃ e,KW w b=some e/\tget e.cells o=some u:=by
 obtain ⟨h1,h2⟩:=cell_lt h
 refine ⟨entW w b,by unfold KW; rw [if_pos h1],?_⟩
 simp only [entW,tree_get,if_pos h2]
 unfold blkOf
 rw [h]
 simp only [hf,if_true,ha]
theorem KW_ld {w:World} {b o:Nat} {v u:Value} (h:w.cell? ⟨b,o,none⟩=some v) (hf:w.frozen? ⟨b,o,none⟩=false) (ha:absV w.heap.size v=some u):ld (KW w) ⟨b,o,none⟩ [u]:=by
 obtain ⟨e,h1,h2⟩:=KW_cell h hf ha
 refine ⟨rfl,e,h1,?_⟩
 simp only [List.length_singleton,rd,h2]
theorem top {E:Env} (hE:EnvOk E) {g:Nat} {fn:Func} (hfn:tget E.ff g=some fn) {args cargs:List Value} {w:World} {v:Value} (hp:isPlain v=true) (hD:Does E g args (KW w) fun r _=>r=v) (ha:all2 (W (thW w.heap.size)) args cargs) :
 Calls E.P g cargs.toArray w fun e w'=>e = .returned v/\Below w.heap.size w w':=by
 letI:=lgOf E
 obtain ⟨r,h',H',⟨n,hrun⟩,hq,_⟩:=hD.run (snapW w) (fun k hk=>by
  rw [snap_get]
  have:¬ k<w.heap.size:=by have:w.heap.size<=k:=hk; omega
  simp [KW,this]) (fun k e q=>by rw [snap_get]; exact q)
 subst hq
 rcases (call_sound hE (lgOf_ok E) (ev_sound hE (lgOf_ok E) n) (snapW w) g args r h' (hrun n (Nat.le_refl _)) (thW w.heap.size) w cargs (HR_snap w) ha).1 hD.lt with ⟨_,h2⟩ | ⟨u,h1,_,_⟩
 .refine h2.mono fun e w' hq=>?_
  obtain ⟨θ',u,rfl,q1,q2,q3⟩:=hq
  rw [W_plain hp q3]
  refine ⟨rfl,q1.os,q1.tape,q1.output,q1.size,fun k hk=>q1.frame k hk fun n e x q hu _=>?_⟩
  rw [snap_get] at q
  obtain ⟨_,rfl⟩:=KW_some q
  exact absurd rfl hu
 .exfalso
  obtain ⟨f1,f2,c',f3,_⟩:=hE.ff g fn hfn
  have f2' : ¬ fn.name = "runtime.NumGoroutine" := fun e => by rw [e] at f2; simp at f2
  simp [callFunc,f1,f2',f3] at h1
section
variable {H : Type} {enc : TypeId × Value -> H} {P : Program} {w : World}
theorem cells_get {b n:Nat} {a:Addr} {cs:List Value} (h:w.cells? b a n=some cs):cs.length=n/\∀ i v,cs[i]? = some v->w.cell? (a.add i)=some v:=by
 unfold World.cells? at h
 split at h
 .refine ⟨by simpa using mapM_some_length h,fun i v hv=>?_⟩
  have hi:i<n:=by
   have:=mapM_some_length h
   rcases Nat.lt_or_ge i n with q | q
   .exact q
   .rw [List.getElem?_eq_none (by simp at this; omega)] at hv; cases hv
  have:=mapM_some_get h i i (by simp [hi])
  rw [this]; exact hv
 .cases h
theorem cell_spot {a:Addr} {v:Value} (h:w.cell? a=some v):a.spot=none:=by
 unfold World.cell? at h
 cases hs:a.spot with
 | none=>rfl
 | some s =>
   rw [hs] at h
   split at h<;>simp_all
theorem arg_slice {t e:TypeId} {v:Value} {d:DataW H} {ps:List MemPlace} (ht:P.underlying t=some (.slice e)) (he:P.cellsOf e=1) (h:DataW.Trod enc P w 0 (fun _=>true) true t v d ps) (hf:w.noneFrozen ps) (hv:∃ a l c,v = .slice a l c) :
 ∃ a n c,absV w.heap.size v=some (.slice a n c)/\∀ i,i<n->∃ b o x y m,a=some ⟨b,o,none⟩/\w.cell? ⟨b,o+i,none⟩=some x/\w.frozen? ⟨b,o+i,none⟩=false/\DataW.trod enc P w 0 (fun _=>true) true m e [x]=some y/\∀ p∈y.2,p∈ps:=by
 obtain ⟨fuel,hd⟩:=h
 obtain ⟨a0,l0,c0,rfl⟩:=hv
 have hcs:(Value.slice a0 l0 c0).cells.toList=[.slice a0 l0 c0]:=rfl
 rw [hcs] at hd
 rcases DataW.trod_slice ht hd with ⟨h1,h2⟩ | ⟨a,len,cap,elems,rest,n,_,h1,h2,_,h3,h4,h5,h6,_⟩
 .cases h1
  exact ⟨none,0,0,rfl,fun i hi=>by omega⟩
 .cases h1
  simp only [Prod.mk.injEq] at h2
  obtain ⟨rfl,rfl⟩:=h2
  have hmax:maxLen<unkU:=by decide
  by_cases hl:l0=0
  .subst hl
   have hab:absV w.heap.size (.slice (some a) 0 c0)=if a.spot=none/\a.block<w.heap.size/\c0<unkU then some (.slice (some a) 0 c0) else if 0=0 then some vague else none:=rfl
   by_cases hq:a.spot=none/\a.block<w.heap.size/\c0<unkU
   .rw [if_pos hq] at hab
    exact ⟨_,_,_,hab,fun i hi=>by omega⟩
   .rw [if_neg hq,if_pos rfl] at hab
    exact ⟨_,_,_,hab,fun i hi=>by omega⟩
  .have elem:∀ i,i<l0->∃ x y,w.cell? (a.add i)=some x/\DataW.trod enc P w 0 (fun _=>true) true n e [x]=some y/\y∈elems:=by
    intro i hi
    have h7:=h6 i hi
    rw [List.getElem?_eq_getElem (by omega)] at h7
    obtain ⟨cs,k1,k2⟩:=Option.bind_eq_some_iff.1 h7
    obtain ⟨k3,k4⟩:=cells_get k1
    rw [he] at k3 k4
    match cs,k3 with
    | [x],_ =>
      have k5:=k4 0 x rfl
      have e1:(a.add (i*1)).add 0=a.add i:=by
       rw [Nat.mul_one]
       generalize a.add i=z
       obtain ⟨b,o,sp⟩:=z
       unfold Addr.add
       simp
      rw [e1] at k5
      exact ⟨x,_,k5,k2,List.getElem_mem _⟩
   obtain ⟨x0,_,c1,_,_⟩:=elem 0 (by omega)
   have hs:a.spot=none:=by
    have:=cell_spot c1
    obtain ⟨b,o,sp⟩:=a
    unfold Addr.add at this
    simpa using this
   obtain ⟨b,o,sp⟩:=a
   cases hs
   rw [add_addr] at c1
   have hb:=(cell_lt c1).1
   have hcu:c0<unkU:=by omega
   refine ⟨some ⟨b,o,none⟩,l0,c0,by simp [absV,hb,hcu],fun i hi=>?_⟩
   obtain ⟨x,y,k1,k2,k3⟩:=elem i hi
   rw [add_addr] at k1
   refine ⟨b,o,x,y,n,rfl,k1,hf b (o+i) ?_,k2,fun p hp=>?_⟩
   .refine List.mem_append_left _ ?_
    unfold MemPlace.row
    rw [he,Nat.mul_one]
    exact List.mem_map.2 ⟨i,by simp; omega,rfl⟩
   .refine List.mem_append_right _ (List.mem_flatMap.2 ⟨y,by simp [k3],hp⟩)
theorem trod_int {t:TypeId} {k:IntKind} {x:Value} {m:Nat} {y:DataW H × List MemPlace} (ht:P.underlying t=some (.int k)) (h:DataW.trod enc P w 0 (fun _=>true) true m t [x]=some y):∃ n,x = .int k n/\(Lit.int k n).wf=true/\y=(.lit (.int k n),[]):=by
 cases m with
 | zero=>simp [DataW.trod] at h
 | succ m =>
   unfold DataW.trod at h
   rw [ht] at h
   cases x<;>simp at h
   rename_i k' n
   obtain ⟨⟨rfl,h2⟩,h3⟩:=h
   exact ⟨n,rfl,h2,h3.symm⟩
theorem trodAll_below {W W':World} (hl:laidOutB P=true) (hb:Below W.heap.size W W'):∀ (ts:List TypeId) (vs:List Value) (ds:List (DataW H)) (ps:List MemPlace),(∀ t∈ts,P.readableRec t=true/\t<P.types.size)->
 DataW.TrodAll enc P W 0 (fun _=>true) true ts vs ds ps->(∀ x∈ps,x.block<W.heap.size)->DataW.TrodAll enc P W' 0 (fun b=>decide (b<W.heap.size)) true ts vs ds ps
 | [],[],[],ps,_,h,_=>h
 | t :: ts,v :: vs,d :: ds,ps,ht,⟨p,q,h1,h2,h3⟩,hlt=>by
   subst h3
   exact ⟨p,q,Below.trod hl (ht t (by simp)).1 (ht t (by simp)).2 h1 hb (fun x hx=>hlt x (by simp [hx])),trodAll_below hl hb ts vs ds q (fun t' h'=>ht t' (by simp [h'])) h2 (fun x hx=>hlt x (by simp [hx])),rfl⟩
 | [],_ :: _,_,_,_,h,_=>by cases h
 | [],[],_ :: _,_,_,h,_=>by cases h
 | _ :: _,[],_,_,_,h,_=>by cases h
 | _ :: _,_ :: _,[],_,_,h,_=>by cases h
theorem arg_u8 {t e:TypeId} {v:Value} {d:DataW H} {ps:List MemPlace} (ht:P.underlying t=some (.slice e)) (he:P.cellsOf e=1) (hu:P.underlying e=some (.int .u8)) (h:DataW.Trod enc P w 0 (fun _=>true) true t v d ps) (hf:w.noneFrozen ps) (hv:∃ a l c,v = .slice a l c) :
 ∃ a n c,absV w.heap.size v=some (.slice a n c)/\∀ i,i<n->∃ b o x,a=some ⟨b,o,none⟩/\ld (KW w) ⟨b,o+i,none⟩ [.int .u8 x]/\0<=x/\x<=255:=by
 obtain ⟨a,n,c,h1,h2⟩:=arg_slice ht he h hf hv
 refine ⟨a,n,c,h1,fun i hi=>?_⟩
 obtain ⟨b,o,x,y,m,k1,k2,k3,k4,_⟩:=h2 i hi
 obtain ⟨z,rfl,hz,_⟩:=trod_int hu k4
 refine ⟨b,o,z,k1,KW_ld k2 k3 rfl,?_⟩
 simp only [Lit.wf,Bool.and_eq_true,decide_eq_true_eq] at hz
 have e1:IntKind.min .u8=0:=by decide
 have e2:IntKind.max .u8=255:=by decide
 omega
theorem absV_W {N:Nat} {v u:Value} (h:absV N v=some u):W (thW N) u v:=W_of_S (absV_S h)
theorem arg_byte {t:TypeId} {v:Value} {d:DataW H} {ps:List MemPlace} (ht:P.underlying t=some (.int .u8)) (h:DataW.Trod enc P w 0 (fun _=>true) true t v d ps) (hv:∃ n,v = .int .u8 n):∃ n:Nat,v = .int .u8 n/\n<=255:=by
 obtain ⟨m,rfl⟩:=hv
 obtain ⟨fuel,hd⟩:=h
 obtain ⟨z,e,hz,_⟩:=trod_int ht hd
 cases e
 simp only [Lit.wf,Bool.and_eq_true,decide_eq_true_eq] at hz
 have e1:IntKind.min .u8=0:=by decide
 have e2:IntKind.max .u8=255:=by decide
 exact ⟨m.toNat,by congr 1; omega,by omega⟩
end
end Go.Ew
namespace Go.Ew
open Go.Ev Go.Deep Go.RowKit
inductive FK where
 | int (k:IntKind)
 | str
 | bool
theorem rows_kold {H:KH} {a:OA} {n k:Nat} {P:List Value->Prop} (h0:n=0->kold H k a 0=some []) (h:∀ i,i<n->∃ b o vs,a=some ⟨b,o,none⟩/\ld H ⟨b,o+i*k,none⟩ vs/\vs.length=k/\P vs) :
 ∃ L:List (List Value),L.length=n/\kold H k a n=some L.flatten/\∀ vs∈L,P vs:=by
 by_cases hn:n=0
 .subst hn
  exact ⟨[],rfl,h0 rfl,fun vs q=>by cases q⟩
 .obtain ⟨b,o,vs,e1,⟨_,en,he,hr⟩,_,_⟩:=h 0 (by omega)
  have go:∀ m,m<=n->∃ L:List (List Value),L.length=m/\rd en.cells o (m*k)=some L.flatten/\∀ vs∈L,P vs:=by
   intro m
   induction m with
   | zero=>intro _; exact ⟨[],rfl,by simp [rd],fun vs q=>by cases q⟩
   | succ m ih =>
     intro hm
     obtain ⟨L,q1,q2,q3⟩:=ih (by omega)
     obtain ⟨b',o',ws,f1,⟨_,en',f2,f3⟩,f4,f5⟩:=h m (by omega)
     rw [e1] at f1
     cases f1
     have f2:H b=some en':=f2
     have he:H b=some en:=he
     rw [he] at f2
     cases f2
     have f3:rd en.cells (o+m*k) ws.length=some ws:=f3
     rw [f4] at f3
     refine ⟨L++[ws],by simp [q1],?_,fun vs hv=>?_⟩
     .rw [Nat.add_mul,Nat.one_mul,List.flatten_append]
      have:=rd_append (m*k) k o _ _ q2 f3
      simpa using this
     .rcases List.mem_append.1 hv with z | z
      .exact q3 vs z
      .rw [List.mem_singleton.1 z]; exact f5
  obtain ⟨L,q1,q2,q3⟩:=go n (Nat.le_refl _)
  exact ⟨L,q1,by rw [e1]; exact kold_some.2 ⟨en,he,q2⟩,q3⟩
section
variable {H : Type} {enc : TypeId × Value -> H} {P : Program} {w : World}
end
end Go.Ew
namespace Go.Ew
open Go.Ev Go.Deep Go.RowKit Go.ChangeShapes
theorem handed_sized {H:Type} {enc:TypeId × Value->H} {a:Assume} {C:Checked} {os:Os} {f:FuncId} {fn:Func} {s:ChangeSpec} {conds:List PathCond} {apart fresh handsOn again:Bool}
 (own:ownKnob C.prog.godebug=none) (started:os.Started) (noInit:C.prog.inits.idxOf? f=none) (hfn:C.prog.funcs[f]? = some fn)
 (witness:∃ (w:World) (tape:Tape) (i:Input),w.os=os/\(w.forCall tape i).Shaped C.prog/\i.vars=[]/\Input.okWide C.prog (w.forCall tape i) .any w.heap.size f i/\
   s.pre6 enc C.prog fn conds apart (w.forCall tape i).memory i.args/\a.holds C.prog (lone (Frame.enter C.prog f i.args .normal) [] (w.forCall tape i)))
 (contract:∀ (W:World) (base:Nat) (args:Array Value) (ds gs:List (DataW H)) (before:List MemPlace),
   (∀ (j:Nat) t v,fn.params[j]? = some t->args[j]? = some v->Value.okWide C.prog W .any base t v)->
   DataW.Whole enc C.prog fn.params.toList s.vars apart W args.toList ds gs before->
   (DataW.weightsEach C.prog (fn.params.toList++s.plain.varTypes C.prog) (ds++gs)).all (·<=reachBytes)=true->
   Calls C.prog f args W fun e W'=>∃ v,e = .returned v/\s.post enc C.prog fn apart fresh handsOn again W args v W') :
 ReturnsInHanded a C os f .any (s.pre6 enc C.prog fn conds apart) (s.post enc C.prog fn apart fresh handsOn again):=by
 have e:s.pre6 enc C.prog fn conds apart=fun w args=>(s.pre enc C.prog fn conds apart w args/\True)/\sizedMet enc C.prog fn (OpenSpec.ofChange s) apart w args:=by
  funext w args
  exact propext ⟨fun h=>⟨⟨h.1,trivial⟩,h.2⟩,fun h=>⟨h.1.1,h.2⟩⟩
 rw [e] at witness ⊢
 exact returnsInHanded_of_change_and (X:=fun _ _=>True) (fun _ _ _ _ _=>trivial) own started noInit hfn witness fun W base args ds gs before h1 h2 _ h4 _ _=>contract W base args ds gs before h1 h2 h4
section
variable {H : Type} {enc : TypeId × Value -> H} {P : Program} {w : World} {ps : List MemPlace}
structure Rd (enc:TypeId × Value->H) (P:Program) (w:World) (ps:List MemPlace) (t:TypeId) (k:Nat) (G:List Value->Prop):Prop where
 ck:P.cellsOf t=k
 rd:∀ (m:Nat) (cs:List Value) (y:DataW H × List MemPlace),cs.length=k->DataW.trod enc P w 0 (fun _=>true) true m t cs=some y->(∀ p∈y.2,p∈ps)->(∀ x∈DataW.weights P t y.1,x<=reachBytes)->∃ us:List Value,us.length=k/\(∀ (j:Nat) (c:Value),cs[j]? = some c->∃ u,us[j]? = some u/\absV w.heap.size c=some u)/\G us
theorem one_cell {cs:List Value} {c u:Value} (e:cs=[c]) (h:absV w.heap.size c=some u):∀ (j:Nat) (x:Value),cs[j]? = some x->∃ u',[u][j]? = some u'/\absV w.heap.size x=some u':=fun j x q=>by
 subst e
 match j,q with
 | 0,q=>cases q; exact ⟨u,rfl,h⟩
 | j+1,q=>simp at q
theorem rd_int {t:TypeId} {k:IntKind} (ht:P.underlying t=some (.int k)) (ct:P.cellsOf t=1):Rd enc P w ps t 1 (fun us=>∃ x,us=[.int k x]):=⟨ct,fun m cs y hl h _ _=>by
 match cs,hl with
 | [c],_ =>
   obtain ⟨n,rfl,_,_⟩:=trod_int ht h
   exact ⟨[.int k n],rfl,one_cell rfl rfl,n,rfl⟩⟩
theorem rd_bool {t:TypeId} (ht:P.underlying t=some .bool) (ct:P.cellsOf t=1):Rd enc P w ps t 1 (fun us=>∃ b,us=[.bool b]):=⟨ct,fun m cs y hl h _ _=>by
 match cs,hl with
 | [c],_ =>
   obtain ⟨b,hb,_⟩:=DataW.trod_bool ht h
   cases hb
   exact ⟨[.bool b],rfl,one_cell rfl rfl,b,rfl⟩⟩
theorem rd_str {t:TypeId} (ht:P.underlying t=some .string) (ct:P.cellsOf t=1):Rd enc P w ps t 1 (fun us=>∃ s:ByteArray,us=[.string s]/\s.size<=reachBytes):=⟨ct,fun m cs y hl h _ hw=>by
 match cs,hl with
 | [c],_ =>
   obtain ⟨s,hs,hy,_⟩:=DataW.trod_string ht h
   cases hs
   subst hy
   refine ⟨[.string s],rfl,one_cell rfl rfl,s,rfl,?_⟩
   have:=hw s.data.toList.length (by simp [DataW.weights])
   rw [Array.length_toList] at this
   exact this⟩
theorem weights_all {e:TypeId}:∀ {l:List (DataW H)} {d:DataW H},d∈l->∀ x∈DataW.weights P e d,x∈DataW.weightsAll P e l
 | d' :: l,d,h,x,hx=>by
   rw [DataW.weightsAll]
   rcases List.mem_cons.1 h with rfl | q
   .exact List.mem_append_left _ hx
   .exact List.mem_append_right _ (weights_all q x hx)
theorem weights_each:∀ {ts:List TypeId} {ds:List (DataW H)} {j:Nat} {t:TypeId} {d:DataW H},ts[j]? = some t->ds[j]? = some d->∀ x∈DataW.weights P t d,x∈DataW.weightsEach P ts ds
 | t' :: ts,d' :: ds,0,t,d,h1,h2,x,hx=>by
   cases h1; cases h2
   rw [DataW.weightsEach]
   exact List.mem_append_left _ hx
 | t' :: ts,d' :: ds,j+1,t,d,h1,h2,x,hx=>by
   rw [DataW.weightsEach]
   exact List.mem_append_right _ (weights_each (j:=j) h1 h2 x hx)
 | [],_,j,t,d,h1,_,_,_=>by simp at h1
 | _ :: _,[],j,t,d,_,h2,_,_=>by simp at h2
theorem slice_abs {k:Nat} (hk:1<=k) {a:Addr} {len cap:Nat} (hc:cap<unkU) (h:0<len->∃ cs,w.cells? 0 (a.add (0*k)) k=some cs):∃ a' c',absV w.heap.size (.slice (some a) len cap)=some (.slice a' len c')/\(0<len->a'=some a/\a.spot=none/\a.block<w.heap.size)/\(len=0->kold (KW w) k a' 0=some []):=by
 have hab:absV w.heap.size (.slice (some a) len cap)=if a.spot=none/\a.block<w.heap.size/\cap<unkU then some (.slice (some a) len cap) else if len=0 then some vague else none:=rfl
 by_cases hq:a.spot=none/\a.block<w.heap.size/\cap<unkU
 .rw [if_pos hq] at hab
  refine ⟨_,_,hab,fun _=>⟨rfl,hq.1,hq.2.1⟩,fun _=>?_⟩
  obtain ⟨b,o,sp⟩:=a
  obtain ⟨q1,q2,q3⟩:=hq
  cases q1
  have q2:b<w.heap.size:=q2
  exact kold_some.2 ⟨entW w b,by unfold KW; rw [if_pos q2],by simp [rd]⟩
 .by_cases hl:len=0
  .rw [if_neg hq,if_pos hl] at hab
   subst hl
   exact ⟨_,_,hab,fun z=>absurd z (by omega),fun _=>rfl⟩
  .exfalso
   obtain ⟨cs,h1⟩:=h (by omega)
   obtain ⟨h2,h3⟩:=cells_get h1
   match cs,h2 with
   | [],h2=>simp at h2; omega
   | x :: _,_ =>
     have z5:=h3 0 x rfl
     have z6:=cell_spot z5
     obtain ⟨b,o,sp⟩:=a
     have:sp=none:=by simpa [Addr.add] using z6
     subst this
     rw [add_addr,add_addr] at z5
     exact hq ⟨rfl,(cell_lt z5).1,hc⟩
theorem rd_any {t e:TypeId} (ht:P.underlying t=some (.slice e)) (ct:P.cellsOf t=1) (ce:1<=P.cellsOf e):Rd enc P w ps t 1 (fun us=>∃ a n c,us=[.slice a n c]):=⟨ct,fun m cs y hl h _ _=>by
 match cs,hl with
 | [c],_ =>
   rcases DataW.trod_slice ht h with ⟨h1,h2⟩ | ⟨a,len,cap,elems,rest,n,_,h1,h2,_,h3,h4,h5,h6,_⟩
   .cases h1
    exact ⟨[.slice none 0 0],rfl,one_cell rfl rfl,none,0,0,rfl⟩
   .cases h1
    have hmax:maxLen<unkU:=by decide
    obtain ⟨a',c',k1,_,_⟩:=slice_abs (w:=w) (k:=P.cellsOf e) ce (a:=a) (len:=len) (cap:=cap) (by omega) fun hp=>by
     have h7:=h6 0 hp
     rw [List.getElem?_eq_getElem (by omega)] at h7
     obtain ⟨cs,k1,k2⟩:=Option.bind_eq_some_iff.1 h7
     exact ⟨cs,k1⟩
    exact ⟨[.slice a' len c'],rfl,one_cell rfl k1,a',len,c',rfl⟩⟩
theorem rd_slice {t e:TypeId} {k:Nat} {G:List Value->Prop} (ht:P.underlying t=some (.slice e)) (ct:P.cellsOf t=1) (hE:Rd enc P w ps e k G) (hk:1<=k) (hb:1<=P.bytesOf e) (hf:w.noneFrozen ps) :
 Rd enc P w ps t 1 (fun us=>∃ a n c,∃ L:List (List Value),us=[.slice a n c]/\L.length=n/\kold (KW w) k a n=some L.flatten/\(∀ vs∈L,vs.length=k/\G vs)/\n<=reachBytes):=⟨ct,fun m cs y hl h hps hw=>by
 match cs,hl with
 | [c],_ =>
   rcases DataW.trod_slice ht h with ⟨h1,h2⟩ | ⟨a,len,cap,elems,rest,n,_,h1,h2,_,h3,h4,h5,h6,_⟩
   .cases h1
    exact ⟨[.slice none 0 0],rfl,one_cell rfl rfl,none,0,0,[],rfl,rfl,rfl,fun vs q=>(by cases q),Nat.zero_le _⟩
   .cases h1
    subst h2
    have hmax:maxLen<unkU:=by decide
    have ce:=hE.ck
    have hww:∀ x∈DataW.weights P t (DataW.slice (elems.map fun x=>x.1) (rest.map fun x=>x.1)),x<=reachBytes:=hw
    rw [DataW.weights,ht] at hww
    have elem:∀ i,i<len->∃ cs y,w.cells? 0 (a.add (i*k)) k=some cs/\DataW.trod enc P w 0 (fun _=>true) true n e cs=some y/\y∈elems:=by
     intro i hi
     have h7:=h6 i hi
     rw [List.getElem?_eq_getElem (by omega),ce] at h7
     obtain ⟨cs,k1,k2⟩:=Option.bind_eq_some_iff.1 h7
     exact ⟨cs,_,k1,k2,List.getElem_mem _⟩
    obtain ⟨a',c',k1,k2,k3⟩:=slice_abs (w:=w) (k:=k) hk (a:=a) (len:=len) (cap:=cap) (by omega) fun hp=>by
     obtain ⟨cs,_,q,_⟩:=elem 0 hp
     exact ⟨cs,q⟩
    obtain ⟨L,l1,l2,l3⟩:=rows_kold (H:=KW w) (a:=a') (n:=len) (k:=k) (P:=fun vs=>vs.length=k/\G vs) (fun z=>k3 z) fun i hi=>by
     obtain ⟨e1,e2,e3⟩:=k2 (by omega)
     subst e1
     obtain ⟨b,o,sp⟩:=a
     cases e2
     obtain ⟨cs,y,p1,p2,p3⟩:=elem i hi
     obtain ⟨p4,p5⟩:=cells_get p1
     obtain ⟨us,u1,u2,u3⟩:=hE.rd n cs y p4 p2 (fun p hp=>hps p (List.mem_append_right _ (List.mem_flatMap.2 ⟨y,by simp [p3],hp⟩))) fun x hx=>hww x (List.mem_cons_of_mem _ (List.mem_append_left _ (weights_all (List.mem_map.2 ⟨y,p3,rfl⟩) x hx)))
     have hz:∀ j,j<k->w.frozen? ⟨b,o+i*k+j,none⟩=false:=fun j hj=>by
      refine hf b (o+i*k+j) (hps _ (List.mem_append_left _ ?_))
      unfold MemPlace.row
      rw [ce]
      have h8:(i+1)*k<=len*k:=Nat.mul_le_mul_right _ hi
      rw [Nat.add_mul] at h8
      have h9:len*k<=(elems.length+rest.length)*k:=Nat.mul_le_mul_right _ (by omega)
      exact List.mem_map.2 ⟨i*k+j,by simp only [List.mem_range]; omega,by simp [Nat.add_assoc]⟩
     have one:∀ j u,us[j]? = some u->∃ en,KW w b=some en/\tget en.cells (o+i*k+j)=some u:=fun j u hu=>by
      have hj:j<us.length:=by
       rcases Nat.lt_or_ge j us.length with z | z
       .exact z
       .rw [List.getElem?_eq_none z] at hu; cases hu
      obtain ⟨u',q1,q2⟩:=u2 j _ (List.getElem?_eq_getElem (by omega:j<cs.length))
      rw [hu] at q1
      cases q1
      have w0:=p5 j _ (List.getElem?_eq_getElem (by omega:j<cs.length))
      rw [add_addr,add_addr] at w0
      exact KW_cell w0 (hz j (by omega)) q2
     obtain ⟨en,n1,_⟩:=one 0 _ (List.getElem?_eq_getElem (by omega:0<us.length))
     refine ⟨b,o,us,rfl,⟨rfl,en,n1,rd_some rfl fun j u hu=>?_⟩,u1,u1,u3⟩
     obtain ⟨en',n2,n3⟩:=one j u hu
     rw [n1] at n2
     cases n2
     exact n3
    refine ⟨[.slice a' len c'],rfl,one_cell rfl k1,a',len,c',L,rfl,l1,l2,l3,?_⟩
    have h8:=hww _ (List.mem_cons_self ..)
    have h9:(elems.length+rest.length)*1<=(elems.length+rest.length)*P.bytesOf e:=Nat.mul_le_mul_left _ hb
    simp only [List.length_map] at h8
    omega⟩
theorem rd_st3 {t:TypeId} {f0 f1 f2:Field} {G0 G1 G2:List Value->Prop} (ht:P.underlying t=some (.struct #[f0,f1,f2])) (ct:P.cellsOf t=3) (of:f0.offset=0/\f1.offset=1/\f2.offset=2) (R0:Rd enc P w ps f0.type 1 G0) (R1:Rd enc P w ps f1.type 1 G1) (R2:Rd enc P w ps f2.type 1 G2) :
 Rd enc P w ps t 3 (fun us=>∃ u0 u1 u2,us=[u0,u1,u2]/\G0 [u0]/\G1 [u1]/\G2 [u2]):=⟨ct,fun m cs y hl h hps hw=>by
 obtain ⟨xs,n,rfl,rfl,hlen,hxl,hfs⟩:=DataW.trod_struct ht h
 have hxl:xs.length=3:=hxl
 obtain ⟨o0,o1,o2⟩:=of
 match cs,hl,xs,hxl with
 | [d0,d1,d2],_,[y0,y1,y2],_ =>
   have q0:=hfs 0 f0 rfl
   have q1:=hfs 1 f1 rfl
   have q2:=hfs 2 f2 rfl
   rw [o0,R0.ck] at q0
   rw [o1,R1.ck] at q1
   rw [o2,R2.ck] at q2
   have q0:DataW.trod enc P w 0 (fun _=>true) true n f0.type [d0]=some y0:=q0
   have q1:DataW.trod enc P w 0 (fun _=>true) true n f1.type [d1]=some y1:=q1
   have q2:DataW.trod enc P w 0 (fun _=>true) true n f2.type [d2]=some y2:=q2
   have hww:∀ x∈DataW.weights P t (DataW.agg [y0.1,y1.1,y2.1]),x<=reachBytes:=hw
   rw [DataW.weights,ht] at hww
   obtain ⟨us0,a1,a2,a3⟩:=R0.rd n [d0] y0 rfl q0 (fun p hp=>hps p (by simp [hp])) fun x hx=>hww x (weights_each (j:=0) rfl rfl x hx)
   obtain ⟨us1,b1,b2,b3⟩:=R1.rd n [d1] y1 rfl q1 (fun p hp=>hps p (by simp [hp])) fun x hx=>hww x (weights_each (j:=1) rfl rfl x hx)
   obtain ⟨us2,c1,c2,c3⟩:=R2.rd n [d2] y2 rfl q2 (fun p hp=>hps p (by simp [hp])) fun x hx=>hww x (weights_each (j:=2) rfl rfl x hx)
   match us0,a1,us1,b1,us2,c1 with
   | [u0],_,[u1],_,[u2],_ =>
     refine ⟨[u0,u1,u2],rfl,fun j c q=>?_,u0,u1,u2,rfl,a3,b3,c3⟩
     match j,q with
     | 0,q=>cases q; exact a2 0 _ rfl
     | 1,q=>cases q; exact b2 0 _ rfl
     | 2,q=>cases q; exact c2 0 _ rfl
     | j+3,q=>simp at q⟩
theorem rd_st2 {t:TypeId} {f0 f1:Field} {G0 G1:List Value->Prop} (ht:P.underlying t=some (.struct #[f0,f1])) (ct:P.cellsOf t=2) (of:f0.offset=0/\f1.offset=1) (R0:Rd enc P w ps f0.type 1 G0) (R1:Rd enc P w ps f1.type 1 G1) :
 Rd enc P w ps t 2 (fun us=>∃ u0 u1,us=[u0,u1]/\G0 [u0]/\G1 [u1]):=⟨ct,fun m cs y hl h hps hw=>by
 obtain ⟨xs,n,rfl,rfl,hlen,hxl,hfs⟩:=DataW.trod_struct ht h
 have hxl:xs.length=2:=hxl
 obtain ⟨o0,o1⟩:=of
 match cs,hl,xs,hxl with
 | [d0,d1],_,[y0,y1],_ =>
   have q0:=hfs 0 f0 rfl
   have q1:=hfs 1 f1 rfl
   rw [o0,R0.ck] at q0
   rw [o1,R1.ck] at q1
   have q0:DataW.trod enc P w 0 (fun _=>true) true n f0.type [d0]=some y0:=q0
   have q1:DataW.trod enc P w 0 (fun _=>true) true n f1.type [d1]=some y1:=q1
   have hww:∀ x∈DataW.weights P t (DataW.agg [y0.1,y1.1]),x<=reachBytes:=hw
   rw [DataW.weights,ht] at hww
   obtain ⟨us0,a1,a2,a3⟩:=R0.rd n [d0] y0 rfl q0 (fun p hp=>hps p (by simp [hp])) fun x hx=>hww x (weights_each (j:=0) rfl rfl x hx)
   obtain ⟨us1,b1,b2,b3⟩:=R1.rd n [d1] y1 rfl q1 (fun p hp=>hps p (by simp [hp])) fun x hx=>hww x (weights_each (j:=1) rfl rfl x hx)
   match us0,a1,us1,b1 with
   | [u0],_,[u1],_ =>
     refine ⟨[u0,u1],rfl,fun j c q=>?_,u0,u1,rfl,a3,b3⟩
     match j,q with
     | 0,q=>cases q; exact a2 0 _ rfl
     | 1,q=>cases q; exact b2 0 _ rfl
     | j+2,q=>simp at q⟩
theorem items_of {α:Type} {f:α->List Value} {G:α->Prop}:∀ {L:List (List Value)},(∀ vs∈L,∃ x,vs=f x/\G x)->∃ l:List α,l.length=L.length/\L.flatten=l.flatMap f/\∀ x∈l,G x
 | [],_=>⟨[],rfl,rfl,fun x q=>(by cases q)⟩
 | vs :: L,h=>by
   obtain ⟨x,e,hx⟩:=h vs (List.mem_cons_self ..)
   obtain ⟨l,h1,h2,h3⟩:=items_of fun ws q=>h ws (List.mem_cons_of_mem _ q)
   refine ⟨x :: l,by simp [h1],by rw [List.flatten_cons,List.flatMap_cons,h2,e],fun z q=>?_⟩
   rcases List.mem_cons.1 q with rfl | q
   .exact hx
   .exact h3 z q
theorem trodAll_five {base:Nat} {spare:Nat->Bool} {held:Bool} {t0 t1 t2 t3 t4:TypeId} {args:Array Value} {ds:List (DataW H)} {ps:List MemPlace} (h:DataW.TrodAll enc P w base spare held [t0,t1,t2,t3,t4] args.toList ds ps) :
 ∃ v0 v1 v2 v3 v4 d0 d1 d2 d3 d4 p0 p1 p2 p3 p4,args = #[v0,v1,v2,v3,v4]/\ds=[d0,d1,d2,d3,d4]/\ps=p0++p1++p2++p3++p4/\DataW.Trod enc P w base spare held t0 v0 d0 p0/\DataW.Trod enc P w base spare held t1 v1 d1 p1/\DataW.Trod enc P w base spare held t2 v2 d2 p2/\DataW.Trod enc P w base spare held t3 v3 d3 p3/\DataW.Trod enc P w base spare held t4 v4 d4 p4:=by
 obtain ⟨v0,vs0,d0,ds0,p0,q0,hargs,rfl,rfl,k0,r0⟩:=trodAll_cons h
 obtain ⟨v1,vs1,d1,ds1,p1,q1,rfl,rfl,rfl,k1,r1⟩:=trodAll_cons r0
 obtain ⟨v2,vs2,d2,ds2,p2,q2,rfl,rfl,rfl,k2,r2⟩:=trodAll_cons r1
 obtain ⟨v3,vs3,d3,ds3,p3,q3,rfl,rfl,rfl,k3,r3⟩:=trodAll_cons r2
 obtain ⟨v4,vs4,d4,ds4,p4,q4,rfl,rfl,rfl,k4,r4⟩:=trodAll_cons r3
 obtain ⟨rfl,rfl,rfl⟩:=trodAll_nil r4
 refine ⟨v0,v1,v2,v3,v4,d0,d1,d2,d3,d4,p0,p1,p2,p3,p4,Array.toList_inj.1 hargs,rfl,?_,k0,k1,k2,k3,k4⟩
 simp [List.append_assoc]
end
end Go.Ew
namespace Go.Ew
open Go.Ev Go.Deep Go.RowKit
def GStr (us:List Value):Prop:=∃ s:ByteArray,us=[.string s]/\s.size<=reachBytes
def GRow (w:World) (k:Nat) (G:List Value->Prop) (us:List Value):Prop:=∃ a n c,∃ L:List (List Value),us=[.slice a n c]/\L.length=n/\kold (KW w) k a n=some L.flatten/\(∀ vs∈L,vs.length=k/\G vs)/\n<=reachBytes
def GTok (us:List Value):Prop:=∃ u0 u1 u2,us=[u0,u1,u2]/\GStr [u0]/\GStr [u1]/\∃ b,[u2]=[.bool b]
def GNt (w:World) (us:List Value):Prop:=∃ u0 u1 u2,us=[u0,u1,u2]/\GStr [u0]/\GRow w 1 GStr [u1]/\GRow w 1 GStr [u2]
def GSy (us:List Value):Prop:=∃ u0 u1,us=[u0,u1]/\(∃ b,[u0]=[.bool b])/\∃ x,[u1]=[.int .i64 x]
def GPr (w:World) (us:List Value):Prop:=∃ u0 u1 u2,us=[u0,u1,u2]/\(∃ x,[u0]=[.int .i64 x])/\GRow w 2 GSy [u1]/\∃ a n c,[u2]=[.slice a n c]
def GGm (w:World) (us:List Value):Prop:=∃ u0 u1 u2,us=[u0,u1,u2]/\GRow w 3 GTok [u0]/\GRow w 3 (GNt w) [u1]/\GRow w 3 (GPr w) [u2]
theorem strs_of {w:World} {u:Value} (h:GRow w 1 GStr [u]):∃ a c,∃ l:List ByteArray,u = .slice a l.length c/\kold (KW w) 1 a l.length=some (sC l)/\l.length<=140737488355328/\∀ s∈l,s.size<=140737488355328:=by
 obtain ⟨a,n,c,L,e,h1,h2,h3,h4⟩:=h
 cases e
 obtain ⟨l,l1,l2,l3⟩:=items_of (f:=fun s=>[.string s]) (G:=fun s:ByteArray=>s.size<=140737488355328) fun vs q=>by
  obtain ⟨_,s,e,hs⟩:=h3 vs q
  exact ⟨s,e,Nat.le_trans hs (by decide)⟩
 have e:n=l.length:=by omega
 subst e
 exact ⟨a,c,l,rfl,by rw [h2,l2]; rfl,Nat.le_trans h4 (by decide),l3⟩
theorem syms_of {w:World} {u:Value} (h:GRow w 2 GSy [u]):∃ a c,∃ l:List Sy,u = .slice a l.length c/\kold (KW w) 2 a l.length=some (syC l)/\l.length<=140737488355328:=by
 obtain ⟨a,n,c,L,e,h1,h2,h3,h4⟩:=h
 cases e
 obtain ⟨l,l1,l2,l3⟩:=items_of (f:=fun s:Sy=>[.bool s.tok,.int .i64 s.pos]) (G:=fun _=>True) fun vs q=>by
  obtain ⟨_,u0,u1,rfl,⟨b,e0⟩,x,e1⟩:=h3 vs q
  cases e0; cases e1
  exact ⟨⟨b,x⟩,rfl,trivial⟩
 have e:n=l.length:=by omega
 subst e
 exact ⟨a,c,l,rfl,by rw [h2,l2]; rfl,Nat.le_trans h4 (by decide)⟩
theorem gram_of {w:World} {us:List Value} (h:GGm w us):∃ g:Gm,us=[.slice g.ta g.toks.length g.tc,.slice g.na g.nts.length g.nc,.slice g.pa g.prods.length g.pc]/\GI (KW w) g/\Fit g:=by
 obtain ⟨u0,u1,u2,rfl,⟨a0,n0,c0,L0,e0,p1,p2,p3,p4⟩,⟨a1,n1,c1,L1,e1,q1,q2,q3,q4⟩,⟨a2,n2,c2,L2,e2,r1,r2,r3,r4⟩⟩:=h
 cases e0; cases e1; cases e2
 obtain ⟨T,t1,t2,t3⟩:=items_of (f:=fun t:Tk=>[.string t.name,.string t.rex,.bool t.skip]) (G:=fun t:Tk=>t.name.size<=140737488355328) fun vs q=>by
  obtain ⟨_,u0,u1,u2,rfl,⟨s,e0,hs⟩,⟨s',e1,_⟩,b,e2⟩:=p3 vs q
  cases e0; cases e1; cases e2
  exact ⟨⟨s,s',b⟩,rfl,Nat.le_trans hs (by decide)⟩
 obtain ⟨N,k1,k2,k3⟩:=items_of (f:=fun x:Nt=>[.string x.name,.slice x.ia x.inh.length x.ic,.slice x.sa x.syn.length x.sc]) (G:=fun x:Nt=>(kold (KW w) 1 x.ia x.inh.length=some (sC x.inh)/\kold (KW w) 1 x.sa x.syn.length=some (sC x.syn))/\x.name.size<=140737488355328/\x.inh.length<=140737488355328/\x.syn.length<=140737488355328/\(∀ s∈x.inh,s.size<=140737488355328)/\∀ s∈x.syn,s.size<=140737488355328) fun vs q=>by
  obtain ⟨_,u0,u1,u2,rfl,⟨s,e0,hs⟩,h1,h2⟩:=q3 vs q
  cases e0
  obtain ⟨a,c,l,rfl,i1,i2,i3⟩:=strs_of h1
  obtain ⟨a',c',l',rfl,j1,j2,j3⟩:=strs_of h2
  exact ⟨⟨s,a,c,l,a',c',l'⟩,rfl,⟨i1,j1⟩,Nat.le_trans hs (by decide),i2,j2,i3,j3⟩
 obtain ⟨M,m1,m2,m3⟩:=items_of (f:=fun x:Pr=>[.int .i64 x.left,.slice x.ra x.right.length x.rc,.slice x.ua x.un x.uc]) (G:=fun x:Pr=>kold (KW w) 2 x.ra x.right.length=some (syC x.right)/\x.right.length<=140737488355328) fun vs q=>by
  obtain ⟨_,u0,u1,u2,rfl,⟨x,e0⟩,h1,a,n,c,e2⟩:=r3 vs q
  cases e0; cases e2
  obtain ⟨a',c',l,rfl,i1,i2⟩:=syms_of h1
  exact ⟨⟨x,a',c',l,a,n,c⟩,rfl,i1,i2⟩
 have f0:n0=T.length:=by omega
 have f1:n1=N.length:=by omega
 have f2:n2=M.length:=by omega
 subst f0 f1 f2
 refine ⟨⟨a0,c0,T,a1,c1,N,a2,c2,M⟩,rfl,⟨by rw [p2,t2]; rfl,by rw [q2,k2]; rfl,by rw [r2,m2]; rfl,fun i hi=>(k3 _ (List.getElem_mem hi)).1,fun i hi=>(m3 _ (List.getElem_mem hi)).1⟩,Nat.le_trans p4 (by decide),Nat.le_trans q4 (by decide),Nat.le_trans r4 (by decide),fun i hi=>t3 _ (List.getElem_mem hi),fun i hi=>(k3 _ (List.getElem_mem hi)).2,fun i hi=>(m3 _ (List.getElem_mem hi)).2⟩
section
variable {H : Type} {enc : TypeId × Value -> H} {P : Program} {w : World}
theorem arg_gram {t:TypeId} {v:Value} {d:DataW H} {ps:List MemPlace} (R:Rd enc P w ps t 3 (GGm w)) (h:DataW.Trod enc P w 0 (fun _=>true) true t v d ps) (hw:∀ x∈DataW.weights P t d,x<=reachBytes) (hv:∃ cs,v = .agg cs/\cs.size=P.cellsOf t):∃ g:Gm,GI (KW w) g/\Fit g/\W (thW w.heap.size) (gv g) v:=by
 obtain ⟨cs,rfl,hc⟩:=hv
 obtain ⟨m,hm⟩:=h
 rw [R.ck] at hc
 have hc:cs.toList.length=3:=by rw [Array.length_toList]; exact hc
 obtain ⟨us,u1,u2,u3⟩:=R.rd m cs.toList _ hc hm (fun p hp=>hp) hw
 obtain ⟨g,rfl,gi,fit⟩:=gram_of u3
 refine ⟨g,gi,fit,cs.toList,by simp,?_⟩
 match h:cs.toList,hc with
 | [d0,d1,d2],_ =>
   rw [h] at u2
   obtain ⟨x0,e0,a0⟩:=u2 0 d0 rfl
   obtain ⟨x1,e1,a1⟩:=u2 1 d1 rfl
   obtain ⟨x2,e2,a2⟩:=u2 2 d2 rfl
   cases e0; cases e1; cases e2
   exact ⟨absV_S a0,absV_S a1,absV_S a2,trivial⟩
end
end Go.Ew
